/-
  LAYER 3 (crc): Mask, Unmask, and the reference's.
-/
import Derived.Test.YtilbccjgaaembaaRExt
namespace Go.Proofs.Ytilbccjgaaembaa
set_option maxRecDepth 100000
open Go.RowKit Go.Lib

theorem rotR_or (c : Nat) (h : c < 4294967296) : bits .or .u32 ((c : Int) * 131072 % 4294967296) ((c : Int) / 32768) = ((rotR c : Nat) : Int) := by
  have e1 : (c : Int) * 131072 % 4294967296 = ((c % 32768 * 131072 : Nat) : Int) := by omega
  have e2 : (c : Int) / 32768 = ((c / 32768 : Nat) : Int) := by omega
  rw [e1, e2, u32_or_nat _ _ (by omega) (by omega)]
  unfold rotR
  rw [Nat.mul_comm (c % 32768) 131072, show (131072 : Nat) = 2 ^ 17 from rfl, ← Nat.two_pow_add_eq_or_of_lt (by omega)]
  congr 1; omega
theorem rotL_or (c : Nat) (h : c < 4294967296) : bits .or .u32 ((c : Int) * 32768 % 4294967296) ((c : Int) / 131072) = ((rotL c : Nat) : Int) := by
  have e1 : (c : Int) * 32768 % 4294967296 = ((c % 131072 * 32768 : Nat) : Int) := by omega
  have e2 : (c : Int) / 131072 = ((c / 131072 : Nat) : Int) := by omega
  rw [e1, e2, u32_or_nat _ _ (by omega) (by omega)]
  unfold rotL
  rw [Nat.mul_comm (c % 131072) 32768, show (32768 : Nat) = 2 ^ 15 from rfl, ← Nat.two_pow_add_eq_or_of_lt (by omega)]

theorem ret_num {k : IntKind} {a b : Int} (h : a = b) : Ending.returned (.int k a) = .returned (.int k b) := by rw [h]

theorem and17 : bits .and .u64 (IntKind.u64.wrap (-15)) 31 = 17 := by
  rw [show IntKind.u64.wrap (-15) = ((18446744073709551601 : Nat) : Int) from rfl, show (31 : Int) = ((31 : Nat) : Int) from rfl, u64_and_nat _ _ (by decide) (by decide)]
  rfl
theorem and15 : bits .and .u64 15 31 = 15 := by
  rw [show (15 : Int) = ((15 : Nat) : Int) from rfl, show (31 : Int) = ((31 : Nat) : Int) from rfl, u64_and_nat _ _ (by decide) (by decide)]
  rfl

set_option maxHeartbeats 4000000 in
theorem rotR_any (c : Nat) (h : c < 4294967296) (w : World) :
    Calls Try.prog 93 #[.int .u32 (c : Int), .int .i64 (-15)] w fun e w' => e = .returned (.int .u32 ((rotR c : Nat) : Int)) ∧ w = w' := by
  have h1 := rotR_or c h
  have h2 := and17
  generalize rotR c = r at h1 ⊢
  go_enter Try.func93, Try.ntmps93
  go_wp2
  go_ret
  exact ⟨rfl, rfl⟩
set_option maxHeartbeats 4000000 in
theorem rotL_any (c : Nat) (h : c < 4294967296) (w : World) :
    Calls Try.prog 93 #[.int .u32 (c : Int), .int .i64 15] w fun e w' => e = .returned (.int .u32 ((rotL c : Nat) : Int)) ∧ w = w' := by
  have h1 := rotL_or c h
  have h2 := and15
  generalize rotL c = r at h1 ⊢
  go_enter Try.func93, Try.ntmps93
  go_wp2
  go_ret
  exact ⟨rfl, rfl⟩

theorem Mask_any (s : Nat) (h : s < 4294967296) (w : World) :
    Calls Try.prog 56 #[.int .u32 (s : Int)] w fun e w' => e = .returned (.int .u32 ((mask s : Nat) : Int)) ∧ w = w' := by
  have hR := rotR_any s h w
  have hE := Lib.hid (show mask s = (rotR s + 0xA282EAD8) % 4294967296 from rfl)
  have hl := rotR_lt h
  generalize mask s = m at hE ⊢
  generalize rotR s = r at hE hR hl
  go_enter Try.func56, Try.ntmps56
  go_wp2_with (go_at_call 93; refine hR.mono ?_; rintro e w2 ⟨rfl, rfl⟩)
  go_ret
  exact ⟨by rw [hE.out]; simp, rfl⟩
theorem Unmask_any (s : Nat) (h : s < 4294967296) (w : World) :
    Calls Try.prog 58 #[.int .u32 (s : Int)] w fun e w' => e = .returned (.int .u32 ((unmask s : Nat) : Int)) ∧ w = w' := by
  have hR := rotL_any ((s + 4294967296 - 0xA282EAD8) % 4294967296) (Nat.mod_lt _ (by decide)) w
  have hE := Lib.hid (show unmask s = rotL ((s + 4294967296 - 0xA282EAD8) % 4294967296) from rfl)
  have hz : ((s : Int) - 2726488792) % 4294967296 = (((s + 4294967296 - 0xA282EAD8) % 4294967296 : Nat) : Int) := by omega
  generalize unmask s = m at hE ⊢
  generalize (s + 4294967296 - 0xA282EAD8) % 4294967296 = z at hE hR hz
  generalize rotL z = r at hE hR
  go_enter Try.func58, Try.ntmps58
  go_wp2_with (go_at_call 93; refine hR.mono ?_; rintro e w2 ⟨rfl, rfl⟩)
  go_ret
  exact ⟨by rw [hE.out]; rfl, rfl⟩
theorem refMask_any (s : Nat) (h : s < 4294967296) (w : World) :
    Calls Try.prog 57 #[.int .u32 (s : Int)] w fun e w' => e = .returned (.int .u32 ((mask s : Nat) : Int)) ∧ w = w' := by
  have hE := Lib.hid (show mask s = (rotR s + 0xA282EAD8) % 4294967296 from rfl)
  have hm : ((s : Int) / 32768 + (s : Int) * 131072 % 4294967296 + 2726488792) % 4294967296 = ((mask s : Nat) : Int) := by unfold mask rotR; omega
  generalize mask s = m at hm ⊢
  clear hE
  go_enter Try.func57, Try.ntmps57
  go_wp2
  go_ret
  exact ⟨ret_num hm, rfl⟩
end Go.Proofs.Ytilbccjgaaembaa
