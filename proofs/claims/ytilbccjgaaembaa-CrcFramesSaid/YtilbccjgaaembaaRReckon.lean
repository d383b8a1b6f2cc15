/-
  LAYER 3 (crc): reckon: the table's numbers.
-/
import Derived.Test.YtilbccjgaaembaaRTab
import Derived.Laws.BitsAllLaws
import Derived.Laws.LoneSync
import Derived.LoopTactic
import Derived.Lib.Hide
namespace Go.Proofs.Ytilbccjgaaembaa
set_option maxRecDepth 100000
open Go.RowKit Go.Lib

theorem rnds_succ (j c : Nat) : rnds (j + 1) c = rnd (rnds j c) := rnds_add j 1 c
theorem and_one (c : Nat) (h : c < 4294967296) : bits .and .u32 (c : Int) 1 = ((c % 2 : Nat) : Int) := by
  rw [show (1 : Int) = ((1 : Nat) : Int) from rfl, u32_and_nat c 1 h (by decide), Nat.and_one_is_mod]

theorem xor_poly (c : Nat) (h : c < 4294967296) : bits .xor .u32 ((c : Int) / 2) 2197175160 = ((c / 2 ^^^ 0x82F63B78 : Nat) : Int) := by
  rw [show ((c : Int) / 2) = ((c / 2 : Nat) : Int) by omega, show (2197175160 : Int) = ((2197175160 : Nat) : Int) from rfl, u32_xor_nat (c / 2) 2197175160 (by omega) (by decide)]

set_option maxHeartbeats 4000000 in
theorem reckon_any (t : Nat) (d s k : Int) (f : Nat → Nat) (w : World) (hT : Tab w t true d s k f) :
    Calls Try.prog 106 #[.pointer (some ⟨t, 0, none⟩)] w fun e w' => e = .returned (.tuple #[]) ∧ w.grownBy w' (some t) ∧ Tab w' t true d s (wrap64 (k + 1)) (rnds 8) := by
  go_enter Try.func106, Try.ntmps106
  go_wp2
  go_loopw [5] (fun vi wr => ∃ i : Nat, i ≤ 256 ∧ vi = .int .i64 (i : Int) ∧ w.grownBy wr (some t) ∧ Tab wr t true d s k (fun j => if j < i then rnds 8 j else f j)) (fun vi _ => 256 - (RowKit.intOf vi).toNat)
  case atStart => exact ⟨0, by omega, rfl, World.grownBy.refl _ _, hT.same (by intros; rfl)⟩
  case round =>
    clear hT
    obtain ⟨i, hi, rfl, hg, hT⟩ := hrel
    by_cases hlt : i < 256
    · go_wp2
      go_loop [3, 10] (fun n c => ∃ j : Nat, j ≤ 8 ∧ c = .int .i64 (j : Int) ∧ n = .int .u32 ((rnds j i : Nat) : Int)) (fun _ c => 8 - (RowKit.intOf c).toNat)
      case atStart => exact ⟨0, by omega, rfl, by simp [rnds]⟩
      case round =>
        obtain ⟨j, hj, rfl, rfl⟩ := hrel
        by_cases hj8 : j < 8
        · have hs := Lib.hid (rnds_succ j i)
          have hl := rnds_lt j (show i < 4294967296 by omega)
          generalize rnds j i = c at hs hl ⊢
          have ha := and_one c hl
          by_cases ho : c % 2 = 1
          · rw [ho] at ha
            go_wp2
            refine ⟨⟨j + 1, by omega, by go_num, ?_⟩, by simp [intOf]; omega⟩
            rw [hs.out, xor_poly c hl]
            unfold rnd
            rw [if_pos ho]
          · have ho' : c % 2 = 0 := by omega
            rw [ho'] at ha
            go_wp2
            refine ⟨⟨j + 1, by omega, by go_num, ?_⟩, by simp [intOf]; omega⟩
            rw [hs.out]
            unfold rnd
            rw [if_neg ho]
            simp
        · have hj : j = 8 := by omega
          subst hj
          have hc := hT.num hlt
          have hf := hT.free (5 + i)
          go_wp2
          have hT' := hT.setNum hlt (rnds 8 i)
          refine ⟨⟨i + 1, by omega, by go_num, gset hg _ _, hT'.same fun j hj => ?_⟩, by simp [intOf]; omega⟩
          by_cases e : j = i
          · subst e; simp
          · simp [e, show j < i + 1 ↔ j < i by omega]
    · have hi : i = 256 := by omega
      subst hi
      have hc := hT.times
      have hf := hT.free 4
      have hadd := run_call_add (P := Try.prog) Try.func115 (by kernel_rfl) (by kernel_rfl) (by kernel_rfl) .i64 (by kernel_rfl) (y := 1) (s := IntKind.i64.wrap (k + 1)) hc hf (by simp [go_sem])
      go_wp2
      go_end0
      exact ⟨rfl, gset hg _ _, (hT.setTimes _).same fun j hj => (if_pos hj).symm⟩
end Go.Proofs.Ytilbccjgaaembaa
