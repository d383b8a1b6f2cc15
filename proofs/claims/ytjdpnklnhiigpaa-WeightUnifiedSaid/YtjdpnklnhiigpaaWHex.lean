/-
  LAYER 7 (weight): hexadecimal digits, plain; the constant text of digits; digit, hasDigits.
-/
import Derived.Test.YtjdpnklnhiigpaaWLeaf
import Derived.Laws.Strings
import Derived.Laws.RangeAny
import Derived.Laws.Cover4
import Derived.Laws.IdiomStrings
namespace Go.Proofs.Ytjdpnklnhiigpaa
set_option maxRecDepth 100000
open Go.RowKit Go.Lib
attribute [local go_sem] Oper.semAt_some

def hexB : ByteArray := ⟨#[48, 49, 50, 51, 52, 53, 54, 55, 56, 57, 65, 66, 67, 68, 69, 70]⟩
theorem hexB_size : hexB.size = 16 := by decide +kernel
/-- The digit of a number from 0 to 15. -/
def hx (i : Nat) : UInt8 := (hexB[i]?).getD 0
/-- What a byte stands for; 0 of what is no digit. -/
def dv (c : UInt8) : Nat := if 48 ≤ c.toNat ∧ c.toNat ≤ 57 then c.toNat - 48 else if 65 ≤ c.toNat ∧ c.toNat ≤ 70 then c.toNat - 55 else 0
def isDig (c : UInt8) : Bool := (decide (48 ≤ c.toNat) && decide (c.toNat ≤ 57)) || (decide (65 ≤ c.toNat) && decide (c.toNat ≤ 70))

theorem hx_dvF : ∀ n : Fin 256, (hx (dv (UInt8.ofNat n.val)) = UInt8.ofNat n.val ↔ isDig (UInt8.ofNat n.val) = true) ∧ dv (UInt8.ofNat n.val) < 16 := by decide +kernel
theorem hx_dv (c : UInt8) : (hx (dv c) = c ↔ isDig c = true) ∧ dv c < 16 := by
  have h := hx_dvF ⟨c.toNat, c.toNat_lt⟩
  simpa using h
theorem dv_hx : ∀ i : Fin 16, dv (hx i.val) = i.val ∧ isDig (hx i.val) = true ∧ (hx i.val).toNat < 128 := by decide +kernel
theorem dv_of_hx (c : UInt8) (k : Nat) (hk : k < 16) (h : hx k = c) : dv c = k := by have := (dv_hx ⟨k, hk⟩).1; rw [← h]; exact this
theorem dv_none (c : UInt8) (h : ∀ k, k < 16 → hx k ≠ c) : dv c = 0 := by
  by_cases hd : isDig c = true
  · exact absurd (((hx_dv c).1).2 hd) (h _ (hx_dv c).2)
  · unfold isDig at hd
    unfold dv
    simp at hd
    split
    · omega
    · split <;> omega
theorem hexB_decode : ∀ k : Fin 16, Utf8.decode hexB k.val = ((hx k.val).toNat, 1) := by decide +kernel

@[go_sem high] theorem fold_hexB : (⟨#[48, 49, 50, 51, 52, 53, 54, 55, 56, 57, 65, 66, 67, 68, 69, 70]⟩ : ByteArray) = hexB := rfl
theorem run_index_hexB {P : Program} (w : World) (t : TypeId) (k : IntKind) (i : Nat) (h : P.underlying t = some .string) (h1 : i < 16) :
    (Instr.index t (.string hexB) (.int k (i : Int))).run P w = .ok (.int .u8 ((hx i).toNat : Int)) w := by
  have hi : 0 ≤ (i : Int) ∧ (i : Int) < (hexB.size : Int) := by rw [hexB_size]; omega
  have h2 : i < hexB.size := by rw [hexB_size]; omega
  rw [run_index_string w t hexB k i h, dif_pos hi]
  simp only [hx, Int.toNat_natCast, ByteArray.getElem?_lt' _ _ h2, Option.getD_some]

set_option maxHeartbeats 2000000 in
theorem digit_any (c : UInt8) (w : World) : Calls Try.prog 34 #[.int .u8 (c.toNat : Int)] w fun e w' => e = .returned (.int .i64 (dv c : Int)) ∧ w.grownBy w' none := by
  obtain ⟨N, hN⟩ : ∃ N, N = dv c := ⟨_, rfl⟩
  rw [← hN]
  replace hN := Lib.hid hN
  have hlt := c.toNat_lt
  obtain ⟨C, hC⟩ : ∃ C : Nat, C = c.toNat := ⟨_, rfl⟩
  rw [← hC] at hlt ⊢
  replace hC := Lib.hid hC
  go_enter Try.func34, Try.ntmps34
  go_wp2
  go_loopw [3, 4] (fun _ _ wr => ∃ pos : Nat, wr = w.iter hexB pos ∧ pos ≤ 16 ∧ Hid (∀ k, k < pos → hx k ≠ c)) (fun _ _ wr => 16 - wr.iterPos w.heap.size)
  case atStart => exact ⟨0, rfl, by omega, Lib.hid (fun k h => by omega)⟩
  case round =>
    obtain ⟨pos, rfl, hp, hH⟩ := hrel
    by_cases hlt2 : pos < 16
    · have hnx : ∀ ty, (Instr.next (.pointer (some ⟨w.heap.size, 0, none⟩)) true ty).run Try.prog (w.iter hexB pos) = _ := fun ty => run_next_any w hexB pos ty (by rw [hexB_size]; exact hlt2)
      have hd := hexB_decode ⟨pos, hlt2⟩
      dsimp only at hd
      rw [hd] at hnx
      clear hd
      obtain ⟨D, hD⟩ : ∃ D : Nat, D = (hx pos).toNat := ⟨_, rfl⟩
      rw [← hD] at hnx
      replace hD := Lib.hid hD
      dsimp only at hnx
      by_cases he : D = C
      · subst he
        go_wp2
        go_ret
        refine ⟨?_, World.grownBy_alloc w _ none⟩
        rw [hN.out, dv_of_hx c pos hlt2 (UInt8.toNat_inj.1 (by rw [← hD.out, ← hC.out]))]
        simp
      · have he' : ((D : Int) == (C : Int)) = false := by simp; omega
        go_wp2
        go_roundw
        case rel => exact ⟨pos + 1, rfl, by omega, Lib.hid (fun k hk e => by
          rcases Nat.lt_or_ge k pos with h | h
          · exact hH.out k h e
          · obtain rfl : k = pos := by omega
            exact he (by rw [hD.out, hC.out, e]))⟩
        case measure => simp; omega
    · have hnx : ∀ ty, (Instr.next (.pointer (some ⟨w.heap.size, 0, none⟩)) true ty).run Try.prog (w.iter hexB pos) = _ := fun ty => run_next_end w hexB pos ty (by rw [hexB_size]; exact hlt2)
      obtain rfl : pos = 16 := by omega
      have h0 := dv_none c hH.out
      rw [h0] at hN
      go_wp2
      go_ret
      exact ⟨by rw [hN.out]; rfl, World.grownBy_alloc w _ none⟩

theorem hasDigits_any (x : Int) (w : World) : Calls Try.prog 25 #[.int .i64 x] w fun e w' => e = .returned (.bool (decide (0 ≤ x) && decide (x ≤ 65535))) ∧ w = w' := by
  by_cases h1 : 0 ≤ x
  all_goals by_cases h2 : x ≤ 65535
  all_goals (try omega)
  all_goals
    go_enter Try.func25, Try.ntmps25
    go_wp2
    go_ret
    simp [*]
end Go.Proofs.Ytjdpnklnhiigpaa
