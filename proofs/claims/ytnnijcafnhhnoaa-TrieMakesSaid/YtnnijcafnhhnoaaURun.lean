
/-
  LAYER 4 (utf), plain: the forms of a text, one behind the other, up to the first that is none.
-/
import Derived.Test.YtnnijcafnhhnoaaUPure
namespace Go.Proofs.Ytnnijcafnhhnoaa.U
set_option maxRecDepth 100000

def rsN : Nat → List UInt8 → List (Nat × Nat)
  | 0, _ => []
  | f + 1, l => match dec l with
    | none => []
    | some (r, n) => (r, n) :: rsN f (l.drop n)
/-- The scalars from the front, with the lengths of their forms. -/
def rs (l : List UInt8) : List (Nat × Nat) := rsN l.length l
/-- How many bytes they take. -/
def tot (l : List UInt8) : Nat := ((rs l).map (·.2)).sum

theorem dec_nil : dec [] = none := rfl
theorem rsN_fuel : ∀ (f g : Nat) (l : List UInt8), l.length ≤ f → l.length ≤ g → rsN f l = rsN g l
  | 0, 0, _, _, _ => rfl
  | 0, g + 1, l, h, _ => by
    obtain rfl : l = [] := List.length_eq_zero_iff.1 (by omega)
    rw [rsN, rsN, dec_nil]
  | f + 1, 0, l, _, h => by
    obtain rfl : l = [] := List.length_eq_zero_iff.1 (by omega)
    rw [rsN, rsN, dec_nil]
  | f + 1, g + 1, l, h1, h2 => by
    rw [rsN, rsN]
    cases h : dec l with
    | none => rfl
    | some x =>
      obtain ⟨r, n⟩ := x
      have := dec_some h
      simp only
      rw [rsN_fuel f g (l.drop n) (by simp; omega) (by simp; omega)]
theorem rs_none {l : List UInt8} (h : dec l = none) : rs l = [] := by
  unfold rs
  cases hl : l.length with
  | zero => rfl
  | succ k => rw [rsN, h]
theorem rs_some {l : List UInt8} {r n : Nat} (h : dec l = some (r, n)) : rs l = (r, n) :: rs (l.drop n) := by
  have h1 := dec_some h
  unfold rs
  obtain ⟨k, hk⟩ : ∃ k, l.length = k + 1 := ⟨l.length - 1, by omega⟩
  rw [hk, rsN, h]
  simp only
  rw [rsN_fuel k (l.drop n).length (l.drop n) (by simp; omega) (by simp)]
theorem tot_none {l : List UInt8} (h : dec l = none) : tot l = 0 := by rw [tot, rs_none h]; rfl
theorem tot_some {l : List UInt8} {r n : Nat} (h : dec l = some (r, n)) : tot l = n + tot (l.drop n) := by rw [tot, rs_some h]; simp [tot]
theorem tot_le : ∀ (k : Nat) (l : List UInt8), l.length ≤ k → tot l ≤ l.length
  | 0, l, h => by
    obtain rfl : l = [] := List.length_eq_zero_iff.1 (by omega)
    simp [tot, rs, rsN]
  | k + 1, l, h => by
    cases hd : dec l with
    | none => rw [tot_none hd]; omega
    | some x =>
      obtain ⟨r, n⟩ := x
      have h1 := dec_some hd
      rw [tot_some hd]
      have := tot_le k (l.drop n) (by simp; omega)
      simp at this
      omega
theorem tot_length (l : List UInt8) : tot l ≤ l.length := tot_le _ l (Nat.le_refl _)
theorem tot_nil : tot [] = 0 := rfl
end Go.Proofs.Ytnnijcafnhhnoaa.U
