/-
  LAYER 4 (utf), plain: scalars with their places and widths.
-/
import Derived.Test.YtmpipgjdnpgemaaURun
namespace Go.Proofs.Ytmpipgjdnpgemaa
set_option maxRecDepth 100000

/-- place, scalar, width. -/
abbrev Told := Nat × Nat × Nat
def places : Nat → List (Nat × Nat) → List Told
  | _, [] => []
  | k, (r, n) :: t => (k, r, n) :: places (k + n) t
def pls (l : List UInt8) : List Told := places 0 (rs l)
def wsum (l : List Told) : Nat := (l.map (·.2.2)).sum

theorem places_some {l : List UInt8} {k r n : Nat} (h : dec (l.drop k) = some (r, n)) : places k (rs (l.drop k)) = (k, r, n) :: places (k + n) (rs (l.drop (k + n))) := by
  rw [rs_some h, places, List.drop_drop]
theorem places_none {l : List UInt8} {k : Nat} (h : dec (l.drop k) = none) : places k (rs (l.drop k)) = [] := by
  rw [rs_none h, places]
theorem places_sum : ∀ (k : Nat) (t : List (Nat × Nat)), wsum (places k t) = (t.map (·.2)).sum
  | _, [] => rfl
  | k, (r, n) :: t => by
    have := places_sum (k + n) t
    simp [places, wsum] at this ⊢
    exact this
theorem pls_sum (l : List UInt8) : wsum (pls l) = tot l := places_sum 0 (rs l)
theorem wsum_append (a b : List Told) : wsum (a ++ b) = wsum a + wsum b := by simp [wsum]
/-- The place of what comes next is how much was told. -/
theorem place_at : ∀ (k : Nat) (t : List (Nat × Nat)) (pre : List Told) (x : Told) (post : List Told), places k t = pre ++ x :: post → x.1 = k + wsum pre
  | k, [], [], _, _, h => by simp [places] at h
  | k, [], _ :: _, _, _, h => by simp [places] at h
  | k, (r, n) :: t, [], x, post, h => by
    simp [places] at h
    rw [← h.1]
    simp [wsum]
  | k, (r, n) :: t, y :: pre, x, post, h => by
    simp [places] at h
    have := place_at (k + n) t pre x post h.2
    rw [this, ← h.1]
    simp [wsum]
    omega
theorem get_split {α : Type} {l : List α} {i : Nat} {x : α} (h : l[i]? = some x) : l = l.take i ++ x :: l.drop (i + 1) := by
  have hi := (List.getElem?_eq_some_iff.1 h).1
  have := List.take_append_drop i l
  rw [List.drop_eq_getElem_cons hi, (List.getElem?_eq_some_iff.1 h).2] at this
  exact this.symm
/-- What is told at a place is the scalar whose form stands there. -/
theorem told_dec : ∀ (f k : Nat) (l : List UInt8) (i : Nat) (x : Told), l.length - k ≤ f → (places k (rs (l.drop k)))[i]? = some x → dec (l.drop x.1) = some (x.2.1, x.2.2) ∧ k ≤ x.1
  | f, k, l, i, x, hf, h => by
    cases hd : dec (l.drop k) with
    | none => rw [places_none hd] at h; simp at h
    | some y =>
      obtain ⟨r, n⟩ := y
      have hs := dec_some hd
      simp only [List.length_drop] at hs
      rw [places_some hd] at h
      cases i with
      | zero =>
        simp at h
        subst h
        exact ⟨hd, Nat.le_refl _⟩
      | succ j =>
        simp only [List.getElem?_cons_succ] at h
        cases f with
        | zero => omega
        | succ f =>
          obtain ⟨q1, q2⟩ := told_dec f (k + n) l j x (by omega) h
          exact ⟨q1, by omega⟩

/-- Behind all that is told no form stands. -/
theorem end_none : ∀ (f : Nat) (l : List UInt8), l.length ≤ f → dec (l.drop (tot l)) = none
  | f, l, h => by
    cases hd : dec l with
    | none => rw [tot_none hd, List.drop_zero]; exact hd
    | some x =>
      obtain ⟨r, n⟩ := x
      have hs := dec_some hd
      cases f with
      | zero => omega
      | succ f =>
        rw [tot_some hd, ← List.drop_drop]
        exact end_none f (l.drop n) (by simp; omega)

theorem pls_at {l : List UInt8} {i k r n : Nat} (h : (pls l)[i]? = some (k, r, n)) : k = wsum ((pls l).take i) ∧ dec (l.drop k) = some (r, n) := by
  refine ⟨?_, (told_dec l.length 0 l i (k, r, n) (by omega) (by simpa [pls] using h)).1⟩
  have := place_at 0 (rs l) ((pls l).take i) (k, r, n) ((pls l).drop (i + 1)) (get_split h)
  simpa using this
theorem take_next {α : Type} {l pre : List α} {x : α} (h : pre = l.take pre.length) (hx : l[pre.length]? = some x) : pre ++ [x] = l.take (pre ++ [x]).length := by
  rw [List.length_append, List.length_cons, List.length_nil, List.take_add_one, hx]
  simp only [Option.toList_some]
  rw [← h]
end Go.Proofs.Ytmpipgjdnpgemaa
