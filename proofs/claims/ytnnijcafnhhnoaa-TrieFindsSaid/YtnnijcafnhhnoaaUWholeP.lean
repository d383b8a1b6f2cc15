
/-
  LAYER 4 (utf), plain: texts behind texts; from the end to the beginning.
-/
import Derived.Test.YtnnijcafnhhnoaaULastP
namespace Go.Proofs.Ytnnijcafnhhnoaa.U
set_option maxRecDepth 100000

def valid (l : List UInt8) : Prop := tot l = l.length

theorem dec_append {l : List UInt8} {r n : Nat} (m : List UInt8) (h : dec l = some (r, n)) : dec (l ++ m) = some (r, n) := by
  have hs := dec_some h
  obtain ⟨h1, h2, h3⟩ := (dec_iff _ _ _).1 h
  refine (dec_iff _ _ _).2 ⟨h1, h2, ?_⟩
  rw [List.take_append_of_le_length hs.2.2.1, h3]
theorem dec_front {l m : List UInt8} {r n : Nat} (h : dec (l ++ m) = some (r, n)) (hn : n ≤ l.length) : dec l = some (r, n) := by
  obtain ⟨h1, h2, h3⟩ := (dec_iff _ _ _).1 h
  refine (dec_iff _ _ _).2 ⟨h1, h2, ?_⟩
  rw [List.take_append_of_le_length hn] at h3
  exact h3

theorem valid_nil : valid [] := rfl
theorem valid_some {l : List UInt8} {r n : Nat} (h : dec l = some (r, n)) : valid l ↔ valid (l.drop n) := by
  have hs := dec_some h
  unfold valid
  rw [tot_some h, List.length_drop]
  have := tot_length (l.drop n)
  simp at this
  omega
theorem valid_none {l : List UInt8} (h : dec l = none) : valid l ↔ l = [] := by
  unfold valid
  rw [tot_none h]
  constructor
  · intro h; exact List.length_eq_zero_iff.1 h.symm
  · rintro rfl; rfl

/-- A text behind a text is one just if it is one itself. -/
theorem valid_append : ∀ (k : Nat) (a b : List UInt8), a.length ≤ k → valid a → (valid (a ++ b) ↔ valid b)
  | k, [], b, _, _ => by simp
  | 0, a :: t, b, h, _ => by simp at h
  | k + 1, a :: t, b, h, hv => by
    cases hd : dec (a :: t) with
    | none => have := (valid_none hd).1 hv; cases this
    | some x =>
      obtain ⟨r, n⟩ := x
      have hs := dec_some hd
      rw [valid_some (dec_append b hd), List.drop_append_of_le_length hs.2.2.1]
      exact valid_append k _ b (by simp at h ⊢; omega) ((valid_some hd).1 hv)

/-- Ahead of a form at its end a text is one, if it is one with it. -/
theorem valid_back : ∀ (k : Nat) (x y : List UInt8) (r : Nat), x.length ≤ k → dec y = some (r, y.length) → valid (x ++ y) → valid x
  | k, [], _, _, _, _, _ => valid_nil
  | 0, a :: t, _, _, h, _, _ => by simp at h
  | k + 1, a :: t, y, r, h, hy, hv => by
    cases hd : dec (a :: t ++ y) with
    | none => have := (valid_none hd).1 hv; cases this
    | some z =>
      obtain ⟨r', n⟩ := z
      have hs := dec_some hd
      by_cases hn : n ≤ (a :: t).length
      · have hf := dec_front hd hn
        have hv2 := (valid_some hd).1 hv
        rw [List.drop_append_of_le_length hn] at hv2
        exact (valid_some hf).2 (valid_back k _ y r (by simp at h ⊢; omega) hy hv2)
      · have h1 := (dec_bytes hd).2 (a :: t).length (by simp) (by omega)
        have h2 := (dec_bytes hy).1
        rw [List.getD_eq_getElem?_getD, List.getElem?_append_right (Nat.le_refl _), Nat.sub_self, ← List.getD_eq_getElem?_getD, h2] at h1
        cases h1

theorem lastv_valid : ∀ (k : Nat) (l : List UInt8), l.length ≤ k → l ≠ [] → valid l → lastv l ≠ none
  | 0, l, h, hn, _ => absurd (List.length_eq_zero_iff.1 (by omega)) hn
  | k + 1, l, h, hn, hv => by
    cases hd : dec l with
    | none => exact absurd ((valid_none hd).1 hv) hn
    | some x =>
      obtain ⟨r, n⟩ := x
      have hs := dec_some hd
      by_cases hl : n = l.length
      · rw [(lastv_iff l r n hn).2 ⟨by omega, by rw [hl, Nat.sub_self, List.drop_zero]; rw [hl] at hd; exact hd⟩]
        simp
      · have hdn : l.drop n ≠ [] := by intro h0; have := congrArg List.length h0; simp at this; omega
        have ih := lastv_valid k (l.drop n) (by simp; omega) hdn ((valid_some hd).1 hv)
        cases hlv : lastv (l.drop n) with
        | none => exact absurd hlv ih
        | some y =>
          obtain ⟨r2, n2⟩ := y
          obtain ⟨g1, g2⟩ := (lastv_iff _ r2 n2 hdn).1 hlv
          simp only [List.length_drop, List.drop_drop] at g1 g2
          have hs2 := dec_some g2
          rw [(lastv_iff l r2 n2 hn).2 ⟨by omega, by rw [show l.length - n2 = n + (l.length - n - n2) by omega]; exact g2⟩]
          simp

theorem valid_take {l : List UInt8} {k r n : Nat} (hk : k ≤ l.length) (h : lastv (l.take k) = some (r, n)) (h0 : 0 < k) : n ≤ k ∧ 1 ≤ n ∧ (valid (l.take k) ↔ valid (l.take (k - n))) := by
  have hn : l.take k ≠ [] := by intro h1; have := congrArg List.length h1; rw [List.length_take] at this; simp only [List.length_nil] at this; omega
  obtain ⟨g1, g2⟩ := (lastv_iff _ r n hn).1 h
  have hlen : (l.take k).length = k := by simp; omega
  rw [hlen] at g1 g2
  have hs := dec_some g2
  refine ⟨g1, hs.1, ?_⟩
  have hsp : l.take k = l.take (k - n) ++ (l.take k).drop (k - n) := by
    have h1 := List.take_append_drop (k - n) (l.take k)
    rw [List.take_take, Nat.min_eq_left (by omega)] at h1
    exact h1.symm
  have hdl : ((l.take k).drop (k - n)).length = n := by rw [List.length_drop, hlen]; omega
  constructor
  · intro hv
    rw [hsp] at hv
    exact valid_back _ _ _ r (Nat.le_refl _) (by rw [hdl]; exact g2) hv
  · intro hv
    rw [hsp]
    refine (valid_append _ _ _ (Nat.le_refl _) hv).2 ((valid_some g2).2 ?_)
    rw [List.drop_eq_nil_of_le (by rw [hdl]; exact Nat.le_refl _)]
    exact valid_nil
theorem not_valid_take {l : List UInt8} {k : Nat} (hk : k ≤ l.length) (h : lastv (l.take k) = none) (h0 : 0 < k) : ¬ valid (l.take k) := by
  intro hv
  have hn : l.take k ≠ [] := by intro h1; have := congrArg List.length h1; rw [List.length_take] at this; simp only [List.length_nil] at this; omega
  exact lastv_valid _ _ (Nat.le_refl _) hn hv h
end Go.Proofs.Ytnnijcafnhhnoaa.U
