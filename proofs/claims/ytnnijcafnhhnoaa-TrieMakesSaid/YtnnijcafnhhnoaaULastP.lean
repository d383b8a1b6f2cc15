
/-
  LAYER 4 (utf), plain: the form that a text ends with.
-/
import Derived.Test.YtnnijcafnhhnoaaURun
namespace Go.Proofs.Ytnnijcafnhhnoaa.U
set_option maxRecDepth 100000

/-- Where the search from the end stops. -/
def bk (l : List UInt8) : Nat → Nat → Nat
  | 0, p => p
  | f + 1, p => if 0 < p ∧ l.length - p < 4 ∧ cont (l.getD p 0) = true then bk l f (p - 1) else p
def startOf (l : List UInt8) : Nat := bk l 4 (l.length - 1)
def pickEnd (S len : Nat) : Option (Nat × Nat) → Option (Nat × Nat)
  | none => none
  | some (r, n) => if S + n = len then some (r, n) else none
def lastv (l : List UInt8) : Option (Nat × Nat) := pickEnd (startOf l) l.length (dec (l.drop (startOf l)))

theorem bk_le (l : List UInt8) : ∀ (f p : Nat), bk l f p ≤ p
  | 0, _ => Nat.le_refl _
  | f + 1, p => by
    rw [bk]; split
    · have := bk_le l f (p - 1); omega
    · exact Nat.le_refl _
theorem acc_cont : ∀ (n r : Nat) (l : List UInt8) (x : Nat), acc r n l = some x → ∀ i, i < n → cont (l.getD i 0) = true
  | 0, _, _, _, _, i, hi => absurd hi (Nat.not_lt_zero _)
  | n + 1, _, [], _, h, _, _ => by simp [acc] at h
  | n + 1, r, b :: t, x, h, i, hi => by
    rw [acc] at h
    split at h
    · rename_i hc
      cases i with
      | zero => simpa using hc
      | succ j => simpa using acc_cont n _ t x h j (by omega)
    · cases h
/-- A form's first byte goes on nothing; the others do. -/
theorem dec_bytes {l : List UInt8} {r n : Nat} (h : dec l = some (r, n)) : cont (l.getD 0 0) = false ∧ ∀ i, 0 < i → i < n → cont (l.getD i 0) = true := by
  cases l with
  | nil => cases h
  | cons a t =>
    have ha := a.toNat_lt
    have hc0 : ∀ {x : Prop}, (¬ (128 ≤ a.toNat ∧ a.toNat < 192)) → cont ((a :: t).getD 0 0) = false := by
      intro _ hx; simp [cont]; omega
    have go : ∀ m r' x, acc r' m t = some x → ∀ i, 0 < i → i < m + 1 → cont ((a :: t).getD i 0) = true := by
      intro m r' x hx i h0 hi
      obtain ⟨j, rfl⟩ : ∃ j, i = j + 1 := ⟨i - 1, by omega⟩
      simpa using acc_cont m r' t x hx j (by omega)
    rw [dec] at h
    split at h
    · simp only [Option.some.injEq, Prod.mk.injEq] at h
      obtain ⟨rfl, rfl⟩ := h
      exact ⟨hc0 (x := True) (by omega), fun i _ _ => by omega⟩
    split at h
    · cases h
    split at h
    · obtain ⟨h1, rfl, h3, h4⟩ := fin_some h
      exact ⟨hc0 (x := True) (by omega), go 1 _ _ h1⟩
    split at h
    · obtain ⟨h1, rfl, h3, h4⟩ := fin_some h
      exact ⟨hc0 (x := True) (by omega), go 2 _ _ h1⟩
    split at h
    · obtain ⟨h1, rfl, h3, h4⟩ := fin_some h
      exact ⟨hc0 (x := True) (by omega), go 3 _ _ h1⟩
    · cases h

theorem bk_back (l : List UInt8) (n : Nat) (hn : n ≤ l.length) (h0 : cont (l.getD (l.length - n) 0) = false) (h4 : n ≤ 4) : ∀ (f j : Nat), 1 ≤ j → j ≤ n → n ≤ f + j → (∀ i, 1 ≤ i → i < n → cont (l.getD (l.length - i) 0) = true) → bk l f (l.length - j) = l.length - n
  | 0, j, h1, h2, h3, _ => by rw [bk, show j = n by omega]
  | f + 1, j, h1, h2, h3, hc => by
    rw [bk]
    by_cases e : j = n
    · subst e
      rw [if_neg (by rintro ⟨_, _, h⟩; rw [h0] at h; cases h)]
    · rw [if_pos ⟨by omega, by omega, hc j h1 (by omega)⟩, show l.length - j - 1 = l.length - (j + 1) by omega]
      exact bk_back l n hn h0 h4 f (j + 1) (by omega) (by omega) (by omega) hc

theorem getD_drop (l : List UInt8) (k i : Nat) : (l.drop k).getD i 0 = l.getD (k + i) 0 := by
  simp [List.getD_eq_getElem?_getD]

theorem lastv_iff (l : List UInt8) (r n : Nat) (hl : l ≠ []) : lastv l = some (r, n) ↔ n ≤ l.length ∧ dec (l.drop (l.length - n)) = some (r, n) := by
  have hpos : 0 < l.length := List.length_pos_iff.2 hl
  constructor
  · intro h
    unfold lastv at h
    cases hd : dec (l.drop (startOf l)) with
    | none => rw [hd] at h; cases h
    | some x =>
      obtain ⟨r', n'⟩ := x
      rw [hd, pickEnd] at h
      split at h
      · rename_i he
        simp only [Option.some.injEq, Prod.mk.injEq] at h
        obtain ⟨rfl, rfl⟩ := h
        refine ⟨by omega, ?_⟩
        rw [show l.length - n' = startOf l by omega]
        exact hd
      · cases h
  · rintro ⟨hn, hd⟩
    have hs := dec_some hd
    have hb := dec_bytes hd
    have hst : startOf l = l.length - n := by
      unfold startOf
      refine bk_back l n hn ?_ hs.2.1 4 1 (by omega) hs.1 (by omega) ?_
      · have := hb.1; rw [getD_drop] at this; simpa using this
      · intro i h1 h2
        have := hb.2 (n - i) (by omega) (by omega)
        rw [getD_drop, show l.length - n + (n - i) = l.length - i by omega] at this
        exact this
    unfold lastv
    rw [hst, hd, pickEnd, if_pos (by omega)]
end Go.Proofs.Ytnnijcafnhhnoaa.U
