/-
  LAYER 4 (utf), plain: scalars with their places and widths.
-/
import Derived.Test.YtpdacbiiaglodaaGreatQG05
import Derived.Test.YtpdacbiiaglodaaGreatQG06
import Derived.Lib.Bytealg
namespace Go.Proofs.YtpdacbiiaglodaaGreat.U
set_option maxRecDepth 100000

/-- place, scalar, width. -/
abbrev Told := Nat × Nat × Nat
def places : Nat → List (Nat × Nat) → List Told
  | _, [] => []
  | k, (r, n) :: t => (k, r, n) :: places (k + n) t
def pls (l : List UInt8) : List Told := places 0 (rs l)
def wsum (l : List Told) : Nat := (l.map (·.2.2)).sum

theorem places_some {l : List UInt8} {k r n : Nat} (h : dec (l.drop k) = some (r, n)) : places k (rs (l.drop k)) = (k, r, n) :: places (k + n) (rs (l.drop (k + n))) := by
  rw [rs_some h, places, List.drop_drop]
theorem places_none {l : List UInt8} {k : Nat} (h : dec (l.drop k) = none) : places k (rs (l.drop k)) = [] := by
  rw [rs_none h, places]
theorem places_sum : ∀ (k : Nat) (t : List (Nat × Nat)), wsum (places k t) = (t.map (·.2)).sum
  | _, [] => rfl
  | k, (r, n) :: t => by
    have := places_sum (k + n) t
    simp [places, wsum] at this ⊢
    exact this
theorem pls_sum (l : List UInt8) : wsum (pls l) = tot l := places_sum 0 (rs l)
theorem wsum_append (a b : List Told) : wsum (a ++ b) = wsum a + wsum b := by simp [wsum]
/-- The place of what comes next is how much was told. -/
theorem place_at : ∀ (k : Nat) (t : List (Nat × Nat)) (pre : List Told) (x : Told) (post : List Told), places k t = pre ++ x :: post → x.1 = k + wsum pre
  | k, [], [], _, _, h => by simp [places] at h
  | k, [], _ :: _, _, _, h => by simp [places] at h
  | k, (r, n) :: t, [], x, post, h => by
    simp [places] at h
    rw [← h.1]
    simp [wsum]
  | k, (r, n) :: t, y :: pre, x, post, h => by
    simp [places] at h
    have := place_at (k + n) t pre x post h.2
    rw [this, ← h.1]
    simp [wsum]
    omega
theorem get_split {α : Type} {l : List α} {i : Nat} {x : α} (h : l[i]? = some x) : l = l.take i ++ x :: l.drop (i + 1) := by
  have hi := (List.getElem?_eq_some_iff.1 h).1
  have := List.take_append_drop i l
  rw [List.drop_eq_getElem_cons hi, (List.getElem?_eq_some_iff.1 h).2] at this
  exact this.symm
/-- What is told at a place is the scalar whose form stands there. -/
theorem told_dec : ∀ (f k : Nat) (l : List UInt8) (i : Nat) (x : Told), l.length - k ≤ f → (places k (rs (l.drop k)))[i]? = some x → dec (l.drop x.1) = some (x.2.1, x.2.2) ∧ k ≤ x.1
  | f, k, l, i, x, hf, h => by
    cases hd : dec (l.drop k) with
    | none => rw [places_none hd] at h; simp at h
    | some y =>
      obtain ⟨r, n⟩ := y
      have hs := dec_some hd
      simp only [List.length_drop] at hs
      rw [places_some hd] at h
      cases i with
      | zero =>
        simp at h
        subst h
        exact ⟨hd, Nat.le_refl _⟩
      | succ j =>
        simp only [List.getElem?_cons_succ] at h
        cases f with
        | zero => omega
        | succ f =>
          obtain ⟨q1, q2⟩ := told_dec f (k + n) l j x (by omega) h
          exact ⟨q1, by omega⟩

/-- Behind all that is told no form stands. -/
theorem end_none : ∀ (f : Nat) (l : List UInt8), l.length ≤ f → dec (l.drop (tot l)) = none
  | f, l, h => by
    cases hd : dec l with
    | none => rw [tot_none hd, List.drop_zero]; exact hd
    | some x =>
      obtain ⟨r, n⟩ := x
      have hs := dec_some hd
      cases f with
      | zero => omega
      | succ f =>
        rw [tot_some hd, ← List.drop_drop]
        exact end_none f (l.drop n) (by simp; omega)

theorem pls_at {l : List UInt8} {i k r n : Nat} (h : (pls l)[i]? = some (k, r, n)) : k = wsum ((pls l).take i) ∧ dec (l.drop k) = some (r, n) := by
  refine ⟨?_, (told_dec l.length 0 l i (k, r, n) (by omega) (by simpa [pls] using h)).1⟩
  have := place_at 0 (rs l) ((pls l).take i) (k, r, n) ((pls l).drop (i + 1)) (get_split h)
  simpa using this
theorem take_next {α : Type} {l pre : List α} {x : α} (h : pre = l.take pre.length) (hx : l[pre.length]? = some x) : pre ++ [x] = l.take (pre ++ [x]).length := by
  rw [List.length_append, List.length_cons, List.length_nil, List.take_add_one, hx]
  simp only [Option.toList_some]
  rw [← h]
end Go.Proofs.YtpdacbiiaglodaaGreat.U

/-
  LAYER 4 (utf), plain: scalars compare as bytes.
-/
namespace Go.Proofs.YtpdacbiiaglodaaGreat.U
set_option maxRecDepth 100000
open Go.Lib

def ordL : List Int → List Int → Int
  | [], [] => 0
  | [], _ :: _ => -1
  | _ :: _, [] => 1
  | a :: s, b :: t => if a < b then -1 else if b < a then 1 else ordL s t

theorem ordL_refl : ∀ l : List Int, ordL l l = 0
  | [] => rfl
  | a :: l => by rw [ordL, if_neg (by omega), if_neg (by omega)]; exact ordL_refl l

theorem cmpc (a b : UInt8) (s t : List UInt8) : compareBytes (a :: s) (b :: t) = if a.toNat < b.toNat then -1 else if b.toNat < a.toNat then 1 else compareBytes s t := by
  rw [compareBytes]
  simp only [UInt8.lt_iff_toNat_lt]
theorem cmpn {m n : Nat} (hm : m < 256) (hn : n < 256) (s t : List UInt8) : compareBytes (UInt8.ofNat m :: s) (UInt8.ofNat n :: t) = if m < n then -1 else if n < m then 1 else compareBytes s t := by
  rw [cmpc, ofNat_toNat hm, ofNat_toNat hn]
theorem cmp_same : ∀ (p x y : List UInt8), compareBytes (p ++ x) (p ++ y) = compareBytes x y
  | [], _, _ => rfl
  | a :: p, x, y => by
    rw [List.cons_append, List.cons_append, cmpc, if_neg (by omega), if_neg (by omega)]
    exact cmp_same p x y

theorem cmp_lt (r1 r2 : Nat) (h2 : r2 ≤ 1114111) (h : r1 < r2) (x y : List UInt8) : compareBytes (form r1 ++ x) (form r2 ++ y) = -1 ∧ compareBytes (form r2 ++ y) (form r1 ++ x) = 1 := by
  unfold form
  by_cases a1 : r1 < 128
  · rw [if_pos a1]
    by_cases b1 : r2 < 128
    · rw [if_pos b1]
      simp only [List.cons_append, List.nil_append]
      refine ⟨?_, ?_⟩
      · rw [cmpn (by omega) (by omega), if_pos h]
      · rw [cmpn (by omega) (by omega), if_neg (by omega), if_pos h]
    rw [if_neg b1]
    by_cases b2 : r2 < 2048
    · rw [if_pos b2]
      simp only [List.cons_append, List.nil_append]
      refine ⟨?_, ?_⟩
      · rw [cmpn (by omega) (by omega), if_pos (by omega)]
      · rw [cmpn (by omega) (by omega), if_neg (by omega), if_pos (by omega)]
    rw [if_neg b2]
    by_cases b3 : r2 < 65536
    · rw [if_pos b3]
      simp only [List.cons_append, List.nil_append]
      refine ⟨?_, ?_⟩
      · rw [cmpn (by omega) (by omega), if_pos (by omega)]
      · rw [cmpn (by omega) (by omega), if_neg (by omega), if_pos (by omega)]
    · rw [if_neg b3]
      simp only [List.cons_append, List.nil_append]
      refine ⟨?_, ?_⟩
      · rw [cmpn (by omega) (by omega), if_pos (by omega)]
      · rw [cmpn (by omega) (by omega), if_neg (by omega), if_pos (by omega)]
  rw [if_neg a1, if_neg (show ¬ r2 < 128 by omega)]
  by_cases a2 : r1 < 2048
  · rw [if_pos a2]
    by_cases b2 : r2 < 2048
    · rw [if_pos b2]
      simp only [List.cons_append, List.nil_append]
      simp only [cmpn (show 192 + r1 / 64 < 256 by omega) (show 192 + r2 / 64 < 256 by omega), cmpn (show 192 + r2 / 64 < 256 by omega) (show 192 + r1 / 64 < 256 by omega),
        cmpn (show 128 + r1 % 64 < 256 by omega) (show 128 + r2 % 64 < 256 by omega), cmpn (show 128 + r2 % 64 < 256 by omega) (show 128 + r1 % 64 < 256 by omega)]
      constructor <;> (repeat' split) <;> first | rfl | omega
    rw [if_neg b2]
    by_cases b3 : r2 < 65536
    · rw [if_pos b3]
      simp only [List.cons_append, List.nil_append]
      refine ⟨?_, ?_⟩
      · rw [cmpn (by omega) (by omega), if_pos (by omega)]
      · rw [cmpn (by omega) (by omega), if_neg (by omega), if_pos (by omega)]
    · rw [if_neg b3]
      simp only [List.cons_append, List.nil_append]
      refine ⟨?_, ?_⟩
      · rw [cmpn (by omega) (by omega), if_pos (by omega)]
      · rw [cmpn (by omega) (by omega), if_neg (by omega), if_pos (by omega)]
  rw [if_neg a2, if_neg (show ¬ r2 < 2048 by omega)]
  by_cases a3 : r1 < 65536
  · rw [if_pos a3]
    by_cases b3 : r2 < 65536
    · rw [if_pos b3]
      simp only [List.cons_append, List.nil_append]
      simp only [cmpn (show 224 + r1 / 4096 < 256 by omega) (show 224 + r2 / 4096 < 256 by omega), cmpn (show 224 + r2 / 4096 < 256 by omega) (show 224 + r1 / 4096 < 256 by omega),
        cmpn (show 128 + r1 / 64 % 64 < 256 by omega) (show 128 + r2 / 64 % 64 < 256 by omega), cmpn (show 128 + r2 / 64 % 64 < 256 by omega) (show 128 + r1 / 64 % 64 < 256 by omega),
        cmpn (show 128 + r1 % 64 < 256 by omega) (show 128 + r2 % 64 < 256 by omega), cmpn (show 128 + r2 % 64 < 256 by omega) (show 128 + r1 % 64 < 256 by omega)]
      constructor <;> (repeat' split) <;> first | rfl | omega
    · rw [if_neg b3]
      simp only [List.cons_append, List.nil_append]
      refine ⟨?_, ?_⟩
      · rw [cmpn (by omega) (by omega), if_pos (by omega)]
      · rw [cmpn (by omega) (by omega), if_neg (by omega), if_pos (by omega)]
  · rw [if_neg a3, if_neg (show ¬ r2 < 65536 by omega)]
    simp only [List.cons_append, List.nil_append]
    simp only [cmpn (show 240 + r1 / 262144 < 256 by omega) (show 240 + r2 / 262144 < 256 by omega), cmpn (show 240 + r2 / 262144 < 256 by omega) (show 240 + r1 / 262144 < 256 by omega),
      cmpn (show 128 + r1 / 4096 % 64 < 256 by omega) (show 128 + r2 / 4096 % 64 < 256 by omega), cmpn (show 128 + r2 / 4096 % 64 < 256 by omega) (show 128 + r1 / 4096 % 64 < 256 by omega),
      cmpn (show 128 + r1 / 64 % 64 < 256 by omega) (show 128 + r2 / 64 % 64 < 256 by omega), cmpn (show 128 + r2 / 64 % 64 < 256 by omega) (show 128 + r1 / 64 % 64 < 256 by omega),
      cmpn (show 128 + r1 % 64 < 256 by omega) (show 128 + r2 % 64 < 256 by omega), cmpn (show 128 + r2 % 64 < 256 by omega) (show 128 + r1 % 64 < 256 by omega)]
    constructor <;> (repeat' split) <;> first | rfl | omega

theorem form_split {l : List UInt8} {r n : Nat} (h : dec l = some (r, n)) : l = form r ++ l.drop n := by
  obtain ⟨_, _, h3⟩ := (dec_iff _ _ _).1 h
  rw [← h3, List.take_append_drop]

/-- Of two texts the bytes compare as the scalars. -/
theorem cmp_runes : ∀ (k : Nat) (a b : List UInt8), a.length ≤ k → valid a → valid b → compareBytes a b = ordL (runes a) (runes b)
  | k, a, b, hk, ha, hb => by
    cases hda : dec a with
    | none =>
      obtain rfl := (valid_none hda).1 ha
      cases hdb : dec b with
      | none => obtain rfl := (valid_none hdb).1 hb; rfl
      | some y =>
        obtain ⟨r, n⟩ := y
        have hs := dec_some hdb
        rw [runes_some hdb, runes_nil, ordL]
        cases b with
        | nil => simp at hs; omega
        | cons c t => rfl
    | some x =>
      obtain ⟨r, n⟩ := x
      have hs := dec_some hda
      cases hdb : dec b with
      | none =>
        obtain rfl := (valid_none hdb).1 hb
        rw [runes_some hda, runes_nil, ordL]
        cases a with
        | nil => simp at hs; omega
        | cons c t => rfl
      | some y =>
        obtain ⟨r', n'⟩ := y
        have hs' := dec_some hdb
        rw [runes_some hda, runes_some hdb, ordL]
        have ea := form_split hda
        have eb := form_split hdb
        rcases Nat.lt_trichotomy r r' with h | h | h
        · rw [if_pos (by omega), ea, eb]
          exact (cmp_lt r r' hs'.2.2.2.2.2 h _ _).1
        · subst h
          have hn : n = n' := by rw [← hs.2.2.2.2.1, ← hs'.2.2.2.2.1]
          subst hn
          rw [if_neg (by omega), if_neg (by omega)]
          cases k with
          | zero => omega
          | succ k =>
            have ih := cmp_runes k (a.drop n) (b.drop n) (by simp; omega) ((valid_some hda).1 ha) ((valid_some hdb).1 hb)
            rw [← ih]
            conv => lhs; rw [ea, eb]
            exact cmp_same _ _ _
        · rw [if_neg (by omega), if_pos (by omega), ea, eb]
          exact (cmp_lt r' r hs.2.2.2.2.2 h _ _).2
end Go.Proofs.YtpdacbiiaglodaaGreat.U
