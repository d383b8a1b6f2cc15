/-
  LAYER 4 (utf), plain: what the reference reckons of n bytes, and when it is the form at the front.
-/
import Derived.Test.YtlnplompnabmlaaRA02
import Derived.Lib.DecodeN
import GoSem.Conv.StringToRunes
namespace Go.Proofs.Ytlnplompnabmlaa.U
set_option maxRecDepth 100000

def byteAt (l : List UInt8) (i : Nat) : Int := ((l.getD i 0).toNat : Int)
def cand (n : Nat) (l : List UInt8) : Int :=
  if n = 1 then byteAt l 0
  else if n = 2 then (byteAt l 0 - 192) * 64 + byteAt l 1 - 128
  else if n = 3 then ((byteAt l 0 - 224) * 64 + byteAt l 1 - 128) * 64 + byteAt l 2 - 128
  else (((byteAt l 0 - 240) * 64 + byteAt l 1 - 128) * 64 + byteAt l 2 - 128) * 64 + byteAt l 3 - 128

theorem byteAt_take {l m : List UInt8} {n : Nat} (h : l.take n = m) {i : Nat} (hi : i < n) : byteAt l i = byteAt m i := by
  subst h
  unfold byteAt
  rw [List.getD_eq_getElem?_getD, List.getD_eq_getElem?_getD, List.getElem?_take_of_lt hi]

theorem cand_form (r : Nat) (hr : r ≤ 1114111) : cand (wideOf r) (form r) = (r : Int) := by
  unfold wideOf form
  by_cases h1 : r < 128
  · rw [if_pos h1, if_pos h1]
    simp only [cand, if_true, byteAt, List.getD_cons_zero, ofNat_toNat (show r < 256 by omega)]
  rw [if_neg h1, if_neg h1]
  by_cases h2 : r < 2048
  · rw [if_pos h2, if_pos h2]
    simp only [cand, byteAt, List.getD_cons_zero, List.getD_cons_succ, ofNat_toNat (show 192 + r / 64 < 256 by omega), ofNat_toNat (show 128 + r % 64 < 256 by omega)]
    rw [if_neg (by omega), if_pos trivial]
    omega
  rw [if_neg h2, if_neg h2]
  by_cases h3 : r < 65536
  · rw [if_pos h3, if_pos h3]
    simp only [cand, byteAt, List.getD_cons_zero, List.getD_cons_succ, ofNat_toNat (show 224 + r / 4096 < 256 by omega), ofNat_toNat (show 128 + r / 64 % 64 < 256 by omega), ofNat_toNat (show 128 + r % 64 < 256 by omega)]
    rw [if_neg (by omega), if_neg (by omega), if_pos trivial]
    omega
  · rw [if_neg h3, if_neg h3]
    simp only [cand, byteAt, List.getD_cons_zero, List.getD_cons_succ, ofNat_toNat (show 240 + r / 262144 < 256 by omega), ofNat_toNat (show 128 + r / 4096 % 64 < 256 by omega), ofNat_toNat (show 128 + r / 64 % 64 < 256 by omega), ofNat_toNat (show 128 + r % 64 < 256 by omega)]
    rw [if_neg (by omega), if_neg (by omega), if_neg (by omega)]
    omega

theorem cand_take {l m : List UInt8} {n : Nat} (h : l.take n = m) (h1 : 1 ≤ n) (h4 : n ≤ 4) : cand n l = cand n m := by
  rcases (by omega : n = 1 ∨ n = 2 ∨ n = 3 ∨ n = 4) with rfl | rfl | rfl | rfl
  · show byteAt l 0 = byteAt m 0
    rw [byteAt_take h (i := 0) (by omega)]
  · show (byteAt l 0 - 192) * 64 + byteAt l 1 - 128 = (byteAt m 0 - 192) * 64 + byteAt m 1 - 128
    rw [byteAt_take h (i := 0) (by omega), byteAt_take h (i := 1) (by omega)]
  · show ((byteAt l 0 - 224) * 64 + byteAt l 1 - 128) * 64 + byteAt l 2 - 128 = ((byteAt m 0 - 224) * 64 + byteAt m 1 - 128) * 64 + byteAt m 2 - 128
    rw [byteAt_take h (i := 0) (by omega), byteAt_take h (i := 1) (by omega), byteAt_take h (i := 2) (by omega)]
  · show (((byteAt l 0 - 240) * 64 + byteAt l 1 - 128) * 64 + byteAt l 2 - 128) * 64 + byteAt l 3 - 128 = (((byteAt m 0 - 240) * 64 + byteAt m 1 - 128) * 64 + byteAt m 2 - 128) * 64 + byteAt m 3 - 128
    rw [byteAt_take h (i := 0) (by omega), byteAt_take h (i := 1) (by omega), byteAt_take h (i := 2) (by omega), byteAt_take h (i := 3) (by omega)]

theorem scalar_nat {c : Int} (h : scalar c = true) : ∃ r : Nat, c = (r : Int) ∧ r ≤ 1114111 := by
  simp [scalar] at h
  exact ⟨c.toNat, by omega, by omega⟩

/-- n bytes at the front are a form just if what is reckoned of them is a scalar whose form they are. -/
theorem cand_yes {l : List UInt8} {n r : Nat} (hn : n ≤ l.length) (hs : scalar (r : Int) = true) (hf : form r = l.take n) : dec l = some (r, n) := by
  refine (dec_iff l r n).2 ⟨hs, ?_, hf.symm⟩
  rw [← form_length, hf, List.length_take]
  omega
theorem cand_no {l : List UInt8} {n r : Nat} (hd : dec l = some (r, n)) : cand n l = (r : Int) ∧ scalar (r : Int) = true ∧ form r = l.take n := by
  obtain ⟨h1, h2, h3⟩ := (dec_iff l r n).1 hd
  have h4 := dec_some hd
  refine ⟨?_, h1, h3.symm⟩
  rw [cand_take h3 h4.1 h4.2.1, ← h2]
  exact cand_form r h4.2.2.2.2.2
end Go.Proofs.Ytlnplompnabmlaa.U

/-
  LAYER 4 (utf), plain: the model's own reading of a text's next rune is that of its form, where there is one; what []rune(s) lays, then.
-/
namespace Go.Proofs.Ytlnplompnabmlaa.U
set_option maxRecDepth 100000

theorem get_str (s : ByteArray) (i j : Nat) (h : i + j < s.size) : ((s.get! (i + j)).toNat : Int) = byteAt (s.data.toList.drop i) j := by
  unfold byteAt
  rw [List.getD_eq_getElem?_getD, List.getElem?_drop, List.getElem?_eq_getElem (by simpa using h)]
  simp only [Option.getD_some, ByteArray.get!, Array.getElem_toList]
  rw [getElem!_pos s.data (i + j) (by simpa using h)]

theorem dec_decode {s : ByteArray} {i r n : Nat} (h : dec (s.data.toList.drop i) = some (r, n)) : Utf8.decode s i = (r, n) := by
  have hd := dec_some h
  have hlen : n ≤ s.size - i := by have := hd.2.2.1; simpa using this
  have hi : i + n ≤ s.size := by omega
  obtain ⟨h1, h2, h3⟩ := (dec_iff _ _ _).1 h
  have hr : r ≤ 1114111 := hd.2.2.2.2.2
  have hsc : r < 55296 ∨ 57343 < r := by simp [scalar] at h1; omega
  rw [Lib.decode_at]
  generalize hN : s.size - i = N at hlen
  have B : ∀ j, j < n → ((s.get! (i + j)).toNat : Int) = byteAt (form r) j := fun j hj => (get_str s i j (by omega)).trans (byteAt_take h3 hj)
  have B0 := B 0 (by omega)
  simp only [Nat.add_zero] at B0
  generalize (s.get! i).toNat = c0 at B0
  unfold wideOf at h2
  unfold form at B B0
  by_cases q1 : r < 128
  · rw [if_pos q1] at h2 B0
    subst h2
    simp only [byteAt, List.getD_cons_zero, ofNat_toNat (show r < 256 by omega)] at B0
    rw [Lib.decodeN, if_pos (by omega)]
    simp only [Prod.mk.injEq, and_true]; omega
  rw [if_neg q1] at h2 B0
  by_cases q2 : r < 2048
  · rw [if_pos q2] at h2 B0
    subst h2
    have B1 := B 1 (by omega)
    rw [if_neg q1, if_pos q2] at B1
    generalize (s.get! (i + 1)).toNat = c1 at B1
    simp only [byteAt, List.getD_cons_zero, List.getD_cons_succ, ofNat_toNat (show 192 + r / 64 < 256 by omega), ofNat_toNat (show 128 + r % 64 < 256 by omega)] at B0 B1
    rw [Lib.decodeN, if_neg (by omega), if_pos ⟨by omega, by omega, by omega⟩, if_pos (by omega)]
    simp only [Prod.mk.injEq, and_true]; omega
  rw [if_neg q2] at h2 B0
  by_cases q3 : r < 65536
  · rw [if_pos q3] at h2 B0
    subst h2
    have B1 := B 1 (by omega)
    have B2 := B 2 (by omega)
    rw [if_neg q1, if_neg q2, if_pos q3] at B1 B2
    generalize (s.get! (i + 1)).toNat = c1 at B1
    generalize (s.get! (i + 2)).toNat = c2 at B2
    simp only [byteAt, List.getD_cons_zero, List.getD_cons_succ, ofNat_toNat (show 224 + r / 4096 < 256 by omega), ofNat_toNat (show 128 + r / 64 % 64 < 256 by omega), ofNat_toNat (show 128 + r % 64 < 256 by omega)] at B0 B1 B2
    rw [Lib.decodeN, if_neg (by omega), if_neg (by omega), if_pos ⟨by omega, ⟨by omega, by omega⟩, by omega, by omega⟩, if_pos ⟨by omega, by omega⟩]
    simp only [Prod.mk.injEq, and_true]; omega
  · rw [if_neg q3] at h2 B0
    subst h2
    have B1 := B 1 (by omega)
    have B2 := B 2 (by omega)
    have B3 := B 3 (by omega)
    rw [if_neg q1, if_neg q2, if_neg q3] at B1 B2 B3
    generalize (s.get! (i + 1)).toNat = c1 at B1
    generalize (s.get! (i + 2)).toNat = c2 at B2
    generalize (s.get! (i + 3)).toNat = c3 at B3
    simp only [byteAt, List.getD_cons_zero, List.getD_cons_succ, ofNat_toNat (show 240 + r / 262144 < 256 by omega), ofNat_toNat (show 128 + r / 4096 % 64 < 256 by omega), ofNat_toNat (show 128 + r / 64 % 64 < 256 by omega), ofNat_toNat (show 128 + r % 64 < 256 by omega)] at B0 B1 B2 B3
    rw [Lib.decodeN, if_neg (by omega), if_neg (by omega), if_neg (by omega), if_pos ⟨by omega, ⟨by omega, by omega⟩, ⟨by omega, by omega⟩, by omega, by omega⟩, if_pos ⟨by omega, by omega⟩]
    simp only [Prod.mk.injEq, and_true]; omega

/-- A rune's cell. -/
def runeCells (l : List Int) : List Value := l.map (Value.int .i32)
/-- The scalars of a text, from the front. -/
def runes (l : List UInt8) : List Int := (rs l).map fun x => (x.1 : Int)
theorem runes_nil : runes [] = [] := rfl
theorem runes_some {l : List UInt8} {r n : Nat} (h : dec l = some (r, n)) : runes l = (r : Int) :: runes (l.drop n) := by
  unfold runes; rw [rs_some h]; rfl

theorem runesFrom_eq (s : ByteArray) : ∀ (f i : Nat) (acc : Array Value), i ≤ s.size → s.size - i ≤ f → tot (s.data.toList.drop i) = s.size - i →
    Conv.runesFrom s f i acc = acc ++ (runeCells (runes (s.data.toList.drop i))).toArray
  | 0, i, acc, h1, h2, h3 => by
    rw [Conv.runesFrom, List.drop_eq_nil_of_le (by simp; omega)]
    simp [runes_nil, runeCells]
  | f + 1, i, acc, h1, h2, h3 => by
    rw [Conv.runesFrom]
    by_cases hi : i < s.size
    · rw [if_pos hi]
      cases hd : dec (s.data.toList.drop i) with
      | none => rw [tot_none hd] at h3; omega
      | some x =>
        obtain ⟨r, n⟩ := x
        have hs := dec_some hd
        have hl : n ≤ s.size - i := by simpa using hs.2.2.1
        rw [tot_some hd, List.drop_drop] at h3
        rw [dec_decode hd]
        simp only
        rw [runesFrom_eq s f (i + n) _ (by omega) (by omega) (by omega), runes_some hd, List.drop_drop]
        simp [runeCells]
    · rw [if_neg hi, List.drop_eq_nil_of_le (by simp; omega)]
      simp [runes_nil, runeCells]
end Go.Proofs.Ytlnplompnabmlaa.U

/-
  LAYER 4 (utf), plain: the form that a text ends with.
-/
namespace Go.Proofs.Ytlnplompnabmlaa.U
set_option maxRecDepth 100000

/-- Where the search from the end stops. -/
def bk (l : List UInt8) : Nat → Nat → Nat
  | 0, p => p
  | f + 1, p => if 0 < p ∧ l.length - p < 4 ∧ cont (l.getD p 0) = true then bk l f (p - 1) else p
def startOf (l : List UInt8) : Nat := bk l 4 (l.length - 1)
def pickEnd (S len : Nat) : Option (Nat × Nat) → Option (Nat × Nat)
  | none => none
  | some (r, n) => if S + n = len then some (r, n) else none
def lastv (l : List UInt8) : Option (Nat × Nat) := pickEnd (startOf l) l.length (dec (l.drop (startOf l)))

theorem bk_le (l : List UInt8) : ∀ (f p : Nat), bk l f p ≤ p
  | 0, _ => Nat.le_refl _
  | f + 1, p => by
    rw [bk]; split
    · have := bk_le l f (p - 1); omega
    · exact Nat.le_refl _
theorem acc_cont : ∀ (n r : Nat) (l : List UInt8) (x : Nat), acc r n l = some x → ∀ i, i < n → cont (l.getD i 0) = true
  | 0, _, _, _, _, i, hi => absurd hi (Nat.not_lt_zero _)
  | n + 1, _, [], _, h, _, _ => by simp [acc] at h
  | n + 1, r, b :: t, x, h, i, hi => by
    rw [acc] at h
    split at h
    · rename_i hc
      cases i with
      | zero => simpa using hc
      | succ j => simpa using acc_cont n _ t x h j (by omega)
    · cases h
/-- A form's first byte goes on nothing; the others do. -/
theorem dec_bytes {l : List UInt8} {r n : Nat} (h : dec l = some (r, n)) : cont (l.getD 0 0) = false ∧ ∀ i, 0 < i → i < n → cont (l.getD i 0) = true := by
  cases l with
  | nil => cases h
  | cons a t =>
    have ha := a.toNat_lt
    have hc0 : ∀ {x : Prop}, (¬ (128 ≤ a.toNat ∧ a.toNat < 192)) → cont ((a :: t).getD 0 0) = false := by
      intro _ hx; simp [cont]; omega
    have go : ∀ m r' x, acc r' m t = some x → ∀ i, 0 < i → i < m + 1 → cont ((a :: t).getD i 0) = true := by
      intro m r' x hx i h0 hi
      obtain ⟨j, rfl⟩ : ∃ j, i = j + 1 := ⟨i - 1, by omega⟩
      simpa using acc_cont m r' t x hx j (by omega)
    rw [dec] at h
    split at h
    · simp only [Option.some.injEq, Prod.mk.injEq] at h
      obtain ⟨rfl, rfl⟩ := h
      exact ⟨hc0 (x := True) (by omega), fun i _ _ => by omega⟩
    split at h
    · cases h
    split at h
    · obtain ⟨h1, rfl, h3, h4⟩ := fin_some h
      exact ⟨hc0 (x := True) (by omega), go 1 _ _ h1⟩
    split at h
    · obtain ⟨h1, rfl, h3, h4⟩ := fin_some h
      exact ⟨hc0 (x := True) (by omega), go 2 _ _ h1⟩
    split at h
    · obtain ⟨h1, rfl, h3, h4⟩ := fin_some h
      exact ⟨hc0 (x := True) (by omega), go 3 _ _ h1⟩
    · cases h

theorem bk_back (l : List UInt8) (n : Nat) (hn : n ≤ l.length) (h0 : cont (l.getD (l.length - n) 0) = false) (h4 : n ≤ 4) : ∀ (f j : Nat), 1 ≤ j → j ≤ n → n ≤ f + j → (∀ i, 1 ≤ i → i < n → cont (l.getD (l.length - i) 0) = true) → bk l f (l.length - j) = l.length - n
  | 0, j, h1, h2, h3, _ => by rw [bk, show j = n by omega]
  | f + 1, j, h1, h2, h3, hc => by
    rw [bk]
    by_cases e : j = n
    · subst e
      rw [if_neg (by rintro ⟨_, _, h⟩; rw [h0] at h; cases h)]
    · rw [if_pos ⟨by omega, by omega, hc j h1 (by omega)⟩, show l.length - j - 1 = l.length - (j + 1) by omega]
      exact bk_back l n hn h0 h4 f (j + 1) (by omega) (by omega) (by omega) hc

theorem getD_drop (l : List UInt8) (k i : Nat) : (l.drop k).getD i 0 = l.getD (k + i) 0 := by
  simp [List.getD_eq_getElem?_getD]

theorem lastv_iff (l : List UInt8) (r n : Nat) (hl : l ≠ []) : lastv l = some (r, n) ↔ n ≤ l.length ∧ dec (l.drop (l.length - n)) = some (r, n) := by
  have hpos : 0 < l.length := List.length_pos_iff.2 hl
  constructor
  · intro h
    unfold lastv at h
    cases hd : dec (l.drop (startOf l)) with
    | none => rw [hd] at h; cases h
    | some x =>
      obtain ⟨r', n'⟩ := x
      rw [hd, pickEnd] at h
      split at h
      · rename_i he
        simp only [Option.some.injEq, Prod.mk.injEq] at h
        obtain ⟨rfl, rfl⟩ := h
        refine ⟨by omega, ?_⟩
        rw [show l.length - n' = startOf l by omega]
        exact hd
      · cases h
  · rintro ⟨hn, hd⟩
    have hs := dec_some hd
    have hb := dec_bytes hd
    have hst : startOf l = l.length - n := by
      unfold startOf
      refine bk_back l n hn ?_ hs.2.1 4 1 (by omega) hs.1 (by omega) ?_
      · have := hb.1; rw [getD_drop] at this; simpa using this
      · intro i h1 h2
        have := hb.2 (n - i) (by omega) (by omega)
        rw [getD_drop, show l.length - n + (n - i) = l.length - i by omega] at this
        exact this
    unfold lastv
    rw [hst, hd, pickEnd, if_pos (by omega)]
end Go.Proofs.Ytlnplompnabmlaa.U

/-
  LAYER 4 (utf), plain: texts behind texts; from the end to the beginning.
-/
namespace Go.Proofs.Ytlnplompnabmlaa.U
set_option maxRecDepth 100000

def valid (l : List UInt8) : Prop := tot l = l.length

theorem dec_append {l : List UInt8} {r n : Nat} (m : List UInt8) (h : dec l = some (r, n)) : dec (l ++ m) = some (r, n) := by
  have hs := dec_some h
  obtain ⟨h1, h2, h3⟩ := (dec_iff _ _ _).1 h
  refine (dec_iff _ _ _).2 ⟨h1, h2, ?_⟩
  rw [List.take_append_of_le_length hs.2.2.1, h3]
theorem dec_front {l m : List UInt8} {r n : Nat} (h : dec (l ++ m) = some (r, n)) (hn : n ≤ l.length) : dec l = some (r, n) := by
  obtain ⟨h1, h2, h3⟩ := (dec_iff _ _ _).1 h
  refine (dec_iff _ _ _).2 ⟨h1, h2, ?_⟩
  rw [List.take_append_of_le_length hn] at h3
  exact h3

theorem valid_nil : valid [] := rfl
theorem valid_some {l : List UInt8} {r n : Nat} (h : dec l = some (r, n)) : valid l ↔ valid (l.drop n) := by
  have hs := dec_some h
  unfold valid
  rw [tot_some h, List.length_drop]
  have := tot_length (l.drop n)
  simp at this
  omega
theorem valid_none {l : List UInt8} (h : dec l = none) : valid l ↔ l = [] := by
  unfold valid
  rw [tot_none h]
  constructor
  · intro h; exact List.length_eq_zero_iff.1 h.symm
  · rintro rfl; rfl

/-- A text behind a text is one just if it is one itself. -/
theorem valid_append : ∀ (k : Nat) (a b : List UInt8), a.length ≤ k → valid a → (valid (a ++ b) ↔ valid b)
  | k, [], b, _, _ => by simp
  | 0, a :: t, b, h, _ => by simp at h
  | k + 1, a :: t, b, h, hv => by
    cases hd : dec (a :: t) with
    | none => have := (valid_none hd).1 hv; cases this
    | some x =>
      obtain ⟨r, n⟩ := x
      have hs := dec_some hd
      rw [valid_some (dec_append b hd), List.drop_append_of_le_length hs.2.2.1]
      exact valid_append k _ b (by simp at h ⊢; omega) ((valid_some hd).1 hv)

/-- Ahead of a form at its end a text is one, if it is one with it. -/
theorem valid_back : ∀ (k : Nat) (x y : List UInt8) (r : Nat), x.length ≤ k → dec y = some (r, y.length) → valid (x ++ y) → valid x
  | k, [], _, _, _, _, _ => valid_nil
  | 0, a :: t, _, _, h, _, _ => by simp at h
  | k + 1, a :: t, y, r, h, hy, hv => by
    cases hd : dec (a :: t ++ y) with
    | none => have := (valid_none hd).1 hv; cases this
    | some z =>
      obtain ⟨r', n⟩ := z
      have hs := dec_some hd
      by_cases hn : n ≤ (a :: t).length
      · have hf := dec_front hd hn
        have hv2 := (valid_some hd).1 hv
        rw [List.drop_append_of_le_length hn] at hv2
        exact (valid_some hf).2 (valid_back k _ y r (by simp at h ⊢; omega) hy hv2)
      · have h1 := (dec_bytes hd).2 (a :: t).length (by simp) (by omega)
        have h2 := (dec_bytes hy).1
        rw [List.getD_eq_getElem?_getD, List.getElem?_append_right (Nat.le_refl _), Nat.sub_self, ← List.getD_eq_getElem?_getD, h2] at h1
        cases h1

theorem lastv_valid : ∀ (k : Nat) (l : List UInt8), l.length ≤ k → l ≠ [] → valid l → lastv l ≠ none
  | 0, l, h, hn, _ => absurd (List.length_eq_zero_iff.1 (by omega)) hn
  | k + 1, l, h, hn, hv => by
    cases hd : dec l with
    | none => exact absurd ((valid_none hd).1 hv) hn
    | some x =>
      obtain ⟨r, n⟩ := x
      have hs := dec_some hd
      by_cases hl : n = l.length
      · rw [(lastv_iff l r n hn).2 ⟨by omega, by rw [hl, Nat.sub_self, List.drop_zero]; rw [hl] at hd; exact hd⟩]
        simp
      · have hdn : l.drop n ≠ [] := by intro h0; have := congrArg List.length h0; simp at this; omega
        have ih := lastv_valid k (l.drop n) (by simp; omega) hdn ((valid_some hd).1 hv)
        cases hlv : lastv (l.drop n) with
        | none => exact absurd hlv ih
        | some y =>
          obtain ⟨r2, n2⟩ := y
          obtain ⟨g1, g2⟩ := (lastv_iff _ r2 n2 hdn).1 hlv
          simp only [List.length_drop, List.drop_drop] at g1 g2
          have hs2 := dec_some g2
          rw [(lastv_iff l r2 n2 hn).2 ⟨by omega, by rw [show l.length - n2 = n + (l.length - n - n2) by omega]; exact g2⟩]
          simp

theorem valid_take {l : List UInt8} {k r n : Nat} (hk : k ≤ l.length) (h : lastv (l.take k) = some (r, n)) (h0 : 0 < k) : n ≤ k ∧ 1 ≤ n ∧ (valid (l.take k) ↔ valid (l.take (k - n))) := by
  have hn : l.take k ≠ [] := by intro h1; have := congrArg List.length h1; rw [List.length_take] at this; simp only [List.length_nil] at this; omega
  obtain ⟨g1, g2⟩ := (lastv_iff _ r n hn).1 h
  have hlen : (l.take k).length = k := by simp; omega
  rw [hlen] at g1 g2
  have hs := dec_some g2
  refine ⟨g1, hs.1, ?_⟩
  have hsp : l.take k = l.take (k - n) ++ (l.take k).drop (k - n) := by
    have h1 := List.take_append_drop (k - n) (l.take k)
    rw [List.take_take, Nat.min_eq_left (by omega)] at h1
    exact h1.symm
  have hdl : ((l.take k).drop (k - n)).length = n := by rw [List.length_drop, hlen]; omega
  constructor
  · intro hv
    rw [hsp] at hv
    exact valid_back _ _ _ r (Nat.le_refl _) (by rw [hdl]; exact g2) hv
  · intro hv
    rw [hsp]
    refine (valid_append _ _ _ (Nat.le_refl _) hv).2 ((valid_some g2).2 ?_)
    rw [List.drop_eq_nil_of_le (by rw [hdl]; exact Nat.le_refl _)]
    exact valid_nil
theorem not_valid_take {l : List UInt8} {k : Nat} (hk : k ≤ l.length) (h : lastv (l.take k) = none) (h0 : 0 < k) : ¬ valid (l.take k) := by
  intro hv
  have hn : l.take k ≠ [] := by intro h1; have := congrArg List.length h1; rw [List.length_take] at this; simp only [List.length_nil] at this; omega
  exact lastv_valid _ _ (Nat.le_refl _) hn hv h
end Go.Proofs.Ytlnplompnabmlaa.U
