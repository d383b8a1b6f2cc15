/-
  LAYER 4 (utf), plain: the form of a scalar at the front of a list of bytes. No program is named here.
-/
import Derived.Test.YtpdacbiiaglodaaGreatQE02
import Derived.Lib.DecodeN
import GoSem.Conv.StringToRunes
namespace Go.Proofs.YtpdacbiiaglodaaGreat.U
set_option maxRecDepth 100000

/-- A byte that may only stand behind a form's first. -/
def cont (b : UInt8) : Bool := decide (128 ≤ b.toNat) && decide (b.toNat < 192)
def scalar (r : Int) : Bool := decide (0 ≤ r) && decide (r < 55296) || decide (57343 < r) && decide (r ≤ 1114111)
def wideOf (r : Nat) : Nat := if r < 128 then 1 else if r < 2048 then 2 else if r < 65536 then 3 else 4
/-- n bytes more, six bits each. -/
def acc : Nat → Nat → List UInt8 → Option Nat
  | r, 0, _ => some r
  | _, _ + 1, [] => none
  | r, n + 1, b :: t => if cont b then acc (r * 64 + (b.toNat - 128)) n t else none
def fin (n : Nat) : Option Nat → Option (Nat × Nat)
  | none => none
  | some r => if scalar (r : Int) && wideOf r == n then some (r, n) else none
/-- The scalar whose form stands at the front, and how many bytes it has. -/
def dec : List UInt8 → Option (Nat × Nat)
  | [] => none
  | a :: t =>
    if a.toNat < 128 then some (a.toNat, 1)
    else if a.toNat < 192 then none
    else if a.toNat < 224 then fin 2 (acc (a.toNat - 192) 1 t)
    else if a.toNat < 240 then fin 3 (acc (a.toNat - 224) 2 t)
    else if a.toNat < 248 then fin 4 (acc (a.toNat - 240) 3 t)
    else none

theorem acc_short : ∀ (n r : Nat) (l : List UInt8), l.length < n → acc r n l = none
  | 0, _, _, h => absurd h (Nat.not_lt_zero _)
  | n + 1, _, [], _ => rfl
  | n + 1, r, b :: t, h => by
    rw [acc]
    split
    · exact acc_short n _ t (by simpa using h)
    · rfl
theorem acc_len {n r x : Nat} {l : List UInt8} (h : acc r n l = some x) : n ≤ l.length := by
  by_cases hl : l.length < n
  · rw [acc_short n r l hl] at h; cases h
  · omega
theorem acc_lt : ∀ (n r : Nat) (l : List UInt8) (x B : Nat), acc r n l = some x → r < B → x < B * 64 ^ n
  | 0, r, l, x, B, h, hr => by simp [acc] at h; subst h; simpa using hr
  | n + 1, _, [], _, _, h, _ => by simp [acc] at h
  | n + 1, r, b :: t, x, B, h, hr => by
    rw [acc] at h
    split at h
    · have := acc_lt n _ t x (B * 64) h (by have := b.toNat_lt; rename_i hc; simp [cont] at hc; omega)
      rw [Nat.pow_succ, Nat.mul_comm (64 ^ n) 64, ← Nat.mul_assoc]
      exact this
    · cases h

theorem fin_some {n m r : Nat} {o : Option Nat} (h : fin n o = some (r, m)) : o = some r ∧ m = n ∧ scalar (r : Int) = true ∧ wideOf r = n := by
  cases o with
  | none => cases h
  | some x =>
    rw [fin] at h
    split at h
    · rename_i hc
      simp only [Bool.and_eq_true, beq_iff_eq] at hc
      simp only [Option.some.injEq, Prod.mk.injEq] at h
      obtain ⟨rfl, rfl⟩ := h
      exact ⟨rfl, rfl, hc.1, hc.2⟩
    · cases h

theorem scalar_small {r : Nat} (h : r < 55296) : scalar (r : Int) = true := by simp [scalar]; omega

theorem dec_some {l : List UInt8} {r n : Nat} (h : dec l = some (r, n)) : 1 ≤ n ∧ n ≤ 4 ∧ n ≤ l.length ∧ scalar (r : Int) = true ∧ wideOf r = n ∧ r ≤ 1114111 := by
  cases l with
  | nil => cases h
  | cons a t =>
    rw [dec] at h
    have sc : ∀ {r : Nat}, scalar (r : Int) = true → r ≤ 1114111 := by
      intro r hr; simp [scalar] at hr; omega
    split at h
    · simp only [Option.some.injEq, Prod.mk.injEq] at h
      obtain ⟨rfl, rfl⟩ := h
      exact ⟨by omega, by omega, by simp, scalar_small (by omega), by rw [wideOf, if_pos (by omega)], by omega⟩
    split at h
    · cases h
    split at h
    · obtain ⟨h1, rfl, h3, h4⟩ := fin_some h
      have := acc_len h1
      exact ⟨by omega, by omega, by simp; omega, h3, h4, sc h3⟩
    split at h
    · obtain ⟨h1, rfl, h3, h4⟩ := fin_some h
      have := acc_len h1
      exact ⟨by omega, by omega, by simp; omega, h3, h4, sc h3⟩
    split at h
    · obtain ⟨h1, rfl, h3, h4⟩ := fin_some h
      have := acc_len h1
      exact ⟨by omega, by omega, by simp; omega, h3, h4, sc h3⟩
    · cases h

/-- The form of a scalar, as the document writes it. -/
def form (r : Nat) : List UInt8 :=
  if r < 128 then [UInt8.ofNat r]
  else if r < 2048 then [UInt8.ofNat (192 + r / 64), UInt8.ofNat (128 + r % 64)]
  else if r < 65536 then [UInt8.ofNat (224 + r / 4096), UInt8.ofNat (128 + r / 64 % 64), UInt8.ofNat (128 + r % 64)]
  else [UInt8.ofNat (240 + r / 262144), UInt8.ofNat (128 + r / 4096 % 64), UInt8.ofNat (128 + r / 64 % 64), UInt8.ofNat (128 + r % 64)]

theorem form_length (r : Nat) : (form r).length = wideOf r := by
  unfold form wideOf
  repeat (first | split | rfl)

theorem ofNat_toNat {n : Nat} (h : n < 256) : (UInt8.ofNat n).toNat = n := by
  simp [UInt8.toNat_ofNat']; omega
theorem u8_eq {a : UInt8} {n : Nat} (hn : n < 256) : a = UInt8.ofNat n ↔ a.toNat = n := by
  constructor
  · rintro rfl; exact ofNat_toNat hn
  · rintro rfl; simp

/-- What stands at the front is told just if it begins with the form of a scalar. -/
theorem dec_iff (l : List UInt8) (r n : Nat) : dec l = some (r, n) ↔ scalar (r : Int) = true ∧ wideOf r = n ∧ l.take n = form r := by
  constructor
  · intro h
    obtain ⟨h1, h2, h3, h4, h5, h6⟩ := dec_some h
    refine ⟨h4, h5, ?_⟩
    cases l with
    | nil => cases h
    | cons a t =>
      have ha := a.toNat_lt
      rw [dec] at h
      split at h
      · simp only [Option.some.injEq, Prod.mk.injEq] at h
        obtain ⟨rfl, rfl⟩ := h
        rw [form, if_pos (by omega)]
        simp
      split at h
      · cases h
      split at h
      · obtain ⟨g1, rfl, g3, g4⟩ := fin_some h
        obtain ⟨b, t, rfl⟩ : ∃ b t', t = b :: t' := by cases t with | nil => cases g1 | cons b t => exact ⟨b, t, rfl⟩
        have hb := b.toNat_lt
        simp only [acc] at g1
        split at g1
        · rename_i hc
          simp [cont] at hc
          simp only [Option.some.injEq] at g1
          simp only [wideOf] at g4
          rw [form, if_neg (by split at g4 <;> omega), if_pos (by split at g4 <;> (try split at g4) <;> (try split at g4) <;> omega)]
          simp only [List.take_succ_cons, List.take_zero, List.cons.injEq, and_true]
          exact ⟨(u8_eq (by omega)).2 (by omega), (u8_eq (by omega)).2 (by omega)⟩
        · cases g1
      split at h
      · obtain ⟨g1, rfl, g3, g4⟩ := fin_some h
        obtain ⟨b, t, rfl⟩ : ∃ b t', t = b :: t' := by cases t with | nil => cases g1 | cons b t => exact ⟨b, t, rfl⟩
        have hb := b.toNat_lt
        simp only [acc] at g1
        split at g1
        · rename_i hc
          simp [cont] at hc
          obtain ⟨c, t, rfl⟩ : ∃ b t', t = b :: t' := by cases t with | nil => cases g1 | cons b t => exact ⟨b, t, rfl⟩
          have hc' := c.toNat_lt
          simp only [acc] at g1
          split at g1
          · rename_i hd
            simp [cont] at hd
            simp only [Option.some.injEq] at g1
            simp only [wideOf] at g4
            have q1 : ¬ r < 128 := by split at g4 <;> omega
            have q2 : ¬ r < 2048 := by rw [if_neg q1] at g4; split at g4 <;> omega
            have q3 : r < 65536 := by rw [if_neg q1, if_neg q2] at g4; split at g4 <;> omega
            rw [form, if_neg q1, if_neg q2, if_pos q3]
            simp only [List.take_succ_cons, List.take_zero, List.cons.injEq, and_true]
            exact ⟨(u8_eq (by omega)).2 (by omega), (u8_eq (by omega)).2 (by omega), (u8_eq (by omega)).2 (by omega)⟩
          · cases g1
        · cases g1
      split at h
      · obtain ⟨g1, rfl, g3, g4⟩ := fin_some h
        obtain ⟨b, t, rfl⟩ : ∃ b t', t = b :: t' := by cases t with | nil => cases g1 | cons b t => exact ⟨b, t, rfl⟩
        have hb := b.toNat_lt
        simp only [acc] at g1
        split at g1
        · rename_i hc
          simp [cont] at hc
          obtain ⟨c, t, rfl⟩ : ∃ b t', t = b :: t' := by cases t with | nil => cases g1 | cons b t => exact ⟨b, t, rfl⟩
          have hc' := c.toNat_lt
          simp only [acc] at g1
          split at g1
          · rename_i hd
            simp [cont] at hd
            obtain ⟨d, t, rfl⟩ : ∃ b t', t = b :: t' := by cases t with | nil => cases g1 | cons b t => exact ⟨b, t, rfl⟩
            have hd' := d.toNat_lt
            simp only [acc] at g1
            split at g1
            · rename_i he
              simp [cont] at he
              simp only [Option.some.injEq] at g1
              simp only [wideOf] at g4
              have q1 : ¬ r < 128 := by split at g4 <;> omega
              have q2 : ¬ r < 2048 := by rw [if_neg q1] at g4; split at g4 <;> omega
              have q3 : ¬ r < 65536 := by rw [if_neg q1, if_neg q2] at g4; split at g4 <;> omega
              rw [form, if_neg q1, if_neg q2, if_neg q3]
              simp only [List.take_succ_cons, List.take_zero, List.cons.injEq, and_true]
              exact ⟨(u8_eq (by omega)).2 (by omega), (u8_eq (by omega)).2 (by omega), (u8_eq (by omega)).2 (by omega), (u8_eq (by omega)).2 (by omega)⟩
            · cases g1
          · cases g1
        · cases g1
      · cases h
  · rintro ⟨h1, rfl, h3⟩
    have hs : r ≤ 1114111 := by simp [scalar] at h1; omega
    have key : ∀ m, fin m (some r) = if wideOf r == m then some (r, m) else none := by intro m; simp [fin, h1]
    unfold form at h3
    unfold wideOf at h3 ⊢
    by_cases q1 : r < 128
    · rw [if_pos q1, if_pos q1] at h3
      rw [if_pos q1]
      cases l with
      | nil => cases h3
      | cons a t =>
        simp only [List.take_succ_cons, List.take_zero, List.cons.injEq, and_true] at h3
        have := (u8_eq (by omega)).1 h3
        rw [dec, if_pos (by omega), this]
    rw [if_neg q1, if_neg q1] at h3
    rw [if_neg q1]
    by_cases q2 : r < 2048
    · rw [if_pos q2, if_pos q2] at h3
      rw [if_pos q2]
      rcases l with _ | ⟨a, _ | ⟨b, t⟩⟩
      · cases h3
      · simp at h3
      · simp only [List.take_succ_cons, List.take_zero, List.cons.injEq, and_true] at h3
        have ha := (u8_eq (by omega)).1 h3.1
        have hb := (u8_eq (by omega)).1 h3.2
        rw [dec, if_neg (by omega), if_neg (by omega), if_pos (by omega), acc, if_pos (by simp [cont]; omega), acc]
        rw [show (a.toNat - 192) * 64 + (b.toNat - 128) = r by omega, key, wideOf, if_neg q1, if_pos q2]
        rfl
    rw [if_neg q2, if_neg q2] at h3
    rw [if_neg q2]
    by_cases q3 : r < 65536
    · rw [if_pos q3, if_pos q3] at h3
      rw [if_pos q3]
      rcases l with _ | ⟨a, _ | ⟨b, _ | ⟨c, t⟩⟩⟩
      · cases h3
      · simp at h3
      · simp at h3
      · simp only [List.take_succ_cons, List.take_zero, List.cons.injEq, and_true] at h3
        have ha := (u8_eq (by omega)).1 h3.1
        have hb := (u8_eq (by omega)).1 h3.2.1
        have hc := (u8_eq (by omega)).1 h3.2.2
        rw [dec, if_neg (by omega), if_neg (by omega), if_neg (by omega), if_pos (by omega), acc, if_pos (by simp [cont]; omega), acc, if_pos (by simp [cont]; omega), acc]
        rw [show ((a.toNat - 224) * 64 + (b.toNat - 128)) * 64 + (c.toNat - 128) = r by omega, key, wideOf, if_neg q1, if_neg q2, if_pos q3]
        rfl
    · rw [if_neg q3, if_neg q3] at h3
      rw [if_neg q3]
      rcases l with _ | ⟨a, _ | ⟨b, _ | ⟨c, _ | ⟨d, t⟩⟩⟩⟩
      · cases h3
      · simp at h3
      · simp at h3
      · simp at h3
      · simp only [List.take_succ_cons, List.take_zero, List.cons.injEq, and_true] at h3
        have ha := (u8_eq (by omega)).1 h3.1
        have hb := (u8_eq (by omega)).1 h3.2.1
        have hc := (u8_eq (by omega)).1 h3.2.2.1
        have hd := (u8_eq (by omega)).1 h3.2.2.2
        rw [dec, if_neg (by omega), if_neg (by omega), if_neg (by omega), if_neg (by omega), if_pos (by omega), acc, if_pos (by simp [cont]; omega), acc, if_pos (by simp [cont]; omega), acc, if_pos (by simp [cont]; omega), acc]
        rw [show (((a.toNat - 240) * 64 + (b.toNat - 128)) * 64 + (c.toNat - 128)) * 64 + (d.toNat - 128) = r by omega, key, wideOf, if_neg q1, if_neg q2, if_neg q3]
        rfl
end Go.Proofs.YtpdacbiiaglodaaGreat.U

/-
  LAYER 4 (utf), plain: the forms of a text, one behind the other, up to the first that is none.
-/
namespace Go.Proofs.YtpdacbiiaglodaaGreat.U
set_option maxRecDepth 100000

def rsN : Nat → List UInt8 → List (Nat × Nat)
  | 0, _ => []
  | f + 1, l => match dec l with
    | none => []
    | some (r, n) => (r, n) :: rsN f (l.drop n)
/-- The scalars from the front, with the lengths of their forms. -/
def rs (l : List UInt8) : List (Nat × Nat) := rsN l.length l
/-- How many bytes they take. -/
def tot (l : List UInt8) : Nat := ((rs l).map (·.2)).sum

theorem dec_nil : dec [] = none := rfl
theorem rsN_fuel : ∀ (f g : Nat) (l : List UInt8), l.length ≤ f → l.length ≤ g → rsN f l = rsN g l
  | 0, 0, _, _, _ => rfl
  | 0, g + 1, l, h, _ => by
    obtain rfl : l = [] := List.length_eq_zero_iff.1 (by omega)
    rw [rsN, rsN, dec_nil]
  | f + 1, 0, l, _, h => by
    obtain rfl : l = [] := List.length_eq_zero_iff.1 (by omega)
    rw [rsN, rsN, dec_nil]
  | f + 1, g + 1, l, h1, h2 => by
    rw [rsN, rsN]
    cases h : dec l with
    | none => rfl
    | some x =>
      obtain ⟨r, n⟩ := x
      have := dec_some h
      simp only
      rw [rsN_fuel f g (l.drop n) (by simp; omega) (by simp; omega)]
theorem rs_none {l : List UInt8} (h : dec l = none) : rs l = [] := by
  unfold rs
  cases hl : l.length with
  | zero => rfl
  | succ k => rw [rsN, h]
theorem rs_some {l : List UInt8} {r n : Nat} (h : dec l = some (r, n)) : rs l = (r, n) :: rs (l.drop n) := by
  have h1 := dec_some h
  unfold rs
  obtain ⟨k, hk⟩ : ∃ k, l.length = k + 1 := ⟨l.length - 1, by omega⟩
  rw [hk, rsN, h]
  simp only
  rw [rsN_fuel k (l.drop n).length (l.drop n) (by simp; omega) (by simp)]
theorem tot_none {l : List UInt8} (h : dec l = none) : tot l = 0 := by rw [tot, rs_none h]; rfl
theorem tot_some {l : List UInt8} {r n : Nat} (h : dec l = some (r, n)) : tot l = n + tot (l.drop n) := by rw [tot, rs_some h]; simp [tot]
theorem tot_le : ∀ (k : Nat) (l : List UInt8), l.length ≤ k → tot l ≤ l.length
  | 0, l, h => by
    obtain rfl : l = [] := List.length_eq_zero_iff.1 (by omega)
    simp [tot, rs, rsN]
  | k + 1, l, h => by
    cases hd : dec l with
    | none => rw [tot_none hd]; omega
    | some x =>
      obtain ⟨r, n⟩ := x
      have h1 := dec_some hd
      rw [tot_some hd]
      have := tot_le k (l.drop n) (by simp; omega)
      simp at this
      omega
theorem tot_length (l : List UInt8) : tot l ≤ l.length := tot_le _ l (Nat.le_refl _)
theorem tot_nil : tot [] = 0 := rfl
end Go.Proofs.YtpdacbiiaglodaaGreat.U

/-
  LAYER 4 (utf), plain: what the reference reckons of n bytes, and when it is the form at the front.
-/
namespace Go.Proofs.YtpdacbiiaglodaaGreat.U
set_option maxRecDepth 100000

def byteAt (l : List UInt8) (i : Nat) : Int := ((l.getD i 0).toNat : Int)
def cand (n : Nat) (l : List UInt8) : Int :=
  if n = 1 then byteAt l 0
  else if n = 2 then (byteAt l 0 - 192) * 64 + byteAt l 1 - 128
  else if n = 3 then ((byteAt l 0 - 224) * 64 + byteAt l 1 - 128) * 64 + byteAt l 2 - 128
  else (((byteAt l 0 - 240) * 64 + byteAt l 1 - 128) * 64 + byteAt l 2 - 128) * 64 + byteAt l 3 - 128

theorem byteAt_take {l m : List UInt8} {n : Nat} (h : l.take n = m) {i : Nat} (hi : i < n) : byteAt l i = byteAt m i := by
  subst h
  unfold byteAt
  rw [List.getD_eq_getElem?_getD, List.getD_eq_getElem?_getD, List.getElem?_take_of_lt hi]

theorem cand_form (r : Nat) (hr : r ≤ 1114111) : cand (wideOf r) (form r) = (r : Int) := by
  unfold wideOf form
  by_cases h1 : r < 128
  · rw [if_pos h1, if_pos h1]
    simp only [cand, if_true, byteAt, List.getD_cons_zero, ofNat_toNat (show r < 256 by omega)]
  rw [if_neg h1, if_neg h1]
  by_cases h2 : r < 2048
  · rw [if_pos h2, if_pos h2]
    simp only [cand, byteAt, List.getD_cons_zero, List.getD_cons_succ, ofNat_toNat (show 192 + r / 64 < 256 by omega), ofNat_toNat (show 128 + r % 64 < 256 by omega)]
    rw [if_neg (by omega), if_pos trivial]
    omega
  rw [if_neg h2, if_neg h2]
  by_cases h3 : r < 65536
  · rw [if_pos h3, if_pos h3]
    simp only [cand, byteAt, List.getD_cons_zero, List.getD_cons_succ, ofNat_toNat (show 224 + r / 4096 < 256 by omega), ofNat_toNat (show 128 + r / 64 % 64 < 256 by omega), ofNat_toNat (show 128 + r % 64 < 256 by omega)]
    rw [if_neg (by omega), if_neg (by omega), if_pos trivial]
    omega
  · rw [if_neg h3, if_neg h3]
    simp only [cand, byteAt, List.getD_cons_zero, List.getD_cons_succ, ofNat_toNat (show 240 + r / 262144 < 256 by omega), ofNat_toNat (show 128 + r / 4096 % 64 < 256 by omega), ofNat_toNat (show 128 + r / 64 % 64 < 256 by omega), ofNat_toNat (show 128 + r % 64 < 256 by omega)]
    rw [if_neg (by omega), if_neg (by omega), if_neg (by omega)]
    omega

theorem cand_take {l m : List UInt8} {n : Nat} (h : l.take n = m) (h1 : 1 ≤ n) (h4 : n ≤ 4) : cand n l = cand n m := by
  rcases (by omega : n = 1 ∨ n = 2 ∨ n = 3 ∨ n = 4) with rfl | rfl | rfl | rfl
  · show byteAt l 0 = byteAt m 0
    rw [byteAt_take h (i := 0) (by omega)]
  · show (byteAt l 0 - 192) * 64 + byteAt l 1 - 128 = (byteAt m 0 - 192) * 64 + byteAt m 1 - 128
    rw [byteAt_take h (i := 0) (by omega), byteAt_take h (i := 1) (by omega)]
  · show ((byteAt l 0 - 224) * 64 + byteAt l 1 - 128) * 64 + byteAt l 2 - 128 = ((byteAt m 0 - 224) * 64 + byteAt m 1 - 128) * 64 + byteAt m 2 - 128
    rw [byteAt_take h (i := 0) (by omega), byteAt_take h (i := 1) (by omega), byteAt_take h (i := 2) (by omega)]
  · show (((byteAt l 0 - 240) * 64 + byteAt l 1 - 128) * 64 + byteAt l 2 - 128) * 64 + byteAt l 3 - 128 = (((byteAt m 0 - 240) * 64 + byteAt m 1 - 128) * 64 + byteAt m 2 - 128) * 64 + byteAt m 3 - 128
    rw [byteAt_take h (i := 0) (by omega), byteAt_take h (i := 1) (by omega), byteAt_take h (i := 2) (by omega), byteAt_take h (i := 3) (by omega)]

theorem scalar_nat {c : Int} (h : scalar c = true) : ∃ r : Nat, c = (r : Int) ∧ r ≤ 1114111 := by
  simp [scalar] at h
  exact ⟨c.toNat, by omega, by omega⟩

/-- n bytes at the front are a form just if what is reckoned of them is a scalar whose form they are. -/
theorem cand_yes {l : List UInt8} {n r : Nat} (hn : n ≤ l.length) (hs : scalar (r : Int) = true) (hf : form r = l.take n) : dec l = some (r, n) := by
  refine (dec_iff l r n).2 ⟨hs, ?_, hf.symm⟩
  rw [← form_length, hf, List.length_take]
  omega
theorem cand_no {l : List UInt8} {n r : Nat} (hd : dec l = some (r, n)) : cand n l = (r : Int) ∧ scalar (r : Int) = true ∧ form r = l.take n := by
  obtain ⟨h1, h2, h3⟩ := (dec_iff l r n).1 hd
  have h4 := dec_some hd
  refine ⟨?_, h1, h3.symm⟩
  rw [cand_take h3 h4.1 h4.2.1, ← h2]
  exact cand_form r h4.2.2.2.2.2
end Go.Proofs.YtpdacbiiaglodaaGreat.U

/-
  LAYER 4 (utf), plain: the model's own reading of a text's next rune is that of its form, where there is one; what []rune(s) lays, then.
-/
namespace Go.Proofs.YtpdacbiiaglodaaGreat.U
set_option maxRecDepth 100000

theorem get_str (s : ByteArray) (i j : Nat) (h : i + j < s.size) : ((s.get! (i + j)).toNat : Int) = byteAt (s.data.toList.drop i) j := by
  unfold byteAt
  rw [List.getD_eq_getElem?_getD, List.getElem?_drop, List.getElem?_eq_getElem (by simpa using h)]
  simp only [Option.getD_some, ByteArray.get!, Array.getElem_toList]
  rw [getElem!_pos s.data (i + j) (by simpa using h)]

theorem dec_decode {s : ByteArray} {i r n : Nat} (h : dec (s.data.toList.drop i) = some (r, n)) : Utf8.decode s i = (r, n) := by
  have hd := dec_some h
  have hlen : n ≤ s.size - i := by have := hd.2.2.1; simpa using this
  have hi : i + n ≤ s.size := by omega
  obtain ⟨h1, h2, h3⟩ := (dec_iff _ _ _).1 h
  have hr : r ≤ 1114111 := hd.2.2.2.2.2
  have hsc : r < 55296 ∨ 57343 < r := by simp [scalar] at h1; omega
  rw [Lib.decode_at]
  generalize hN : s.size - i = N at hlen
  have B : ∀ j, j < n → ((s.get! (i + j)).toNat : Int) = byteAt (form r) j := fun j hj => (get_str s i j (by omega)).trans (byteAt_take h3 hj)
  have B0 := B 0 (by omega)
  simp only [Nat.add_zero] at B0
  generalize (s.get! i).toNat = c0 at B0
  unfold wideOf at h2
  unfold form at B B0
  by_cases q1 : r < 128
  · rw [if_pos q1] at h2 B0
    subst h2
    simp only [byteAt, List.getD_cons_zero, ofNat_toNat (show r < 256 by omega)] at B0
    rw [Lib.decodeN, if_pos (by omega)]
    simp only [Prod.mk.injEq, and_true]; omega
  rw [if_neg q1] at h2 B0
  by_cases q2 : r < 2048
  · rw [if_pos q2] at h2 B0
    subst h2
    have B1 := B 1 (by omega)
    rw [if_neg q1, if_pos q2] at B1
    generalize (s.get! (i + 1)).toNat = c1 at B1
    simp only [byteAt, List.getD_cons_zero, List.getD_cons_succ, ofNat_toNat (show 192 + r / 64 < 256 by omega), ofNat_toNat (show 128 + r % 64 < 256 by omega)] at B0 B1
    rw [Lib.decodeN, if_neg (by omega), if_pos ⟨by omega, by omega, by omega⟩, if_pos (by omega)]
    simp only [Prod.mk.injEq, and_true]; omega
  rw [if_neg q2] at h2 B0
  by_cases q3 : r < 65536
  · rw [if_pos q3] at h2 B0
    subst h2
    have B1 := B 1 (by omega)
    have B2 := B 2 (by omega)
    rw [if_neg q1, if_neg q2, if_pos q3] at B1 B2
    generalize (s.get! (i + 1)).toNat = c1 at B1
    generalize (s.get! (i + 2)).toNat = c2 at B2
    simp only [byteAt, List.getD_cons_zero, List.getD_cons_succ, ofNat_toNat (show 224 + r / 4096 < 256 by omega), ofNat_toNat (show 128 + r / 64 % 64 < 256 by omega), ofNat_toNat (show 128 + r % 64 < 256 by omega)] at B0 B1 B2
    rw [Lib.decodeN, if_neg (by omega), if_neg (by omega), if_pos ⟨by omega, ⟨by omega, by omega⟩, by omega, by omega⟩, if_pos ⟨by omega, by omega⟩]
    simp only [Prod.mk.injEq, and_true]; omega
  · rw [if_neg q3] at h2 B0
    subst h2
    have B1 := B 1 (by omega)
    have B2 := B 2 (by omega)
    have B3 := B 3 (by omega)
    rw [if_neg q1, if_neg q2, if_neg q3] at B1 B2 B3
    generalize (s.get! (i + 1)).toNat = c1 at B1
    generalize (s.get! (i + 2)).toNat = c2 at B2
    generalize (s.get! (i + 3)).toNat = c3 at B3
    simp only [byteAt, List.getD_cons_zero, List.getD_cons_succ, ofNat_toNat (show 240 + r / 262144 < 256 by omega), ofNat_toNat (show 128 + r / 4096 % 64 < 256 by omega), ofNat_toNat (show 128 + r / 64 % 64 < 256 by omega), ofNat_toNat (show 128 + r % 64 < 256 by omega)] at B0 B1 B2 B3
    rw [Lib.decodeN, if_neg (by omega), if_neg (by omega), if_neg (by omega), if_pos ⟨by omega, ⟨by omega, by omega⟩, ⟨by omega, by omega⟩, by omega, by omega⟩, if_pos ⟨by omega, by omega⟩]
    simp only [Prod.mk.injEq, and_true]; omega

/-- A rune's cell. -/
def runeCells (l : List Int) : List Value := l.map (Value.int .i32)
/-- The scalars of a text, from the front. -/
def runes (l : List UInt8) : List Int := (rs l).map fun x => (x.1 : Int)
theorem runes_nil : runes [] = [] := rfl
theorem runes_some {l : List UInt8} {r n : Nat} (h : dec l = some (r, n)) : runes l = (r : Int) :: runes (l.drop n) := by
  unfold runes; rw [rs_some h]; rfl

theorem runesFrom_eq (s : ByteArray) : ∀ (f i : Nat) (acc : Array Value), i ≤ s.size → s.size - i ≤ f → tot (s.data.toList.drop i) = s.size - i →
    Conv.runesFrom s f i acc = acc ++ (runeCells (runes (s.data.toList.drop i))).toArray
  | 0, i, acc, h1, h2, h3 => by
    rw [Conv.runesFrom, List.drop_eq_nil_of_le (by simp; omega)]
    simp [runes_nil, runeCells]
  | f + 1, i, acc, h1, h2, h3 => by
    rw [Conv.runesFrom]
    by_cases hi : i < s.size
    · rw [if_pos hi]
      cases hd : dec (s.data.toList.drop i) with
      | none => rw [tot_none hd] at h3; omega
      | some x =>
        obtain ⟨r, n⟩ := x
        have hs := dec_some hd
        have hl : n ≤ s.size - i := by simpa using hs.2.2.1
        rw [tot_some hd, List.drop_drop] at h3
        rw [dec_decode hd]
        simp only
        rw [runesFrom_eq s f (i + n) _ (by omega) (by omega) (by omega), runes_some hd, List.drop_drop]
        simp [runeCells]
    · rw [if_neg hi, List.drop_eq_nil_of_le (by simp; omega)]
      simp [runes_nil, runeCells]
end Go.Proofs.YtpdacbiiaglodaaGreat.U
