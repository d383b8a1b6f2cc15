
/-
  LAYER 4 (utf), plain: the form of a scalar at the front of a list of bytes. No program is named here.
-/
import Derived.Test.YtnnijcafnhhnoaaCBase
namespace Go.Proofs.Ytnnijcafnhhnoaa.U
set_option maxRecDepth 100000

/-- A byte that may only stand behind a form's first. -/
def cont (b : UInt8) : Bool := decide (128 ≤ b.toNat) && decide (b.toNat < 192)
def scalar (r : Int) : Bool := decide (0 ≤ r) && decide (r < 55296) || decide (57343 < r) && decide (r ≤ 1114111)
def wideOf (r : Nat) : Nat := if r < 128 then 1 else if r < 2048 then 2 else if r < 65536 then 3 else 4
/-- n bytes more, six bits each. -/
def acc : Nat → Nat → List UInt8 → Option Nat
  | r, 0, _ => some r
  | _, _ + 1, [] => none
  | r, n + 1, b :: t => if cont b then acc (r * 64 + (b.toNat - 128)) n t else none
def fin (n : Nat) : Option Nat → Option (Nat × Nat)
  | none => none
  | some r => if scalar (r : Int) && wideOf r == n then some (r, n) else none
/-- The scalar whose form stands at the front, and how many bytes it has. -/
def dec : List UInt8 → Option (Nat × Nat)
  | [] => none
  | a :: t =>
    if a.toNat < 128 then some (a.toNat, 1)
    else if a.toNat < 192 then none
    else if a.toNat < 224 then fin 2 (acc (a.toNat - 192) 1 t)
    else if a.toNat < 240 then fin 3 (acc (a.toNat - 224) 2 t)
    else if a.toNat < 248 then fin 4 (acc (a.toNat - 240) 3 t)
    else none

theorem acc_short : ∀ (n r : Nat) (l : List UInt8), l.length < n → acc r n l = none
  | 0, _, _, h => absurd h (Nat.not_lt_zero _)
  | n + 1, _, [], _ => rfl
  | n + 1, r, b :: t, h => by
    rw [acc]
    split
    · exact acc_short n _ t (by simpa using h)
    · rfl
theorem acc_len {n r x : Nat} {l : List UInt8} (h : acc r n l = some x) : n ≤ l.length := by
  by_cases hl : l.length < n
  · rw [acc_short n r l hl] at h; cases h
  · omega
theorem acc_lt : ∀ (n r : Nat) (l : List UInt8) (x B : Nat), acc r n l = some x → r < B → x < B * 64 ^ n
  | 0, r, l, x, B, h, hr => by simp [acc] at h; subst h; simpa using hr
  | n + 1, _, [], _, _, h, _ => by simp [acc] at h
  | n + 1, r, b :: t, x, B, h, hr => by
    rw [acc] at h
    split at h
    · have := acc_lt n _ t x (B * 64) h (by have := b.toNat_lt; rename_i hc; simp [cont] at hc; omega)
      rw [Nat.pow_succ, Nat.mul_comm (64 ^ n) 64, ← Nat.mul_assoc]
      exact this
    · cases h

theorem fin_some {n m r : Nat} {o : Option Nat} (h : fin n o = some (r, m)) : o = some r ∧ m = n ∧ scalar (r : Int) = true ∧ wideOf r = n := by
  cases o with
  | none => cases h
  | some x =>
    rw [fin] at h
    split at h
    · rename_i hc
      simp only [Bool.and_eq_true, beq_iff_eq] at hc
      simp only [Option.some.injEq, Prod.mk.injEq] at h
      obtain ⟨rfl, rfl⟩ := h
      exact ⟨rfl, rfl, hc.1, hc.2⟩
    · cases h

theorem scalar_small {r : Nat} (h : r < 55296) : scalar (r : Int) = true := by simp [scalar]; omega

theorem dec_some {l : List UInt8} {r n : Nat} (h : dec l = some (r, n)) : 1 ≤ n ∧ n ≤ 4 ∧ n ≤ l.length ∧ scalar (r : Int) = true ∧ wideOf r = n ∧ r ≤ 1114111 := by
  cases l with
  | nil => cases h
  | cons a t =>
    rw [dec] at h
    have sc : ∀ {r : Nat}, scalar (r : Int) = true → r ≤ 1114111 := by
      intro r hr; simp [scalar] at hr; omega
    split at h
    · simp only [Option.some.injEq, Prod.mk.injEq] at h
      obtain ⟨rfl, rfl⟩ := h
      exact ⟨by omega, by omega, by simp, scalar_small (by omega), by rw [wideOf, if_pos (by omega)], by omega⟩
    split at h
    · cases h
    split at h
    · obtain ⟨h1, rfl, h3, h4⟩ := fin_some h
      have := acc_len h1
      exact ⟨by omega, by omega, by simp; omega, h3, h4, sc h3⟩
    split at h
    · obtain ⟨h1, rfl, h3, h4⟩ := fin_some h
      have := acc_len h1
      exact ⟨by omega, by omega, by simp; omega, h3, h4, sc h3⟩
    split at h
    · obtain ⟨h1, rfl, h3, h4⟩ := fin_some h
      have := acc_len h1
      exact ⟨by omega, by omega, by simp; omega, h3, h4, sc h3⟩
    · cases h

/-- The form of a scalar, as the document writes it. -/
def form (r : Nat) : List UInt8 :=
  if r < 128 then [UInt8.ofNat r]
  else if r < 2048 then [UInt8.ofNat (192 + r / 64), UInt8.ofNat (128 + r % 64)]
  else if r < 65536 then [UInt8.ofNat (224 + r / 4096), UInt8.ofNat (128 + r / 64 % 64), UInt8.ofNat (128 + r % 64)]
  else [UInt8.ofNat (240 + r / 262144), UInt8.ofNat (128 + r / 4096 % 64), UInt8.ofNat (128 + r / 64 % 64), UInt8.ofNat (128 + r % 64)]

theorem form_length (r : Nat) : (form r).length = wideOf r := by
  unfold form wideOf
  repeat (first | split | rfl)

theorem ofNat_toNat {n : Nat} (h : n < 256) : (UInt8.ofNat n).toNat = n := by
  simp [UInt8.toNat_ofNat']; omega
theorem u8_eq {a : UInt8} {n : Nat} (hn : n < 256) : a = UInt8.ofNat n ↔ a.toNat = n := by
  constructor
  · rintro rfl; exact ofNat_toNat hn
  · rintro rfl; simp

/-- What stands at the front is told just if it begins with the form of a scalar. -/
theorem dec_iff (l : List UInt8) (r n : Nat) : dec l = some (r, n) ↔ scalar (r : Int) = true ∧ wideOf r = n ∧ l.take n = form r := by
  constructor
  · intro h
    obtain ⟨h1, h2, h3, h4, h5, h6⟩ := dec_some h
    refine ⟨h4, h5, ?_⟩
    cases l with
    | nil => cases h
    | cons a t =>
      have ha := a.toNat_lt
      rw [dec] at h
      split at h
      · simp only [Option.some.injEq, Prod.mk.injEq] at h
        obtain ⟨rfl, rfl⟩ := h
        rw [form, if_pos (by omega)]
        simp
      split at h
      · cases h
      split at h
      · obtain ⟨g1, rfl, g3, g4⟩ := fin_some h
        obtain ⟨b, t, rfl⟩ : ∃ b t', t = b :: t' := by cases t with | nil => cases g1 | cons b t => exact ⟨b, t, rfl⟩
        have hb := b.toNat_lt
        simp only [acc] at g1
        split at g1
        · rename_i hc
          simp [cont] at hc
          simp only [Option.some.injEq] at g1
          simp only [wideOf] at g4
          rw [form, if_neg (by split at g4 <;> omega), if_pos (by split at g4 <;> (try split at g4) <;> (try split at g4) <;> omega)]
          simp only [List.take_succ_cons, List.take_zero, List.cons.injEq, and_true]
          exact ⟨(u8_eq (by omega)).2 (by omega), (u8_eq (by omega)).2 (by omega)⟩
        · cases g1
      split at h
      · obtain ⟨g1, rfl, g3, g4⟩ := fin_some h
        obtain ⟨b, t, rfl⟩ : ∃ b t', t = b :: t' := by cases t with | nil => cases g1 | cons b t => exact ⟨b, t, rfl⟩
        have hb := b.toNat_lt
        simp only [acc] at g1
        split at g1
        · rename_i hc
          simp [cont] at hc
          obtain ⟨c, t, rfl⟩ : ∃ b t', t = b :: t' := by cases t with | nil => cases g1 | cons b t => exact ⟨b, t, rfl⟩
          have hc' := c.toNat_lt
          simp only [acc] at g1
          split at g1
          · rename_i hd
            simp [cont] at hd
            simp only [Option.some.injEq] at g1
            simp only [wideOf] at g4
            have q1 : ¬ r < 128 := by split at g4 <;> omega
            have q2 : ¬ r < 2048 := by rw [if_neg q1] at g4; split at g4 <;> omega
            have q3 : r < 65536 := by rw [if_neg q1, if_neg q2] at g4; split at g4 <;> omega
            rw [form, if_neg q1, if_neg q2, if_pos q3]
            simp only [List.take_succ_cons, List.take_zero, List.cons.injEq, and_true]
            exact ⟨(u8_eq (by omega)).2 (by omega), (u8_eq (by omega)).2 (by omega), (u8_eq (by omega)).2 (by omega)⟩
          · cases g1
        · cases g1
      split at h
      · obtain ⟨g1, rfl, g3, g4⟩ := fin_some h
        obtain ⟨b, t, rfl⟩ : ∃ b t', t = b :: t' := by cases t with | nil => cases g1 | cons b t => exact ⟨b, t, rfl⟩
        have hb := b.toNat_lt
        simp only [acc] at g1
        split at g1
        · rename_i hc
          simp [cont] at hc
          obtain ⟨c, t, rfl⟩ : ∃ b t', t = b :: t' := by cases t with | nil => cases g1 | cons b t => exact ⟨b, t, rfl⟩
          have hc' := c.toNat_lt
          simp only [acc] at g1
          split at g1
          · rename_i hd
            simp [cont] at hd
            obtain ⟨d, t, rfl⟩ : ∃ b t', t = b :: t' := by cases t with | nil => cases g1 | cons b t => exact ⟨b, t, rfl⟩
            have hd' := d.toNat_lt
            simp only [acc] at g1
            split at g1
            · rename_i he
              simp [cont] at he
              simp only [Option.some.injEq] at g1
              simp only [wideOf] at g4
              have q1 : ¬ r < 128 := by split at g4 <;> omega
              have q2 : ¬ r < 2048 := by rw [if_neg q1] at g4; split at g4 <;> omega
              have q3 : ¬ r < 65536 := by rw [if_neg q1, if_neg q2] at g4; split at g4 <;> omega
              rw [form, if_neg q1, if_neg q2, if_neg q3]
              simp only [List.take_succ_cons, List.take_zero, List.cons.injEq, and_true]
              exact ⟨(u8_eq (by omega)).2 (by omega), (u8_eq (by omega)).2 (by omega), (u8_eq (by omega)).2 (by omega), (u8_eq (by omega)).2 (by omega)⟩
            · cases g1
          · cases g1
        · cases g1
      · cases h
  · rintro ⟨h1, rfl, h3⟩
    have hs : r ≤ 1114111 := by simp [scalar] at h1; omega
    have key : ∀ m, fin m (some r) = if wideOf r == m then some (r, m) else none := by intro m; simp [fin, h1]
    unfold form at h3
    unfold wideOf at h3 ⊢
    by_cases q1 : r < 128
    · rw [if_pos q1, if_pos q1] at h3
      rw [if_pos q1]
      cases l with
      | nil => cases h3
      | cons a t =>
        simp only [List.take_succ_cons, List.take_zero, List.cons.injEq, and_true] at h3
        have := (u8_eq (by omega)).1 h3
        rw [dec, if_pos (by omega), this]
    rw [if_neg q1, if_neg q1] at h3
    rw [if_neg q1]
    by_cases q2 : r < 2048
    · rw [if_pos q2, if_pos q2] at h3
      rw [if_pos q2]
      rcases l with _ | ⟨a, _ | ⟨b, t⟩⟩
      · cases h3
      · simp at h3
      · simp only [List.take_succ_cons, List.take_zero, List.cons.injEq, and_true] at h3
        have ha := (u8_eq (by omega)).1 h3.1
        have hb := (u8_eq (by omega)).1 h3.2
        rw [dec, if_neg (by omega), if_neg (by omega), if_pos (by omega), acc, if_pos (by simp [cont]; omega), acc]
        rw [show (a.toNat - 192) * 64 + (b.toNat - 128) = r by omega, key, wideOf, if_neg q1, if_pos q2]
        rfl
    rw [if_neg q2, if_neg q2] at h3
    rw [if_neg q2]
    by_cases q3 : r < 65536
    · rw [if_pos q3, if_pos q3] at h3
      rw [if_pos q3]
      rcases l with _ | ⟨a, _ | ⟨b, _ | ⟨c, t⟩⟩⟩
      · cases h3
      · simp at h3
      · simp at h3
      · simp only [List.take_succ_cons, List.take_zero, List.cons.injEq, and_true] at h3
        have ha := (u8_eq (by omega)).1 h3.1
        have hb := (u8_eq (by omega)).1 h3.2.1
        have hc := (u8_eq (by omega)).1 h3.2.2
        rw [dec, if_neg (by omega), if_neg (by omega), if_neg (by omega), if_pos (by omega), acc, if_pos (by simp [cont]; omega), acc, if_pos (by simp [cont]; omega), acc]
        rw [show ((a.toNat - 224) * 64 + (b.toNat - 128)) * 64 + (c.toNat - 128) = r by omega, key, wideOf, if_neg q1, if_neg q2, if_pos q3]
        rfl
    · rw [if_neg q3, if_neg q3] at h3
      rw [if_neg q3]
      rcases l with _ | ⟨a, _ | ⟨b, _ | ⟨c, _ | ⟨d, t⟩⟩⟩⟩
      · cases h3
      · simp at h3
      · simp at h3
      · simp at h3
      · simp only [List.take_succ_cons, List.take_zero, List.cons.injEq, and_true] at h3
        have ha := (u8_eq (by omega)).1 h3.1
        have hb := (u8_eq (by omega)).1 h3.2.1
        have hc := (u8_eq (by omega)).1 h3.2.2.1
        have hd := (u8_eq (by omega)).1 h3.2.2.2
        rw [dec, if_neg (by omega), if_neg (by omega), if_neg (by omega), if_neg (by omega), if_pos (by omega), acc, if_pos (by simp [cont]; omega), acc, if_pos (by simp [cont]; omega), acc, if_pos (by simp [cont]; omega), acc]
        rw [show (((a.toNat - 240) * 64 + (b.toNat - 128)) * 64 + (c.toNat - 128)) * 64 + (d.toNat - 128) = r by omega, key, wideOf, if_neg q1, if_neg q2, if_neg q3]
        rfl
end Go.Proofs.Ytnnijcafnhhnoaa.U
