/-
  LAYER 4 (utf), plain: the form of a scalar at the front of a list of bytes. No program is named here.
-/
import Derived.Test.YtpdacbiiaglodaaGreatQB02
namespace Go.Proofs.YtpdacbiiaglodaaGreat.U
set_option maxRecDepth 100000

/-- A byte that may only stand behind a form's first. -/
def cont (b : UInt8) : Bool := decide (128 ≤ b.toNat) && decide (b.toNat < 192)
def scalar (r : Int) : Bool := decide (0 ≤ r) && decide (r < 55296) || decide (57343 < r) && decide (r ≤ 1114111)
def wideOf (r : Nat) : Nat := if r < 128 then 1 else if r < 2048 then 2 else if r < 65536 then 3 else 4
/-- n bytes more, six bits each. -/
def acc : Nat → Nat → List UInt8 → Option Nat
  | r, 0, _ => some r
  | _, _ + 1, [] => none
  | r, n + 1, b :: t => if cont b then acc (r * 64 + (b.toNat - 128)) n t else none
def fin (n : Nat) : Option Nat → Option (Nat × Nat)
  | none => none
  | some r => if scalar (r : Int) && wideOf r == n then some (r, n) else none
/-- The scalar whose form stands at the front, and how many bytes it has. -/
def dec : List UInt8 → Option (Nat × Nat)
  | [] => none
  | a :: t =>
    if a.toNat < 128 then some (a.toNat, 1)
    else if a.toNat < 192 then none
    else if a.toNat < 224 then fin 2 (acc (a.toNat - 192) 1 t)
    else if a.toNat < 240 then fin 3 (acc (a.toNat - 224) 2 t)
    else if a.toNat < 248 then fin 4 (acc (a.toNat - 240) 3 t)
    else none

theorem acc_short : ∀ (n r : Nat) (l : List UInt8), l.length < n → acc r n l = none
  | 0, _, _, h => absurd h (Nat.not_lt_zero _)
  | n + 1, _, [], _ => rfl
  | n + 1, r, b :: t, h => by
    rw [acc]
    split
    · exact acc_short n _ t (by simpa using h)
    · rfl
theorem acc_len {n r x : Nat} {l : List UInt8} (h : acc r n l = some x) : n ≤ l.length := by
  by_cases hl : l.length < n
  · rw [acc_short n r l hl] at h; cases h
  · omega
theorem acc_lt : ∀ (n r : Nat) (l : List UInt8) (x B : Nat), acc r n l = some x → r < B → x < B * 64 ^ n
  | 0, r, l, x, B, h, hr => by simp [acc] at h; subst h; simpa using hr
  | n + 1, _, [], _, _, h, _ => by simp [acc] at h
  | n + 1, r, b :: t, x, B, h, hr => by
    rw [acc] at h
    split at h
    · have := acc_lt n _ t x (B * 64) h (by have := b.toNat_lt; rename_i hc; simp [cont] at hc; omega)
      rw [Nat.pow_succ, Nat.mul_comm (64 ^ n) 64, ← Nat.mul_assoc]
      exact this
    · cases h

theorem fin_some {n m r : Nat} {o : Option Nat} (h : fin n o = some (r, m)) : o = some r ∧ m = n ∧ scalar (r : Int) = true ∧ wideOf r = n := by
  cases o with
  | none => cases h
  | some x =>
    rw [fin] at h
    split at h
    · rename_i hc
      simp only [Bool.and_eq_true, beq_iff_eq] at hc
      simp only [Option.some.injEq, Prod.mk.injEq] at h
      obtain ⟨rfl, rfl⟩ := h
      exact ⟨rfl, rfl, hc.1, hc.2⟩
    · cases h

theorem scalar_small {r : Nat} (h : r < 55296) : scalar (r : Int) = true := by simp [scalar]; omega

theorem dec_some {l : List UInt8} {r n : Nat} (h : dec l = some (r, n)) : 1 ≤ n ∧ n ≤ 4 ∧ n ≤ l.length ∧ scalar (r : Int) = true ∧ wideOf r = n ∧ r ≤ 1114111 := by
  cases l with
  | nil => cases h
  | cons a t =>
    rw [dec] at h
    have sc : ∀ {r : Nat}, scalar (r : Int) = true → r ≤ 1114111 := by
      intro r hr; simp [scalar] at hr; omega
    split at h
    · simp only [Option.some.injEq, Prod.mk.injEq] at h
      obtain ⟨rfl, rfl⟩ := h
      exact ⟨by omega, by omega, by simp, scalar_small (by omega), by rw [wideOf, if_pos (by omega)], by omega⟩
    split at h
    · cases h
    split at h
    · obtain ⟨h1, rfl, h3, h4⟩ := fin_some h
      have := acc_len h1
      exact ⟨by omega, by omega, by simp; omega, h3, h4, sc h3⟩
    split at h
    · obtain ⟨h1, rfl, h3, h4⟩ := fin_some h
      have := acc_len h1
      exact ⟨by omega, by omega, by simp; omega, h3, h4, sc h3⟩
    split at h
    · obtain ⟨h1, rfl, h3, h4⟩ := fin_some h
      have := acc_len h1
      exact ⟨by omega, by omega, by simp; omega, h3, h4, sc h3⟩
    · cases h

/-- The form of a scalar, as the document writes it. -/
def form (r : Nat) : List UInt8 :=
  if r < 128 then [UInt8.ofNat r]
  else if r < 2048 then [UInt8.ofNat (192 + r / 64), UInt8.ofNat (128 + r % 64)]
  else if r < 65536 then [UInt8.ofNat (224 + r / 4096), UInt8.ofNat (128 + r / 64 % 64), UInt8.ofNat (128 + r % 64)]
  else [UInt8.ofNat (240 + r / 262144), UInt8.ofNat (128 + r / 4096 % 64), UInt8.ofNat (128 + r / 64 % 64), UInt8.ofNat (128 + r % 64)]

theorem form_length (r : Nat) : (form r).length = wideOf r := by
  unfold form wideOf
  repeat (first | split | rfl)

theorem ofNat_toNat {n : Nat} (h : n < 256) : (UInt8.ofNat n).toNat = n := by
  simp [UInt8.toNat_ofNat']; omega
theorem u8_eq {a : UInt8} {n : Nat} (hn : n < 256) : a = UInt8.ofNat n ↔ a.toNat = n := by
  constructor
  · rintro rfl; exact ofNat_toNat hn
  · rintro rfl; simp

/-- What stands at the front is told just if it begins with the form of a scalar. -/
theorem dec_iff (l : List UInt8) (r n : Nat) : dec l = some (r, n) ↔ scalar (r : Int) = true ∧ wideOf r = n ∧ l.take n = form r := by
  constructor
  · intro h
    obtain ⟨h1, h2, h3, h4, h5, h6⟩ := dec_some h
    refine ⟨h4, h5, ?_⟩
    cases l with
    | nil => cases h
    | cons a t =>
      have ha := a.toNat_lt
      rw [dec] at h
      split at h
      · simp only [Option.some.injEq, Prod.mk.injEq] at h
        obtain ⟨rfl, rfl⟩ := h
        rw [form, if_pos (by omega)]
        simp
      split at h
      · cases h
      split at h
      · obtain ⟨g1, rfl, g3, g4⟩ := fin_some h
        obtain ⟨b, t, rfl⟩ : ∃ b t', t = b :: t' := by cases t with | nil => cases g1 | cons b t => exact ⟨b, t, rfl⟩
        have hb := b.toNat_lt
        simp only [acc] at g1
        split at g1
        · rename_i hc
          simp [cont] at hc
          simp only [Option.some.injEq] at g1
          simp only [wideOf] at g4
          rw [form, if_neg (by split at g4 <;> omega), if_pos (by split at g4 <;> (try split at g4) <;> (try split at g4) <;> omega)]
          simp only [List.take_succ_cons, List.take_zero, List.cons.injEq, and_true]
          exact ⟨(u8_eq (by omega)).2 (by omega), (u8_eq (by omega)).2 (by omega)⟩
        · cases g1
      split at h
      · obtain ⟨g1, rfl, g3, g4⟩ := fin_some h
        obtain ⟨b, t, rfl⟩ : ∃ b t', t = b :: t' := by cases t with | nil => cases g1 | cons b t => exact ⟨b, t, rfl⟩
        have hb := b.toNat_lt
        simp only [acc] at g1
        split at g1
        · rename_i hc
          simp [cont] at hc
          obtain ⟨c, t, rfl⟩ : ∃ b t', t = b :: t' := by cases t with | nil => cases g1 | cons b t => exact ⟨b, t, rfl⟩
          have hc' := c.toNat_lt
          simp only [acc] at g1
          split at g1
          · rename_i hd
            simp [cont] at hd
            simp only [Option.some.injEq] at g1
            simp only [wideOf] at g4
            have q1 : ¬ r < 128 := by split at g4 <;> omega
            have q2 : ¬ r < 2048 := by rw [if_neg q1] at g4; split at g4 <;> omega
            have q3 : r < 65536 := by rw [if_neg q1, if_neg q2] at g4; split at g4 <;> omega
            rw [form, if_neg q1, if_neg q2, if_pos q3]
            simp only [List.take_succ_cons, List.take_zero, List.cons.injEq, and_true]
            exact ⟨(u8_eq (by omega)).2 (by omega), (u8_eq (by omega)).2 (by omega), (u8_eq (by omega)).2 (by omega)⟩
          · cases g1
        · cases g1
      split at h
      · obtain ⟨g1, rfl, g3, g4⟩ := fin_some h
        obtain ⟨b, t, rfl⟩ : ∃ b t', t = b :: t' := by cases t with | nil => cases g1 | cons b t => exact ⟨b, t, rfl⟩
        have hb := b.toNat_lt
        simp only [acc] at g1
        split at g1
        · rename_i hc
          simp [cont] at hc
          obtain ⟨c, t, rfl⟩ : ∃ b t', t = b :: t' := by cases t with | nil => cases g1 | cons b t => exact ⟨b, t, rfl⟩
          have hc' := c.toNat_lt
          simp only [acc] at g1
          split at g1
          · rename_i hd
            simp [cont] at hd
            obtain ⟨d, t, rfl⟩ : ∃ b t', t = b :: t' := by cases t with | nil => cases g1 | cons b t => exact ⟨b, t, rfl⟩
            have hd' := d.toNat_lt
            simp only [acc] at g1
            split at g1
            · rename_i he
              simp [cont] at he
              simp only [Option.some.injEq] at g1
              simp only [wideOf] at g4
              have q1 : ¬ r < 128 := by split at g4 <;> omega
              have q2 : ¬ r < 2048 := by rw [if_neg q1] at g4; split at g4 <;> omega
              have q3 : ¬ r < 65536 := by rw [if_neg q1, if_neg q2] at g4; split at g4 <;> omega
              rw [form, if_neg q1, if_neg q2, if_neg q3]
              simp only [List.take_succ_cons, List.take_zero, List.cons.injEq, and_true]
              exact ⟨(u8_eq (by omega)).2 (by omega), (u8_eq (by omega)).2 (by omega), (u8_eq (by omega)).2 (by omega), (u8_eq (by omega)).2 (by omega)⟩
            · cases g1
          · cases g1
        · cases g1
      · cases h
  · rintro ⟨h1, rfl, h3⟩
    have hs : r ≤ 1114111 := by simp [scalar] at h1; omega
    have key : ∀ m, fin m (some r) = if wideOf r == m then some (r, m) else none := by intro m; simp [fin, h1]
    unfold form at h3
    unfold wideOf at h3 ⊢
    by_cases q1 : r < 128
    · rw [if_pos q1, if_pos q1] at h3
      rw [if_pos q1]
      cases l with
      | nil => cases h3
      | cons a t =>
        simp only [List.take_succ_cons, List.take_zero, List.cons.injEq, and_true] at h3
        have := (u8_eq (by omega)).1 h3
        rw [dec, if_pos (by omega), this]
    rw [if_neg q1, if_neg q1] at h3
    rw [if_neg q1]
    by_cases q2 : r < 2048
    · rw [if_pos q2, if_pos q2] at h3
      rw [if_pos q2]
      rcases l with _ | ⟨a, _ | ⟨b, t⟩⟩
      · cases h3
      · simp at h3
      · simp only [List.take_succ_cons, List.take_zero, List.cons.injEq, and_true] at h3
        have ha := (u8_eq (by omega)).1 h3.1
        have hb := (u8_eq (by omega)).1 h3.2
        rw [dec, if_neg (by omega), if_neg (by omega), if_pos (by omega), acc, if_pos (by simp [cont]; omega), acc]
        rw [show (a.toNat - 192) * 64 + (b.toNat - 128) = r by omega, key, wideOf, if_neg q1, if_pos q2]
        rfl
    rw [if_neg q2, if_neg q2] at h3
    rw [if_neg q2]
    by_cases q3 : r < 65536
    · rw [if_pos q3, if_pos q3] at h3
      rw [if_pos q3]
      rcases l with _ | ⟨a, _ | ⟨b, _ | ⟨c, t⟩⟩⟩
      · cases h3
      · simp at h3
      · simp at h3
      · simp only [List.take_succ_cons, List.take_zero, List.cons.injEq, and_true] at h3
        have ha := (u8_eq (by omega)).1 h3.1
        have hb := (u8_eq (by omega)).1 h3.2.1
        have hc := (u8_eq (by omega)).1 h3.2.2
        rw [dec, if_neg (by omega), if_neg (by omega), if_neg (by omega), if_pos (by omega), acc, if_pos (by simp [cont]; omega), acc, if_pos (by simp [cont]; omega), acc]
        rw [show ((a.toNat - 224) * 64 + (b.toNat - 128)) * 64 + (c.toNat - 128) = r by omega, key, wideOf, if_neg q1, if_neg q2, if_pos q3]
        rfl
    · rw [if_neg q3, if_neg q3] at h3
      rw [if_neg q3]
      rcases l with _ | ⟨a, _ | ⟨b, _ | ⟨c, _ | ⟨d, t⟩⟩⟩⟩
      · cases h3
      · simp at h3
      · simp at h3
      · simp at h3
      · simp only [List.take_succ_cons, List.take_zero, List.cons.injEq, and_true] at h3
        have ha := (u8_eq (by omega)).1 h3.1
        have hb := (u8_eq (by omega)).1 h3.2.1
        have hc := (u8_eq (by omega)).1 h3.2.2.1
        have hd := (u8_eq (by omega)).1 h3.2.2.2
        rw [dec, if_neg (by omega), if_neg (by omega), if_neg (by omega), if_neg (by omega), if_pos (by omega), acc, if_pos (by simp [cont]; omega), acc, if_pos (by simp [cont]; omega), acc, if_pos (by simp [cont]; omega), acc]
        rw [show (((a.toNat - 240) * 64 + (b.toNat - 128)) * 64 + (c.toNat - 128)) * 64 + (d.toNat - 128) = r by omega, key, wideOf, if_neg q1, if_neg q2, if_neg q3]
        rfl
end Go.Proofs.YtpdacbiiaglodaaGreat.U

/-
  LAYER 4 (utf), plain: the forms of a text, one behind the other, up to the first that is none.
-/
namespace Go.Proofs.YtpdacbiiaglodaaGreat.U
set_option maxRecDepth 100000

def rsN : Nat → List UInt8 → List (Nat × Nat)
  | 0, _ => []
  | f + 1, l => match dec l with
    | none => []
    | some (r, n) => (r, n) :: rsN f (l.drop n)
/-- The scalars from the front, with the lengths of their forms. -/
def rs (l : List UInt8) : List (Nat × Nat) := rsN l.length l
/-- How many bytes they take. -/
def tot (l : List UInt8) : Nat := ((rs l).map (·.2)).sum

theorem dec_nil : dec [] = none := rfl
theorem rsN_fuel : ∀ (f g : Nat) (l : List UInt8), l.length ≤ f → l.length ≤ g → rsN f l = rsN g l
  | 0, 0, _, _, _ => rfl
  | 0, g + 1, l, h, _ => by
    obtain rfl : l = [] := List.length_eq_zero_iff.1 (by omega)
    rw [rsN, rsN, dec_nil]
  | f + 1, 0, l, _, h => by
    obtain rfl : l = [] := List.length_eq_zero_iff.1 (by omega)
    rw [rsN, rsN, dec_nil]
  | f + 1, g + 1, l, h1, h2 => by
    rw [rsN, rsN]
    cases h : dec l with
    | none => rfl
    | some x =>
      obtain ⟨r, n⟩ := x
      have := dec_some h
      simp only
      rw [rsN_fuel f g (l.drop n) (by simp; omega) (by simp; omega)]
theorem rs_none {l : List UInt8} (h : dec l = none) : rs l = [] := by
  unfold rs
  cases hl : l.length with
  | zero => rfl
  | succ k => rw [rsN, h]
theorem rs_some {l : List UInt8} {r n : Nat} (h : dec l = some (r, n)) : rs l = (r, n) :: rs (l.drop n) := by
  have h1 := dec_some h
  unfold rs
  obtain ⟨k, hk⟩ : ∃ k, l.length = k + 1 := ⟨l.length - 1, by omega⟩
  rw [hk, rsN, h]
  simp only
  rw [rsN_fuel k (l.drop n).length (l.drop n) (by simp; omega) (by simp)]
theorem tot_none {l : List UInt8} (h : dec l = none) : tot l = 0 := by rw [tot, rs_none h]; rfl
theorem tot_some {l : List UInt8} {r n : Nat} (h : dec l = some (r, n)) : tot l = n + tot (l.drop n) := by rw [tot, rs_some h]; simp [tot]
theorem tot_le : ∀ (k : Nat) (l : List UInt8), l.length ≤ k → tot l ≤ l.length
  | 0, l, h => by
    obtain rfl : l = [] := List.length_eq_zero_iff.1 (by omega)
    simp [tot, rs, rsN]
  | k + 1, l, h => by
    cases hd : dec l with
    | none => rw [tot_none hd]; omega
    | some x =>
      obtain ⟨r, n⟩ := x
      have h1 := dec_some hd
      rw [tot_some hd]
      have := tot_le k (l.drop n) (by simp; omega)
      simp at this
      omega
theorem tot_length (l : List UInt8) : tot l ≤ l.length := tot_le _ l (Nat.le_refl _)
theorem tot_nil : tot [] = 0 := rfl
end Go.Proofs.YtpdacbiiaglodaaGreat.U

/-
  LAYER 4 (utf): A RANGE OVER A FUNCTION WHOSE ITERATOR MAY THROW: one law for the caller. No program is named here.
  As range_tells3; a third way out: the iterator has thrown behind some rounds, and the statement is left by that panic.
-/
namespace Go.Proofs.YtpdacbiiaglodaaGreat.U
set_option maxRecDepth 100000
open Go.RowKit

def TellsP {α : Type} (F : Fence) (n : Nat) (P : Program) (g : Nat) (lb : Array Value) (encs : α → Array Value) (Ok : List α → α → World → Prop) (r : Option Nat) (n0 ib : Nat) (S Sp : List α → World → Prop) (Sx : List PanicEntry → List α → World → Prop) (w : World) : Prop :=
  ∀ (l : Nat) (J Jx : List α → World → Prop) (W : World), KeptX n0 ib w W → n0 ≤ W.heap.size →
    (∀ s A B, J s A → A.grownBy B r → J s B) → (∀ s A B, Jx s A → A.grownBy B r → Jx s B) →
    (∀ pre x W1, J pre W1 → Ok pre x W1 → n0 ≤ W1.heap.size → YieldAt F (n - 1) P l (encs x) W1 fun e W' =>
      (e = .returned (.bool true) ∧ J (pre ++ [x]) W' ∧ KeptX n0 ib W1 W') ∨ (e = .returned (.bool false) ∧ Jx (pre ++ [x]) W' ∧ KeptX n0 ib W1 W')) →
    J [] W →
    CallsIn F n P g (#[.func (.yield l) #[] #[]] ++ lb) W fun e W' => ((∃ v, e = .returned v) ∧ ((∃ xs, S xs W' ∧ J xs W') ∨ (∃ pre, Sp pre W' ∧ Jx pre W'))) ∨ (∃ ch pre, e = .panicked ch ∧ Sx ch pre W' ∧ J pre W')

set_option maxHeartbeats 4000000 in
theorem range_tellsP {α : Type} {F : Fence} {n : Nat} {P : Program} {g : Operand} {ps : Array Tmp} {assign body : Code} {Q : Exit → Act → World → Prop} {a : Act} {w : World}
    (hro : F.round = none) (h1 : 1 ≤ n) {gf : Nat} {lb : Array Value} (hg : a.eval g = .func (.func gf) #[] lb) (hFg : F.fn gf) (eg : ∀ args w, (callFunc gf args).run P w = .ok (.enter gf args) w)
    {encs : α → Array Value} {Ok : List α → α → World → Prop} {r : Option Nat} {ib : Nat} {S Sp : List α → World → Prop} {Sx : List PanicEntry → List α → World → Prop}
    (hseq : TellsP F (n - 1) P gf lb encs Ok r w.heap.size ib S Sp Sx w) (hrw : r ≠ some w.heap.size ∧ r ≠ some (w.heap.size + 1)) (hps : ∀ x, (encs x).size = ps.size)
    (hOk : ∀ pre x A B k o, Ok pre x A → A.grownBy B (some k) → A.heap[k]? = some o → o.isCells = false → Ok pre x B)
    (I : List α → World → Prop) (Ix : Code → List α → World → Prop)
    (hI : ∀ s A B k, I s A → A.grownBy B k → (k = r ∨ (∃ q, k = some q ∧ w.heap.size ≤ q ∧ ∀ o, A.heap[q]? = some o → o.isCells = false)) → I s B)
    (hIx : ∀ c s A B k, Ix c s A → A.grownBy B k → (k = r ∨ (∃ q, k = some q ∧ w.heap.size ≤ q ∧ ∀ o, A.heap[q]? = some o → o.isCells = false)) → Ix c s B)
    (h0 : I [] w) (a₁ : α → Act)
    (hassign : ∀ (l : Nat) (x : α) (W : World) (K : Act → World → Prop), K (a₁ x) W →
      assign.wpIn (F.inRound l) (n - 1 - 1) P (Exit.then K (fun _ _ _ => False)) { tmps := (ps.zip (encs x)).foldl (fun t (p, v) => t.setIfInBounds p v) a.tmps, defers := [] } W)
    (hbody : ∀ (l : Nat) (pre : List α) (x : α) (W : World), I pre W → Ok pre x W → w.heap.size ≤ W.heap.size → body.wpIn (F.inRound l) (n - 1 - 1) P (roundLeft w.heap.size ib I Ix (pre ++ [x]) W) (a₁ x) W)
    (hdone : ∀ (D : Nat) (xs : List α) (W W' : World), w.heap.size ≤ D → S xs W → I xs W' → W.grownBy W' (some (D + 1)) → W'.heap[D]? = some (.deferred (some [])) → Q .normal { a with defers := { target := .collected D, args := #[] } :: a.defers } W')
    (hstop : ∀ (D : Nat) (c : Code) (pre : List α) (W W' : World), w.heap.size ≤ D → Sp pre W → Ix c pre W' → W.grownBy W' (some (D + 1)) → W'.heap[D]? = some (.deferred (some [])) → c.wpIn F n P Q { a with defers := { target := .collected D, args := #[] } :: a.defers } W')
    (hpanic : ∀ (D : Nat) (ch : List PanicEntry) (pre : List α) (W : World), w.heap.size ≤ D → Sx ch pre W → I pre W → W.heap[D]? = some (.deferred (some [])) → Q (.panic ch) { a with defers := { target := .collected D, args := #[] } :: a.defers } W) :
    (Code.rangeFunc g ps assign body).wpIn F n P Q a w := by
  refine wpIn_rangeFunc fun fn hfn => ?_
  rw [hro]
  -- the loop's record, in each of its states
  let rec' : LoopState → Option Code → Loop := fun st pe => { state := st, pending := pe, fn, tmps := a.tmps, params := ps, assign, body, defers := w.heap.size }
  obtain ⟨R, hR⟩ : ∃ R, R = rec' := ⟨_, rfl⟩
  obtain ⟨D, hD⟩ : ∃ D, D = w.heap.size := ⟨_, rfl⟩
  obtain ⟨V, hV⟩ : ∃ V, V = (w.alloc (.deferred (some []))).alloc (.loop (R .ready none)) := ⟨_, rfl⟩
  have gV : w.grownBy V none := by rw [hV]; exact (World.grownBy_alloc w _ none).trans (World.grownBy_alloc _ _ none)
  have lV : V.heap[D + 1]? = some (.loop (R .ready none)) := by
    rw [hV, hD]
    have := World.alloc_heap_new (w.alloc (.deferred (some []))) (.loop (R .ready none))
    rwa [World.size_alloc] at this
  have dV : V.heap[D]? = some (.deferred (some [])) := by
    rw [hV, hD]
    exact ((World.grownBy_alloc (w.alloc (.deferred (some []))) (.loop (R .ready none)) none).block w.heap.size (by simp) (by simp)).trans (World.alloc_heap_new w _)
  have hrD : r ≠ some D ∧ r ≠ some (D + 1) := by rw [hD]; exact hrw
  have iV : I [] V := hI _ _ _ (some D) h0 (gbut gV _) (.inr ⟨D, rfl, by omega, fun o ho => by have := (Array.getElem?_eq_some_iff.1 ho).1; omega⟩)
  refine ⟨D + 1, [{ target := .collected D, args := #[] }], V, { target := .fn (.func gf) lb, args := #[.func (.yield (D + 1)) #[] #[]] }, V, gf, #[.func (.yield (D + 1)) #[] #[]] ++ lb, V, ?_, ?_, ?_, ?_, fun _ => h1, ?_⟩
  · rw [hV, hR, hD]; exact run_enterLoop_outer _ _ _ _ _
  · simp only [resolve, hg]
    simp [go_sem]
  · intro f' hf'; simp [Target.leads] at hf'; subst hf'; exact hFg
  · simp [invoke, go_sem, eg]
  · have keepD : ∀ {A B : World} {q : Option Nat} {o : Obj}, A.grownBy B q → q ≠ some D → A.heap[D]? = some o → B.heap[D]? = some o := fun h hq ho => (h.block D (Array.getElem?_eq_some_iff.1 ho).1 (fun e => hq e.symm)).trans ho
    have keepL : ∀ {A B : World} {q : Option Nat} {o : Obj}, A.grownBy B q → q ≠ some (D + 1) → A.heap[D + 1]? = some o → B.heap[D + 1]? = some o := fun h hq ho => (h.block (D + 1) (Array.getElem?_eq_some_iff.1 ho).1 (fun e => hq e.symm)).trans ho
    refine (hseq (D + 1) (fun pre W => I pre W ∧ W.heap[D + 1]? = some (.loop (R .ready none)) ∧ W.heap[D]? = some (.deferred (some [])))
      (fun pre W => ∃ c, Ix c pre W ∧ W.heap[D + 1]? = some (.loop (R .done (some c))) ∧ W.heap[D]? = some (.deferred (some []))) V
      (KeptX.grown (q := D) (gbut gV _) (Nat.le_refl _) (.inr (by omega))) gV.size ?_ ?_ ?_ ⟨iV, lV, dV⟩).mono ?_
    · rintro s A B ⟨h2, h3, h4⟩ hAB
      exact ⟨hI _ _ _ r h2 hAB (.inl rfl), keepL hAB hrD.2 h3, keepD hAB hrD.1 h4⟩
    · rintro s A B ⟨c, h2, h3, h4⟩ hAB
      exact ⟨c, hIx _ _ _ _ r h2 hAB (.inl rfl), keepL hAB hrD.2 h3, keepD hAB hrD.1 h4⟩
    · -- one round
      rintro pre x W ⟨h2, h3, h4⟩ hok hsz
      have hlt : D + 1 < W.heap.size := (Array.getElem?_eq_some_iff.1 h3).1
      have hy := run_yield (P := P) (args := encs x) h3 (by rw [hR]; exact hps x)
      rw [hR] at hy
      refine ⟨fn, _, assign, body, hy, roundIn_of_wpIn hfn (hassign _ x W _ ⟨_, run_beginRound h3 (by rw [hR]), ?_⟩)⟩
      obtain ⟨o2, ho2⟩ : ∃ o2 : Loop, o2 = { R .ready none with state := .busy } := ⟨_, rfl⟩
      rw [← ho2]
      have gU := putObj_grown W (D + 1) (.loop o2)
      have lU : (W.putObj (D + 1) (.loop o2)).heap[D + 1]? = some (.loop o2) := World.putObj_heap_same hlt
      have dU := keepD gU (by simp) h4
      have kU : KeptX w.heap.size ib W (W.putObj (D + 1) (.loop o2)) := KeptX.grown gU hsz (.inr (by omega))
      refine wpIn_mono (hbody _ pre x _ (hI _ _ _ _ h2 gU (.inr ⟨_, rfl, by omega, fun o ho => by rw [h3] at ho; cases ho; rfl⟩)) (hOk _ _ _ _ _ _ hok gU h3 rfl) (Nat.le_trans hsz gU.size)) ?_
      have fin : ∀ (jump : Option Code) (W3 : World), KeepsOthers (W.putObj (D + 1) (.loop o2)) W3 → KeptX w.heap.size ib (W.putObj (D + 1) (.loop o2)) W3 → ∃ W4, (Instr.endRound (D + 1) jump).run P W3 = .ok (.bool jump.isNone) W4 ∧ W3.grownBy W4 (some (D + 1)) ∧
          W4.heap[D + 1]? = some (.loop (R (if jump.isNone then .ready else .done) jump)) ∧ W4.heap[D]? = some (.deferred (some [])) ∧ KeptX w.heap.size ib W W4 ∧ (∀ o, W3.heap[D + 1]? = some o → o.isCells = false) := by
        intro jump W3 hk hx
        have l3 := hk.same _ _ lU rfl
        have d3 := hk.same _ _ dU rfl
        have hrun := run_endRound (P := P) jump l3
        have g4 := putObj_grown W3 (D + 1) (.loop (R (if jump.isNone then .ready else .done) jump))
        refine ⟨_, ?_, g4, World.putObj_heap_same (Array.getElem?_eq_some_iff.1 l3).1, keepD g4 (by simp) d3, (kU.trans hx).trans (KeptX.grown g4 (Nat.le_trans hsz (Nat.le_trans gU.size hx.1)) (.inr (by omega))), fun o ho => by rw [l3] at ho; cases ho; rfl⟩
        rw [hrun, ho2, hR]
      rintro e a3 W3 hp
      cases e with
      | normal =>
        obtain ⟨p1, p2, p3⟩ := hp
        obtain ⟨W4, q1, q2, q3, q4, q5, q6⟩ := fin none W3 p1 p2
        exact ⟨_, _, q1, .inl ⟨rfl, ⟨hI _ _ _ _ p3 q2 (.inr ⟨_, rfl, by omega, q6⟩), q3, q4⟩, q5⟩⟩
      | ret =>
        obtain ⟨p1, p2, p3⟩ := hp
        obtain ⟨W4, q1, q2, q3, q4, q5, q6⟩ := fin (some .ret) W3 p1 p2
        exact ⟨_, _, q1, .inr ⟨rfl, ⟨.ret, hIx _ _ _ _ _ p3 q2 (.inr ⟨_, rfl, by omega, q6⟩), q3, q4⟩, q5⟩⟩
      | exit i =>
        obtain ⟨p1, p2, p3⟩ := hp
        obtain ⟨W4, q1, q2, q3, q4, q5, q6⟩ := fin (some (.exit i)) W3 p1 p2
        exact ⟨_, _, q1, .inr ⟨rfl, ⟨.exit i, hIx _ _ _ _ _ p3 q2 (.inr ⟨_, rfl, by omega, q6⟩), q3, q4⟩, q5⟩⟩
      | goto i =>
        obtain ⟨p1, p2, p3⟩ := hp
        obtain ⟨W4, q1, q2, q3, q4, q5, q6⟩ := fin (some (.goto i)) W3 p1 p2
        exact ⟨_, _, q1, .inr ⟨rfl, ⟨.goto i, hIx _ _ _ _ _ p3 q2 (.inr ⟨_, rfl, by omega, q6⟩), q3, q4⟩, q5⟩⟩
      | panic ch => exact hp.elim
      | outgrown => exact hp.elim
    · -- behind the iterator
      rintro e W2 (⟨⟨v, rfl⟩, (⟨xs, hS, h2, h3, h4⟩ | ⟨pre, hS, c, h2, h3, h4⟩)⟩ | ⟨ch, pre, rfl, hS, h2, h3, h4⟩)
      · have hrun := run_endLoop (P := P) h3 (by rw [hR]; simp [rec'])
        have g4 := putObj_grown W2 (D + 1) (.loop { R .ready none with state := .exhausted })
        refine ⟨none, _, by rw [hrun, hR], ?_⟩
        rw [← hR]
        exact hdone D xs W2 _ (by omega) hS (hI _ _ _ _ h2 g4 (.inr ⟨_, rfl, by omega, fun o ho => by rw [h3] at ho; cases ho; rfl⟩)) g4 (keepD g4 (by simp) h4)
      · have hrun := run_endLoop (P := P) h3 (by rw [hR]; simp [rec'])
        have g4 := putObj_grown W2 (D + 1) (.loop { R .done (some c) with state := .exhausted })
        refine ⟨some c, _, by rw [hrun, hR], ?_⟩
        rw [← hR]
        exact hstop D c pre W2 _ (by omega) hS (hIx _ _ _ _ _ h2 g4 (.inr ⟨_, rfl, by omega, fun o ho => by rw [h3] at ho; cases ho; rfl⟩)) g4 (keepD g4 (by simp) h4)
      · exact hpanic D ch pre W2 (by omega) hS h2 h4

end Go.Proofs.YtpdacbiiaglodaaGreat.U

/-
  LAYER 4 (utf), plain: scalars with their places and widths.
-/
namespace Go.Proofs.YtpdacbiiaglodaaGreat.U
set_option maxRecDepth 100000

/-- place, scalar, width. -/
abbrev Told := Nat × Nat × Nat
def places : Nat → List (Nat × Nat) → List Told
  | _, [] => []
  | k, (r, n) :: t => (k, r, n) :: places (k + n) t
def pls (l : List UInt8) : List Told := places 0 (rs l)
def wsum (l : List Told) : Nat := (l.map (·.2.2)).sum

theorem places_some {l : List UInt8} {k r n : Nat} (h : dec (l.drop k) = some (r, n)) : places k (rs (l.drop k)) = (k, r, n) :: places (k + n) (rs (l.drop (k + n))) := by
  rw [rs_some h, places, List.drop_drop]
theorem places_none {l : List UInt8} {k : Nat} (h : dec (l.drop k) = none) : places k (rs (l.drop k)) = [] := by
  rw [rs_none h, places]
theorem places_sum : ∀ (k : Nat) (t : List (Nat × Nat)), wsum (places k t) = (t.map (·.2)).sum
  | _, [] => rfl
  | k, (r, n) :: t => by
    have := places_sum (k + n) t
    simp [places, wsum] at this ⊢
    exact this
theorem pls_sum (l : List UInt8) : wsum (pls l) = tot l := places_sum 0 (rs l)
theorem wsum_append (a b : List Told) : wsum (a ++ b) = wsum a + wsum b := by simp [wsum]
/-- The place of what comes next is how much was told. -/
theorem place_at : ∀ (k : Nat) (t : List (Nat × Nat)) (pre : List Told) (x : Told) (post : List Told), places k t = pre ++ x :: post → x.1 = k + wsum pre
  | k, [], [], _, _, h => by simp [places] at h
  | k, [], _ :: _, _, _, h => by simp [places] at h
  | k, (r, n) :: t, [], x, post, h => by
    simp [places] at h
    rw [← h.1]
    simp [wsum]
  | k, (r, n) :: t, y :: pre, x, post, h => by
    simp [places] at h
    have := place_at (k + n) t pre x post h.2
    rw [this, ← h.1]
    simp [wsum]
    omega
theorem get_split {α : Type} {l : List α} {i : Nat} {x : α} (h : l[i]? = some x) : l = l.take i ++ x :: l.drop (i + 1) := by
  have hi := (List.getElem?_eq_some_iff.1 h).1
  have := List.take_append_drop i l
  rw [List.drop_eq_getElem_cons hi, (List.getElem?_eq_some_iff.1 h).2] at this
  exact this.symm
/-- What is told at a place is the scalar whose form stands there. -/
theorem told_dec : ∀ (f k : Nat) (l : List UInt8) (i : Nat) (x : Told), l.length - k ≤ f → (places k (rs (l.drop k)))[i]? = some x → dec (l.drop x.1) = some (x.2.1, x.2.2) ∧ k ≤ x.1
  | f, k, l, i, x, hf, h => by
    cases hd : dec (l.drop k) with
    | none => rw [places_none hd] at h; simp at h
    | some y =>
      obtain ⟨r, n⟩ := y
      have hs := dec_some hd
      simp only [List.length_drop] at hs
      rw [places_some hd] at h
      cases i with
      | zero =>
        simp at h
        subst h
        exact ⟨hd, Nat.le_refl _⟩
      | succ j =>
        simp only [List.getElem?_cons_succ] at h
        cases f with
        | zero => omega
        | succ f =>
          obtain ⟨q1, q2⟩ := told_dec f (k + n) l j x (by omega) h
          exact ⟨q1, by omega⟩

/-- Behind all that is told no form stands. -/
theorem end_none : ∀ (f : Nat) (l : List UInt8), l.length ≤ f → dec (l.drop (tot l)) = none
  | f, l, h => by
    cases hd : dec l with
    | none => rw [tot_none hd, List.drop_zero]; exact hd
    | some x =>
      obtain ⟨r, n⟩ := x
      have hs := dec_some hd
      cases f with
      | zero => omega
      | succ f =>
        rw [tot_some hd, ← List.drop_drop]
        exact end_none f (l.drop n) (by simp; omega)

theorem pls_at {l : List UInt8} {i k r n : Nat} (h : (pls l)[i]? = some (k, r, n)) : k = wsum ((pls l).take i) ∧ dec (l.drop k) = some (r, n) := by
  refine ⟨?_, (told_dec l.length 0 l i (k, r, n) (by omega) (by simpa [pls] using h)).1⟩
  have := place_at 0 (rs l) ((pls l).take i) (k, r, n) ((pls l).drop (i + 1)) (get_split h)
  simpa using this
theorem take_next {α : Type} {l pre : List α} {x : α} (h : pre = l.take pre.length) (hx : l[pre.length]? = some x) : pre ++ [x] = l.take (pre ++ [x]).length := by
  rw [List.length_append, List.length_cons, List.length_nil, List.take_add_one, hx]
  simp only [Option.toList_some]
  rw [← h]
end Go.Proofs.YtpdacbiiaglodaaGreat.U
