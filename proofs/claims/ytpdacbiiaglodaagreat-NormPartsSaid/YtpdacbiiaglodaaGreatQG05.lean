/-
  LAYER 6 (norm), plain: a list in blocks, each sorted stably. No program, no world.
-/
import Derived.Test.YtpdacbiiaglodaaGreatQG04
import Derived.Test.YtpdacbiiaglodaaGreatQG03
import Derived.Test.YtpdacbiiaglodaaGreatQG01
namespace Go.Proofs.YtpdacbiiaglodaaGreat
set_option maxRecDepth 100000

section
variable {α : Type}
/-- Whole blocks, each sorted. -/
inductive FullB (key : α → Int) (bs : Nat) : List α → List α → Prop
  | nil : FullB key bs [] []
  | snoc {P0 P A0 A : List α} : FullB key bs P0 P → StM key A0 A → A0.length = bs → FullB key bs (P0 ++ A0) (P ++ A)
/-- Blocks, the last of which may be shorter. -/
inductive RestB (key : α → Int) (bs : Nat) : List α → List α → Prop
  | last {A0 A : List α} : StM key A0 A → A0.length ≤ bs → RestB key bs A0 A
  | cons {A0 A R0 R : List α} : StM key A0 A → A0.length = bs → RestB key bs R0 R → RestB key bs (A0 ++ R0) (A ++ R)
variable {key : α → Int} {bs : Nat}
theorem FullB.rest {P0 P : List α} (h : FullB key bs P0 P) : ∀ {R0 R : List α}, RestB key bs R0 R → RestB key bs (P0 ++ R0) (P ++ R) := by
  induction h with
  | nil => intro R0 R h; exact h
  | snoc _ hA hl ih =>
    intro R0 R h
    have := ih (RestB.cons hA hl h)
    simpa using this
theorem FullB.length {P0 P : List α} (h : FullB key bs P0 P) : P.length = P0.length := by
  induction h with
  | nil => rfl
  | snoc _ hA _ ih => have := hA.2.2; simp; omega
theorem RestB.length {P0 P : List α} (h : RestB key bs P0 P) : P.length = P0.length := by
  induction h with
  | last hA _ => exact hA.2.2
  | cons hA _ _ ih => have := hA.2.2; simp; omega
theorem stm_nil : StM key ([] : List α) [] := StM.self List.Pairwise.nil
theorem RestB.one {R0 R : List α} (h : RestB key bs R0 R) : R0.length ≤ bs → StM key R0 R := by
  cases h with
  | last hA _ => exact fun _ => hA
  | cons hA hl hR =>
    rename_i A0 A R0 R
    intro hle
    have h0 : R0 = [] := List.length_eq_zero_iff.1 (by rw [List.length_append] at hle; omega)
    have h1 : R = [] := List.length_eq_zero_iff.1 (by rw [hR.length, h0]; rfl)
    rw [h0, h1, List.append_nil, List.append_nil]
    exact hA
theorem RestB.front {R0 R : List α} (h : RestB key bs R0 R) (hlt : bs < R0.length) : ∃ A0 A T0 T, R0 = A0 ++ T0 ∧ R = A ++ T ∧ StM key A0 A ∧ A0.length = bs ∧ RestB key bs T0 T := by
  cases h with
  | last _ hl => exact absurd hlt (Nat.not_lt.2 hl)
  | cons hA hl hR => exact ⟨_, _, _, _, rfl, rfl, hA, hl, hR⟩
theorem RestB.two {R0 R : List α} (h : RestB key bs R0 R) (hp : 0 < bs) (hlt : bs + bs ≤ R0.length) : ∃ A0 A B0 B T0 T, R0 = A0 ++ (B0 ++ T0) ∧ R = A ++ (B ++ T) ∧ StM key A0 A ∧ StM key B0 B ∧ A0.length = bs ∧ B0.length = bs ∧ RestB key bs T0 T := by
  obtain ⟨A0, A, T0, T, rfl, rfl, hA, hl, hR⟩ := h.front (by omega)
  rw [List.length_append] at hlt
  by_cases h1 : bs < T0.length
  · obtain ⟨B0, B, S0, S, rfl, rfl, hB, hlB, hS⟩ := hR.front h1
    exact ⟨A0, A, B0, B, S0, S, rfl, rfl, hA, hB, hl, hlB, hS⟩
  · exact ⟨A0, A, T0, T, [], [], by simp, by simp, hA, hR.one (by omega), hl, by omega, .last stm_nil (Nat.zero_le _)⟩
theorem StM.two {A0 A B0 B M : List α} (hA : StM key A0 A) (hB : StM key B0 B) (h : StM key (A ++ B) M) : StM key (A0 ++ B0) M :=
  StM.trans (Flt.append hA.1 hB.1) (by rw [List.length_append, List.length_append, hA.2.2, hB.2.2]) h
end
end Go.Proofs.YtpdacbiiaglodaaGreat

/-
  LAYER 6 (norm), plain: canonical order of code points, pieces, streams. No program, no world.
-/
namespace Go.Proofs.YtpdacbiiaglodaaGreat
set_option maxRecDepth 100000

section
variable (f : Int → Int)

/-- A code point laid into a list from behind (the list lies turned round). -/
def insB (r : Int) : List Int → List Int
  | [] => [r]
  | y :: t => if 0 < f r ∧ f r < f y then y :: insB r t else r :: y :: t
def insR (out : List Int) (r : Int) : List Int := (insB f r out.reverse).reverse
/-- The canonical order. -/
def ord (l : List Int) : List Int := l.foldl (insR f) []

theorem insB_length (r : Int) : ∀ l, (insB f r l).length = l.length + 1
  | [] => rfl
  | y :: t => by rw [insB]; split <;> simp [insB_length r t]
theorem insR_length (out : List Int) (r : Int) : (insR f out r).length = out.length + 1 := by simp [insR, insB_length]
theorem foldl_length : ∀ (l out : List Int), (l.foldl (insR f) out).length = out.length + l.length
  | [], out => rfl
  | x :: t, out => by rw [List.foldl_cons, foldl_length t, insR_length, List.length_cons]; omega
theorem ord_length (l : List Int) : (ord f l).length = l.length := by simp [ord, foldl_length]

theorem insB_split (r : Int) : ∀ l : List Int, ∃ A B, l = A ++ B ∧ insB f r l = A ++ r :: B ∧ (∀ y ∈ A, 0 < f r ∧ f r < f y) ∧ (∀ y, B.head? = some y → ¬ (0 < f r ∧ f r < f y))
  | [] => ⟨[], [], rfl, rfl, by simp, by simp⟩
  | y :: t => by
    rw [insB]
    split
    · rename_i h
      obtain ⟨A, B, e, q1, q2, q3⟩ := insB_split r t
      refine ⟨y :: A, B, by rw [e]; rfl, by rw [q1]; rfl, ?_, q3⟩
      intro z hz
      rcases List.mem_cons.1 hz with rfl | hz
      · exact h
      · exact q2 z hz
    · rename_i h
      exact ⟨[], y :: t, rfl, rfl, by simp, by simpa using h⟩
/-- Where a code point comes to stand. -/
theorem insR_split (out : List Int) (r : Int) : ∃ S1 S2, out = S1 ++ S2 ∧ insR f out r = S1 ++ r :: S2 ∧ (∀ y ∈ S2, 0 < f r ∧ f r < f y) ∧ (∀ y, S1.getLast? = some y → ¬ (0 < f r ∧ f r < f y)) := by
  obtain ⟨A, B, e, q1, q2, q3⟩ := insB_split f r out.reverse
  refine ⟨B.reverse, A.reverse, ?_, ?_, ?_, ?_⟩
  · have := congrArg List.reverse e
    simpa using this
  · rw [insR, q1]; simp
  · intro y hy; exact q2 y (by simpa using hy)
  · intro y hy; exact q3 y (by simpa using hy)

theorem insB_stop (r x : Int) (P : List Int) (hx : f x ≤ 0) : ∀ Q : List Int, insB f r (Q ++ x :: P) = insB f r (Q ++ [x]) ++ P
  | [] => by
    have : ¬ (0 < f r ∧ f r < f x) := by omega
    rw [List.nil_append, List.nil_append, insB, insB, if_neg this, if_neg this]
    rfl
  | y :: Q => by
    rw [List.cons_append, List.cons_append, insB, insB, insB_stop r x P hx Q]
    split <;> simp
theorem insB_end (r x : Int) (hx : f x ≤ 0) : ∀ Q : List Int, ∃ Q', insB f r (Q ++ [x]) = Q' ++ [x]
  | [] => by
    have : ¬ (0 < f r ∧ f r < f x) := by omega
    exact ⟨[r], by rw [List.nil_append, insB, if_neg this]; rfl⟩
  | y :: Q => by
    obtain ⟨Q', e⟩ := insB_end r x hx Q
    rw [List.cons_append, insB, e]
    split
    · exact ⟨y :: Q', rfl⟩
    · exact ⟨r :: y :: Q, rfl⟩
theorem insR_stop (P Q : List Int) (x r : Int) (hx : f x ≤ 0) : ∃ Q', insR f (P ++ x :: Q) r = P ++ x :: Q' ∧ insR f (x :: Q) r = x :: Q' := by
  obtain ⟨Q', e⟩ := insB_end f r x hx Q.reverse
  refine ⟨Q'.reverse, ?_, ?_⟩
  · rw [insR, show (P ++ x :: Q).reverse = Q.reverse ++ x :: P.reverse by simp, insB_stop f r x P.reverse hx, e]; simp
  · rw [insR, show (x :: Q).reverse = Q.reverse ++ [x] by simp, e]; simp
theorem foldl_stop (P : List Int) (x : Int) (hx : f x ≤ 0) : ∀ (B Q : List Int), B.foldl (insR f) (P ++ x :: Q) = P ++ B.foldl (insR f) (x :: Q)
  | [], Q => rfl
  | r :: B, Q => by
    obtain ⟨Q', e1, e2⟩ := insR_stop f P Q x r hx
    rw [List.foldl_cons, List.foldl_cons, e1, e2]
    exact foldl_stop P x hx B Q'
/-- A starter parts the order. -/
theorem ord_split (A B : List Int) (x : Int) (hx : f x ≤ 0) : ord f (A ++ x :: B) = ord f A ++ ord f (x :: B) := by
  unfold ord
  rw [List.foldl_append, List.foldl_cons, List.foldl_cons]
  have h1 : ∀ out, insR f out x = out ++ [x] := by
    intro out
    obtain ⟨S1, S2, e, q1, q2, q3⟩ := insR_split f out x
    cases S2 with
    | nil => rw [q1, e]; simp
    | cons y t => have := q2 y (by simp); omega
  rw [h1, h1]
  have := foldl_stop f (A.foldl (insR f) []) x hx B []
  simpa using this

/-- One piece, in order: sorted stably. -/
theorem foldl_stm : ∀ (ms L S : List Int), StM f L S → (∀ m ∈ ms, 0 < f m) → StM f (L ++ ms) (ms.foldl (insR f) S)
  | [], L, S, h, _ => by simpa using h
  | m :: ms, L, S, h, hm => by
    rw [List.foldl_cons]
    obtain ⟨S1, S2, e, q1, q2, q3⟩ := insR_split f S m
    have hm0 := hm m (by simp)
    have := h.insert e (fun y hy => (q2 y hy).2) (fun y hy => by have := q3 y hy; omega)
    rw [← q1] at this
    have := foldl_stm ms (L ++ [m]) _ this (fun y hy => hm y (by simp [hy]))
    simpa using this
theorem ord_piece (x : Int) (ms : List Int) (hm : ∀ m ∈ ms, 0 < f m) : StM f (x :: ms) (ord f (x :: ms)) := by
  have h1 : insR f [] x = [x] := rfl
  unfold ord
  rw [List.foldl_cons, h1]
  exact foldl_stm f ms [x] [x] (StM.self (List.pairwise_singleton _ _)) hm
theorem ord_nil : ord f [] = [] := rfl

/-! ### A stream -/
/-- Code points come one by one: what is finished, what is held. -/
def psh : List Int → List Int → List Int × List Int
  | held, [] => ([], held)
  | held, x :: t => if f x = 0 then (ord f held ++ (psh [x] t).1, (psh [x] t).2) else psh (held ++ [x]) t
theorem psh_ord : ∀ (xs held : List Int), ord f (held ++ xs) = (psh f held xs).1 ++ ord f (psh f held xs).2
  | [], held => by simp [psh]
  | x :: t, held => by
    rw [psh]
    split
    · rename_i h
      rw [ord_split f held t x (by omega)]
      have := psh_ord t [x]
      simp only [List.singleton_append] at this
      rw [this]; simp
    · have := psh_ord t (held ++ [x])
      simpa using this
theorem psh_append : ∀ (xs ys held : List Int), psh f held (xs ++ ys) = ((psh f held xs).1 ++ (psh f (psh f held xs).2 ys).1, (psh f (psh f held xs).2 ys).2)
  | [], ys, held => by simp [psh]
  | x :: t, ys, held => by
    rw [List.cons_append, psh, psh]
    split
    · rw [psh_append t ys [x]]; simp
    · rw [psh_append t ys (held ++ [x])]
end
end Go.Proofs.YtpdacbiiaglodaaGreat

/-
  LAYER 4 (utf), plain: the form of a scalar at the front of a list of bytes. No program is named here.
-/
namespace Go.Proofs.YtpdacbiiaglodaaGreat.U
set_option maxRecDepth 100000

/-- A byte that may only stand behind a form's first. -/
def cont (b : UInt8) : Bool := decide (128 ≤ b.toNat) && decide (b.toNat < 192)
def scalar (r : Int) : Bool := decide (0 ≤ r) && decide (r < 55296) || decide (57343 < r) && decide (r ≤ 1114111)
def wideOf (r : Nat) : Nat := if r < 128 then 1 else if r < 2048 then 2 else if r < 65536 then 3 else 4
/-- n bytes more, six bits each. -/
def acc : Nat → Nat → List UInt8 → Option Nat
  | r, 0, _ => some r
  | _, _ + 1, [] => none
  | r, n + 1, b :: t => if cont b then acc (r * 64 + (b.toNat - 128)) n t else none
def fin (n : Nat) : Option Nat → Option (Nat × Nat)
  | none => none
  | some r => if scalar (r : Int) && wideOf r == n then some (r, n) else none
/-- The scalar whose form stands at the front, and how many bytes it has. -/
def dec : List UInt8 → Option (Nat × Nat)
  | [] => none
  | a :: t =>
    if a.toNat < 128 then some (a.toNat, 1)
    else if a.toNat < 192 then none
    else if a.toNat < 224 then fin 2 (acc (a.toNat - 192) 1 t)
    else if a.toNat < 240 then fin 3 (acc (a.toNat - 224) 2 t)
    else if a.toNat < 248 then fin 4 (acc (a.toNat - 240) 3 t)
    else none

theorem acc_short : ∀ (n r : Nat) (l : List UInt8), l.length < n → acc r n l = none
  | 0, _, _, h => absurd h (Nat.not_lt_zero _)
  | n + 1, _, [], _ => rfl
  | n + 1, r, b :: t, h => by
    rw [acc]
    split
    · exact acc_short n _ t (by simpa using h)
    · rfl
theorem acc_len {n r x : Nat} {l : List UInt8} (h : acc r n l = some x) : n ≤ l.length := by
  by_cases hl : l.length < n
  · rw [acc_short n r l hl] at h; cases h
  · omega
theorem acc_lt : ∀ (n r : Nat) (l : List UInt8) (x B : Nat), acc r n l = some x → r < B → x < B * 64 ^ n
  | 0, r, l, x, B, h, hr => by simp [acc] at h; subst h; simpa using hr
  | n + 1, _, [], _, _, h, _ => by simp [acc] at h
  | n + 1, r, b :: t, x, B, h, hr => by
    rw [acc] at h
    split at h
    · have := acc_lt n _ t x (B * 64) h (by have := b.toNat_lt; rename_i hc; simp [cont] at hc; omega)
      rw [Nat.pow_succ, Nat.mul_comm (64 ^ n) 64, ← Nat.mul_assoc]
      exact this
    · cases h

theorem fin_some {n m r : Nat} {o : Option Nat} (h : fin n o = some (r, m)) : o = some r ∧ m = n ∧ scalar (r : Int) = true ∧ wideOf r = n := by
  cases o with
  | none => cases h
  | some x =>
    rw [fin] at h
    split at h
    · rename_i hc
      simp only [Bool.and_eq_true, beq_iff_eq] at hc
      simp only [Option.some.injEq, Prod.mk.injEq] at h
      obtain ⟨rfl, rfl⟩ := h
      exact ⟨rfl, rfl, hc.1, hc.2⟩
    · cases h

theorem scalar_small {r : Nat} (h : r < 55296) : scalar (r : Int) = true := by simp [scalar]; omega

theorem dec_some {l : List UInt8} {r n : Nat} (h : dec l = some (r, n)) : 1 ≤ n ∧ n ≤ 4 ∧ n ≤ l.length ∧ scalar (r : Int) = true ∧ wideOf r = n ∧ r ≤ 1114111 := by
  cases l with
  | nil => cases h
  | cons a t =>
    rw [dec] at h
    have sc : ∀ {r : Nat}, scalar (r : Int) = true → r ≤ 1114111 := by
      intro r hr; simp [scalar] at hr; omega
    split at h
    · simp only [Option.some.injEq, Prod.mk.injEq] at h
      obtain ⟨rfl, rfl⟩ := h
      exact ⟨by omega, by omega, by simp, scalar_small (by omega), by rw [wideOf, if_pos (by omega)], by omega⟩
    split at h
    · cases h
    split at h
    · obtain ⟨h1, rfl, h3, h4⟩ := fin_some h
      have := acc_len h1
      exact ⟨by omega, by omega, by simp; omega, h3, h4, sc h3⟩
    split at h
    · obtain ⟨h1, rfl, h3, h4⟩ := fin_some h
      have := acc_len h1
      exact ⟨by omega, by omega, by simp; omega, h3, h4, sc h3⟩
    split at h
    · obtain ⟨h1, rfl, h3, h4⟩ := fin_some h
      have := acc_len h1
      exact ⟨by omega, by omega, by simp; omega, h3, h4, sc h3⟩
    · cases h

/-- The form of a scalar, as the document writes it. -/
def form (r : Nat) : List UInt8 :=
  if r < 128 then [UInt8.ofNat r]
  else if r < 2048 then [UInt8.ofNat (192 + r / 64), UInt8.ofNat (128 + r % 64)]
  else if r < 65536 then [UInt8.ofNat (224 + r / 4096), UInt8.ofNat (128 + r / 64 % 64), UInt8.ofNat (128 + r % 64)]
  else [UInt8.ofNat (240 + r / 262144), UInt8.ofNat (128 + r / 4096 % 64), UInt8.ofNat (128 + r / 64 % 64), UInt8.ofNat (128 + r % 64)]

theorem form_length (r : Nat) : (form r).length = wideOf r := by
  unfold form wideOf
  repeat (first | split | rfl)

theorem ofNat_toNat {n : Nat} (h : n < 256) : (UInt8.ofNat n).toNat = n := by
  simp [UInt8.toNat_ofNat']; omega
theorem u8_eq {a : UInt8} {n : Nat} (hn : n < 256) : a = UInt8.ofNat n ↔ a.toNat = n := by
  constructor
  · rintro rfl; exact ofNat_toNat hn
  · rintro rfl; simp

/-- What stands at the front is told just if it begins with the form of a scalar. -/
theorem dec_iff (l : List UInt8) (r n : Nat) : dec l = some (r, n) ↔ scalar (r : Int) = true ∧ wideOf r = n ∧ l.take n = form r := by
  constructor
  · intro h
    obtain ⟨h1, h2, h3, h4, h5, h6⟩ := dec_some h
    refine ⟨h4, h5, ?_⟩
    cases l with
    | nil => cases h
    | cons a t =>
      have ha := a.toNat_lt
      rw [dec] at h
      split at h
      · simp only [Option.some.injEq, Prod.mk.injEq] at h
        obtain ⟨rfl, rfl⟩ := h
        rw [form, if_pos (by omega)]
        simp
      split at h
      · cases h
      split at h
      · obtain ⟨g1, rfl, g3, g4⟩ := fin_some h
        obtain ⟨b, t, rfl⟩ : ∃ b t', t = b :: t' := by cases t with | nil => cases g1 | cons b t => exact ⟨b, t, rfl⟩
        have hb := b.toNat_lt
        simp only [acc] at g1
        split at g1
        · rename_i hc
          simp [cont] at hc
          simp only [Option.some.injEq] at g1
          simp only [wideOf] at g4
          rw [form, if_neg (by split at g4 <;> omega), if_pos (by split at g4 <;> (try split at g4) <;> (try split at g4) <;> omega)]
          simp only [List.take_succ_cons, List.take_zero, List.cons.injEq, and_true]
          exact ⟨(u8_eq (by omega)).2 (by omega), (u8_eq (by omega)).2 (by omega)⟩
        · cases g1
      split at h
      · obtain ⟨g1, rfl, g3, g4⟩ := fin_some h
        obtain ⟨b, t, rfl⟩ : ∃ b t', t = b :: t' := by cases t with | nil => cases g1 | cons b t => exact ⟨b, t, rfl⟩
        have hb := b.toNat_lt
        simp only [acc] at g1
        split at g1
        · rename_i hc
          simp [cont] at hc
          obtain ⟨c, t, rfl⟩ : ∃ b t', t = b :: t' := by cases t with | nil => cases g1 | cons b t => exact ⟨b, t, rfl⟩
          have hc' := c.toNat_lt
          simp only [acc] at g1
          split at g1
          · rename_i hd
            simp [cont] at hd
            simp only [Option.some.injEq] at g1
            simp only [wideOf] at g4
            have q1 : ¬ r < 128 := by split at g4 <;> omega
            have q2 : ¬ r < 2048 := by rw [if_neg q1] at g4; split at g4 <;> omega
            have q3 : r < 65536 := by rw [if_neg q1, if_neg q2] at g4; split at g4 <;> omega
            rw [form, if_neg q1, if_neg q2, if_pos q3]
            simp only [List.take_succ_cons, List.take_zero, List.cons.injEq, and_true]
            exact ⟨(u8_eq (by omega)).2 (by omega), (u8_eq (by omega)).2 (by omega), (u8_eq (by omega)).2 (by omega)⟩
          · cases g1
        · cases g1
      split at h
      · obtain ⟨g1, rfl, g3, g4⟩ := fin_some h
        obtain ⟨b, t, rfl⟩ : ∃ b t', t = b :: t' := by cases t with | nil => cases g1 | cons b t => exact ⟨b, t, rfl⟩
        have hb := b.toNat_lt
        simp only [acc] at g1
        split at g1
        · rename_i hc
          simp [cont] at hc
          obtain ⟨c, t, rfl⟩ : ∃ b t', t = b :: t' := by cases t with | nil => cases g1 | cons b t => exact ⟨b, t, rfl⟩
          have hc' := c.toNat_lt
          simp only [acc] at g1
          split at g1
          · rename_i hd
            simp [cont] at hd
            obtain ⟨d, t, rfl⟩ : ∃ b t', t = b :: t' := by cases t with | nil => cases g1 | cons b t => exact ⟨b, t, rfl⟩
            have hd' := d.toNat_lt
            simp only [acc] at g1
            split at g1
            · rename_i he
              simp [cont] at he
              simp only [Option.some.injEq] at g1
              simp only [wideOf] at g4
              have q1 : ¬ r < 128 := by split at g4 <;> omega
              have q2 : ¬ r < 2048 := by rw [if_neg q1] at g4; split at g4 <;> omega
              have q3 : ¬ r < 65536 := by rw [if_neg q1, if_neg q2] at g4; split at g4 <;> omega
              rw [form, if_neg q1, if_neg q2, if_neg q3]
              simp only [List.take_succ_cons, List.take_zero, List.cons.injEq, and_true]
              exact ⟨(u8_eq (by omega)).2 (by omega), (u8_eq (by omega)).2 (by omega), (u8_eq (by omega)).2 (by omega), (u8_eq (by omega)).2 (by omega)⟩
            · cases g1
          · cases g1
        · cases g1
      · cases h
  · rintro ⟨h1, rfl, h3⟩
    have hs : r ≤ 1114111 := by simp [scalar] at h1; omega
    have key : ∀ m, fin m (some r) = if wideOf r == m then some (r, m) else none := by intro m; simp [fin, h1]
    unfold form at h3
    unfold wideOf at h3 ⊢
    by_cases q1 : r < 128
    · rw [if_pos q1, if_pos q1] at h3
      rw [if_pos q1]
      cases l with
      | nil => cases h3
      | cons a t =>
        simp only [List.take_succ_cons, List.take_zero, List.cons.injEq, and_true] at h3
        have := (u8_eq (by omega)).1 h3
        rw [dec, if_pos (by omega), this]
    rw [if_neg q1, if_neg q1] at h3
    rw [if_neg q1]
    by_cases q2 : r < 2048
    · rw [if_pos q2, if_pos q2] at h3
      rw [if_pos q2]
      rcases l with _ | ⟨a, _ | ⟨b, t⟩⟩
      · cases h3
      · simp at h3
      · simp only [List.take_succ_cons, List.take_zero, List.cons.injEq, and_true] at h3
        have ha := (u8_eq (by omega)).1 h3.1
        have hb := (u8_eq (by omega)).1 h3.2
        rw [dec, if_neg (by omega), if_neg (by omega), if_pos (by omega), acc, if_pos (by simp [cont]; omega), acc]
        rw [show (a.toNat - 192) * 64 + (b.toNat - 128) = r by omega, key, wideOf, if_neg q1, if_pos q2]
        rfl
    rw [if_neg q2, if_neg q2] at h3
    rw [if_neg q2]
    by_cases q3 : r < 65536
    · rw [if_pos q3, if_pos q3] at h3
      rw [if_pos q3]
      rcases l with _ | ⟨a, _ | ⟨b, _ | ⟨c, t⟩⟩⟩
      · cases h3
      · simp at h3
      · simp at h3
      · simp only [List.take_succ_cons, List.take_zero, List.cons.injEq, and_true] at h3
        have ha := (u8_eq (by omega)).1 h3.1
        have hb := (u8_eq (by omega)).1 h3.2.1
        have hc := (u8_eq (by omega)).1 h3.2.2
        rw [dec, if_neg (by omega), if_neg (by omega), if_neg (by omega), if_pos (by omega), acc, if_pos (by simp [cont]; omega), acc, if_pos (by simp [cont]; omega), acc]
        rw [show ((a.toNat - 224) * 64 + (b.toNat - 128)) * 64 + (c.toNat - 128) = r by omega, key, wideOf, if_neg q1, if_neg q2, if_pos q3]
        rfl
    · rw [if_neg q3, if_neg q3] at h3
      rw [if_neg q3]
      rcases l with _ | ⟨a, _ | ⟨b, _ | ⟨c, _ | ⟨d, t⟩⟩⟩⟩
      · cases h3
      · simp at h3
      · simp at h3
      · simp at h3
      · simp only [List.take_succ_cons, List.take_zero, List.cons.injEq, and_true] at h3
        have ha := (u8_eq (by omega)).1 h3.1
        have hb := (u8_eq (by omega)).1 h3.2.1
        have hc := (u8_eq (by omega)).1 h3.2.2.1
        have hd := (u8_eq (by omega)).1 h3.2.2.2
        rw [dec, if_neg (by omega), if_neg (by omega), if_neg (by omega), if_neg (by omega), if_pos (by omega), acc, if_pos (by simp [cont]; omega), acc, if_pos (by simp [cont]; omega), acc, if_pos (by simp [cont]; omega), acc]
        rw [show (((a.toNat - 240) * 64 + (b.toNat - 128)) * 64 + (c.toNat - 128)) * 64 + (d.toNat - 128) = r by omega, key, wideOf, if_neg q1, if_neg q2, if_neg q3]
        rfl
end Go.Proofs.YtpdacbiiaglodaaGreat.U

/-
  LAYER 4 (utf), plain: the forms of a text, one behind the other, up to the first that is none.
-/
namespace Go.Proofs.YtpdacbiiaglodaaGreat.U
set_option maxRecDepth 100000

def rsN : Nat → List UInt8 → List (Nat × Nat)
  | 0, _ => []
  | f + 1, l => match dec l with
    | none => []
    | some (r, n) => (r, n) :: rsN f (l.drop n)
/-- The scalars from the front, with the lengths of their forms. -/
def rs (l : List UInt8) : List (Nat × Nat) := rsN l.length l
/-- How many bytes they take. -/
def tot (l : List UInt8) : Nat := ((rs l).map (·.2)).sum

theorem dec_nil : dec [] = none := rfl
theorem rsN_fuel : ∀ (f g : Nat) (l : List UInt8), l.length ≤ f → l.length ≤ g → rsN f l = rsN g l
  | 0, 0, _, _, _ => rfl
  | 0, g + 1, l, h, _ => by
    obtain rfl : l = [] := List.length_eq_zero_iff.1 (by omega)
    rw [rsN, rsN, dec_nil]
  | f + 1, 0, l, _, h => by
    obtain rfl : l = [] := List.length_eq_zero_iff.1 (by omega)
    rw [rsN, rsN, dec_nil]
  | f + 1, g + 1, l, h1, h2 => by
    rw [rsN, rsN]
    cases h : dec l with
    | none => rfl
    | some x =>
      obtain ⟨r, n⟩ := x
      have := dec_some h
      simp only
      rw [rsN_fuel f g (l.drop n) (by simp; omega) (by simp; omega)]
theorem rs_none {l : List UInt8} (h : dec l = none) : rs l = [] := by
  unfold rs
  cases hl : l.length with
  | zero => rfl
  | succ k => rw [rsN, h]
theorem rs_some {l : List UInt8} {r n : Nat} (h : dec l = some (r, n)) : rs l = (r, n) :: rs (l.drop n) := by
  have h1 := dec_some h
  unfold rs
  obtain ⟨k, hk⟩ : ∃ k, l.length = k + 1 := ⟨l.length - 1, by omega⟩
  rw [hk, rsN, h]
  simp only
  rw [rsN_fuel k (l.drop n).length (l.drop n) (by simp; omega) (by simp)]
theorem tot_none {l : List UInt8} (h : dec l = none) : tot l = 0 := by rw [tot, rs_none h]; rfl
theorem tot_some {l : List UInt8} {r n : Nat} (h : dec l = some (r, n)) : tot l = n + tot (l.drop n) := by rw [tot, rs_some h]; simp [tot]
theorem tot_le : ∀ (k : Nat) (l : List UInt8), l.length ≤ k → tot l ≤ l.length
  | 0, l, h => by
    obtain rfl : l = [] := List.length_eq_zero_iff.1 (by omega)
    simp [tot, rs, rsN]
  | k + 1, l, h => by
    cases hd : dec l with
    | none => rw [tot_none hd]; omega
    | some x =>
      obtain ⟨r, n⟩ := x
      have h1 := dec_some hd
      rw [tot_some hd]
      have := tot_le k (l.drop n) (by simp; omega)
      simp at this
      omega
theorem tot_length (l : List UInt8) : tot l ≤ l.length := tot_le _ l (Nat.le_refl _)
theorem tot_nil : tot [] = 0 := rfl
end Go.Proofs.YtpdacbiiaglodaaGreat.U

/-
  LAYER 4 (utf), plain: what the reference reckons of n bytes, and when it is the form at the front.
-/
namespace Go.Proofs.YtpdacbiiaglodaaGreat.U
set_option maxRecDepth 100000

def byteAt (l : List UInt8) (i : Nat) : Int := ((l.getD i 0).toNat : Int)
def cand (n : Nat) (l : List UInt8) : Int :=
  if n = 1 then byteAt l 0
  else if n = 2 then (byteAt l 0 - 192) * 64 + byteAt l 1 - 128
  else if n = 3 then ((byteAt l 0 - 224) * 64 + byteAt l 1 - 128) * 64 + byteAt l 2 - 128
  else (((byteAt l 0 - 240) * 64 + byteAt l 1 - 128) * 64 + byteAt l 2 - 128) * 64 + byteAt l 3 - 128

theorem byteAt_take {l m : List UInt8} {n : Nat} (h : l.take n = m) {i : Nat} (hi : i < n) : byteAt l i = byteAt m i := by
  subst h
  unfold byteAt
  rw [List.getD_eq_getElem?_getD, List.getD_eq_getElem?_getD, List.getElem?_take_of_lt hi]

theorem cand_form (r : Nat) (hr : r ≤ 1114111) : cand (wideOf r) (form r) = (r : Int) := by
  unfold wideOf form
  by_cases h1 : r < 128
  · rw [if_pos h1, if_pos h1]
    simp only [cand, if_true, byteAt, List.getD_cons_zero, ofNat_toNat (show r < 256 by omega)]
  rw [if_neg h1, if_neg h1]
  by_cases h2 : r < 2048
  · rw [if_pos h2, if_pos h2]
    simp only [cand, byteAt, List.getD_cons_zero, List.getD_cons_succ, ofNat_toNat (show 192 + r / 64 < 256 by omega), ofNat_toNat (show 128 + r % 64 < 256 by omega)]
    rw [if_neg (by omega), if_pos trivial]
    omega
  rw [if_neg h2, if_neg h2]
  by_cases h3 : r < 65536
  · rw [if_pos h3, if_pos h3]
    simp only [cand, byteAt, List.getD_cons_zero, List.getD_cons_succ, ofNat_toNat (show 224 + r / 4096 < 256 by omega), ofNat_toNat (show 128 + r / 64 % 64 < 256 by omega), ofNat_toNat (show 128 + r % 64 < 256 by omega)]
    rw [if_neg (by omega), if_neg (by omega), if_pos trivial]
    omega
  · rw [if_neg h3, if_neg h3]
    simp only [cand, byteAt, List.getD_cons_zero, List.getD_cons_succ, ofNat_toNat (show 240 + r / 262144 < 256 by omega), ofNat_toNat (show 128 + r / 4096 % 64 < 256 by omega), ofNat_toNat (show 128 + r / 64 % 64 < 256 by omega), ofNat_toNat (show 128 + r % 64 < 256 by omega)]
    rw [if_neg (by omega), if_neg (by omega), if_neg (by omega)]
    omega

theorem cand_take {l m : List UInt8} {n : Nat} (h : l.take n = m) (h1 : 1 ≤ n) (h4 : n ≤ 4) : cand n l = cand n m := by
  rcases (by omega : n = 1 ∨ n = 2 ∨ n = 3 ∨ n = 4) with rfl | rfl | rfl | rfl
  · show byteAt l 0 = byteAt m 0
    rw [byteAt_take h (i := 0) (by omega)]
  · show (byteAt l 0 - 192) * 64 + byteAt l 1 - 128 = (byteAt m 0 - 192) * 64 + byteAt m 1 - 128
    rw [byteAt_take h (i := 0) (by omega), byteAt_take h (i := 1) (by omega)]
  · show ((byteAt l 0 - 224) * 64 + byteAt l 1 - 128) * 64 + byteAt l 2 - 128 = ((byteAt m 0 - 224) * 64 + byteAt m 1 - 128) * 64 + byteAt m 2 - 128
    rw [byteAt_take h (i := 0) (by omega), byteAt_take h (i := 1) (by omega), byteAt_take h (i := 2) (by omega)]
  · show (((byteAt l 0 - 240) * 64 + byteAt l 1 - 128) * 64 + byteAt l 2 - 128) * 64 + byteAt l 3 - 128 = (((byteAt m 0 - 240) * 64 + byteAt m 1 - 128) * 64 + byteAt m 2 - 128) * 64 + byteAt m 3 - 128
    rw [byteAt_take h (i := 0) (by omega), byteAt_take h (i := 1) (by omega), byteAt_take h (i := 2) (by omega), byteAt_take h (i := 3) (by omega)]

theorem scalar_nat {c : Int} (h : scalar c = true) : ∃ r : Nat, c = (r : Int) ∧ r ≤ 1114111 := by
  simp [scalar] at h
  exact ⟨c.toNat, by omega, by omega⟩

/-- n bytes at the front are a form just if what is reckoned of them is a scalar whose form they are. -/
theorem cand_yes {l : List UInt8} {n r : Nat} (hn : n ≤ l.length) (hs : scalar (r : Int) = true) (hf : form r = l.take n) : dec l = some (r, n) := by
  refine (dec_iff l r n).2 ⟨hs, ?_, hf.symm⟩
  rw [← form_length, hf, List.length_take]
  omega
theorem cand_no {l : List UInt8} {n r : Nat} (hd : dec l = some (r, n)) : cand n l = (r : Int) ∧ scalar (r : Int) = true ∧ form r = l.take n := by
  obtain ⟨h1, h2, h3⟩ := (dec_iff l r n).1 hd
  have h4 := dec_some hd
  refine ⟨?_, h1, h3.symm⟩
  rw [cand_take h3 h4.1 h4.2.1, ← h2]
  exact cand_form r h4.2.2.2.2.2
end Go.Proofs.YtpdacbiiaglodaaGreat.U
