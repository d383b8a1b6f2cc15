/-
  LAYER 6 (norm), plain: a list in blocks, each sorted stably. No program, no world.
-/
import Derived.Test.YtpdacbiiaglodaaGreatQC01
import Derived.Test.YtpdacbiiaglodaaGreatQC04
import Derived.Test.YtpdacbiiaglodaaGreatQC06
import Derived.Lib.Bytealg
namespace Go.Proofs.YtpdacbiiaglodaaGreat
set_option maxRecDepth 100000

section
variable {α : Type}
/-- Whole blocks, each sorted. -/
inductive FullB (key : α → Int) (bs : Nat) : List α → List α → Prop
  | nil : FullB key bs [] []
  | snoc {P0 P A0 A : List α} : FullB key bs P0 P → StM key A0 A → A0.length = bs → FullB key bs (P0 ++ A0) (P ++ A)
/-- Blocks, the last of which may be shorter. -/
inductive RestB (key : α → Int) (bs : Nat) : List α → List α → Prop
  | last {A0 A : List α} : StM key A0 A → A0.length ≤ bs → RestB key bs A0 A
  | cons {A0 A R0 R : List α} : StM key A0 A → A0.length = bs → RestB key bs R0 R → RestB key bs (A0 ++ R0) (A ++ R)
variable {key : α → Int} {bs : Nat}
theorem FullB.rest {P0 P : List α} (h : FullB key bs P0 P) : ∀ {R0 R : List α}, RestB key bs R0 R → RestB key bs (P0 ++ R0) (P ++ R) := by
  induction h with
  | nil => intro R0 R h; exact h
  | snoc _ hA hl ih =>
    intro R0 R h
    have := ih (RestB.cons hA hl h)
    simpa using this
theorem FullB.length {P0 P : List α} (h : FullB key bs P0 P) : P.length = P0.length := by
  induction h with
  | nil => rfl
  | snoc _ hA _ ih => have := hA.2.2; simp; omega
theorem RestB.length {P0 P : List α} (h : RestB key bs P0 P) : P.length = P0.length := by
  induction h with
  | last hA _ => exact hA.2.2
  | cons hA _ _ ih => have := hA.2.2; simp; omega
theorem stm_nil : StM key ([] : List α) [] := StM.self List.Pairwise.nil
theorem RestB.one {R0 R : List α} (h : RestB key bs R0 R) : R0.length ≤ bs → StM key R0 R := by
  cases h with
  | last hA _ => exact fun _ => hA
  | cons hA hl hR =>
    rename_i A0 A R0 R
    intro hle
    have h0 : R0 = [] := List.length_eq_zero_iff.1 (by rw [List.length_append] at hle; omega)
    have h1 : R = [] := List.length_eq_zero_iff.1 (by rw [hR.length, h0]; rfl)
    rw [h0, h1, List.append_nil, List.append_nil]
    exact hA
theorem RestB.front {R0 R : List α} (h : RestB key bs R0 R) (hlt : bs < R0.length) : ∃ A0 A T0 T, R0 = A0 ++ T0 ∧ R = A ++ T ∧ StM key A0 A ∧ A0.length = bs ∧ RestB key bs T0 T := by
  cases h with
  | last _ hl => exact absurd hlt (Nat.not_lt.2 hl)
  | cons hA hl hR => exact ⟨_, _, _, _, rfl, rfl, hA, hl, hR⟩
theorem RestB.two {R0 R : List α} (h : RestB key bs R0 R) (hp : 0 < bs) (hlt : bs + bs ≤ R0.length) : ∃ A0 A B0 B T0 T, R0 = A0 ++ (B0 ++ T0) ∧ R = A ++ (B ++ T) ∧ StM key A0 A ∧ StM key B0 B ∧ A0.length = bs ∧ B0.length = bs ∧ RestB key bs T0 T := by
  obtain ⟨A0, A, T0, T, rfl, rfl, hA, hl, hR⟩ := h.front (by omega)
  rw [List.length_append] at hlt
  by_cases h1 : bs < T0.length
  · obtain ⟨B0, B, S0, S, rfl, rfl, hB, hlB, hS⟩ := hR.front h1
    exact ⟨A0, A, B0, B, S0, S, rfl, rfl, hA, hB, hl, hlB, hS⟩
  · exact ⟨A0, A, T0, T, [], [], by simp, by simp, hA, hR.one (by omega), hl, by omega, .last stm_nil (Nat.zero_le _)⟩
theorem StM.two {A0 A B0 B M : List α} (hA : StM key A0 A) (hB : StM key B0 B) (h : StM key (A ++ B) M) : StM key (A0 ++ B0) M :=
  StM.trans (Flt.append hA.1 hB.1) (by rw [List.length_append, List.length_append, hA.2.2, hB.2.2]) h
end
end Go.Proofs.YtpdacbiiaglodaaGreat

/-
  LAYER 6 (norm): A RANGE OVER A FUNCTION WHOSE ITERATOR READS WHAT THE ROUNDS TURN: what it needs is a word on the world (V), which the rounds keep. One law for the caller, after range_tells4. No program is named here.
-/
namespace Go.Proofs.YtpdacbiiaglodaaGreat
set_option maxRecDepth 100000
open Go.RowKit

/-- What an iterator promises: called with yield, it calls yield at what it tells, as long as rounds go on; behind each round it finds V. -/
def TellsV {α : Type} (F : Fence) (n : Nat) (P : Program) (g : Nat) (lb : Array Value) (encs : α → Array Value) (Ok : List α → α → World → Prop) (V : List α → World → Prop) (S Sp : List α → World → Prop) : Prop :=
  ∀ (l : Nat) (J Jx : List α → World → Prop) (W : World), (∀ s A, J s A → V s A) →
    (∀ s A B, J s A → A.grownBy B none → J s B) → (∀ s A B, Jx s A → A.grownBy B none → Jx s B) →
    (∀ pre x W1, J pre W1 → Ok pre x W1 → YieldAt F (n - 1) P l (encs x) W1 fun e W' =>
      (e = .returned (.bool true) ∧ J (pre ++ [x]) W') ∨ (e = .returned (.bool false) ∧ Jx (pre ++ [x]) W')) →
    J [] W →
    CallsIn F n P g (#[.func (.yield l) #[] #[]] ++ lb) W fun e W' => (∃ v, e = .returned v) ∧ ((∃ xs, S xs W' ∧ J xs W') ∨ (∃ pre, Sp pre W' ∧ Jx pre W'))

/-- How a round's body may be left. -/
def roundLeftV {α : Type} (n0 : Nat) (I : List α → World → Prop) (Ix : Code → List α → World → Prop) (xs : List α) (W : World) : Exit → Act → World → Prop
  | .normal, _, W' => KeepsFrom n0 W W' ∧ I xs W'
  | .ret, _, W' => KeepsFrom n0 W W' ∧ Ix .ret xs W'
  | .exit i, _, W' => KeepsFrom n0 W W' ∧ Ix (.exit i) xs W'
  | .goto i, _, W' => KeepsFrom n0 W W' ∧ Ix (.goto i) xs W'
  | .panic _, _, _ => False
  | .outgrown, _, _ => False

set_option maxHeartbeats 4000000 in
theorem range_tellsV {α : Type} {F : Fence} {n : Nat} {P : Program} {g : Operand} {ps : Array Tmp} {assign body : Code} {Q : Exit → Act → World → Prop} {a : Act} {w : World}
    (hro : F.round = none) (h1 : 1 ≤ n) {gf : Nat} {lb : Array Value} (hg : a.eval g = .func (.func gf) #[] lb) (hFg : F.fn gf) (eg : ∀ args w, (callFunc gf args).run P w = .ok (.enter gf args) w)
    {encs : α → Array Value} {Ok : List α → α → World → Prop} {V : List α → World → Prop} {S Sp : List α → World → Prop}
    (hseq : TellsV F (n - 1) P gf lb encs Ok V S Sp) (hps : ∀ x, (encs x).size = ps.size)
    (hOk : ∀ pre x A B k o, Ok pre x A → A.grownBy B (some k) → A.heap[k]? = some o → o.isCells = false → Ok pre x B)
    (I : List α → World → Prop) (Ix : Code → List α → World → Prop) (hV : ∀ s A, I s A → V s A) (hn : ∀ s A, I s A → w.heap.size ≤ A.heap.size)
    (hI : ∀ s A B k, I s A → A.grownBy B k → (k = none ∨ (∃ q, k = some q ∧ w.heap.size ≤ q ∧ ∀ o, A.heap[q]? = some o → o.isCells = false)) → I s B)
    (hIx : ∀ c s A B k, Ix c s A → A.grownBy B k → (k = none ∨ (∃ q, k = some q ∧ w.heap.size ≤ q ∧ ∀ o, A.heap[q]? = some o → o.isCells = false)) → Ix c s B)
    (h0 : I [] w) (Ax : α → Act → World → Prop)
    (hOk0 : ∀ pre x A B, Ok pre x A → A.grownBy B none → Ok pre x B)
    (hAx : ∀ x a' A B k o, Ax x a' A → A.grownBy B (some k) → A.heap[k]? = some o → o.isCells = false → Ax x a' B)
    (hassign : ∀ (l : Nat) (x : α) (W : World) (K : Act → World → Prop), (∀ a' W', W.grownBy W' none → Ax x a' W' → K a' W') →
      assign.wpIn (F.inRound l) (n - 1 - 1) P (Exit.then K (fun _ _ _ => False)) { tmps := (ps.zip (encs x)).foldl (fun t (p, v) => t.setIfInBounds p v) a.tmps, defers := [] } W)
    (hbody : ∀ (l : Nat) (pre : List α) (x : α) (a' : Act) (W : World), I pre W → Ok pre x W → Ax x a' W → w.heap.size ≤ W.heap.size → body.wpIn (F.inRound l) (n - 1 - 1) P (roundLeftV w.heap.size I Ix (pre ++ [x]) W) a' W)
    (hdone : ∀ (D : Nat) (xs : List α) (W W' : World), w.heap.size ≤ D → S xs W → I xs W' → W.grownBy W' (some (D + 1)) → W'.heap[D]? = some (.deferred (some [])) → Q .normal { a with defers := { target := .collected D, args := #[] } :: a.defers } W')
    (hstop : ∀ (D : Nat) (c : Code) (pre : List α) (W W' : World), w.heap.size ≤ D → Sp pre W → Ix c pre W' → W.grownBy W' (some (D + 1)) → W'.heap[D]? = some (.deferred (some [])) → c.wpIn F n P Q { a with defers := { target := .collected D, args := #[] } :: a.defers } W') :
    (Code.rangeFunc g ps assign body).wpIn F n P Q a w := by
  refine wpIn_rangeFunc fun fn hfn => ?_
  rw [hro]
  -- the loop's record, in each of its states
  let rec' : LoopState → Option Code → Loop := fun st pe => { state := st, pending := pe, fn, tmps := a.tmps, params := ps, assign, body, defers := w.heap.size }
  obtain ⟨R, hR⟩ : ∃ R, R = rec' := ⟨_, rfl⟩
  obtain ⟨D, hD⟩ : ∃ D, D = w.heap.size := ⟨_, rfl⟩
  obtain ⟨U, hU⟩ : ∃ U, U = (w.alloc (.deferred (some []))).alloc (.loop (R .ready none)) := ⟨_, rfl⟩
  have gV : w.grownBy U none := by rw [hU]; exact (World.grownBy_alloc w _ none).trans (World.grownBy_alloc _ _ none)
  have lV : U.heap[D + 1]? = some (.loop (R .ready none)) := by
    rw [hU, hD]
    have := World.alloc_heap_new (w.alloc (.deferred (some []))) (.loop (R .ready none))
    rwa [World.size_alloc] at this
  have dV : U.heap[D]? = some (.deferred (some [])) := by
    rw [hU, hD]
    exact ((World.grownBy_alloc (w.alloc (.deferred (some []))) (.loop (R .ready none)) none).block w.heap.size (by simp) (by simp)).trans (World.alloc_heap_new w _)
  have iV : I [] U := hI _ _ _ (some D) h0 (gbut gV _) (.inr ⟨D, rfl, by omega, fun o ho => by have := (Array.getElem?_eq_some_iff.1 ho).1; omega⟩)
  refine ⟨D + 1, [{ target := .collected D, args := #[] }], U, { target := .fn (.func gf) lb, args := #[.func (.yield (D + 1)) #[] #[]] }, U, gf, #[.func (.yield (D + 1)) #[] #[]] ++ lb, U, ?_, ?_, ?_, ?_, fun _ => h1, ?_⟩
  · rw [hU, hR, hD]; exact run_enterLoop_outer _ _ _ _ _
  · simp only [resolve, hg]
    simp [go_sem]
  · intro f' hf'; simp [Target.leads] at hf'; subst hf'; exact hFg
  · simp [invoke, go_sem, eg]
  · have keepD : ∀ {A B : World} {q : Option Nat} {o : Obj}, A.grownBy B q → q ≠ some D → A.heap[D]? = some o → B.heap[D]? = some o := fun h hq ho => (h.block D (Array.getElem?_eq_some_iff.1 ho).1 (fun e => hq e.symm)).trans ho
    have keepL : ∀ {A B : World} {q : Option Nat} {o : Obj}, A.grownBy B q → q ≠ some (D + 1) → A.heap[D + 1]? = some o → B.heap[D + 1]? = some o := fun h hq ho => (h.block (D + 1) (Array.getElem?_eq_some_iff.1 ho).1 (fun e => hq e.symm)).trans ho
    refine (hseq (D + 1) (fun pre W => I pre W ∧ W.heap[D + 1]? = some (.loop (R .ready none)) ∧ W.heap[D]? = some (.deferred (some [])))
      (fun pre W => ∃ c, Ix c pre W ∧ W.heap[D + 1]? = some (.loop (R .done (some c))) ∧ W.heap[D]? = some (.deferred (some []))) U
      (fun s A h => hV s A h.1) ?_ ?_ ?_ ⟨iV, lV, dV⟩).mono ?_
    · rintro s A B ⟨h2, h3, h4⟩ hAB
      exact ⟨hI _ _ _ none h2 hAB (.inl rfl), keepL hAB (by simp) h3, keepD hAB (by simp) h4⟩
    · rintro s A B ⟨c, h2, h3, h4⟩ hAB
      exact ⟨c, hIx _ _ _ _ none h2 hAB (.inl rfl), keepL hAB (by simp) h3, keepD hAB (by simp) h4⟩
    · -- one round
      rintro pre x W ⟨h2, h3, h4⟩ hok
      have hsz := hn _ _ h2
      have hlt : D + 1 < W.heap.size := (Array.getElem?_eq_some_iff.1 h3).1
      have hy := run_yield (P := P) (args := encs x) h3 (by rw [hR]; exact hps x)
      rw [hR] at hy
      refine ⟨fn, _, assign, body, hy, roundIn_of_wpIn hfn (hassign _ x W _ fun a' Wa gA hax => ?_)⟩
      have h2a : I pre Wa := hI _ _ _ (some D) h2 (gbut gA _) (.inr ⟨D, rfl, by omega, fun o ho => by rw [h4] at ho; cases ho; rfl⟩)
      have h3a := keepL gA (by simp) h3
      have h4a := keepD gA (by simp) h4
      have hsza := Nat.le_trans hsz gA.size
      have hoka := hOk0 _ _ _ _ hok gA
      have hlta : D + 1 < Wa.heap.size := (Array.getElem?_eq_some_iff.1 h3a).1
      refine ⟨_, run_beginRound h3a (by rw [hR]), ?_⟩
      obtain ⟨o2, ho2⟩ : ∃ o2 : Loop, o2 = { R .ready none with state := .busy } := ⟨_, rfl⟩
      rw [← ho2]
      have gU := putObj_grown Wa (D + 1) (.loop o2)
      have lU : (Wa.putObj (D + 1) (.loop o2)).heap[D + 1]? = some (.loop o2) := World.putObj_heap_same hlta
      have dU := keepD gU (by simp) h4a
      refine wpIn_mono (hbody _ pre x a' _ (hI _ _ _ _ h2a gU (.inr ⟨_, rfl, by omega, fun o ho => by rw [h3a] at ho; cases ho; rfl⟩)) (hOk _ _ _ _ _ _ hoka gU h3a rfl) (hAx _ _ _ _ _ _ hax gU h3a rfl) (Nat.le_trans hsza gU.size)) ?_
      have fin : ∀ (jump : Option Code) (W3 : World), KeepsFrom w.heap.size (Wa.putObj (D + 1) (.loop o2)) W3 → ∃ W4, (Instr.endRound (D + 1) jump).run P W3 = .ok (.bool jump.isNone) W4 ∧ W3.grownBy W4 (some (D + 1)) ∧
          W4.heap[D + 1]? = some (.loop (R (if jump.isNone then .ready else .done) jump)) ∧ W4.heap[D]? = some (.deferred (some [])) ∧ (∀ o, W3.heap[D + 1]? = some o → o.isCells = false) := by
        intro jump W3 hk
        have l3 := hk.same _ _ (by omega) lU rfl
        have d3 := hk.same _ _ (by omega) dU rfl
        have hrun := run_endRound (P := P) jump l3
        have g4 := putObj_grown W3 (D + 1) (.loop (R (if jump.isNone then .ready else .done) jump))
        refine ⟨_, ?_, g4, World.putObj_heap_same (Array.getElem?_eq_some_iff.1 l3).1, keepD g4 (by simp) d3, fun o ho => by rw [l3] at ho; cases ho; rfl⟩
        rw [hrun, ho2, hR]
      rintro e a3 W3 hp
      cases e with
      | normal =>
        obtain ⟨p1, p3⟩ := hp
        obtain ⟨W4, q1, q2, q3, q4, q6⟩ := fin none W3 p1
        exact ⟨_, _, q1, .inl ⟨rfl, ⟨hI _ _ _ _ p3 q2 (.inr ⟨_, rfl, by omega, q6⟩), q3, q4⟩⟩⟩
      | ret =>
        obtain ⟨p1, p3⟩ := hp
        obtain ⟨W4, q1, q2, q3, q4, q6⟩ := fin (some .ret) W3 p1
        exact ⟨_, _, q1, .inr ⟨rfl, ⟨.ret, hIx _ _ _ _ _ p3 q2 (.inr ⟨_, rfl, by omega, q6⟩), q3, q4⟩⟩⟩
      | exit i =>
        obtain ⟨p1, p3⟩ := hp
        obtain ⟨W4, q1, q2, q3, q4, q6⟩ := fin (some (.exit i)) W3 p1
        exact ⟨_, _, q1, .inr ⟨rfl, ⟨.exit i, hIx _ _ _ _ _ p3 q2 (.inr ⟨_, rfl, by omega, q6⟩), q3, q4⟩⟩⟩
      | goto i =>
        obtain ⟨p1, p3⟩ := hp
        obtain ⟨W4, q1, q2, q3, q4, q6⟩ := fin (some (.goto i)) W3 p1
        exact ⟨_, _, q1, .inr ⟨rfl, ⟨.goto i, hIx _ _ _ _ _ p3 q2 (.inr ⟨_, rfl, by omega, q6⟩), q3, q4⟩⟩⟩
      | panic ch => exact hp.elim
      | outgrown => exact hp.elim
    · -- behind the iterator
      rintro e W2 ⟨⟨v, rfl⟩, (⟨xs, hS, h2, h3, h4⟩ | ⟨pre, hS, c, h2, h3, h4⟩)⟩
      · have hrun := run_endLoop (P := P) h3 (by rw [hR]; simp [rec'])
        have g4 := putObj_grown W2 (D + 1) (.loop { R .ready none with state := .exhausted })
        refine ⟨none, _, by rw [hrun, hR], ?_⟩
        rw [← hR]
        exact hdone D xs W2 _ (by omega) hS (hI _ _ _ _ h2 g4 (.inr ⟨_, rfl, by omega, fun o ho => by rw [h3] at ho; cases ho; rfl⟩)) g4 (keepD g4 (by simp) h4)
      · have hrun := run_endLoop (P := P) h3 (by rw [hR]; simp [rec'])
        have g4 := putObj_grown W2 (D + 1) (.loop { R .done (some c) with state := .exhausted })
        refine ⟨some c, _, by rw [hrun, hR], ?_⟩
        rw [← hR]
        exact hstop D c pre W2 _ (by omega) hS (hIx _ _ _ _ _ h2 g4 (.inr ⟨_, rfl, by omega, fun o ho => by rw [h3] at ho; cases ho; rfl⟩)) g4 (keepD g4 (by simp) h4)

end Go.Proofs.YtpdacbiiaglodaaGreat

/-
  LAYER 4 (utf), plain: scalars compare as bytes.
-/
namespace Go.Proofs.YtpdacbiiaglodaaGreat.U
set_option maxRecDepth 100000
open Go.Lib

def ordL : List Int → List Int → Int
  | [], [] => 0
  | [], _ :: _ => -1
  | _ :: _, [] => 1
  | a :: s, b :: t => if a < b then -1 else if b < a then 1 else ordL s t

theorem ordL_refl : ∀ l : List Int, ordL l l = 0
  | [] => rfl
  | a :: l => by rw [ordL, if_neg (by omega), if_neg (by omega)]; exact ordL_refl l

theorem cmpc (a b : UInt8) (s t : List UInt8) : compareBytes (a :: s) (b :: t) = if a.toNat < b.toNat then -1 else if b.toNat < a.toNat then 1 else compareBytes s t := by
  rw [compareBytes]
  simp only [UInt8.lt_iff_toNat_lt]
theorem cmpn {m n : Nat} (hm : m < 256) (hn : n < 256) (s t : List UInt8) : compareBytes (UInt8.ofNat m :: s) (UInt8.ofNat n :: t) = if m < n then -1 else if n < m then 1 else compareBytes s t := by
  rw [cmpc, ofNat_toNat hm, ofNat_toNat hn]
theorem cmp_same : ∀ (p x y : List UInt8), compareBytes (p ++ x) (p ++ y) = compareBytes x y
  | [], _, _ => rfl
  | a :: p, x, y => by
    rw [List.cons_append, List.cons_append, cmpc, if_neg (by omega), if_neg (by omega)]
    exact cmp_same p x y

theorem cmp_lt (r1 r2 : Nat) (h2 : r2 ≤ 1114111) (h : r1 < r2) (x y : List UInt8) : compareBytes (form r1 ++ x) (form r2 ++ y) = -1 ∧ compareBytes (form r2 ++ y) (form r1 ++ x) = 1 := by
  unfold form
  by_cases a1 : r1 < 128
  · rw [if_pos a1]
    by_cases b1 : r2 < 128
    · rw [if_pos b1]
      simp only [List.cons_append, List.nil_append]
      refine ⟨?_, ?_⟩
      · rw [cmpn (by omega) (by omega), if_pos h]
      · rw [cmpn (by omega) (by omega), if_neg (by omega), if_pos h]
    rw [if_neg b1]
    by_cases b2 : r2 < 2048
    · rw [if_pos b2]
      simp only [List.cons_append, List.nil_append]
      refine ⟨?_, ?_⟩
      · rw [cmpn (by omega) (by omega), if_pos (by omega)]
      · rw [cmpn (by omega) (by omega), if_neg (by omega), if_pos (by omega)]
    rw [if_neg b2]
    by_cases b3 : r2 < 65536
    · rw [if_pos b3]
      simp only [List.cons_append, List.nil_append]
      refine ⟨?_, ?_⟩
      · rw [cmpn (by omega) (by omega), if_pos (by omega)]
      · rw [cmpn (by omega) (by omega), if_neg (by omega), if_pos (by omega)]
    · rw [if_neg b3]
      simp only [List.cons_append, List.nil_append]
      refine ⟨?_, ?_⟩
      · rw [cmpn (by omega) (by omega), if_pos (by omega)]
      · rw [cmpn (by omega) (by omega), if_neg (by omega), if_pos (by omega)]
  rw [if_neg a1, if_neg (show ¬ r2 < 128 by omega)]
  by_cases a2 : r1 < 2048
  · rw [if_pos a2]
    by_cases b2 : r2 < 2048
    · rw [if_pos b2]
      simp only [List.cons_append, List.nil_append]
      simp only [cmpn (show 192 + r1 / 64 < 256 by omega) (show 192 + r2 / 64 < 256 by omega), cmpn (show 192 + r2 / 64 < 256 by omega) (show 192 + r1 / 64 < 256 by omega),
        cmpn (show 128 + r1 % 64 < 256 by omega) (show 128 + r2 % 64 < 256 by omega), cmpn (show 128 + r2 % 64 < 256 by omega) (show 128 + r1 % 64 < 256 by omega)]
      constructor <;> (repeat' split) <;> first | rfl | omega
    rw [if_neg b2]
    by_cases b3 : r2 < 65536
    · rw [if_pos b3]
      simp only [List.cons_append, List.nil_append]
      refine ⟨?_, ?_⟩
      · rw [cmpn (by omega) (by omega), if_pos (by omega)]
      · rw [cmpn (by omega) (by omega), if_neg (by omega), if_pos (by omega)]
    · rw [if_neg b3]
      simp only [List.cons_append, List.nil_append]
      refine ⟨?_, ?_⟩
      · rw [cmpn (by omega) (by omega), if_pos (by omega)]
      · rw [cmpn (by omega) (by omega), if_neg (by omega), if_pos (by omega)]
  rw [if_neg a2, if_neg (show ¬ r2 < 2048 by omega)]
  by_cases a3 : r1 < 65536
  · rw [if_pos a3]
    by_cases b3 : r2 < 65536
    · rw [if_pos b3]
      simp only [List.cons_append, List.nil_append]
      simp only [cmpn (show 224 + r1 / 4096 < 256 by omega) (show 224 + r2 / 4096 < 256 by omega), cmpn (show 224 + r2 / 4096 < 256 by omega) (show 224 + r1 / 4096 < 256 by omega),
        cmpn (show 128 + r1 / 64 % 64 < 256 by omega) (show 128 + r2 / 64 % 64 < 256 by omega), cmpn (show 128 + r2 / 64 % 64 < 256 by omega) (show 128 + r1 / 64 % 64 < 256 by omega),
        cmpn (show 128 + r1 % 64 < 256 by omega) (show 128 + r2 % 64 < 256 by omega), cmpn (show 128 + r2 % 64 < 256 by omega) (show 128 + r1 % 64 < 256 by omega)]
      constructor <;> (repeat' split) <;> first | rfl | omega
    · rw [if_neg b3]
      simp only [List.cons_append, List.nil_append]
      refine ⟨?_, ?_⟩
      · rw [cmpn (by omega) (by omega), if_pos (by omega)]
      · rw [cmpn (by omega) (by omega), if_neg (by omega), if_pos (by omega)]
  · rw [if_neg a3, if_neg (show ¬ r2 < 65536 by omega)]
    simp only [List.cons_append, List.nil_append]
    simp only [cmpn (show 240 + r1 / 262144 < 256 by omega) (show 240 + r2 / 262144 < 256 by omega), cmpn (show 240 + r2 / 262144 < 256 by omega) (show 240 + r1 / 262144 < 256 by omega),
      cmpn (show 128 + r1 / 4096 % 64 < 256 by omega) (show 128 + r2 / 4096 % 64 < 256 by omega), cmpn (show 128 + r2 / 4096 % 64 < 256 by omega) (show 128 + r1 / 4096 % 64 < 256 by omega),
      cmpn (show 128 + r1 / 64 % 64 < 256 by omega) (show 128 + r2 / 64 % 64 < 256 by omega), cmpn (show 128 + r2 / 64 % 64 < 256 by omega) (show 128 + r1 / 64 % 64 < 256 by omega),
      cmpn (show 128 + r1 % 64 < 256 by omega) (show 128 + r2 % 64 < 256 by omega), cmpn (show 128 + r2 % 64 < 256 by omega) (show 128 + r1 % 64 < 256 by omega)]
    constructor <;> (repeat' split) <;> first | rfl | omega

theorem form_split {l : List UInt8} {r n : Nat} (h : dec l = some (r, n)) : l = form r ++ l.drop n := by
  obtain ⟨_, _, h3⟩ := (dec_iff _ _ _).1 h
  rw [← h3, List.take_append_drop]

/-- Of two texts the bytes compare as the scalars. -/
theorem cmp_runes : ∀ (k : Nat) (a b : List UInt8), a.length ≤ k → valid a → valid b → compareBytes a b = ordL (runes a) (runes b)
  | k, a, b, hk, ha, hb => by
    cases hda : dec a with
    | none =>
      obtain rfl := (valid_none hda).1 ha
      cases hdb : dec b with
      | none => obtain rfl := (valid_none hdb).1 hb; rfl
      | some y =>
        obtain ⟨r, n⟩ := y
        have hs := dec_some hdb
        rw [runes_some hdb, runes_nil, ordL]
        cases b with
        | nil => simp at hs; omega
        | cons c t => rfl
    | some x =>
      obtain ⟨r, n⟩ := x
      have hs := dec_some hda
      cases hdb : dec b with
      | none =>
        obtain rfl := (valid_none hdb).1 hb
        rw [runes_some hda, runes_nil, ordL]
        cases a with
        | nil => simp at hs; omega
        | cons c t => rfl
      | some y =>
        obtain ⟨r', n'⟩ := y
        have hs' := dec_some hdb
        rw [runes_some hda, runes_some hdb, ordL]
        have ea := form_split hda
        have eb := form_split hdb
        rcases Nat.lt_trichotomy r r' with h | h | h
        · rw [if_pos (by omega), ea, eb]
          exact (cmp_lt r r' hs'.2.2.2.2.2 h _ _).1
        · subst h
          have hn : n = n' := by rw [← hs.2.2.2.2.1, ← hs'.2.2.2.2.1]
          subst hn
          rw [if_neg (by omega), if_neg (by omega)]
          cases k with
          | zero => omega
          | succ k =>
            have ih := cmp_runes k (a.drop n) (b.drop n) (by simp; omega) ((valid_some hda).1 ha) ((valid_some hdb).1 hb)
            rw [← ih]
            conv => lhs; rw [ea, eb]
            exact cmp_same _ _ _
        · rw [if_neg (by omega), if_pos (by omega), ea, eb]
          exact (cmp_lt r' r hs.2.2.2.2.2 h _ _).2
end Go.Proofs.YtpdacbiiaglodaaGreat.U
