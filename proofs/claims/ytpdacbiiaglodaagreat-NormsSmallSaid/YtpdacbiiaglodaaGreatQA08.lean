/-
  LAYER 5 (norms): A RANGE OVER A FUNCTION WHOSE LOOP VARIABLE IS BOXED (the assign code lays a block in every round): one law for the caller, as range_tells3. No program is named here.
-/
import Derived.Test.YtpdacbiiaglodaaGreatQA06
import Derived.RangeFuncWrites
import Derived.Test.YtpdacbiiaglodaaGreatQA07
import Derived.RangeFuncBound
import Derived.Test.YtpdacbiiaglodaaGreatQA02
namespace Go.Proofs.YtpdacbiiaglodaaGreat
set_option maxRecDepth 100000
open Go.RowKit

/-- How a round's body may be left: a map that lay ahead of the loop may be written. -/
def roundLeftF {α : Type} (n0 ib : Nat) (I : List α → World → Prop) (Ix : Code → List α → World → Prop) (xs : List α) (W : World) : Exit → Act → World → Prop
  | .normal, _, W' => KeepsFrom n0 W W' ∧ KeptX n0 ib W W' ∧ I xs W'
  | .ret, _, W' => KeepsFrom n0 W W' ∧ KeptX n0 ib W W' ∧ Ix .ret xs W'
  | .exit i, _, W' => KeepsFrom n0 W W' ∧ KeptX n0 ib W W' ∧ Ix (.exit i) xs W'
  | .goto i, _, W' => KeepsFrom n0 W W' ∧ KeptX n0 ib W W' ∧ Ix (.goto i) xs W'
  | .panic _, _, _ => False
  | .outgrown, _, _ => False

set_option maxHeartbeats 4000000 in
theorem range_tells4 {α : Type} {F : Fence} {n : Nat} {P : Program} {g : Operand} {ps : Array Tmp} {assign body : Code} {Q : Exit → Act → World → Prop} {a : Act} {w : World}
    (hro : F.round = none) (h1 : 1 ≤ n) {gf : Nat} {lb : Array Value} (hg : a.eval g = .func (.func gf) #[] lb) (hFg : F.fn gf) (eg : ∀ args w, (callFunc gf args).run P w = .ok (.enter gf args) w)
    {encs : α → Array Value} {Ok : List α → α → World → Prop} {r : Option Nat} {ib : Nat} {S Sp : List α → World → Prop}
    (hseq : TellsO F (n - 1) P gf lb encs Ok r w.heap.size ib S Sp w) (hrw : r ≠ some w.heap.size ∧ r ≠ some (w.heap.size + 1)) (hps : ∀ x, (encs x).size = ps.size)
    (hOk : ∀ pre x A B k o, Ok pre x A → A.grownBy B (some k) → A.heap[k]? = some o → o.isCells = false → Ok pre x B)
    (I : List α → World → Prop) (Ix : Code → List α → World → Prop)
    (hI : ∀ s A B k, I s A → A.grownBy B k → (k = r ∨ (∃ q, k = some q ∧ w.heap.size ≤ q ∧ ∀ o, A.heap[q]? = some o → o.isCells = false)) → I s B)
    (hIx : ∀ c s A B k, Ix c s A → A.grownBy B k → (k = r ∨ (∃ q, k = some q ∧ w.heap.size ≤ q ∧ ∀ o, A.heap[q]? = some o → o.isCells = false)) → Ix c s B)
    (h0 : I [] w) (Ax : α → Act → World → Prop)
    (hOk0 : ∀ pre x A B, Ok pre x A → A.grownBy B none → Ok pre x B)
    (hAx : ∀ x a' A B k o, Ax x a' A → A.grownBy B (some k) → A.heap[k]? = some o → o.isCells = false → Ax x a' B)
    (hassign : ∀ (l : Nat) (x : α) (W : World) (K : Act → World → Prop), (∀ a' W', W.grownBy W' none → Ax x a' W' → K a' W') →
      assign.wpIn (F.inRound l) (n - 1 - 1) P (Exit.then K (fun _ _ _ => False)) { tmps := (ps.zip (encs x)).foldl (fun t (p, v) => t.setIfInBounds p v) a.tmps, defers := [] } W)
    (hbody : ∀ (l : Nat) (pre : List α) (x : α) (a' : Act) (W : World), I pre W → Ok pre x W → Ax x a' W → w.heap.size ≤ W.heap.size → body.wpIn (F.inRound l) (n - 1 - 1) P (roundLeftF w.heap.size ib I Ix (pre ++ [x]) W) a' W)
    (hdone : ∀ (D : Nat) (xs : List α) (W W' : World), w.heap.size ≤ D → S xs W → I xs W' → W.grownBy W' (some (D + 1)) → W'.heap[D]? = some (.deferred (some [])) → Q .normal { a with defers := { target := .collected D, args := #[] } :: a.defers } W')
    (hstop : ∀ (D : Nat) (c : Code) (pre : List α) (W W' : World), w.heap.size ≤ D → Sp pre W → Ix c pre W' → W.grownBy W' (some (D + 1)) → W'.heap[D]? = some (.deferred (some [])) → c.wpIn F n P Q { a with defers := { target := .collected D, args := #[] } :: a.defers } W') :
    (Code.rangeFunc g ps assign body).wpIn F n P Q a w := by
  refine wpIn_rangeFunc fun fn hfn => ?_
  rw [hro]
  -- the loop's record, in each of its states
  let rec' : LoopState → Option Code → Loop := fun st pe => { state := st, pending := pe, fn, tmps := a.tmps, params := ps, assign, body, defers := w.heap.size }
  obtain ⟨R, hR⟩ : ∃ R, R = rec' := ⟨_, rfl⟩
  obtain ⟨D, hD⟩ : ∃ D, D = w.heap.size := ⟨_, rfl⟩
  obtain ⟨V, hV⟩ : ∃ V, V = (w.alloc (.deferred (some []))).alloc (.loop (R .ready none)) := ⟨_, rfl⟩
  have gV : w.grownBy V none := by rw [hV]; exact (World.grownBy_alloc w _ none).trans (World.grownBy_alloc _ _ none)
  have lV : V.heap[D + 1]? = some (.loop (R .ready none)) := by
    rw [hV, hD]
    have := World.alloc_heap_new (w.alloc (.deferred (some []))) (.loop (R .ready none))
    rwa [World.size_alloc] at this
  have dV : V.heap[D]? = some (.deferred (some [])) := by
    rw [hV, hD]
    exact ((World.grownBy_alloc (w.alloc (.deferred (some []))) (.loop (R .ready none)) none).block w.heap.size (by simp) (by simp)).trans (World.alloc_heap_new w _)
  have hrD : r ≠ some D ∧ r ≠ some (D + 1) := by rw [hD]; exact hrw
  have iV : I [] V := hI _ _ _ (some D) h0 (gbut gV _) (.inr ⟨D, rfl, by omega, fun o ho => by have := (Array.getElem?_eq_some_iff.1 ho).1; omega⟩)
  refine ⟨D + 1, [{ target := .collected D, args := #[] }], V, { target := .fn (.func gf) lb, args := #[.func (.yield (D + 1)) #[] #[]] }, V, gf, #[.func (.yield (D + 1)) #[] #[]] ++ lb, V, ?_, ?_, ?_, ?_, fun _ => h1, ?_⟩
  · rw [hV, hR, hD]; exact run_enterLoop_outer _ _ _ _ _
  · simp only [resolve, hg]
    simp [go_sem]
  · intro f' hf'; simp [Target.leads] at hf'; subst hf'; exact hFg
  · simp [invoke, go_sem, eg]
  · have keepD : ∀ {A B : World} {q : Option Nat} {o : Obj}, A.grownBy B q → q ≠ some D → A.heap[D]? = some o → B.heap[D]? = some o := fun h hq ho => (h.block D (Array.getElem?_eq_some_iff.1 ho).1 (fun e => hq e.symm)).trans ho
    have keepL : ∀ {A B : World} {q : Option Nat} {o : Obj}, A.grownBy B q → q ≠ some (D + 1) → A.heap[D + 1]? = some o → B.heap[D + 1]? = some o := fun h hq ho => (h.block (D + 1) (Array.getElem?_eq_some_iff.1 ho).1 (fun e => hq e.symm)).trans ho
    refine (hseq (D + 1) (fun pre W => I pre W ∧ W.heap[D + 1]? = some (.loop (R .ready none)) ∧ W.heap[D]? = some (.deferred (some [])))
      (fun pre W => ∃ c, Ix c pre W ∧ W.heap[D + 1]? = some (.loop (R .done (some c))) ∧ W.heap[D]? = some (.deferred (some []))) V
      (KeptX.grown (q := D) (gbut gV _) (Nat.le_refl _) (.inr (by omega))) gV.size ?_ ?_ ?_ ⟨iV, lV, dV⟩).mono ?_
    · rintro s A B ⟨h2, h3, h4⟩ hAB
      exact ⟨hI _ _ _ r h2 hAB (.inl rfl), keepL hAB hrD.2 h3, keepD hAB hrD.1 h4⟩
    · rintro s A B ⟨c, h2, h3, h4⟩ hAB
      exact ⟨c, hIx _ _ _ _ r h2 hAB (.inl rfl), keepL hAB hrD.2 h3, keepD hAB hrD.1 h4⟩
    · -- one round
      rintro pre x W ⟨h2, h3, h4⟩ hok hsz
      have hlt : D + 1 < W.heap.size := (Array.getElem?_eq_some_iff.1 h3).1
      have hy := run_yield (P := P) (args := encs x) h3 (by rw [hR]; exact hps x)
      rw [hR] at hy
      refine ⟨fn, _, assign, body, hy, roundIn_of_wpIn hfn (hassign _ x W _ fun a' Wa gA hax => ?_)⟩
      have h2a : I pre Wa := hI _ _ _ (some D) h2 (gbut gA _) (.inr ⟨D, rfl, by omega, fun o ho => by rw [h4] at ho; cases ho; rfl⟩)
      have h3a := keepL gA (by simp) h3
      have h4a := keepD gA (by simp) h4
      have kA : KeptX w.heap.size ib W Wa := ⟨gA.size, fun k h1 _ => gA.block k (by omega) (by simp)⟩
      have hsza := Nat.le_trans hsz gA.size
      have hoka := hOk0 _ _ _ _ hok gA
      have hlta : D + 1 < Wa.heap.size := (Array.getElem?_eq_some_iff.1 h3a).1
      refine ⟨_, run_beginRound h3a (by rw [hR]), ?_⟩
      obtain ⟨o2, ho2⟩ : ∃ o2 : Loop, o2 = { R .ready none with state := .busy } := ⟨_, rfl⟩
      rw [← ho2]
      have gU := putObj_grown Wa (D + 1) (.loop o2)
      have lU : (Wa.putObj (D + 1) (.loop o2)).heap[D + 1]? = some (.loop o2) := World.putObj_heap_same hlta
      have dU := keepD gU (by simp) h4a
      have kU : KeptX w.heap.size ib W (Wa.putObj (D + 1) (.loop o2)) := kA.trans (KeptX.grown gU hsza (.inr (by omega)))
      refine wpIn_mono (hbody _ pre x a' _ (hI _ _ _ _ h2a gU (.inr ⟨_, rfl, by omega, fun o ho => by rw [h3a] at ho; cases ho; rfl⟩)) (hOk _ _ _ _ _ _ hoka gU h3a rfl) (hAx _ _ _ _ _ _ hax gU h3a rfl) (Nat.le_trans hsza gU.size)) ?_
      have fin : ∀ (jump : Option Code) (W3 : World), KeepsFrom w.heap.size (Wa.putObj (D + 1) (.loop o2)) W3 → KeptX w.heap.size ib (Wa.putObj (D + 1) (.loop o2)) W3 → ∃ W4, (Instr.endRound (D + 1) jump).run P W3 = .ok (.bool jump.isNone) W4 ∧ W3.grownBy W4 (some (D + 1)) ∧
          W4.heap[D + 1]? = some (.loop (R (if jump.isNone then .ready else .done) jump)) ∧ W4.heap[D]? = some (.deferred (some [])) ∧ KeptX w.heap.size ib W W4 ∧ (∀ o, W3.heap[D + 1]? = some o → o.isCells = false) := by
        intro jump W3 hk hx
        have l3 := hk.same _ _ (by omega) lU rfl
        have d3 := hk.same _ _ (by omega) dU rfl
        have hrun := run_endRound (P := P) jump l3
        have g4 := putObj_grown W3 (D + 1) (.loop (R (if jump.isNone then .ready else .done) jump))
        refine ⟨_, ?_, g4, World.putObj_heap_same (Array.getElem?_eq_some_iff.1 l3).1, keepD g4 (by simp) d3, (kU.trans hx).trans (KeptX.grown g4 (Nat.le_trans hsza (Nat.le_trans gU.size hx.1)) (.inr (by omega))), fun o ho => by rw [l3] at ho; cases ho; rfl⟩
        rw [hrun, ho2, hR]
      rintro e a3 W3 hp
      cases e with
      | normal =>
        obtain ⟨p1, p2, p3⟩ := hp
        obtain ⟨W4, q1, q2, q3, q4, q5, q6⟩ := fin none W3 p1 p2
        exact ⟨_, _, q1, .inl ⟨rfl, ⟨hI _ _ _ _ p3 q2 (.inr ⟨_, rfl, by omega, q6⟩), q3, q4⟩, q5⟩⟩
      | ret =>
        obtain ⟨p1, p2, p3⟩ := hp
        obtain ⟨W4, q1, q2, q3, q4, q5, q6⟩ := fin (some .ret) W3 p1 p2
        exact ⟨_, _, q1, .inr ⟨rfl, ⟨.ret, hIx _ _ _ _ _ p3 q2 (.inr ⟨_, rfl, by omega, q6⟩), q3, q4⟩, q5⟩⟩
      | exit i =>
        obtain ⟨p1, p2, p3⟩ := hp
        obtain ⟨W4, q1, q2, q3, q4, q5, q6⟩ := fin (some (.exit i)) W3 p1 p2
        exact ⟨_, _, q1, .inr ⟨rfl, ⟨.exit i, hIx _ _ _ _ _ p3 q2 (.inr ⟨_, rfl, by omega, q6⟩), q3, q4⟩, q5⟩⟩
      | goto i =>
        obtain ⟨p1, p2, p3⟩ := hp
        obtain ⟨W4, q1, q2, q3, q4, q5, q6⟩ := fin (some (.goto i)) W3 p1 p2
        exact ⟨_, _, q1, .inr ⟨rfl, ⟨.goto i, hIx _ _ _ _ _ p3 q2 (.inr ⟨_, rfl, by omega, q6⟩), q3, q4⟩, q5⟩⟩
      | panic ch => exact hp.elim
      | outgrown => exact hp.elim
    · -- behind the iterator
      rintro e W2 ⟨⟨v, rfl⟩, (⟨xs, hS, h2, h3, h4⟩ | ⟨pre, hS, c, h2, h3, h4⟩)⟩
      · have hrun := run_endLoop (P := P) h3 (by rw [hR]; simp [rec'])
        have g4 := putObj_grown W2 (D + 1) (.loop { R .ready none with state := .exhausted })
        refine ⟨none, _, by rw [hrun, hR], ?_⟩
        rw [← hR]
        exact hdone D xs W2 _ (by omega) hS (hI _ _ _ _ h2 g4 (.inr ⟨_, rfl, by omega, fun o ho => by rw [h3] at ho; cases ho; rfl⟩)) g4 (keepD g4 (by simp) h4)
      · have hrun := run_endLoop (P := P) h3 (by rw [hR]; simp [rec'])
        have g4 := putObj_grown W2 (D + 1) (.loop { R .done (some c) with state := .exhausted })
        refine ⟨some c, _, by rw [hrun, hR], ?_⟩
        rw [← hR]
        exact hstop D c pre W2 _ (by omega) hS (hIx _ _ _ _ _ h2 g4 (.inr ⟨_, rfl, by omega, fun o ho => by rw [h3] at ho; cases ho; rfl⟩)) g4 (keepD g4 (by simp) h4)

end Go.Proofs.YtpdacbiiaglodaaGreat

/-
  LAYER 5 (norms): A RANGE OVER A FUNCTION (as XNRange), WHERE THE ROUND MAY TURN ANY ELDER BLOCK BUT THOSE THAT THE ITERATOR READS (Pr says which). No program is named here.
-/
namespace Go.Proofs.YtpdacbiiaglodaaGreat
set_option maxRecDepth 100000
open Go.RowKit

def KeptP (n0 : Nat) (Pr : Nat → Prop) (A B : World) : Prop := A.heap.size ≤ B.heap.size ∧ ∀ k, k < n0 → Pr k → B.heap[k]? = A.heap[k]?
theorem KeptP.refl {n0 : Nat} {Pr : Nat → Prop} (A : World) : KeptP n0 Pr A A := ⟨Nat.le_refl _, fun _ _ _ => rfl⟩
theorem KeptP.trans {n0 : Nat} {Pr : Nat → Prop} {A B C : World} (h : KeptP n0 Pr A B) (k : KeptP n0 Pr B C) : KeptP n0 Pr A C := ⟨Nat.le_trans h.1 k.1, fun i h1 h2 => (k.2 i h1 h2).trans (h.2 i h1 h2)⟩
theorem KeptP.grown {n0 q : Nat} {Pr : Nat → Prop} {A B : World} (h : A.grownBy B (some q)) (hn : n0 ≤ A.heap.size) (hq : ¬ Pr q ∨ n0 ≤ q) : KeptP n0 Pr A B :=
  ⟨h.size, fun k h1 h2 => h.block k (by omega) (fun e => by cases e; rcases hq with hq | hq; exact hq h2; omega)⟩

/-- What an iterator promises: called with yield, it calls yield at what it tells, as long as rounds go on; its own steps turn block r alone. -/
def TellsQ {α : Type} (F : Fence) (n : Nat) (P : Program) (g : Nat) (lb : Array Value) (encs : α → Array Value) (Ok : List α → α → World → Prop) (r : Option Nat) (n0 : Nat) (Pr : Nat → Prop) (S Sp : List α → World → Prop) (w : World) : Prop :=
  ∀ (l : Nat) (J Jx : List α → World → Prop) (W : World), KeptP n0 Pr w W → n0 ≤ W.heap.size →
    (∀ s A B, J s A → A.grownBy B r → J s B) → (∀ s A B, Jx s A → A.grownBy B r → Jx s B) →
    (∀ pre x W1, J pre W1 → Ok pre x W1 → n0 ≤ W1.heap.size → YieldAt F (n - 1) P l (encs x) W1 fun e W' =>
      (e = .returned (.bool true) ∧ J (pre ++ [x]) W' ∧ KeptP n0 Pr W1 W') ∨ (e = .returned (.bool false) ∧ Jx (pre ++ [x]) W' ∧ KeptP n0 Pr W1 W')) →
    J [] W →
    CallsIn F n P g (#[.func (.yield l) #[] #[]] ++ lb) W fun e W' => (∃ v, e = .returned v) ∧ ((∃ xs, S xs W' ∧ J xs W') ∨ (∃ pre, Sp pre W' ∧ Jx pre W'))

/-- How a round's body may be left: a map that lay ahead of the loop may be written. -/
def roundLeftQ {α : Type} (n0 : Nat) (Pr : Nat → Prop) (I : List α → World → Prop) (Ix : Code → List α → World → Prop) (xs : List α) (W : World) : Exit → Act → World → Prop
  | .normal, _, W' => KeepsFrom n0 W W' ∧ KeptP n0 Pr W W' ∧ I xs W'
  | .ret, _, W' => KeepsFrom n0 W W' ∧ KeptP n0 Pr W W' ∧ Ix .ret xs W'
  | .exit i, _, W' => KeepsFrom n0 W W' ∧ KeptP n0 Pr W W' ∧ Ix (.exit i) xs W'
  | .goto i, _, W' => KeepsFrom n0 W W' ∧ KeptP n0 Pr W W' ∧ Ix (.goto i) xs W'
  | .panic _, _, _ => False
  | .outgrown, _, _ => False

set_option maxHeartbeats 4000000 in
theorem range_tellsQ {α : Type} {F : Fence} {n : Nat} {P : Program} {g : Operand} {ps : Array Tmp} {assign body : Code} {Q : Exit → Act → World → Prop} {a : Act} {w : World}
    (hro : F.round = none) (h1 : 1 ≤ n) {gf : Nat} {lb : Array Value} (hg : a.eval g = .func (.func gf) #[] lb) (hFg : F.fn gf) (eg : ∀ args w, (callFunc gf args).run P w = .ok (.enter gf args) w)
    {encs : α → Array Value} {Ok : List α → α → World → Prop} {r : Option Nat} {Pr : Nat → Prop} {S Sp : List α → World → Prop}
    (hseq : TellsQ F (n - 1) P gf lb encs Ok r w.heap.size Pr S Sp w) (hrw : r ≠ some w.heap.size ∧ r ≠ some (w.heap.size + 1)) (hps : ∀ x, (encs x).size = ps.size)
    (hOk : ∀ pre x A B k o, Ok pre x A → A.grownBy B (some k) → A.heap[k]? = some o → o.isCells = false → Ok pre x B)
    (I : List α → World → Prop) (Ix : Code → List α → World → Prop)
    (hI : ∀ s A B k, I s A → A.grownBy B k → (k = r ∨ (∃ q, k = some q ∧ w.heap.size ≤ q ∧ ∀ o, A.heap[q]? = some o → o.isCells = false)) → I s B)
    (hIx : ∀ c s A B k, Ix c s A → A.grownBy B k → (k = r ∨ (∃ q, k = some q ∧ w.heap.size ≤ q ∧ ∀ o, A.heap[q]? = some o → o.isCells = false)) → Ix c s B)
    (h0 : I [] w) (Ax : α → Act → World → Prop)
    (hOk0 : ∀ pre x A B, Ok pre x A → A.grownBy B none → Ok pre x B)
    (hAx : ∀ x a' A B k o, Ax x a' A → A.grownBy B (some k) → A.heap[k]? = some o → o.isCells = false → Ax x a' B)
    (hassign : ∀ (l : Nat) (x : α) (W : World) (K : Act → World → Prop), (∀ a' W', W.grownBy W' none → Ax x a' W' → K a' W') →
      assign.wpIn (F.inRound l) (n - 1 - 1) P (Exit.then K (fun _ _ _ => False)) { tmps := (ps.zip (encs x)).foldl (fun t (p, v) => t.setIfInBounds p v) a.tmps, defers := [] } W)
    (hbody : ∀ (l : Nat) (pre : List α) (x : α) (a' : Act) (W : World), I pre W → Ok pre x W → Ax x a' W → w.heap.size ≤ W.heap.size → body.wpIn (F.inRound l) (n - 1 - 1) P (roundLeftQ w.heap.size Pr I Ix (pre ++ [x]) W) a' W)
    (hdone : ∀ (D : Nat) (xs : List α) (W W' : World), w.heap.size ≤ D → S xs W → I xs W' → W.grownBy W' (some (D + 1)) → W'.heap[D]? = some (.deferred (some [])) → Q .normal { a with defers := { target := .collected D, args := #[] } :: a.defers } W')
    (hstop : ∀ (D : Nat) (c : Code) (pre : List α) (W W' : World), w.heap.size ≤ D → Sp pre W → Ix c pre W' → W.grownBy W' (some (D + 1)) → W'.heap[D]? = some (.deferred (some [])) → c.wpIn F n P Q { a with defers := { target := .collected D, args := #[] } :: a.defers } W') :
    (Code.rangeFunc g ps assign body).wpIn F n P Q a w := by
  refine wpIn_rangeFunc fun fn hfn => ?_
  rw [hro]
  -- the loop's record, in each of its states
  let rec' : LoopState → Option Code → Loop := fun st pe => { state := st, pending := pe, fn, tmps := a.tmps, params := ps, assign, body, defers := w.heap.size }
  obtain ⟨R, hR⟩ : ∃ R, R = rec' := ⟨_, rfl⟩
  obtain ⟨D, hD⟩ : ∃ D, D = w.heap.size := ⟨_, rfl⟩
  obtain ⟨V, hV⟩ : ∃ V, V = (w.alloc (.deferred (some []))).alloc (.loop (R .ready none)) := ⟨_, rfl⟩
  have gV : w.grownBy V none := by rw [hV]; exact (World.grownBy_alloc w _ none).trans (World.grownBy_alloc _ _ none)
  have lV : V.heap[D + 1]? = some (.loop (R .ready none)) := by
    rw [hV, hD]
    have := World.alloc_heap_new (w.alloc (.deferred (some []))) (.loop (R .ready none))
    rwa [World.size_alloc] at this
  have dV : V.heap[D]? = some (.deferred (some [])) := by
    rw [hV, hD]
    exact ((World.grownBy_alloc (w.alloc (.deferred (some []))) (.loop (R .ready none)) none).block w.heap.size (by simp) (by simp)).trans (World.alloc_heap_new w _)
  have hrD : r ≠ some D ∧ r ≠ some (D + 1) := by rw [hD]; exact hrw
  have iV : I [] V := hI _ _ _ (some D) h0 (gbut gV _) (.inr ⟨D, rfl, by omega, fun o ho => by have := (Array.getElem?_eq_some_iff.1 ho).1; omega⟩)
  refine ⟨D + 1, [{ target := .collected D, args := #[] }], V, { target := .fn (.func gf) lb, args := #[.func (.yield (D + 1)) #[] #[]] }, V, gf, #[.func (.yield (D + 1)) #[] #[]] ++ lb, V, ?_, ?_, ?_, ?_, fun _ => h1, ?_⟩
  · rw [hV, hR, hD]; exact run_enterLoop_outer _ _ _ _ _
  · simp only [resolve, hg]
    simp [go_sem]
  · intro f' hf'; simp [Target.leads] at hf'; subst hf'; exact hFg
  · simp [invoke, go_sem, eg]
  · have keepD : ∀ {A B : World} {q : Option Nat} {o : Obj}, A.grownBy B q → q ≠ some D → A.heap[D]? = some o → B.heap[D]? = some o := fun h hq ho => (h.block D (Array.getElem?_eq_some_iff.1 ho).1 (fun e => hq e.symm)).trans ho
    have keepL : ∀ {A B : World} {q : Option Nat} {o : Obj}, A.grownBy B q → q ≠ some (D + 1) → A.heap[D + 1]? = some o → B.heap[D + 1]? = some o := fun h hq ho => (h.block (D + 1) (Array.getElem?_eq_some_iff.1 ho).1 (fun e => hq e.symm)).trans ho
    refine (hseq (D + 1) (fun pre W => I pre W ∧ W.heap[D + 1]? = some (.loop (R .ready none)) ∧ W.heap[D]? = some (.deferred (some [])))
      (fun pre W => ∃ c, Ix c pre W ∧ W.heap[D + 1]? = some (.loop (R .done (some c))) ∧ W.heap[D]? = some (.deferred (some []))) V
      (KeptP.grown (q := D) (gbut gV _) (Nat.le_refl _) (.inr (by omega))) gV.size ?_ ?_ ?_ ⟨iV, lV, dV⟩).mono ?_
    · rintro s A B ⟨h2, h3, h4⟩ hAB
      exact ⟨hI _ _ _ r h2 hAB (.inl rfl), keepL hAB hrD.2 h3, keepD hAB hrD.1 h4⟩
    · rintro s A B ⟨c, h2, h3, h4⟩ hAB
      exact ⟨c, hIx _ _ _ _ r h2 hAB (.inl rfl), keepL hAB hrD.2 h3, keepD hAB hrD.1 h4⟩
    · -- one round
      rintro pre x W ⟨h2, h3, h4⟩ hok hsz
      have hlt : D + 1 < W.heap.size := (Array.getElem?_eq_some_iff.1 h3).1
      have hy := run_yield (P := P) (args := encs x) h3 (by rw [hR]; exact hps x)
      rw [hR] at hy
      refine ⟨fn, _, assign, body, hy, roundIn_of_wpIn hfn (hassign _ x W _ fun a' Wa gA hax => ?_)⟩
      have h2a : I pre Wa := hI _ _ _ (some D) h2 (gbut gA _) (.inr ⟨D, rfl, by omega, fun o ho => by rw [h4] at ho; cases ho; rfl⟩)
      have h3a := keepL gA (by simp) h3
      have h4a := keepD gA (by simp) h4
      have kA : KeptP w.heap.size Pr W Wa := ⟨gA.size, fun k h1 _ => gA.block k (by omega) (by simp)⟩
      have hsza := Nat.le_trans hsz gA.size
      have hoka := hOk0 _ _ _ _ hok gA
      have hlta : D + 1 < Wa.heap.size := (Array.getElem?_eq_some_iff.1 h3a).1
      refine ⟨_, run_beginRound h3a (by rw [hR]), ?_⟩
      obtain ⟨o2, ho2⟩ : ∃ o2 : Loop, o2 = { R .ready none with state := .busy } := ⟨_, rfl⟩
      rw [← ho2]
      have gU := putObj_grown Wa (D + 1) (.loop o2)
      have lU : (Wa.putObj (D + 1) (.loop o2)).heap[D + 1]? = some (.loop o2) := World.putObj_heap_same hlta
      have dU := keepD gU (by simp) h4a
      have kU : KeptP w.heap.size Pr W (Wa.putObj (D + 1) (.loop o2)) := kA.trans (KeptP.grown gU hsza (.inr (by omega)))
      refine wpIn_mono (hbody _ pre x a' _ (hI _ _ _ _ h2a gU (.inr ⟨_, rfl, by omega, fun o ho => by rw [h3a] at ho; cases ho; rfl⟩)) (hOk _ _ _ _ _ _ hoka gU h3a rfl) (hAx _ _ _ _ _ _ hax gU h3a rfl) (Nat.le_trans hsza gU.size)) ?_
      have fin : ∀ (jump : Option Code) (W3 : World), KeepsFrom w.heap.size (Wa.putObj (D + 1) (.loop o2)) W3 → KeptP w.heap.size Pr (Wa.putObj (D + 1) (.loop o2)) W3 → ∃ W4, (Instr.endRound (D + 1) jump).run P W3 = .ok (.bool jump.isNone) W4 ∧ W3.grownBy W4 (some (D + 1)) ∧
          W4.heap[D + 1]? = some (.loop (R (if jump.isNone then .ready else .done) jump)) ∧ W4.heap[D]? = some (.deferred (some [])) ∧ KeptP w.heap.size Pr W W4 ∧ (∀ o, W3.heap[D + 1]? = some o → o.isCells = false) := by
        intro jump W3 hk hx
        have l3 := hk.same _ _ (by omega) lU rfl
        have d3 := hk.same _ _ (by omega) dU rfl
        have hrun := run_endRound (P := P) jump l3
        have g4 := putObj_grown W3 (D + 1) (.loop (R (if jump.isNone then .ready else .done) jump))
        refine ⟨_, ?_, g4, World.putObj_heap_same (Array.getElem?_eq_some_iff.1 l3).1, keepD g4 (by simp) d3, (kU.trans hx).trans (KeptP.grown g4 (Nat.le_trans hsza (Nat.le_trans gU.size hx.1)) (.inr (by omega))), fun o ho => by rw [l3] at ho; cases ho; rfl⟩
        rw [hrun, ho2, hR]
      rintro e a3 W3 hp
      cases e with
      | normal =>
        obtain ⟨p1, p2, p3⟩ := hp
        obtain ⟨W4, q1, q2, q3, q4, q5, q6⟩ := fin none W3 p1 p2
        exact ⟨_, _, q1, .inl ⟨rfl, ⟨hI _ _ _ _ p3 q2 (.inr ⟨_, rfl, by omega, q6⟩), q3, q4⟩, q5⟩⟩
      | ret =>
        obtain ⟨p1, p2, p3⟩ := hp
        obtain ⟨W4, q1, q2, q3, q4, q5, q6⟩ := fin (some .ret) W3 p1 p2
        exact ⟨_, _, q1, .inr ⟨rfl, ⟨.ret, hIx _ _ _ _ _ p3 q2 (.inr ⟨_, rfl, by omega, q6⟩), q3, q4⟩, q5⟩⟩
      | exit i =>
        obtain ⟨p1, p2, p3⟩ := hp
        obtain ⟨W4, q1, q2, q3, q4, q5, q6⟩ := fin (some (.exit i)) W3 p1 p2
        exact ⟨_, _, q1, .inr ⟨rfl, ⟨.exit i, hIx _ _ _ _ _ p3 q2 (.inr ⟨_, rfl, by omega, q6⟩), q3, q4⟩, q5⟩⟩
      | goto i =>
        obtain ⟨p1, p2, p3⟩ := hp
        obtain ⟨W4, q1, q2, q3, q4, q5, q6⟩ := fin (some (.goto i)) W3 p1 p2
        exact ⟨_, _, q1, .inr ⟨rfl, ⟨.goto i, hIx _ _ _ _ _ p3 q2 (.inr ⟨_, rfl, by omega, q6⟩), q3, q4⟩, q5⟩⟩
      | panic ch => exact hp.elim
      | outgrown => exact hp.elim
    · -- behind the iterator
      rintro e W2 ⟨⟨v, rfl⟩, (⟨xs, hS, h2, h3, h4⟩ | ⟨pre, hS, c, h2, h3, h4⟩)⟩
      · have hrun := run_endLoop (P := P) h3 (by rw [hR]; simp [rec'])
        have g4 := putObj_grown W2 (D + 1) (.loop { R .ready none with state := .exhausted })
        refine ⟨none, _, by rw [hrun, hR], ?_⟩
        rw [← hR]
        exact hdone D xs W2 _ (by omega) hS (hI _ _ _ _ h2 g4 (.inr ⟨_, rfl, by omega, fun o ho => by rw [h3] at ho; cases ho; rfl⟩)) g4 (keepD g4 (by simp) h4)
      · have hrun := run_endLoop (P := P) h3 (by rw [hR]; simp [rec'])
        have g4 := putObj_grown W2 (D + 1) (.loop { R .done (some c) with state := .exhausted })
        refine ⟨some c, _, by rw [hrun, hR], ?_⟩
        rw [← hR]
        exact hstop D c pre W2 _ (by omega) hS (hIx _ _ _ _ _ h2 g4 (.inr ⟨_, rfl, by omega, fun o ho => by rw [h3] at ho; cases ho; rfl⟩)) g4 (keepD g4 (by simp) h4)

end Go.Proofs.YtpdacbiiaglodaaGreat

/-
  LAYER 5 (norms): the decompositions, told in order, where the round may turn elder blocks.
-/
namespace Go.Proofs.YtpdacbiiaglodaaGreat
set_option maxRecDepth 100000
open Go.RowKit Go.Lib
attribute [local go_sem] Oper.semAt_some

set_option maxHeartbeats 8000000 in
theorem dvals1_tellsQ (n p n0 : Nat) (Pr : Nat → Prop) (vd : Value) (d : List Dec) (w : World) (hw : Boxed w p 24 vd) (hr : Tri .i32 w vd d)
    (hp : p < n0 ∧ Pr p) (hv : d ≠ [] → ∀ k, vd.ownBlock = some k → k < n0 ∧ Pr k) :
    TellsQ Fence.wide (n + 3) Tryz.prog 133 #[.pointer (some ⟨p, 0, none⟩)] dEnc (dTold d) none n0 Pr (dAll d) (fun _ _ => True) w := by
  obtain ⟨a, c, rfl, hc, hm⟩ := hr.form
  unfold maxLen at hm
  intro l J Jx W hkx hn0 hJ hJx hY h0
  have hst : Boxed W p 24 (.slice a d.length c) := (hkx.2 p hp.1 hp.2).trans hw
  have hrW : Tri .i32 W (.slice a d.length c) d := hr.heap (fun hne k e => hkx.2 k (hv hne k e).1 (hv hne k e).2)
  clear hw hr hkx
  have hc1 := hst.cell
  refine callsIn_of_wp Tryz.func133 rfl trivial ?_ rfl
  simp only [Tryz.ntmps133, List.size_toArray, List.length_cons, List.length_nil, Nat.reduceAdd, Nat.reduceSub, Array.replicate_succ, Array.replicate_zero, List.push_toArray, List.append_toArray, List.nil_append, List.cons_append]
  gi_wp2
  gi_loopw [7] (fun va wr => ∃ (pre : List Dec) (k : Nat), va = .int .i64 (k : Int) ∧ Hid (pre = d.take k) ∧ k ≤ d.length ∧ J pre wr ∧ Hid (Tri .i32 wr (.slice a d.length c) d) ∧ n0 ≤ wr.heap.size) (fun va _ => d.length - (RowKit.intOf va).toNat)
  case atStart => exact ⟨[], 0, rfl, Lib.hid rfl, Nat.zero_le _, h0, Lib.hid hrW, hn0⟩
  case round =>
    clear h0 hst hrW hn0 hc1
    obtain ⟨pre, k, rfl, hpl, hk, hj, hR, hn0⟩ := hrel
    have hpk : pre.length = k := by rw [hpl.out]; simp; omega
    by_cases hlt : k < d.length
    · obtain ⟨x, hx⟩ : ∃ x, d[k] = x := ⟨_, rfl⟩
      obtain ⟨b, off, rfl, c1, c2, c3⟩ := hR.out.get (i := k) hlt
      rw [hx] at c1 c2 c3
      have hget : d[pre.length]? = some x := by rw [hpk, List.getElem?_eq_getElem hlt, hx]
      have hnx : Hid (pre ++ [x] = d.take (k + 1)) := Lib.hid (by rw [hpl.out, List.take_succ_eq_append_getElem hlt, hx])
      obtain ⟨w2, hw2⟩ : ∃ w2, w2 = wr.alloc (.cells #[.int .i32 x.1, .int .i32 x.2.1, .int .i32 x.2.2] 106) := ⟨_, rfl⟩
      have hg2 : wr.grownBy w2 none := by rw [hw2]; exact World.grownBy_alloc wr _ none
      have hR2 := hR.out.all hg2
      obtain ⟨fn, tmps, assign, body, hy, hRd⟩ := hY pre x w2 (hJ _ _ _ hj hg2) hget (Nat.le_trans hn0 hg2.size)
      unfold dEnc dAgg at hy
      replace hR2 := Lib.hid hR2
      replace hget := Lib.hid hget
      replace hw2 := Lib.hid hw2
      clear hR hx hpl
      gi_wp2_with fail
      rw [← hw2.out, hy]
      gi_wp2
      refine hRd.mono ?_
      rintro e3 W5 (⟨rfl, hj3, hk3⟩ | ⟨rfl, hj3, hk3⟩)
      all_goals gi_wp2
      all_goals first
        | exact ⟨⟨pre ++ [x], k + 1, by go_num, hnx, by omega, hj3, Lib.hid (hR2.out.heap (fun hne q e => hk3.2 q (hv hne q e).1 (hv hne q e).2)), Nat.le_trans (Nat.le_trans hn0 hg2.size) hk3.1⟩, by simp [RowKit.intOf]; omega⟩
        | (refine bodyPost_ret (results_none rfl _ _ _) rfl ?_; exact ⟨⟨_, rfl⟩, .inr ⟨_, trivial, hj3⟩⟩)
        | (go_end0; exact ⟨⟨_, rfl⟩, .inr ⟨_, trivial, hj3⟩⟩)
    · obtain rfl : k = d.length := by omega
      have hall : dAll d pre wr := by unfold dAll; rw [hpl.out, List.take_length]
      clear hR
      gi_wp2
      all_goals first
        | (refine bodyPost_ret (results_none rfl _ _ _) rfl ?_; exact ⟨⟨_, rfl⟩, .inl ⟨pre, hall, hj⟩⟩)
        | (go_end0; exact ⟨⟨_, rfl⟩, .inl ⟨pre, hall, hj⟩⟩)
end Go.Proofs.YtpdacbiiaglodaaGreat

/-
  LAYER 5 (norms): steps: the map of all decompositions.
-/
namespace Go.Proofs.YtpdacbiiaglodaaGreat
set_option maxRecDepth 100000
open Go.RowKit Go.Lib
attribute [local go_sem] Oper.semAt_some

theorem mapMade (t : TypeId) (v : Value) (n : Nat) (h : v = .int .i64 (n : Int)) (ht : t = 148) (w : World) : (Instr.makeMap t (some v)).run Tryz.prog w = .ok (.map (some w.heap.size)) (w.alloc (.map #[] 0)) := by
  subst h ht
  have hu : Tryz.prog.underlying 148 = some (.map 21 106) := Tryz.underlying148
  simp [Instr.makeMap, run_underlying hu, asInt, asIntOf, Result.andThen]

/-- The decompositions as a map's entries. -/
def ents (d : List Dec) : List (Int × Value) := d.map fun x => (x.1, dAgg x)

theorem take_next {α : Type} {l pre : List α} {x : α} (h : pre = l.take pre.length) (hx : l[pre.length]? = some x) : pre ++ [x] = l.take (pre ++ [x]).length := by
  rw [List.length_append, List.length_cons, List.length_nil, List.take_add_one, hx]
  simp only [Option.toList_some]
  rw [← h]
theorem ents_new {d pre : List Dec} {x : Dec} (hr : (d.map (·.1)).Pairwise (· < ·)) (h : pre = d.take pre.length) (hx : d[pre.length]? = some x) : ∀ y ∈ ents pre, y.1 ≠ x.1 := by
  intro y hy
  obtain ⟨z, hz, rfl⟩ := List.mem_map.1 hy
  obtain ⟨hl, rfl⟩ := List.getElem?_eq_some_iff.1 hx
  rw [h] at hz
  obtain ⟨i, hi, rfl⟩ := List.getElem_of_mem hz
  have hil : i < pre.length := by rw [List.length_take] at hi; omega
  have := List.pairwise_iff_getElem.1 hr i pre.length (by simp; omega) (by simpa using hl) hil
  simp only [List.getElem_map] at this
  simp only [List.getElem_take]
  show (d[i]).1 ≠ _
  omega

set_option maxHeartbeats 8000000 in
theorem steps_in (vc vd : Value) (d : List Dec) (w : World) (hr : Tri .i32 w vd d) (hrise : (d.map (·.1)).Pairwise (· < ·)) :
    CallsIn Fence.wide 8 Tryz.prog 89 #[datV vc vd] w fun e w' => ∃ m, e = .returned (.map (some m)) ∧ w.heap.size ≤ m ∧ Ents w' m (ents d) ∧ w.grownBy w' none := by
  obtain ⟨a, c, rfl, hc, hm⟩ := hr.form
  have hmm := fun w => mapMade _ _ d.length rfl rfl w
  have hE := fun w => each_any vc (.slice a d.length c) w ⟨_, _, _, rfl⟩
  have hvb : d ≠ [] → ∀ k, (Value.slice a d.length c).ownBlock = some k → k < w.heap.size := fun hne k e => hr.lt hne k e
  unfold datV at hE ⊢
  refine callsIn_of_wp_marks Tryz.func89 rfl trivial ?_ rfl
  simp only [Tryz.ntmps89, List.size_toArray, List.length_cons, List.length_nil, Nat.reduceAdd, Nat.reduceSub, Array.replicate_succ, Array.replicate_zero, List.push_toArray, List.append_toArray, List.nil_append, List.cons_append]
  gi_wp2_with (refine ⟨trivial, ?_⟩; gi_at_call 56; refine (callsIn_wide.2 (hE _)).mono ?_; rintro e w1 ⟨p, rfl, hp, hb, hg⟩)
  obtain ⟨W0, hW0⟩ : ∃ W0, W0 = ((w.alloc (.cells #[vc, .slice a d.length c] 33)).alloc (.map #[] 0)).alloc (.cells #[.map (some (w.heap.size + 1))] 148) := ⟨_, rfl⟩
  rw [← hW0] at hp hg
  have hs0 : W0.heap.size = w.heap.size + 3 := by rw [hW0]; simp
  have hg0 : w.grownBy W0 none := by rw [hW0]; exact galloc (galloc (World.grownBy_alloc w _ none) _) _
  have hm0 : Ents W0 (w.heap.size + 1) [] := by
    refine ⟨#[], 0, ?_, rfl⟩
    rw [hW0]
    have h1 := World.alloc_heap_new (w.alloc (.cells #[vc, .slice a d.length c] 33)) (.map #[] 0)
    rw [World.size_alloc] at h1
    exact ((World.grownBy_alloc ((w.alloc (.cells #[vc, .slice a d.length c] 33)).alloc (.map #[] 0)) (.cells #[.map (some (w.heap.size + 1))] 148) none).block (w.heap.size + 1) (by simp) (by simp)).trans h1
  have hb0 : Boxed W0 (w.heap.size + 2) 148 (.map (some (w.heap.size + 1))) := by
    rw [hW0]
    have := Boxed.new ((w.alloc (.cells #[vc, .slice a d.length c] 33)).alloc (.map #[] 0)) 148 (.map (some (w.heap.size + 1)))
    simpa using this
  clear hW0
  have hs1 := hg.size
  have hpl := hb.lt
  have hTell := dvals1_tells 4 p w1.heap.size (w.heap.size + 1) _ d w1 hb ((hr.all hg0).all hg) (by omega) (fun hne k e => by have := hvb hne k e; omega)
  refine range_tells4 (a := _) (w := w1) (α := Dec) rfl (by omega) (gf := 133) (lb := #[.pointer (some ⟨p, 0, none⟩)]) rfl trivial (enters_of Tryz.func133 (by kernel_rfl) rfl)
    hTell (by simp) (fun _ => rfl) (fun _ _ _ _ _ _ h _ _ _ => h)
    (fun pre W => Hid (pre = d.take pre.length) ∧ Ents W (w.heap.size + 1) (ents pre) ∧ Boxed W (w.heap.size + 2) 148 (.map (some (w.heap.size + 1))) ∧ w.grownBy W none ∧ w1.heap.size ≤ W.heap.size) (fun _ _ _ => False)
    ?hI (fun _ _ _ _ _ h _ _ => h.elim) ⟨Lib.hid rfl, hm0.kept hg (by simp), hb0.kept hg (by simp), hg0.trans hg, Nat.le_refl _⟩
    (fun x a' W => ∃ q, W.heap[q]? = some (.cells #[.int .i32 x.1, .int .i32 x.2.1, .int .i32 x.2.2] 106) ∧ a' = { tmps := #[.agg #[vc, .slice a d.length c], .pointer (some ⟨w.heap.size, 0, none⟩), .map none, .pointer (some ⟨w.heap.size + 1 + 1, 0, none⟩), .pointer (some ⟨q, 0, none⟩), .pointer (some ⟨w.heap.size, 1, none⟩), .slice a d.length c, .int .i64 (d.length : Int), .map (some (w.heap.size + 1)), .agg #[vc, .slice a d.length c], .func (.func 133) #[] #[.pointer (some ⟨p, 0, none⟩)], dAgg x, undef, undef, undef, undef, undef], defers := [] })
    (fun _ _ _ _ h _ => h) ?hAx ?assign ?body ?done ?stop
  case hI =>
    rintro pre A B k ⟨h0, h1, h2, h3, h4⟩ hg' hk
    have hk2 : ∀ q, k = some q → w1.heap.size ≤ q := by
      rintro q rfl
      rcases hk with hk | ⟨q', hk, hq, _⟩
      · cases hk
      · cases hk; exact hq
    refine ⟨h0, h1.kept hg' (fun e => by have := hk2 _ e; omega), h2.kept hg' (fun e => by have := hk2 _ e.symm; omega), gnew h3 hg' (fun q e => .inl (by have := hk2 _ e; omega)), Nat.le_trans h4 hg'.size⟩
  case hAx =>
    rintro x a' A B k o ⟨q, hc', rfl⟩ hg' hk ho
    refine ⟨q, (hg'.block q (Array.getElem?_eq_some_iff.1 hc').1 (fun e => ?_)).trans hc', rfl⟩
    cases e
    rw [hc'] at hk
    cases hk
    cases ho
  case assign =>
    intro l x W K hK
    unfold dEnc dAgg
    gi_wp2_with fail
    refine hK _ _ (World.grownBy_alloc W _ none) ⟨W.heap.size, World.alloc_heap_new W _, ?_⟩
    rfl
  case body =>
    rintro l2 pre x a' W ⟨h0, h1, h2, h3, h4⟩ hget ⟨q, hc', rfl⟩ hsz
    have r1 := h2.cell
    clear hTell hr hvb hb0 hm0 hb hE
    have hnew : ∀ y ∈ ents pre, y.1 ≠ x.1 := ents_new hrise h0.out hget
    have hnx := Lib.hid (take_next h0.out hget)
    obtain ⟨W2, hrun, he2, hg2, hs2⟩ := run_update_ents (P := Tryz.prog) Tryz.underlying148 Tryz.underlying21 h1 x.1 (dAgg x) hnew
    unfold dAgg at hrun
    have c1 : W.cell? ⟨q, 0, none⟩ = some (.int .i32 x.1) := by simp only [World.cell?, hc']; rfl
    have c2 : W.cell? ⟨q, 1, none⟩ = some (.int .i32 x.2.1) := by simp only [World.cell?, hc']; rfl
    have c3 : W.cell? ⟨q, 2, none⟩ = some (.int .i32 x.2.2) := by simp only [World.cell?, hc']; rfl
    gi_wp2_with fail
    refine ⟨KeepsFrom.of_grownBy hg2 (fun j e => by cases e; omega), KeptX.grown hg2 hsz (.inl rfl), hnx, ?_, h2.kept hg2 (by simp), gnew h3 hg2 (fun r e => by cases e; left; omega), by omega⟩
    simpa [ents] using he2
  case stop =>
    rintro D c pre Wd W15 hD _ h _ _
    exact h.elim
  case done =>
    rintro D xs Wd W15 hD hS ⟨h0, h1, h2, h3, h4⟩ hg' hM
    obtain rfl : xs = d := hS
    have r1 := h2.cell
    gi_wp2_with fail
    refine ⟨by simp, .inl ⟨_, _, rfl, run_takeDeferred hM, ?_⟩⟩
    have gp := grownBy_putObj' W15 D (.deferred none)
    have hP : ∃ m, w.heap.size ≤ m ∧ Ents (W15.putObj D (.deferred none)) m (ents xs) ∧ w.grownBy (W15.putObj D (.deferred none)) none ∧ m = w.heap.size + 1 := ⟨_, by omega, h1.kept gp (by simp; omega), gnew h3 gp (fun r e => by cases e; left; omega), rfl⟩
    obtain ⟨m, hm1, hm2, hm3, rfl⟩ := hP
    simp [LeavesInM, LeavesIn, results, Tryz.results89, go_sem]
    exact ⟨hm2, hm3⟩
theorem steps_any (vc vd : Value) (d : List Dec) (w : World) (hr : Tri .i32 w vd d) (hrise : (d.map (·.1)).Pairwise (· < ·)) :
    Calls Tryz.prog 89 #[datV vc vd] w fun e w' => ∃ m, e = .returned (.map (some m)) ∧ w.heap.size ≤ m ∧ Ents w' m (ents d) ∧ w.grownBy w' none := callsIn_wide.1 (steps_in vc vd d w hr hrise)
end Go.Proofs.YtpdacbiiaglodaaGreat
