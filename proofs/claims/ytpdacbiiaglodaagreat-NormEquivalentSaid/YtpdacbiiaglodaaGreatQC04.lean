/-
  LAYER 5 (norms): A RANGE OVER A FUNCTION WHOSE LOOP VARIABLE IS BOXED (the assign code lays a block in every round): one law for the caller, as range_tells3. No program is named here.
-/
import Derived.Test.YtpdacbiiaglodaaGreatQC03
import Derived.RangeFuncWrites
import Derived.Test.YtpdacbiiaglodaaGreatQC01
import Derived.WalkKit
namespace Go.Proofs.YtpdacbiiaglodaaGreat
set_option maxRecDepth 100000
open Go.RowKit

/-- How a round's body may be left: a map that lay ahead of the loop may be written. -/
def roundLeftF {α : Type} (n0 ib : Nat) (I : List α → World → Prop) (Ix : Code → List α → World → Prop) (xs : List α) (W : World) : Exit → Act → World → Prop
  | .normal, _, W' => KeepsFrom n0 W W' ∧ KeptX n0 ib W W' ∧ I xs W'
  | .ret, _, W' => KeepsFrom n0 W W' ∧ KeptX n0 ib W W' ∧ Ix .ret xs W'
  | .exit i, _, W' => KeepsFrom n0 W W' ∧ KeptX n0 ib W W' ∧ Ix (.exit i) xs W'
  | .goto i, _, W' => KeepsFrom n0 W W' ∧ KeptX n0 ib W W' ∧ Ix (.goto i) xs W'
  | .panic _, _, _ => False
  | .outgrown, _, _ => False

set_option maxHeartbeats 4000000 in
theorem range_tells4 {α : Type} {F : Fence} {n : Nat} {P : Program} {g : Operand} {ps : Array Tmp} {assign body : Code} {Q : Exit → Act → World → Prop} {a : Act} {w : World}
    (hro : F.round = none) (h1 : 1 ≤ n) {gf : Nat} {lb : Array Value} (hg : a.eval g = .func (.func gf) #[] lb) (hFg : F.fn gf) (eg : ∀ args w, (callFunc gf args).run P w = .ok (.enter gf args) w)
    {encs : α → Array Value} {Ok : List α → α → World → Prop} {r : Option Nat} {ib : Nat} {S Sp : List α → World → Prop}
    (hseq : TellsO F (n - 1) P gf lb encs Ok r w.heap.size ib S Sp w) (hrw : r ≠ some w.heap.size ∧ r ≠ some (w.heap.size + 1)) (hps : ∀ x, (encs x).size = ps.size)
    (hOk : ∀ pre x A B k o, Ok pre x A → A.grownBy B (some k) → A.heap[k]? = some o → o.isCells = false → Ok pre x B)
    (I : List α → World → Prop) (Ix : Code → List α → World → Prop)
    (hI : ∀ s A B k, I s A → A.grownBy B k → (k = r ∨ (∃ q, k = some q ∧ w.heap.size ≤ q ∧ ∀ o, A.heap[q]? = some o → o.isCells = false)) → I s B)
    (hIx : ∀ c s A B k, Ix c s A → A.grownBy B k → (k = r ∨ (∃ q, k = some q ∧ w.heap.size ≤ q ∧ ∀ o, A.heap[q]? = some o → o.isCells = false)) → Ix c s B)
    (h0 : I [] w) (Ax : α → Act → World → Prop)
    (hOk0 : ∀ pre x A B, Ok pre x A → A.grownBy B none → Ok pre x B)
    (hAx : ∀ x a' A B k o, Ax x a' A → A.grownBy B (some k) → A.heap[k]? = some o → o.isCells = false → Ax x a' B)
    (hassign : ∀ (l : Nat) (x : α) (W : World) (K : Act → World → Prop), (∀ a' W', W.grownBy W' none → Ax x a' W' → K a' W') →
      assign.wpIn (F.inRound l) (n - 1 - 1) P (Exit.then K (fun _ _ _ => False)) { tmps := (ps.zip (encs x)).foldl (fun t (p, v) => t.setIfInBounds p v) a.tmps, defers := [] } W)
    (hbody : ∀ (l : Nat) (pre : List α) (x : α) (a' : Act) (W : World), I pre W → Ok pre x W → Ax x a' W → w.heap.size ≤ W.heap.size → body.wpIn (F.inRound l) (n - 1 - 1) P (roundLeftF w.heap.size ib I Ix (pre ++ [x]) W) a' W)
    (hdone : ∀ (D : Nat) (xs : List α) (W W' : World), w.heap.size ≤ D → S xs W → I xs W' → W.grownBy W' (some (D + 1)) → W'.heap[D]? = some (.deferred (some [])) → Q .normal { a with defers := { target := .collected D, args := #[] } :: a.defers } W')
    (hstop : ∀ (D : Nat) (c : Code) (pre : List α) (W W' : World), w.heap.size ≤ D → Sp pre W → Ix c pre W' → W.grownBy W' (some (D + 1)) → W'.heap[D]? = some (.deferred (some [])) → c.wpIn F n P Q { a with defers := { target := .collected D, args := #[] } :: a.defers } W') :
    (Code.rangeFunc g ps assign body).wpIn F n P Q a w := by
  refine wpIn_rangeFunc fun fn hfn => ?_
  rw [hro]
  -- the loop's record, in each of its states
  let rec' : LoopState → Option Code → Loop := fun st pe => { state := st, pending := pe, fn, tmps := a.tmps, params := ps, assign, body, defers := w.heap.size }
  obtain ⟨R, hR⟩ : ∃ R, R = rec' := ⟨_, rfl⟩
  obtain ⟨D, hD⟩ : ∃ D, D = w.heap.size := ⟨_, rfl⟩
  obtain ⟨V, hV⟩ : ∃ V, V = (w.alloc (.deferred (some []))).alloc (.loop (R .ready none)) := ⟨_, rfl⟩
  have gV : w.grownBy V none := by rw [hV]; exact (World.grownBy_alloc w _ none).trans (World.grownBy_alloc _ _ none)
  have lV : V.heap[D + 1]? = some (.loop (R .ready none)) := by
    rw [hV, hD]
    have := World.alloc_heap_new (w.alloc (.deferred (some []))) (.loop (R .ready none))
    rwa [World.size_alloc] at this
  have dV : V.heap[D]? = some (.deferred (some [])) := by
    rw [hV, hD]
    exact ((World.grownBy_alloc (w.alloc (.deferred (some []))) (.loop (R .ready none)) none).block w.heap.size (by simp) (by simp)).trans (World.alloc_heap_new w _)
  have hrD : r ≠ some D ∧ r ≠ some (D + 1) := by rw [hD]; exact hrw
  have iV : I [] V := hI _ _ _ (some D) h0 (gbut gV _) (.inr ⟨D, rfl, by omega, fun o ho => by have := (Array.getElem?_eq_some_iff.1 ho).1; omega⟩)
  refine ⟨D + 1, [{ target := .collected D, args := #[] }], V, { target := .fn (.func gf) lb, args := #[.func (.yield (D + 1)) #[] #[]] }, V, gf, #[.func (.yield (D + 1)) #[] #[]] ++ lb, V, ?_, ?_, ?_, ?_, fun _ => h1, ?_⟩
  · rw [hV, hR, hD]; exact run_enterLoop_outer _ _ _ _ _
  · simp only [resolve, hg]
    simp [go_sem]
  · intro f' hf'; simp [Target.leads] at hf'; subst hf'; exact hFg
  · simp [invoke, go_sem, eg]
  · have keepD : ∀ {A B : World} {q : Option Nat} {o : Obj}, A.grownBy B q → q ≠ some D → A.heap[D]? = some o → B.heap[D]? = some o := fun h hq ho => (h.block D (Array.getElem?_eq_some_iff.1 ho).1 (fun e => hq e.symm)).trans ho
    have keepL : ∀ {A B : World} {q : Option Nat} {o : Obj}, A.grownBy B q → q ≠ some (D + 1) → A.heap[D + 1]? = some o → B.heap[D + 1]? = some o := fun h hq ho => (h.block (D + 1) (Array.getElem?_eq_some_iff.1 ho).1 (fun e => hq e.symm)).trans ho
    refine (hseq (D + 1) (fun pre W => I pre W ∧ W.heap[D + 1]? = some (.loop (R .ready none)) ∧ W.heap[D]? = some (.deferred (some [])))
      (fun pre W => ∃ c, Ix c pre W ∧ W.heap[D + 1]? = some (.loop (R .done (some c))) ∧ W.heap[D]? = some (.deferred (some []))) V
      (KeptX.grown (q := D) (gbut gV _) (Nat.le_refl _) (.inr (by omega))) gV.size ?_ ?_ ?_ ⟨iV, lV, dV⟩).mono ?_
    · rintro s A B ⟨h2, h3, h4⟩ hAB
      exact ⟨hI _ _ _ r h2 hAB (.inl rfl), keepL hAB hrD.2 h3, keepD hAB hrD.1 h4⟩
    · rintro s A B ⟨c, h2, h3, h4⟩ hAB
      exact ⟨c, hIx _ _ _ _ r h2 hAB (.inl rfl), keepL hAB hrD.2 h3, keepD hAB hrD.1 h4⟩
    · -- one round
      rintro pre x W ⟨h2, h3, h4⟩ hok hsz
      have hlt : D + 1 < W.heap.size := (Array.getElem?_eq_some_iff.1 h3).1
      have hy := run_yield (P := P) (args := encs x) h3 (by rw [hR]; exact hps x)
      rw [hR] at hy
      refine ⟨fn, _, assign, body, hy, roundIn_of_wpIn hfn (hassign _ x W _ fun a' Wa gA hax => ?_)⟩
      have h2a : I pre Wa := hI _ _ _ (some D) h2 (gbut gA _) (.inr ⟨D, rfl, by omega, fun o ho => by rw [h4] at ho; cases ho; rfl⟩)
      have h3a := keepL gA (by simp) h3
      have h4a := keepD gA (by simp) h4
      have kA : KeptX w.heap.size ib W Wa := ⟨gA.size, fun k h1 _ => gA.block k (by omega) (by simp)⟩
      have hsza := Nat.le_trans hsz gA.size
      have hoka := hOk0 _ _ _ _ hok gA
      have hlta : D + 1 < Wa.heap.size := (Array.getElem?_eq_some_iff.1 h3a).1
      refine ⟨_, run_beginRound h3a (by rw [hR]), ?_⟩
      obtain ⟨o2, ho2⟩ : ∃ o2 : Loop, o2 = { R .ready none with state := .busy } := ⟨_, rfl⟩
      rw [← ho2]
      have gU := putObj_grown Wa (D + 1) (.loop o2)
      have lU : (Wa.putObj (D + 1) (.loop o2)).heap[D + 1]? = some (.loop o2) := World.putObj_heap_same hlta
      have dU := keepD gU (by simp) h4a
      have kU : KeptX w.heap.size ib W (Wa.putObj (D + 1) (.loop o2)) := kA.trans (KeptX.grown gU hsza (.inr (by omega)))
      refine wpIn_mono (hbody _ pre x a' _ (hI _ _ _ _ h2a gU (.inr ⟨_, rfl, by omega, fun o ho => by rw [h3a] at ho; cases ho; rfl⟩)) (hOk _ _ _ _ _ _ hoka gU h3a rfl) (hAx _ _ _ _ _ _ hax gU h3a rfl) (Nat.le_trans hsza gU.size)) ?_
      have fin : ∀ (jump : Option Code) (W3 : World), KeepsFrom w.heap.size (Wa.putObj (D + 1) (.loop o2)) W3 → KeptX w.heap.size ib (Wa.putObj (D + 1) (.loop o2)) W3 → ∃ W4, (Instr.endRound (D + 1) jump).run P W3 = .ok (.bool jump.isNone) W4 ∧ W3.grownBy W4 (some (D + 1)) ∧
          W4.heap[D + 1]? = some (.loop (R (if jump.isNone then .ready else .done) jump)) ∧ W4.heap[D]? = some (.deferred (some [])) ∧ KeptX w.heap.size ib W W4 ∧ (∀ o, W3.heap[D + 1]? = some o → o.isCells = false) := by
        intro jump W3 hk hx
        have l3 := hk.same _ _ (by omega) lU rfl
        have d3 := hk.same _ _ (by omega) dU rfl
        have hrun := run_endRound (P := P) jump l3
        have g4 := putObj_grown W3 (D + 1) (.loop (R (if jump.isNone then .ready else .done) jump))
        refine ⟨_, ?_, g4, World.putObj_heap_same (Array.getElem?_eq_some_iff.1 l3).1, keepD g4 (by simp) d3, (kU.trans hx).trans (KeptX.grown g4 (Nat.le_trans hsza (Nat.le_trans gU.size hx.1)) (.inr (by omega))), fun o ho => by rw [l3] at ho; cases ho; rfl⟩
        rw [hrun, ho2, hR]
      rintro e a3 W3 hp
      cases e with
      | normal =>
        obtain ⟨p1, p2, p3⟩ := hp
        obtain ⟨W4, q1, q2, q3, q4, q5, q6⟩ := fin none W3 p1 p2
        exact ⟨_, _, q1, .inl ⟨rfl, ⟨hI _ _ _ _ p3 q2 (.inr ⟨_, rfl, by omega, q6⟩), q3, q4⟩, q5⟩⟩
      | ret =>
        obtain ⟨p1, p2, p3⟩ := hp
        obtain ⟨W4, q1, q2, q3, q4, q5, q6⟩ := fin (some .ret) W3 p1 p2
        exact ⟨_, _, q1, .inr ⟨rfl, ⟨.ret, hIx _ _ _ _ _ p3 q2 (.inr ⟨_, rfl, by omega, q6⟩), q3, q4⟩, q5⟩⟩
      | exit i =>
        obtain ⟨p1, p2, p3⟩ := hp
        obtain ⟨W4, q1, q2, q3, q4, q5, q6⟩ := fin (some (.exit i)) W3 p1 p2
        exact ⟨_, _, q1, .inr ⟨rfl, ⟨.exit i, hIx _ _ _ _ _ p3 q2 (.inr ⟨_, rfl, by omega, q6⟩), q3, q4⟩, q5⟩⟩
      | goto i =>
        obtain ⟨p1, p2, p3⟩ := hp
        obtain ⟨W4, q1, q2, q3, q4, q5, q6⟩ := fin (some (.goto i)) W3 p1 p2
        exact ⟨_, _, q1, .inr ⟨rfl, ⟨.goto i, hIx _ _ _ _ _ p3 q2 (.inr ⟨_, rfl, by omega, q6⟩), q3, q4⟩, q5⟩⟩
      | panic ch => exact hp.elim
      | outgrown => exact hp.elim
    · -- behind the iterator
      rintro e W2 ⟨⟨v, rfl⟩, (⟨xs, hS, h2, h3, h4⟩ | ⟨pre, hS, c, h2, h3, h4⟩)⟩
      · have hrun := run_endLoop (P := P) h3 (by rw [hR]; simp [rec'])
        have g4 := putObj_grown W2 (D + 1) (.loop { R .ready none with state := .exhausted })
        refine ⟨none, _, by rw [hrun, hR], ?_⟩
        rw [← hR]
        exact hdone D xs W2 _ (by omega) hS (hI _ _ _ _ h2 g4 (.inr ⟨_, rfl, by omega, fun o ho => by rw [h3] at ho; cases ho; rfl⟩)) g4 (keepD g4 (by simp) h4)
      · have hrun := run_endLoop (P := P) h3 (by rw [hR]; simp [rec'])
        have g4 := putObj_grown W2 (D + 1) (.loop { R .done (some c) with state := .exhausted })
        refine ⟨some c, _, by rw [hrun, hR], ?_⟩
        rw [← hR]
        exact hstop D c pre W2 _ (by omega) hS (hIx _ _ _ _ _ h2 g4 (.inr ⟨_, rfl, by omega, fun o ho => by rw [h3] at ho; cases ho; rfl⟩)) g4 (keepD g4 (by simp) h4)

end Go.Proofs.YtpdacbiiaglodaaGreat

/-
  LAYER 5 (norms): A RANGE OVER A FUNCTION (as XNRange), WHERE THE ROUND MAY TURN ANY ELDER BLOCK BUT THOSE THAT THE ITERATOR READS (Pr says which). No program is named here.
-/
namespace Go.Proofs.YtpdacbiiaglodaaGreat
set_option maxRecDepth 100000
open Go.RowKit

def KeptP (n0 : Nat) (Pr : Nat → Prop) (A B : World) : Prop := A.heap.size ≤ B.heap.size ∧ ∀ k, k < n0 → Pr k → B.heap[k]? = A.heap[k]?
theorem KeptP.refl {n0 : Nat} {Pr : Nat → Prop} (A : World) : KeptP n0 Pr A A := ⟨Nat.le_refl _, fun _ _ _ => rfl⟩
theorem KeptP.trans {n0 : Nat} {Pr : Nat → Prop} {A B C : World} (h : KeptP n0 Pr A B) (k : KeptP n0 Pr B C) : KeptP n0 Pr A C := ⟨Nat.le_trans h.1 k.1, fun i h1 h2 => (k.2 i h1 h2).trans (h.2 i h1 h2)⟩
theorem KeptP.grown {n0 q : Nat} {Pr : Nat → Prop} {A B : World} (h : A.grownBy B (some q)) (hn : n0 ≤ A.heap.size) (hq : ¬ Pr q ∨ n0 ≤ q) : KeptP n0 Pr A B :=
  ⟨h.size, fun k h1 h2 => h.block k (by omega) (fun e => by cases e; rcases hq with hq | hq; exact hq h2; omega)⟩

/-- What an iterator promises: called with yield, it calls yield at what it tells, as long as rounds go on; its own steps turn block r alone. -/
def TellsQ {α : Type} (F : Fence) (n : Nat) (P : Program) (g : Nat) (lb : Array Value) (encs : α → Array Value) (Ok : List α → α → World → Prop) (r : Option Nat) (n0 : Nat) (Pr : Nat → Prop) (S Sp : List α → World → Prop) (w : World) : Prop :=
  ∀ (l : Nat) (J Jx : List α → World → Prop) (W : World), KeptP n0 Pr w W → n0 ≤ W.heap.size →
    (∀ s A B, J s A → A.grownBy B r → J s B) → (∀ s A B, Jx s A → A.grownBy B r → Jx s B) →
    (∀ pre x W1, J pre W1 → Ok pre x W1 → n0 ≤ W1.heap.size → YieldAt F (n - 1) P l (encs x) W1 fun e W' =>
      (e = .returned (.bool true) ∧ J (pre ++ [x]) W' ∧ KeptP n0 Pr W1 W') ∨ (e = .returned (.bool false) ∧ Jx (pre ++ [x]) W' ∧ KeptP n0 Pr W1 W')) →
    J [] W →
    CallsIn F n P g (#[.func (.yield l) #[] #[]] ++ lb) W fun e W' => (∃ v, e = .returned v) ∧ ((∃ xs, S xs W' ∧ J xs W') ∨ (∃ pre, Sp pre W' ∧ Jx pre W'))

/-- How a round's body may be left: a map that lay ahead of the loop may be written. -/
def roundLeftQ {α : Type} (n0 : Nat) (Pr : Nat → Prop) (I : List α → World → Prop) (Ix : Code → List α → World → Prop) (xs : List α) (W : World) : Exit → Act → World → Prop
  | .normal, _, W' => KeepsFrom n0 W W' ∧ KeptP n0 Pr W W' ∧ I xs W'
  | .ret, _, W' => KeepsFrom n0 W W' ∧ KeptP n0 Pr W W' ∧ Ix .ret xs W'
  | .exit i, _, W' => KeepsFrom n0 W W' ∧ KeptP n0 Pr W W' ∧ Ix (.exit i) xs W'
  | .goto i, _, W' => KeepsFrom n0 W W' ∧ KeptP n0 Pr W W' ∧ Ix (.goto i) xs W'
  | .panic _, _, _ => False
  | .outgrown, _, _ => False

set_option maxHeartbeats 4000000 in
theorem range_tellsQ {α : Type} {F : Fence} {n : Nat} {P : Program} {g : Operand} {ps : Array Tmp} {assign body : Code} {Q : Exit → Act → World → Prop} {a : Act} {w : World}
    (hro : F.round = none) (h1 : 1 ≤ n) {gf : Nat} {lb : Array Value} (hg : a.eval g = .func (.func gf) #[] lb) (hFg : F.fn gf) (eg : ∀ args w, (callFunc gf args).run P w = .ok (.enter gf args) w)
    {encs : α → Array Value} {Ok : List α → α → World → Prop} {r : Option Nat} {Pr : Nat → Prop} {S Sp : List α → World → Prop}
    (hseq : TellsQ F (n - 1) P gf lb encs Ok r w.heap.size Pr S Sp w) (hrw : r ≠ some w.heap.size ∧ r ≠ some (w.heap.size + 1)) (hps : ∀ x, (encs x).size = ps.size)
    (hOk : ∀ pre x A B k o, Ok pre x A → A.grownBy B (some k) → A.heap[k]? = some o → o.isCells = false → Ok pre x B)
    (I : List α → World → Prop) (Ix : Code → List α → World → Prop)
    (hI : ∀ s A B k, I s A → A.grownBy B k → (k = r ∨ (∃ q, k = some q ∧ w.heap.size ≤ q ∧ ∀ o, A.heap[q]? = some o → o.isCells = false)) → I s B)
    (hIx : ∀ c s A B k, Ix c s A → A.grownBy B k → (k = r ∨ (∃ q, k = some q ∧ w.heap.size ≤ q ∧ ∀ o, A.heap[q]? = some o → o.isCells = false)) → Ix c s B)
    (h0 : I [] w) (Ax : α → Act → World → Prop)
    (hOk0 : ∀ pre x A B, Ok pre x A → A.grownBy B none → Ok pre x B)
    (hAx : ∀ x a' A B k o, Ax x a' A → A.grownBy B (some k) → A.heap[k]? = some o → o.isCells = false → Ax x a' B)
    (hassign : ∀ (l : Nat) (x : α) (W : World) (K : Act → World → Prop), (∀ a' W', W.grownBy W' none → Ax x a' W' → K a' W') →
      assign.wpIn (F.inRound l) (n - 1 - 1) P (Exit.then K (fun _ _ _ => False)) { tmps := (ps.zip (encs x)).foldl (fun t (p, v) => t.setIfInBounds p v) a.tmps, defers := [] } W)
    (hbody : ∀ (l : Nat) (pre : List α) (x : α) (a' : Act) (W : World), I pre W → Ok pre x W → Ax x a' W → w.heap.size ≤ W.heap.size → body.wpIn (F.inRound l) (n - 1 - 1) P (roundLeftQ w.heap.size Pr I Ix (pre ++ [x]) W) a' W)
    (hdone : ∀ (D : Nat) (xs : List α) (W W' : World), w.heap.size ≤ D → S xs W → I xs W' → W.grownBy W' (some (D + 1)) → W'.heap[D]? = some (.deferred (some [])) → Q .normal { a with defers := { target := .collected D, args := #[] } :: a.defers } W')
    (hstop : ∀ (D : Nat) (c : Code) (pre : List α) (W W' : World), w.heap.size ≤ D → Sp pre W → Ix c pre W' → W.grownBy W' (some (D + 1)) → W'.heap[D]? = some (.deferred (some [])) → c.wpIn F n P Q { a with defers := { target := .collected D, args := #[] } :: a.defers } W') :
    (Code.rangeFunc g ps assign body).wpIn F n P Q a w := by
  refine wpIn_rangeFunc fun fn hfn => ?_
  rw [hro]
  -- the loop's record, in each of its states
  let rec' : LoopState → Option Code → Loop := fun st pe => { state := st, pending := pe, fn, tmps := a.tmps, params := ps, assign, body, defers := w.heap.size }
  obtain ⟨R, hR⟩ : ∃ R, R = rec' := ⟨_, rfl⟩
  obtain ⟨D, hD⟩ : ∃ D, D = w.heap.size := ⟨_, rfl⟩
  obtain ⟨V, hV⟩ : ∃ V, V = (w.alloc (.deferred (some []))).alloc (.loop (R .ready none)) := ⟨_, rfl⟩
  have gV : w.grownBy V none := by rw [hV]; exact (World.grownBy_alloc w _ none).trans (World.grownBy_alloc _ _ none)
  have lV : V.heap[D + 1]? = some (.loop (R .ready none)) := by
    rw [hV, hD]
    have := World.alloc_heap_new (w.alloc (.deferred (some []))) (.loop (R .ready none))
    rwa [World.size_alloc] at this
  have dV : V.heap[D]? = some (.deferred (some [])) := by
    rw [hV, hD]
    exact ((World.grownBy_alloc (w.alloc (.deferred (some []))) (.loop (R .ready none)) none).block w.heap.size (by simp) (by simp)).trans (World.alloc_heap_new w _)
  have hrD : r ≠ some D ∧ r ≠ some (D + 1) := by rw [hD]; exact hrw
  have iV : I [] V := hI _ _ _ (some D) h0 (gbut gV _) (.inr ⟨D, rfl, by omega, fun o ho => by have := (Array.getElem?_eq_some_iff.1 ho).1; omega⟩)
  refine ⟨D + 1, [{ target := .collected D, args := #[] }], V, { target := .fn (.func gf) lb, args := #[.func (.yield (D + 1)) #[] #[]] }, V, gf, #[.func (.yield (D + 1)) #[] #[]] ++ lb, V, ?_, ?_, ?_, ?_, fun _ => h1, ?_⟩
  · rw [hV, hR, hD]; exact run_enterLoop_outer _ _ _ _ _
  · simp only [resolve, hg]
    simp [go_sem]
  · intro f' hf'; simp [Target.leads] at hf'; subst hf'; exact hFg
  · simp [invoke, go_sem, eg]
  · have keepD : ∀ {A B : World} {q : Option Nat} {o : Obj}, A.grownBy B q → q ≠ some D → A.heap[D]? = some o → B.heap[D]? = some o := fun h hq ho => (h.block D (Array.getElem?_eq_some_iff.1 ho).1 (fun e => hq e.symm)).trans ho
    have keepL : ∀ {A B : World} {q : Option Nat} {o : Obj}, A.grownBy B q → q ≠ some (D + 1) → A.heap[D + 1]? = some o → B.heap[D + 1]? = some o := fun h hq ho => (h.block (D + 1) (Array.getElem?_eq_some_iff.1 ho).1 (fun e => hq e.symm)).trans ho
    refine (hseq (D + 1) (fun pre W => I pre W ∧ W.heap[D + 1]? = some (.loop (R .ready none)) ∧ W.heap[D]? = some (.deferred (some [])))
      (fun pre W => ∃ c, Ix c pre W ∧ W.heap[D + 1]? = some (.loop (R .done (some c))) ∧ W.heap[D]? = some (.deferred (some []))) V
      (KeptP.grown (q := D) (gbut gV _) (Nat.le_refl _) (.inr (by omega))) gV.size ?_ ?_ ?_ ⟨iV, lV, dV⟩).mono ?_
    · rintro s A B ⟨h2, h3, h4⟩ hAB
      exact ⟨hI _ _ _ r h2 hAB (.inl rfl), keepL hAB hrD.2 h3, keepD hAB hrD.1 h4⟩
    · rintro s A B ⟨c, h2, h3, h4⟩ hAB
      exact ⟨c, hIx _ _ _ _ r h2 hAB (.inl rfl), keepL hAB hrD.2 h3, keepD hAB hrD.1 h4⟩
    · -- one round
      rintro pre x W ⟨h2, h3, h4⟩ hok hsz
      have hlt : D + 1 < W.heap.size := (Array.getElem?_eq_some_iff.1 h3).1
      have hy := run_yield (P := P) (args := encs x) h3 (by rw [hR]; exact hps x)
      rw [hR] at hy
      refine ⟨fn, _, assign, body, hy, roundIn_of_wpIn hfn (hassign _ x W _ fun a' Wa gA hax => ?_)⟩
      have h2a : I pre Wa := hI _ _ _ (some D) h2 (gbut gA _) (.inr ⟨D, rfl, by omega, fun o ho => by rw [h4] at ho; cases ho; rfl⟩)
      have h3a := keepL gA (by simp) h3
      have h4a := keepD gA (by simp) h4
      have kA : KeptP w.heap.size Pr W Wa := ⟨gA.size, fun k h1 _ => gA.block k (by omega) (by simp)⟩
      have hsza := Nat.le_trans hsz gA.size
      have hoka := hOk0 _ _ _ _ hok gA
      have hlta : D + 1 < Wa.heap.size := (Array.getElem?_eq_some_iff.1 h3a).1
      refine ⟨_, run_beginRound h3a (by rw [hR]), ?_⟩
      obtain ⟨o2, ho2⟩ : ∃ o2 : Loop, o2 = { R .ready none with state := .busy } := ⟨_, rfl⟩
      rw [← ho2]
      have gU := putObj_grown Wa (D + 1) (.loop o2)
      have lU : (Wa.putObj (D + 1) (.loop o2)).heap[D + 1]? = some (.loop o2) := World.putObj_heap_same hlta
      have dU := keepD gU (by simp) h4a
      have kU : KeptP w.heap.size Pr W (Wa.putObj (D + 1) (.loop o2)) := kA.trans (KeptP.grown gU hsza (.inr (by omega)))
      refine wpIn_mono (hbody _ pre x a' _ (hI _ _ _ _ h2a gU (.inr ⟨_, rfl, by omega, fun o ho => by rw [h3a] at ho; cases ho; rfl⟩)) (hOk _ _ _ _ _ _ hoka gU h3a rfl) (hAx _ _ _ _ _ _ hax gU h3a rfl) (Nat.le_trans hsza gU.size)) ?_
      have fin : ∀ (jump : Option Code) (W3 : World), KeepsFrom w.heap.size (Wa.putObj (D + 1) (.loop o2)) W3 → KeptP w.heap.size Pr (Wa.putObj (D + 1) (.loop o2)) W3 → ∃ W4, (Instr.endRound (D + 1) jump).run P W3 = .ok (.bool jump.isNone) W4 ∧ W3.grownBy W4 (some (D + 1)) ∧
          W4.heap[D + 1]? = some (.loop (R (if jump.isNone then .ready else .done) jump)) ∧ W4.heap[D]? = some (.deferred (some [])) ∧ KeptP w.heap.size Pr W W4 ∧ (∀ o, W3.heap[D + 1]? = some o → o.isCells = false) := by
        intro jump W3 hk hx
        have l3 := hk.same _ _ (by omega) lU rfl
        have d3 := hk.same _ _ (by omega) dU rfl
        have hrun := run_endRound (P := P) jump l3
        have g4 := putObj_grown W3 (D + 1) (.loop (R (if jump.isNone then .ready else .done) jump))
        refine ⟨_, ?_, g4, World.putObj_heap_same (Array.getElem?_eq_some_iff.1 l3).1, keepD g4 (by simp) d3, (kU.trans hx).trans (KeptP.grown g4 (Nat.le_trans hsza (Nat.le_trans gU.size hx.1)) (.inr (by omega))), fun o ho => by rw [l3] at ho; cases ho; rfl⟩
        rw [hrun, ho2, hR]
      rintro e a3 W3 hp
      cases e with
      | normal =>
        obtain ⟨p1, p2, p3⟩ := hp
        obtain ⟨W4, q1, q2, q3, q4, q5, q6⟩ := fin none W3 p1 p2
        exact ⟨_, _, q1, .inl ⟨rfl, ⟨hI _ _ _ _ p3 q2 (.inr ⟨_, rfl, by omega, q6⟩), q3, q4⟩, q5⟩⟩
      | ret =>
        obtain ⟨p1, p2, p3⟩ := hp
        obtain ⟨W4, q1, q2, q3, q4, q5, q6⟩ := fin (some .ret) W3 p1 p2
        exact ⟨_, _, q1, .inr ⟨rfl, ⟨.ret, hIx _ _ _ _ _ p3 q2 (.inr ⟨_, rfl, by omega, q6⟩), q3, q4⟩, q5⟩⟩
      | exit i =>
        obtain ⟨p1, p2, p3⟩ := hp
        obtain ⟨W4, q1, q2, q3, q4, q5, q6⟩ := fin (some (.exit i)) W3 p1 p2
        exact ⟨_, _, q1, .inr ⟨rfl, ⟨.exit i, hIx _ _ _ _ _ p3 q2 (.inr ⟨_, rfl, by omega, q6⟩), q3, q4⟩, q5⟩⟩
      | goto i =>
        obtain ⟨p1, p2, p3⟩ := hp
        obtain ⟨W4, q1, q2, q3, q4, q5, q6⟩ := fin (some (.goto i)) W3 p1 p2
        exact ⟨_, _, q1, .inr ⟨rfl, ⟨.goto i, hIx _ _ _ _ _ p3 q2 (.inr ⟨_, rfl, by omega, q6⟩), q3, q4⟩, q5⟩⟩
      | panic ch => exact hp.elim
      | outgrown => exact hp.elim
    · -- behind the iterator
      rintro e W2 ⟨⟨v, rfl⟩, (⟨xs, hS, h2, h3, h4⟩ | ⟨pre, hS, c, h2, h3, h4⟩)⟩
      · have hrun := run_endLoop (P := P) h3 (by rw [hR]; simp [rec'])
        have g4 := putObj_grown W2 (D + 1) (.loop { R .ready none with state := .exhausted })
        refine ⟨none, _, by rw [hrun, hR], ?_⟩
        rw [← hR]
        exact hdone D xs W2 _ (by omega) hS (hI _ _ _ _ h2 g4 (.inr ⟨_, rfl, by omega, fun o ho => by rw [h3] at ho; cases ho; rfl⟩)) g4 (keepD g4 (by simp) h4)
      · have hrun := run_endLoop (P := P) h3 (by rw [hR]; simp [rec'])
        have g4 := putObj_grown W2 (D + 1) (.loop { R .done (some c) with state := .exhausted })
        refine ⟨some c, _, by rw [hrun, hR], ?_⟩
        rw [← hR]
        exact hstop D c pre W2 _ (by omega) hS (hIx _ _ _ _ _ h2 g4 (.inr ⟨_, rfl, by omega, fun o ho => by rw [h3] at ho; cases ho; rfl⟩)) g4 (keepD g4 (by simp) h4)

end Go.Proofs.YtpdacbiiaglodaaGreat

/-
  LAYER 5 (norms), plain: a class by a search in ranges that lie in order.
-/
namespace Go.Proofs.YtpdacbiiaglodaaGreat
set_option maxRecDepth 100000

/-- How a range lies to a code point. -/
def cmpv (c : Cls) (r : Int) : Int := if c.1 ≤ r ∧ r ≤ c.2.1 then 0 else if c.1 < r then -1 else if r < c.1 then 1 else 0
theorem cmpv_neg {c : Cls} {r : Int} (h : c.1 ≤ c.2.1) : cmpv c r < 0 ↔ c.2.1 < r := by
  unfold cmpv
  split
  · omega
  · split
    · omega
    · split <;> omega
theorem cmpv_zero {c : Cls} {r : Int} (h : c.1 ≤ c.2.1) : cmpv c r = 0 ↔ c.1 ≤ r ∧ r ≤ c.2.1 := by
  unfold cmpv
  split
  · simp [*]
  · split
    · omega
    · split <;> omega

theorem clsOk_mem : ∀ {c : List Cls} {least : Int}, clsOk least c = true → ∀ (k : Nat) (h : k < c.length), least ≤ c[k].1 ∧ c[k].1 ≤ c[k].2.1 ∧ 1 ≤ c[k].2.2 ∧ c[k].2.2 ≤ 254
  | [], _, _, _, h => by simp at h
  | x :: t, least, h, k, hk => by
    rw [clsOk, Bool.and_eq_true] at h
    have h1 := h.1
    simp only [clOk, Bool.and_eq_true, decide_eq_true_eq] at h1
    cases k with
    | zero => simp; omega
    | succ k =>
      have := clsOk_mem h.2 k (by simpa using hk)
      simp only [List.getElem_cons_succ]
      omega
theorem clsOk_rise : ∀ {c : List Cls} {least : Int}, clsOk least c = true → ∀ (i j : Nat) (hij : i < j) (hj : j < c.length), c[i].2.1 < c[j].1
  | [], _, _, _, _, _, h => by simp at h
  | x :: t, least, h, i, j, hij, hj => by
    rw [clsOk, Bool.and_eq_true] at h
    obtain ⟨j, rfl⟩ : ∃ j', j = j' + 1 := ⟨j - 1, by omega⟩
    cases i with
    | zero =>
      have := clsOk_mem h.2 j (by simpa using hj)
      simp only [List.getElem_cons_zero, List.getElem_cons_succ]
      omega
    | succ i =>
      simp only [List.getElem_cons_succ]
      exact clsOk_rise h.2 i j (by omega) (by simpa using hj)

theorem clsOf_at : ∀ {c : List Cls} {r : Int} (i : Nat) (hi : i < c.length), (∀ (k : Nat) (hk : k < i), ¬ (c[k].1 ≤ r ∧ r ≤ c[k].2.1)) → c[i].1 ≤ r ∧ r ≤ c[i].2.1 → clsOf c r = c[i].2.2
  | [], _, _, hi, _, _ => by simp at hi
  | x :: t, r, 0, _, _, h => by rw [clsOf, if_pos (show x.1 ≤ r ∧ r ≤ x.2.1 from h)]; rfl
  | x :: t, r, i + 1, hi, hn, h => by
    rw [clsOf, if_neg (show ¬ (x.1 ≤ r ∧ r ≤ x.2.1) from hn 0 (by omega))]
    exact clsOf_at i (by simpa using hi) (fun k hk => hn (k + 1) (by omega)) h
theorem clsOf_none : ∀ {c : List Cls} {r : Int}, (∀ (k : Nat) (hk : k < c.length), ¬ (c[k].1 ≤ r ∧ r ≤ c[k].2.1)) → clsOf c r = 0
  | [], _, _ => rfl
  | x :: t, r, h => by
    rw [clsOf, if_neg (show ¬ (x.1 ≤ r ∧ r ≤ x.2.1) from h 0 (by simp))]
    exact clsOf_none (fun k hk => h (k + 1) (by simpa using hk))

/-- What the search comes to. -/
theorem cls_found {c : List Cls} {r : Int} (h : clsOk 0 c = true) (i : Nat) (hi : i ≤ c.length) (h1 : ∀ (k : Nat) (_ : k < i), cmpv (c[k]'(by omega)) r < 0) (h2 : ∀ (k : Nat) (_ : i ≤ k) (hk : k < c.length), ¬ cmpv c[k] r < 0) :
    clsOf c r = if hl : i < c.length then (if cmpv c[i] r = 0 then c[i].2.2 else 0) else 0 := by
  have hlt : ∀ (k : Nat) (_ : k < i), ¬ ((c[k]'(by omega)).1 ≤ r ∧ r ≤ (c[k]'(by omega)).2.1) := fun k hk => by
    have := h1 k hk
    rw [cmpv_neg (clsOk_mem h k (by omega)).2.1] at this
    omega
  split
  · rename_i hl
    split
    · rename_i hz
      rw [cmpv_zero (clsOk_mem h i hl).2.1] at hz
      exact clsOf_at i hl hlt hz
    · rename_i hz
      have hb := h2 i (Nat.le_refl _) hl
      rw [cmpv_neg (clsOk_mem h i hl).2.1] at hb
      rw [cmpv_zero (clsOk_mem h i hl).2.1] at hz
      refine clsOf_none fun k hk => ?_
      rcases Nat.lt_trichotomy k i with h3 | rfl | h3
      · exact hlt k h3
      · omega
      · have := clsOk_rise h i k h3 hk
        have := (clsOk_mem h i hl).2.1
        omega
  · exact clsOf_none fun k hk => hlt k (by omega)
end Go.Proofs.YtpdacbiiaglodaaGreat

/-
  LAYER 3 (crc): THE PLAIN MATHEMATICS: a sum's bit, its byte, the table's numbers; that the table's step is eight bits' steps; that steps are one to one. No program is named here.
-/
namespace Go.Proofs.YtpdacbiiaglodaaGreat
set_option maxRecDepth 100000

/-- One bit of CRC-32C, bits reflected. -/
def rnd (c : Nat) : Nat := if c % 2 = 1 then c / 2 ^^^ 0x82F63B78 else c / 2
def rnds : Nat → Nat → Nat
  | 0, c => c
  | k + 1, c => rnds k (rnd c)

theorem xor_cancel {a b c : Nat} (h : a ^^^ c = b ^^^ c) : a = b := by
  have := congrArg (· ^^^ c) h
  simpa [Nat.xor_assoc] using this
theorem xor_half (a b : Nat) : (a ^^^ b) / 2 = a / 2 ^^^ b / 2 := by
  apply Nat.eq_of_testBit_eq
  intro i
  simp [Nat.testBit_xor, Nat.testBit_div_two]
theorem xor_par (a b : Nat) : (a ^^^ b) % 2 = (a % 2 + b % 2) % 2 := by
  have h := Nat.testBit_xor a b 0
  simp only [Nat.testBit_zero] at h
  rcases Nat.mod_two_eq_zero_or_one a with ha | ha <;> rcases Nat.mod_two_eq_zero_or_one b with hb | hb <;> rcases Nat.mod_two_eq_zero_or_one (a ^^^ b) with hc | hc <;> simp [ha, hb, hc] at h ⊢

theorem rnd_xor (a b : Nat) : rnd (a ^^^ b) = rnd a ^^^ rnd b := by
  unfold rnd
  rw [xor_half]
  have h := xor_par a b
  rcases Nat.mod_two_eq_zero_or_one a with ha | ha <;> rcases Nat.mod_two_eq_zero_or_one b with hb | hb <;> simp only [ha, hb] at h ⊢ <;> simp [h]
  · rw [Nat.xor_assoc]
  · rw [Nat.xor_assoc, Nat.xor_comm (b / 2), Nat.xor_assoc]
  · rw [show a / 2 ^^^ 0x82F63B78 ^^^ (b / 2 ^^^ 0x82F63B78) = a / 2 ^^^ b / 2 ^^^ (0x82F63B78 ^^^ 0x82F63B78) by ac_rfl, Nat.xor_self, Nat.xor_zero]
theorem rnds_xor : ∀ (k a b : Nat), rnds k (a ^^^ b) = rnds k a ^^^ rnds k b
  | 0, _, _ => rfl
  | k + 1, a, b => by rw [rnds, rnds, rnds, rnd_xor]; exact rnds_xor k _ _
theorem rnds_add : ∀ (j k a : Nat), rnds (j + k) a = rnds k (rnds j a)
  | 0, k, a => by rw [Nat.zero_add]; rfl
  | j + 1, k, a => by rw [Nat.add_right_comm]; exact rnds_add j k _
theorem rnd_two (a : Nat) : rnd (2 * a) = a := by unfold rnd; rw [if_neg (by omega)]; omega
theorem rnds_pow : ∀ (k a : Nat), rnds k (2 ^ k * a) = a
  | 0, a => by simp [rnds]
  | k + 1, a => by rw [rnds, Nat.pow_succ', Nat.mul_assoc, rnd_two]; exact rnds_pow k a
theorem rnd_lt {c : Nat} (h : c < 4294967296) : rnd c < 4294967296 := by
  unfold rnd
  split
  · exact Nat.xor_lt_two_pow (n := 32) (by omega) (by decide)
  · omega
theorem rnds_lt : ∀ (k : Nat) {c : Nat}, c < 4294967296 → rnds k c < 4294967296
  | 0, _, h => h
  | k + 1, _, h => rnds_lt k (rnd_lt h)

/-- One byte more. -/
def byt (c x : Nat) : Nat := rnds 8 (c ^^^ x)
theorem byt_lt {c x : Nat} (h : c < 4294967296) (hx : x < 256) : byt c x < 4294967296 := rnds_lt 8 (Nat.xor_lt_two_pow (n := 32) h (by omega))

theorem split_low (n : Nat) : n = (256 * (n / 256)) ^^^ (n % 256) := by
  apply Nat.eq_of_testBit_eq
  intro i
  rw [Nat.testBit_xor, show (256 : Nat) = 2 ^ 8 from rfl, Nat.testBit_mod_two_pow, Nat.testBit_two_pow_mul, Nat.testBit_div_two_pow]
  by_cases h : 8 ≤ i
  · simp [h, show ¬ i < 8 by omega, show i - 8 + 8 = i by omega]
  · simp [h, show i < 8 by omega]
theorem xor_div256 (a b : Nat) (hb : b < 256) : (a ^^^ b) / 256 = a / 256 := by
  apply Nat.eq_of_testBit_eq
  intro i
  rw [show (256 : Nat) = 2 ^ 8 from rfl, Nat.testBit_div_two_pow, Nat.testBit_div_two_pow, Nat.testBit_xor, Nat.testBit_lt_two_pow (x := b) (i := i + 8) (Nat.lt_of_lt_of_le hb (by rw [show 256 = 2 ^ 8 from rfl]; exact Nat.pow_le_pow_right (by decide) (by omega)))]
  simp
theorem xor_mod256 (a b : Nat) (hb : b < 256) : (a ^^^ b) % 256 = a % 256 ^^^ b := by
  rw [show (256 : Nat) = 2 ^ 8 from rfl, Nat.xor_mod_two_pow, Nat.mod_eq_of_lt (a := b) (by simpa using hb)]
/-- The table's step is eight bits' steps. -/
theorem byt_table (c x : Nat) (hx : x < 256) : byt c x = c / 256 ^^^ rnds 8 (c % 256 ^^^ x) := by
  unfold byt
  rw [split_low (c ^^^ x), rnds_xor, show 256 = 2 ^ 8 from rfl, rnds_pow, ← show 256 = 2 ^ 8 from rfl, xor_div256 _ _ hx, xor_mod256 _ _ hx]

/-- Bytes more. -/
def bytes (c : Nat) (bs : List UInt8) : Nat := bs.foldl (fun c u => byt c u.toNat) c
theorem bytes_snoc (c : Nat) (bs : List UInt8) (u : UInt8) : bytes c (bs ++ [u]) = byt (bytes c bs) u.toNat := by simp [bytes]
theorem bytes_append (c : Nat) (a b : List UInt8) : bytes c (a ++ b) = bytes (bytes c a) b := by simp [bytes]
theorem bytes_lt : ∀ (bs : List UInt8) {c : Nat}, c < 4294967296 → bytes c bs < 4294967296
  | [], _, h => h
  | u :: bs, _, h => bytes_lt bs (byt_lt h u.toNat_lt)

def not32 (c : Nat) : Nat := 4294967295 - c
theorem not32_not32 {c : Nat} (h : c < 4294967296) : not32 (not32 c) = c := by unfold not32; omega
theorem not32_lt (c : Nat) : not32 c < 4294967296 := by unfold not32; omega
/-- Extend, Sum. -/
def ext (s : Nat) (bs : List UInt8) : Nat := not32 (bytes (not32 s) bs)
def sum (bs : List UInt8) : Nat := ext 0 bs
theorem ext_lt (s : Nat) (bs : List UInt8) : ext s bs < 4294967296 := not32_lt _
theorem ext_ext (s : Nat) (a b : List UInt8) : ext (ext s a) b = ext s (a ++ b) := by
  unfold ext
  rw [not32_not32 (bytes_lt a (not32_lt s)), bytes_append]

/-- Steps are one to one. -/
theorem rnd_inj {a b : Nat} (ha : a < 4294967296) (hb : b < 4294967296) (h : rnd a = rnd b) : a = b := by
  have top : ∀ c : Nat, c < 4294967296 → (rnd c).testBit 31 = decide (c % 2 = 1) := by
    intro c hc
    unfold rnd
    have h0 : (c / 2).testBit 31 = false := Nat.testBit_lt_two_pow (by rw [show (2 : Nat) ^ 31 = 2147483648 from rfl]; omega)
    split
    · rename_i h1
      rw [Nat.testBit_xor, h0, show Nat.testBit 0x82F63B78 31 = true by decide]
      simp [h1]
    · rename_i h1
      simp [h0, h1]
  have hp : decide (a % 2 = 1) = decide (b % 2 = 1) := by rw [← top a ha, ← top b hb, h]
  unfold rnd at h
  by_cases h1 : a % 2 = 1
  · have h2 : b % 2 = 1 := by simpa [h1] using hp
    rw [if_pos h1, if_pos h2] at h
    have := xor_cancel h
    omega
  · have h2 : ¬ b % 2 = 1 := by simpa [h1] using hp
    rw [if_neg h1, if_neg h2] at h
    omega
theorem rnds_inj : ∀ (k : Nat) {a b : Nat}, a < 4294967296 → b < 4294967296 → rnds k a = rnds k b → a = b
  | 0, _, _, _, _, h => h
  | k + 1, _, _, ha, hb, h => rnd_inj ha hb (rnds_inj k (rnd_lt ha) (rnd_lt hb) h)
theorem byt_inj {a b x : Nat} (ha : a < 4294967296) (hb : b < 4294967296) (hx : x < 256) (h : byt a x = byt b x) : a = b := by
  have := rnds_inj 8 (Nat.xor_lt_two_pow (n := 32) ha (by omega)) (Nat.xor_lt_two_pow (n := 32) hb (by omega)) h
  exact xor_cancel this
theorem bytes_inj : ∀ (bs : List UInt8) {a b : Nat}, a < 4294967296 → b < 4294967296 → bytes a bs = bytes b bs → a = b
  | [], _, _, _, _, h => h
  | u :: bs, _, _, ha, hb, h => byt_inj ha hb u.toNat_lt (bytes_inj bs (byt_lt ha u.toNat_lt) (byt_lt hb u.toNat_lt) h)

/-- Mask, Unmask. -/
def rotR (s : Nat) : Nat := s / 32768 + s % 32768 * 131072
def rotL (t : Nat) : Nat := t % 131072 * 32768 + t / 131072
theorem rotR_lt {s : Nat} (h : s < 4294967296) : rotR s < 4294967296 := by unfold rotR; omega
theorem rotL_lt {s : Nat} (h : s < 4294967296) : rotL s < 4294967296 := by unfold rotL; omega
theorem rotL_rotR {s : Nat} (h : s < 4294967296) : rotL (rotR s) = s := by unfold rotL rotR; omega
theorem rotR_rotL {s : Nat} (h : s < 4294967296) : rotR (rotL s) = s := by unfold rotL rotR; omega
theorem shl17 (s : Nat) : s * 131072 % 4294967296 = s % 32768 * 131072 := by omega
theorem shl15 (s : Nat) : s * 32768 % 4294967296 = s % 131072 * 32768 := by omega
def mask (s : Nat) : Nat := (rotR s + 0xA282EAD8) % 4294967296
def unmask (m : Nat) : Nat := rotL ((m + 4294967296 - 0xA282EAD8) % 4294967296)
theorem unmask_mask {s : Nat} (h : s < 4294967296) : unmask (mask s) = s := by
  have h1 := rotR_lt h
  unfold unmask mask
  rw [show ((rotR s + 0xA282EAD8) % 4294967296 + 4294967296 - 0xA282EAD8) % 4294967296 = rotR s by omega]
  exact rotL_rotR h
theorem mask_unmask {m : Nat} (h : m < 4294967296) : mask (unmask m) = m := by
  unfold unmask mask
  rw [rotR_rotL (by omega)]
  omega
theorem mask_lt (s : Nat) : mask s < 4294967296 := Nat.mod_lt _ (by decide)
theorem unmask_lt (m : Nat) : unmask m < 4294967296 := rotL_lt (Nat.mod_lt _ (by decide))
end Go.Proofs.YtpdacbiiaglodaaGreat
