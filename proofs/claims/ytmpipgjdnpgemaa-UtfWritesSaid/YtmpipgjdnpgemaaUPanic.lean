/-
  LAYER 4 (utf): A RANGE OVER A FUNCTION WHOSE ITERATOR MAY THROW: one law for the caller. No program is named here.
  As range_tells3; a third way out: the iterator has thrown behind some rounds, and the statement is left by that panic.
-/
import Derived.Test.YtmpipgjdnpgemaaRange
namespace Go.Proofs.Ytmpipgjdnpgemaa
set_option maxRecDepth 100000
open Go.RowKit

def TellsP {α : Type} (F : Fence) (n : Nat) (P : Program) (g : Nat) (lb : Array Value) (encs : α → Array Value) (Ok : List α → α → World → Prop) (r : Option Nat) (n0 ib : Nat) (S Sp : List α → World → Prop) (Sx : List PanicEntry → List α → World → Prop) (w : World) : Prop :=
  ∀ (l : Nat) (J Jx : List α → World → Prop) (W : World), KeptX n0 ib w W → n0 ≤ W.heap.size →
    (∀ s A B, J s A → A.grownBy B r → J s B) → (∀ s A B, Jx s A → A.grownBy B r → Jx s B) →
    (∀ pre x W1, J pre W1 → Ok pre x W1 → n0 ≤ W1.heap.size → YieldAt F (n - 1) P l (encs x) W1 fun e W' =>
      (e = .returned (.bool true) ∧ J (pre ++ [x]) W' ∧ KeptX n0 ib W1 W') ∨ (e = .returned (.bool false) ∧ Jx (pre ++ [x]) W' ∧ KeptX n0 ib W1 W')) →
    J [] W →
    CallsIn F n P g (#[.func (.yield l) #[] #[]] ++ lb) W fun e W' => ((∃ v, e = .returned v) ∧ ((∃ xs, S xs W' ∧ J xs W') ∨ (∃ pre, Sp pre W' ∧ Jx pre W'))) ∨ (∃ ch pre, e = .panicked ch ∧ Sx ch pre W' ∧ J pre W')

set_option maxHeartbeats 4000000 in
theorem range_tellsP {α : Type} {F : Fence} {n : Nat} {P : Program} {g : Operand} {ps : Array Tmp} {assign body : Code} {Q : Exit → Act → World → Prop} {a : Act} {w : World}
    (hro : F.round = none) (h1 : 1 ≤ n) {gf : Nat} {lb : Array Value} (hg : a.eval g = .func (.func gf) #[] lb) (hFg : F.fn gf) (eg : ∀ args w, (callFunc gf args).run P w = .ok (.enter gf args) w)
    {encs : α → Array Value} {Ok : List α → α → World → Prop} {r : Option Nat} {ib : Nat} {S Sp : List α → World → Prop} {Sx : List PanicEntry → List α → World → Prop}
    (hseq : TellsP F (n - 1) P gf lb encs Ok r w.heap.size ib S Sp Sx w) (hrw : r ≠ some w.heap.size ∧ r ≠ some (w.heap.size + 1)) (hps : ∀ x, (encs x).size = ps.size)
    (hOk : ∀ pre x A B k o, Ok pre x A → A.grownBy B (some k) → A.heap[k]? = some o → o.isCells = false → Ok pre x B)
    (I : List α → World → Prop) (Ix : Code → List α → World → Prop)
    (hI : ∀ s A B k, I s A → A.grownBy B k → (k = r ∨ (∃ q, k = some q ∧ w.heap.size ≤ q ∧ ∀ o, A.heap[q]? = some o → o.isCells = false)) → I s B)
    (hIx : ∀ c s A B k, Ix c s A → A.grownBy B k → (k = r ∨ (∃ q, k = some q ∧ w.heap.size ≤ q ∧ ∀ o, A.heap[q]? = some o → o.isCells = false)) → Ix c s B)
    (h0 : I [] w) (a₁ : α → Act)
    (hassign : ∀ (l : Nat) (x : α) (W : World) (K : Act → World → Prop), K (a₁ x) W →
      assign.wpIn (F.inRound l) (n - 1 - 1) P (Exit.then K (fun _ _ _ => False)) { tmps := (ps.zip (encs x)).foldl (fun t (p, v) => t.setIfInBounds p v) a.tmps, defers := [] } W)
    (hbody : ∀ (l : Nat) (pre : List α) (x : α) (W : World), I pre W → Ok pre x W → w.heap.size ≤ W.heap.size → body.wpIn (F.inRound l) (n - 1 - 1) P (roundLeft w.heap.size ib I Ix (pre ++ [x]) W) (a₁ x) W)
    (hdone : ∀ (D : Nat) (xs : List α) (W W' : World), w.heap.size ≤ D → S xs W → I xs W' → W.grownBy W' (some (D + 1)) → W'.heap[D]? = some (.deferred (some [])) → Q .normal { a with defers := { target := .collected D, args := #[] } :: a.defers } W')
    (hstop : ∀ (D : Nat) (c : Code) (pre : List α) (W W' : World), w.heap.size ≤ D → Sp pre W → Ix c pre W' → W.grownBy W' (some (D + 1)) → W'.heap[D]? = some (.deferred (some [])) → c.wpIn F n P Q { a with defers := { target := .collected D, args := #[] } :: a.defers } W')
    (hpanic : ∀ (D : Nat) (ch : List PanicEntry) (pre : List α) (W : World), w.heap.size ≤ D → Sx ch pre W → I pre W → W.heap[D]? = some (.deferred (some [])) → Q (.panic ch) { a with defers := { target := .collected D, args := #[] } :: a.defers } W) :
    (Code.rangeFunc g ps assign body).wpIn F n P Q a w := by
  refine wpIn_rangeFunc fun fn hfn => ?_
  rw [hro]
  -- the loop's record, in each of its states
  let rec' : LoopState → Option Code → Loop := fun st pe => { state := st, pending := pe, fn, tmps := a.tmps, params := ps, assign, body, defers := w.heap.size }
  obtain ⟨R, hR⟩ : ∃ R, R = rec' := ⟨_, rfl⟩
  obtain ⟨D, hD⟩ : ∃ D, D = w.heap.size := ⟨_, rfl⟩
  obtain ⟨V, hV⟩ : ∃ V, V = (w.alloc (.deferred (some []))).alloc (.loop (R .ready none)) := ⟨_, rfl⟩
  have gV : w.grownBy V none := by rw [hV]; exact (World.grownBy_alloc w _ none).trans (World.grownBy_alloc _ _ none)
  have lV : V.heap[D + 1]? = some (.loop (R .ready none)) := by
    rw [hV, hD]
    have := World.alloc_heap_new (w.alloc (.deferred (some []))) (.loop (R .ready none))
    rwa [World.size_alloc] at this
  have dV : V.heap[D]? = some (.deferred (some [])) := by
    rw [hV, hD]
    exact ((World.grownBy_alloc (w.alloc (.deferred (some []))) (.loop (R .ready none)) none).block w.heap.size (by simp) (by simp)).trans (World.alloc_heap_new w _)
  have hrD : r ≠ some D ∧ r ≠ some (D + 1) := by rw [hD]; exact hrw
  have iV : I [] V := hI _ _ _ (some D) h0 (gbut gV _) (.inr ⟨D, rfl, by omega, fun o ho => by have := (Array.getElem?_eq_some_iff.1 ho).1; omega⟩)
  refine ⟨D + 1, [{ target := .collected D, args := #[] }], V, { target := .fn (.func gf) lb, args := #[.func (.yield (D + 1)) #[] #[]] }, V, gf, #[.func (.yield (D + 1)) #[] #[]] ++ lb, V, ?_, ?_, ?_, ?_, fun _ => h1, ?_⟩
  · rw [hV, hR, hD]; exact run_enterLoop_outer _ _ _ _ _
  · simp only [resolve, hg]
    simp [go_sem]
  · intro f' hf'; simp [Target.leads] at hf'; subst hf'; exact hFg
  · simp [invoke, go_sem, eg]
  · have keepD : ∀ {A B : World} {q : Option Nat} {o : Obj}, A.grownBy B q → q ≠ some D → A.heap[D]? = some o → B.heap[D]? = some o := fun h hq ho => (h.block D (Array.getElem?_eq_some_iff.1 ho).1 (fun e => hq e.symm)).trans ho
    have keepL : ∀ {A B : World} {q : Option Nat} {o : Obj}, A.grownBy B q → q ≠ some (D + 1) → A.heap[D + 1]? = some o → B.heap[D + 1]? = some o := fun h hq ho => (h.block (D + 1) (Array.getElem?_eq_some_iff.1 ho).1 (fun e => hq e.symm)).trans ho
    refine (hseq (D + 1) (fun pre W => I pre W ∧ W.heap[D + 1]? = some (.loop (R .ready none)) ∧ W.heap[D]? = some (.deferred (some [])))
      (fun pre W => ∃ c, Ix c pre W ∧ W.heap[D + 1]? = some (.loop (R .done (some c))) ∧ W.heap[D]? = some (.deferred (some []))) V
      (KeptX.grown (q := D) (gbut gV _) (Nat.le_refl _) (.inr (by omega))) gV.size ?_ ?_ ?_ ⟨iV, lV, dV⟩).mono ?_
    · rintro s A B ⟨h2, h3, h4⟩ hAB
      exact ⟨hI _ _ _ r h2 hAB (.inl rfl), keepL hAB hrD.2 h3, keepD hAB hrD.1 h4⟩
    · rintro s A B ⟨c, h2, h3, h4⟩ hAB
      exact ⟨c, hIx _ _ _ _ r h2 hAB (.inl rfl), keepL hAB hrD.2 h3, keepD hAB hrD.1 h4⟩
    · -- one round
      rintro pre x W ⟨h2, h3, h4⟩ hok hsz
      have hlt : D + 1 < W.heap.size := (Array.getElem?_eq_some_iff.1 h3).1
      have hy := run_yield (P := P) (args := encs x) h3 (by rw [hR]; exact hps x)
      rw [hR] at hy
      refine ⟨fn, _, assign, body, hy, roundIn_of_wpIn hfn (hassign _ x W _ ⟨_, run_beginRound h3 (by rw [hR]), ?_⟩)⟩
      obtain ⟨o2, ho2⟩ : ∃ o2 : Loop, o2 = { R .ready none with state := .busy } := ⟨_, rfl⟩
      rw [← ho2]
      have gU := putObj_grown W (D + 1) (.loop o2)
      have lU : (W.putObj (D + 1) (.loop o2)).heap[D + 1]? = some (.loop o2) := World.putObj_heap_same hlt
      have dU := keepD gU (by simp) h4
      have kU : KeptX w.heap.size ib W (W.putObj (D + 1) (.loop o2)) := KeptX.grown gU hsz (.inr (by omega))
      refine wpIn_mono (hbody _ pre x _ (hI _ _ _ _ h2 gU (.inr ⟨_, rfl, by omega, fun o ho => by rw [h3] at ho; cases ho; rfl⟩)) (hOk _ _ _ _ _ _ hok gU h3 rfl) (Nat.le_trans hsz gU.size)) ?_
      have fin : ∀ (jump : Option Code) (W3 : World), KeepsOthers (W.putObj (D + 1) (.loop o2)) W3 → KeptX w.heap.size ib (W.putObj (D + 1) (.loop o2)) W3 → ∃ W4, (Instr.endRound (D + 1) jump).run P W3 = .ok (.bool jump.isNone) W4 ∧ W3.grownBy W4 (some (D + 1)) ∧
          W4.heap[D + 1]? = some (.loop (R (if jump.isNone then .ready else .done) jump)) ∧ W4.heap[D]? = some (.deferred (some [])) ∧ KeptX w.heap.size ib W W4 ∧ (∀ o, W3.heap[D + 1]? = some o → o.isCells = false) := by
        intro jump W3 hk hx
        have l3 := hk.same _ _ lU rfl
        have d3 := hk.same _ _ dU rfl
        have hrun := run_endRound (P := P) jump l3
        have g4 := putObj_grown W3 (D + 1) (.loop (R (if jump.isNone then .ready else .done) jump))
        refine ⟨_, ?_, g4, World.putObj_heap_same (Array.getElem?_eq_some_iff.1 l3).1, keepD g4 (by simp) d3, (kU.trans hx).trans (KeptX.grown g4 (Nat.le_trans hsz (Nat.le_trans gU.size hx.1)) (.inr (by omega))), fun o ho => by rw [l3] at ho; cases ho; rfl⟩
        rw [hrun, ho2, hR]
      rintro e a3 W3 hp
      cases e with
      | normal =>
        obtain ⟨p1, p2, p3⟩ := hp
        obtain ⟨W4, q1, q2, q3, q4, q5, q6⟩ := fin none W3 p1 p2
        exact ⟨_, _, q1, .inl ⟨rfl, ⟨hI _ _ _ _ p3 q2 (.inr ⟨_, rfl, by omega, q6⟩), q3, q4⟩, q5⟩⟩
      | ret =>
        obtain ⟨p1, p2, p3⟩ := hp
        obtain ⟨W4, q1, q2, q3, q4, q5, q6⟩ := fin (some .ret) W3 p1 p2
        exact ⟨_, _, q1, .inr ⟨rfl, ⟨.ret, hIx _ _ _ _ _ p3 q2 (.inr ⟨_, rfl, by omega, q6⟩), q3, q4⟩, q5⟩⟩
      | exit i =>
        obtain ⟨p1, p2, p3⟩ := hp
        obtain ⟨W4, q1, q2, q3, q4, q5, q6⟩ := fin (some (.exit i)) W3 p1 p2
        exact ⟨_, _, q1, .inr ⟨rfl, ⟨.exit i, hIx _ _ _ _ _ p3 q2 (.inr ⟨_, rfl, by omega, q6⟩), q3, q4⟩, q5⟩⟩
      | goto i =>
        obtain ⟨p1, p2, p3⟩ := hp
        obtain ⟨W4, q1, q2, q3, q4, q5, q6⟩ := fin (some (.goto i)) W3 p1 p2
        exact ⟨_, _, q1, .inr ⟨rfl, ⟨.goto i, hIx _ _ _ _ _ p3 q2 (.inr ⟨_, rfl, by omega, q6⟩), q3, q4⟩, q5⟩⟩
      | panic ch => exact hp.elim
      | outgrown => exact hp.elim
    · -- behind the iterator
      rintro e W2 (⟨⟨v, rfl⟩, (⟨xs, hS, h2, h3, h4⟩ | ⟨pre, hS, c, h2, h3, h4⟩)⟩ | ⟨ch, pre, rfl, hS, h2, h3, h4⟩)
      · have hrun := run_endLoop (P := P) h3 (by rw [hR]; simp [rec'])
        have g4 := putObj_grown W2 (D + 1) (.loop { R .ready none with state := .exhausted })
        refine ⟨none, _, by rw [hrun, hR], ?_⟩
        rw [← hR]
        exact hdone D xs W2 _ (by omega) hS (hI _ _ _ _ h2 g4 (.inr ⟨_, rfl, by omega, fun o ho => by rw [h3] at ho; cases ho; rfl⟩)) g4 (keepD g4 (by simp) h4)
      · have hrun := run_endLoop (P := P) h3 (by rw [hR]; simp [rec'])
        have g4 := putObj_grown W2 (D + 1) (.loop { R .done (some c) with state := .exhausted })
        refine ⟨some c, _, by rw [hrun, hR], ?_⟩
        rw [← hR]
        exact hstop D c pre W2 _ (by omega) hS (hIx _ _ _ _ _ h2 g4 (.inr ⟨_, rfl, by omega, fun o ho => by rw [h3] at ho; cases ho; rfl⟩)) g4 (keepD g4 (by simp) h4)
      · exact hpanic D ch pre W2 (by omega) hS h2 h4

end Go.Proofs.Ytmpipgjdnpgemaa
