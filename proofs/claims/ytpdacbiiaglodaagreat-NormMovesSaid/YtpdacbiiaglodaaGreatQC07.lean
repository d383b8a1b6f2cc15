/-
  LAYER 4 (utf): A RANGE OVER A FUNCTION WHOSE ITERATOR MAY THROW: one law for the caller. No program is named here.
  As range_tells3; a third way out: the iterator has thrown behind some rounds, and the statement is left by that panic.
-/
import Derived.Test.YtpdacbiiaglodaaGreatQC03
import Derived.Test.YtpdacbiiaglodaaGreatQC05
import Derived.Test.YtpdacbiiaglodaaGreatQC01
namespace Go.Proofs.YtpdacbiiaglodaaGreat.U
set_option maxRecDepth 100000
open Go.RowKit

def TellsP {α : Type} (F : Fence) (n : Nat) (P : Program) (g : Nat) (lb : Array Value) (encs : α → Array Value) (Ok : List α → α → World → Prop) (r : Option Nat) (n0 ib : Nat) (S Sp : List α → World → Prop) (Sx : List PanicEntry → List α → World → Prop) (w : World) : Prop :=
  ∀ (l : Nat) (J Jx : List α → World → Prop) (W : World), KeptX n0 ib w W → n0 ≤ W.heap.size →
    (∀ s A B, J s A → A.grownBy B r → J s B) → (∀ s A B, Jx s A → A.grownBy B r → Jx s B) →
    (∀ pre x W1, J pre W1 → Ok pre x W1 → n0 ≤ W1.heap.size → YieldAt F (n - 1) P l (encs x) W1 fun e W' =>
      (e = .returned (.bool true) ∧ J (pre ++ [x]) W' ∧ KeptX n0 ib W1 W') ∨ (e = .returned (.bool false) ∧ Jx (pre ++ [x]) W' ∧ KeptX n0 ib W1 W')) →
    J [] W →
    CallsIn F n P g (#[.func (.yield l) #[] #[]] ++ lb) W fun e W' => ((∃ v, e = .returned v) ∧ ((∃ xs, S xs W' ∧ J xs W') ∨ (∃ pre, Sp pre W' ∧ Jx pre W'))) ∨ (∃ ch pre, e = .panicked ch ∧ Sx ch pre W' ∧ J pre W')

set_option maxHeartbeats 4000000 in
theorem range_tellsP {α : Type} {F : Fence} {n : Nat} {P : Program} {g : Operand} {ps : Array Tmp} {assign body : Code} {Q : Exit → Act → World → Prop} {a : Act} {w : World}
    (hro : F.round = none) (h1 : 1 ≤ n) {gf : Nat} {lb : Array Value} (hg : a.eval g = .func (.func gf) #[] lb) (hFg : F.fn gf) (eg : ∀ args w, (callFunc gf args).run P w = .ok (.enter gf args) w)
    {encs : α → Array Value} {Ok : List α → α → World → Prop} {r : Option Nat} {ib : Nat} {S Sp : List α → World → Prop} {Sx : List PanicEntry → List α → World → Prop}
    (hseq : TellsP F (n - 1) P gf lb encs Ok r w.heap.size ib S Sp Sx w) (hrw : r ≠ some w.heap.size ∧ r ≠ some (w.heap.size + 1)) (hps : ∀ x, (encs x).size = ps.size)
    (hOk : ∀ pre x A B k o, Ok pre x A → A.grownBy B (some k) → A.heap[k]? = some o → o.isCells = false → Ok pre x B)
    (I : List α → World → Prop) (Ix : Code → List α → World → Prop)
    (hI : ∀ s A B k, I s A → A.grownBy B k → (k = r ∨ (∃ q, k = some q ∧ w.heap.size ≤ q ∧ ∀ o, A.heap[q]? = some o → o.isCells = false)) → I s B)
    (hIx : ∀ c s A B k, Ix c s A → A.grownBy B k → (k = r ∨ (∃ q, k = some q ∧ w.heap.size ≤ q ∧ ∀ o, A.heap[q]? = some o → o.isCells = false)) → Ix c s B)
    (h0 : I [] w) (a₁ : α → Act)
    (hassign : ∀ (l : Nat) (x : α) (W : World) (K : Act → World → Prop), K (a₁ x) W →
      assign.wpIn (F.inRound l) (n - 1 - 1) P (Exit.then K (fun _ _ _ => False)) { tmps := (ps.zip (encs x)).foldl (fun t (p, v) => t.setIfInBounds p v) a.tmps, defers := [] } W)
    (hbody : ∀ (l : Nat) (pre : List α) (x : α) (W : World), I pre W → Ok pre x W → w.heap.size ≤ W.heap.size → body.wpIn (F.inRound l) (n - 1 - 1) P (roundLeft w.heap.size ib I Ix (pre ++ [x]) W) (a₁ x) W)
    (hdone : ∀ (D : Nat) (xs : List α) (W W' : World), w.heap.size ≤ D → S xs W → I xs W' → W.grownBy W' (some (D + 1)) → W'.heap[D]? = some (.deferred (some [])) → Q .normal { a with defers := { target := .collected D, args := #[] } :: a.defers } W')
    (hstop : ∀ (D : Nat) (c : Code) (pre : List α) (W W' : World), w.heap.size ≤ D → Sp pre W → Ix c pre W' → W.grownBy W' (some (D + 1)) → W'.heap[D]? = some (.deferred (some [])) → c.wpIn F n P Q { a with defers := { target := .collected D, args := #[] } :: a.defers } W')
    (hpanic : ∀ (D : Nat) (ch : List PanicEntry) (pre : List α) (W : World), w.heap.size ≤ D → Sx ch pre W → I pre W → W.heap[D]? = some (.deferred (some [])) → Q (.panic ch) { a with defers := { target := .collected D, args := #[] } :: a.defers } W) :
    (Code.rangeFunc g ps assign body).wpIn F n P Q a w := by
  refine wpIn_rangeFunc fun fn hfn => ?_
  rw [hro]
  -- the loop's record, in each of its states
  let rec' : LoopState → Option Code → Loop := fun st pe => { state := st, pending := pe, fn, tmps := a.tmps, params := ps, assign, body, defers := w.heap.size }
  obtain ⟨R, hR⟩ : ∃ R, R = rec' := ⟨_, rfl⟩
  obtain ⟨D, hD⟩ : ∃ D, D = w.heap.size := ⟨_, rfl⟩
  obtain ⟨V, hV⟩ : ∃ V, V = (w.alloc (.deferred (some []))).alloc (.loop (R .ready none)) := ⟨_, rfl⟩
  have gV : w.grownBy V none := by rw [hV]; exact (World.grownBy_alloc w _ none).trans (World.grownBy_alloc _ _ none)
  have lV : V.heap[D + 1]? = some (.loop (R .ready none)) := by
    rw [hV, hD]
    have := World.alloc_heap_new (w.alloc (.deferred (some []))) (.loop (R .ready none))
    rwa [World.size_alloc] at this
  have dV : V.heap[D]? = some (.deferred (some [])) := by
    rw [hV, hD]
    exact ((World.grownBy_alloc (w.alloc (.deferred (some []))) (.loop (R .ready none)) none).block w.heap.size (by simp) (by simp)).trans (World.alloc_heap_new w _)
  have hrD : r ≠ some D ∧ r ≠ some (D + 1) := by rw [hD]; exact hrw
  have iV : I [] V := hI _ _ _ (some D) h0 (gbut gV _) (.inr ⟨D, rfl, by omega, fun o ho => by have := (Array.getElem?_eq_some_iff.1 ho).1; omega⟩)
  refine ⟨D + 1, [{ target := .collected D, args := #[] }], V, { target := .fn (.func gf) lb, args := #[.func (.yield (D + 1)) #[] #[]] }, V, gf, #[.func (.yield (D + 1)) #[] #[]] ++ lb, V, ?_, ?_, ?_, ?_, fun _ => h1, ?_⟩
  · rw [hV, hR, hD]; exact run_enterLoop_outer _ _ _ _ _
  · simp only [resolve, hg]
    simp [go_sem]
  · intro f' hf'; simp [Target.leads] at hf'; subst hf'; exact hFg
  · simp [invoke, go_sem, eg]
  · have keepD : ∀ {A B : World} {q : Option Nat} {o : Obj}, A.grownBy B q → q ≠ some D → A.heap[D]? = some o → B.heap[D]? = some o := fun h hq ho => (h.block D (Array.getElem?_eq_some_iff.1 ho).1 (fun e => hq e.symm)).trans ho
    have keepL : ∀ {A B : World} {q : Option Nat} {o : Obj}, A.grownBy B q → q ≠ some (D + 1) → A.heap[D + 1]? = some o → B.heap[D + 1]? = some o := fun h hq ho => (h.block (D + 1) (Array.getElem?_eq_some_iff.1 ho).1 (fun e => hq e.symm)).trans ho
    refine (hseq (D + 1) (fun pre W => I pre W ∧ W.heap[D + 1]? = some (.loop (R .ready none)) ∧ W.heap[D]? = some (.deferred (some [])))
      (fun pre W => ∃ c, Ix c pre W ∧ W.heap[D + 1]? = some (.loop (R .done (some c))) ∧ W.heap[D]? = some (.deferred (some []))) V
      (KeptX.grown (q := D) (gbut gV _) (Nat.le_refl _) (.inr (by omega))) gV.size ?_ ?_ ?_ ⟨iV, lV, dV⟩).mono ?_
    · rintro s A B ⟨h2, h3, h4⟩ hAB
      exact ⟨hI _ _ _ r h2 hAB (.inl rfl), keepL hAB hrD.2 h3, keepD hAB hrD.1 h4⟩
    · rintro s A B ⟨c, h2, h3, h4⟩ hAB
      exact ⟨c, hIx _ _ _ _ r h2 hAB (.inl rfl), keepL hAB hrD.2 h3, keepD hAB hrD.1 h4⟩
    · -- one round
      rintro pre x W ⟨h2, h3, h4⟩ hok hsz
      have hlt : D + 1 < W.heap.size := (Array.getElem?_eq_some_iff.1 h3).1
      have hy := run_yield (P := P) (args := encs x) h3 (by rw [hR]; exact hps x)
      rw [hR] at hy
      refine ⟨fn, _, assign, body, hy, roundIn_of_wpIn hfn (hassign _ x W _ ⟨_, run_beginRound h3 (by rw [hR]), ?_⟩)⟩
      obtain ⟨o2, ho2⟩ : ∃ o2 : Loop, o2 = { R .ready none with state := .busy } := ⟨_, rfl⟩
      rw [← ho2]
      have gU := putObj_grown W (D + 1) (.loop o2)
      have lU : (W.putObj (D + 1) (.loop o2)).heap[D + 1]? = some (.loop o2) := World.putObj_heap_same hlt
      have dU := keepD gU (by simp) h4
      have kU : KeptX w.heap.size ib W (W.putObj (D + 1) (.loop o2)) := KeptX.grown gU hsz (.inr (by omega))
      refine wpIn_mono (hbody _ pre x _ (hI _ _ _ _ h2 gU (.inr ⟨_, rfl, by omega, fun o ho => by rw [h3] at ho; cases ho; rfl⟩)) (hOk _ _ _ _ _ _ hok gU h3 rfl) (Nat.le_trans hsz gU.size)) ?_
      have fin : ∀ (jump : Option Code) (W3 : World), KeepsOthers (W.putObj (D + 1) (.loop o2)) W3 → KeptX w.heap.size ib (W.putObj (D + 1) (.loop o2)) W3 → ∃ W4, (Instr.endRound (D + 1) jump).run P W3 = .ok (.bool jump.isNone) W4 ∧ W3.grownBy W4 (some (D + 1)) ∧
          W4.heap[D + 1]? = some (.loop (R (if jump.isNone then .ready else .done) jump)) ∧ W4.heap[D]? = some (.deferred (some [])) ∧ KeptX w.heap.size ib W W4 ∧ (∀ o, W3.heap[D + 1]? = some o → o.isCells = false) := by
        intro jump W3 hk hx
        have l3 := hk.same _ _ lU rfl
        have d3 := hk.same _ _ dU rfl
        have hrun := run_endRound (P := P) jump l3
        have g4 := putObj_grown W3 (D + 1) (.loop (R (if jump.isNone then .ready else .done) jump))
        refine ⟨_, ?_, g4, World.putObj_heap_same (Array.getElem?_eq_some_iff.1 l3).1, keepD g4 (by simp) d3, (kU.trans hx).trans (KeptX.grown g4 (Nat.le_trans hsz (Nat.le_trans gU.size hx.1)) (.inr (by omega))), fun o ho => by rw [l3] at ho; cases ho; rfl⟩
        rw [hrun, ho2, hR]
      rintro e a3 W3 hp
      cases e with
      | normal =>
        obtain ⟨p1, p2, p3⟩ := hp
        obtain ⟨W4, q1, q2, q3, q4, q5, q6⟩ := fin none W3 p1 p2
        exact ⟨_, _, q1, .inl ⟨rfl, ⟨hI _ _ _ _ p3 q2 (.inr ⟨_, rfl, by omega, q6⟩), q3, q4⟩, q5⟩⟩
      | ret =>
        obtain ⟨p1, p2, p3⟩ := hp
        obtain ⟨W4, q1, q2, q3, q4, q5, q6⟩ := fin (some .ret) W3 p1 p2
        exact ⟨_, _, q1, .inr ⟨rfl, ⟨.ret, hIx _ _ _ _ _ p3 q2 (.inr ⟨_, rfl, by omega, q6⟩), q3, q4⟩, q5⟩⟩
      | exit i =>
        obtain ⟨p1, p2, p3⟩ := hp
        obtain ⟨W4, q1, q2, q3, q4, q5, q6⟩ := fin (some (.exit i)) W3 p1 p2
        exact ⟨_, _, q1, .inr ⟨rfl, ⟨.exit i, hIx _ _ _ _ _ p3 q2 (.inr ⟨_, rfl, by omega, q6⟩), q3, q4⟩, q5⟩⟩
      | goto i =>
        obtain ⟨p1, p2, p3⟩ := hp
        obtain ⟨W4, q1, q2, q3, q4, q5, q6⟩ := fin (some (.goto i)) W3 p1 p2
        exact ⟨_, _, q1, .inr ⟨rfl, ⟨.goto i, hIx _ _ _ _ _ p3 q2 (.inr ⟨_, rfl, by omega, q6⟩), q3, q4⟩, q5⟩⟩
      | panic ch => exact hp.elim
      | outgrown => exact hp.elim
    · -- behind the iterator
      rintro e W2 (⟨⟨v, rfl⟩, (⟨xs, hS, h2, h3, h4⟩ | ⟨pre, hS, c, h2, h3, h4⟩)⟩ | ⟨ch, pre, rfl, hS, h2, h3, h4⟩)
      · have hrun := run_endLoop (P := P) h3 (by rw [hR]; simp [rec'])
        have g4 := putObj_grown W2 (D + 1) (.loop { R .ready none with state := .exhausted })
        refine ⟨none, _, by rw [hrun, hR], ?_⟩
        rw [← hR]
        exact hdone D xs W2 _ (by omega) hS (hI _ _ _ _ h2 g4 (.inr ⟨_, rfl, by omega, fun o ho => by rw [h3] at ho; cases ho; rfl⟩)) g4 (keepD g4 (by simp) h4)
      · have hrun := run_endLoop (P := P) h3 (by rw [hR]; simp [rec'])
        have g4 := putObj_grown W2 (D + 1) (.loop { R .done (some c) with state := .exhausted })
        refine ⟨some c, _, by rw [hrun, hR], ?_⟩
        rw [← hR]
        exact hstop D c pre W2 _ (by omega) hS (hIx _ _ _ _ _ h2 g4 (.inr ⟨_, rfl, by omega, fun o ho => by rw [h3] at ho; cases ho; rfl⟩)) g4 (keepD g4 (by simp) h4)
      · exact hpanic D ch pre W2 (by omega) hS h2 h4

end Go.Proofs.YtpdacbiiaglodaaGreat.U

/-
  LAYER 4 (utf), plain: scalars with their places and widths.
-/
namespace Go.Proofs.YtpdacbiiaglodaaGreat.U
set_option maxRecDepth 100000

/-- place, scalar, width. -/
abbrev Told := Nat × Nat × Nat
def places : Nat → List (Nat × Nat) → List Told
  | _, [] => []
  | k, (r, n) :: t => (k, r, n) :: places (k + n) t
def pls (l : List UInt8) : List Told := places 0 (rs l)
def wsum (l : List Told) : Nat := (l.map (·.2.2)).sum

theorem places_some {l : List UInt8} {k r n : Nat} (h : dec (l.drop k) = some (r, n)) : places k (rs (l.drop k)) = (k, r, n) :: places (k + n) (rs (l.drop (k + n))) := by
  rw [rs_some h, places, List.drop_drop]
theorem places_none {l : List UInt8} {k : Nat} (h : dec (l.drop k) = none) : places k (rs (l.drop k)) = [] := by
  rw [rs_none h, places]
theorem places_sum : ∀ (k : Nat) (t : List (Nat × Nat)), wsum (places k t) = (t.map (·.2)).sum
  | _, [] => rfl
  | k, (r, n) :: t => by
    have := places_sum (k + n) t
    simp [places, wsum] at this ⊢
    exact this
theorem pls_sum (l : List UInt8) : wsum (pls l) = tot l := places_sum 0 (rs l)
theorem wsum_append (a b : List Told) : wsum (a ++ b) = wsum a + wsum b := by simp [wsum]
/-- The place of what comes next is how much was told. -/
theorem place_at : ∀ (k : Nat) (t : List (Nat × Nat)) (pre : List Told) (x : Told) (post : List Told), places k t = pre ++ x :: post → x.1 = k + wsum pre
  | k, [], [], _, _, h => by simp [places] at h
  | k, [], _ :: _, _, _, h => by simp [places] at h
  | k, (r, n) :: t, [], x, post, h => by
    simp [places] at h
    rw [← h.1]
    simp [wsum]
  | k, (r, n) :: t, y :: pre, x, post, h => by
    simp [places] at h
    have := place_at (k + n) t pre x post h.2
    rw [this, ← h.1]
    simp [wsum]
    omega
theorem get_split {α : Type} {l : List α} {i : Nat} {x : α} (h : l[i]? = some x) : l = l.take i ++ x :: l.drop (i + 1) := by
  have hi := (List.getElem?_eq_some_iff.1 h).1
  have := List.take_append_drop i l
  rw [List.drop_eq_getElem_cons hi, (List.getElem?_eq_some_iff.1 h).2] at this
  exact this.symm
/-- What is told at a place is the scalar whose form stands there. -/
theorem told_dec : ∀ (f k : Nat) (l : List UInt8) (i : Nat) (x : Told), l.length - k ≤ f → (places k (rs (l.drop k)))[i]? = some x → dec (l.drop x.1) = some (x.2.1, x.2.2) ∧ k ≤ x.1
  | f, k, l, i, x, hf, h => by
    cases hd : dec (l.drop k) with
    | none => rw [places_none hd] at h; simp at h
    | some y =>
      obtain ⟨r, n⟩ := y
      have hs := dec_some hd
      simp only [List.length_drop] at hs
      rw [places_some hd] at h
      cases i with
      | zero =>
        simp at h
        subst h
        exact ⟨hd, Nat.le_refl _⟩
      | succ j =>
        simp only [List.getElem?_cons_succ] at h
        cases f with
        | zero => omega
        | succ f =>
          obtain ⟨q1, q2⟩ := told_dec f (k + n) l j x (by omega) h
          exact ⟨q1, by omega⟩

/-- Behind all that is told no form stands. -/
theorem end_none : ∀ (f : Nat) (l : List UInt8), l.length ≤ f → dec (l.drop (tot l)) = none
  | f, l, h => by
    cases hd : dec l with
    | none => rw [tot_none hd, List.drop_zero]; exact hd
    | some x =>
      obtain ⟨r, n⟩ := x
      have hs := dec_some hd
      cases f with
      | zero => omega
      | succ f =>
        rw [tot_some hd, ← List.drop_drop]
        exact end_none f (l.drop n) (by simp; omega)

theorem pls_at {l : List UInt8} {i k r n : Nat} (h : (pls l)[i]? = some (k, r, n)) : k = wsum ((pls l).take i) ∧ dec (l.drop k) = some (r, n) := by
  refine ⟨?_, (told_dec l.length 0 l i (k, r, n) (by omega) (by simpa [pls] using h)).1⟩
  have := place_at 0 (rs l) ((pls l).take i) (k, r, n) ((pls l).drop (i + 1)) (get_split h)
  simpa using this
theorem take_next {α : Type} {l pre : List α} {x : α} (h : pre = l.take pre.length) (hx : l[pre.length]? = some x) : pre ++ [x] = l.take (pre ++ [x]).length := by
  rw [List.length_append, List.length_cons, List.length_nil, List.take_add_one, hx]
  simp only [Option.toList_some]
  rw [← h]
end Go.Proofs.YtpdacbiiaglodaaGreat.U

/-
  LAYER 6 (norm), plain: ranges exchanged and turned, one exchange at a time. No program, no world.
-/
namespace Go.Proofs.YtpdacbiiaglodaaGreat
set_option maxRecDepth 100000
open Go.Sort

section
variable {α : Type} [Inhabited α]
omit [Inhabited α] in
theorem take_step {l : List α} {i : Nat} (h : i < l.length) : l.take (i + 1) = l.take i ++ [l[i]] := by rw [List.take_add_one]; simp [h]
theorem swapRange_step (X P Z Q Y : List α) (d : Array α) (i : Nat) (hi : i < P.length) (he : P.length = Q.length) (hd : d.toList = X ++ (Q.take i ++ (P.drop i ++ (Z ++ (P.take i ++ (Q.drop i ++ Y)))))) :
    (swp d (X.length + i) (X.length + P.length + Z.length + i)).toList = X ++ (Q.take (i + 1) ++ (P.drop (i + 1) ++ (Z ++ (P.take (i + 1) ++ (Q.drop (i + 1) ++ Y))))) := by
  have hq : i < Q.length := by omega
  rw [List.drop_eq_getElem_cons hi, List.drop_eq_getElem_cons hq] at hd
  have := swp_list d (X ++ Q.take i) (P.drop (i + 1) ++ (Z ++ P.take i)) (Q.drop (i + 1) ++ Y) P[i] Q[i] (by rw [hd]; simp only [List.append_assoc, List.cons_append])
  have e1 : (X ++ Q.take i).length = X.length + i := by simp; omega
  have e2 : X.length + i + 1 + (P.drop (i + 1) ++ (Z ++ P.take i)).length = X.length + P.length + Z.length + i := by simp; omega
  rw [e1, e2] at this
  rw [this, take_step hi, take_step hq]
  simp only [List.append_assoc, List.cons_append, List.nil_append]
end
end Go.Proofs.YtpdacbiiaglodaaGreat

/-
  LAYER 6 (norm), plain: the merge in place, its searches and its steps. No program, no world.
-/
namespace Go.Proofs.YtpdacbiiaglodaaGreat
set_option maxRecDepth 100000
open Go.Sort

/-! ### A search by halves -/
/-- Between lo and hi p holds below i, and from j on it doesn't. -/
def Srch (p : Nat → Prop) (lo hi i j : Nat) : Prop := lo ≤ i ∧ i ≤ j ∧ j ≤ hi ∧ (∀ h, lo ≤ h → h < i → p h) ∧ (∀ h, j ≤ h → h < hi → ¬ p h)
def Mono (p : Nat → Prop) (lo hi : Nat) : Prop := ∀ h h', lo ≤ h' → h' ≤ h → h < hi → p h → p h'
theorem Srch.start {p : Nat → Prop} {lo hi : Nat} (h : lo ≤ hi) : Srch p lo hi lo hi := ⟨Nat.le_refl _, h, Nat.le_refl _, fun _ h1 h2 => by omega, fun _ h1 h2 => by omega⟩
theorem Srch.up {p : Nat → Prop} {lo hi i j : Nat} (h : Srch p lo hi i j) (hm : Mono p lo hi) (hij : i < j) (hp : p ((i + j) / 2)) : Srch p lo hi ((i + j) / 2 + 1) j := by
  obtain ⟨h1, h2, h3, h4, h5⟩ := h
  exact ⟨by omega, by omega, h3, fun x a b => hm ((i + j) / 2) x a (by omega) (by omega) hp, h5⟩
theorem Srch.down {p : Nat → Prop} {lo hi i j : Nat} (h : Srch p lo hi i j) (hm : Mono p lo hi) (hij : i < j) (hp : ¬ p ((i + j) / 2)) : Srch p lo hi i ((i + j) / 2) := by
  obtain ⟨h1, h2, h3, h4, h5⟩ := h
  exact ⟨h1, by omega, by omega, h4, fun x a b hx => hp (hm x ((i + j) / 2) (by omega) a b hx)⟩

section
variable {α : Type} [Inhabited α] {key : α → Int}

theorem srt_at {d : Array α} {X S Y : List α} (h : d.toList = X ++ (S ++ Y)) (hs : Srt key S) (i j : Nat) (h1 : X.length ≤ i) (h2 : i ≤ j) (h3 : j < X.length + S.length) : key d[i]! ≤ key d[j]! := by
  have hl : d.size = X.length + S.length + Y.length := by rw [size_list d _ h]; simp; omega
  have e : ∀ x (h1 : X.length ≤ x) (h3 : x < X.length + S.length), d[x]! = S[x - X.length]'(by omega) := by
    intro x p q
    rw [getElem!_pos d x (by omega), ← Array.getElem_toList]
    simp only [h]
    rw [List.getElem_append_right p, List.getElem_append_left (by omega)]
  rw [e i h1 (by omega), e j (by omega) h3]
  rcases Nat.lt_or_ge i j with hij | hij
  · exact List.pairwise_iff_getElem.1 hs _ _ _ _ (by omega)
  · obtain rfl : i = j := by omega
    exact Int.le_refl _
theorem at_of {d : Array α} {X S Y : List α} (h : d.toList = X ++ (S ++ Y)) (x : Nat) (h1 : X.length ≤ x) (h3 : x < X.length + S.length) : S[x - X.length]? = some d[x]! := by
  have hl : d.size = X.length + S.length + Y.length := by rw [size_list d _ h]; simp; omega
  rw [getElem!_pos d x (by omega), ← Array.getElem_toList]
  simp only [h]
  rw [List.getElem_append_right h1, List.getElem_append_left (by omega)]
  exact List.getElem?_eq_getElem _

/-! ### One element, laid into what lies behind it -/
theorem one_step (X V1 R : List α) (u : α) (d : Array α) (t : Nat) (ht : t < V1.length) (hd : d.toList = X ++ (V1.take t ++ u :: (V1.drop t ++ R))) :
    (swp d (X.length + t) (X.length + t + 1)).toList = X ++ (V1.take (t + 1) ++ u :: (V1.drop (t + 1) ++ R)) := by
  rw [List.drop_eq_getElem_cons ht] at hd
  have := swp_list d (X ++ V1.take t) [] (V1.drop (t + 1) ++ R) u V1[t] (by rw [hd]; simp only [List.append_assoc, List.cons_append, List.nil_append])
  rw [show (X ++ V1.take t).length = X.length + t by simp; omega, List.length_nil, Nat.add_zero] at this
  rw [this, take_step ht]
  simp only [List.append_assoc, List.cons_append, List.nil_append]
theorem last_step (X U2 R : List α) (v : α) (d : Array α) (t : Nat) (ht : t < U2.length) (hd : d.toList = X ++ (U2.take (t + 1) ++ v :: (U2.drop (t + 1) ++ R))) :
    (swp d (X.length + t + 1) (X.length + t)).toList = X ++ (U2.take t ++ v :: (U2.drop t ++ R)) := by
  rw [take_step ht] at hd
  have := swp_list' d (X ++ U2.take t) [] (U2.drop (t + 1) ++ R) U2[t] v (by rw [hd]; simp only [List.append_assoc, List.cons_append, List.nil_append])
  rw [show (X ++ U2.take t).length = X.length + t by simp; omega, List.length_nil, Nat.add_zero] at this
  rw [this, List.drop_eq_getElem_cons ht]
  simp only [List.append_assoc, List.cons_append, List.nil_append]

omit [Inhabited α] in
theorem srt_take {S : List α} (h : Srt key S) (n : Nat) : Srt key (S.take n) := (srt_append.1 (by rw [List.take_append_drop]; exact h : Srt key (S.take n ++ S.drop n))).1
omit [Inhabited α] in
theorem srt_drop {S : List α} (h : Srt key S) (n : Nat) : Srt key (S.drop n) := (srt_append.1 (by rw [List.take_append_drop]; exact h : Srt key (S.take n ++ S.drop n))).2.1
omit [Inhabited α] in
theorem stm_one {u : α} {V V1 V2 : List α} (hV : Srt key V) (e : V = V1 ++ V2) (h1 : ∀ v ∈ V1, key v < key u) (h2 : ∀ v ∈ V2, key u ≤ key v) : StM key ([u] ++ V) (V1 ++ u :: V2) := by
  subst e
  have a := srt_append.1 hV
  refine ⟨?_, ?_, by simp; omega⟩
  · have : Flt key (([u] ++ V1) ++ V2) ((V1 ++ [u]) ++ V2) := Flt.append (Flt.comm fun x hx y hy => by rw [List.mem_singleton.1 hx]; exact h1 y hy) (Flt.refl key V2)
    simpa using this
  · refine srt_append.2 ⟨a.1, List.pairwise_cons.2 ⟨h2, a.2.1⟩, ?_⟩
    intro x hx y hy
    rcases List.mem_cons.1 hy with rfl | hy
    · have := h1 x hx; omega
    · exact a.2.2 x hx y hy
omit [Inhabited α] in
theorem stm_last {v : α} {U U1 U2 : List α} (hU : Srt key U) (e : U = U1 ++ U2) (h1 : ∀ u ∈ U1, key u ≤ key v) (h2 : ∀ u ∈ U2, key v < key u) : StM key (U ++ [v]) (U1 ++ v :: U2) := by
  subst e
  have a := srt_append.1 hU
  refine ⟨?_, ?_, by simp⟩
  · have : Flt key (U1 ++ (U2 ++ [v])) (U1 ++ ([v] ++ U2)) := Flt.append (Flt.refl key U1) (Flt.comm fun x hx y hy => by rw [List.mem_singleton.1 hy]; exact h2 x hx)
    simpa using this
  · refine srt_append.2 ⟨a.1, List.pairwise_cons.2 ⟨fun y hy => by have := h2 y hy; omega, a.2.1⟩, ?_⟩
    intro x hx y hy
    rcases List.mem_cons.1 hy with rfl | hy
    · exact h1 x hx
    · exact a.2.2 x hx y hy
/-- What the first search finds. -/
theorem found_one {d : Array α} {X V Y : List α} {u : α} (hd : d.toList = X ++ ([u] ++ (V ++ Y))) (i : Nat) (hs : Srch (fun h => key d[h]! < key d[X.length]!) (X.length + 1) (X.length + 1 + V.length) i i) :
    (∀ v ∈ V.take (i - (X.length + 1)), key v < key u) ∧ (∀ v ∈ V.drop (i - (X.length + 1)), key u ≤ key v) := by
  obtain ⟨h1, _, h3, h4, h5⟩ := hs
  have hu : d[X.length]! = u := at_list d X (V ++ Y) u (by rw [hd]; simp)
  have hd' : d.toList = (X ++ [u]) ++ (V ++ Y) := by rw [hd]; simp
  have hat : ∀ k (hk : k < V.length), d[X.length + 1 + k]! = V[k] := by
    intro k hk
    have := at_of hd' (X.length + 1 + k) (by simp) (by simp; omega)
    simp only [List.length_append, List.length_singleton, Nat.add_sub_cancel_left] at this
    rw [List.getElem?_eq_getElem hk] at this
    exact (Option.some.inj this).symm
  rw [hu] at h4 h5
  constructor
  · intro v hv
    obtain ⟨k, hk, rfl⟩ := List.mem_take_iff_getElem.1 hv
    have := h4 (X.length + 1 + k) (by omega) (by omega)
    dsimp only at this
    rwa [hat k (by omega)] at this
  · intro v hv
    obtain ⟨k, hk, rfl⟩ := List.mem_drop_iff_getElem.1 hv
    have := h5 (X.length + 1 + (i - (X.length + 1) + k)) (by omega) (by omega)
    dsimp only at this
    rw [hat _ (by omega)] at this
    exact Int.not_lt.1 this
theorem found_last {d : Array α} {X U Y : List α} {v : α} (hd : d.toList = X ++ (U ++ ([v] ++ Y))) (i : Nat) (hs : Srch (fun h => key d[h]! ≤ key d[X.length + U.length]!) X.length (X.length + U.length) i i) :
    (∀ u ∈ U.take (i - X.length), key u ≤ key v) ∧ (∀ u ∈ U.drop (i - X.length), key v < key u) := by
  obtain ⟨h1, _, h3, h4, h5⟩ := hs
  have hu : d[X.length + U.length]! = v := by
    have := at_list d (X ++ U) Y v (by rw [hd]; simp)
    simpa using this
  have hat : ∀ k (hk : k < U.length), d[X.length + k]! = U[k] := by
    intro k hk
    have := at_of hd (X.length + k) (by omega) (by omega)
    rw [Nat.add_sub_cancel_left, List.getElem?_eq_getElem hk] at this
    exact (Option.some.inj this).symm
  rw [hu] at h4 h5
  constructor
  · intro u hv
    obtain ⟨k, hk, rfl⟩ := List.mem_take_iff_getElem.1 hv
    have := h4 (X.length + k) (by omega) (by omega)
    dsimp only at this
    rwa [hat k (by omega)] at this
  · intro u hv
    obtain ⟨k, hk, rfl⟩ := List.mem_drop_iff_getElem.1 hv
    have := h5 (X.length + (i - X.length + k)) (by omega) (by omega)
    dsimp only at this
    rw [hat _ (by omega)] at this
    exact Int.not_le.1 this
theorem mono_one {d : Array α} {X V Y : List α} {u : α} (hd : d.toList = X ++ ([u] ++ (V ++ Y))) (hV : Srt key V) : Mono (fun h => key d[h]! < key d[X.length]!) (X.length + 1) (X.length + 1 + V.length) := by
  intro h h' h1 h2 h3 hp
  have := srt_at (X := X ++ [u]) (S := V) (Y := Y) (by rw [hd]; simp) hV h' h (by simpa using h1) h2 (by simpa using h3)
  show key d[h']! < _
  have hp' : key d[h]! < key d[X.length]! := hp
  omega
theorem mono_last {d : Array α} {X U Y : List α} {v : α} (hd : d.toList = X ++ (U ++ ([v] ++ Y))) (hU : Srt key U) : Mono (fun h => key d[h]! ≤ key d[X.length + U.length]!) X.length (X.length + U.length) := by
  intro h h' h1 h2 h3 hp
  have := srt_at hd hU h' h h1 h2 h3
  have hp' : key d[h]! ≤ key d[X.length + U.length]! := hp
  show key d[h']! ≤ _
  omega

/-! ### The halves -/
/-- Where the third search begins and how far it goes. -/
def lo0 (a m b mid : Nat) : Nat := if mid < m then mid + m - b else a
def up0 (m mid : Nat) : Nat := if mid < m then mid else m
theorem mono_mid {d : Array α} {X U V Y : List α} (hd : d.toList = X ++ (U ++ (V ++ Y))) (hU : Srt key U) (hV : Srt key V) (a m b mid : Nat) (ha : a = X.length) (hm : m = a + U.length) (hb : b = m + V.length) (hmid : mid = (a + b) / 2) :
    Mono (fun c => key d[c]! ≤ key d[mid + m - 1 - c]!) (lo0 a m b mid) (up0 m mid) := by
  intro h h' h1 h2 h3 hp
  have hd' : d.toList = (X ++ U) ++ (V ++ Y) := by rw [hd]; simp
  have b1 : a ≤ lo0 a m b mid := by unfold lo0; split <;> omega
  have b2 : h < m ∧ h < mid + 0 ∨ h < m ∧ m ≤ mid := by unfold up0 at h3; split at h3 <;> omega
  have b3 : mid + m ≤ b + h' := by unfold lo0 at h1; split at h1 <;> omega
  have x1 := srt_at hd hU h' h (by omega) h2 (by omega)
  have x2 := srt_at hd' hV (mid + m - 1 - h) (mid + m - 1 - h') (by simp; omega) (by omega) (by simp; omega)
  have hp' : key d[h]! ≤ key d[mid + m - 1 - h]! := hp
  show key d[h']! ≤ _
  omega
/-- The place s that the third search finds parts both lists. -/
theorem found_mid {d : Array α} {X U V Y : List α} (hd : d.toList = X ++ (U ++ (V ++ Y))) (a m b mid s : Nat) (ha : a = X.length) (hm : m = a + U.length) (hb : b = m + V.length) (hmid : mid = (a + b) / 2)
    (hs : Srch (fun c => key d[c]! ≤ key d[mid + m - 1 - c]!) (lo0 a m b mid) (up0 m mid) s s) :
    a ≤ s ∧ s ≤ m ∧ s ≤ mid ∧ m ≤ mid + m - s ∧ mid + m - s ≤ b ∧
    (∀ v, (V.take (mid - s)).getLast? = some v → ∀ u, (U.drop (s - a)).head? = some u → key v < key u) ∧
    (∀ u, (U.take (s - a)).getLast? = some u → ∀ v, (V.drop (mid - s)).head? = some v → key u ≤ key v) := by
  obtain ⟨h1, _, h3, h4, h5⟩ := hs
  have hd' : d.toList = (X ++ U) ++ (V ++ Y) := by rw [hd]; simp
  have b1 : a ≤ s := by unfold lo0 at h1; split at h1 <;> omega
  have b2 : s ≤ m ∧ s ≤ mid := by unfold up0 at h3; split at h3 <;> omega
  have b3 : mid + m ≤ b + s := by unfold lo0 at h1; split at h1 <;> omega
  refine ⟨b1, b2.1, b2.2, by omega, by omega, ?_, ?_⟩
  · intro v hv u hu
    rw [List.getLast?_eq_getElem?, List.length_take] at hv
    have hvl := (List.getElem?_eq_some_iff.1 hv).1
    rw [List.length_take] at hvl
    have hml : min (mid - s) V.length = mid - s := by omega
    rw [hml, List.getElem?_take_of_lt (by omega)] at hv
    rw [List.head?_drop] at hu
    have hul := (List.getElem?_eq_some_iff.1 hu).1
    have hlt : s < up0 m mid := by unfold up0; split <;> omega
    have := h5 s (Nat.le_refl _) hlt
    dsimp only at this
    have e1 := at_of hd s (by omega) (by omega)
    rw [show s - X.length = s - a by omega, hu] at e1
    have e2 := at_of hd' (mid + m - 1 - s) (by simp; omega) (by simp; omega)
    rw [show mid + m - 1 - s - (X ++ U).length = mid - s - 1 by simp; omega, hv] at e2
    rw [← Option.some.inj e1, ← Option.some.inj e2] at this
    omega
  · intro u hu v hv
    rw [List.getLast?_eq_getElem?, List.length_take] at hu
    have hul := (List.getElem?_eq_some_iff.1 hu).1
    rw [List.length_take] at hul
    have hml : min (s - a) U.length = s - a := by omega
    rw [hml, List.getElem?_take_of_lt (by omega)] at hu
    rw [List.head?_drop] at hv
    have hvl := (List.getElem?_eq_some_iff.1 hv).1
    have hlt : lo0 a m b mid ≤ s - 1 := by unfold lo0; split <;> omega
    have := h4 (s - 1) hlt (by omega)
    dsimp only at this
    have e1 := at_of hd (s - 1) (by omega) (by omega)
    rw [show s - 1 - X.length = s - a - 1 by omega, hu] at e1
    have e2 := at_of hd' (mid + m - 1 - (s - 1)) (by simp; omega) (by simp; omega)
    rw [show mid + m - 1 - (s - 1) - (X ++ U).length = mid - s by simp; omega, hv] at e2
    rw [← Option.some.inj e1, ← Option.some.inj e2] at this
    omega
end
end Go.Proofs.YtpdacbiiaglodaaGreat
