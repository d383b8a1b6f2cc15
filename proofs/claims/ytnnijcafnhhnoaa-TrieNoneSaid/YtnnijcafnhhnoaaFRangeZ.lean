
/-
  LAYER 1 (fs): A RANGE OVER A FUNCTION, THE MOST GENERAL LAW OF MINE: the iterator protects a set of blocks (Z), which it may make greater by what it lays itself; a round may turn whatever is not in it. No program is named here.
-/
import Derived.Test.YtnnijcafnhhnoaaRange
namespace Go.Proofs.Ytnnijcafnhhnoaa
set_option maxRecDepth 100000
open Go.RowKit

/-- The blocks of Z lie as they were. -/
def ZK (Z : Nat → Prop) (A B : World) : Prop := A.heap.size ≤ B.heap.size ∧ ∀ k, k < A.heap.size → Z k → B.heap[k]? = A.heap[k]?
theorem ZK.refl (Z : Nat → Prop) (A : World) : ZK Z A A := ⟨Nat.le_refl _, fun _ _ _ => rfl⟩
theorem ZK.trans {Z : Nat → Prop} {A B C : World} (h : ZK Z A B) (g : ZK Z B C) : ZK Z A C := ⟨Nat.le_trans h.1 g.1, fun k h1 h2 => (g.2 k (Nat.lt_of_lt_of_le h1 h.1) h2).trans (h.2 k h1 h2)⟩
theorem ZK.less {Z Z' : Nat → Prop} {A B : World} (h : ZK Z A B) (hz : ∀ k, Z' k → Z k) : ZK Z' A B := ⟨h.1, fun k h1 h2 => h.2 k h1 (hz k h2)⟩
theorem ZK.of {Z : Nat → Prop} {A B : World} {q : Option Nat} (h : A.grownBy B q) (hq : ∀ k, q = some k → ¬ Z k) : ZK Z A B := ⟨h.size, fun k h1 h2 => h.block k h1 (fun e => hq k e.symm h2)⟩
theorem ZK.new {Z : Nat → Prop} {A B : World} {q : Option Nat} {n : Nat} (h : A.grownBy B q) (hq : ∀ k, q = some k → n ≤ k) (hz : ∀ k, Z k → k < n) : ZK Z A B := ZK.of h (fun k e hZ => by have := hq k e; have := hz k hZ; omega)

/-- A state that outlives the iterator's own steps: what it lays is protected from then on; of what lay it turns protected blocks from n0 on alone. -/
structure Tame {α : Type} (n0 : Nat) (J : (Nat → Prop) → List α → World → Prop) : Prop where
  more : ∀ Z Z' s A B, J Z s A → A.grownBy B none → (∀ k, Z k → Z' k) → (∀ k, Z' k → Z k ∨ A.heap.size ≤ k ∧ k < B.heap.size) → J Z' s B
  own : ∀ Z s A B q, J Z s A → Z q → n0 ≤ q → A.grownBy B (some q) → J Z s B

/-- What an iterator promises. -/
def TellsZ {α : Type} (F : Fence) (n : Nat) (P : Program) (g : Nat) (lb : Array Value) (encs : α → Array Value) (Ok : List α → α → World → Prop) (Z0 : Nat → Prop) (S Sp : List α → World → Prop) (w : World) : Prop :=
  ∀ (l : Nat) (J Jx : (Nat → Prop) → List α → World → Prop) (W : World) (Z : Nat → Prop), ZK Z0 w W → (∀ k, Z0 k → Z k) → (∀ k, Z k → k < W.heap.size) → (∀ k, Z0 k → k ≠ l) → l < W.heap.size → Tame W.heap.size J → Tame W.heap.size Jx →
    (∀ Z pre x W1, (∀ k, Z0 k → Z k) → (∀ k, Z k → k < W1.heap.size) → J Z pre W1 → Ok pre x W1 → YieldAt F (n - 1) P l (encs x) W1 fun e W' =>
      (e = .returned (.bool true) ∧ J Z (pre ++ [x]) W' ∧ ZK (fun k => Z k ∧ k ≠ l) W1 W') ∨ (e = .returned (.bool false) ∧ Jx Z (pre ++ [x]) W' ∧ ZK (fun k => Z k ∧ k ≠ l) W1 W')) →
    J Z [] W →
    CallsIn F n P g (#[.func (.yield l) #[] #[]] ++ lb) W fun e W' => (∃ v, e = .returned v) ∧ ∃ Z', (∀ k, Z k → Z' k) ∧ (∀ k, Z' k → k < W'.heap.size) ∧ ((∃ xs, S xs W' ∧ J Z' xs W') ∨ (∃ pre, Sp pre W' ∧ Jx Z' pre W'))

/-- How a round's body may be left. -/
def roundLeftZ {α : Type} (Z : Nat → Prop) (I : (Nat → Prop) → List α → World → Prop) (Ix : Code → (Nat → Prop) → List α → World → Prop) (xs : List α) (W : World) : Exit → Act → World → Prop
  | .normal, _, W' => ZK Z W W' ∧ I Z xs W'
  | .ret, _, W' => ZK Z W W' ∧ Ix .ret Z xs W'
  | .exit i, _, W' => ZK Z W W' ∧ Ix (.exit i) Z xs W'
  | .goto i, _, W' => ZK Z W W' ∧ Ix (.goto i) Z xs W'
  | .panic _, _, _ => False
  | .outgrown, _, _ => False

set_option maxHeartbeats 4000000 in
theorem range_tellsZ {α : Type} {F : Fence} {n : Nat} {P : Program} {g : Operand} {ps : Array Tmp} {assign body : Code} {Q : Exit → Act → World → Prop} {a : Act} {w : World}
    (hro : F.round = none) (h1 : 1 ≤ n) {gf : Nat} {lb : Array Value} (hg : a.eval g = .func (.func gf) #[] lb) (hFg : F.fn gf) (eg : ∀ args w, (callFunc gf args).run P w = .ok (.enter gf args) w)
    {encs : α → Array Value} {Ok : List α → α → World → Prop} {Z0 : Nat → Prop} {S Sp : List α → World → Prop}
    (hseq : TellsZ F (n - 1) P gf lb encs Ok Z0 S Sp w) (hz0 : ∀ k, Z0 k → k < w.heap.size) (hps : ∀ x, (encs x).size = ps.size)
    (hOk : ∀ pre x A B k o, Ok pre x A → A.grownBy B (some k) → A.heap[k]? = some o → o.isCells = false → Ok pre x B)
    (I : (Nat → Prop) → List α → World → Prop) (Ix : Code → (Nat → Prop) → List α → World → Prop) (hn : ∀ Z s A, I Z s A → w.heap.size ≤ A.heap.size)
    (hI : Tame w.heap.size I) (hIx : ∀ c, Tame w.heap.size (Ix c))
    (h0 : I Z0 [] w) (Ax : α → Act → World → Prop)
    (hOk0 : ∀ pre x A B, Ok pre x A → A.grownBy B none → Ok pre x B)
    (hAx : ∀ x a' A B k o, Ax x a' A → A.grownBy B (some k) → A.heap[k]? = some o → o.isCells = false → Ax x a' B)
    (hassign : ∀ (l : Nat) (x : α) (W : World) (K : Act → World → Prop), (∀ a' W', W.grownBy W' none → Ax x a' W' → K a' W') →
      assign.wpIn (F.inRound l) (n - 1 - 1) P (Exit.then K (fun _ _ _ => False)) { tmps := (ps.zip (encs x)).foldl (fun t (p, v) => t.setIfInBounds p v) a.tmps, defers := [] } W)
    (hbody : ∀ (l : Nat) (Z : Nat → Prop) (pre : List α) (x : α) (a' : Act) (W : World), (∀ k, Z0 k → Z k) → (∀ k, Z k → k < W.heap.size) → I Z pre W → Ok pre x W → Ax x a' W → w.heap.size ≤ W.heap.size → body.wpIn (F.inRound l) (n - 1 - 1) P (roundLeftZ Z I Ix (pre ++ [x]) W) a' W)
    (hdone : ∀ (D : Nat) (Z : Nat → Prop) (xs : List α) (W W' : World), w.heap.size ≤ D → Z D → (∀ k, Z0 k → Z k) → (∀ k, Z k → k < W'.heap.size) → S xs W → I Z xs W' → W.grownBy W' (some (D + 1)) → W'.heap[D]? = some (.deferred (some [])) → Q .normal { a with defers := { target := .collected D, args := #[] } :: a.defers } W')
    (hstop : ∀ (D : Nat) (c : Code) (Z : Nat → Prop) (pre : List α) (W W' : World), w.heap.size ≤ D → Z D → (∀ k, Z0 k → Z k) → (∀ k, Z k → k < W'.heap.size) → Sp pre W → Ix c Z pre W' → W.grownBy W' (some (D + 1)) → W'.heap[D]? = some (.deferred (some [])) → c.wpIn F n P Q { a with defers := { target := .collected D, args := #[] } :: a.defers } W') :
    (Code.rangeFunc g ps assign body).wpIn F n P Q a w := by
  refine wpIn_rangeFunc fun fn hfn => ?_
  rw [hro]
  -- the loop's record, in each of its states
  let rec' : LoopState → Option Code → Loop := fun st pe => { state := st, pending := pe, fn, tmps := a.tmps, params := ps, assign, body, defers := w.heap.size }
  obtain ⟨R, hR⟩ : ∃ R, R = rec' := ⟨_, rfl⟩
  obtain ⟨D, hD⟩ : ∃ D, D = w.heap.size := ⟨_, rfl⟩
  obtain ⟨U, hU⟩ : ∃ U, U = (w.alloc (.deferred (some []))).alloc (.loop (R .ready none)) := ⟨_, rfl⟩
  have gV : w.grownBy U none := by rw [hU]; exact (World.grownBy_alloc w _ none).trans (World.grownBy_alloc _ _ none)
  have lV : U.heap[D + 1]? = some (.loop (R .ready none)) := by
    rw [hU, hD]
    have := World.alloc_heap_new (w.alloc (.deferred (some []))) (.loop (R .ready none))
    rwa [World.size_alloc] at this
  have dV : U.heap[D]? = some (.deferred (some [])) := by
    rw [hU, hD]
    exact ((World.grownBy_alloc (w.alloc (.deferred (some []))) (.loop (R .ready none)) none).block w.heap.size (by simp) (by simp)).trans (World.alloc_heap_new w _)
  have hUs : U.heap.size = D + 2 := by rw [hU, hD]; simp
  obtain ⟨Zi, hZi⟩ : ∃ Zi : Nat → Prop, Zi = fun k => Z0 k ∨ k = D ∨ k = D + 1 := ⟨_, rfl⟩
  have hZ0i : ∀ k, Z0 k → Zi k := fun k h => by rw [hZi]; exact .inl h
  have hZD : Zi D := by rw [hZi]; exact .inr (.inl rfl)
  have hZL : Zi (D + 1) := by rw [hZi]; exact .inr (.inr rfl)
  have hZlt : ∀ k, Zi k → k < U.heap.size := fun k h => by
    rw [hZi] at h
    rcases h with h | rfl | rfl
    · have := hz0 k h; omega
    · omega
    · omega
  have iV : I Zi [] U := hI.more _ _ _ _ _ h0 gV hZ0i (fun k h => by
    rw [hZi] at h
    rcases h with h | rfl | rfl
    · exact .inl h
    · right; omega
    · right; omega)
  refine ⟨D + 1, [{ target := .collected D, args := #[] }], U, { target := .fn (.func gf) lb, args := #[.func (.yield (D + 1)) #[] #[]] }, U, gf, #[.func (.yield (D + 1)) #[] #[]] ++ lb, U, ?_, ?_, ?_, ?_, fun _ => h1, ?_⟩
  · rw [hU, hR, hD]; exact run_enterLoop_outer _ _ _ _ _
  · simp only [resolve, hg]
    simp [go_sem]
  · intro f' hf'; simp [Target.leads] at hf'; subst hf'; exact hFg
  · simp [invoke, go_sem, eg]
  · have keepD : ∀ {A B : World} {q : Option Nat} {o : Obj}, A.grownBy B q → q ≠ some D → A.heap[D]? = some o → B.heap[D]? = some o := fun h hq ho => (h.block D (Array.getElem?_eq_some_iff.1 ho).1 (fun e => hq e.symm)).trans ho
    have keepL : ∀ {A B : World} {q : Option Nat} {o : Obj}, A.grownBy B q → q ≠ some (D + 1) → A.heap[D + 1]? = some o → B.heap[D + 1]? = some o := fun h hq ho => (h.block (D + 1) (Array.getElem?_eq_some_iff.1 ho).1 (fun e => hq e.symm)).trans ho
    refine (hseq (D + 1) (fun Z pre W => I Z pre W ∧ Z D ∧ Z (D + 1) ∧ W.heap[D + 1]? = some (.loop (R .ready none)) ∧ W.heap[D]? = some (.deferred (some [])))
      (fun Z pre W => ∃ c, Ix c Z pre W ∧ Z D ∧ Z (D + 1) ∧ W.heap[D + 1]? = some (.loop (R .done (some c))) ∧ W.heap[D]? = some (.deferred (some []))) U Zi (ZK.of gV (by simp)) hZ0i hZlt (fun k h => by have := hz0 k h; omega) (by omega) ?_ ?_ ?_ ⟨iV, hZD, hZL, lV, dV⟩).mono ?_
    · constructor
      · rintro Z Z' s A B ⟨h2, z1, z2, h3, h4⟩ hAB hz hz'
        exact ⟨hI.more _ _ _ _ _ h2 hAB hz hz', hz _ z1, hz _ z2, keepL hAB (by simp) h3, keepD hAB (by simp) h4⟩
      · rintro Z s A B q ⟨h2, z1, z2, h3, h4⟩ hq hnq hAB
        exact ⟨hI.own _ _ _ _ _ h2 hq (by omega) hAB, z1, z2, keepL hAB (by simp; omega) h3, keepD hAB (by simp; omega) h4⟩
    · constructor
      · rintro Z Z' s A B ⟨c, h2, z1, z2, h3, h4⟩ hAB hz hz'
        exact ⟨c, (hIx c).more _ _ _ _ _ h2 hAB hz hz', hz _ z1, hz _ z2, keepL hAB (by simp) h3, keepD hAB (by simp) h4⟩
      · rintro Z s A B q ⟨c, h2, z1, z2, h3, h4⟩ hq hnq hAB
        exact ⟨c, (hIx c).own _ _ _ _ _ h2 hq (by omega) hAB, z1, z2, keepL hAB (by simp; omega) h3, keepD hAB (by simp; omega) h4⟩
    · -- one round
      rintro Z pre x W hz0Z hZl ⟨h2, z1, z2, h3, h4⟩ hok
      have hsz := hn _ _ _ h2
      have hlt : D + 1 < W.heap.size := (Array.getElem?_eq_some_iff.1 h3).1
      have hy := run_yield (P := P) (args := encs x) h3 (by rw [hR]; exact hps x)
      rw [hR] at hy
      refine ⟨fn, _, assign, body, hy, roundIn_of_wpIn hfn (hassign _ x W _ fun a' Wa gA hax => ?_)⟩
      have h2a : I Z pre Wa := hI.more _ _ _ _ _ h2 gA (fun _ h => h) (fun _ h => .inl h)
      have h3a := keepL gA (by simp) h3
      have h4a := keepD gA (by simp) h4
      have hsza := Nat.le_trans hsz gA.size
      have hoka := hOk0 _ _ _ _ hok gA
      have hlta : D + 1 < Wa.heap.size := (Array.getElem?_eq_some_iff.1 h3a).1
      refine ⟨_, run_beginRound h3a (by rw [hR]), ?_⟩
      obtain ⟨o2, ho2⟩ : ∃ o2 : Loop, o2 = { R .ready none with state := .busy } := ⟨_, rfl⟩
      rw [← ho2]
      have gU := putObj_grown Wa (D + 1) (.loop o2)
      have lU : (Wa.putObj (D + 1) (.loop o2)).heap[D + 1]? = some (.loop o2) := World.putObj_heap_same hlta
      have dU := keepD gU (by simp) h4a
      have sU : (Wa.putObj (D + 1) (.loop o2)).heap.size = Wa.heap.size := World.putObj_size
      refine wpIn_mono (hbody _ Z pre x a' _ hz0Z (fun k hk => by have := hZl k hk; have := gA.size; omega) (hI.own _ _ _ _ _ h2a z2 (by omega) gU) (hOk _ _ _ _ _ _ hoka gU h3a rfl) (hAx _ _ _ _ _ _ hax gU h3a rfl) (Nat.le_trans hsza gU.size)) ?_
      have fin : ∀ (jump : Option Code) (W3 : World), ZK Z (Wa.putObj (D + 1) (.loop o2)) W3 → ∃ W4, (Instr.endRound (D + 1) jump).run P W3 = .ok (.bool jump.isNone) W4 ∧ W3.grownBy W4 (some (D + 1)) ∧
          W4.heap[D + 1]? = some (.loop (R (if jump.isNone then .ready else .done) jump)) ∧ W4.heap[D]? = some (.deferred (some [])) ∧ ZK (fun k => Z k ∧ k ≠ D + 1) W W4 := by
        intro jump W3 hk
        have l3 := (hk.2 (D + 1) (by omega) z2).trans lU
        have d3 := (hk.2 D (by omega) z1).trans dU
        have hrun := run_endRound (P := P) jump l3
        have g4 := putObj_grown W3 (D + 1) (.loop (R (if jump.isNone then .ready else .done) jump))
        refine ⟨_, ?_, g4, World.putObj_heap_same (Array.getElem?_eq_some_iff.1 l3).1, keepD g4 (by simp) d3,
          (((ZK.of gA (by simp)).trans (ZK.of gU (fun k e hz => by cases e; exact hz.2 rfl))).trans (hk.less (fun k h => h.1))).trans (ZK.of g4 (fun k e hz => by cases e; exact hz.2 rfl))⟩
        rw [hrun, ho2, hR]
      rintro e a3 W3 hp
      cases e with
      | normal =>
        obtain ⟨p1, p3⟩ := hp
        obtain ⟨W4, q1, q2, q3, q4, q5⟩ := fin none W3 p1
        exact ⟨_, _, q1, .inl ⟨rfl, ⟨hI.own _ _ _ _ _ p3 z2 (by omega) q2, z1, z2, q3, q4⟩, q5⟩⟩
      | ret =>
        obtain ⟨p1, p3⟩ := hp
        obtain ⟨W4, q1, q2, q3, q4, q5⟩ := fin (some .ret) W3 p1
        exact ⟨_, _, q1, .inr ⟨rfl, ⟨.ret, (hIx _).own _ _ _ _ _ p3 z2 (by omega) q2, z1, z2, q3, q4⟩, q5⟩⟩
      | exit i =>
        obtain ⟨p1, p3⟩ := hp
        obtain ⟨W4, q1, q2, q3, q4, q5⟩ := fin (some (.exit i)) W3 p1
        exact ⟨_, _, q1, .inr ⟨rfl, ⟨.exit i, (hIx _).own _ _ _ _ _ p3 z2 (by omega) q2, z1, z2, q3, q4⟩, q5⟩⟩
      | goto i =>
        obtain ⟨p1, p3⟩ := hp
        obtain ⟨W4, q1, q2, q3, q4, q5⟩ := fin (some (.goto i)) W3 p1
        exact ⟨_, _, q1, .inr ⟨rfl, ⟨.goto i, (hIx _).own _ _ _ _ _ p3 z2 (by omega) q2, z1, z2, q3, q4⟩, q5⟩⟩
      | panic ch => exact hp.elim
      | outgrown => exact hp.elim
    · -- behind the iterator
      rintro e W2 ⟨⟨v, rfl⟩, Z', hzz, hzl, (⟨xs, hS, h2, z1, z2, h3, h4⟩ | ⟨pre, hS, c, h2, z1, z2, h3, h4⟩)⟩
      · have hrun := run_endLoop (P := P) h3 (by rw [hR]; simp [rec'])
        have g4 := putObj_grown W2 (D + 1) (.loop { R .ready none with state := .exhausted })
        refine ⟨none, _, by rw [hrun, hR], ?_⟩
        rw [← hR]
        exact hdone D Z' xs W2 _ (by omega) z1 (fun k h => hzz k (hZ0i k h)) (fun k h => Nat.lt_of_lt_of_le (hzl k h) g4.size) hS (hI.own _ _ _ _ _ h2 z2 (by omega) g4) g4 (keepD g4 (by simp) h4)
      · have hrun := run_endLoop (P := P) h3 (by rw [hR]; simp [rec'])
        have g4 := putObj_grown W2 (D + 1) (.loop { R .done (some c) with state := .exhausted })
        refine ⟨some c, _, by rw [hrun, hR], ?_⟩
        rw [← hR]
        exact hstop D c Z' pre W2 _ (by omega) z1 (fun k h => hzz k (hZ0i k h)) (fun k h => Nat.lt_of_lt_of_le (hzl k h) g4.size) hS ((hIx c).own _ _ _ _ _ h2 z2 (by omega) g4) g4 (keepD g4 (by simp) h4)
/-- The same where the loop's variables lie in no memory. -/
theorem range_tellsZ1 {α : Type} {F : Fence} {n : Nat} {P : Program} {g : Operand} {ps : Array Tmp} {assign body : Code} {Q : Exit → Act → World → Prop} {a : Act} {w : World}
    (hro : F.round = none) (h1 : 1 ≤ n) {gf : Nat} {lb : Array Value} (hg : a.eval g = .func (.func gf) #[] lb) (hFg : F.fn gf) (eg : ∀ args w, (callFunc gf args).run P w = .ok (.enter gf args) w)
    {encs : α → Array Value} {Ok : List α → α → World → Prop} {Z0 : Nat → Prop} {S Sp : List α → World → Prop}
    (hseq : TellsZ F (n - 1) P gf lb encs Ok Z0 S Sp w) (hz0 : ∀ k, Z0 k → k < w.heap.size) (hps : ∀ x, (encs x).size = ps.size)
    (hOk : ∀ pre x A B k o, Ok pre x A → A.grownBy B (some k) → A.heap[k]? = some o → o.isCells = false → Ok pre x B)
    (I : (Nat → Prop) → List α → World → Prop) (Ix : Code → (Nat → Prop) → List α → World → Prop) (hn : ∀ Z s A, I Z s A → w.heap.size ≤ A.heap.size)
    (hI : Tame w.heap.size I) (hIx : ∀ c, Tame w.heap.size (Ix c))
    (h0 : I Z0 [] w) (a₁ : α → Act) (hOk0 : ∀ pre x A B, Ok pre x A → A.grownBy B none → Ok pre x B)
    (hassign : ∀ (l : Nat) (x : α) (W : World) (K : Act → World → Prop), K (a₁ x) W →
      assign.wpIn (F.inRound l) (n - 1 - 1) P (Exit.then K (fun _ _ _ => False)) { tmps := (ps.zip (encs x)).foldl (fun t (p, v) => t.setIfInBounds p v) a.tmps, defers := [] } W)
    (hbody : ∀ (l : Nat) (Z : Nat → Prop) (pre : List α) (x : α) (W : World), (∀ k, Z0 k → Z k) → (∀ k, Z k → k < W.heap.size) → I Z pre W → Ok pre x W → w.heap.size ≤ W.heap.size → body.wpIn (F.inRound l) (n - 1 - 1) P (roundLeftZ Z I Ix (pre ++ [x]) W) (a₁ x) W)
    (hdone : ∀ (D : Nat) (Z : Nat → Prop) (xs : List α) (W W' : World), w.heap.size ≤ D → Z D → (∀ k, Z0 k → Z k) → (∀ k, Z k → k < W'.heap.size) → S xs W → I Z xs W' → W.grownBy W' (some (D + 1)) → W'.heap[D]? = some (.deferred (some [])) → Q .normal { a with defers := { target := .collected D, args := #[] } :: a.defers } W')
    (hstop : ∀ (D : Nat) (c : Code) (Z : Nat → Prop) (pre : List α) (W W' : World), w.heap.size ≤ D → Z D → (∀ k, Z0 k → Z k) → (∀ k, Z k → k < W'.heap.size) → Sp pre W → Ix c Z pre W' → W.grownBy W' (some (D + 1)) → W'.heap[D]? = some (.deferred (some [])) → c.wpIn F n P Q { a with defers := { target := .collected D, args := #[] } :: a.defers } W') :
    (Code.rangeFunc g ps assign body).wpIn F n P Q a w :=
  range_tellsZ hro h1 hg hFg eg hseq hz0 hps hOk I Ix hn hI hIx h0 (fun x a' _ => a' = a₁ x) hOk0 (fun _ _ _ _ _ _ h _ _ _ => h)
    (fun l x W K hK => hassign l x W K (hK _ _ (World.grownBy.refl _ _) rfl)) (fun l Z pre x a' W q1 q2 q3 q4 q5 q6 => by subst q5; exact hbody l Z pre x W q1 q2 q3 q4 q6) hdone hstop

end Go.Proofs.Ytnnijcafnhhnoaa
