/-
  LAYER 1 (fs): states with a footprint; regions in a round whose reads are taken first: two operations that may come up, an append, no panic. No program is named here.
-/
import Derived.Test.YtafcgjbafihniaaGreatFA01
namespace Go.Proofs.YtafcgjbafihniaaGreat
set_option maxRecDepth 100000
open Go.RowKit

/-- A state with a footprint: the blocks that it speaks of, none of which the iterator protects. -/
def Ft {α : Type} (J : (Nat → Prop) → List α → World → Prop) (Z : Nat → Prop) (s : List α) (W : World) : Prop := ∃ Foot : Nat → Prop, J Foot s W ∧ ∀ k, Foot k → ¬ Z k ∧ k < W.heap.size
theorem Ft.tame {α : Type} {n0 : Nat} {J : (Nat → Prop) → List α → World → Prop} (hJ : ∀ Foot s A B q, J Foot s A → A.grownBy B q → (∀ k, q = some k → n0 ≤ k ∧ ¬ Foot k) → J Foot s B) : Tame n0 (Ft J) where
  more := fun Z Z' s A B ⟨Foot, h, hf⟩ g hz hz' => ⟨Foot, hJ _ _ _ _ _ h g (by simp), fun k hk => ⟨fun h' => by
    rcases hz' k h' with h2 | h2
    · exact (hf k hk).1 h2
    · have := (hf k hk).2; omega, Nat.lt_of_lt_of_le (hf k hk).2 g.size⟩⟩
  own := fun Z s A B q ⟨Foot, h, hf⟩ hq hn g => ⟨Foot, hJ _ _ _ _ _ h g (fun k e => by cases e; exact ⟨hn, fun hF => (hf q hF).1 hq⟩), fun k hk => ⟨(hf k hk).1, Nat.lt_of_lt_of_le (hf k hk).2 g.size⟩⟩

/-- An append whose run is known, as one operation inside a fence. -/
theorem wpIn_app_run {F : Fence} {n : Nat} {P : Program} {o : Oper} {a : Act} {w : World} {K : Act → World → Prop} {Q : Exit → Act → World → Prop} (sl x : Operand) (t : TypeId) (ho : o.op = .call { callee := .builtin .append, args := #[sl, x], argTypes := #[t, t] })
    (v xv : Value) (hs : a.eval sl = v) (hx : a.eval x = xv) {v' : Value} {w' : World} (hrun : (Builtin.append_ #[t, t] o.type #[v, xv]).run P w = .ok v' w') (h : K (a.put o.dst v') w') : Oper.wpIn F n P o a w K Q := by
  unfold Oper.wpIn
  refine ⟨by simp [Oper.about, ho, resolve, Target.leads, Sem.run_pure], ?_⟩
  rw [Oper.semAt_plain F _ _ (by rw [ho]; intro c hc'; cases hc')]
  unfold execOp
  simp only [ho, resolve, invoke, builtin, Sem.run_bind, Sem.run_pure, Result.andThen_ok, List.map_toArray, List.map_cons, List.map_nil, hs, hx, hrun]
  exact h

/-- No panic is let out: the order of what stands ahead of it doesn't matter. -/
def NoPanic (Q : Exit → Act → World → Prop) : Exit → Act → World → Prop
  | .panic _, _, _ => False
  | e, a, w => Q e a w
theorem noPanic_normal {Q : Exit → Act → World → Prop} {a : Act} {w : World} (h : Q .normal a w) : NoPanic Q .normal a w := h
theorem wpIn_noPanic {F : Fence} {n : Nat} {P : Program} {c : Code} {Q : Exit → Act → World → Prop} {a : Act} {w : World} (h : c.wpIn F n P (NoPanic Q) a w) : c.wpIn F n P Q a w :=
  wpIn_mono h fun e a w hq => by cases e <;> first | exact hq | exact hq.elim

/-- Two operations may come up. -/
theorem wpAnyHIn_two {F : Fence} {n : Nat} {P : Program} {ops : Array Oper} {Q : Exit → Act → World → Prop} {md : Region.Mode} {S : World → Prop} {i j : Nat} {o o2 : Oper} {k : Nat} {listed : Array Bool} {a : Act} {w : World} (hr : Region.ready md ops listed = [i, j]) (ho : ops[i]? = some o) (ho2 : ops[j]? = some o2)
    (hw : Region.wanted o (yielded ops a.tmps) = true) (hw2 : Region.wanted o2 (yielded ops a.tmps) = true)
    (h : ∀ K' : Act → World → Prop, Shut (∀ a w, S w → (S w → wpAnyHIn F n P md ops Q S k (listed.setIfInBounds i true) a w) → K' a w) → Oper.wpIn F n P o a w K' Q)
    (h2 : ∀ K' : Act → World → Prop, Shut (∀ a w, S w → (S w → wpAnyHIn F n P md ops Q S k (listed.setIfInBounds j true) a w) → K' a w) → Oper.wpIn F n P o2 a w K' Q) : wpAnyHIn F n P md ops Q S (k + 1) listed a w := by
  refine ⟨fun h0 => (by rw [hr] at h0; cases h0), fun q hq => ?_⟩
  rw [hr] at hq
  unfold wpOpIn
  rcases (show q = i ∨ q = j by simpa using hq) with rfl | rfl
  · simp only [ho]
    rw [if_pos hw]
    exact h _ (fun a w hS hW => ⟨hS, hW hS⟩)
  · simp only [ho2]
    rw [if_pos hw2]
    exact h2 _ (fun a w hS hW => ⟨hS, hW hS⟩)
end Go.Proofs.YtafcgjbafihniaaGreat
