/-
  LAYER 3 (crc): Each of a table that nobody made: an iterator that tells nothing; the tools of a walk that holds a range over a function.
-/
import Derived.Test.YtilbccjgaaembaaRUnf
import Derived.Test.YtilbccjgaaembaaRSums
import Derived.RangeFuncNested
import Derived.RangeFuncBound
import Derived.RangeFuncCalls
import Derived.RangeFuncLeaves
import Derived.Shelf.Abstract
import Derived.Shelf.RegionOpen
import Derived.WalkKit
import Derived.OwnWalkIn
import Derived.TacticsInMore
import Derived.LoopNIn
import Derived.LoopIn
namespace Go.Proofs.Ytilbccjgaaembaa
set_option maxRecDepth 100000
open Go.RowKit Go.Lib
attribute [local go_sem] Oper.semAt_some

/-- 'append(out, f...)' at bytes, inside a fence. -/
theorem wpListIn_append_bytes {F : Fence} {n : Nat} {P : Program} (w : World) {ops : Array Oper} {rest : List Oper} {o : Oper} {a : Act} {Q : Exit → Act → World → Prop} (hgd : o.guard = none) (s x : Operand) (t : TypeId)
    (ho : o.op = .call { callee := .builtin .append, args := #[s, x], argTypes := #[t, t] })
    (base : Nat) (e : TypeId) (i : TypeInfo) (ht : P.underlying t = some (.slice e)) (hi : P.info? e = some i) (hz : i.zero = some (.int .u8 0)) (hsize : i.size = 1) (hby : i.bytes = 1)
    (v : Value) (bs : List UInt8) (hs : a.eval s = v) (hown : Owns w base e v bs) (xv : Value) (f : List UInt8) (hx : a.eval x = xv) (hr : Reads w xv f)
    (hlim : bs.length + f.length ≤ 140737488355328) (hbase : base ≤ w.heap.size)
    (h : ∀ v' w', Owns w' base e v' (bs ++ f) → w.grownBy w' v.ownBlock → wpListIn F n P ops Q rest (a.put o.dst v') w') : wpListIn F n P ops Q (o :: rest) a w := by
  have hr0 := hr
  rcases hr with ⟨rfl, rfl⟩ | ⟨b, off, cap, rfl, _, _, _⟩
  · refine wpListIn_plain hgd fun K hK => ?_
    have hrun := run_append_owned_none (P := P) w base t o.type e i 1 ht hi v _ _ hown
    unfold Oper.wpIn
    refine ⟨?_, ?_⟩
    · simp [Oper.about, ho, resolve, Target.leads, Sem.run_pure]
    · rw [Oper.semAt_plain F _ _ (by rw [ho]; intro c hc'; cases hc')]
      simp [execOp, ho, resolve, invoke, builtin, hs, hx, hrun, Result.andThen]
      exact hK _ _ (h v w (by simpa using hown) (World.grownBy.refl _ _))
  · refine wpListIn_append_own w hgd s x t ho base e i (.int .u8 0) 1 1 ht hi hz hsize hby rfl (by decide) v bs.length (byteCells bs) hs hown ⟨b, off, none⟩ f.length cap (byteCells f) hx (by rw [byteCells_len]; omega) hr0.cells (byteCells_one f) (by unfold maxLen; omega) (by omega) hbase fun v' w' h2 h3 _ => h v' w' ?_ h3
    unfold Owns
    rw [byteCells_append, List.length_append]
    exact h2

/-- Each of a table that nobody made. -/
theorem Each_none (q : Option Addr) (a : Option Addr) (l c : Nat) (w : World) (hm : ∀ w', w.grownBy w' none → Calls Try.prog 98 #[.pointer q] w' fun e w2 => e = .returned (.bool false) ∧ w' = w2) :
    Calls Try.prog 64 #[.pointer q, .slice a l c] w fun e w' => e = .returned (.func (.func 96) #[] #[]) ∧ w.grownBy w' none := by
  have hB := begin_none (.pointer q) (.slice a l c) _ (hm _ (galloc (World.grownBy_alloc w (.cells #[.pointer q] 78) none) (.cells #[.slice a l c] 23)))
  go_enter Try.func64, Try.ntmps64
  go_wp2_with (go_at_call 91; refine hB.mono ?_; rintro e w' ⟨rfl, rfl⟩)
  go_ret
  exact ⟨rfl, galloc (World.grownBy_alloc w _ none) _⟩

/-- It tells nothing. -/
theorem each1_stops (F : Fence) (n : Nat) (hF : F.fn 96) (hro : F.round = none) (w : World) :
    SeqStopsK (α := Unit) F n Try.prog 96 #[] (fun _ => #[.int .i64 0, .slice none 0 0]) (Below w.heap.size) (fun xs => xs = []) (fun _ => False) 0 w := by
  intro l J Jx W hW hJ hJx hY h0
  refine callsIn_of_wp Try.func96 rfl hF ?_ hro
  simp only [Try.ntmps96, List.size_toArray, List.length_cons, List.length_nil, Nat.reduceAdd, Nat.reduceSub, Array.replicate_succ, Array.replicate_zero, List.push_toArray, List.append_toArray, List.nil_append, List.cons_append]
  gi_wp2
  go_end0
  exact ⟨⟨_, rfl⟩, h0⟩
end Go.Proofs.Ytilbccjgaaembaa
