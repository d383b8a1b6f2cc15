/-
  LAYER 4 (utf): caught: the deferred closure (a fault is taken back, or nothing is there), and caught itself.
-/
import Derived.Test.YtmpipgjdnpgemaaUFirst
import Derived.Defers
import Derived.Recover
import Derived.Laws.Pointers
import Derived.Maps.RangeWalk
import Derived.RangeFuncBox
import Derived.RangeFuncNested
namespace Go.Proofs.Ytmpipgjdnpgemaa
set_option maxRecDepth 100000
open Go.RowKit Go.Lib

theorem assert_fault (x : Int) (w : World) : (Instr.typeAssert (.iface 69 (.int .i64 x)) 20 69 true).run Try.prog w = .ok (.tuple #[.int .i64 x, .bool true]) w := by kernel_rfl
theorem nil_iface (w : World) : (binOp .eql 20 .nilIface .nilIface).run Try.prog w = .ok (.bool true) w := by kernel_rfl
theorem fault_iface (x : Int) (w : World) : (binOp .eql 20 (.iface 69 (.int .i64 x)) .nilIface).run Try.prog w = .ok (.bool false) w := by kernel_rfl

set_option maxHeartbeats 1000000 in
theorem catch_idle (p q : Addr) (w : World) :
    CallsD Try.prog 44 #[.pointer (some p), .pointer (some q)] .returning w fun e u' w' => e = .returned (.tuple #[]) ∧ u' = .returning ∧ w' = w := by
  have hn := nil_iface
  refine callsD_of_wpS Try.func44 rfl fun c₀ cs hu => ?_
  simp only [Try.ntmps44, List.size_toArray, List.length_cons, List.length_nil, Nat.reduceAdd, Nat.reduceSub, Array.replicate_succ, Array.replicate_zero, List.push_toArray, List.append_toArray, List.nil_append, List.cons_append]
  apply wpS_seq
  apply wpS_region
  simp [wpOpsS, go_sem, recoverD, hu, Exit.thenS]
  refine wpS_of_wp ?_
  go_wp2
  cases c₀
  simp_all [bodyPostS, results, Try.results44]

set_option maxHeartbeats 1000000 in
theorem catch_fault (p q : Nat) (vp vq : Value) (x : Int) (older : List PanicEntry) (w : World) (hpq : p ≠ q)
    (hp : w.cell? ⟨p, 0, none⟩ = some vp) (fp : w.frozen? ⟨p, 0, none⟩ = false) (hq : w.cell? ⟨q, 0, none⟩ = some vq) (fq : w.frozen? ⟨q, 0, none⟩ = false) :
    CallsD Try.prog 44 #[.pointer (some ⟨p, 0, none⟩), .pointer (some ⟨q, 0, none⟩)] (.panicking ({ v := .iface 69 (.int .i64 x), recovered := false } :: older)) w fun e u' w' =>
      e = .returned (.tuple #[]) ∧ u' = .panicking ({ v := .iface 69 (.int .i64 x), recovered := true } :: older) ∧ w' = (w.setCell ⟨p, 0, none⟩ (.int .i64 x)).setCell ⟨q, 0, none⟩ (.int .i64 40) := by
  have hn := fault_iface
  have hta := assert_fault
  refine callsD_of_wpS Try.func44 rfl fun c₀ cs hu => ?_
  simp only [Try.ntmps44, List.size_toArray, List.length_cons, List.length_nil, Nat.reduceAdd, Nat.reduceSub, Array.replicate_succ, Array.replicate_zero, List.push_toArray, List.append_toArray, List.nil_append, List.cons_append]
  apply wpS_seq
  apply wpS_region
  simp [wpOpsS, go_sem, recoverD, hu, Exit.thenS]
  refine wpS_of_wp ?_
  go_wp2
  cases c₀
  simp_all [bodyPostS, results, Try.results44]

/-- The answer's two cells, new and empty. -/
def two (w : World) : World := (w.alloc (.cells #[.int .i64 0] 3)).alloc (.cells #[.int .i64 0] 23)
/-- .. and filled. -/
def res (w : World) (x e : Int) (w3 : World) : World := (w3.setCell ⟨w.heap.size, 0, none⟩ (.int .i64 x)).setCell ⟨w.heap.size + 1, 0, none⟩ (.int .i64 e)
def Two (w w3 : World) : Prop := Boxed w3 w.heap.size 3 (.int .i64 0) ∧ Boxed w3 (w.heap.size + 1) 23 (.int .i64 0)
theorem two_two (w : World) : Two w (two w) := by
  refine ⟨(Boxed.new w _ _).alloc _, ?_⟩
  have := Boxed.new (w.alloc (.cells #[.int .i64 0] 3)) 23 (.int .i64 0)
  rwa [World.size_alloc] at this
theorem two_grown (w : World) : w.grownBy (two w) none := galloc (World.grownBy_alloc w _ none) _

theorem res_cells {w w3 : World} (x e : Int) (h : Two w w3) : Boxed (res w x e w3) w.heap.size 3 (.int .i64 x) ∧ Boxed (res w x e w3) (w.heap.size + 1) 23 (.int .i64 e) := by
  refine ⟨((h.1).set _).other (by omega) _, ?_⟩
  exact ((h.2).other (by omega) _).set _

set_option maxHeartbeats 1000000 in
theorem caught_ok (f : FuncId) (first cap : Array Value) (w : World) (Q : World → Prop)
    (hent : ∀ (args : Array Value) (w : World), (callFunc f args).run Try.prog w = .ok (.enter f args) w)
    (hcall : Calls Try.prog f (first ++ cap) (two w) fun e w3 => (∃ v, e = .returned v) ∧ Q w3)
    (hQ : ∀ w3, Q w3 → Two w w3) :
    Calls Try.prog 28 #[.func (.func f) first cap] w fun e w' => e = .returned (.tuple #[.int .i64 0, .int .i64 0]) ∧ ∃ w3, Q w3 ∧ w' = res w 0 0 w3 := by
  have hmf : ∀ (fn : Fn) (first cap : Array Value) (w : World), (Instr.makeFunc fn first cap).run Try.prog w = .ok (.func fn first cap) w := fun _ _ _ _ => rfl
  unfold two at hcall
  go_enter_defers Try.func28, Try.ntmps28
  go_wp2
  refine hcall.mono ?_
  rintro e w3 ⟨⟨v, rfl⟩, hq⟩
  have h2 := hQ w3 hq
  have c1 := h2.1.cell
  have c2 := h2.2.cell
  have f1 := h2.1.frozen
  have f2 := h2.2.frozen
  have hR := res_cells 0 0 h2
  clear hcall hQ h2
  go_wp2
  refine leaves_cons (f := 44) (args := #[.pointer (some ⟨w.heap.size, 0, none⟩), .pointer (some ⟨w.heap.size + 1, 0, none⟩)]) (by simp) (by simp [go_sem]) ?_
  refine (catch_idle _ _ _).mono ?_
  rintro e u' w'' ⟨rfl, rfl, rfl⟩
  have d1 := hR.1.cell
  have d2 := hR.2.cell
  unfold res at d1 d2
  refine ⟨.tuple #[.int .i64 0, .int .i64 0], ?_, rfl, w3, hq, rfl⟩
  simp [results, Try.results28, go_sem, d1, d2]

set_option maxHeartbeats 1000000 in
theorem caught_bad (f : FuncId) (first cap : Array Value) (x : Int) (w : World) (Q : World → Prop)
    (hent : ∀ (args : Array Value) (w : World), (callFunc f args).run Try.prog w = .ok (.enter f args) w)
    (hcall : Calls Try.prog f (first ++ cap) (two w) fun e w3 => e = .panicked [{ v := .iface 69 (.int .i64 x), recovered := false }] ∧ Q w3)
    (hQ : ∀ w3, Q w3 → Two w w3) :
    Calls Try.prog 28 #[.func (.func f) first cap] w fun e w' => e = .returned (.tuple #[.int .i64 x, .int .i64 40]) ∧ ∃ w3, Q w3 ∧ w' = res w x 40 w3 := by
  have hmf : ∀ (fn : Fn) (first cap : Array Value) (w : World), (Instr.makeFunc fn first cap).run Try.prog w = .ok (.func fn first cap) w := fun _ _ _ _ => rfl
  unfold two at hcall
  go_enter_defers Try.func28, Try.ntmps28
  go_wp2
  refine hcall.mono ?_
  rintro e w3 ⟨rfl, hq⟩
  have h2 := hQ w3 hq
  have hR := res_cells x 40 h2
  clear hcall hQ
  go_wp2
  refine leaves_cons (f := 44) (args := #[.pointer (some ⟨w.heap.size, 0, none⟩), .pointer (some ⟨w.heap.size + 1, 0, none⟩)]) (by simp) (by simp [go_sem]) ?_
  refine (catch_fault _ _ _ _ x [] w3 (by omega) h2.1.cell h2.1.frozen h2.2.cell h2.2.frozen).mono ?_
  rintro e u' w'' ⟨rfl, rfl, rfl⟩
  simp only [settle]
  have d1 := hR.1.cell
  have d2 := hR.2.cell
  unfold res at d1 d2
  refine ⟨.tuple #[.int .i64 x, .int .i64 40], ?_, rfl, w3, hq, rfl⟩
  simp [results, Try.results28, go_sem, d1, d2]
end Go.Proofs.Ytmpipgjdnpgemaa
