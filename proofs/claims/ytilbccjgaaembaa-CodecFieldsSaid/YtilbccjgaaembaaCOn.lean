/-
  LAYER 2 (codec): on[T]: the deferred closure (a fault is taken back, or nothing is there), and on itself.
-/
import Derived.Test.YtilbccjgaaembaaCUint
import Derived.Defers
import Derived.Recover
import Derived.Laws.Pointers
import Derived.Maps.RangeWalk
namespace Go.Proofs.Ytilbccjgaaembaa
set_option maxRecDepth 100000
open Go.RowKit Go.Lib

theorem assert_fault (x : Int) (w : World) : (Instr.typeAssert (.iface 131 (.int .i64 x)) 20 131 true).run Try.prog w = .ok (.tuple #[.int .i64 x, .bool true]) w := by kernel_rfl

set_option maxHeartbeats 1000000 in
theorem catch_idle_u64 (p q : Addr) (w : World) :
    CallsD Try.prog 100 #[.pointer (some p), .pointer (some q)] .returning w fun e u' w' => e = .returned (.tuple #[]) ∧ u' = .returning ∧ w' = w := by
  refine callsD_of_wpS Try.func100 rfl fun c₀ cs hu => ?_
  simp only [Try.ntmps100, List.size_toArray, List.length_cons, List.length_nil, Nat.reduceAdd, Nat.reduceSub, Array.replicate_succ, Array.replicate_zero, List.push_toArray, List.append_toArray, List.nil_append, List.cons_append]
  apply wpS_seq
  apply wpS_region
  simp [wpOpsS, go_sem, recoverD, hu, Exit.thenS]
  refine wpS_of_wp ?_
  go_wp2
  cases c₀
  simp_all [bodyPostS, results, Try.results100]

set_option maxHeartbeats 1000000 in
theorem catch_fault_u64 (bp bq r : Nat) (vb : Value) (pos p' : Nat) (er x : Int) (older : List PanicEntry) (w : World) (hR : Rd w r vb p' er)
    (hp : w.cell? ⟨bp, 0, none⟩ = some (.int .i64 (pos : Int))) (hq : w.cell? ⟨bq, 0, none⟩ = some (.pointer (some ⟨r, 0, none⟩))) :
    CallsD Try.prog 100 #[.pointer (some ⟨bp, 0, none⟩), .pointer (some ⟨bq, 0, none⟩)] (.panicking ({ v := .iface 131 (.int .i64 x), recovered := false } :: older)) w fun e u' w' =>
      e = .returned (.tuple #[]) ∧ u' = .panicking ({ v := .iface 131 (.int .i64 x), recovered := true } :: older) ∧ w' = (w.setCell ⟨r, 2, none⟩ (.int .i64 (pos : Int))).setCell ⟨r, 3, none⟩ (.int .i64 x) := by
  have h2 := hR.at
  have h3 := hR.err
  have f2 := hR.free 2
  have f3 := hR.free 3
  have hta := assert_fault
  refine callsD_of_wpS Try.func100 rfl fun c₀ cs hu => ?_
  simp only [Try.ntmps100, List.size_toArray, List.length_cons, List.length_nil, Nat.reduceAdd, Nat.reduceSub, Array.replicate_succ, Array.replicate_zero, List.push_toArray, List.append_toArray, List.nil_append, List.cons_append]
  apply wpS_seq
  apply wpS_region
  simp [wpOpsS, go_sem, recoverD, hu, Exit.thenS]
  refine wpS_of_wp ?_
  go_wp2
  cases c₀
  simp_all [bodyPostS, results, Try.results100]

set_option maxHeartbeats 1000000 in
theorem on_ok_u64 (r : Nat) (vb : Value) (pos : Nat) (f : FuncId) (first cap : Array Value) (Q : Value → World → Prop) (w : World) (hR : Rd w r vb pos 0)
    (hent : ∀ (args : Array Value) (w : World), (callFunc f args).run Try.prog w = .ok (.enter f args) w)
    (hcall : ∀ w2, w.grownBy w2 none → Calls Try.prog f (first ++ cap) w2 fun e w3 => ∃ v, e = .returned v ∧ Q v w3 ∧ w2.grownBy w3 (some r)) :
    Calls Try.prog 71 #[.pointer (some ⟨r, 0, none⟩), .func (.func f) first cap] w fun e w' => ∃ v, e = .returned v ∧ Q v w' ∧ w.grownBy w' (some r) := by
  have hmf : ∀ (fn : Fn) (first cap : Array Value) (w : World), (Instr.makeFunc fn first cap).run Try.prog w = .ok (.func fn first cap) w := fun _ _ _ _ => rfl
  have hlt := hR.lt
  have h2 := hR.at
  have hg0 : w.grownBy ((w.alloc (.cells #[.pointer (some ⟨r, 0, none⟩)] 58)).alloc (.cells #[.int .i64 (pos : Int)] 3)) none := galloc (World.grownBy_alloc w _ _) _
  have hR0 : Rd (w.alloc (.cells #[.pointer (some ⟨r, 0, none⟩)] 58)) r vb pos 0 := hR.kept (World.grownBy_alloc w _ none) (by simp)
  have hc := hcall _ hg0
  clear hcall
  go_enter_defers Try.func71, Try.ntmps71
  go_wp2_with (go_at_call 48; refine (err_rd _ _ _ _ _ hR0).mono ?_; rintro e w' ⟨rfl, rfl⟩)
  refine hc.mono ?_
  rintro e w3 ⟨v, rfl, hq, hg⟩
  go_wp2
  refine leaves_cons (f := 100) (args := #[.pointer (some ⟨w.heap.size + 1, 0, none⟩), .pointer (some ⟨w.heap.size, 0, none⟩)]) (by simp) (by simp [go_sem]) ?_
  refine (catch_idle_u64 _ _ _).mono ?_
  rintro e u' w'' ⟨rfl, rfl, rfl⟩
  refine ⟨_, results_tmp rfl _ _ _, ?_⟩
  exact ⟨v, rfl, hq, gnew (hg0.but _) hg (fun r' e => .inr e)⟩

set_option maxHeartbeats 1000000 in
theorem on_bad_u64 (r : Nat) (vb : Value) (pos : Nat) (x : Int) (f : FuncId) (first cap : Array Value) (w : World) (hR : Rd w r vb pos 0)
    (hent : ∀ (args : Array Value) (w : World), (callFunc f args).run Try.prog w = .ok (.enter f args) w)
    (hcall : ∀ w2, w.grownBy w2 none → Calls Try.prog f (first ++ cap) w2 fun e w3 => ∃ p, e = .panicked [{ v := .iface 131 (.int .i64 x), recovered := false }] ∧ w2.grownBy w3 (some r) ∧ Rd w3 r vb p 0) :
    Calls Try.prog 71 #[.pointer (some ⟨r, 0, none⟩), .func (.func f) first cap] w fun e w' => e = .returned (.int .u64 0) ∧ w.grownBy w' (some r) ∧ Rd w' r vb pos x := by
  have hmf : ∀ (fn : Fn) (first cap : Array Value) (w : World), (Instr.makeFunc fn first cap).run Try.prog w = .ok (.func fn first cap) w := fun _ _ _ _ => rfl
  have hlt := hR.lt
  have h2 := hR.at
  have hg0 : w.grownBy ((w.alloc (.cells #[.pointer (some ⟨r, 0, none⟩)] 58)).alloc (.cells #[.int .i64 (pos : Int)] 3)) none := galloc (World.grownBy_alloc w _ _) _
  have hR0 : Rd (w.alloc (.cells #[.pointer (some ⟨r, 0, none⟩)] 58)) r vb pos 0 := hR.kept (World.grownBy_alloc w _ none) (by simp)
  have hc := hcall _ hg0
  clear hcall
  go_enter_defers Try.func71, Try.ntmps71
  go_wp2_with (go_at_call 48; refine (err_rd _ _ _ _ _ hR0).mono ?_; rintro e w' ⟨rfl, rfl⟩)
  refine hc.mono ?_
  rintro e w3 ⟨p, rfl, hg, hR3⟩
  have hb1 : w3.cell? ⟨w.heap.size + 1, 0, none⟩ = some (.int .i64 (pos : Int)) := hg.cell (by simp [go_sem]) (by simp; omega)
  have hb2 : w3.cell? ⟨w.heap.size, 0, none⟩ = some (.pointer (some ⟨r, 0, none⟩)) := hg.cell (by simp [go_sem]) (by simp; omega)
  go_wp2
  refine leaves_cons (f := 100) (args := #[.pointer (some ⟨w.heap.size + 1, 0, none⟩), .pointer (some ⟨w.heap.size, 0, none⟩)]) (by simp) (by simp [go_sem]) ?_
  refine (catch_fault_u64 _ _ r vb pos p 0 x [] w3 hR3 hb1 hb2).mono ?_
  rintro e u' w'' ⟨rfl, rfl, rfl⟩
  simp only [settle]
  exact ⟨_, results_tmp rfl _ _ _, rfl, gset (gset (gnew (hg0.but _) hg (fun r' e => .inr e)) _ _) _ _, (hR3.setAt pos).setErr x⟩

set_option maxHeartbeats 1000000 in
theorem on_err_u64 (r : Nat) (vb : Value) (pos : Nat) (er : Int) (fv : Value) (w : World) (hR : Rd w r vb pos er) (he : er ≠ 0) :
    Calls Try.prog 71 #[.pointer (some ⟨r, 0, none⟩), fv] w fun e w' => e = .returned (.int .u64 0) ∧ w.grownBy w' none := by
  have hR0 : Rd (w.alloc (.cells #[.pointer (some ⟨r, 0, none⟩)] 58)) r vb pos er := hR.kept (World.grownBy_alloc w _ none) (by simp)
  have hne : (er != 0) = true := by simpa using he
  clear he
  go_enter_defers Try.func71, Try.ntmps71
  go_wp2_with (go_at_call 48; refine (err_rd _ _ _ _ _ hR0).mono ?_; rintro e w' ⟨rfl, rfl⟩)
  exact ⟨_, results_tmp rfl _ _ _, rfl, World.grownBy_alloc w _ _⟩
set_option maxHeartbeats 1000000 in
theorem catch_idle_i64 (p q : Addr) (w : World) :
    CallsD Try.prog 101 #[.pointer (some p), .pointer (some q)] .returning w fun e u' w' => e = .returned (.tuple #[]) ∧ u' = .returning ∧ w' = w := by
  refine callsD_of_wpS Try.func101 rfl fun c₀ cs hu => ?_
  simp only [Try.ntmps101, List.size_toArray, List.length_cons, List.length_nil, Nat.reduceAdd, Nat.reduceSub, Array.replicate_succ, Array.replicate_zero, List.push_toArray, List.append_toArray, List.nil_append, List.cons_append]
  apply wpS_seq
  apply wpS_region
  simp [wpOpsS, go_sem, recoverD, hu, Exit.thenS]
  refine wpS_of_wp ?_
  go_wp2
  cases c₀
  simp_all [bodyPostS, results, Try.results101]

set_option maxHeartbeats 1000000 in
theorem catch_fault_i64 (bp bq r : Nat) (vb : Value) (pos p' : Nat) (er x : Int) (older : List PanicEntry) (w : World) (hR : Rd w r vb p' er)
    (hp : w.cell? ⟨bp, 0, none⟩ = some (.int .i64 (pos : Int))) (hq : w.cell? ⟨bq, 0, none⟩ = some (.pointer (some ⟨r, 0, none⟩))) :
    CallsD Try.prog 101 #[.pointer (some ⟨bp, 0, none⟩), .pointer (some ⟨bq, 0, none⟩)] (.panicking ({ v := .iface 131 (.int .i64 x), recovered := false } :: older)) w fun e u' w' =>
      e = .returned (.tuple #[]) ∧ u' = .panicking ({ v := .iface 131 (.int .i64 x), recovered := true } :: older) ∧ w' = (w.setCell ⟨r, 2, none⟩ (.int .i64 (pos : Int))).setCell ⟨r, 3, none⟩ (.int .i64 x) := by
  have h2 := hR.at
  have h3 := hR.err
  have f2 := hR.free 2
  have f3 := hR.free 3
  have hta := assert_fault
  refine callsD_of_wpS Try.func101 rfl fun c₀ cs hu => ?_
  simp only [Try.ntmps101, List.size_toArray, List.length_cons, List.length_nil, Nat.reduceAdd, Nat.reduceSub, Array.replicate_succ, Array.replicate_zero, List.push_toArray, List.append_toArray, List.nil_append, List.cons_append]
  apply wpS_seq
  apply wpS_region
  simp [wpOpsS, go_sem, recoverD, hu, Exit.thenS]
  refine wpS_of_wp ?_
  go_wp2
  cases c₀
  simp_all [bodyPostS, results, Try.results101]

set_option maxHeartbeats 1000000 in
theorem on_ok_i64 (r : Nat) (vb : Value) (pos : Nat) (f : FuncId) (first cap : Array Value) (Q : Value → World → Prop) (w : World) (hR : Rd w r vb pos 0)
    (hent : ∀ (args : Array Value) (w : World), (callFunc f args).run Try.prog w = .ok (.enter f args) w)
    (hcall : ∀ w2, w.grownBy w2 none → Calls Try.prog f (first ++ cap) w2 fun e w3 => ∃ v, e = .returned v ∧ Q v w3 ∧ w2.grownBy w3 (some r)) :
    Calls Try.prog 73 #[.pointer (some ⟨r, 0, none⟩), .func (.func f) first cap] w fun e w' => ∃ v, e = .returned v ∧ Q v w' ∧ w.grownBy w' (some r) := by
  have hmf : ∀ (fn : Fn) (first cap : Array Value) (w : World), (Instr.makeFunc fn first cap).run Try.prog w = .ok (.func fn first cap) w := fun _ _ _ _ => rfl
  have hlt := hR.lt
  have h2 := hR.at
  have hg0 : w.grownBy ((w.alloc (.cells #[.pointer (some ⟨r, 0, none⟩)] 58)).alloc (.cells #[.int .i64 (pos : Int)] 3)) none := galloc (World.grownBy_alloc w _ _) _
  have hR0 : Rd (w.alloc (.cells #[.pointer (some ⟨r, 0, none⟩)] 58)) r vb pos 0 := hR.kept (World.grownBy_alloc w _ none) (by simp)
  have hc := hcall _ hg0
  clear hcall
  go_enter_defers Try.func73, Try.ntmps73
  go_wp2_with (go_at_call 48; refine (err_rd _ _ _ _ _ hR0).mono ?_; rintro e w' ⟨rfl, rfl⟩)
  refine hc.mono ?_
  rintro e w3 ⟨v, rfl, hq, hg⟩
  go_wp2
  refine leaves_cons (f := 101) (args := #[.pointer (some ⟨w.heap.size + 1, 0, none⟩), .pointer (some ⟨w.heap.size, 0, none⟩)]) (by simp) (by simp [go_sem]) ?_
  refine (catch_idle_i64 _ _ _).mono ?_
  rintro e u' w'' ⟨rfl, rfl, rfl⟩
  refine ⟨_, results_tmp rfl _ _ _, ?_⟩
  exact ⟨v, rfl, hq, gnew (hg0.but _) hg (fun r' e => .inr e)⟩

set_option maxHeartbeats 1000000 in
theorem on_bad_i64 (r : Nat) (vb : Value) (pos : Nat) (x : Int) (f : FuncId) (first cap : Array Value) (w : World) (hR : Rd w r vb pos 0)
    (hent : ∀ (args : Array Value) (w : World), (callFunc f args).run Try.prog w = .ok (.enter f args) w)
    (hcall : ∀ w2, w.grownBy w2 none → Calls Try.prog f (first ++ cap) w2 fun e w3 => ∃ p, e = .panicked [{ v := .iface 131 (.int .i64 x), recovered := false }] ∧ w2.grownBy w3 (some r) ∧ Rd w3 r vb p 0) :
    Calls Try.prog 73 #[.pointer (some ⟨r, 0, none⟩), .func (.func f) first cap] w fun e w' => e = .returned (.int .i64 0) ∧ w.grownBy w' (some r) ∧ Rd w' r vb pos x := by
  have hmf : ∀ (fn : Fn) (first cap : Array Value) (w : World), (Instr.makeFunc fn first cap).run Try.prog w = .ok (.func fn first cap) w := fun _ _ _ _ => rfl
  have hlt := hR.lt
  have h2 := hR.at
  have hg0 : w.grownBy ((w.alloc (.cells #[.pointer (some ⟨r, 0, none⟩)] 58)).alloc (.cells #[.int .i64 (pos : Int)] 3)) none := galloc (World.grownBy_alloc w _ _) _
  have hR0 : Rd (w.alloc (.cells #[.pointer (some ⟨r, 0, none⟩)] 58)) r vb pos 0 := hR.kept (World.grownBy_alloc w _ none) (by simp)
  have hc := hcall _ hg0
  clear hcall
  go_enter_defers Try.func73, Try.ntmps73
  go_wp2_with (go_at_call 48; refine (err_rd _ _ _ _ _ hR0).mono ?_; rintro e w' ⟨rfl, rfl⟩)
  refine hc.mono ?_
  rintro e w3 ⟨p, rfl, hg, hR3⟩
  have hb1 : w3.cell? ⟨w.heap.size + 1, 0, none⟩ = some (.int .i64 (pos : Int)) := hg.cell (by simp [go_sem]) (by simp; omega)
  have hb2 : w3.cell? ⟨w.heap.size, 0, none⟩ = some (.pointer (some ⟨r, 0, none⟩)) := hg.cell (by simp [go_sem]) (by simp; omega)
  go_wp2
  refine leaves_cons (f := 101) (args := #[.pointer (some ⟨w.heap.size + 1, 0, none⟩), .pointer (some ⟨w.heap.size, 0, none⟩)]) (by simp) (by simp [go_sem]) ?_
  refine (catch_fault_i64 _ _ r vb pos p 0 x [] w3 hR3 hb1 hb2).mono ?_
  rintro e u' w'' ⟨rfl, rfl, rfl⟩
  simp only [settle]
  exact ⟨_, results_tmp rfl _ _ _, rfl, gset (gset (gnew (hg0.but _) hg (fun r' e => .inr e)) _ _) _ _, (hR3.setAt pos).setErr x⟩

set_option maxHeartbeats 1000000 in
theorem on_err_i64 (r : Nat) (vb : Value) (pos : Nat) (er : Int) (fv : Value) (w : World) (hR : Rd w r vb pos er) (he : er ≠ 0) :
    Calls Try.prog 73 #[.pointer (some ⟨r, 0, none⟩), fv] w fun e w' => e = .returned (.int .i64 0) ∧ w.grownBy w' none := by
  have hR0 : Rd (w.alloc (.cells #[.pointer (some ⟨r, 0, none⟩)] 58)) r vb pos er := hR.kept (World.grownBy_alloc w _ none) (by simp)
  have hne : (er != 0) = true := by simpa using he
  clear he
  go_enter_defers Try.func73, Try.ntmps73
  go_wp2_with (go_at_call 48; refine (err_rd _ _ _ _ _ hR0).mono ?_; rintro e w' ⟨rfl, rfl⟩)
  exact ⟨_, results_tmp rfl _ _ _, rfl, World.grownBy_alloc w _ _⟩
set_option maxHeartbeats 1000000 in
theorem catch_idle_bs (p q : Addr) (w : World) :
    CallsD Try.prog 102 #[.pointer (some p), .pointer (some q)] .returning w fun e u' w' => e = .returned (.tuple #[]) ∧ u' = .returning ∧ w' = w := by
  refine callsD_of_wpS Try.func102 rfl fun c₀ cs hu => ?_
  simp only [Try.ntmps102, List.size_toArray, List.length_cons, List.length_nil, Nat.reduceAdd, Nat.reduceSub, Array.replicate_succ, Array.replicate_zero, List.push_toArray, List.append_toArray, List.nil_append, List.cons_append]
  apply wpS_seq
  apply wpS_region
  simp [wpOpsS, go_sem, recoverD, hu, Exit.thenS]
  refine wpS_of_wp ?_
  go_wp2
  cases c₀
  simp_all [bodyPostS, results, Try.results102]

set_option maxHeartbeats 1000000 in
theorem catch_fault_bs (bp bq r : Nat) (vb : Value) (pos p' : Nat) (er x : Int) (older : List PanicEntry) (w : World) (hR : Rd w r vb p' er)
    (hp : w.cell? ⟨bp, 0, none⟩ = some (.int .i64 (pos : Int))) (hq : w.cell? ⟨bq, 0, none⟩ = some (.pointer (some ⟨r, 0, none⟩))) :
    CallsD Try.prog 102 #[.pointer (some ⟨bp, 0, none⟩), .pointer (some ⟨bq, 0, none⟩)] (.panicking ({ v := .iface 131 (.int .i64 x), recovered := false } :: older)) w fun e u' w' =>
      e = .returned (.tuple #[]) ∧ u' = .panicking ({ v := .iface 131 (.int .i64 x), recovered := true } :: older) ∧ w' = (w.setCell ⟨r, 2, none⟩ (.int .i64 (pos : Int))).setCell ⟨r, 3, none⟩ (.int .i64 x) := by
  have h2 := hR.at
  have h3 := hR.err
  have f2 := hR.free 2
  have f3 := hR.free 3
  have hta := assert_fault
  refine callsD_of_wpS Try.func102 rfl fun c₀ cs hu => ?_
  simp only [Try.ntmps102, List.size_toArray, List.length_cons, List.length_nil, Nat.reduceAdd, Nat.reduceSub, Array.replicate_succ, Array.replicate_zero, List.push_toArray, List.append_toArray, List.nil_append, List.cons_append]
  apply wpS_seq
  apply wpS_region
  simp [wpOpsS, go_sem, recoverD, hu, Exit.thenS]
  refine wpS_of_wp ?_
  go_wp2
  cases c₀
  simp_all [bodyPostS, results, Try.results102]

set_option maxHeartbeats 1000000 in
theorem on_ok_bs (r : Nat) (vb : Value) (pos : Nat) (f : FuncId) (first cap : Array Value) (Q : Value → World → Prop) (w : World) (hR : Rd w r vb pos 0)
    (hent : ∀ (args : Array Value) (w : World), (callFunc f args).run Try.prog w = .ok (.enter f args) w)
    (hcall : ∀ w2, w.grownBy w2 none → Calls Try.prog f (first ++ cap) w2 fun e w3 => ∃ v, e = .returned v ∧ Q v w3 ∧ w2.grownBy w3 (some r)) :
    Calls Try.prog 77 #[.pointer (some ⟨r, 0, none⟩), .func (.func f) first cap] w fun e w' => ∃ v, e = .returned v ∧ Q v w' ∧ w.grownBy w' (some r) := by
  have hmf : ∀ (fn : Fn) (first cap : Array Value) (w : World), (Instr.makeFunc fn first cap).run Try.prog w = .ok (.func fn first cap) w := fun _ _ _ _ => rfl
  have hlt := hR.lt
  have h2 := hR.at
  have hg0 : w.grownBy ((w.alloc (.cells #[.pointer (some ⟨r, 0, none⟩)] 58)).alloc (.cells #[.int .i64 (pos : Int)] 3)) none := galloc (World.grownBy_alloc w _ _) _
  have hR0 : Rd (w.alloc (.cells #[.pointer (some ⟨r, 0, none⟩)] 58)) r vb pos 0 := hR.kept (World.grownBy_alloc w _ none) (by simp)
  have hc := hcall _ hg0
  clear hcall
  go_enter_defers Try.func77, Try.ntmps77
  go_wp2_with (go_at_call 48; refine (err_rd _ _ _ _ _ hR0).mono ?_; rintro e w' ⟨rfl, rfl⟩)
  refine hc.mono ?_
  rintro e w3 ⟨v, rfl, hq, hg⟩
  go_wp2
  refine leaves_cons (f := 102) (args := #[.pointer (some ⟨w.heap.size + 1, 0, none⟩), .pointer (some ⟨w.heap.size, 0, none⟩)]) (by simp) (by simp [go_sem]) ?_
  refine (catch_idle_bs _ _ _).mono ?_
  rintro e u' w'' ⟨rfl, rfl, rfl⟩
  refine ⟨_, results_tmp rfl _ _ _, ?_⟩
  exact ⟨v, rfl, hq, gnew (hg0.but _) hg (fun r' e => .inr e)⟩

set_option maxHeartbeats 1000000 in
theorem on_bad_bs (r : Nat) (vb : Value) (pos : Nat) (x : Int) (f : FuncId) (first cap : Array Value) (w : World) (hR : Rd w r vb pos 0)
    (hent : ∀ (args : Array Value) (w : World), (callFunc f args).run Try.prog w = .ok (.enter f args) w)
    (hcall : ∀ w2, w.grownBy w2 none → Calls Try.prog f (first ++ cap) w2 fun e w3 => ∃ p, e = .panicked [{ v := .iface 131 (.int .i64 x), recovered := false }] ∧ w2.grownBy w3 (some r) ∧ Rd w3 r vb p 0) :
    Calls Try.prog 77 #[.pointer (some ⟨r, 0, none⟩), .func (.func f) first cap] w fun e w' => e = .returned (.slice none 0 0) ∧ w.grownBy w' (some r) ∧ Rd w' r vb pos x := by
  have hmf : ∀ (fn : Fn) (first cap : Array Value) (w : World), (Instr.makeFunc fn first cap).run Try.prog w = .ok (.func fn first cap) w := fun _ _ _ _ => rfl
  have hlt := hR.lt
  have h2 := hR.at
  have hg0 : w.grownBy ((w.alloc (.cells #[.pointer (some ⟨r, 0, none⟩)] 58)).alloc (.cells #[.int .i64 (pos : Int)] 3)) none := galloc (World.grownBy_alloc w _ _) _
  have hR0 : Rd (w.alloc (.cells #[.pointer (some ⟨r, 0, none⟩)] 58)) r vb pos 0 := hR.kept (World.grownBy_alloc w _ none) (by simp)
  have hc := hcall _ hg0
  clear hcall
  go_enter_defers Try.func77, Try.ntmps77
  go_wp2_with (go_at_call 48; refine (err_rd _ _ _ _ _ hR0).mono ?_; rintro e w' ⟨rfl, rfl⟩)
  refine hc.mono ?_
  rintro e w3 ⟨p, rfl, hg, hR3⟩
  have hb1 : w3.cell? ⟨w.heap.size + 1, 0, none⟩ = some (.int .i64 (pos : Int)) := hg.cell (by simp [go_sem]) (by simp; omega)
  have hb2 : w3.cell? ⟨w.heap.size, 0, none⟩ = some (.pointer (some ⟨r, 0, none⟩)) := hg.cell (by simp [go_sem]) (by simp; omega)
  go_wp2
  refine leaves_cons (f := 102) (args := #[.pointer (some ⟨w.heap.size + 1, 0, none⟩), .pointer (some ⟨w.heap.size, 0, none⟩)]) (by simp) (by simp [go_sem]) ?_
  refine (catch_fault_bs _ _ r vb pos p 0 x [] w3 hR3 hb1 hb2).mono ?_
  rintro e u' w'' ⟨rfl, rfl, rfl⟩
  simp only [settle]
  exact ⟨_, results_tmp rfl _ _ _, rfl, gset (gset (gnew (hg0.but _) hg (fun r' e => .inr e)) _ _) _ _, (hR3.setAt pos).setErr x⟩

set_option maxHeartbeats 1000000 in
theorem on_err_bs (r : Nat) (vb : Value) (pos : Nat) (er : Int) (fv : Value) (w : World) (hR : Rd w r vb pos er) (he : er ≠ 0) :
    Calls Try.prog 77 #[.pointer (some ⟨r, 0, none⟩), fv] w fun e w' => e = .returned (.slice none 0 0) ∧ w.grownBy w' none := by
  have hR0 : Rd (w.alloc (.cells #[.pointer (some ⟨r, 0, none⟩)] 58)) r vb pos er := hR.kept (World.grownBy_alloc w _ none) (by simp)
  have hne : (er != 0) = true := by simpa using he
  clear he
  go_enter_defers Try.func77, Try.ntmps77
  go_wp2_with (go_at_call 48; refine (err_rd _ _ _ _ _ hR0).mono ?_; rintro e w' ⟨rfl, rfl⟩)
  exact ⟨_, results_tmp rfl _ _ _, rfl, World.grownBy_alloc w _ _⟩
set_option maxHeartbeats 1000000 in
theorem catch_idle_bss (p q : Addr) (w : World) :
    CallsD Try.prog 104 #[.pointer (some p), .pointer (some q)] .returning w fun e u' w' => e = .returned (.tuple #[]) ∧ u' = .returning ∧ w' = w := by
  refine callsD_of_wpS Try.func104 rfl fun c₀ cs hu => ?_
  simp only [Try.ntmps104, List.size_toArray, List.length_cons, List.length_nil, Nat.reduceAdd, Nat.reduceSub, Array.replicate_succ, Array.replicate_zero, List.push_toArray, List.append_toArray, List.nil_append, List.cons_append]
  apply wpS_seq
  apply wpS_region
  simp [wpOpsS, go_sem, recoverD, hu, Exit.thenS]
  refine wpS_of_wp ?_
  go_wp2
  cases c₀
  simp_all [bodyPostS, results, Try.results104]

set_option maxHeartbeats 1000000 in
theorem catch_fault_bss (bp bq r : Nat) (vb : Value) (pos p' : Nat) (er x : Int) (older : List PanicEntry) (w : World) (hR : Rd w r vb p' er)
    (hp : w.cell? ⟨bp, 0, none⟩ = some (.int .i64 (pos : Int))) (hq : w.cell? ⟨bq, 0, none⟩ = some (.pointer (some ⟨r, 0, none⟩))) :
    CallsD Try.prog 104 #[.pointer (some ⟨bp, 0, none⟩), .pointer (some ⟨bq, 0, none⟩)] (.panicking ({ v := .iface 131 (.int .i64 x), recovered := false } :: older)) w fun e u' w' =>
      e = .returned (.tuple #[]) ∧ u' = .panicking ({ v := .iface 131 (.int .i64 x), recovered := true } :: older) ∧ w' = (w.setCell ⟨r, 2, none⟩ (.int .i64 (pos : Int))).setCell ⟨r, 3, none⟩ (.int .i64 x) := by
  have h2 := hR.at
  have h3 := hR.err
  have f2 := hR.free 2
  have f3 := hR.free 3
  have hta := assert_fault
  refine callsD_of_wpS Try.func104 rfl fun c₀ cs hu => ?_
  simp only [Try.ntmps104, List.size_toArray, List.length_cons, List.length_nil, Nat.reduceAdd, Nat.reduceSub, Array.replicate_succ, Array.replicate_zero, List.push_toArray, List.append_toArray, List.nil_append, List.cons_append]
  apply wpS_seq
  apply wpS_region
  simp [wpOpsS, go_sem, recoverD, hu, Exit.thenS]
  refine wpS_of_wp ?_
  go_wp2
  cases c₀
  simp_all [bodyPostS, results, Try.results104]

set_option maxHeartbeats 1000000 in
theorem on_ok_bss (r : Nat) (vb : Value) (pos : Nat) (f : FuncId) (first cap : Array Value) (Q : Value → World → Prop) (w : World) (hR : Rd w r vb pos 0)
    (hent : ∀ (args : Array Value) (w : World), (callFunc f args).run Try.prog w = .ok (.enter f args) w)
    (hcall : ∀ w2, w.grownBy w2 none → Calls Try.prog f (first ++ cap) w2 fun e w3 => ∃ v, e = .returned v ∧ Q v w3 ∧ w2.grownBy w3 (some r)) :
    Calls Try.prog 79 #[.pointer (some ⟨r, 0, none⟩), .func (.func f) first cap] w fun e w' => ∃ v, e = .returned v ∧ Q v w' ∧ w.grownBy w' (some r) := by
  have hmf : ∀ (fn : Fn) (first cap : Array Value) (w : World), (Instr.makeFunc fn first cap).run Try.prog w = .ok (.func fn first cap) w := fun _ _ _ _ => rfl
  have hlt := hR.lt
  have h2 := hR.at
  have hg0 : w.grownBy ((w.alloc (.cells #[.pointer (some ⟨r, 0, none⟩)] 58)).alloc (.cells #[.int .i64 (pos : Int)] 3)) none := galloc (World.grownBy_alloc w _ _) _
  have hR0 : Rd (w.alloc (.cells #[.pointer (some ⟨r, 0, none⟩)] 58)) r vb pos 0 := hR.kept (World.grownBy_alloc w _ none) (by simp)
  have hc := hcall _ hg0
  clear hcall
  go_enter_defers Try.func79, Try.ntmps79
  go_wp2_with (go_at_call 48; refine (err_rd _ _ _ _ _ hR0).mono ?_; rintro e w' ⟨rfl, rfl⟩)
  refine hc.mono ?_
  rintro e w3 ⟨v, rfl, hq, hg⟩
  go_wp2
  refine leaves_cons (f := 104) (args := #[.pointer (some ⟨w.heap.size + 1, 0, none⟩), .pointer (some ⟨w.heap.size, 0, none⟩)]) (by simp) (by simp [go_sem]) ?_
  refine (catch_idle_bss _ _ _).mono ?_
  rintro e u' w'' ⟨rfl, rfl, rfl⟩
  refine ⟨_, results_tmp rfl _ _ _, ?_⟩
  exact ⟨v, rfl, hq, gnew (hg0.but _) hg (fun r' e => .inr e)⟩

set_option maxHeartbeats 1000000 in
theorem on_bad_bss (r : Nat) (vb : Value) (pos : Nat) (x : Int) (f : FuncId) (first cap : Array Value) (w : World) (hR : Rd w r vb pos 0)
    (hent : ∀ (args : Array Value) (w : World), (callFunc f args).run Try.prog w = .ok (.enter f args) w)
    (hcall : ∀ w2, w.grownBy w2 none → Calls Try.prog f (first ++ cap) w2 fun e w3 => ∃ p, e = .panicked [{ v := .iface 131 (.int .i64 x), recovered := false }] ∧ w2.grownBy w3 (some r) ∧ Rd w3 r vb p 0) :
    Calls Try.prog 79 #[.pointer (some ⟨r, 0, none⟩), .func (.func f) first cap] w fun e w' => e = .returned (.slice none 0 0) ∧ w.grownBy w' (some r) ∧ Rd w' r vb pos x := by
  have hmf : ∀ (fn : Fn) (first cap : Array Value) (w : World), (Instr.makeFunc fn first cap).run Try.prog w = .ok (.func fn first cap) w := fun _ _ _ _ => rfl
  have hlt := hR.lt
  have h2 := hR.at
  have hg0 : w.grownBy ((w.alloc (.cells #[.pointer (some ⟨r, 0, none⟩)] 58)).alloc (.cells #[.int .i64 (pos : Int)] 3)) none := galloc (World.grownBy_alloc w _ _) _
  have hR0 : Rd (w.alloc (.cells #[.pointer (some ⟨r, 0, none⟩)] 58)) r vb pos 0 := hR.kept (World.grownBy_alloc w _ none) (by simp)
  have hc := hcall _ hg0
  clear hcall
  go_enter_defers Try.func79, Try.ntmps79
  go_wp2_with (go_at_call 48; refine (err_rd _ _ _ _ _ hR0).mono ?_; rintro e w' ⟨rfl, rfl⟩)
  refine hc.mono ?_
  rintro e w3 ⟨p, rfl, hg, hR3⟩
  have hb1 : w3.cell? ⟨w.heap.size + 1, 0, none⟩ = some (.int .i64 (pos : Int)) := hg.cell (by simp [go_sem]) (by simp; omega)
  have hb2 : w3.cell? ⟨w.heap.size, 0, none⟩ = some (.pointer (some ⟨r, 0, none⟩)) := hg.cell (by simp [go_sem]) (by simp; omega)
  go_wp2
  refine leaves_cons (f := 104) (args := #[.pointer (some ⟨w.heap.size + 1, 0, none⟩), .pointer (some ⟨w.heap.size, 0, none⟩)]) (by simp) (by simp [go_sem]) ?_
  refine (catch_fault_bss _ _ r vb pos p 0 x [] w3 hR3 hb1 hb2).mono ?_
  rintro e u' w'' ⟨rfl, rfl, rfl⟩
  simp only [settle]
  exact ⟨_, results_tmp rfl _ _ _, rfl, gset (gset (gnew (hg0.but _) hg (fun r' e => .inr e)) _ _) _ _, (hR3.setAt pos).setErr x⟩

set_option maxHeartbeats 1000000 in
theorem on_err_bss (r : Nat) (vb : Value) (pos : Nat) (er : Int) (fv : Value) (w : World) (hR : Rd w r vb pos er) (he : er ≠ 0) :
    Calls Try.prog 79 #[.pointer (some ⟨r, 0, none⟩), fv] w fun e w' => e = .returned (.slice none 0 0) ∧ w.grownBy w' none := by
  have hR0 : Rd (w.alloc (.cells #[.pointer (some ⟨r, 0, none⟩)] 58)) r vb pos er := hR.kept (World.grownBy_alloc w _ none) (by simp)
  have hne : (er != 0) = true := by simpa using he
  clear he
  go_enter_defers Try.func79, Try.ntmps79
  go_wp2_with (go_at_call 48; refine (err_rd _ _ _ _ _ hR0).mono ?_; rintro e w' ⟨rfl, rfl⟩)
  exact ⟨_, results_tmp rfl _ _ _, rfl, World.grownBy_alloc w _ _⟩
end Go.Proofs.Ytilbccjgaaembaa
