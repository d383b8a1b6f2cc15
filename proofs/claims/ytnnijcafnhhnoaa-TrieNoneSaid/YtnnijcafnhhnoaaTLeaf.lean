/-
  LAYER 9 (trie): leaves: which code points may be, the counter, nodes.
-/
import Derived.Test.YtnnijcafnhhnoaaTBase
import Derived.WalkKit
import Derived.WalkLawsBesides
import Derived.WalkSpells
import Derived.BigQuiet
import Derived.Laws.Pointers
import Derived.Laws.LoneSync
import Derived.Deep.RegionWith
namespace Go.Proofs.Ytnnijcafnhhnoaa
set_option maxRecDepth 100000
open Go.RowKit Go.Lib
attribute [local go_sem] Oper.semAt_some

def scal (r : Int) : Bool := decide (0 ≤ r ∧ r < 55296 ∨ 57343 < r ∧ r ≤ 1114111)
set_option maxHeartbeats 1000000 in
theorem scal_utf (r : Int) (w : World) : Calls Try.prog 63 #[.int .i32 r] w fun e w' => e = .returned (.bool (scal r)) ∧ w = w' := by
  by_cases h1 : 0 ≤ r
  all_goals by_cases h2 : r < 55296
  all_goals by_cases h3 : 57343 < r
  all_goals by_cases h4 : r ≤ 1114111
  all_goals (try omega)
  all_goals
    go_enter Try.func63, Try.ntmps63
    go_wp2
  all_goals
    go_ret
    simp [scal, *]
set_option maxHeartbeats 1000000 in
theorem scal_ref (r : Int) (w : World) : Calls Try.prog 28 #[.int .i32 r] w fun e w' => e = .returned (.bool (scal r)) ∧ w = w' := by
  by_cases h1 : 0 ≤ r
  all_goals by_cases h2 : r < 55296
  all_goals by_cases h3 : 57343 < r
  all_goals by_cases h4 : r ≤ 1114111
  all_goals (try omega)
  all_goals
    go_enter Try.func28, Try.ntmps28
    go_wp2
  all_goals
    go_ret
    simp [scal, *]
theorem isNone_any (r : Int) (w : World) : Calls Try.prog 52 #[.int .i32 r] w fun e w' => e = .returned (.bool (!scal r)) ∧ w.grownBy w' none := by
  have hS := fun w => scal_utf r w
  generalize scal r = b at hS ⊢
  go_enter Try.func52, Try.ntmps52
  go_wp2_with (go_at_call 63; refine (hS _).mono ?_; rintro e w' ⟨rfl, rfl⟩)
  go_ret
  exact ⟨rfl, World.grownBy.refl _ _⟩

/-- A node in memory. -/
def NodeAt (w : World) (b : Nat) (nm : Int) (m : Option Nat) : Prop := w.heap[b]? = some (.cells #[.int .i64 nm, .map m] 80 (0, 0))
section
variable {w w' : World} {b : Nat} {nm : Int} {m : Option Nat}
theorem NodeAt.c0 (h : NodeAt w b nm m) : w.cell? ⟨b, 0, none⟩ = some (.int .i64 nm) := by simp [World.cell?, show _ = _ from h]
theorem NodeAt.c1 (h : NodeAt w b nm m) : w.cell? ⟨b, 1, none⟩ = some (.map m) := by simp [World.cell?, show _ = _ from h]
theorem NodeAt.free (h : NodeAt w b nm m) (o : Nat) : w.frozen? ⟨b, o, none⟩ = false := by simp [World.frozen?, show _ = _ from h]
theorem NodeAt.lt (h : NodeAt w b nm m) : b < w.heap.size := lt_of_block h
theorem NodeAt.s0 (h : NodeAt w b nm m) (x : Int) : NodeAt (w.setCell ⟨b, 0, none⟩ (.int .i64 x)) b x m := heap_setCell_same w b 0 _ _ _ h
theorem NodeAt.s1 (h : NodeAt w b nm m) (x : Option Nat) : NodeAt (w.setCell ⟨b, 1, none⟩ (.map x)) b nm x := heap_setCell_same w b 1 _ _ _ h
end
theorem newNode_any (w : World) : Calls Try.prog 26 #[] w fun e w' => e = .returned (.pointer (some ⟨w.heap.size, 0, none⟩)) ∧ NodeAt w' w.heap.size (-1) none ∧ w.grownBy w' none ∧ w'.heap.size = w.heap.size + 1 := by
  have h0 : NodeAt (w.alloc (.cells #[.int .i64 (-1), .map none] 80)) w.heap.size (-1) none := World.alloc_heap_new w _
  have h1 := World.grownBy_alloc w (.cells #[.int .i64 (-1), .map none] 80) none
  go_enter Try.func26, Try.ntmps26
  go_wp2
  go_ret
  exact ⟨rfl, h0, h1, by simp⟩
theorem ends_any (b : Nat) (nm : Int) (m : Option Nat) (w : World) (h : NodeAt w b nm m) : Calls Try.prog 33 #[.pointer (some ⟨b, 0, none⟩)] w fun e w' => e = .returned (.bool (nm != -1)) ∧ w = w' := by
  have c0 := h.c0
  clear h
  go_enter Try.func33, Try.ntmps33
  go_wp2
  go_ret
  exact ⟨rfl, rfl⟩

/-- A trie in memory: root, entries, the counter. -/
def TrAt (w : World) (t : Nat) (po : Option Addr) (ve : Value) (n : Int) : Prop := w.heap[t]? = some (.cells #[.pointer po, ve, .int .i64 n] 62 (0, 0))
section
variable {w w' : World} {t : Nat} {po : Option Addr} {ve : Value} {n : Int}
theorem TrAt.c0 (h : TrAt w t po ve n) : w.cell? ⟨t, 0, none⟩ = some (.pointer po) := by simp [World.cell?, show _ = _ from h]
theorem TrAt.c1 (h : TrAt w t po ve n) : w.cell? ⟨t, 1, none⟩ = some ve := by simp [World.cell?, show _ = _ from h]
theorem TrAt.c2 (h : TrAt w t po ve n) : w.cell? ⟨t, 2, none⟩ = some (.int .i64 n) := by simp [World.cell?, show _ = _ from h]
theorem TrAt.free (h : TrAt w t po ve n) (o : Nat) : w.frozen? ⟨t, o, none⟩ = false := by simp [World.frozen?, show _ = _ from h]
theorem TrAt.lt (h : TrAt w t po ve n) : t < w.heap.size := lt_of_block h
theorem TrAt.s1 (h : TrAt w t po ve n) (v : Value) : TrAt (w.setCell ⟨t, 1, none⟩ v) t po v n := heap_setCell_same w t 1 _ _ _ h
theorem TrAt.s2 (h : TrAt w t po ve n) (x : Int) : TrAt (w.setCell ⟨t, 2, none⟩ (.int .i64 x)) t po ve x := heap_setCell_same w t 2 _ _ _ h
end
theorem isMade_nil (w : World) : Calls Try.prog 30 #[.pointer none] w fun e w' => e = .returned (.bool false) ∧ w = w' := by
  go_enter Try.func30, Try.ntmps30
  go_wp2
  go_ret
  exact ⟨rfl, rfl⟩
theorem isMade_zero (t : Nat) (ve : Value) (n : Int) (w : World) (h : TrAt w t none ve n) : Calls Try.prog 30 #[.pointer (some ⟨t, 0, none⟩)] w fun e w' => e = .returned (.bool false) ∧ w = w' := by
  have c0 := h.c0
  clear h
  go_enter Try.func30, Try.ntmps30
  go_wp2
  go_ret
  exact ⟨rfl, rfl⟩
theorem isMade_made (t rt : Nat) (ve : Value) (n : Int) (w : World) (h : TrAt w t (some ⟨rt, 0, none⟩) ve n) : Calls Try.prog 30 #[.pointer (some ⟨t, 0, none⟩)] w fun e w' => e = .returned (.bool true) ∧ w = w' := by
  have c0 := h.c0
  clear h
  go_enter Try.func30, Try.ntmps30
  go_wp2
  go_ret
  exact ⟨rfl, rfl⟩

/-- Nobody made it. -/
def NonePtr (W : World) (po : Option Addr) : Prop := po = none ∨ ∃ z ve n, po = some ⟨z, 0, none⟩ ∧ TrAt W z none ve n
theorem isMade_nobody (po : Option Addr) (w : World) (h : NonePtr w po) : Calls Try.prog 30 #[.pointer po] w fun e w' => e = .returned (.bool false) ∧ w = w' := by
  rcases h with rfl | ⟨z, ve, n, rfl, h0⟩
  · exact isMade_nil w
  · exact isMade_zero z ve n w h0
theorem count_nobody (po : Option Addr) (w : World) (h : NonePtr w po) : Calls Try.prog 31 #[.pointer po] w fun e w' => e = .returned (.tuple #[]) ∧ w = w' := by
  have hm := isMade_nobody po w h
  clear h
  go_enter Try.func31, Try.ntmps31
  go_wp2_with (go_at_call 30; refine hm.mono ?_; rintro e w' ⟨rfl, rfl⟩)
  go_end0
  exact ⟨rfl, rfl⟩
theorem len_nobody (po : Option Addr) (w : World) (h : NonePtr w po) : Calls Try.prog 11 #[.pointer po] w fun e w' => e = .returned (.int .i64 0) ∧ w = w' := by
  have hm := isMade_nobody po w h
  clear h
  go_enter Try.func11, Try.ntmps11
  go_wp2_with (go_at_call 30; refine hm.mono ?_; rintro e w' ⟨rfl, rfl⟩)
  go_ret
  exact ⟨rfl, rfl⟩
theorem asked_nobody (po : Option Addr) (w : World) (h : NonePtr w po) : Calls Try.prog 15 #[.pointer po] w fun e w' => e = .returned (.int .i64 0) ∧ w = w' := by
  have hm := isMade_nobody po w h
  clear h
  go_enter Try.func15, Try.ntmps15
  go_wp2_with (go_at_call 30; refine hm.mono ?_; rintro e w' ⟨rfl, rfl⟩)
  go_ret
  exact ⟨rfl, rfl⟩

/-- The counter. -/
theorem add_any (t : Nat) (po : Option Addr) (ve : Value) (n : Int) (w : World) (h : TrAt w t po ve n) (h0 : 0 ≤ n) (h1 : n < 4611686018427387904) :
    Calls Try.prog 45 #[.pointer (some ⟨t, 2, none⟩), .int .i64 1] w fun e w' => e = .returned (.int .i64 (n + 1)) ∧ w' = w.setCell ⟨t, 2, none⟩ (.int .i64 (n + 1)) := by
  have c2 := h.c2
  have f2 := h.free 2
  have hr : (callFunc 56 #[.pointer (some ⟨t, 2, none⟩), .int .i64 1]).run Try.prog w = .ok (.value (.int .i64 (n + 1))) (w.setCell ⟨t, 2, none⟩ (.int .i64 (n + 1))) := by
    refine run_call_add Try.func56 (by kernel_rfl) (by kernel_rfl) (by kernel_rfl) .i64 (by kernel_rfl) c2 f2 ?_
    simp [Op.intArith, IntKind.wrap, go_sem]
    omega
  clear h
  go_enter Try.func45, Try.ntmps45
  go_wp2
  go_ret
  exact ⟨rfl, rfl⟩
end Go.Proofs.Ytnnijcafnhhnoaa
