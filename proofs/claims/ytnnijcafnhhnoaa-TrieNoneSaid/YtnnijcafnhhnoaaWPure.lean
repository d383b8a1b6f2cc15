
/-
  LAYER 7 (weight): THE PLAIN SIDE: elements, which may be, levels, how they compare.
-/
import Derived.Test.YtnnijcafnhhnoaaCBase
import Derived.RangeFuncRecord
namespace Go.Proofs.Ytnnijcafnhhnoaa
set_option maxRecDepth 100000
open Go.RowKit Go.Lib

/-- An element. -/
structure El where
  p : Int
  s : Int
  t : Int
  v : Bool
def El.agg (x : El) : Value := .agg #[.int .i64 x.p, .int .i64 x.s, .int .i64 x.t, .bool x.v]
def elNone : El := ⟨0, 0, 0, false⟩

def elLim (x : El) : Bool := decide (0 ≤ x.p) && decide (x.p < 64256) && decide (0 ≤ x.s) && decide (x.s ≤ 511) && decide (0 ≤ x.t) && decide (x.t ≤ 63)
def elLevel (x : El) : Int := if x.p = 0 then (if x.s = 0 then (if x.t = 0 then 0 else 3) else 2) else 1
def elDown (x : El) : Bool := if x.p = 0 then (if x.s = 0 then !x.v else decide (x.t ≠ 0) && !x.v) else decide (x.s ≠ 0) && decide (x.t ≠ 0)
def elOk (x : El) : Bool := elLim x && elDown x
def elCheck (x : El) : Int := if elOk x = true then 0 else 70
def sgn (a b : Int) : Int := if a < b then -1 else if b < a then 1 else 0
def elCmp (x y : El) : Int := if sgn x.p y.p = 0 then (if sgn x.s y.s = 0 then sgn x.t y.t else sgn x.s y.s) else sgn x.p y.p

theorem sgn_neg (a b : Int) : sgn b a = -sgn a b := by unfold sgn; split <;> split <;> (try split) <;> omega
theorem elCmp_neg (x y : El) : elCmp y x = -elCmp x y := by
  unfold elCmp
  rw [sgn_neg x.p y.p, sgn_neg x.s y.s, sgn_neg x.t y.t]
  split <;> split <;> (try split) <;> (try split) <;> omega

/-- The block of an element in a box. -/
def ElAt (w : World) (q : Nat) (x : El) : Prop := w.heap[q]? = some (.cells #[.int .i64 x.p, .int .i64 x.s, .int .i64 x.t, .bool x.v] 66 (0, 0))
section
variable {w : World} {q : Nat} {x : El}
theorem ElAt.c0 (h : ElAt w q x) : w.cell? ⟨q, 0, none⟩ = some (.int .i64 x.p) := by simp [World.cell?, show _ = _ from h]
theorem ElAt.c1 (h : ElAt w q x) : w.cell? ⟨q, 1, none⟩ = some (.int .i64 x.s) := by simp [World.cell?, show _ = _ from h]
theorem ElAt.c2 (h : ElAt w q x) : w.cell? ⟨q, 2, none⟩ = some (.int .i64 x.t) := by simp [World.cell?, show _ = _ from h]
theorem ElAt.c3 (h : ElAt w q x) : w.cell? ⟨q, 3, none⟩ = some (.bool x.v) := by simp [World.cell?, show _ = _ from h]
theorem ElAt.free (h : ElAt w q x) (o : Nat) : w.frozen? ⟨q, o, none⟩ = false := by simp [World.frozen?, show _ = _ from h]
theorem ElAt.lt (h : ElAt w q x) : q < w.heap.size := lt_of_block h
theorem ElAt.new (w : World) (x : El) : ElAt (w.alloc (.cells #[.int .i64 x.p, .int .i64 x.s, .int .i64 x.t, .bool x.v] 66)) w.heap.size x := World.alloc_heap_new w _
theorem ElAt.noVar (h : ElAt w q x) : ElAt (w.setCell ⟨q, 3, none⟩ (.bool false)) q ⟨x.p, x.s, x.t, false⟩ := heap_setCell_same w q 3 _ _ _ h
theorem ElAt.kept {w' : World} {row : Option Nat} (h : ElAt w q x) (hg : w.grownBy w' row) (hne : row ≠ some q) : ElAt w' q x := (hg.block q h.lt (fun e => hne e.symm)).trans h
end
end Go.Proofs.Ytnnijcafnhhnoaa
