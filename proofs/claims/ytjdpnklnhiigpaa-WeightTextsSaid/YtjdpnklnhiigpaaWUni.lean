/-
  LAYER 7 (weight): Unified; Implicit of the example.
-/
import Derived.Test.YtjdpnklnhiigpaaWLeaf
import Derived.RangeFuncRecord
namespace Go.Proofs.Ytjdpnklnhiigpaa
set_option maxRecDepth 100000
open Go.RowKit Go.Lib
attribute [local go_sem] Oper.semAt_some

/-- The ranges of ideographs, as cells. -/
def uniCells : Array Value := #[.int .i32 13312, .int .i32 19893, .int .i64 64384, .bool false, .int .i32 19968, .int .i32 40917, .int .i64 64320, .bool false,
  .int .i32 94208, .int .i32 100332, .int .i64 64256, .bool true, .int .i32 131072, .int .i32 173782, .int .i64 64384, .bool false]
def UniAt (w : World) (g : Nat) : Prop := w.heap[g]? = some (.cells uniCells 40 (0, 0))
theorem UniAt.cell {w : World} {g : Nat} (h : UniAt w g) {i : Nat} {v : Value} (hv : uniCells[i]? = some v) : w.cell? ⟨g, i, none⟩ = some v := by
  simp [World.cell?, show _ = _ from h, hv]
theorem UniAt.kept {w w' : World} {g : Nat} {row : Option Nat} (h : UniAt w g) (hg : w.grownBy w' row) (hne : row ≠ some g) : UniAt w' g := (hg.block g (lt_of_block h) (fun e => hne e.symm)).trans h

theorem unified_any (w : World) : Calls Try.prog 17 #[] w fun e w' => e = .returned (.slice (some ⟨w.heap.size, 0, none⟩) 4 4) ∧ UniAt w' w.heap.size ∧ w.grownBy w' none := by
  go_enter Try.func17, Try.ntmps17
  go_wp2
  go_ret
  exact ⟨rfl, World.alloc_heap_new w _, World.grownBy_alloc w _ none⟩

/-- A range's closure. -/
theorem holds_any (r : Nat) (x f t : Int) (b : Int) (wh : Bool) (w : World) (hr : w.cell? ⟨r, 0, none⟩ = some (.int .i32 x)) :
    Calls Try.prog 36 #[.agg #[.int .i32 f, .int .i32 t, .int .i64 b, .bool wh], .pointer (some ⟨r, 0, none⟩)] w fun e w' => e = .returned (.bool (decide (f ≤ x) && decide (x ≤ t))) ∧ w.grownBy w' none := by
  have hr2 := (World.grownBy_alloc w (.cells #[.int .i32 f, .int .i32 t, .int .i64 b, .bool wh] 40) none).cell hr (by simp)
  by_cases h1 : f ≤ x
  all_goals by_cases h2 : x ≤ t
  all_goals
    go_enter Try.func36, Try.ntmps36
    go_wp2
    go_ret
    exact ⟨by simp [*], World.grownBy_alloc w _ none⟩

set_option maxHeartbeats 2000000 in
theorem index_uni (r g : Nat) (w : World) (hr : w.cell? ⟨r, 0, none⟩ = some (.int .i32 19968)) (hU : UniAt w g) :
    Calls Try.prog 35 #[.slice (some ⟨g, 0, none⟩) 4 4, .func (.func 36) #[] #[.pointer (some ⟨r, 0, none⟩)]] w fun e w' => e = .returned (.int .i64 1) ∧ w.grownBy w' none := by
  have H0 := fun w h => holds_any r 19968 13312 19893 64384 false w h
  have H1 := fun w h => holds_any r 19968 19968 40917 64320 false w h
  rw [show (decide ((13312 : Int) ≤ 19968) && decide ((19968 : Int) ≤ 19893)) = false by decide] at H0
  rw [show (decide ((19968 : Int) ≤ 19968) && decide ((19968 : Int) ≤ 40917)) = true by decide] at H1
  go_enter Try.func35, Try.ntmps35
  go_wp2
  go_loopw [5, 8] (fun _ vi wr => ∃ k : Nat, k ≤ 1 ∧ vi = .int .i64 (k : Int) ∧ Hid (w.grownBy wr none)) (fun _ vi _ => 2 - (RowKit.intOf vi).toNat)
  case atStart => exact ⟨0, by omega, rfl, Lib.hid (World.grownBy.refl _ _)⟩
  case round =>
    obtain ⟨k, hk, rfl, hg⟩ := hrel
    have hrw := hg.out.cell hr (by simp)
    have hUw := hU.kept hg.out (by simp)
    have key : k = 0 ∨ k = 1 := by omega
    rcases key with rfl | rfl
    · have c0 := hUw.cell (i := 0) rfl
      have c1 := hUw.cell (i := 1) rfl
      have c2 := hUw.cell (i := 2) rfl
      have c3 := hUw.cell (i := 3) rfl
      go_wp2_with (go_at_call 36; refine (H0 _ hrw).mono ?_; rintro e w2 ⟨rfl, g2⟩)
      exact ⟨⟨1, by omega, by go_num, Lib.hid (hg.out.trans g2)⟩, by simp [RowKit.intOf]⟩
    · have c0 := hUw.cell (i := 4) rfl
      have c1 := hUw.cell (i := 5) rfl
      have c2 := hUw.cell (i := 6) rfl
      have c3 := hUw.cell (i := 7) rfl
      go_wp2_with (go_at_call 36; refine (H1 _ hrw).mono ?_; rintro e w2 ⟨rfl, g2⟩)
      go_ret
      exact ⟨by simp, hg.out.trans g2⟩
end Go.Proofs.Ytjdpnklnhiigpaa
