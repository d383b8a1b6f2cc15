/-
  LAYER 1 (fs): Keep's numbers in turn, handed out.
-/
import Derived.Test.YtfgmaeaojkfakaaGreatFTurn
namespace Go.Proofs.YtfgmaeaojkfakaaGreat
set_option maxRecDepth 100000
open Go.RowKit Go.Lib
attribute [local go_sem] Oper.semAt_some

set_option maxHeartbeats 4000000 in
theorem inTurn_any (kv : Value) (keep : List Int) (w : World) (h : w.ownsRow 0 3 1 kv keep.length (keep.map (fun x => .int .i64 x))) :
    Calls Tryz.prog 87 #[kv] w fun e w' => ∃ ab kb, e = .returned (.func (.func 105) #[] #[.pointer (some ⟨kb, 0, none⟩), .pointer (some ⟨ab, 0, none⟩)]) ∧ TurnAt ab kb kv keep 0 w' ∧ w.grownBy w' none ∧ w.heap.size ≤ ab ∧ w.heap.size ≤ kb ∧ ab ≠ kb := by
  have hform : ∃ a n c, kv = .slice a n c := by
    obtain ⟨_, ⟨rfl, _⟩ | ⟨g, cap, cur, rfl, _⟩⟩ := h
    · exact ⟨_, _, _, rfl⟩
    · exact ⟨_, _, _, rfl⟩
  obtain ⟨a, n, c, rfl⟩ := hform
  have g1 := World.grownBy_alloc w (.cells #[.slice a n c] 22) none
  have g2 := galloc g1 (.cells #[.int .i64 0] 3)
  have e1 := World.alloc_heap_new w (.cells #[.slice a n c] 22)
  have e2 := World.alloc_heap_new (w.alloc (.cells #[.slice a n c] 22)) (.cells #[.int .i64 0] 3)
  have hs : (w.alloc (.cells #[.slice a n c] 22)).heap.size = w.heap.size + 1 := by simp
  have e3 := ((World.grownBy_alloc (w.alloc (.cells #[.slice a n c] 22)) (.cells #[.int .i64 0] 3) none).block w.heap.size (by omega) (by simp)).trans e1
  rw [hs] at e2
  have h3 := World.ownsRow.kept h g2 (by cases (Value.slice a n c).ownBlock <;> simp)
  go_enter Tryz.func87, Tryz.ntmps87
  go_wp2
  go_ret
  exact ⟨w.heap.size + 1, w.heap.size, rfl, ⟨e2, e3, h3⟩, g2, by omega, by omega, by omega⟩
end Go.Proofs.YtfgmaeaojkfakaaGreat
