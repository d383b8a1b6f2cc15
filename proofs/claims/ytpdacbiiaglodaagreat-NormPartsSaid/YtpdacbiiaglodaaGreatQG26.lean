/-
  LAYER 5 (norms): the reference's small data.
-/
import Derived.Test.YtpdacbiiaglodaaGreatQG24
namespace Go.Proofs.YtpdacbiiaglodaaGreat
set_option maxRecDepth 100000
open Go.RowKit Go.Lib

set_option maxRecDepth 100000 in
set_option maxHeartbeats 8000000 in
theorem refSmall_any (w : World) : Calls Tryz.prog 11 #[] w fun e w' => ∃ vc vd, e = .returned (.tuple #[vc, vd]) ∧ Dat w' vc vd smallC smallD ∧ w.grownBy w' none := by
  have hO := fun cs (hc : cs = (triCells .i64 smallC).toArray) => tri_own (k := .i64) (own_lit3 (w := w) (e := 104) (cs := cs) (n := 8) (triCells .i64 smallC) hc rfl (by unfold maxLen; omega))
  have hP : ∀ o cs, cs = (triCells .i32 smallD).toArray → Tri .i32 ((w.alloc o).alloc (.cells cs 106)) (.slice (some ⟨w.heap.size + 1, 0, none⟩) 46 46) smallD := fun o cs hc => by
    have := tri_own (k := .i32) (own_lit3 (w := w.alloc o) (e := 106) (cs := cs) (n := 46) (triCells .i32 smallD) hc rfl (by unfold maxLen; omega))
    rwa [World.size_alloc] at this
  go_enter Tryz.func11, Tryz.ntmps11
  go_wp2
  go_ret2
  exact ⟨_, _, rfl, ⟨(hO _ rfl).all (World.grownBy_alloc _ _ none), hP _ _ rfl⟩, (World.grownBy_alloc w _ none).trans (World.grownBy_alloc _ _ none)⟩
end Go.Proofs.YtpdacbiiaglodaaGreat
