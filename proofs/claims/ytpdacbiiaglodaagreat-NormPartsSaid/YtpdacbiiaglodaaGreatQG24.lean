/-
  LAYER 5 (norms): the small data.
-/
import Derived.Test.YtpdacbiiaglodaaGreatQG16
namespace Go.Proofs.YtpdacbiiaglodaaGreat
set_option maxRecDepth 100000
open Go.RowKit Go.Lib

def smallC : List Cls := [(768, 788, 230), (803, 806, 220), (807, 808, 202), (824, 824, 1), (837, 837, 240), (1456, 1456, 10), (2364, 2364, 7), (2381, 2381, 9)]
def smallD : List Dec := [(192, 65, 768), (193, 65, 769), (194, 65, 770), (195, 65, 771), (196, 65, 776), (197, 65, 778), (199, 67, 807), (200, 69, 768), (201, 69, 769), (202, 69, 770), (203, 69, 776), (209, 78, 771), (214, 79, 776), (220, 85, 776), (224, 97, 768), (225, 97, 769), (226, 97, 770), (227, 97, 771), (228, 97, 776), (229, 97, 778), (231, 99, 807), (232, 101, 768), (233, 101, 769), (234, 101, 770), (235, 101, 776), (241, 110, 771), (244, 111, 770), (246, 111, 776), (252, 117, 776), (255, 121, 776), (257, 97, 772), (469, 220, 772), (470, 252, 772), (836, 776, 769), (2392, 2325, 2364), (7691, 100, 775), (7693, 100, 803), (7779, 115, 803), (7785, 7779, 775), (7841, 97, 803), (7845, 226, 769), (7853, 7841, 770), (7865, 101, 803), (7879, 7865, 770), (8486, 937, 0), (8491, 197, 0)]
theorem small_good : good smallC smallD = true := by decide +kernel

theorem own_lit3 {w : World} {e : TypeId} (vs : List Value) {cs : Array Value} {n : Nat} (hc : cs = vs.toArray) (hn : vs.length = n * 3) (hm : n ≤ maxLen) :
    (w.alloc (.cells cs e)).ownsRow w.heap.size e 3 (.slice (some ⟨w.heap.size, 0, none⟩) n n) n vs := by
  subst hc
  exact ⟨hn, .inr ⟨w.heap.size, _, _, rfl, Nat.le_refl _, World.alloc_heap_new w _, Nat.le_refl _, hm, by simpa using hn, by rw [← hn]; simp⟩⟩

set_option maxRecDepth 100000 in
set_option maxHeartbeats 4000000 in
theorem smallClasses_any (w : World) : Calls Tryz.prog 46 #[] w fun e w' => ∃ v, e = .returned v ∧ Tri .i64 w' v smallC ∧ w.grownBy w' none := by
  have hO := fun cs (hc : cs = (triCells .i64 smallC).toArray) => tri_own (k := .i64) (own_lit3 (w := w) (e := 104) (cs := cs) (n := 8) (triCells .i64 smallC) hc rfl (by unfold maxLen; omega))
  go_enter Tryz.func46, Tryz.ntmps46
  go_wp2
  go_ret
  exact ⟨_, rfl, hO _ rfl, World.grownBy_alloc w _ none⟩
set_option maxRecDepth 100000 in
set_option maxHeartbeats 4000000 in
theorem smallDecomps_any (w : World) : Calls Tryz.prog 47 #[] w fun e w' => ∃ v, e = .returned v ∧ Tri .i32 w' v smallD ∧ w.grownBy w' none := by
  have hO := fun cs (hc : cs = (triCells .i32 smallD).toArray) => tri_own (k := .i32) (own_lit3 (w := w) (e := 106) (cs := cs) (n := 46) (triCells .i32 smallD) hc rfl (by unfold maxLen; omega))
  go_enter Tryz.func47, Tryz.ntmps47
  go_wp2
  go_ret
  exact ⟨_, rfl, hO _ rfl, World.grownBy_alloc w _ none⟩

end Go.Proofs.YtpdacbiiaglodaaGreat
