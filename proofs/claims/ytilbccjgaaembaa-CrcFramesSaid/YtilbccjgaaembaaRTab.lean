/-
  LAYER 3 (crc): the table: what its block holds; New; isMade.
-/
import Derived.Test.YtilbccjgaaembaaRPure
import Derived.Test.YtilbccjgaaembaaCLeaf
namespace Go.Proofs.Ytilbccjgaaembaa
set_option maxRecDepth 100000
open Go.RowKit Go.Lib

/-- A table's block: made; the Once's done and lock; how often; the numbers. -/
def Tab (w : World) (t : Nat) (m : Bool) (d s k : Int) (f : Nat → Nat) : Prop :=
  ∃ cs : Array Value, w.heap[t]? = some (.cells cs 108 (0, 0)) ∧ cs.size = 261 ∧ cs[0]? = some (.bool m) ∧ cs[1]? = some (.int .u32 d) ∧ cs[2]? = some (.int .i32 s) ∧ cs[4]? = some (.int .i64 k) ∧
    ∀ i, i < 256 → cs[5 + i]? = some (.int .u32 (f i : Int))

section
variable {w w' : World} {t : Nat} {m : Bool} {d s k : Int} {f : Nat → Nat}
theorem Tab.made (h : Tab w t m d s k f) : w.cell? ⟨t, 0, none⟩ = some (.bool m) := by obtain ⟨cs, h1, h2, h3, h4, h5, h6, h7⟩ := h; simp [World.cell?, h1, h3]
theorem Tab.done (h : Tab w t m d s k f) : w.cell? ⟨t, 1, none⟩ = some (.int .u32 d) := by obtain ⟨cs, h1, h2, h3, h4, h5, h6, h7⟩ := h; simp [World.cell?, h1, h4]
theorem Tab.state (h : Tab w t m d s k f) : w.cell? ⟨t, 2, none⟩ = some (.int .i32 s) := by obtain ⟨cs, h1, h2, h3, h4, h5, h6, h7⟩ := h; simp [World.cell?, h1, h5]
theorem Tab.times (h : Tab w t m d s k f) : w.cell? ⟨t, 4, none⟩ = some (.int .i64 k) := by obtain ⟨cs, h1, h2, h3, h4, h5, h6, h7⟩ := h; simp [World.cell?, h1, h6]
theorem Tab.num (h : Tab w t m d s k f) {i : Nat} (hi : i < 256) : w.cell? ⟨t, 5 + i, none⟩ = some (.int .u32 (f i : Int)) := by obtain ⟨cs, h1, h2, h3, h4, h5, h6, h7⟩ := h; simp [World.cell?, h1, h7 i hi]
theorem Tab.free (h : Tab w t m d s k f) (o : Nat) : w.frozen? ⟨t, o, none⟩ = false := by obtain ⟨cs, h1, _⟩ := h; simp [World.frozen?, h1]
theorem Tab.lt (h : Tab w t m d s k f) : t < w.heap.size := by obtain ⟨cs, h1, _⟩ := h; exact lt_of_block h1
theorem Tab.setDone (h : Tab w t m d s k f) (x : Int) : Tab (w.setCell ⟨t, 1, none⟩ (.int .u32 x)) t m x s k f := by
  obtain ⟨cs, h1, h2, h3, h4, h5, h6, h7⟩ := h
  refine ⟨_, heap_setCell_same w t 1 _ _ _ h1, by simpa using h2, by simpa [Array.getElem?_setIfInBounds] using h3, by simp [h2], by simpa [Array.getElem?_setIfInBounds] using h5, by simpa [Array.getElem?_setIfInBounds] using h6, fun i hi => ?_⟩
  rw [Array.getElem?_setIfInBounds, if_neg (by omega)]; exact h7 i hi
theorem Tab.setState (h : Tab w t m d s k f) (x : Int) : Tab (w.setCell ⟨t, 2, none⟩ (.int .i32 x)) t m d x k f := by
  obtain ⟨cs, h1, h2, h3, h4, h5, h6, h7⟩ := h
  refine ⟨_, heap_setCell_same w t 2 _ _ _ h1, by simpa using h2, by simpa [Array.getElem?_setIfInBounds] using h3, by simpa [Array.getElem?_setIfInBounds] using h4, by simp [h2], by simpa [Array.getElem?_setIfInBounds] using h6, fun i hi => ?_⟩
  rw [Array.getElem?_setIfInBounds, if_neg (by omega)]; exact h7 i hi
theorem Tab.setTimes (h : Tab w t m d s k f) (x : Int) : Tab (w.setCell ⟨t, 4, none⟩ (.int .i64 x)) t m d s x f := by
  obtain ⟨cs, h1, h2, h3, h4, h5, h6, h7⟩ := h
  refine ⟨_, heap_setCell_same w t 4 _ _ _ h1, by simpa using h2, by simpa [Array.getElem?_setIfInBounds] using h3, by simpa [Array.getElem?_setIfInBounds] using h4, by simpa [Array.getElem?_setIfInBounds] using h5, by simp [h2], fun i hi => ?_⟩
  rw [Array.getElem?_setIfInBounds, if_neg (by omega)]; exact h7 i hi
theorem Tab.setNum (h : Tab w t m d s k f) {j : Nat} (hj : j < 256) (x : Nat) : Tab (w.setCell ⟨t, 5 + j, none⟩ (.int .u32 (x : Int))) t m d s k (fun i => if i = j then x else f i) := by
  obtain ⟨cs, h1, h2, h3, h4, h5, h6, h7⟩ := h
  refine ⟨_, heap_setCell_same w t (5 + j) _ _ _ h1, by simpa using h2, ?_, ?_, ?_, ?_, fun i hi => ?_⟩
  · rw [Array.getElem?_setIfInBounds, if_neg (by omega)]; exact h3
  · rw [Array.getElem?_setIfInBounds, if_neg (by omega)]; exact h4
  · rw [Array.getElem?_setIfInBounds, if_neg (by omega)]; exact h5
  · rw [Array.getElem?_setIfInBounds, if_neg (by omega)]; exact h6
  · rw [Array.getElem?_setIfInBounds]
    by_cases e : i = j
    · subst e; simp [h2]; omega
    · rw [if_neg (by omega)]; simpa [e] using h7 i hi
theorem Tab.kept {row : Option Nat} (h : Tab w t m d s k f) (hg : w.grownBy w' row) (hne : row ≠ some t) : Tab w' t m d s k f := by
  obtain ⟨cs, h1, h2⟩ := h
  exact ⟨cs, (hg.block t (lt_of_block h1) (fun e => hne e.symm)).trans h1, h2⟩
theorem Tab.new (h : Tab w t m d s k f) (hg : w.grownBy w' none) : Tab w' t m d s k f := h.kept hg (by simp)
theorem Tab.below {B : Nat} (h : Tab w t m d s k f) (hb : Below B w w') (hB : t < B) : Tab w' t m d s k f := by
  obtain ⟨cs, h1, h2⟩ := h
  exact ⟨cs, (hb.block t hB).trans h1, h2⟩
theorem Tab.same (h : Tab w t m d s k f) {g : Nat → Nat} (e : ∀ i, i < 256 → g i = f i) : Tab w t m d s k g := by
  obtain ⟨cs, h1, h2, h3, h4, h5, h6, h7⟩ := h
  exact ⟨cs, h1, h2, h3, h4, h5, h6, fun i hi => by rw [e i hi]; exact h7 i hi⟩
end

theorem zeroTab : (List.range 256).map (fun i => Try.zeroCells108[5 + i]?) = List.replicate 256 (some (.int .u32 0)) := by kernel_rfl
theorem zeroTab_head : (Try.zeroCells108.size, Try.zeroCells108[0]?, Try.zeroCells108[1]?, Try.zeroCells108[2]?, Try.zeroCells108[4]?) = (261, some (.bool false), some (.int .u32 0), some (.int .i32 0), some (.int .i64 0)) := by kernel_rfl
theorem zero_num {i : Nat} (hi : i < 256) : Try.zeroCells108[5 + i]? = some (.int .u32 0) := by
  have h := congrArg (fun l => l[i]?) zeroTab
  simp only [List.getElem?_map, List.getElem?_range hi, Option.map_some, List.getElem?_replicate, if_pos hi, Option.some.injEq] at h
  exact h
theorem tab_made (w : World) : Tab (w.alloc (.cells (Try.zeroCells108.setIfInBounds 0 (.bool true)) 108)) w.heap.size true 0 0 0 (fun _ => 0) := by
  have h := zeroTab_head
  simp only [Prod.mk.injEq] at h
  obtain ⟨h0, h1, h2, h3, h4⟩ := h
  refine ⟨_, heap_alloc_new w _, by simp [h0], by simp [h0], by simpa [Array.getElem?_setIfInBounds] using h2, by simpa [Array.getElem?_setIfInBounds] using h3, by simpa [Array.getElem?_setIfInBounds] using h4, fun i hi => ?_⟩
  rw [Array.getElem?_setIfInBounds, if_neg (by omega)]; exact zero_num hi

set_option maxHeartbeats 1000000 in
theorem crcNew_any (w : World) : Calls Try.prog 51 #[] w fun e w' => ∃ t, e = .returned (.pointer (some ⟨t, 0, none⟩)) ∧ w.heap.size ≤ t ∧ Tab w' t true 0 0 0 (fun _ => 0) ∧ w.grownBy w' none := by
  go_enter Try.func51, Try.ntmps51
  go_wp2
  go_ret
  exact ⟨_, rfl, Nat.le_refl _, tab_made w, galloc (World.grownBy.refl _ _) _⟩

set_option maxHeartbeats 1000000 in
theorem crcIsMade (t : Nat) (m : Bool) (w : World) (hm : w.cell? ⟨t, 0, none⟩ = some (.bool m)) : Calls Try.prog 98 #[.pointer (some ⟨t, 0, none⟩)] w fun e w' => e = .returned (.bool m) ∧ w = w' := by
  cases m
  · go_enter Try.func98, Try.ntmps98
    go_wp2
    go_ret
    exact ⟨rfl, rfl⟩
  · go_enter Try.func98, Try.ntmps98
    go_wp2
    go_ret
    exact ⟨rfl, rfl⟩
theorem crcIsMade_nil (w : World) : Calls Try.prog 98 #[.pointer none] w fun e w' => e = .returned (.bool false) ∧ w = w' := by
  go_enter Try.func98, Try.ntmps98
  go_wp2
  go_ret
  exact ⟨rfl, rfl⟩
end Go.Proofs.Ytilbccjgaaembaa
