/-
  LAYER 1 (fs): slices.Clone at ints; ownPlan.
-/
import Derived.Test.YtfgmaeaojkfakaaGreatFSorted
namespace Go.Proofs.YtfgmaeaojkfakaaGreat
set_option maxRecDepth 100000
open Go.RowKit Go.Lib
attribute [local go_sem] Oper.semAt_some

theorem Row.cellD {w : World} {b off n c : Nat} {zs : List Int} (h : Row w (.slice (some ⟨b, off, none⟩) n c) (zs.map intV)) : ∀ j, j < zs.length → w.cell? ⟨b, off + j, none⟩ = some (.int .i64 (zs.getD j 0)) := by
  intro j hj
  obtain ⟨b', off', e, hc⟩ := Row.get h (i := j) (by simpa using hj)
  simp at e
  obtain ⟨rfl, rfl⟩ := e
  rw [hc]
  simp [intV, List.getD_eq_getElem?_getD, List.getElem?_eq_getElem hj]

theorem clone_ints (v : Value) (zs : List Int) (w : World) (hr : Ints w v zs) (hlim : zs.length * 8 ≤ 140737488351232) :
    Calls Tryz.prog 71 #[v] w fun e w' => ∃ v', e = .returned v' ∧ w'.ownsRow w.heap.size 3 1 v' zs.length (zs.map intV) ∧ w.grownBy w' none := by
  rcases hr with (⟨rfl, h⟩ | ⟨b, off, cap, rfl, h1, h2, h3⟩) | ⟨ad, rfl, rfl⟩
  · simp at h
    subst h
    refine (Tryz.slices_Clone_int_nil 0 0 w).mono ?_
    rintro e w' ⟨rfl, rfl⟩
    exact ⟨_, rfl, World.ownsRow_nil _ _ _ _, World.grownBy.refl _ _⟩
  · have hc := Row.cellD (w := w) (b := b) (off := off) (n := zs.length) (c := cap) (zs := zs) (.inr ⟨b, off, cap, by simp, h1, h2, h3⟩)
    have hq := Tryz.slices_Clone_int b off zs.length cap zs w (Nat.le_refl _) (by omega) hc
    rw [List.take_length] at hq
    rw [List.length_map]
    refine hq.mono ?_
    rintro e w' ⟨v', rfl, ho, _, hb⟩
    exact ⟨_, rfl, ho, belowg hb _⟩
  · refine (Tryz.slices_Clone_int_zero ad 0 w).mono ?_
    rintro e w' ⟨v', rfl, ho, _, hb⟩
    exact ⟨_, rfl, ho, belowg hb _⟩

/-- A plan's parts. -/
structure Pl where
  crash : Int
  keep : List Int
  fail : List Int
  full : List Int
  room : Int

/-- A block that holds a plan. -/
def PlanAt (w : World) (q : Nat) (c k f u r : Value) : Prop := w.heap[q]? = some (.cells #[c, k, f, u, r] 24 (0, 0))
section
variable {w : World} {q : Nat} {c k f u r : Value}
theorem PlanAt.c0 (h : PlanAt w q c k f u r) : w.cell? ⟨q, 0, none⟩ = some c := by simp [World.cell?, show _ = _ from h]
theorem PlanAt.c1 (h : PlanAt w q c k f u r) : w.cell? ⟨q, 1, none⟩ = some k := by simp [World.cell?, show _ = _ from h]
theorem PlanAt.c2 (h : PlanAt w q c k f u r) : w.cell? ⟨q, 2, none⟩ = some f := by simp [World.cell?, show _ = _ from h]
theorem PlanAt.c3 (h : PlanAt w q c k f u r) : w.cell? ⟨q, 3, none⟩ = some u := by simp [World.cell?, show _ = _ from h]
theorem PlanAt.c4 (h : PlanAt w q c k f u r) : w.cell? ⟨q, 4, none⟩ = some r := by simp [World.cell?, show _ = _ from h]
theorem PlanAt.free (h : PlanAt w q c k f u r) (o : Nat) : w.frozen? ⟨q, o, none⟩ = false := by simp [World.frozen?, show _ = _ from h]
theorem PlanAt.lt (h : PlanAt w q c k f u r) : q < w.heap.size := lt_of_block h
theorem PlanAt.kept {w' : World} {row : Option Nat} (h : PlanAt w q c k f u r) (hg : w.grownBy w' row) (hne : row ≠ some q) : PlanAt w' q c k f u r := (hg.block q h.lt (fun e => hne e.symm)).trans h
theorem PlanAt.s0 (h : PlanAt w q c k f u r) (v : Value) : PlanAt (w.setCell ⟨q, 0, none⟩ v) q v k f u r := heap_setCell_same w q 0 _ _ _ h
theorem PlanAt.s4 (h : PlanAt w q c k f u r) (v : Value) : PlanAt (w.setCell ⟨q, 4, none⟩ v) q c k f u v := heap_setCell_same w q 4 _ _ _ h
theorem PlanAt.s1 (h : PlanAt w q c k f u r) (v : Value) : PlanAt (w.setCell ⟨q, 1, none⟩ v) q c v f u r := heap_setCell_same w q 1 _ _ _ h
theorem PlanAt.s2 (h : PlanAt w q c k f u r) (v : Value) : PlanAt (w.setCell ⟨q, 2, none⟩ v) q c k v u r := heap_setCell_same w q 2 _ _ _ h
theorem PlanAt.s3 (h : PlanAt w q c k f u r) (v : Value) : PlanAt (w.setCell ⟨q, 3, none⟩ v) q c k f v r := heap_setCell_same w q 3 _ _ _ h
end

set_option maxHeartbeats 4000000 in
theorem ownPlan_any (vk vf vu : Value) (p : Pl) (w : World) (hk : Ints w vk p.keep) (hf : Ints w vf p.fail) (hu : Ints w vu p.full)
    (lk : p.keep.length * 8 ≤ 140737488351232) (lf : p.fail.length * 8 ≤ 140737488351232) (lu : p.full.length * 8 ≤ 140737488351232) :
    Calls Tryz.prog 37 #[.agg #[.int .i64 p.crash, vk, vf, vu, .int .i64 p.room]] w fun e w' => ∃ k' f' u', e = .returned (.agg #[.int .i64 p.crash, k', f', u', .int .i64 p.room]) ∧
      w'.ownsRow w.heap.size 3 1 k' p.keep.length (p.keep.map intV) ∧ w'.ownsRow w.heap.size 3 1 f' p.fail.length ((inOrd p.fail).map intV) ∧ w'.ownsRow w.heap.size 3 1 u' p.full.length ((inOrd p.full).map intV) ∧ w.grownBy w' none := by
  obtain ⟨crash, keep, fail, full, room⟩ := p
  dsimp only at *
  obtain ⟨ak, ck, rfl⟩ := hk.form
  obtain ⟨af, cf, rfl⟩ := hf.form
  obtain ⟨au, cu, rfl⟩ := hu.form
  obtain ⟨W0, hW0⟩ : ∃ W0, W0 = (w.alloc (.cells #[.int .i64 crash, .slice ak keep.length ck, .slice af fail.length cf, .slice au full.length cu, .int .i64 room] 24)).alloc (.cells #[.int .i64 0, .slice none 0 0, .slice none 0 0, .slice none 0 0, .int .i64 0] 24) := ⟨_, rfl⟩
  have hg0 : w.grownBy W0 none := by rw [hW0]; exact galloc (World.grownBy_alloc w _ none) _
  have P0 : PlanAt W0 w.heap.size (.int .i64 crash) (.slice ak keep.length ck) (.slice af fail.length cf) (.slice au full.length cu) (.int .i64 room) := by
    rw [hW0]; exact ((World.grownBy_alloc (w.alloc _) _ none).block w.heap.size (by simp) (by simp)).trans (World.alloc_heap_new w _)
  have R0 : PlanAt W0 (w.heap.size + 1) (.int .i64 0) (.slice none 0 0) (.slice none 0 0) (.slice none 0 0) (.int .i64 0) := by
    rw [hW0]
    have := World.alloc_heap_new (w.alloc (.cells #[.int .i64 crash, .slice ak keep.length ck, .slice af fail.length cf, .slice au full.length cu, .int .i64 room] 24)) (.cells #[.int .i64 0, .slice none 0 0, .slice none 0 0, .slice none 0 0, .int .i64 0] 24)
    rwa [World.size_alloc] at this
  have k0 := hk.all hg0
  have f0 := hf.all hg0
  have u0 := hu.all hg0
  have flt := fun hne => hf.lt hne
  have ult := fun hne => hu.lt hne
  have hs0 := hg0.size
  go_enter Tryz.func37, Tryz.ntmps37
  go_wp2_with (fail)
  rw [← hW0]
  go_wp2_with (first
    | (go_at_call 71; refine (clone_ints _ keep W0 k0 lk).mono ?_; rintro e w1 ⟨k', rfl, ok, g1⟩; obtain ⟨bk, dk, rfl⟩ := rowForm ok; have P1 := P0.kept g1 (by simp); have x1 := P1.free 1; have y1 := P1.c1; have P2 := P1.s1 (.slice bk keep.length dk); have z1 := P2.c2)
    | (go_at_call 73; refine (values_ints _ _ _ _).mono ?_; rintro e w2 ⟨rfl, B2, g2⟩))
  have G1 : w.grownBy w1 (some w.heap.size) := gbut (hg0.trans g1) _
  have H2 : W0.grownBy w2 (some w.heap.size) := (gset (gbut g1 _) 1 (.slice bk keep.length dk)).trans (gbut g2 _)
  have G2 : w.grownBy w2 (some w.heap.size) := (gset G1 1 (.slice bk keep.length dk)).trans (gbut g2 _)
  have ks : ∀ v : Value, (w1.setCell ⟨w.heap.size, 1, none⟩ v).heap.size = w1.heap.size := fun v => by simp [World.setCell]
  rw [ks] at B2
  have hold : ∀ W, w.grownBy W (some w.heap.size) → Ints W (.slice af fail.length cf) fail ∧ Ints W (.slice au full.length cu) full := fun W h =>
    ⟨hf.heap (fun hne k e => h.block k (flt hne k e) (by simp; have := flt hne k e; omega)), hu.heap (fun hne k e => h.block k (ult hne k e) (by simp; have := ult hne k e; omega))⟩
  have P3 := P2.kept g2 (by simp)
  have sk : ∀ {W : World} {B n o : Nat} {v u : Value} {xs : List Value}, w.heap.size + 1 ≤ B → W.ownsRow B 3 1 v n xs → (W.setCell ⟨w.heap.size, o, none⟩ u).ownsRow B 3 1 v n xs := fun {W B n o v u xs} hB h => by
    refine World.ownsRow.kept h (gset (World.grownBy.refl W (some w.heap.size)) o u) ?_
    right
    intro e
    have := (World.ownsRow.lt h _ e).1
    omega
  have hW0s : W0.heap.size = w.heap.size + 2 := by rw [hW0]; simp
  have ok2 := World.ownsRow.kept (sk (o := 1) (u := .slice bk keep.length dk) (by omega) ok) g2 (by cases (Value.slice bk keep.length dk).ownBlock <;> simp)
  have hs1 := g1.size
  have hs2 := B2.lt
  refine (sorted_ints w1.heap.size _ _ _ fail w2 B2 (hold w2 G2).1 (fun hne k e => by have := flt hne k e; omega) lf).mono ?_
  rintro e w3 ⟨f', rfl, of3, g3⟩
  obtain ⟨bf, df, rfl⟩ := rowForm of3
  have P4 := P3.kept g3 (by simp)
  have x4 := P4.free 2
  have y4 := P4.c2
  have P5 := P4.s2 (.slice bf fail.length df)
  have z5 := P5.c3
  have ok3 := sk (o := 2) (u := .slice bf fail.length df) (by omega) (World.ownsRow.kept ok2 g3 (by cases (Value.slice bk keep.length dk).ownBlock <;> simp))
  have of4 := sk (o := 2) (u := .slice bf fail.length df) (by omega) of3
  have G3 : w.grownBy (w3.setCell ⟨w.heap.size, 2, none⟩ (.slice bf fail.length df)) (some w.heap.size) := gset (G2.trans (gbut g3 _)) 2 _
  have H3 : W0.grownBy (w3.setCell ⟨w.heap.size, 2, none⟩ (.slice bf fail.length df)) (some w.heap.size) := gset (H2.trans (gbut g3 _)) 2 _
  clear ok ok2 of3 P0 P1 P2 P3 x1 y1 z1 B2 g2 G2 G1 H2
  go_wp2_with (fail)
  obtain ⟨w4, hw4⟩ : ∃ w4, w4 = w3.setCell ⟨w.heap.size, 2, none⟩ (.slice bf fail.length df) := ⟨_, rfl⟩
  have hs3 : w2.heap.size ≤ w4.heap.size := by rw [hw4]; simpa [World.setCell] using g3.size
  rw [← hw4] at P5 ok3 of4 G3 H3 ⊢
  clear z5 x4 y4 P4 hw4 g3
  refine (values_ints _ _ _ _).mono ?_
  rintro e w5 ⟨rfl, B5, g5⟩
  have hs5 := B5.lt
  have G5 := G3.trans (gbut g5 _)
  have H5 := H3.trans (gbut g5 _)
  have P6 := P5.kept g5 (by simp)
  have ok4 := World.ownsRow.kept ok3 g5 (by cases (Value.slice bk keep.length dk).ownBlock <;> simp)
  have of5 := World.ownsRow.kept of4 g5 (by cases (Value.slice bf fail.length df).ownBlock <;> simp)
  clear P5 ok3 of4 G3
  go_wp2_with (fail)
  refine (sorted_ints w4.heap.size _ _ _ full w5 B5 (hold w5 G5).2 (fun hne k e => by have := ult hne k e; omega) lu).mono ?_
  rintro e w6 ⟨u', rfl, ou6, g6⟩
  obtain ⟨bu, du, rfl⟩ := rowForm ou6
  have P7 := P6.kept g6 (by simp)
  have x7 := P7.free 3
  have y7 := P7.c3
  have P8 := P7.s3 (.slice bu full.length du)
  have ok5 := sk (o := 3) (u := .slice bu full.length du) (by omega) (World.ownsRow.kept ok4 g6 (by cases (Value.slice bk keep.length dk).ownBlock <;> simp))
  have of6 := sk (o := 3) (u := .slice bu full.length du) (by omega) (World.ownsRow.kept of5 g6 (by cases (Value.slice bf fail.length df).ownBlock <;> simp))
  have ou7 := sk (o := 3) (u := .slice bu full.length du) (by omega) ou6
  have G7 : w.grownBy (w6.setCell ⟨w.heap.size, 3, none⟩ (.slice bu full.length du)) (some w.heap.size) := gset (G5.trans (gbut g6 _)) 3 _
  have H7 : W0.grownBy (w6.setCell ⟨w.heap.size, 3, none⟩ (.slice bu full.length du)) (some w.heap.size) := gset (H5.trans (gbut g6 _)) 3 _
  have R7 := R0.kept H7 (by simp)
  clear P6 P7 B5 g5 g6 G5 H5 H7 H3 ok4 of5 ou6 R0 k0 f0 u0 hW0
  have hs7 := G7.size
  have e0 := P8.c0
  have e1 := P8.c1
  have e2 := P8.c2
  have e3 := P8.c3
  have e4 := P8.c4
  have R8 := R7.s0 (.int .i64 crash)
  have R9 := R8.s1 (.slice bk keep.length dk)
  have R10 := R9.s2 (.slice bf fail.length df)
  have R11 := R10.s3 (.slice bu full.length du)
  have R12 := R11.s4 (.int .i64 room)
  have a0 := R7.c0
  have a0' := R7.free 0
  have a1 := R8.c1
  have a1' := R8.free 1
  have a2 := R9.c2
  have a2' := R9.free 2
  have a3 := R10.c3
  have a3' := R10.free 3
  have a4 := R11.c4
  have a4' := R11.free 4
  go_wp2_with (fail)
  have fin : ∀ {W : World} {B n : Nat} {v c0 c1 c2 c3 c4 : Value} {xs : List Value}, w.heap.size + 2 ≤ B → W.ownsRow B 3 1 v n xs → (((((W.setCell ⟨w.heap.size + 1, 0, none⟩ c0).setCell ⟨w.heap.size + 1, 1, none⟩ c1).setCell ⟨w.heap.size + 1, 2, none⟩ c2).setCell ⟨w.heap.size + 1, 3, none⟩ c3).setCell ⟨w.heap.size + 1, 4, none⟩ c4).ownsRow w.heap.size 3 1 v n xs := fun {W B n v c0 c1 c2 c3 c4 xs} hB h => by
    have h2 := World.ownsRow.kept h (gset (gset (gset (gset (gset (World.grownBy.refl W (some (w.heap.size + 1))) 0 c0) 1 c1) 2 c2) 3 c3) 4 c4) (by right; intro e; have := (World.ownsRow.lt h _ e).1; omega)
    obtain ⟨q1, q2 | ⟨g, cap, cur, q3, q4, q5⟩⟩ := h2
    · exact ⟨q1, .inl q2⟩
    · exact ⟨q1, .inr ⟨g, cap, cur, q3, by omega, q5⟩⟩
  have okF := fin (c0 := .int .i64 crash) (c1 := .slice bk keep.length dk) (c2 := .slice bf fail.length df) (c3 := .slice bu full.length du) (c4 := .int .i64 room) (by omega) ok5
  have ofF := fin (c0 := .int .i64 crash) (c1 := .slice bk keep.length dk) (c2 := .slice bf fail.length df) (c3 := .slice bu full.length du) (c4 := .int .i64 room) (by omega) of6
  have ouF := fin (c0 := .int .i64 crash) (c1 := .slice bk keep.length dk) (c2 := .slice bf fail.length df) (c3 := .slice bu full.length du) (c4 := .int .i64 room) (by omega) ou7
  have hbF := (((((gbelow G7 (Nat.le_refl _) (by simp)).setCell (p := ⟨w.heap.size + 1, 0, none⟩) (by show _ ≤ w.heap.size + 1; omega) (.int .i64 crash)).setCell (p := ⟨w.heap.size + 1, 1, none⟩) (by show _ ≤ w.heap.size + 1; omega) (.slice bk keep.length dk)).setCell (p := ⟨w.heap.size + 1, 2, none⟩) (by show _ ≤ w.heap.size + 1; omega) (.slice bf fail.length df)).setCell (p := ⟨w.heap.size + 1, 3, none⟩) (by show _ ≤ w.heap.size + 1; omega) (.slice bu full.length du)).setCell (p := ⟨w.heap.size + 1, 4, none⟩) (by show _ ≤ w.heap.size + 1; omega) (.int .i64 room)
  have b0 := R12.c0
  have b1 := R12.c1
  have b2 := R12.c2
  have b3 := R12.c3
  have b4 := R12.c4
  clear R7 R8 R9 R10 R11 R12 a0 a1 a2 a3 a4 a0' a1' a2' a3' a4' e0 e1 e2 e3 e4 P8 ok5 of6 ou7 fin sk
  generalize (((((w6.setCell _ _).setCell _ _).setCell _ _).setCell _ _).setCell _ _).setCell _ _ = WF at *
  refine bodyPost_ret (v := .agg #[.int .i64 crash, .slice bk keep.length dk, .slice bf fail.length df, .slice bu full.length du, .int .i64 room]) (by simp [results, Tryz.results37, go_sem, b0, b1, b2, b3, b4]) rfl ?_
  exact ⟨_, _, _, rfl, okF, ofF, ouF, belowg hbF _⟩
end Go.Proofs.YtfgmaeaojkfakaaGreat
