/-
  LAYER 1 (fs): the reference's Clone: a copy of its struct, its plan's and names' and moves' rows; the nodes' data are shared.
-/
import Derived.Test.YtafcgjbafihniaaGreatFA20
import Derived.Test.YtafcgjbafihniaaGreatFA22
import Derived.Test.YtafcgjbafihniaaGreatFA08
import Derived.Test.YtafcgjbafihniaaGreatFA26
import Derived.Test.YtafcgjbafihniaaGreatFA24
import Derived.Test.YtafcgjbafihniaaGreatFA27
namespace Go.Proofs.YtafcgjbafihniaaGreat
set_option maxRecDepth 100000
variable {DX : Nat → Prop}
open Go.RowKit Go.Lib
attribute [local go_sem] Oper.semAt_some

theorem rmvC_len (l : List RMv) : (rmvCells l).length = l.length * 4 := flat_len RMv.cells 4 rmv_len l
theorem rmvC_one (l : List RMv) : ∀ u ∈ rmvCells l, u.oneCell' = true := by
  intro u hu
  unfold rmvCells at hu
  obtain ⟨m, _, hx⟩ := List.mem_flatMap.1 hu
  cases m <;> (simp [RMv.cells] at hx; rcases hx with rfl | rfl | rfl | rfl <;> rfl)
theorem copy_moves (v : Value) (l : List RMv) (w : World) (hr : w.ownsRow 0 123 4 v l.length (rmvCells l)) (hl : l.length ≤ 2199023255552) :
    ∃ v' w', (Builtin.append_ #[82, 82] 82 #[.slice none 0 0, v]).run Tryz.prog w = .ok v' w' ∧ w'.ownsRow w.heap.size 123 4 v' l.length (rmvCells l) ∧ w.grownBy w' none := by
  obtain ⟨i0, hi, hz0, hz1, hz2⟩ := infoRMv_parts
  have hr0 := hr
  obtain ⟨h0, ⟨rfl, hn⟩ | ⟨g, cap, cur, rfl, _, hg, hnc, hcm, hcs, ht⟩⟩ := hr
  · have hrun := run_append_owned_none (P := Tryz.prog) (w := w) w.heap.size 82 82 123 i0 4 Tryz.underlying82 hi (.slice none 0 0) 0 [] (World.ownsRow_nil _ _ _ _)
    have hl0 : l = [] := List.length_eq_zero_iff.1 hn
    subst hl0
    exact ⟨_, _, hrun, World.ownsRow_nil _ _ _ _, World.grownBy.refl _ _⟩
  · obtain ⟨v', w', hrun, h5, h6, _, _⟩ := run_append_own_at (P := Tryz.prog) w w.heap.size 82 82 123 i0 (.agg #[.int .i64 0, .string ⟨#[]⟩, .string ⟨#[]⟩, .int .i64 0]) 4 48 Tryz.underlying82 hi hz0 hz1 hz2 rfl (by decide) (.slice none 0 0) 0 [] (World.ownsRow_nil _ _ _ _) ⟨g, 0, none⟩ l.length cap (rmvCells l) (rmvC_len l)
      (fun j u hj => by
        have hlt := (List.getElem?_eq_some_iff.1 hj).1
        rw [rmvC_len] at hlt
        have := World.ownsRow.cellAt hr0 j hlt
        rw [hj] at this
        rw [addr_add]
        exact this) (rmvC_one l) (by unfold maxLen; omega) (by omega) (Nat.le_refl _)
    refine ⟨v', w', hrun, by simpa using h5, h6⟩
theorem nodeC_len (l : List (Value × Value)) : (nodeCells l).length = l.length * 2 := flat_len (fun x : Value × Value => [x.1, x.2]) 2 (fun _ => rfl) l
theorem nodeC_one (l : List (Value × Value)) (h1 : ∀ x ∈ l, x.1.oneCell' = true ∧ x.2.oneCell' = true) : ∀ u ∈ nodeCells l, u.oneCell' = true := by
  intro u hu
  unfold nodeCells at hu
  obtain ⟨x, hm, hx⟩ := List.mem_flatMap.1 hu
  simp at hx
  rcases hx with rfl | rfl
  · exact (h1 x hm).1
  · exact (h1 x hm).2
theorem copy_nodes (v : Value) (l : List (Value × Value)) (w : World) (h1 : ∀ x ∈ l, x.1.oneCell' = true ∧ x.2.oneCell' = true) (hr : w.ownsRow 0 100 2 v l.length (nodeCells l)) (hl : l.length ≤ 2199023255552) :
    ∃ v' w', (Builtin.append_ #[80, 80] 80 #[.slice none 0 0, v]).run Tryz.prog w = .ok v' w' ∧ w'.ownsRow w.heap.size 100 2 v' l.length (nodeCells l) ∧ w.grownBy w' none := by
  obtain ⟨i0, hi, hz0, hz1, hz2⟩ := infoRNd_parts
  have hr0 := hr
  obtain ⟨h0, ⟨rfl, hn⟩ | ⟨g, cap, cur, rfl, _, hg, hnc, hcm, hcs, ht⟩⟩ := hr
  · have hrun := run_append_owned_none (P := Tryz.prog) (w := w) w.heap.size 80 80 100 i0 2 Tryz.underlying80 hi (.slice none 0 0) 0 [] (World.ownsRow_nil _ _ _ _)
    have hl0 : l = [] := List.length_eq_zero_iff.1 hn
    subst hl0
    exact ⟨_, _, hrun, World.ownsRow_nil _ _ _ _, World.grownBy.refl _ _⟩
  · obtain ⟨v', w', hrun, h5, h6, _, _⟩ := run_append_own_at (P := Tryz.prog) w w.heap.size 80 80 100 i0 (.agg #[.slice none 0 0, .slice none 0 0]) 2 48 Tryz.underlying80 hi hz0 hz1 hz2 rfl (by decide) (.slice none 0 0) 0 [] (World.ownsRow_nil _ _ _ _) ⟨g, 0, none⟩ l.length cap (nodeCells l) (nodeC_len l)
      (fun j u hj => by
        have hlt := (List.getElem?_eq_some_iff.1 hj).1
        rw [nodeC_len] at hlt
        have := World.ownsRow.cellAt hr0 j hlt
        rw [hj] at this
        rw [addr_add]
        exact this) (nodeC_one l h1) (by unfold maxLen; omega) (by omega) (Nat.le_refl _)
    refine ⟨v', w', hrun, by simpa using h5, h6⟩
section
variable {R : Nat → Prop} {w : World} {q : Nat} {a : RefP} {r : RefV} {vs : List (Value × Value)}
theorem RefRows.one (h : RefRows DX R w a r vs) : ∀ x ∈ vs, x.1.oneCell' = true ∧ x.2.oneCell' = true := by
  intro x hx
  obtain ⟨i, hi⟩ := List.mem_iff_getElem?.1 hx
  have hlt : i < a.nodes.length := by rw [← h.vl]; exact (List.getElem?_eq_some_iff.1 hi).1
  obtain ⟨n1, dvs, _, n2, _⟩ := h.node i x _ hi (List.getElem?_eq_getElem hlt)
  obtain ⟨a1, c1, e1⟩ := n1.form
  obtain ⟨a2, c2, e2⟩ := n2.form
  rw [e1, e2]
  exact ⟨rfl, rfl⟩
/-- A row of the clone's that is kept while another one is made and laid into the clone. -/
theorem OwnR.over {Q i e k n : Nat} {W W' : World} {r1 : RefV} {v x : Value} {xs : List Value} (o : OwnR R W e k v n xs) (g : W.grownBy W' none) (A : RefAt W' Q r1) (he : e ≠ 84) : OwnR R (W'.setCell ⟨Q, i, none⟩ x) e k v n xs := (o.new g).setq he A i x
/-- What follows the plan: four rows are copied. -/
theorem clone_rest {Q : Nat} {w1 W1 : World} {k' f' u' : Value} (h : RefOk DX R w q a r vs) (hQ : w.heap.size ≤ Q) (hqQ : q ≠ Q) (g1 : w.grownBy w1 none) (A : RefAt w1 Q r)
    (ok : OwnR (fun k => w.heap.size ≤ k) w1 3 1 k' a.pl.keep.length (a.pl.keep.map intV)) (of : OwnR (fun k => w.heap.size ≤ k) w1 3 1 f' a.pl.fail.length (a.pl.fail.map intV)) (ou : OwnR (fun k => w.heap.size ≤ k) w1 3 1 u' a.pl.full.length (a.pl.full.map intV))
    (ld : a.dir.length ≤ 3518437208881) (ls : a.safe.length ≤ 3518437208881) (lm : a.moves.length ≤ 2199023255552) (ln : a.nodes.length ≤ 2199023255552)
    (hW1 : W1 = ((((w1.setCell ⟨Q, 0, none⟩ (.int .i64 a.pl.crash)).setCell ⟨Q, 1, none⟩ k').setCell ⟨Q, 2, none⟩ f').setCell ⟨Q, 3, none⟩ u').setCell ⟨Q, 4, none⟩ (.int .i64 a.pl.room)) :
    ∃ b8 d8 w2 b9 d9 w3 b10 d10 w4 b7 d7 w5 W2 W3 W4 W5,
      (W1.cell? ⟨q, 8, none⟩ = some r.dir ∧ (Builtin.append_ #[81, 81] 81 #[.slice none 0 0, r.dir]).run Tryz.prog W1 = .ok (.slice b8 a.dir.length d8) w2 ∧ w2.cell? ⟨Q, 8, none⟩ = some r.dir ∧ w2.frozen? ⟨Q, 8, none⟩ = false ∧ W2 = w2.setCell ⟨Q, 8, none⟩ (.slice b8 a.dir.length d8)) ∧
      (W2.cell? ⟨q, 9, none⟩ = some r.safe ∧ (Builtin.append_ #[81, 81] 81 #[.slice none 0 0, r.safe]).run Tryz.prog W2 = .ok (.slice b9 a.safe.length d9) w3 ∧ w3.cell? ⟨Q, 9, none⟩ = some r.safe ∧ w3.frozen? ⟨Q, 9, none⟩ = false ∧ W3 = w3.setCell ⟨Q, 9, none⟩ (.slice b9 a.safe.length d9)) ∧
      (W3.cell? ⟨q, 10, none⟩ = some r.moves ∧ (Builtin.append_ #[82, 82] 82 #[.slice none 0 0, r.moves]).run Tryz.prog W3 = .ok (.slice b10 a.moves.length d10) w4 ∧ w4.cell? ⟨Q, 10, none⟩ = some r.moves ∧ w4.frozen? ⟨Q, 10, none⟩ = false ∧ W4 = w4.setCell ⟨Q, 10, none⟩ (.slice b10 a.moves.length d10)) ∧
      (W4.cell? ⟨q, 7, none⟩ = some r.nodes ∧ (Builtin.append_ #[80, 80] 80 #[.slice none 0 0, r.nodes]).run Tryz.prog W4 = .ok (.slice b7 a.nodes.length d7) w5 ∧ w5.cell? ⟨Q, 7, none⟩ = some r.nodes ∧ w5.frozen? ⟨Q, 7, none⟩ = false ∧ W5 = w5.setCell ⟨Q, 7, none⟩ (.slice b7 a.nodes.length d7)) ∧
      (∃ r', RefOk (RD R DX) (fun k => w.heap.size ≤ k ∧ k < W5.heap.size) W5 Q a r' vs) ∧ w.grownBy W5 none := by
  have q0 : w.heap.size ≤ Q := hQ
  have st : ∀ {W : World} (i : Nat) (v : Value), w.grownBy W none → w.grownBy (W.setCell ⟨Q, i, none⟩ v) none := fun {W} i v g => grown_new g (gq W Q i v) (fun k e => by cases e; exact q0)
  have B1 : RefAt (w1.setCell ⟨Q, 0, none⟩ (.int .i64 a.pl.crash)) Q { r with crash := a.pl.crash } := heap_setCell_same w1 Q 0 _ _ _ A
  have B2 : RefAt ((w1.setCell ⟨Q, 0, none⟩ (.int .i64 a.pl.crash)).setCell ⟨Q, 1, none⟩ k') Q { r with crash := a.pl.crash, k := k' } := heap_setCell_same _ Q 1 _ _ _ B1
  have B3 : RefAt (((w1.setCell ⟨Q, 0, none⟩ (.int .i64 a.pl.crash)).setCell ⟨Q, 1, none⟩ k').setCell ⟨Q, 2, none⟩ f') Q { r with crash := a.pl.crash, k := k', f := f' } := heap_setCell_same _ Q 2 _ _ _ B2
  have B4 : RefAt ((((w1.setCell ⟨Q, 0, none⟩ (.int .i64 a.pl.crash)).setCell ⟨Q, 1, none⟩ k').setCell ⟨Q, 2, none⟩ f').setCell ⟨Q, 3, none⟩ u') Q { r with crash := a.pl.crash, k := k', f := f', u := u' } := heap_setCell_same _ Q 3 _ _ _ B3
  have A1 : RefAt W1 Q { r with crash := a.pl.crash, k := k', f := f', u := u', room := a.pl.room } := by rw [hW1]; exact heap_setCell_same _ Q 4 _ _ _ B4
  have G1 : w.grownBy W1 none := by rw [hW1]; exact st 4 _ (st 3 _ (st 2 _ (st 1 _ (st 0 _ g1))))
  have five : ∀ {e k n : Nat} {v : Value} {xs : List Value}, e ≠ 84 → OwnR (fun k => w.heap.size ≤ k) w1 e k v n xs → OwnR (fun k => w.heap.size ≤ k) W1 e k v n xs := fun {e k n v xs} he o => by
    rw [hW1]
    exact ((((o.setq he A 0 _).setq he B1 1 _).setq he B2 2 _).setq he B3 3 _).setq he B4 4 _
  have ok1 := five (by decide) ok
  have of1 := five (by decide) of
  have ou1 := five (by decide) ou
  have nw : ∀ {W W' : World} {e k n : Nat} {v : Value} {xs : List Value}, w.grownBy W none → W'.ownsRow W.heap.size e k v n xs → OwnR (fun k => w.heap.size ≤ k) W' e k v n xs := fun {W W' e k n v xs} g o => OwnR.of o (fun b h1 _ => Nat.le_trans g.size h1)
  -- the names
  have h1 := h.new G1
  obtain ⟨v8, w2, run8, o8, g2⟩ := copy_names r.dir a.dir W1 h1.rows.rd.1 ld
  obtain ⟨b8, d8, rfl⟩ := rowForm o8
  have A1' := A1.kept g2 (by simp)
  have A2 := A1'.s8 (.slice b8 a.dir.length d8)
  have G2 := st 8 (.slice b8 a.dir.length d8) (G1.trans g2)
  have p8 := (nw G1 o8).setq (by decide) A1' 8 (.slice b8 a.dir.length d8)
  obtain ⟨W2, hW2⟩ : ∃ W2, W2 = w2.setCell ⟨Q, 8, none⟩ (.slice b8 a.dir.length d8) := ⟨_, rfl⟩
  have ok2 := ok1.over (i := 8) (x := .slice b8 a.dir.length d8) g2 A1' (by decide)
  have of2 := of1.over (i := 8) (x := .slice b8 a.dir.length d8) g2 A1' (by decide)
  have ou2 := ou1.over (i := 8) (x := .slice b8 a.dir.length d8) g2 A1' (by decide)
  rw [← hW2] at A2 G2 p8 ok2 of2 ou2
  -- the safe ones
  have h2 := h.new G2
  obtain ⟨v9, w3, run9, o9, g3⟩ := copy_names r.safe a.safe W2 h2.rows.rs.1 ls
  obtain ⟨b9, d9, rfl⟩ := rowForm o9
  have A2' := A2.kept g3 (by simp)
  have A3 := A2'.s9 (.slice b9 a.safe.length d9)
  have G3 := st 9 (.slice b9 a.safe.length d9) (G2.trans g3)
  have p9 := (nw G2 o9).setq (by decide) A2' 9 (.slice b9 a.safe.length d9)
  have p8' := p8.over (i := 9) (x := .slice b9 a.safe.length d9) g3 A2' (by decide)
  have ok3 := ok2.over (i := 9) (x := .slice b9 a.safe.length d9) g3 A2' (by decide)
  have of3 := of2.over (i := 9) (x := .slice b9 a.safe.length d9) g3 A2' (by decide)
  have ou3 := ou2.over (i := 9) (x := .slice b9 a.safe.length d9) g3 A2' (by decide)
  obtain ⟨W3, hW3⟩ : ∃ W3, W3 = w3.setCell ⟨Q, 9, none⟩ (.slice b9 a.safe.length d9) := ⟨_, rfl⟩
  rw [← hW3] at A3 G3 p9 p8' ok3 of3 ou3
  -- the moves
  have h3 := h.new G3
  obtain ⟨v10, w4, run10, o10, g4⟩ := copy_moves r.moves a.moves W3 h3.rows.rm.1 lm
  obtain ⟨b10, d10, rfl⟩ := rowForm o10
  have A3' := A3.kept g4 (by simp)
  have A4 := A3'.s10 (.slice b10 a.moves.length d10)
  have G4 := st 10 (.slice b10 a.moves.length d10) (G3.trans g4)
  have p10 := (nw G3 o10).setq (by decide) A3' 10 (.slice b10 a.moves.length d10)
  have p8'' := p8'.over (i := 10) (x := .slice b10 a.moves.length d10) g4 A3' (by decide)
  have p9' := p9.over (i := 10) (x := .slice b10 a.moves.length d10) g4 A3' (by decide)
  have ok4 := ok3.over (i := 10) (x := .slice b10 a.moves.length d10) g4 A3' (by decide)
  have of4 := of3.over (i := 10) (x := .slice b10 a.moves.length d10) g4 A3' (by decide)
  have ou4 := ou3.over (i := 10) (x := .slice b10 a.moves.length d10) g4 A3' (by decide)
  obtain ⟨W4, hW4⟩ : ∃ W4, W4 = w4.setCell ⟨Q, 10, none⟩ (.slice b10 a.moves.length d10) := ⟨_, rfl⟩
  rw [← hW4] at A4 G4 p10 p8'' p9' ok4 of4 ou4
  -- the nodes
  have h4 := h.new G4
  have hrn := h4.rows.rn.1
  rw [← h.rows.vl] at hrn
  obtain ⟨v7, w5, run7, o7, g5⟩ := copy_nodes r.nodes vs W4 h4.rows.one hrn (by rw [h.rows.vl]; exact ln)
  rw [h.rows.vl] at o7
  obtain ⟨b7, d7, rfl⟩ := rowForm o7
  have A4' := A4.kept g5 (by simp)
  have A5 := A4'.s7 (.slice b7 a.nodes.length d7)
  have G5 := st 7 (.slice b7 a.nodes.length d7) (G4.trans g5)
  have p7 := (nw G4 o7).setq (by decide) A4' 7 (.slice b7 a.nodes.length d7)
  have p8z := p8''.over (i := 7) (x := .slice b7 a.nodes.length d7) g5 A4' (by decide)
  have p9z := p9'.over (i := 7) (x := .slice b7 a.nodes.length d7) g5 A4' (by decide)
  have p10z := p10.over (i := 7) (x := .slice b7 a.nodes.length d7) g5 A4' (by decide)
  have ok5 := ok4.over (i := 7) (x := .slice b7 a.nodes.length d7) g5 A4' (by decide)
  have of5 := of4.over (i := 7) (x := .slice b7 a.nodes.length d7) g5 A4' (by decide)
  have ou5 := ou4.over (i := 7) (x := .slice b7 a.nodes.length d7) g5 A4' (by decide)
  obtain ⟨W5, hW5⟩ : ∃ W5, W5 = w5.setCell ⟨Q, 7, none⟩ (.slice b7 a.nodes.length d7) := ⟨_, rfl⟩
  rw [← hW5] at A5 G5 p7 p8z p9z p10z ok5 of5 ou5
  have h5 := h.new G5
  have fin : RefOk (RD R DX) (fun k => w.heap.size ≤ k) W5 Q a _ vs := ⟨A5, hQ, rfl, rfl, h.count, h.died, ⟨ok5, of5, ou5, h.rows.vl, p7, fun i v n e1 e2 => (h5.rows.node i v n e1 e2).weak (fun b hb => .inr hb), p8z, p9z, p10z⟩⟩
  exact ⟨b8, d8, w2, b9, d9, w3, b10, d10, w4, b7, d7, w5, W2, W3, W4, W5, ⟨h1.at_.c8, run8, A1'.c8, A1'.free 8, hW2⟩, ⟨h2.at_.c9, run9, A2'.c9, A2'.free 9, hW3⟩, ⟨h3.at_.c10, run10, A3'.c10, A3'.free 10, hW4⟩, ⟨h4.at_.c7, run7, A4'.c7, A4'.free 7, hW5⟩, ⟨_, fin.bound⟩, G5⟩
end
end Go.Proofs.YtafcgjbafihniaaGreat

/-
  LAYER 1 (fs): the reference's Clone, its walk.
-/
namespace Go.Proofs.YtafcgjbafihniaaGreat
set_option maxRecDepth 100000
variable {DX : Nat → Prop}
open Go.RowKit Go.Lib
attribute [local go_sem] Oper.semAt_some

section
variable {R : Nat → Prop} {w : World} {q N : Nat} {a : RefP} {r : RefV} {vs : List (Value × Value)}
set_option maxHeartbeats 8000000 in
theorem rclone_any (h : RefOk DX R w q a r vs) (I : RInv N a) (hN : N ≤ 2199023255552) :
    Calls Tryz.prog 30 #[.pointer (some ⟨q, 0, none⟩)] w fun e w' => ∃ Q r', e = .returned (.pointer (some ⟨Q, 0, none⟩)) ∧ RefOk (RD R DX) (fun k => w.heap.size ≤ k ∧ k < w'.heap.size) w' Q a r' vs ∧ w.grownBy w' none := by
  have hql := lt_of_block h.at_
  obtain ⟨crash, vk, vf, vu, room, count, died, vn, vd, vz, vm⟩ := r
  obtain ⟨ak, ck, ek⟩ := h.rows.rk.form
  obtain ⟨af, cf, ef⟩ := h.rows.rf.form
  obtain ⟨au, cu, eu⟩ := h.rows.ru.form
  obtain ⟨an, cn, en⟩ := h.rows.rn.form
  obtain ⟨ad, cd, ed⟩ := h.rows.rd.form
  obtain ⟨az, cz, ez⟩ := h.rows.rs.form
  obtain ⟨am, cm, em⟩ := h.rows.rm.form
  have e1 := h.crash
  have e2 := h.room
  dsimp only at ek ef eu en ed ez em e1 e2
  subst ek ef eu en ed ez em
  obtain ⟨nk, hnk⟩ : ∃ n, n = a.pl.keep.length := ⟨_, rfl⟩
  obtain ⟨nf, hnf⟩ : ∃ n, n = a.pl.fail.length := ⟨_, rfl⟩
  obtain ⟨nu, hnu⟩ : ∃ n, n = a.pl.full.length := ⟨_, rfl⟩
  obtain ⟨nn, hnn⟩ : ∃ n, n = a.nodes.length := ⟨_, rfl⟩
  obtain ⟨nd, hnd⟩ : ∃ n, n = a.dir.length := ⟨_, rfl⟩
  obtain ⟨nz, hnz⟩ : ∃ n, n = a.safe.length := ⟨_, rfl⟩
  obtain ⟨nm, hnm⟩ : ∃ n, n = a.moves.length := ⟨_, rfl⟩
  rw [← hnk, ← hnf, ← hnu, ← hnn, ← hnd, ← hnz, ← hnm] at h
  have rest := fun (Q : Nat) (w1 W1 : World) (k' f' u' : Value) (hQ : w.heap.size ≤ Q) (hqQ : q ≠ Q) => clone_rest (Q := Q) (w1 := w1) (W1 := W1) (k' := k') (f' := f') (u' := u') h hQ hqQ
  dsimp only at rest
  rw [← hnd, ← hnz, ← hnm, ← hnn, ← hnk, ← hnf, ← hnu] at rest
  have x0 := h.at_.c0
  have x1 := h.at_.c1
  have x2 := h.at_.c2
  have x3 := h.at_.c3
  have x4 := h.at_.c4
  have x5 := h.at_.c5
  have x6 := h.at_.c6
  have x7 := h.at_.c7
  have x8 := h.at_.c8
  have x9 := h.at_.c9
  have x10 := h.at_.c10
  dsimp only at x0 x1 x2 x3 x4 x5 x6 x7 x8 x9 x10
  obtain ⟨Q, hQ⟩ : ∃ Q, Q = w.heap.size := ⟨_, rfl⟩
  obtain ⟨W0, hW0⟩ : ∃ W0, W0 = w.alloc (.cells #[.int .i64 crash, .slice ak nk ck, .slice af nf cf, .slice au nu cu, .int .i64 room, .int .i64 count, .bool died, .slice an nn cn, .slice ad nd cd, .slice az nz cz, .slice am nm cm] 84) := ⟨_, rfl⟩
  have g0 : w.grownBy W0 none := by rw [hW0]; exact World.grownBy_alloc w _ none
  have hA : RefAt W0 Q ⟨crash, .slice ak nk ck, .slice af nf cf, .slice au nu cu, room, count, died, .slice an nn cn, .slice ad nd cd, .slice az nz cz, .slice am nm cm⟩ := by rw [hW0, hQ]; exact World.alloc_heap_new w _
  have h0 := h.new g0
  have y0 := h0.at_.c0
  have y1 := h0.at_.c1
  have y2 := h0.at_.c2
  have y3 := h0.at_.c3
  have y4 := h0.at_.c4
  dsimp only at y0 y1 y2 y3 y4
  have ik : Ints W0 (.slice ak nk ck) a.pl.keep := ints_of_own h0.rows.rk.1
  have iF : Ints W0 (.slice af nf cf) a.pl.fail := ints_of_own h0.rows.rf.1
  have iu : Ints W0 (.slice au nu cu) a.pl.full := ints_of_own h0.rows.ru.1
  have hP := rplan_any (.slice ak nk ck) (.slice af nf cf) (.slice au nu cu) a.pl W0 ik iF iu I.pl.1 I.pl.2.1 I.pl.2.2.1
  rw [← e1, ← e2, ← hnk, ← hnf, ← hnu] at hP
  have hfin : Hid (∀ (w1 : World) (k' f' u' : Value), w1.ownsRow W0.heap.size 3 1 k' nk (a.pl.keep.map intV) → w1.ownsRow W0.heap.size 3 1 f' nf (a.pl.fail.map intV) → w1.ownsRow W0.heap.size 3 1 u' nu (a.pl.full.map intV) → W0.grownBy w1 none → ∃ W1, W1 = ((((w1.setCell ⟨Q, 0, none⟩ (.int .i64 crash)).setCell ⟨Q, 1, none⟩ k').setCell ⟨Q, 2, none⟩ f').setCell ⟨Q, 3, none⟩ u').setCell ⟨Q, 4, none⟩ (.int .i64 room) ∧
      ∃ b8 d8 w2 b9 d9 w3 b10 d10 w4 b7 d7 w5 W2 W3 W4 W5,
      (W1.cell? ⟨q, 8, none⟩ = some (.slice ad nd cd) ∧ (Builtin.append_ #[81, 81] 81 #[.slice none 0 0, (.slice ad nd cd)]).run Tryz.prog W1 = .ok (.slice b8 nd d8) w2 ∧ w2.cell? ⟨Q, 8, none⟩ = some (.slice ad nd cd) ∧ w2.frozen? ⟨Q, 8, none⟩ = false ∧ W2 = w2.setCell ⟨Q, 8, none⟩ (.slice b8 nd d8)) ∧
      (W2.cell? ⟨q, 9, none⟩ = some (.slice az nz cz) ∧ (Builtin.append_ #[81, 81] 81 #[.slice none 0 0, (.slice az nz cz)]).run Tryz.prog W2 = .ok (.slice b9 nz d9) w3 ∧ w3.cell? ⟨Q, 9, none⟩ = some (.slice az nz cz) ∧ w3.frozen? ⟨Q, 9, none⟩ = false ∧ W3 = w3.setCell ⟨Q, 9, none⟩ (.slice b9 nz d9)) ∧
      (W3.cell? ⟨q, 10, none⟩ = some (.slice am nm cm) ∧ (Builtin.append_ #[82, 82] 82 #[.slice none 0 0, (.slice am nm cm)]).run Tryz.prog W3 = .ok (.slice b10 nm d10) w4 ∧ w4.cell? ⟨Q, 10, none⟩ = some (.slice am nm cm) ∧ w4.frozen? ⟨Q, 10, none⟩ = false ∧ W4 = w4.setCell ⟨Q, 10, none⟩ (.slice b10 nm d10)) ∧
      (W4.cell? ⟨q, 7, none⟩ = some (.slice an nn cn) ∧ (Builtin.append_ #[80, 80] 80 #[.slice none 0 0, (.slice an nn cn)]).run Tryz.prog W4 = .ok (.slice b7 nn d7) w5 ∧ w5.cell? ⟨Q, 7, none⟩ = some (.slice an nn cn) ∧ w5.frozen? ⟨Q, 7, none⟩ = false ∧ W5 = w5.setCell ⟨Q, 7, none⟩ (.slice b7 nn d7)) ∧
      Hid ((∃ r', RefOk (RD R DX) (fun k => w.heap.size ≤ k ∧ k < W5.heap.size) W5 Q a r' vs) ∧ w.grownBy W5 none)) := Lib.hid fun w1 k' f' u' ok of ou g1 => by
    have row : ∀ {v : Value} {n : Nat} {xs : List Value}, w1.ownsRow W0.heap.size 3 1 v n xs → OwnR (fun k => w.heap.size ≤ k) w1 3 1 v n xs := fun {v n xs} o => OwnR.of o (fun b h1 _ => Nat.le_trans g0.size h1)
    obtain ⟨b8, d8, w2, b9, d9, w3, b10, d10, w4, b7, d7, w5, W2, W3, W4, W5, k1, k2, k3, k4, k5⟩ := rest Q w1 _ k' f' u' (by omega) (by omega) (g0.trans g1) (hA.kept g1 (by simp)) (row ok) (row of) (row ou)
      (by have := I.dirOk.len; omega) (by have := I.safeOk.len; omega) (by have := I.ml; omega) (by have := I.nl; omega) rfl
    rw [← e1, ← e2] at k1
    exact ⟨_, rfl, b8, d8, w2, b9, d9, w3, b10, d10, w4, b7, d7, w5, W2, W3, W4, W5, k1, k2, k3, k4, Lib.hid k5⟩
  have hA5 : Hid (∀ w1, W0.grownBy w1 none → RefAt w1 Q ⟨crash, .slice ak nk ck, .slice af nf cf, .slice au nu cu, room, count, died, .slice an nn cn, .slice ad nd cd, .slice az nz cz, .slice am nm cm⟩) := Lib.hid fun w1 g => hA.kept g (by simp)
  clear rest ik iF iu h0 hA h I hN
  replace hnk := Lib.hid hnk
  replace hnf := Lib.hid hnf
  replace hnu := Lib.hid hnu
  replace hnn := Lib.hid hnn
  replace hnd := Lib.hid hnd
  replace hnz := Lib.hid hnz
  replace hnm := Lib.hid hnm
  replace e1 := Lib.hid e1
  replace e2 := Lib.hid e2
  subst hQ
  replace hW0 := Lib.hid hW0
  replace g0 := Lib.hid g0
  go_enter Tryz.func30, Tryz.ntmps30
  go_upto_region 2 with fail
  rw [← hW0.out]
  clear x0 x1 x2 x3 x4 x5 x6 x7 x8 x9 x10
  go_upto_region 3 with
    (go_at_call 38
     refine hP.mono ?_
     clear hP
     rintro e w1 ⟨k', f', u', rfl, ok, of, ou, g1⟩
     obtain ⟨bk, dk, rfl⟩ := rowForm ok
     obtain ⟨bf, df, rfl⟩ := rowForm of
     obtain ⟨bu, du, rfl⟩ := rowForm ou
     have A0 := hA5.out w1 g1
     obtain ⟨W1, hW1, b8, d8, w2, b9, d9, w3, b10, d10, w4, b7, d7, w5, W2, W3, W4, W5, ⟨p1, run1, p2, p3, hW2⟩, ⟨r1, run2, r2, r3, hW3⟩, ⟨s1, run3, s2, s3, hW4⟩, ⟨t1, run4, t2, t3, hW5⟩, FF⟩ := hfin.out w1 _ _ _ ok of ou g1
     clear hfin hA5 ok of ou g1
     have A1 : RefAt (w1.setCell ⟨w.heap.size, 0, none⟩ (.int .i64 crash)) w.heap.size { crash := crash, k := .slice ak nk ck, f := .slice af nf cf, u := .slice au nu cu, room := room, count := count, died := died, nodes := .slice an nn cn, dir := .slice ad nd cd, safe := .slice az nz cz, moves := .slice am nm cm } := heap_setCell_same w1 _ 0 _ _ _ A0
     have A2 : RefAt ((w1.setCell ⟨w.heap.size, 0, none⟩ (.int .i64 crash)).setCell ⟨w.heap.size, 1, none⟩ (.slice bk nk dk)) w.heap.size { crash := crash, k := .slice bk nk dk, f := .slice af nf cf, u := .slice au nu cu, room := room, count := count, died := died, nodes := .slice an nn cn, dir := .slice ad nd cd, safe := .slice az nz cz, moves := .slice am nm cm } := heap_setCell_same _ _ 1 _ _ _ A1
     have A3 : RefAt (((w1.setCell ⟨w.heap.size, 0, none⟩ (.int .i64 crash)).setCell ⟨w.heap.size, 1, none⟩ (.slice bk nk dk)).setCell ⟨w.heap.size, 2, none⟩ (.slice bf nf df)) w.heap.size { crash := crash, k := .slice bk nk dk, f := .slice bf nf df, u := .slice au nu cu, room := room, count := count, died := died, nodes := .slice an nn cn, dir := .slice ad nd cd, safe := .slice az nz cz, moves := .slice am nm cm } := heap_setCell_same _ _ 2 _ _ _ A2
     have A4 : RefAt ((((w1.setCell ⟨w.heap.size, 0, none⟩ (.int .i64 crash)).setCell ⟨w.heap.size, 1, none⟩ (.slice bk nk dk)).setCell ⟨w.heap.size, 2, none⟩ (.slice bf nf df)).setCell ⟨w.heap.size, 3, none⟩ (.slice bu nu du)) w.heap.size { crash := crash, k := .slice bk nk dk, f := .slice bf nf df, u := .slice bu nu du, room := room, count := count, died := died, nodes := .slice an nn cn, dir := .slice ad nd cd, safe := .slice az nz cz, moves := .slice am nm cm } := heap_setCell_same _ _ 3 _ _ _ A3
     have a0 := A0.c0
     have b0 := A0.free 0
     have a1 := A1.c1
     have b1 := A1.free 1
     have a2 := A2.c2
     have b2 := A2.free 2
     have a3 := A3.c3
     have b3 := A3.free 3
     have a4 := A4.c4
     have b4 := A4.free 4
     clear A0 A1 A2 A3 A4
     replace hW1 := Lib.hid hW1
     replace hW2 := Lib.hid hW2
     replace hW3 := Lib.hid hW3
     replace hW4 := Lib.hid hW4
     replace hW5 := Lib.hid hW5)
  rw [← hW1.out]
  go_upto_region 4 with (at_builtin; refine wpList_app_run rfl _ _ 81 rfl (.slice none 0 0) _ rfl rfl run1 ?_)
  rw [← hW2.out]
  go_upto_region 5 with (at_builtin; refine wpList_app_run rfl _ _ 81 rfl (.slice none 0 0) _ rfl rfl run2 ?_)
  rw [← hW3.out]
  go_upto_region 6 with (at_builtin; refine wpList_app_run rfl _ _ 82 rfl (.slice none 0 0) _ rfl rfl run3 ?_)
  rw [← hW4.out]
  go_upto_region 7 with (at_builtin; refine wpList_app_run rfl _ _ 80 rfl (.slice none 0 0) _ rfl rfl run4 ?_)
  rw [← hW5.out]
  go_wp2_with fail
  go_ret
  obtain ⟨⟨r', hr⟩, hg⟩ := FF.out
  exact ⟨_, _, rfl, hr, hg⟩
end
end Go.Proofs.YtafcgjbafihniaaGreat

/-
  LAYER 1 (fs): a file system and its reference, with a clone of each that goes on: what they are step by step.
-/
namespace Go.Proofs.YtafcgjbafihniaaGreat
set_option maxRecDepth 100000
open Go.RowKit Go.Lib

/-- The elder two behind L; the clones behind M more. -/
structure Twin (w : World) (L M : List OpP) (p : Pl) (W : World) (f q g o : Nat) (F R G S : Nat → Prop) : Prop where
  old : Made w L p W f q F R
  both : Both R G S W g o (M.foldl RefP.op (L.foldl RefP.op (RefP.new p))) (M.foldl RefP.op (L.foldl RefP.op (RefP.new p)))
  inv : RInv (L.length + M.length) (M.foldl RefP.op (L.foldl RefP.op (RefP.new p)))
  gl : ∀ k, G k → w.heap.size ≤ k
  sl : ∀ k, S k → w.heap.size ≤ k
  ap : ∀ k, G k ∨ S k → ¬ F k ∧ ¬ R k
section
variable {w W W' : World} {L M : List OpP} {p : Pl} {f q g o : Nat} {F R G S : Nat → Prop} {x : OpP}
theorem Made.kept {P : Nat → Prop} (H : Made w L p W f q F R) (gp : GP P W W') (h1 : ∀ k, P k → w.heap.size ≤ k) (h2 : ∀ k, P k → ¬ F k ∧ ¬ R k) : Made w L p W' f q F R :=
  ⟨H.both.kept gp (fun k hk => (h2 k hk).1) (fun k hk => (h2 k hk).2) (fun _ _ h => h), H.inv, grown_gp H.grown gp h1, H.fl, H.rl⟩
theorem Twin.new (T : Twin w L M p W f q g o F R G S) (gr : W.grownBy W' none) : Twin w L M p W' f q g o F R G S :=
  ⟨T.old.new gr, T.both.new gr, T.inv, T.gl, T.sl, T.ap⟩
theorem Twin.step (T : Twin w L M p W f q g o F R G S) (hx : x.Fits) (H : Stepped R G S W g o ((M.foldl RefP.op (L.foldl RefP.op (RefP.new p))).op x) W') : ∃ G' S', Twin w L (M ++ [x]) p W' f q g o F R G' S' := by
  obtain ⟨G', S', H, gp, h1, h2⟩ := H
  have hs := T.old.grown.size
  have e : (M ++ [x]).foldl RefP.op (L.foldl RefP.op (RefP.new p)) = (M.foldl RefP.op (L.foldl RefP.op (RefP.new p))).op x := by rw [List.foldl_append]; rfl
  refine ⟨G', S', T.old.kept gp (fun k hk => hk.elim (T.gl k) (T.sl k)) T.ap, ?_, ?_, fun k hk => ?_, fun k hk => ?_, fun k hk => ?_⟩
  · rw [e]
    exact H
  · rw [e, List.length_append, ← Nat.add_assoc]
    exact T.inv.op x hx
  · rcases h1 k hk with h | h
    · exact T.gl k h
    · omega
  · rcases h2 k hk with h | h
    · exact T.sl k h
    · omega
  · have hn : W.heap.size ≤ k → ¬ F k ∧ ¬ R k := fun h => ⟨fun hf => by have := T.old.both.fl k hf; omega, fun hr => by have := T.old.both.rl k hr; omega⟩
    rcases hk with hk | hk
    · exact (h1 k hk).elim (fun h => T.ap k (.inl h)) hn
    · exact (h2 k hk).elim (fun h => T.ap k (.inr h)) hn
theorem Twin.do {v : Value} (T : Twin w L M p W f q g o F R G S) (hO : ∃ da dc a1 c1 a2 c2 a3 c3, v = .agg (opCells x.kind x.name x.dest (.slice da x.data.length dc) x.n x.plan.crash (.slice a1 x.plan.keep.length c1) (.slice a2 x.plan.fail.length c2) (.slice a3 x.plan.full.length c3) x.plan.room) ∧ ReadsF w (.slice da x.data.length dc) x.data ∧ Ints w (.slice a1 x.plan.keep.length c1) x.plan.keep ∧ Ints w (.slice a2 x.plan.fail.length c2) x.plan.fail ∧ Ints w (.slice a3 x.plan.full.length c3) x.plan.full) (hx : x.Fits) (hN : L.length + M.length ≤ 2199023255552) :
    Calls Tryz.prog 14 #[.pointer (some ⟨g, 0, none⟩), .pointer (some ⟨o, 0, none⟩), v] W fun e w' => e = .returned (.bool true) ∧ ∃ G' S', Twin w L (M ++ [x]) p w' f q g o F R G' S' := by
  obtain ⟨da, dc, a1, c1, a2, c2, a3, c3, rfl, k1, k2, k3, k4⟩ := hO
  refine (do_any x _ T.both T.inv hN hx ⟨da, dc, _, _, _, rfl, fun W' gp => ?_⟩).mono ?_
  · have g2 := grown_gp T.old.grown gp (fun k hk => hk.elim (T.gl k) (T.sl k))
    exact ⟨k1.more g2, k2.all g2, k3.all g2, k4.all g2⟩
  · rintro e w' ⟨rfl, H⟩
    exact ⟨rfl, T.step hx H⟩
theorem Twin.same (T : Twin w L M p W f q g o F R G S) (hN : L.length + M.length ≤ 2199023255552) :
    Calls Tryz.prog 15 #[.pointer (some ⟨g, 0, none⟩), .pointer (some ⟨o, 0, none⟩)] W fun e w' => e = .returned (.bool true) ∧ W.grownBy w' none := same_any T.both T.inv hN
theorem Made.same (H : Made w L p W f q F R) (hN : L.length ≤ 2199023255552) :
    Calls Tryz.prog 15 #[.pointer (some ⟨f, 0, none⟩), .pointer (some ⟨q, 0, none⟩)] W fun e w' => e = .returned (.bool true) ∧ W.grownBy w' none := same_any H.both H.inv hN
/-- The program's clone: beside the elder reference it tells the same. -/
theorem Made.clone (H : Made w L p W f q F R) (hp : planFits p) (hf : ∀ x ∈ L, x.Fits) (hN : L.length ≤ 2199023255552) :
    Calls Tryz.prog 29 #[.pointer (some ⟨f, 0, none⟩)] W fun e w' => ∃ g, e = .returned (.pointer (some ⟨g, 0, none⟩)) ∧ W.grownBy w' none ∧ Made w L p w' f q F R ∧ Both (fun _ => False) (fun k => W.heap.size ≤ k ∧ k < w'.heap.size) R w' g q (L.foldl RefP.op (RefP.new p)) (L.foldl RefP.op (RefP.new p)) := by
  refine (H.both.fs.clone (made_fresh hp hf (RInv.new p hp) (Fresh.new p)) H.inv hN).mono ?_
  rintro e w' ⟨g, rfl, S1, gr⟩
  have H' := H.new gr
  exact ⟨g, rfl, gr, H', ⟨S1.re (fun k h1 h2 => ⟨h2, h1⟩), H'.both.rf, fun k hk => hk.2, H'.both.rl, fun k hk hr => by have := H.both.rl k hr; omega, fun _ h => h.elim, fun _ _ h => h⟩⟩
/-- The reference's clone beside the program's. -/
theorem Made.twins {g : Nat} {G : Nat → Prop} {B : Nat} (H : Made w L p W f q F R) (C : Both (fun _ => False) G R W g q (L.foldl RefP.op (RefP.new p)) (L.foldl RefP.op (RefP.new p))) (hG : ∀ k, G k → B ≤ k) (hB : w.heap.size ≤ B) (hF : ∀ k, F k → k < B) :
    (hN : L.length ≤ 2199023255552) → Calls Tryz.prog 30 #[.pointer (some ⟨q, 0, none⟩)] W fun e w' => ∃ o S, e = .returned (.pointer (some ⟨o, 0, none⟩)) ∧ Twin w L [] p w' f q g o F R G S := by
  intro hN
  obtain ⟨r, vs, h⟩ := H.both.rf
  refine (rclone_any h H.inv hN).mono ?_
  rintro e w' ⟨o, r', rfl, h1, gr⟩
  have H' := H.new gr
  have C' := C.new gr
  refine ⟨o, fun k => W.heap.size ≤ k ∧ k < w'.heap.size, rfl, H', ⟨C'.fs, ⟨r', vs, ?_⟩, C'.fl, fun k hk => hk.2, fun k h1 h2 => by have := C.fl k h1; omega, H'.both.rl, C.ap⟩, by simpa using H'.inv, fun k hk => Nat.le_trans hB (hG k hk), fun k hk => ?_, fun k hk => ?_⟩
  · exact ⟨h1.at_, h1.rq, h1.crash, h1.room, h1.count, h1.died, ⟨h1.rows.rk, h1.rows.rf, h1.rows.ru, h1.rows.vl, h1.rows.rn, fun i v n e1 e2 => (h1.rows.node i v n e1 e2).weak (fun b hb => hb.imp id (fun hb => hb.elim id (fun h => h.elim))), h1.rows.rd, h1.rows.rs, h1.rows.rm⟩⟩
  · have := H.grown.size
    omega
  · rcases hk with hk | hk
    · exact ⟨fun hf => by have := hF k hf; have := hG k hk; omega, C.ap k hk⟩
    · exact ⟨fun hf => by have := H.both.fl k hf; omega, fun hr => by have := H.both.rl k hr; omega⟩
end
end Go.Proofs.YtafcgjbafihniaaGreat

/-
  LAYER 1 (fs): FsTwins, its walk.
-/
namespace Go.Proofs.YtafcgjbafihniaaGreat
set_option maxRecDepth 100000
open Go.RowKit Go.Lib Go.ChangeShapes Go.WideShapes Go.ChangeAt
attribute [local go_sem] Oper.semAt_some

set_option maxHeartbeats 16000000 in
theorem FsTwins_go (w : World) (pv v u : Value) (p : Pl) (L M : List OpP) (hp : PlanR w pv p) (hl : OpsR w v L) (h : OpsR w u M) :
    Calls Tryz.prog 7 #[pv, v, u] w fun e w' => e = .returned (.bool true) ∧ w.grownBy w' none := by
  have hL : L.length ≤ 879609302208 := by obtain ⟨_, _, _, h2, _⟩ := hl; exact h2
  have hLf : ∀ x ∈ L, x.Fits := by obtain ⟨_, _, _, _, h3, _⟩ := hl; exact h3
  obtain ⟨va, vc, hv⟩ : ∃ a c, v = .slice a L.length c := by obtain ⟨a, c, h2, _⟩ := hl; exact ⟨a, c, h2⟩
  subst hv
  have hp0 := hp
  obtain ⟨a1, c1, a2, c2, a3, c3, rfl, pf, -, -, -⟩ := hp0
  have hf1 : Hid (∀ W, w.grownBy W none → Calls Tryz.prog 11 #[.slice va L.length vc] W (SomeB W)) := Lib.hid fun W g => fits_any _ L W (hl.new g)
  have hf2 : Hid (∀ W, w.grownBy W none → Calls Tryz.prog 11 #[u] W (SomeB W)) := Lib.hid fun W g => fits_any _ M W (h.new g)
  have hma : Hid (∀ W, w.grownBy W none → Calls Tryz.prog 16 #[.agg #[.int .i64 p.crash, .slice a1 p.keep.length c1, .slice a2 p.fail.length c2, .slice a3 p.full.length c3, .int .i64 p.room], .slice va L.length vc] W fun e w' => ∃ f q F R, e = .returned (.tuple #[.pointer (some ⟨f, 0, none⟩), .pointer (some ⟨q, 0, none⟩), .bool true]) ∧ Made W L p w' f q F R) := Lib.hid fun W g => made_any _ _ p L W (hp.new g) (hl.new g)
  obtain ⟨a, c, rfl, hm, hfit, h4⟩ := h
  obtain ⟨n, hn⟩ : ∃ n, n = M.length := ⟨_, rfl⟩
  rw [← hn] at hm hf2 ⊢
  obtain ⟨ln, hln⟩ : ∃ n, n = L.length := ⟨_, rfl⟩
  rw [← hln] at hf1 hma ⊢
  obtain ⟨n1, hn1⟩ : ∃ n, n = p.keep.length := ⟨_, rfl⟩
  obtain ⟨n2, hn2⟩ : ∃ n, n = p.fail.length := ⟨_, rfl⟩
  obtain ⟨n3, hn3⟩ : ∃ n, n = p.full.length := ⟨_, rfl⟩
  rw [← hn1, ← hn2, ← hn3] at hma ⊢
  obtain ⟨W0, hW0⟩ : ∃ W0, W0 = w.alloc (.cells #[.int .i64 p.crash, .slice a1 n1 c1, .slice a2 n2 c2, .slice a3 n3 c3, .int .i64 p.room] 24) := ⟨_, rfl⟩
  have gB : w.grownBy W0 none := by rw [hW0]; exact World.grownBy_alloc w _ none
  have P0 : PlanAt W0 w.heap.size (.int .i64 p.crash) (.slice a1 n1 c1) (.slice a2 n2 c2) (.slice a3 n3 c3) (.int .i64 p.room) := by rw [hW0]; exact World.alloc_heap_new w _
  have haw := fawake_any W0
  have hops : Hid (∀ (j : Nat) (o : OpP), M[j]? = some o → ∃ b off da dc a1 c1 a2 c2 a3 c3, a = some ⟨b, off, none⟩ ∧
    (∀ W, w.grownBy W none → W.cell? ⟨b, off + j * 10, none⟩ = some (.int .i64 o.kind) ∧ W.cell? ⟨b, off + j * 10 + 1, none⟩ = some (.string o.name) ∧ W.cell? ⟨b, off + j * 10 + 2, none⟩ = some (.string o.dest) ∧ W.cell? ⟨b, off + j * 10 + 3, none⟩ = some (.slice da o.data.length dc) ∧ W.cell? ⟨b, off + j * 10 + 4, none⟩ = some (.int .i64 o.n) ∧
      W.cell? ⟨b, off + j * 10 + 5, none⟩ = some (.int .i64 o.plan.crash) ∧ W.cell? ⟨b, off + j * 10 + 6, none⟩ = some (.slice a1 o.plan.keep.length c1) ∧ W.cell? ⟨b, off + j * 10 + 7, none⟩ = some (.slice a2 o.plan.fail.length c2) ∧ W.cell? ⟨b, off + j * 10 + 8, none⟩ = some (.slice a3 o.plan.full.length c3) ∧ W.cell? ⟨b, off + j * 10 + 9, none⟩ = some (.int .i64 o.plan.room)) ∧
    ∀ W, w.grownBy W none → ReadsF W (.slice da o.data.length dc) o.data ∧ Ints W (.slice a1 o.plan.keep.length c1) o.plan.keep ∧ Ints W (.slice a2 o.plan.fail.length c2) o.plan.fail ∧ Ints W (.slice a3 o.plan.full.length c3) o.plan.full) := Lib.hid fun j o ho => by
    obtain ⟨b, off, da, dc, a1, c1, a2, c2, a3, c3, e, hc, k1, k2, k3, k4⟩ := h4 j o ho
    exact ⟨b, off, da, dc, a1, c1, a2, c2, a3, c3, e, fun W g => ⟨g.cell (hc 0 _ rfl) (by simp), g.cell (hc 1 _ rfl) (by simp), g.cell (hc 2 _ rfl) (by simp), g.cell (hc 3 _ rfl) (by simp), g.cell (hc 4 _ rfl) (by simp), g.cell (hc 5 _ rfl) (by simp), g.cell (hc 6 _ rfl) (by simp), g.cell (hc 7 _ rfl) (by simp), g.cell (hc 8 _ rfl) (by simp), g.cell (hc 9 _ rfl) (by simp)⟩, fun W g => ⟨k1.more g, k2.all g, k3.all g, k4.all g⟩⟩
  replace hn := Lib.hid hn
  replace hln := Lib.hid hln
  replace hn1 := Lib.hid hn1
  replace hn2 := Lib.hid hn2
  replace hn3 := Lib.hid hn3
  replace hfit := Lib.hid hfit
  replace hLf := Lib.hid hLf
  replace hL := Lib.hid hL
  replace gB := Lib.hid gB
  have hpf := Lib.hid pf
  clear h4 pf hl hp
  go_enter Tryz.func7, Tryz.ntmps7
  go_upto_region 1 with fail
  rw [← hW0]
  replace hW0 := Lib.hid hW0
  go_upto_region 3 with
    (go_at_call 10
     refine haw.mono ?_
     clear haw
     rintro e w1 ⟨rfl, g1⟩
     have G1 := Lib.hid (gB.out.trans g1)
     have hf3 := hf1.out w1 G1.out
     have P1 := P0.kept g1 (by simp)
     clear g1 P0)
  go_wp2_with fail
  refine hf3.mono ?_
  clear hf3
  rintro e w2 ⟨b, rfl, g2⟩
  have G2 := Lib.hid (G1.out.trans g2)
  have P2 := P1.kept g2 (by simp)
  clear g2 P1
  cases b
  · go_wp2_with fail
    go_ret
    exact ⟨rfl, G2.out⟩
  have hf4 := hf2.out w2 G2.out
  go_wp2_with fail
  refine hf4.mono ?_
  clear hf4
  rintro e w3 ⟨b, rfl, g3⟩
  have G3 := Lib.hid (G2.out.trans g3)
  have P3 := P2.kept g3 (by simp)
  have hmd := hma.out w3 G3.out
  clear g3 P2
  cases b
  · go_wp2_with fail
    go_ret
    exact ⟨rfl, G3.out⟩
  have x0 := P3.c0
  have x1 := P3.c1
  have x2 := P3.c2
  have x3 := P3.c3
  have x4 := P3.c4
  clear P3
  go_upto_region 13 with first
    | (go_at_call 16
       refine hmd.mono ?_
       clear hmd
       rintro e w4 ⟨f, q, F, R, rfl, MM⟩
       have hcl := MM.clone hpf.out hLf.out (by have := hL.out; omega)
       have hFl := Lib.hid MM.both.fl
       have hBl := Lib.hid MM.grown.size
       clear MM x0 x1 x2 x3 x4)
    | (go_at_call 29
       refine hcl.mono ?_
       clear hcl
       rintro e w5 ⟨g, rfl, g5, M5, C5⟩
       have hsm := same_any C5 M5.inv (by have := hL.out; omega)
       have H5 : Hid (Made w3 L p w5 f q F R ∧ Both (fun _ => False) (fun k => w4.heap.size ≤ k ∧ k < w5.heap.size) R w5 g q (L.foldl RefP.op (RefP.new p)) (L.foldl RefP.op (RefP.new p))) := Lib.hid ⟨M5, C5⟩
       clear M5 C5 g5)
    | (go_at_call 15
       refine hsm.mono ?_
       clear hsm
       rintro e w6 ⟨rfl, g6⟩
       have M6 := H5.out.1.new g6
       have C6 := H5.out.2.new g6
       have hrc := M6.twins C6 (fun k hk => hk.1) hBl.out hFl.out (by have := hL.out; omega)
       clear M6 C6 g6 H5)
    | (go_at_call 30
       refine hrc.mono ?_
       clear hrc
       rintro e w7 ⟨o, S, rfl, T7⟩
       have T0 : Hid (∃ G S, Twin w3 L [] p w7 f q g o F R G S) := Lib.hid ⟨_, S, T7⟩
       clear T7)
  go_loopw [13, 47] (fun _ vi wr => ∃ (j : Nat), vi = .int .i64 (j : Int) ∧ j ≤ n ∧ Hid (∃ G S, Twin w3 L (M.take j) p wr f q g o F R G S)) (fun _ vi _ => n - (RowKit.intOf vi).toNat)
  case atStart => exact ⟨0, rfl, Nat.zero_le _, T0⟩
  case round =>
    obtain ⟨j, rfl, hj, hM⟩ := hrel
    by_cases hlt : j < n
    · have hltz : (j : Int) < (n : Int) := by omega
      obtain ⟨x, ho⟩ : ∃ x, M[j]? = some x := ⟨_, List.getElem?_eq_getElem (by have := hn.out; omega)⟩
      obtain ⟨b, off, da, dc, b1, e1, b2, e2, b3, e3, rfl, hc, k1⟩ := hops.out j x ho
      obtain ⟨G, S, T⟩ := hM.out
      obtain ⟨d0, d1, d2, d3, d4, d5, d6, d7, d8, d9⟩ := hc wr (G3.out.trans T.old.grown)
      have ht : M.take (j + 1) = M.take j ++ [x] := by
        obtain ⟨q1, q2⟩ := List.getElem?_eq_some_iff.1 ho
        rw [List.take_succ_eq_append_getElem q1, q2]
      have gX := World.grownBy_alloc wr (.cells (opCells x.kind x.name x.dest (.slice da x.data.length dc) x.n x.plan.crash (.slice b1 x.plan.keep.length e1) (.slice b2 x.plan.fail.length e2) (.slice b3 x.plan.full.length e3) x.plan.room) 34) none
      obtain ⟨m1, m2, m3, m4⟩ := k1 w3 G3.out
      have hdo := (T.new gX).do (x := x) ⟨da, dc, b1, e1, b2, e2, b3, e3, rfl, m1, m2, m3, m4⟩ (hfit.out x (List.mem_of_getElem? ho)) (by rw [List.length_take]; have := hn.out; have := hL.out; omega)
      rw [← ht] at hdo
      unfold opCells at hdo
      generalize x.data.length = l0 at *
      generalize x.plan.keep.length = l1 at *
      generalize x.plan.fail.length = l2 at *
      generalize x.plan.full.length = l3 at *
      generalize x.name = nm at *
      generalize x.dest = nt at *
      generalize x.kind = kd at *
      generalize x.n = on at *
      generalize x.plan.crash = cr at *
      generalize x.plan.room = rm at *
      clear ho hc k1 m1 m2 m3 m4 T gX ht hM
      go_wp2_with
        (go_at_call 14
         refine hdo.mono ?_
         clear hdo
         rintro e w8 ⟨rfl, hM2⟩
         have HM := Lib.hid hM2
         clear hM2)
      exact ⟨⟨j + 1, by go_num, by omega, HM⟩, by simp [RowKit.intOf]; omega⟩
    · obtain rfl : j = n := by omega
      obtain ⟨G, S, T⟩ := hM.out
      have hs1 := T.same (by rw [List.length_take]; have := hn.out; have := hL.out; omega)
      have hT := Lib.hid T
      clear T hM
      go_wp2_with fail
      refine hs1.mono ?_
      clear hs1
      rintro e w8 ⟨rfl, g8⟩
      have hs2 := (hT.out.old.new g8).same (by have := hL.out; omega)
      have FF := Lib.hid (G3.out.trans (hT.out.old.grown.trans g8))
      clear g8 hT
      go_wp2_with fail
      refine hs2.mono ?_
      clear hs2
      rintro e w9 ⟨rfl, g9⟩
      go_wp2_with fail
      go_ret
      exact ⟨rfl, FF.out.trans g9⟩

theorem FsTwins_walk (w : World) (pv : Value) (p : Pl) (hp : PlanR w pv p) (v : Value) (L : List OpP) (h : OpsR w v L) (u : Value) (M : List OpP) (hu : OpsR w u M) :
    Calls Tryz.prog 7 #[pv, v, u] w fun e w' => e = .returned (.bool true) ∧ Below w.heap.size w w' := (FsTwins_go w pv v u p L M hp h hu).mono fun _ _ ⟨h1, h2⟩ => ⟨h1, gbelow h2 (Nat.le_refl _) (by simp)⟩
end Go.Proofs.YtafcgjbafihniaaGreat
