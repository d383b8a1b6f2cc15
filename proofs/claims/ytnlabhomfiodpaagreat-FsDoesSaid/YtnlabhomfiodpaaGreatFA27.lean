/-
  LAYER 1 (fs): FsDoes, its walk.
-/
import Derived.Test.YtnlabhomfiodpaaGreatFA26
import Derived.Test.YtnlabhomfiodpaaGreatFA24
namespace Go.Proofs.YtnlabhomfiodpaaGreat
set_option maxRecDepth 100000
open Go.RowKit Go.Lib Go.ChangeShapes Go.WideShapes Go.ChangeAt
attribute [local go_sem] Oper.semAt_some

set_option maxHeartbeats 16000000 in
theorem FsDoes_go (w : World) (pv v : Value) (p : Pl) (L : List OpP) (hp : PlanR w pv p) (h : OpsR w v L) :
    Calls Tryz.prog 3 #[pv, v] w fun e w' => e = .returned (.bool true) ∧ w.grownBy w' none := by
  have hfi : Hid (∀ W, w.grownBy W none → Calls Tryz.prog 11 #[v] W (SomeB W)) := Lib.hid fun W g => fits_any _ L W (h.new g)
  obtain ⟨a1, c1, a2, c2, a3, c3, rfl, pf, i1, i2, i3⟩ := hp
  obtain ⟨a, c, rfl, hm, hfit, h4⟩ := h
  obtain ⟨n, hn⟩ : ∃ n, n = L.length := ⟨_, rfl⟩
  rw [← hn] at hm hfi ⊢
  obtain ⟨n1, hn1⟩ : ∃ n, n = p.keep.length := ⟨_, rfl⟩
  obtain ⟨n2, hn2⟩ : ∃ n, n = p.fail.length := ⟨_, rfl⟩
  obtain ⟨n3, hn3⟩ : ∃ n, n = p.full.length := ⟨_, rfl⟩
  rw [← hn1] at i1 ⊢
  rw [← hn2] at i2 ⊢
  rw [← hn3] at i3 ⊢
  obtain ⟨W0, hW0⟩ : ∃ W0, W0 = w.alloc (.cells #[.int .i64 p.crash, .slice a1 n1 c1, .slice a2 n2 c2, .slice a3 n3 c3, .int .i64 p.room] 24) := ⟨_, rfl⟩
  have gB : w.grownBy W0 none := by rw [hW0]; exact World.grownBy_alloc w _ none
  have P0 : PlanAt W0 w.heap.size (.int .i64 p.crash) (.slice a1 n1 c1) (.slice a2 n2 c2) (.slice a3 n3 c3) (.int .i64 p.room) := by rw [hW0]; exact World.alloc_heap_new w _
  have haw := fawake_any W0
  have hS : Hid (∀ V, W0.grownBy V none → V.cell? ⟨w.heap.size, 0, none⟩ = some (.int .i64 p.crash) ∧ V.cell? ⟨w.heap.size, 1, none⟩ = some (.slice a1 n1 c1) ∧ V.cell? ⟨w.heap.size, 2, none⟩ = some (.slice a2 n2 c2) ∧ V.cell? ⟨w.heap.size, 3, none⟩ = some (.slice a3 n3 c3) ∧ V.cell? ⟨w.heap.size, 4, none⟩ = some (.int .i64 p.room)) := Lib.hid fun V g => by
    have P2 := P0.kept g (by simp)
    exact ⟨P2.c0, P2.c1, P2.c2, P2.c3, P2.c4⟩
  have hnew : Hid (∀ V, w.grownBy V none → Calls Tryz.prog 12 #[.agg #[.int .i64 p.crash, .slice a1 n1 c1, .slice a2 n2 c2, .slice a3 n3 c3, .int .i64 p.room]] V fun e w' => ∃ f, e = .returned (.pointer (some ⟨f, 0, none⟩)) ∧ FsSim (fun k => V.heap.size ≤ k ∧ k < w'.heap.size) w' f (RefP.new p) ∧ V.grownBy w' none) := Lib.hid fun V g => by
    refine (FsSim.new (.slice a1 n1 c1) (.slice a2 n2 c2) (.slice a3 n3 c3) p V (i1.all g) (i2.all g) (i3.all g) pf).mono ?_
    rintro e w1 ⟨f, rfl, S1, g1⟩
    exact ⟨f, rfl, S1.re (fun k h1 h2 => ⟨h2, h1⟩), g1⟩
  have hrnew : Hid (∀ V, w.grownBy V none → Calls Tryz.prog 13 #[.agg #[.int .i64 p.crash, .slice a1 n1 c1, .slice a2 n2 c2, .slice a3 n3 c3, .int .i64 p.room]] V fun e w' => ∃ q r, e = .returned (.pointer (some ⟨q, 0, none⟩)) ∧ RefOk (fun k => V.heap.size ≤ k ∧ k < w'.heap.size) w' q (RefP.new p) r [] ∧ V.grownBy w' none) := Lib.hid fun V g => rnew_any _ _ _ p V (i1.all g) (i2.all g) (i3.all g) pf.1 pf.2.1 pf.2.2.1
  have hops : Hid (∀ (j : Nat) (o : OpP), L[j]? = some o → ∃ b off da dc a1 c1 a2 c2 a3 c3, a = some ⟨b, off, none⟩ ∧
    (∀ W, w.grownBy W none → W.cell? ⟨b, off + j * 10, none⟩ = some (.int .i64 o.kind) ∧ W.cell? ⟨b, off + j * 10 + 1, none⟩ = some (.string o.name) ∧ W.cell? ⟨b, off + j * 10 + 2, none⟩ = some (.string o.dest) ∧ W.cell? ⟨b, off + j * 10 + 3, none⟩ = some (.slice da o.data.length dc) ∧ W.cell? ⟨b, off + j * 10 + 4, none⟩ = some (.int .i64 o.n) ∧
      W.cell? ⟨b, off + j * 10 + 5, none⟩ = some (.int .i64 o.plan.crash) ∧ W.cell? ⟨b, off + j * 10 + 6, none⟩ = some (.slice a1 o.plan.keep.length c1) ∧ W.cell? ⟨b, off + j * 10 + 7, none⟩ = some (.slice a2 o.plan.fail.length c2) ∧ W.cell? ⟨b, off + j * 10 + 8, none⟩ = some (.slice a3 o.plan.full.length c3) ∧ W.cell? ⟨b, off + j * 10 + 9, none⟩ = some (.int .i64 o.plan.room)) ∧
    ReadsF w (.slice da o.data.length dc) o.data ∧ Ints w (.slice a1 o.plan.keep.length c1) o.plan.keep ∧ Ints w (.slice a2 o.plan.fail.length c2) o.plan.fail ∧ Ints w (.slice a3 o.plan.full.length c3) o.plan.full) := Lib.hid fun j o ho => by
    obtain ⟨b, off, da, dc, a1, c1, a2, c2, a3, c3, e, hc, k1, k2, k3, k4⟩ := h4 j o ho
    exact ⟨b, off, da, dc, a1, c1, a2, c2, a3, c3, e, fun W g => ⟨g.cell (hc 0 _ rfl) (by simp), g.cell (hc 1 _ rfl) (by simp), g.cell (hc 2 _ rfl) (by simp), g.cell (hc 3 _ rfl) (by simp), g.cell (hc 4 _ rfl) (by simp), g.cell (hc 5 _ rfl) (by simp), g.cell (hc 6 _ rfl) (by simp), g.cell (hc 7 _ rfl) (by simp), g.cell (hc 8 _ rfl) (by simp), g.cell (hc 9 _ rfl) (by simp)⟩, k1, k2, k3, k4⟩
  replace hn := Lib.hid hn
  replace hn1 := Lib.hid hn1
  replace hn2 := Lib.hid hn2
  replace hn3 := Lib.hid hn3
  replace hfit := Lib.hid hfit
  replace gB := Lib.hid gB
  have hpf := Lib.hid pf
  clear P0 i1 i2 i3 h4 pf
  go_enter Tryz.func3, Tryz.ntmps3
  go_upto_region 1 with fail
  rw [← hW0]
  replace hW0 := Lib.hid hW0
  go_upto_region 3 with
    (go_at_call 10
     refine haw.mono ?_
     clear haw
     rintro e w1 ⟨rfl, g1⟩
     have h01 := Lib.hid g1
     have G1 := Lib.hid (gB.out.trans g1)
     have hf1 := hfi.out w1 G1.out
     clear g1)
  go_wp2_with fail
  refine hf1.mono ?_
  clear hf1
  rintro e w2 ⟨b, rfl, g2⟩
  have h02 := Lib.hid (h01.out.trans g2)
  have G2 := Lib.hid (G1.out.trans g2)
  clear g2
  cases b
  · go_wp2_with fail
    go_ret
    exact ⟨rfl, G2.out⟩
  go_upto_region 5 with fail
  have gd := gdrew (World.grownBy.refl w2 none)
  have s0 := hS.out _ (h02.out.trans gd)
  have h0d := Lib.hid (h02.out.trans gd)
  have g0d := Lib.hid (G2.out.trans gd)
  have hn0 := hnew.out _ g0d.out
  clear gd
  refine wp_region_held_drew (S := fun V => V.cell? ⟨w.heap.size, 0, none⟩ = some (.int .i64 p.crash) ∧ V.cell? ⟨w.heap.size, 1, none⟩ = some (.slice a1 n1 c1) ∧ V.cell? ⟨w.heap.size, 2, none⟩ = some (.slice a2 n2 c2) ∧ V.cell? ⟨w.heap.size, 3, none⟩ = some (.slice a3 n3 c3) ∧ V.cell? ⟨w.heap.size, 4, none⟩ = some (.int .i64 p.room)) (by kernel_rfl) s0 (fun hS0 => ?_)
  refine wpAnyH_take (i := 0) (oi := ⟨some 14, _, _, _, _, _⟩) (v := ?_) rfl (by kernel_rfl) (by kernel_rfl) (by kernel_rfl) (fun _ _ _ h => h) (Or.inl ⟨by rfl, ?_⟩) (by assumption) ?_
  rotate_left
  · (intro w hSw; (try dsimp only at hSw); go_simp; try with_reducible rfl)
  try simp only [Act.put, List.setIfInBounds_toArray, List.set_cons_zero, List.set_cons_succ]
  refine wpAnyH_take (i := 2) (oi := ⟨some 16, _, _, _, _, _⟩) (v := ?_) rfl (by kernel_rfl) (by kernel_rfl) (by kernel_rfl) (fun _ _ _ h => h) (Or.inl ⟨by rfl, ?_⟩) (by assumption) ?_
  rotate_left
  · (intro w hSw; (try dsimp only at hSw); go_simp; try with_reducible rfl)
  try simp only [Act.put, List.setIfInBounds_toArray, List.set_cons_zero, List.set_cons_succ]
  refine wpAnyH_ready (rs := [1]) (by kernel_rfl) (by simp) ?_
  refine AllReadyH.cons rfl (fun K hK => ?_) AllReadyH.nil
  go_simp
  refine hn0.mono ?_
  clear hn0
  rintro e w3 ⟨f, rfl, S1, g3⟩
  have hr2 := hrnew.out w3 (g0d.out.trans g3)
  refine hK.out _ _ (hS.out _ (h0d.out.trans g3)) (fun _ => ?_)
  clear hK
  refine wpAnyH_ready (rs := [3]) (by kernel_rfl) (by simp) ?_
  refine AllReadyH.cons rfl (fun K hK => ?_) AllReadyH.nil
  go_simp
  refine hr2.mono ?_
  clear hr2
  rintro e w4 ⟨q, r, rfl, S2, g4⟩
  have g34 := g3.trans g4
  have M0 : Hid (∃ F R, Made w [] p w4 f q F R) := Lib.hid (by
    have hs1 := g3.size
    have hs0 := g0d.out.size
    refine ⟨fun k => w2.drew.heap.size ≤ k ∧ k < w3.heap.size, fun k => w3.heap.size ≤ k ∧ k < w4.heap.size, ⟨?_, ⟨_, _, S2⟩, fun k hk => Nat.lt_of_lt_of_le hk.2 g4.size, fun k hk => hk.2, fun k h1 h2 => by omega⟩, RInv.new p hpf.out, g0d.out.trans g34, fun k hk => by omega, fun k hk => by omega⟩
    exact S1.kept (P := fun _ => False) (GP.of g4 (by simp)) (fun _ h => h.elim))
  refine hK.out _ _ (hS.out _ (h0d.out.trans g34)) (fun _ => ?_)
  clear hK S1 S2 g3 g4 g34 s0
  refine wpAnyH_take (i := 4) (oi := ⟨some 5, _, _, _, _, _⟩) (v := ?_) rfl (by kernel_rfl) (by kernel_rfl) (by kernel_rfl) (fun _ _ _ h => h) (Or.inl ⟨by rfl, ?_⟩) (by assumption) ?_
  rotate_left
  · (intro w hSw; (try dsimp only at hSw); go_simp; try with_reducible rfl)
  try simp only [Act.put, List.setIfInBounds_toArray, List.set_cons_zero, List.set_cons_succ]
  refine wpAnyH_take (i := 5) (oi := ⟨some 6, _, _, _, _, _⟩) (v := ?_) rfl (by kernel_rfl) (by kernel_rfl) (by kernel_rfl) (fun _ _ _ h => h) (Or.inl ⟨by rfl, ?_⟩) (by assumption) ?_
  rotate_left
  · (intro w hSw; (try dsimp only at hSw); go_simp; try with_reducible rfl)
  try simp only [Act.put, List.setIfInBounds_toArray, List.set_cons_zero, List.set_cons_succ]
  refine wpAnyH_done (by kernel_rfl) ?_ _
  go_wp2_with fail
  go_loopw [8, 22] (fun _ vi wr => ∃ (j : Nat), vi = .int .i64 (j : Int) ∧ j ≤ n ∧ Hid (∃ F R, Made w (L.take j) p wr f q F R)) (fun _ vi _ => n - (RowKit.intOf vi).toNat)
  case atStart => exact ⟨0, rfl, Nat.zero_le _, M0⟩
  case round =>
    obtain ⟨j, rfl, hj, hM⟩ := hrel
    by_cases hlt : j < n
    · have hltz : (j : Int) < (n : Int) := by omega
      obtain ⟨o, ho⟩ : ∃ o, L[j]? = some o := ⟨_, List.getElem?_eq_getElem (by have := hn.out; omega)⟩
      obtain ⟨b, off, da, dc, b1, e1, b2, e2, b3, e3, rfl, hc, k1, k2, k3, k4⟩ := hops.out j o ho
      obtain ⟨F, R, M⟩ := hM.out
      obtain ⟨d0, d1, d2, d3, d4, d5, d6, d7, d8, d9⟩ := hc wr M.grown
      have ht : L.take (j + 1) = L.take j ++ [o] := by
        obtain ⟨q1, q2⟩ := List.getElem?_eq_some_iff.1 ho
        rw [List.take_succ_eq_append_getElem q1, q2]
      have gX := World.grownBy_alloc wr (.cells (opCells o.kind o.name o.dest (.slice da o.data.length dc) o.n o.plan.crash (.slice b1 o.plan.keep.length e1) (.slice b2 o.plan.fail.length e2) (.slice b3 o.plan.full.length e3) o.plan.room) 34) none
      have hdo := (M.new gX).do (L := L) (j := j) (o := o) ⟨da, dc, b1, e1, b2, e2, b3, e3, rfl, k1, k2, k3, k4⟩ (hfit.out o (List.mem_of_getElem? ho)) (by rw [List.length_take]; have := hn.out; omega)
      rw [← ht] at hdo
      unfold opCells at hdo
      generalize o.data.length = l0 at *
      generalize o.plan.keep.length = l1 at *
      generalize o.plan.fail.length = l2 at *
      generalize o.plan.full.length = l3 at *
      generalize o.name = nm at *
      generalize o.dest = nt at *
      generalize o.kind = kd at *
      generalize o.n = on at *
      generalize o.plan.crash = cr at *
      generalize o.plan.room = rm at *
      clear ho hc k1 k2 k3 k4 M gX ht hM
      go_wp2_with first
        | (go_at_call 14
           refine hdo.mono ?_
           clear hdo
           rintro e w5 ⟨rfl, hM2⟩
           have HM := Lib.hid hM2
           clear hM2
           have hsm : Calls Tryz.prog 15 #[.pointer (some ⟨f, 0, none⟩), .pointer (some ⟨q, 0, none⟩)] w5 fun e w' => e = .returned (.bool true) ∧ w5.grownBy w' none := by
             obtain ⟨F', R', M'⟩ := HM.out
             exact same_any M'.both M'.inv (by rw [List.length_take]; have := hn.out; omega))
        | (go_at_call 15
           refine hsm.mono ?_
           clear hsm
           rintro e w6 ⟨rfl, g6⟩
           have HM6 : Hid (∃ F R, Made w (L.take (j + 1)) p w6 f q F R) := Lib.hid (by
             obtain ⟨F', R', M'⟩ := HM.out
             exact ⟨F', R', M'.new g6⟩)
           clear g6)
      exact ⟨⟨j + 1, by go_num, by omega, HM6⟩, by simp [RowKit.intOf]; omega⟩
    · obtain rfl : j = n := by omega
      obtain ⟨F, R, M⟩ := hM.out
      have FF := Lib.hid M.grown
      clear M hM
      go_wp2
      go_ret
      exact ⟨rfl, FF.out⟩

theorem FsDoes_walk (w : World) (pv : Value) (p : Pl) (hp : PlanR w pv p) (v : Value) (L : List OpP) (h : OpsR w v L) :
    Calls Tryz.prog 3 #[pv, v] w fun e w' => e = .returned (.bool true) ∧ Below w.heap.size w w' := (FsDoes_go w pv v p L hp h).mono fun _ _ ⟨h1, h2⟩ => ⟨h1, gbelow h2 (Nat.le_refl _) (by simp)⟩
end Go.Proofs.YtnlabhomfiodpaaGreat
