/-
  LAYER 5 (norms): reckon.
-/
import Derived.Test.YtpdacbiiaglodaaGreatQE19
import Derived.Test.YtpdacbiiaglodaaGreatQE17
import Derived.Test.YtpdacbiiaglodaaGreatQE04
import Derived.Stop.RegionWithIn
import Derived.Test.YtpdacbiiaglodaaGreatQE15
import Derived.Test.YtpdacbiiaglodaaGreatQE16
import Derived.Lib.LazyBuf
import Derived.WalkSpells
namespace Go.Proofs.YtpdacbiiaglodaaGreat
set_option maxRecDepth 100000
open Go.RowKit Go.Lib
attribute [local go_sem] Oper.semAt_some

theorem mapMade2 (k : Nat) (w : World) : (Instr.makeMap 46 (some (.int .i64 (k : Int)))).run Tryz.prog w = .ok (.map (some w.heap.size)) (w.alloc (.map #[] 0)) := by
  have hu : Tryz.prog.underlying 46 = some (.map 21 50) := Tryz.underlying46
  simp [Instr.makeMap, run_underlying hu, asInt, asIntOf, Result.andThen]

set_option maxHeartbeats 8000000 in
theorem reckon_in (n : Nat) (st : Int) (vc vd : Value) (c : List Cls) (d : List Dec) (w : World) (hN : NormsAt w n 0 st vc vd none) (hT : Dat w vc vd c d) (hgd : good c d = true) (hne : d ≠ [] → ∀ k, vd.ownBlock = some k → k ≠ n) :
    CallsIn Fence.wide 8 Tryz.prog 50 #[.pointer (some ⟨n, 0, none⟩)] w fun e w' => e = .returned (.tuple #[]) ∧ w.grownBy w' (some n) ∧ ∃ m, w.heap.size ≤ m ∧ NormsAt w' n 0 st vc vd (some m) ∧ FullAt w.heap.size d w' m d := by
  obtain ⟨g1, g2, g3, g4⟩ := good_parts hgd
  obtain ⟨a, cp, rfl, hc, hm⟩ := hT.2.form
  obtain ⟨ac, cc, rfl, _, _⟩ := hT.1.form
  have hrise := decsOk_rise g4
  have hnl := hN.lt
  have hS := fun W hr => steps_any (.slice ac c.length cc) (.slice a d.length cp) d W hr hrise
  have hE := fun w => each_any (.slice ac c.length cc) (.slice a d.length cp) w ⟨_, _, _, rfl⟩
  have g0 := World.grownBy_alloc w (.cells #[.pointer (some ⟨n, 0, none⟩)] 31) none
  have hS0 := hS _ (hT.2.all g0)
  have c1 := hN.c1
  have c2 := hN.c2
  have hmm := mapMade2
  unfold datV at hS0 hE
  refine callsIn_of_wp_marks Tryz.func50 rfl trivial ?_ rfl
  simp only [Tryz.ntmps50, List.size_toArray, List.length_cons, List.length_nil, Nat.reduceAdd, Nat.reduceSub, Array.replicate_succ, Array.replicate_zero, List.push_toArray, List.append_toArray, List.nil_append, List.cons_append]
  gi_wp2_with (refine ⟨trivial, ?_⟩; gi_at_call 89; refine (callsIn_wide.2 hS0).mono ?_; rintro e w1 ⟨m1, rfl, hm1, hEn, hg1⟩)
  have hN1 : NormsAt w1 n 0 st (.slice ac c.length cc) (.slice a d.length cp) none := (hN.kept g0 (by simp)).kept hg1 (by simp)
  obtain ⟨V, hV⟩ : ∃ V, V = w1.alloc (.cells #[.map (some m1)] 148) := ⟨_, rfl⟩
  have hgV : w1.grownBy V none := by rw [hV]; exact World.grownBy_alloc w1 _ none
  have hNV := hN1.kept hgV (by simp)
  have hEV := hEn.kept hgV (by simp)
  have hb1 : Boxed V w.heap.size 31 (.pointer (some ⟨n, 0, none⟩)) := ((Boxed.new w _ _).kept hg1 (by simp)).kept hgV (by simp)
  have hb2 : Boxed V w1.heap.size 148 (.map (some m1)) := by rw [hV]; exact Boxed.new w1 _ _
  have hgw : w.grownBy V none := (g0.trans hg1).trans hgV
  have hm1V := hEV.lt
  obtain ⟨es, cl, hes, hesl⟩ := hEV
  have k1 := hb1.cell
  have k2 := hb2.cell
  have k3 := hNV.full
  have k4 := hNV.free 6
  have hs1 := hg1.size
  have hsV : V.heap.size = w1.heap.size + 1 := by rw [hV]; simp
  rw [World.size_alloc] at hs1
  rw [← hV]
  replace hV := Lib.hid hV
  have hlm : (Builtin.len_ #[148] 3 #[.map (some m1)]).run Tryz.prog V.drew = .ok (.int .i64 (es.size : Int)) V.drew :=
    run_len_map V.drew 148 3 m1 es cl Tryz.underlying148 hes
  have gm := World.grownBy_alloc V (.map #[] 0) none
  have hNM := hNV.kept gm (by simp)
  have j1 := (hb1.kept gm (by simp)).cell
  have j2 := (hb2.kept gm (by simp)).cell
  have j3 := hNM.full
  have j4 := hNM.free 6
  have l1 := hb1.lt
  have l2 := hb2.lt
  have l3 := hNV.lt
  apply wpIn_noPanic
  clear hS hS0
  gi_region
  refine noPanic_normal ?_
  have hnm : n ≠ w1.heap.size + 1 := by omega
  obtain ⟨X, hX⟩ : ∃ X, X = ((V.alloc (.map #[] 0)).setCell ⟨n, 6, none⟩ (.map (some (w1.heap.size + 1)))).drew := ⟨_, rfl⟩
  have gX : V.grownBy X (some n) := by rw [hX]; exact gdrew (gset (gbut gm (some n)) 6 _)
  have gA : (V.alloc (.map #[] 0)).grownBy X (some n) := by rw [hX]; exact gdrew (gset (World.grownBy.refl _ _) 6 _)
  have hNX : NormsAt X n 0 st (.slice ac c.length cc) (.slice a d.length cp) (some (w1.heap.size + 1)) := by rw [hX]; exact hNM.setFull _
  have hEX : Ents X (w1.heap.size + 1) [] := by
    have : Ents (V.alloc (.map #[] 0)) V.heap.size [] := ⟨#[], 0, World.alloc_heap_new V _, rfl⟩
    rw [hsV] at this
    exact this.kept gA (by simp; omega)
  have hmX : Ents X m1 (ents d) := (Ents.kept ⟨es, cl, hes, hesl⟩ gm (by simp) : Ents (V.alloc (.map #[] 0)) m1 (ents d)).kept gA (by simp; rintro rfl; have := hNV; unfold NormsAt at this; rw [hes] at this; cases this)
  have hb1X : Boxed X w.heap.size 31 (.pointer (some ⟨n, 0, none⟩)) := (hb1.kept gm (by simp)).kept gA (by simp; omega)
  have hb2X : Boxed X w1.heap.size 148 (.map (some m1)) := (hb2.kept gm (by simp)).kept gA (by simp; omega)
  have hgwX : w.grownBy X (some n) := (gbut hgw _).trans gX
  have hdX : d ≠ [] → ∀ k, (Value.slice a d.length cp).ownBlock = some k → k < w.heap.size := fun hn k e => hT.2.lt hn k e
  have hTX : Tri .i32 X (.slice a d.length cp) d := hT.2.heap (fun hn k e => hgwX.block k (hT.2.lt hn k e) (by simp; exact fun h => hne hn k e h))
  rw [← hX]
  replace hX := Lib.hid hX
  clear k1 k2 k3 k4 j1 j2 j3 j4 hNM hb1 hb2 hNV hes hesl hlm c1 c2 hmm g0 hgV hgw gX gA gm hV hN1 hEn hN
  have k1 := hb1X.cell
  have k2 := hNX.c1
  have k3 := hNX.c2
  gi_wp2_with (refine ⟨trivial, ?_⟩; gi_at_call 56; refine (callsIn_wide.2 (hE _)).mono ?_; rintro e w5 ⟨p, rfl, hp, hb, hg5⟩)
  have gX5 := hg5
  have hsX : w1.heap.size + 1 < X.heap.size := hEX.lt
  have hpl := hb.lt
  have hvl : d ≠ [] → ∀ k, (Value.slice a d.length cp).ownBlock = some k → k < X.heap.size ∧ k ≠ w1.heap.size + 1 := fun hn k e => by have := hdX hn k e; omega
  have hN5 := hNX.kept hg5 (by simp)
  have hm5 := hmX.kept hg5 (by simp)
  have b15 := hb1X.kept hg5 (by simp)
  have b25 := hb2X.kept hg5 (by simp)
  have hF5 : FullAt w.heap.size d w5 (w1.heap.size + 1) [] := ⟨[], rfl, hEX.kept hg5 (by simp), by simp⟩
  have hs5 := hg5.size
  have hm1n : m1 ≠ w1.heap.size + 1 := by omega
  have hTell := dvals1_tells 4 p w5.heap.size (w1.heap.size + 1) _ d w5 hb (hTX.all hg5) (by omega) (fun hn k e => by have := hvl hn k e; omega)
  have gw5 := hgwX.trans (gbut hg5 (some n))
  clear hE hb1X hb2X hmX hEX hNX hX hTX hdX k1 k2 k3 hgwX
  refine range_tells4 (a := _) (w := w5) (α := Dec) rfl (by omega) (gf := 133) (lb := #[.pointer (some ⟨p, 0, none⟩)]) rfl trivial (enters_of Tryz.func133 (by kernel_rfl) rfl)
    hTell (by simp) (fun _ => rfl) (fun _ _ _ _ _ _ h _ _ _ => h)
    (fun pre W => Hid (pre = d.take pre.length) ∧ FullAt w.heap.size d W (w1.heap.size + 1) pre ∧ w5.grownBy W (some (w1.heap.size + 1))) (fun _ _ _ => False)
    ?hI (fun _ _ _ _ _ h _ _ => h.elim) ⟨Lib.hid rfl, hF5, World.grownBy.refl _ _⟩
    (fun x a' W => ∃ q, D3 W q x ∧ a' = { tmps := #[.pointer (some ⟨n, 0, none⟩), .pointer (some ⟨w.heap.size, 0, none⟩), .pointer (some ⟨w1.heap.size, 0, none⟩), .pointer (some ⟨q, 0, none⟩), .pointer (some ⟨n, 0, none⟩), .pointer (some ⟨n, 0, none⟩), .pointer (some ⟨n, 1, none⟩), .agg #[.slice ac c.length cc, .slice a d.length cp], .map (some m1), .pointer (some ⟨n, 0, none⟩), .map (some m1), .int .i64 (es.size : Int), .map (some (w1.heap.size + 1)), .pointer (some ⟨n, 0, none⟩), .pointer (some ⟨n, 6, none⟩), .pointer (some ⟨n, 0, none⟩), .pointer (some ⟨n, 0, none⟩), .pointer (some ⟨n, 1, none⟩), .agg #[.slice ac c.length cc, .slice a d.length cp], .func (.func 133) #[] #[.pointer (some ⟨p, 0, none⟩)], dAgg x, undef, undef, undef, undef, undef, undef, undef, undef, undef], defers := [] })
    (fun _ _ _ _ h _ => h) ?hAx ?assign ?body ?done ?stop
  case hI =>
    rintro pre A B k ⟨h0, h1, h2⟩ hg' hk
    rcases hk with rfl | ⟨q, rfl, hq, ho⟩
    · exact ⟨h0, h1.new hg', h2.trans (gbut hg' _)⟩
    · exact ⟨h0, h1.row hg' ho (by omega), gnew h2 hg' (fun r e => by cases e; left; exact hq)⟩
  case hAx =>
    rintro x a' A B k o ⟨q, hc', rfl⟩ hg' hk ho
    refine ⟨q, hc'.kept hg' (fun e => ?_), rfl⟩
    cases e
    cases (hk.symm.trans hc')
    cases ho
  case assign =>
    intro l x W K hK
    unfold dEnc dAgg
    gi_wp2_with fail
    refine hK _ _ (World.grownBy_alloc W _ none) ⟨W.heap.size, D3.new W x, ?_⟩
    rfl
  case body =>
    rintro l2 pre x a' W ⟨h0, h1, h2⟩ hget ⟨q, hx, rfl⟩ hsz
    have hnx := Lib.hid (take_next h0.out hget)
    have hmem : x ∈ d := List.mem_of_getElem? hget
    have hmb : mb d 4 x = true := by
      have := decsOk_mem g4 x hmem
      simp only [decOk, Bool.and_eq_true] at this
      exact this.1.2.2
    have hwne := (mb_whl hmb 0).2
    have hqm : q ≠ w1.heap.size + 1 := by
      rintro rfl
      obtain ⟨l, _, ⟨es', cl', hb', _⟩, _⟩ := h1
      cases (hb'.symm.trans hx)
    have cf : ∀ U, W.grownBy U (some (w1.heap.size + 1)) → U.cell? ⟨w.heap.size, 0, none⟩ = some (.pointer (some ⟨n, 0, none⟩)) ∧ U.cell? ⟨n, 6, none⟩ = some (.map (some (w1.heap.size + 1))) ∧ U.cell? ⟨q, 0, none⟩ = some (.int .i32 x.1) ∧ U.cell? ⟨w1.heap.size, 0, none⟩ = some (.map (some m1)) ∧ (U.cell? ⟨q, 1, none⟩ = some (.int .i32 x.2.1) ∧ U.cell? ⟨q, 2, none⟩ = some (.int .i32 x.2.2)) := by
      intro U hU
      have h3 := h2.trans hU
      have h4 := hx.kept hU (by simp; omega)
      exact ⟨(b15.kept h3 (by simp; omega)).cell, (hN5.kept h3 (by simp; omega)).full, h4.c0, (b25.kept h3 (by simp)).cell, h4.c1, h4.c2⟩
    have C := fun U (hU : W.grownBy U none) => wholly_ok m1 d 4 x U (Nat.le_refl _) ((hm5.kept h2 (by simp; omega)).kept hU (by simp)) hmb
    have hA := fun U (hU : W.grownBy U none) v (hR : Rn U W.heap.size v (whl d 4 x)) => FullAt.add (h1.new hU) ((hR.mono (by have := gw5.size; omega)).runes hwne) hrise h0.out hget Tryz.underlying46
    have gd := gdrew (World.grownBy.refl W none)
    have gdm := gbut gd (some (w1.heap.size + 1))
    obtain ⟨z1, z2, z3, z4, z5, z6⟩ := cf W (World.grownBy.refl W _)
    unfold dAgg at C
    generalize whl d 4 x = L at C hA
    replace h1 := Lib.hid h1
    replace hx := Lib.hid hx
    clear hTell hF5 hN5 hm5 b15 b25 hT hwne hmb hb
    gi_wp2_with fail
    apply wpIn_noPanic
    refine wpIn_region_held (S := fun U => U.cell? ⟨w.heap.size, 0, none⟩ = some (.pointer (some ⟨n, 0, none⟩)) ∧ U.cell? ⟨n, 6, none⟩ = some (.map (some (w1.heap.size + 1))) ∧ U.cell? ⟨q, 0, none⟩ = some (.int .i32 x.1) ∧ U.cell? ⟨w1.heap.size, 0, none⟩ = some (.map (some m1)) ∧ (U.cell? ⟨q, 1, none⟩ = some (.int .i32 x.2.1) ∧ U.cell? ⟨q, 2, none⟩ = some (.int .i32 x.2.2))) (by kernel_rfl) (cf _ gdm) (fun hS0 => ?_)
    refine wpAnyHIn_take (i := 0) (oi := ⟨some 21, _, _, _, _, _⟩) (v := ?_) rfl (by kernel_rfl) (by kernel_rfl) (by kernel_rfl) (by kernel_rfl) (fun _ _ _ h => h) (fun _ => rfl) (Or.inl ⟨by rfl, ?_⟩) (by assumption) ?_
    rotate_left
    · (intro w hSw; (try dsimp only at hSw); go_simp; try with_reducible rfl)
    try simp only [Act.put, List.setIfInBounds_toArray, List.set_cons_zero, List.set_cons_succ]
    refine wpAnyHIn_take (i := 1) (oi := ⟨some 22, _, _, _, _, _⟩) (v := ?_) rfl (by kernel_rfl) (by kernel_rfl) (by kernel_rfl) (by kernel_rfl) (fun _ _ _ h => h) (fun _ => rfl) (Or.inl ⟨by rfl, ?_⟩) (by assumption) ?_
    rotate_left
    · (intro w hSw; (try dsimp only at hSw); go_simp; try with_reducible rfl)
    try simp only [Act.put, List.setIfInBounds_toArray, List.set_cons_zero, List.set_cons_succ]
    refine wpAnyHIn_take (i := 2) (oi := ⟨some 23, _, _, _, _, _⟩) (v := ?_) rfl (by kernel_rfl) (by kernel_rfl) (by kernel_rfl) (by kernel_rfl) (fun _ _ _ h => h) (fun _ => rfl) (Or.inl ⟨by rfl, ?_⟩) (by assumption) ?_
    rotate_left
    · (intro w hSw; (try dsimp only at hSw); go_simp; try with_reducible rfl)
    try simp only [Act.put, List.setIfInBounds_toArray, List.set_cons_zero, List.set_cons_succ]
    refine wpAnyHIn_take (i := 3) (oi := ⟨some 24, _, _, _, _, _⟩) (v := ?_) rfl (by kernel_rfl) (by kernel_rfl) (by kernel_rfl) (by kernel_rfl) (fun _ _ _ h => h) (fun _ => rfl) (Or.inl ⟨by rfl, ?_⟩) (by assumption) ?_
    rotate_left
    · (intro w hSw; (try dsimp only at hSw); go_simp; try with_reducible rfl)
    try simp only [Act.put, List.setIfInBounds_toArray, List.set_cons_zero, List.set_cons_succ]
    refine wpAnyHIn_take (i := 4) (oi := ⟨some 25, _, _, _, _, _⟩) (v := ?_) rfl (by kernel_rfl) (by kernel_rfl) (by kernel_rfl) (by kernel_rfl) (fun _ _ _ h => h) (fun _ => rfl) (Or.inl ⟨by rfl, ?_⟩) (by assumption) ?_
    rotate_left
    · (intro w hSw; (try dsimp only at hSw); go_simp; try with_reducible rfl)
    try simp only [Act.put, List.setIfInBounds_toArray, List.set_cons_zero, List.set_cons_succ]
    refine wpAnyHIn_take (i := 5) (oi := ⟨some 26, _, _, _, _, _⟩) (v := ?_) rfl (by kernel_rfl) (by kernel_rfl) (by kernel_rfl) (by kernel_rfl) (fun _ _ _ h => h) (fun _ => rfl) (Or.inl ⟨by rfl, ?_⟩) (by assumption) ?_
    rotate_left
    · (intro w hSw; (try dsimp only at hSw); go_simp; try with_reducible rfl)
    try simp only [Act.put, List.setIfInBounds_toArray, List.set_cons_zero, List.set_cons_succ]
    refine wpAnyHIn_take (i := 6) (oi := ⟨some 27, _, _, _, _, _⟩) (v := ?_) rfl (by kernel_rfl) (by kernel_rfl) (by kernel_rfl) (by kernel_rfl) (fun _ _ _ h => h) (fun _ => rfl) (Or.inl ⟨by rfl, ?_⟩) (by assumption) ?_
    rotate_left
    · (intro w hSw; (try dsimp only at hSw); go_simp; try with_reducible rfl)
    try simp only [Act.put, List.setIfInBounds_toArray, List.set_cons_zero, List.set_cons_succ]
    refine wpAnyHIn_take (i := 7) (oi := ⟨some 28, _, _, _, _, _⟩) (v := ?_) rfl (by kernel_rfl) (by kernel_rfl) (by kernel_rfl) (by kernel_rfl) (fun _ _ _ h => h) (fun _ => rfl) (Or.inl ⟨by rfl, ?_⟩) (by assumption) ?_
    rotate_left
    · (intro w hSw; (try dsimp only at hSw); go_simp; try with_reducible rfl)
    try simp only [Act.put, List.setIfInBounds_toArray, List.set_cons_zero, List.set_cons_succ]
    refine wpAnyHIn_next (i := 8) (by kernel_rfl) rfl (by rfl) (fun K hK => ?_)
    go_simp
    refine ⟨trivial, (callsIn_wide.2 (C _ gd)).mono ?_⟩
    rintro e w7 ⟨v7, rfl, hR7, hg7⟩
    have hg7' := gd.trans hg7
    obtain ⟨W8, r8, F8, g8, s8⟩ := hA w7 hg7' v7 (hR7.mono (Nat.le_refl _))
    have g78 := (gbut hg7' (some (w1.heap.size + 1))).trans g8
    refine hK.out _ _ (cf _ (gbut hg7' _)) (fun hS1 => ?_)
    clear hK
    refine wpAnyHIn_next (i := 9) (by kernel_rfl) rfl (by rfl) (fun K hK => ?_)
    go_simp
    refine hK.out _ _ (cf _ g78) (fun hS2 => ?_)
    clear hK
    refine wpAnyHIn_done (by kernel_rfl) ?_ _
    refine noPanic_normal ?_
    gi_wp2_with fail
    exact ⟨KeepsFrom.of_grownBy g78 (fun j e => by cases e; omega), KeptX.grown g78 hsz (.inl rfl), hnx, F8, h2.trans g78⟩
  case stop =>
    rintro D c pre Wd W15 hD _ h _ _
    exact h.elim
  case done =>
    rintro D xs Wd W15 hD hS ⟨h0, h1, h2⟩ hg' hM
    obtain rfl : xs = d := hS
    have gp := grownBy_putObj' W15 D (.deferred none)
    have hN15 := (hN5.kept h2 (by simp; omega)).kept gp (by simp; omega)
    have hfin : w.grownBy (W15.putObj D (.deferred none)) (some n) := gnew (gnew gw5 h2 (fun r e => by cases e; left; omega)) gp (fun r e => by cases e; left; omega)
    have hF15 := h1.row gp (fun o ho => by rw [hM] at ho; cases ho; rfl) (by omega)
    clear hTell hN5 hm5 b15 b25 hT h1 gw5 gp
    gi_wp2_with fail
    refine ⟨by simp, .inl ⟨_, _, rfl, run_takeDeferred hM, ?_⟩⟩
    simp [LeavesInM, LeavesIn, results, Tryz.results50, go_sem]
    exact ⟨hfin, w1.heap.size + 1, by omega, hN15, hF15⟩
theorem reckon_full (n : Nat) (st : Int) (vc vd : Value) (c : List Cls) (d : List Dec) (w : World) (hN : NormsAt w n 0 st vc vd none) (hT : Dat w vc vd c d) (hgd : good c d = true) (hne : d ≠ [] → ∀ k, vd.ownBlock = some k → k ≠ n) :
    Calls Tryz.prog 50 #[.pointer (some ⟨n, 0, none⟩)] w fun e w' => e = .returned (.tuple #[]) ∧ w.grownBy w' (some n) ∧ ∃ m, w.heap.size ≤ m ∧ NormsAt w' n 0 st vc vd (some m) ∧ FullAt w.heap.size d w' m d := callsIn_wide.1 (reckon_in n st vc vd c d w hN hT hgd hne)
end Go.Proofs.YtpdacbiiaglodaaGreat

/-
  LAYER 5 (norms): sync.Once over loaded data; what loaded data tell.
-/
namespace Go.Proofs.YtpdacbiiaglodaaGreat
set_option maxRecDepth 100000
open Go.RowKit Go.Lib

theorem Tri.set {k : IntKind} {w : World} {v : Value} {l : List (Int × Int × Int)} {n o : Nat} {u : Value} (h : Tri k w v l) (hne : l ≠ [] → ∀ q, v.ownBlock = some q → q ≠ n) : Tri k (w.setCell ⟨n, o, none⟩ u) v l :=
  h.heap fun hl q e => (gset (World.grownBy.refl w (some n)) o u).block q (h.lt hl q e) (by simpa using hne hl q e)

set_option maxHeartbeats 4000000 in
theorem nslow_any (n : Nat) (vc vd : Value) (c : List Cls) (d : List Dec) (w : World) (hN : NormsAt w n 0 0 vc vd none) (hT : Dat w vc vd c d) (hgd : good c d = true) (h1 : c ≠ [] → ∀ k, vc.ownBlock = some k → k ≠ n) (h2 : d ≠ [] → ∀ k, vd.ownBlock = some k → k ≠ n) :
    Calls Tryz.prog 88 #[.pointer (some ⟨n, 3, none⟩), .func (.func 50) #[.pointer (some ⟨n, 0, none⟩)] #[]] w fun e w' => e = .returned (.tuple #[]) ∧ w.grownBy w' (some n) ∧ ∃ m, w.heap.size ≤ m ∧ NormsAt w' n 1 0 vc vd (some m) ∧ FullAt w.heap.size d w' m d := by
  have hN1 := hN.setState 1
  have hs := hN.state
  have hf := hN.free 4
  have hl := run_call_load (P := Tryz.prog) Tryz.func128 (by kernel_rfl) (by kernel_rfl) (by kernel_rfl) .u32 (by kernel_rfl) hN1.done
  have hg1 : w.grownBy (w.setCell ⟨n, 4, none⟩ (.int .i32 1)) (some n) := gset (World.grownBy.refl _ _) _ _
  have hre := reckon_full n 1 vc vd c d _ hN1 ⟨hT.1.set h1, hT.2.set h2⟩ hgd h2
  rw [show (w.setCell ⟨n, 4, none⟩ (.int .i32 1)).heap.size = w.heap.size by simp] at hre
  have hnot : ∀ (x : Bool) (w : World), (Op.unary .not (.bool x)).run Tryz.prog w = .ok (.bool (!x)) w := fun _ _ => rfl
  have hnl := hN.lt
  go_enter_defers Tryz.func88, Tryz.ntmps88
  go_wp2_with (first | (go_at_call 129; refine (lock_free ⟨n, 4, none⟩ _ hs hf).mono ?_; rintro e w' ⟨rfl, rfl⟩) | (go_at_call 50; refine hre.mono ?_; rintro e w2 ⟨rfl, hg2, m, hm, hN2, hF2⟩) | (go_at_call 87; go_in))
  have hmn : ∀ o, w2.heap[n]? = some o → o.isCells = true := by
    intro o ho
    rw [show w2.heap[n]? = _ from hN2] at ho
    cases ho
    rfl
  refine leaves_cons (f := 131) (args := #[.pointer (some ⟨n, 3, none⟩), .bool true]) (by simp) (by simp [go_sem]) ?_
  refine (store_deferred ⟨n, 3, none⟩ _ .returning _ hN2.done (hN2.free 3)).mono ?_
  rintro e u' w'' ⟨rfl, rfl, rfl⟩
  have hN3 := (hN2.kept (gdrew (World.grownBy.refl w2 none)) (by simp)).setDone 1
  refine leaves_cons (f := 130) (args := #[.pointer (some ⟨n, 4, none⟩)]) (by simp [settle]) (by simp [go_sem]) ?_
  refine (unlock_deferred ⟨n, 4, none⟩ _ _ hN3.state (hN3.free 4)).mono ?_
  rintro e u' w'' ⟨rfl, rfl, rfl⟩
  have hN4 := hN3.setState 0
  have hg4 := gset (gset (gdrew (hg1.trans hg2)) 3 (.int .u32 1)) 4 (.int .i32 0)
  have hs1 := hg1.size
  have hF4 : FullAt w.heap.size d ((w2.drew.setCell ⟨n, 3, none⟩ (.int .u32 1)).setCell ⟨n, 4, none⟩ (.int .i32 0)) m d := by
    have g : w2.grownBy ((w2.drew.setCell ⟨n, 3, none⟩ (.int .u32 1)).setCell ⟨n, 4, none⟩ (.int .i32 0)) (some n) := gset (gset (gdrew (World.grownBy.refl w2 _)) 3 _) 4 _
    exact hF2.cells g (by omega) (by omega)
  simp [Leaves, settle, results, Tryz.results88]
  exact ⟨hg4, m, by omega, hN4, hF4⟩

set_option maxHeartbeats 4000000 in
theorem ndo_first (n : Nat) (vc vd : Value) (c : List Cls) (d : List Dec) (w : World) (hN : NormsAt w n 0 0 vc vd none) (hT : Dat w vc vd c d) (hgd : good c d = true) (h1 : c ≠ [] → ∀ k, vc.ownBlock = some k → k ≠ n) (h2 : d ≠ [] → ∀ k, vd.ownBlock = some k → k ≠ n) :
    Calls Tryz.prog 49 #[.pointer (some ⟨n, 3, none⟩), .func (.func 50) #[.pointer (some ⟨n, 0, none⟩)] #[]] w fun e w' => e = .returned (.tuple #[]) ∧ w.grownBy w' (some n) ∧ ∃ m, w.heap.size ≤ m ∧ NormsAt w' n 1 0 vc vd (some m) ∧ FullAt w.heap.size d w' m d := by
  have hl := run_call_load (P := Tryz.prog) Tryz.func128 (by kernel_rfl) (by kernel_rfl) (by kernel_rfl) .u32 (by kernel_rfl) hN.done
  have hsl := nslow_any n vc vd c d w hN hT hgd h1 h2
  have hnot : ∀ (x : Bool) (w : World), (Op.unary .not (.bool x)).run Tryz.prog w = .ok (.bool (!x)) w := fun _ _ => rfl
  clear hT hgd h1 h2
  go_enter Tryz.func49, Tryz.ntmps49
  go_wp2_with (first | (go_at_call 88; refine hsl.mono ?_; rintro e w2 ⟨rfl, hg2, hT2⟩) | (go_at_call 87; go_in))
  go_end0
  exact ⟨rfl, hg2, hT2⟩

theorem ndo_done (n : Nat) (st : Int) (vc vd : Value) (mv : Option Nat) (fv : Value) (w : World) (hN : NormsAt w n 1 st vc vd mv) :
    Calls Tryz.prog 49 #[.pointer (some ⟨n, 3, none⟩), fv] w fun e w' => e = .returned (.tuple #[]) ∧ w = w' := by
  have hl := run_call_load (P := Tryz.prog) Tryz.func128 (by kernel_rfl) (by kernel_rfl) (by kernel_rfl) .u32 (by kernel_rfl) hN.done
  have hnot : ∀ (x : Bool) (w : World), (Op.unary .not (.bool x)).run Tryz.prog w = .ok (.bool (!x)) w := fun _ _ => rfl
  go_enter Tryz.func49, Tryz.ntmps49
  go_wp2_with (go_at_call 87; go_in)
  go_end0
  exact ⟨rfl, rfl⟩

/-- Loaded data in memory: the full decompositions reckoned, or not yet. -/
def Nrm (w : World) (n : Nat) (c : List Cls) (d : List Dec) (dn : Bool) : Prop :=
  ∃ vc vd mv, Dat w vc vd c d ∧ (c ≠ [] → ∀ k, vc.ownBlock = some k → k < n) ∧ (d ≠ [] → ∀ k, vd.ownBlock = some k → k < n) ∧ NormsAt w n (if dn = true then 1 else 0) 0 vc vd mv ∧ (dn = false → mv = none) ∧ (dn = true → ∃ m, mv = some m ∧ n < m ∧ FullAt (n + 1) d w m d)
theorem Nrm.new {w w' : World} {n : Nat} {c : List Cls} {d : List Dec} {dn : Bool} (h : Nrm w n c d dn) (hg : w.grownBy w' none) : Nrm w' n c d dn := by
  obtain ⟨vc, vd, mv, h1, h2, h3, h4, h5, h6⟩ := h
  exact ⟨vc, vd, mv, h1.all hg, h2, h3, h4.kept hg (by simp), h5, fun e => by obtain ⟨m, q1, q2, q3⟩ := h6 e; exact ⟨m, q1, q2, q3.new hg⟩⟩
theorem FullAt.mono {B B' : Nat} {d pre : List Dec} {w : World} {m : Nat} (h : FullAt B d w m pre) (hB : B' ≤ B) : FullAt B' d w m pre := by
  obtain ⟨l, h1, h2, h3⟩ := h
  exact ⟨l, h1, h2, fun p hp => by obtain ⟨b, cap, q1, q2, q3⟩ := h3 p hp; exact ⟨b, cap, q1, Nat.le_trans hB q2, q3⟩⟩

theorem nDo_any (n : Nat) (c : List Cls) (d : List Dec) (dn : Bool) (w : World) (h : Nrm w n c d dn) (hgd : good c d = true) :
    Calls Tryz.prog 49 #[.pointer (some ⟨n, 3, none⟩), .func (.func 50) #[.pointer (some ⟨n, 0, none⟩)] #[]] w fun e w' => e = .returned (.tuple #[]) ∧ w.grownBy w' (some n) ∧ Nrm w' n c d true := by
  have h0 := h
  obtain ⟨vc, vd, mv, h1, h2, h3, h4, h5, h6⟩ := h
  cases dn with
  | false =>
    obtain rfl := h5 rfl
    refine (ndo_first n vc vd c d w h4 h1 hgd (fun a k e => by have := h2 a k e; omega) (fun a k e => by have := h3 a k e; omega)).mono ?_
    rintro e w' ⟨rfl, hg, m, hm, hN, hF⟩
    have hl := h4.lt
    exact ⟨rfl, hg, vc, vd, some m, ⟨h1.1.heap fun a k e => hg.block k (h1.1.lt a k e) (by simp; have := h2 a k e; omega), h1.2.heap fun a k e => hg.block k (h1.2.lt a k e) (by simp; have := h3 a k e; omega)⟩, h2, h3, hN, (fun e => by cases e), fun _ => ⟨m, rfl, by omega, hF.mono (by omega)⟩⟩
  | true =>
    refine (ndo_done n 0 vc vd mv _ w h4).mono ?_
    rintro e w' ⟨rfl, rfl⟩
    exact ⟨rfl, World.grownBy.refl _ _, h0⟩
end Go.Proofs.YtpdacbiiaglodaaGreat

/-
  LAYER 5 (norms): what loaded data tell of a code point; what data that nobody loaded tell.
-/
namespace Go.Proofs.YtpdacbiiaglodaaGreat
set_option maxRecDepth 100000
open Go.RowKit Go.Lib

theorem nIsMade_nil (w : World) : Calls Tryz.prog 48 #[.pointer none] w fun e w' => e = .returned (.bool false) ∧ w = w' := by
  go_enter Tryz.func48, Tryz.ntmps48
  go_wp2
  go_ret
  exact ⟨rfl, rfl⟩
theorem nIsMade (n : Nat) (m : Bool) (w : World) (hc : w.cell? ⟨n, 0, none⟩ = some (.bool m)) : Calls Tryz.prog 48 #[.pointer (some ⟨n, 0, none⟩)] w fun e w' => e = .returned (.bool m) ∧ w = w' := by
  go_enter Tryz.func48, Tryz.ntmps48
  go_wp2
  go_ret
  exact ⟨rfl, rfl⟩

/-! ### Data that nobody loaded -/
theorem nClass_none (p : Value) (r : Int) (w : World) (hm : Calls Tryz.prog 48 #[p] w fun e w' => e = .returned (.bool false) ∧ w = w') :
    Calls Tryz.prog 15 #[p, .int .i32 r] w fun e w' => e = .returned (.int .i64 0) ∧ w = w' := by
  go_enter Tryz.func15, Tryz.ntmps15
  go_wp2_with (go_at_call 48; refine hm.mono ?_; rintro e w' ⟨rfl, rfl⟩)
  go_ret
  exact ⟨rfl, rfl⟩
theorem nStarter_of (p : Value) (r k : Int) (w : World) (hC : Calls Tryz.prog 15 #[p, .int .i32 r] w fun e w' => e = .returned (.int .i64 k) ∧ w.grownBy w' none) :
    Calls Tryz.prog 16 #[p, .int .i32 r] w fun e w' => e = .returned (.bool (k == 0)) ∧ w.grownBy w' none := by
  go_enter Tryz.func16, Tryz.ntmps16
  go_wp2_with (go_at_call 15; refine hC.mono ?_; rintro e w' ⟨rfl, hg⟩)
  go_ret
  exact ⟨rfl, hg⟩
theorem nClasses_none (p : Value) (w : World) (hm : Calls Tryz.prog 48 #[p] w fun e w' => e = .returned (.bool false) ∧ w = w') :
    Calls Tryz.prog 17 #[p] w fun e w' => e = .returned (.slice none 0 0) ∧ w = w' := by
  go_enter Tryz.func17, Tryz.ntmps17
  go_wp2_with (go_at_call 48; refine hm.mono ?_; rintro e w' ⟨rfl, rfl⟩)
  go_ret
  exact ⟨rfl, rfl⟩
theorem nDecomps_none (p : Value) (w : World) (hm : Calls Tryz.prog 48 #[p] w fun e w' => e = .returned (.bool false) ∧ w = w') :
    Calls Tryz.prog 18 #[p] w fun e w' => e = .returned (.func (.func 55) #[] #[]) ∧ w = w' := by
  go_enter Tryz.func18, Tryz.ntmps18
  go_wp2_with (go_at_call 48; refine hm.mono ?_; rintro e w' ⟨rfl, rfl⟩)
  go_ret
  exact ⟨rfl, rfl⟩
theorem nDecomp_none (p : Value) (r : Int) (w : World) (hm : ∀ w, Calls Tryz.prog 48 #[p] w fun e w' => e = .returned (.bool false) ∧ w = w') :
    Calls Tryz.prog 14 #[p, .int .i32 r] w fun e w' => ∃ b, e = .returned (.slice (some ⟨b, 0, none⟩) 1 1) ∧ w'.cell? ⟨b, 0, none⟩ = some (.int .i32 r) ∧ w.grownBy w' none := by
  go_enter Tryz.func14, Tryz.ntmps14
  go_wp2_with (go_at_call 48; refine (hm _).mono ?_; rintro e w' ⟨rfl, rfl⟩)
  go_ret
  exact ⟨w.heap.size, rfl, by have := World.alloc_heap_new w (.cells #[.int .i32 r] 21); simp only [World.cell?, this]; rfl, World.grownBy_alloc w _ none⟩

/-! ### Loaded data -/
theorem Nrm.made {w : World} {n : Nat} {c : List Cls} {d : List Dec} {dn : Bool} (h : Nrm w n c d dn) : w.cell? ⟨n, 0, none⟩ = some (.bool true) := by
  obtain ⟨vc, vd, mv, h1, h2, h3, h4, h5, h6⟩ := h
  exact h4.made
theorem nClass_any (n : Nat) (c : List Cls) (d : List Dec) (dn : Bool) (r : Int) (w : World) (h : Nrm w n c d dn) (hgd : good c d = true) :
    Calls Tryz.prog 15 #[.pointer (some ⟨n, 0, none⟩), .int .i32 r] w fun e w' => e = .returned (.int .i64 (clsOf c r)) ∧ w.grownBy w' none := by
  have hm := nIsMade n true w h.made
  obtain ⟨vc, vd, mv, h1, h2, h3, h4, h5, h6⟩ := h
  obtain ⟨q1, q2, q3, q4⟩ := good_parts hgd
  have hC := class_any vc vd c r w h1.1 q3 q1
  have k1 := h4.c1
  have k2 := h4.c2
  obtain ⟨a, cp, rfl, _, _⟩ := h1.2.form
  obtain ⟨ac, cc, rfl, _, _⟩ := h1.1.form
  unfold datV at hC
  clear h1 h2 h3 h5 h6
  go_enter Tryz.func15, Tryz.ntmps15
  go_wp2_with (first
    | (go_at_call 48; refine hm.mono ?_; rintro e w' ⟨rfl, rfl⟩)
    | (go_at_call 53; refine hC.mono ?_; rintro e w' ⟨rfl, hg⟩))
  go_ret
  exact ⟨rfl, hg⟩

theorem clone_runes (B : Nat) (v : Value) (l : List Int) (w : World) (h : Runes B w v l) (hlim : l.length ≤ 10) :
    Calls Tryz.prog 91 #[v] w fun e w' => ∃ v', e = .returned v' ∧ w'.ownsRow w.heap.size 21 1 v' l.length (rCells l) ∧ w.grownBy w' none := by
  obtain ⟨b, cap, rfl, hB, hl, h1, h2, h3⟩ := h
  obtain ⟨i0, hi, hz0, hz1, hz2⟩ := infoRune_parts
  have hbl : b < w.heap.size := by
    obtain ⟨u, t, rfl⟩ := List.exists_cons_of_ne_nil hl
    exact World.block_lt_of_cell? w _ (h3 0 u rfl)
  have q : ∀ (w : World), (binOp .eql 50 (.slice (some ⟨b, 0, none⟩) l.length cap) (.slice none 0 0)).run Tryz.prog w = .ok (.bool false) w := fun w => Lib.run_eql_slice_nil w _ _ (some ⟨b, 0, none⟩) l.length cap 0 0 Tryz.underlying50
  go_enter Tryz.func91, Tryz.ntmps91
  go_wp2_with (at_builtin; refine wpList_append_grows _ rfl _ _ 50 rfl 21 i0 (.int .i32 0) 1 4 Tryz.underlying50 hi hz0 hz1 hz2 rfl (by decide) (some ⟨w.heap.size, 0, none⟩) 0 0 [] rfl (fun h => by cases h) ?d0 ?d1 ⟨b, 0, none⟩ l.length cap (rCells l) rfl ?d7 ?d2 ?d3 ?d4 ?d5 ?d6 ?_)
  case d0 => rfl
  case d1 => intro b hb j u hu; simp at hu
  case d7 => simp [rCells]
  case d2 =>
    intro j u hu
    have hu' : ∃ x, l[j]? = some x ∧ u = .int .i32 x := by
      simp only [rCells, List.getElem?_map, Option.map_eq_some_iff] at hu
      obtain ⟨x, q1, q2⟩ := hu
      exact ⟨x, q1, q2.symm⟩
    obtain ⟨x, q1, rfl⟩ := hu'
    have h4 := (World.grownBy_alloc w (.cells #[] 21) none).cell (h3 j x q1) (by simp)
    rw [show (⟨b, 0, none⟩ : Addr).add j = ⟨b, j, none⟩ by unfold Addr.add; split <;> simp_all]
    exact h4
  case d3 =>
    intro u hu
    simp only [rCells, List.mem_map] at hu
    obtain ⟨x, _, rfl⟩ := hu
    rfl
  case d4 =>
    have := List.length_pos_iff.2 hl
    omega
  case d5 => unfold maxLen; omega
  case d6 => omega
  intro v' w' hown hg
  clear hi hz0 hz1 hz2 q h3
  have hg2 := (World.grownBy_alloc w (.cells #[] 21) none).trans hg
  have ho2 : w'.ownsRow w.heap.size 21 1 v' l.length (rCells l) := by simpa using ownLow hown (by simp)
  clear hown hg
  go_wp2
  go_ret
  exact ⟨_, rfl, ho2, hg2⟩

/-- Runes told: of a code point by its full decomposition, or by rule. -/
def told' (d : List Dec) (r : Int) : List Int := match stp d r with
  | none => byR r
  | some x => whl d 4 x

set_option maxHeartbeats 4000000 in
theorem ncopied_any (B : Nat) (v : Value) (l : List Int) (w : World) (h : Runes B w v l) (hlim : l.length ≤ 10) :
    Calls Tryz.prog 51 #[v] w fun e w' => ∃ v', e = .returned v' ∧ Runes w.heap.size w' v' l ∧ w.grownBy w' none := by
  have hC := clone_runes B v l w h hlim
  have hne : l ≠ [] := by obtain ⟨_, _, _, _, h, _⟩ := h; exact h
  have hP := fun v W h => clip_own w.heap.size v l W h hne
  obtain ⟨b, cap, rfl, _⟩ := h
  generalize l.length = n at hC hP hlim
  go_enter Tryz.func51, Tryz.ntmps51
  go_wp2_with (first
    | (go_at_call 91; refine hC.mono ?_; rintro e w1 ⟨v1, rfl, ho1, hg1⟩)
    | (go_at_call 69; refine (hP _ _ ho1).mono ?_; rintro e w2 ⟨v2, rfl, hF2, rfl⟩))
  go_ret
  exact ⟨_, rfl, Rn.runes (.inr ⟨hne, hF2⟩) hne, hg1⟩
end Go.Proofs.YtpdacbiiaglodaaGreat

/-
  LAYER 5 (norms): the full decomposition of a code point, of loaded data.
-/
namespace Go.Proofs.YtpdacbiiaglodaaGreat
set_option maxRecDepth 100000
open Go.RowKit Go.Lib

theorem zeroRunes (w : World) : (zeroValue 50).run Tryz.prog w = .ok (.slice none 0 0) w := by kernel_rfl
theorem told_length (d : List Dec) (r : Int) : (told' d r).length ≤ 7 := by
  unfold told'
  cases stp d r with
  | none => have := byR_length r; simp only; omega
  | some x => have := whl_length d 4 x; simp only; omega

set_option maxHeartbeats 4000000 in
theorem nDecomp_any (n : Nat) (c : List Cls) (d : List Dec) (dn : Bool) (r : Int) (w : World) (h : Nrm w n c d dn) (hgd : good c d = true) :
    Calls Tryz.prog 14 #[.pointer (some ⟨n, 0, none⟩), .int .i32 r] w fun e w' => ∃ v, e = .returned v ∧ Runes w.heap.size w' v (told' d r) ∧ w.grownBy w' (some n) ∧ Nrm w' n c d true := by
  have hm := nIsMade n true w h.made
  have hmf : ∀ (fn : Fn) (first cap : Array Value) (w : World), (Instr.makeFunc fn first cap).run Tryz.prog w = .ok (.func fn first cap) w := fun _ _ _ _ => rfl
  have hD := nDo_any n c d dn w h hgd
  clear h
  refine Calls.mono (R := fun e w' => ∃ v, e = .returned v ∧ (∃ w2, w.grownBy w2 (some n) ∧ Nrm w2 n c d true ∧ w2.grownBy w' none ∧ Runes w2.heap.size w' v (told' d r))) ?_ ?_
  · cases hs : stp d r with
    | none =>
      have ht : told' d r = byR r := by unfold told'; rw [hs]
      have hB := fun w => byRule_any r w
      have hbn := byR_ne r
      rw [ht]
      go_enter Tryz.func14, Tryz.ntmps14
      go_wp2_with (first
        | (go_at_call 48; refine hm.mono ?_; rintro e w' ⟨rfl, rfl⟩)
        | (go_at_call 49; refine hD.mono ?_; rintro e w2 ⟨rfl, hg2, hN2⟩; have hN0 := hN2; obtain ⟨vc, vd, mv, h1, h2, h3, h4, h5, h6⟩ := hN2; obtain ⟨m, rfl, hnm, hF⟩ := h6 rfl; obtain ⟨es, hes, hlk⟩ := hF.look; have k6 := h4.full; have hrun := run_lookup_ents (P := Tryz.prog) (t := 46) Tryz.underlying46 Tryz.underlying21 zeroRunes hes r; replace hlk := hlk r; rw [hs] at hlk; simp only at hlk; rw [hlk] at hrun; rw [Option.getD_none, Option.isSome_none] at hrun; clear h1 h2 h3 h4 h5 h6 hF hes hlk)
        | (go_at_call 52; refine (hB _).mono ?_; rintro e w3 ⟨v3, rfl, hR3, hg3⟩))
      go_ret
      exact ⟨_, rfl, _, hg2, hN0, hg3, hR3.runes hbn⟩
    | some x =>
      have ht : told' d r = whl d 4 x := by unfold told'; rw [hs]
      have hlen := told_length d r
      rw [ht] at hlen
      have hCp := fun v w h => ncopied_any (n + 1) v (whl d 4 x) w h (by omega)
      rw [ht]
      go_enter Tryz.func14, Tryz.ntmps14
      go_wp2_with (first
        | (go_at_call 48; refine hm.mono ?_; rintro e w' ⟨rfl, rfl⟩)
        | (go_at_call 49; refine hD.mono ?_; rintro e w2 ⟨rfl, hg2, hN2⟩; have hN0 := hN2; obtain ⟨vc, vd, mv, h1, h2, h3, h4, h5, h6⟩ := hN2; obtain ⟨m, rfl, hnm, hF⟩ := h6 rfl; obtain ⟨es, hes, hlk⟩ := hF.look; have k6 := h4.full; have hrun := run_lookup_ents (P := Tryz.prog) (t := 46) Tryz.underlying46 Tryz.underlying21 zeroRunes hes r; replace hlk := hlk r; rw [hs] at hlk; simp only at hlk; obtain ⟨vv, hlk, hRR⟩ := hlk; rw [hlk] at hrun; rw [Option.getD_some, Option.isSome_some] at hrun; clear h1 h2 h3 h4 h5 h6 hF hes hlk)
        | (go_at_call 51; refine (hCp _ _ hRR).mono ?_; rintro e w3 ⟨v3, rfl, hR3, hg3⟩))
      go_ret
      exact ⟨_, rfl, _, hg2, hN0, hg3, hR3⟩
  · rintro e w' ⟨v, rfl, w2, q1, q2, q3, q4⟩
    obtain ⟨b, cap, s1, s2, s3⟩ := q4
    exact ⟨_, rfl, ⟨b, cap, s1, Nat.le_trans q1.size s2, s3⟩, q1.trans (gbut q3 _), q2.new q3⟩
end Go.Proofs.YtpdacbiiaglodaaGreat
