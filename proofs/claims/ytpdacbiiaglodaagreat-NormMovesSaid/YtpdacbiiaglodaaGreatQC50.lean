/-
  LAYER 6 (norm): the law NormMoves.
-/
import Derived.Test.YtpdacbiiaglodaaGreatQC42
import Derived.Test.YtpdacbiiaglodaaGreatQC44
import Derived.Test.YtpdacbiiaglodaaGreatQC49
import Derived.Deep.RegionHeld
import Derived.IntWalk
namespace Go.Proofs.YtpdacbiiaglodaaGreat
set_option maxRecDepth 100000
open Go.RowKit Go.Lib

/-- Data that the law may not use, or a list too long: nothing is asked. -/
theorem moves_none (w : World) (vc vd vl : Value) (c : List Cls) (d : List Dec) (l : List Int) (hT : Dat w vc vd c d) (hR : RS w vl l) (h : 200 < c.length ∨ 200 < d.length ∨ good c d = false) :
    Calls Tryz.prog 9 #[vc, vd, vl] w fun e w' => e = .returned (.bool true) ∧ Below w.heap.size w w' := by
  have hA := fun w => mawake_any w
  have hD := fun W (hg : w.grownBy W none) => data_no vc vd c d W (hT.all hg) h
  obtain ⟨a1, c1, rfl, _, _⟩ := hT.1.form
  obtain ⟨a2, c2, rfl, _, _⟩ := hT.2.form
  obtain ⟨a3, c3, rfl, _⟩ := hR
  clear h hT
  generalize c.length = cl at *
  generalize d.length = dl at *
  generalize l.length = n at *
  go_enter Tryz.func9, Tryz.ntmps9
  go_wp2_with fail
  go_at_call 19
  refine (hA _).mono ?_
  rintro e w1 ⟨rfl, hg1⟩
  have hD1 := hD w1 hg1
  clear hD hA
  go_wp2_with (go_at_call 27; refine hD1.mono ?_; rintro e w2 ⟨rfl, hg2⟩)
  go_ret
  exact ⟨rfl, belowg' ((hg1.trans hg2).trans (World.grownBy_alloc w2 _ none))⟩
theorem moves_long (w : World) (vc vd vl : Value) (c : List Cls) (d : List Dec) (l : List Int) (hT : Dat w vc vd c d) (hR : RS w vl l) (h : good c d = true) (hc : c.length ≤ 200) (hd : d.length ≤ 200) (hl : 300 < l.length) :
    Calls Tryz.prog 9 #[vc, vd, vl] w fun e w' => e = .returned (.bool true) ∧ Below w.heap.size w w' := by
  have hA := fun w => mawake_any w
  have hD := fun W (hg : w.grownBy W none) => data_any vc vd c d W (hT.all hg) h hc hd
  obtain ⟨a1, c1, rfl, _, _⟩ := hT.1.form
  obtain ⟨a2, c2, rfl, _, _⟩ := hT.2.form
  obtain ⟨a3, c3, rfl, _⟩ := hR
  clear h hT
  generalize c.length = cl at *
  generalize d.length = dl at *
  generalize l.length = n at *
  go_enter Tryz.func9, Tryz.ntmps9
  go_wp2_with fail
  go_at_call 19
  refine (hA _).mono ?_
  rintro e w1 ⟨rfl, hg1⟩
  have hD1 := hD w1 hg1
  clear hD hA
  go_wp2_with (go_at_call 27; refine hD1.mono ?_; rintro e w2 ⟨m, rfl, _, _, hg2⟩)
  go_ret
  exact ⟨rfl, belowg' ((hg1.trans hg2).trans (World.grownBy_alloc w2 _ none))⟩

/-- Two rows under way, apart. -/
def MI (w4 : World) (A B : List Int) (va vb : Value) (W : World) : Prop :=
  OwnN W w4.heap.size va A ∧ OwnN W w4.heap.size vb B ∧ (∀ q, va.ownBlock = some q → vb.ownBlock ≠ some q) ∧ w4.grownBy W none
theorem MI.new {w4 W W1 : World} {A B : List Int} {va vb : Value} (h : MI w4 A B va vb W) (hg : W.grownBy W1 none) : MI w4 A B va vb W1 :=
  ⟨h.1.kept hg (by simp), h.2.1.kept hg (by simp), h.2.2.1, h.2.2.2.trans hg⟩
theorem MI.a {w4 W W2 : World} {A B X : List Int} {va vb va' : Value} (h : MI w4 A B va vb W) (ho : OwnN W2 w4.heap.size va' X) (hg : W.grownBy W2 va.ownBlock) (hb : va'.ownBlock = va.ownBlock ∨ ∃ k, va'.ownBlock = some k ∧ W.heap.size ≤ k) : MI w4 X B va' vb W2 := by
  obtain ⟨h1, h2, h3, h4⟩ := h
  refine ⟨ho, h2.kept hg (fun k e e' => h3 k e' e), fun q e => ?_, gnew h4 hg (fun r e => .inl (h1.lt r e).1)⟩
  rcases hb with hb | ⟨k, hb, hk⟩
  · exact h3 q (by rw [← hb]; exact e)
  · rw [hb] at e
    cases e
    exact fun e' => by have := (h2.lt _ e').2; omega
theorem MI.b {w4 W W2 : World} {A B X : List Int} {va vb vb' : Value} (h : MI w4 A B va vb W) (ho : OwnN W2 w4.heap.size vb' X) (hg : W.grownBy W2 vb.ownBlock) (hb : vb'.ownBlock = vb.ownBlock ∨ ∃ k, vb'.ownBlock = some k ∧ W.heap.size ≤ k) : MI w4 A X va vb' W2 := by
  obtain ⟨h1, h2, h3, h4⟩ := h
  refine ⟨h1.kept hg (fun k e e' => h3 k e e'), ho, fun q e e' => ?_, gnew h4 hg (fun r e => .inl (h2.lt r e).1)⟩
  rcases hb with hb | ⟨k, hb, hk⟩
  · rw [hb] at e'
    exact h3 q e e'
  · rw [hb] at e'
    cases e'
    have := (h1.lt _ e).2
    omega
theorem pk_cases (f : Int → Int) (k u : Int) : ((f u == k) = true ∧ pk f k u = true) ∨ ((f u == k) = false ∧ (f u == 0) = true ∧ pk f k u = true) ∨ ((f u == k) = false ∧ (f u == 0) = false ∧ pk f k u = false) := by
  unfold pk
  by_cases h1 : f u = k
  · exact .inl ⟨by simp [h1], by simp [h1]⟩
  · by_cases h2 : f u = 0
    · exact .inr (.inl ⟨by simp [h1], by simp [h2], by simp [h2]⟩)
    · exact .inr (.inr ⟨by simp [h1], by simp [h2], by simp [h1, h2]⟩)

set_option maxHeartbeats 8000000 in
theorem moves_walk (w : World) (vc vd vl : Value) (c : List Cls) (d : List Dec) (l : List Int) (hT : Dat w vc vd c d) (hR : RS w vl l) (h : good c d = true) (hc : c.length ≤ 200) (hd : d.length ≤ 200) (hl : l.length ≤ 300) :
    Calls Tryz.prog 9 #[vc, vd, vl] w fun e w' => e = .returned (.bool true) ∧ Below w.heap.size w w' := by
  have hA := fun w => mawake_any w
  have hD := fun W (hg : w.grownBy W none) => data_any vc vd c d W (hT.all hg) h hc hd
  have hC := fun W (hg : w.grownBy W none) r => rCls_any vc vd c d r W (hT.all hg)
  have hO := fun p v F W hN hr => order_any p v (clsOf c) (told' d) F l W hN hr (by omega)
  have hRg := fun W (hg : w.grownBy W none) => hR.new hg
  have hst := ord_starter (clsOf c) l
  have hfl := fun k => ord_fil (clsOf c) k l
  have hch := ord_chn (clsOf c) l
  have hol := ord_length (clsOf c) l
  have hdn : decide ((300 : Int) < (l.length : Int)) = false := by simp; omega
  obtain ⟨a1, c1, rfl, _, _⟩ := hT.1.form
  obtain ⟨a2, c2, rfl, _, _⟩ := hT.2.form
  obtain ⟨a3, c3, rfl, _⟩ := id hR
  clear h hT hR hc hd
  generalize c.length = cl at *
  generalize d.length = dl at *
  generalize clsOf c = f at *
  generalize told' d = df at *
  generalize ord f l = o at *
  obtain ⟨n, hn⟩ : ∃ n, n = l.length := ⟨_, rfl⟩
  have HN := Lib.hid hn
  rw [← hn] at hl hO hRg hdn ⊢
  have HOL := Lib.hid hol
  replace hst := Lib.hid hst
  replace hfl := Lib.hid hfl
  replace hch := Lib.hid hch
  replace hC := Lib.hid hC
  replace hRg := Lib.hid hRg
  clear hol hn
  go_enter Tryz.func9, Tryz.ntmps9
  go_wp2_with fail
  go_at_call 19
  refine (hA _).mono ?_
  rintro e w1 ⟨rfl, hg1⟩
  have hD1 := hD w1 hg1
  clear hD hA
  go_wp2_with fail
  go_at_call 27
  refine hD1.mono ?_
  rintro e w2 ⟨m, rfl, hm, ⟨F, hN2, _⟩, hg2⟩
  have hpos := Lib.hid (nd_pos hN2)
  clear hD1
  obtain ⟨W, hW⟩ : ∃ W, W = w2.alloc (.cells #[.slice a1 cl c1, .slice a2 dl c2] 59) := ⟨_, rfl⟩
  have hgW : w2.grownBy W none := by rw [hW]; exact World.grownBy_alloc _ _ none
  have hg12 := hg1.trans hg2
  have hgw := hg12.trans hgW
  have hNW := hN2.new hgW
  have hRW := hRg.out W hgw
  have kW : W.heap[w2.heap.size]? = some (.cells #[.slice a1 cl c1, .slice a2 dl c2] 59 (0, 0)) := by rw [hW]; exact World.alloc_heap_new _ _
  have hbx : w2.heap.size < W.heap.size := by rw [hW, World.size_alloc]; omega
  replace hW := Lib.hid hW
  replace hNW := Lib.hid hNW
  replace kW := Lib.hid kW
  clear hN2 hg1 hg2 hg12
  go_wp2_with (first
    | (at_builtin; rw [← hW.out]; refine wpList_append_rs _ rfl _ _ 50 rfl W.heap.size Tryz.underlying50 (.slice none 0 0) [] rfl (OwnN.none _ _) (.slice a3 n c3) l rfl hRW (by have := HN.out; simp; omega) (Nat.le_refl _) ?_; intro v3 w3 hO3 hg3 _; obtain ⟨a4, c4, rfl⟩ := hO3.form; have hO4 := hO _ _ F w3 (hNW.out.new hg3) hO3.ro.reads; clear hO)
    | (go_at_call 39; refine hO4.mono ?_; rintro e w4 ⟨a5, rfl, hR5, hg4⟩; clear hO4))
  have hgW4 : W.grownBy w4 none := World.grownBy.trans hg3 hg4
  have hgw4 : w.grownBy w4 none := hgw.trans hgW4
  have hB : Hid (∀ V, w4.grownBy V none → V.cell? ⟨w2.heap.size, 0, none⟩ = some (.slice a1 cl c1) ∧ V.cell? ⟨w2.heap.size, 1, none⟩ = some (.slice a2 dl c2)) := Lib.hid fun V hg => by
    have := ((hgW4.trans hg).block w2.heap.size hbx (by simp)).trans kW.out
    exact ⟨by simp [World.cell?, this], by simp [World.cell?, this]⟩
  have hCl : Hid (∀ V, w4.grownBy V none → ∀ r : Int, Calls Tryz.prog 40 #[.agg #[.slice a1 cl c1, .slice a2 dl c2], .int .i32 r] V fun e w' => e = .returned (.int .i64 (f r)) ∧ V.grownBy w' none) := Lib.hid fun V hg => hC.out V (hgw4.trans hg)
  have hL : Hid (∀ V, w4.grownBy V none → RS V (.slice a3 n c3) l) := Lib.hid fun V hg => hRg.out V (hgw4.trans hg)
  have hOo : Hid (∀ V, w4.grownBy V none → RS V (.slice a5 n n) o) := Lib.hid fun V hg => hR5.reads.new hg
  have hfin : Hid (∀ V, w4.grownBy V none → Below w.heap.size w V) := Lib.hid fun V hg => belowg' (hgw4.trans hg)
  have hs4 := hgW4.size
  generalize w2.heap.size = bx at *
  clear hgW4 hgw4 hgw hgW hRW hW hNW kW hR5 hg3 hg4 hRg hC hO3
  go_wp2_with fail
  go_loopw [47] (fun v47 wr => ∃ i : Nat, v47 = .int .i64 (i : Int) ∧ i ≤ n ∧ w4.grownBy wr none) (fun v47 _ => n - (RowKit.intOf v47).toNat)
  case atStart => exact ⟨0, rfl, Nat.zero_le _, World.grownBy.refl _ _⟩
  case round =>
    obtain ⟨i, rfl, hi, hg⟩ := hrel
    by_cases hlt : i < n
    · obtain ⟨x, hx⟩ : ∃ x, l[i]? = some x := ⟨_, List.getElem?_eq_getElem (by have := HN.out; omega)⟩
      have gd := hg.trans (gdrew (World.grownBy.refl wr none))
      obtain ⟨k0, k1⟩ := hB.out _ gd
      have hCx := hCl.out _ gd x
      obtain ⟨b3, o3, rfl, hcx⟩ := RS.cell (hL.out _ gd) hx
      by_cases hz : f x = 0
      · have hox := hst.out i x hx hz
        obtain ⟨b5, o5, rfl, hc5⟩ := RS.cell (hOo.out _ gd) hox
        have hzb : (f x == 0) = true := by simp [hz]
        clear hx hox hz
        go_wp2_with fail
        refine wp_region_held_drew (S := fun V => w4.grownBy V none ∧ V.cell? ⟨bx, 0, none⟩ = some (.slice a1 cl c1) ∧ V.cell? ⟨bx, 1, none⟩ = some (.slice a2 dl c2) ∧ V.cell? ⟨b3, o3 + i, none⟩ = some (.int .i32 x) ∧ V.cell? ⟨b5, o5 + i, none⟩ = some (.int .i32 x)) (by kernel_rfl) ⟨gd, k0, k1, hcx, hc5⟩ (fun hS0 => ?_)
        refine wpAnyH_take (i := 0) (oi := ⟨some 50, _, _, _, _, _⟩) (v := ?_) rfl (by kernel_rfl) (by kernel_rfl) (by kernel_rfl) (fun _ _ _ h => h) (Or.inl ⟨by rfl, ?_⟩) (by assumption) ?_
        rotate_left
        · (intro w hSw; (try dsimp only at hSw); go_simp; try with_reducible rfl)
        try simp only [Act.put, List.setIfInBounds_toArray, List.set_cons_zero, List.set_cons_succ]
        refine wpAnyH_take (i := 1) (oi := ⟨some 51, _, _, _, _, _⟩) (v := ?_) rfl (by kernel_rfl) (by kernel_rfl) (by kernel_rfl) (fun _ _ _ h => h) (Or.inl ⟨by rfl, ?_⟩) (by assumption) ?_
        rotate_left
        · (intro w hSw; (try dsimp only at hSw); go_simp; try with_reducible rfl)
        try simp only [Act.put, List.setIfInBounds_toArray, List.set_cons_zero, List.set_cons_succ]
        refine wpAnyH_take (i := 2) (oi := ⟨some 52, _, _, _, _, _⟩) (v := ?_) rfl (by kernel_rfl) (by kernel_rfl) (by kernel_rfl) (fun _ _ _ h => h) (Or.inl ⟨by rfl, ?_⟩) (by assumption) ?_
        rotate_left
        · (intro w hSw; (try dsimp only at hSw); go_simp; try with_reducible rfl)
        try simp only [Act.put, List.setIfInBounds_toArray, List.set_cons_zero, List.set_cons_succ]
        refine wpAnyH_take (i := 3) (oi := ⟨some 53, _, _, _, _, _⟩) (v := ?_) rfl (by kernel_rfl) (by kernel_rfl) (by kernel_rfl) (fun _ _ _ h => h) (Or.inl ⟨by rfl, ?_⟩) (by assumption) ?_
        rotate_left
        · (intro w hSw; (try dsimp only at hSw); go_simp; try with_reducible rfl)
        try simp only [Act.put, List.setIfInBounds_toArray, List.set_cons_zero, List.set_cons_succ]
        refine wpAnyH_take (i := 4) (oi := ⟨some 54, _, _, _, _, _⟩) (v := ?_) rfl (by kernel_rfl) (by kernel_rfl) (by kernel_rfl) (fun _ _ _ h => h) (Or.inl ⟨by rfl, ?_⟩) (by assumption) ?_
        rotate_left
        · (intro w hSw; (try dsimp only at hSw); go_simp; try with_reducible rfl)
        try simp only [Act.put, List.setIfInBounds_toArray, List.set_cons_zero, List.set_cons_succ]
        refine wpAnyH_ready (rs := [5]) (by kernel_rfl) (by simp) ?_
        refine AllReadyH.cons rfl (fun K hK => ?_) AllReadyH.nil
        go_simp
        refine hCx.mono ?_
        rintro e w6 ⟨rfl, hg6⟩
        have hS6 := And.intro (gd.trans hg6) (And.intro (hg6.cell k0 (by simp)) (And.intro (hg6.cell k1 (by simp)) (And.intro (hg6.cell hcx (by simp)) (hg6.cell hc5 (by simp)))))
        go_wp2_with fail
        refine hK.out _ _ hS6 (fun hS7 => ?_)
        clear hK
        refine wpAnyH_take (i := 6) (oi := ⟨some 56, _, _, _, _, _⟩) (v := ?_) rfl (by kernel_rfl) (by kernel_rfl) (by kernel_rfl) (fun _ _ _ h => h) (Or.inl ⟨by rfl, ?_⟩) (by assumption) ?_
        rotate_left
        · (intro w hSw; (try dsimp only at hSw); go_simp; try with_reducible rfl)
        try simp only [Act.put, List.setIfInBounds_toArray, List.set_cons_zero, List.set_cons_succ]
        refine wpAnyH_take (i := 7) (oi := ⟨some 57, _, _, _, _, _⟩) (v := ?_) rfl (by kernel_rfl) (by kernel_rfl) (by kernel_rfl) (fun _ _ _ h => h) (Or.inl ⟨by rfl, ?_⟩) (by assumption) ?_
        rotate_left
        · (intro w hSw; (try dsimp only at hSw); go_simp; try with_reducible rfl)
        try simp only [Act.put, List.setIfInBounds_toArray, List.set_cons_zero, List.set_cons_succ]
        refine wpAnyH_take (i := 8) (oi := ⟨some 58, _, _, _, _, _⟩) (v := ?_) rfl (by kernel_rfl) (by kernel_rfl) (by kernel_rfl) (fun _ _ _ h => h) (Or.inl ⟨by rfl, ?_⟩) (by assumption) ?_
        rotate_left
        · (intro w hSw; (try dsimp only at hSw); go_simp; try with_reducible rfl)
        try simp only [Act.put, List.setIfInBounds_toArray, List.set_cons_zero, List.set_cons_succ]
        refine wpAnyH_take (i := 9) (oi := ⟨some 59, _, _, _, _, _⟩) (v := ?_) rfl (by kernel_rfl) (by kernel_rfl) (by kernel_rfl) (fun _ _ _ h => h) (Or.inl ⟨by rfl, ?_⟩) (by assumption) ?_
        rotate_left
        · (intro w hSw; (try dsimp only at hSw); go_simp; try with_reducible rfl)
        try simp only [Act.put, List.setIfInBounds_toArray, List.set_cons_zero, List.set_cons_succ]
        refine wpAnyH_take (i := 10) (oi := ⟨some 60, _, _, _, _, _⟩) (v := ?_) rfl (by kernel_rfl) (by kernel_rfl) (by kernel_rfl) (fun _ _ _ h => h) (Or.inl ⟨by rfl, ?_⟩) (by assumption) ?_
        rotate_left
        · (intro w hSw; (try dsimp only at hSw); go_simp; try with_reducible rfl)
        try simp only [Act.put, List.setIfInBounds_toArray, List.set_cons_zero, List.set_cons_succ]
        refine wpAnyH_take (i := 11) (oi := ⟨some 61, _, _, _, _, _⟩) (v := ?_) rfl (by kernel_rfl) (by kernel_rfl) (by kernel_rfl) (fun _ _ _ h => h) (Or.inl ⟨by rfl, ?_⟩) (by assumption) ?_
        rotate_left
        · (intro w hSw; (try dsimp only at hSw); go_simp; try with_reducible rfl)
        try simp only [Act.put, List.setIfInBounds_toArray, List.set_cons_zero, List.set_cons_succ]
        refine wpAnyH_take (i := 12) (oi := ⟨some 62, _, _, _, _, _⟩) (v := ?_) rfl (by kernel_rfl) (by kernel_rfl) (by kernel_rfl) (fun _ _ _ h => h) (Or.inl ⟨by rfl, ?_⟩) (by assumption) ?_
        rotate_left
        · (intro w hSw; (try dsimp only at hSw); go_simp; try with_reducible rfl)
        try simp only [Act.put, List.setIfInBounds_toArray, List.set_cons_zero, List.set_cons_succ]
        refine wpAnyH_take (i := 13) (oi := ⟨some 63, _, _, _, _, _⟩) (v := ?_) rfl (by kernel_rfl) (by kernel_rfl) (by kernel_rfl) (fun _ _ _ h => h) (Or.inl ⟨by rfl, ?_⟩) (by assumption) ?_
        rotate_left
        · (intro w hSw; (try dsimp only at hSw); go_simp; try with_reducible rfl)
        try simp only [Act.put, List.setIfInBounds_toArray, List.set_cons_zero, List.set_cons_succ]
        refine wpAnyH_take (i := 14) (oi := ⟨some 64, _, _, _, _, _⟩) (v := ?_) rfl (by kernel_rfl) (by kernel_rfl) (by kernel_rfl) (fun _ _ _ h => h) (Or.inl ⟨by rfl, ?_⟩) (by assumption) ?_
        rotate_left
        · (intro w hSw; (try dsimp only at hSw); go_simp; try with_reducible rfl)
        try simp only [Act.put, List.setIfInBounds_toArray, List.set_cons_zero, List.set_cons_succ]
        refine wpAnyH_take (i := 15) (oi := ⟨some 65, _, _, _, _, _⟩) (v := ?_) rfl (by kernel_rfl) (by kernel_rfl) (by kernel_rfl) (fun _ _ _ h => h) (Or.inl ⟨by rfl, ?_⟩) (by assumption) ?_
        rotate_left
        · (intro w hSw; (try dsimp only at hSw); go_simp; try with_reducible rfl)
        try simp only [Act.put, List.setIfInBounds_toArray, List.set_cons_zero, List.set_cons_succ]
        refine wpAnyH_take (i := 16) (oi := ⟨some 66, _, _, _, _, _⟩) (v := ?_) rfl (by kernel_rfl) (by kernel_rfl) (by kernel_rfl) (fun _ _ _ h => h) (Or.inl ⟨by rfl, ?_⟩) (by assumption) ?_
        rotate_left
        · (intro w hSw; (try dsimp only at hSw); go_simp; try with_reducible rfl)
        try simp only [Act.put, List.setIfInBounds_toArray, List.set_cons_zero, List.set_cons_succ]
        refine wpAnyH_take (i := 17) (oi := ⟨some 67, _, _, _, _, _⟩) (v := ?_) rfl (by kernel_rfl) (by kernel_rfl) (by kernel_rfl) (fun _ _ _ h => h) (Or.inl ⟨by rfl, ?_⟩) (by assumption) ?_
        rotate_left
        · (intro w hSw; (try dsimp only at hSw); go_simp; try with_reducible rfl)
        try simp only [Act.put, List.setIfInBounds_toArray, List.set_cons_zero, List.set_cons_succ]
        refine wpAnyH_done (by kernel_rfl) ?_ _
        have hg7 := hS6.1
        clear hS0 hS6 hS7 k0 k1 hcx hc5 gd hg6 hCx
        go_wp2_with fail
        go_roundw
        case rel => exact ⟨i + 1, by go_num, by omega, hg7⟩
        case measure => simp [RowKit.intOf]; omega
      · have hzb : (f x == 0) = false := by simp [hz]
        clear hx hz
        go_wp2_with fail
        refine wp_region_held_drew (S := fun V => w4.grownBy V none ∧ V.cell? ⟨bx, 0, none⟩ = some (.slice a1 cl c1) ∧ V.cell? ⟨bx, 1, none⟩ = some (.slice a2 dl c2) ∧ V.cell? ⟨b3, o3 + i, none⟩ = some (.int .i32 x)) (by kernel_rfl) ⟨gd, k0, k1, hcx⟩ (fun hS0 => ?_)
        refine wpAnyH_take (i := 0) (oi := ⟨some 50, _, _, _, _, _⟩) (v := ?_) rfl (by kernel_rfl) (by kernel_rfl) (by kernel_rfl) (fun _ _ _ h => h) (Or.inl ⟨by rfl, ?_⟩) (by assumption) ?_
        rotate_left
        · (intro w hSw; (try dsimp only at hSw); go_simp; try with_reducible rfl)
        try simp only [Act.put, List.setIfInBounds_toArray, List.set_cons_zero, List.set_cons_succ]
        refine wpAnyH_take (i := 1) (oi := ⟨some 51, _, _, _, _, _⟩) (v := ?_) rfl (by kernel_rfl) (by kernel_rfl) (by kernel_rfl) (fun _ _ _ h => h) (Or.inl ⟨by rfl, ?_⟩) (by assumption) ?_
        rotate_left
        · (intro w hSw; (try dsimp only at hSw); go_simp; try with_reducible rfl)
        try simp only [Act.put, List.setIfInBounds_toArray, List.set_cons_zero, List.set_cons_succ]
        refine wpAnyH_take (i := 2) (oi := ⟨some 52, _, _, _, _, _⟩) (v := ?_) rfl (by kernel_rfl) (by kernel_rfl) (by kernel_rfl) (fun _ _ _ h => h) (Or.inl ⟨by rfl, ?_⟩) (by assumption) ?_
        rotate_left
        · (intro w hSw; (try dsimp only at hSw); go_simp; try with_reducible rfl)
        try simp only [Act.put, List.setIfInBounds_toArray, List.set_cons_zero, List.set_cons_succ]
        refine wpAnyH_take (i := 3) (oi := ⟨some 53, _, _, _, _, _⟩) (v := ?_) rfl (by kernel_rfl) (by kernel_rfl) (by kernel_rfl) (fun _ _ _ h => h) (Or.inl ⟨by rfl, ?_⟩) (by assumption) ?_
        rotate_left
        · (intro w hSw; (try dsimp only at hSw); go_simp; try with_reducible rfl)
        try simp only [Act.put, List.setIfInBounds_toArray, List.set_cons_zero, List.set_cons_succ]
        refine wpAnyH_take (i := 4) (oi := ⟨some 54, _, _, _, _, _⟩) (v := ?_) rfl (by kernel_rfl) (by kernel_rfl) (by kernel_rfl) (fun _ _ _ h => h) (Or.inl ⟨by rfl, ?_⟩) (by assumption) ?_
        rotate_left
        · (intro w hSw; (try dsimp only at hSw); go_simp; try with_reducible rfl)
        try simp only [Act.put, List.setIfInBounds_toArray, List.set_cons_zero, List.set_cons_succ]
        refine wpAnyH_ready (rs := [5]) (by kernel_rfl) (by simp) ?_
        refine AllReadyH.cons rfl (fun K hK => ?_) AllReadyH.nil
        go_simp
        refine hCx.mono ?_
        rintro e w6 ⟨rfl, hg6⟩
        have hS6 := And.intro (gd.trans hg6) (And.intro (hg6.cell k0 (by simp)) (And.intro (hg6.cell k1 (by simp)) (hg6.cell hcx (by simp))))
        go_wp2_with fail
        refine hK.out _ _ hS6 (fun hS7 => ?_)
        clear hK
        refine wpAnyH_take (i := 6) (oi := ⟨some 56, _, _, _, _, _⟩) (v := ?_) rfl (by kernel_rfl) (by kernel_rfl) (by kernel_rfl) (fun _ _ _ h => h) (Or.inl ⟨by rfl, ?_⟩) (by assumption) ?_
        rotate_left
        · (intro w hSw; (try dsimp only at hSw); go_simp; try with_reducible rfl)
        try simp only [Act.put, List.setIfInBounds_toArray, List.set_cons_zero, List.set_cons_succ]
        refine wpAnyH_take (i := 7) (oi := ⟨some 57, _, _, _, _, _⟩) (v := ?_) rfl (by kernel_rfl) (by kernel_rfl) (by kernel_rfl) (fun _ _ _ h => h) (Or.inl ⟨by rfl, ?_⟩) (by assumption) ?_
        rotate_left
        · (intro w hSw; (try dsimp only at hSw); go_simp; try with_reducible rfl)
        try simp only [Act.put, List.setIfInBounds_toArray, List.set_cons_zero, List.set_cons_succ]
        refine wpAnyH_take (i := 8) (oi := ⟨some 58, _, _, _, _, _⟩) (v := undef) rfl (by kernel_rfl) (by kernel_rfl) (by kernel_rfl) (fun _ _ _ h => h) (Or.inr ⟨by rfl, rfl⟩) (by assumption) ?_
        try simp only [Act.put, List.setIfInBounds_toArray, List.set_cons_zero, List.set_cons_succ]
        refine wpAnyH_take (i := 9) (oi := ⟨some 59, _, _, _, _, _⟩) (v := undef) rfl (by kernel_rfl) (by kernel_rfl) (by kernel_rfl) (fun _ _ _ h => h) (Or.inr ⟨by rfl, rfl⟩) (by assumption) ?_
        try simp only [Act.put, List.setIfInBounds_toArray, List.set_cons_zero, List.set_cons_succ]
        refine wpAnyH_take (i := 10) (oi := ⟨some 60, _, _, _, _, _⟩) (v := undef) rfl (by kernel_rfl) (by kernel_rfl) (by kernel_rfl) (fun _ _ _ h => h) (Or.inr ⟨by rfl, rfl⟩) (by assumption) ?_
        try simp only [Act.put, List.setIfInBounds_toArray, List.set_cons_zero, List.set_cons_succ]
        refine wpAnyH_take (i := 11) (oi := ⟨some 61, _, _, _, _, _⟩) (v := undef) rfl (by kernel_rfl) (by kernel_rfl) (by kernel_rfl) (fun _ _ _ h => h) (Or.inr ⟨by rfl, rfl⟩) (by assumption) ?_
        try simp only [Act.put, List.setIfInBounds_toArray, List.set_cons_zero, List.set_cons_succ]
        refine wpAnyH_take (i := 12) (oi := ⟨some 62, _, _, _, _, _⟩) (v := undef) rfl (by kernel_rfl) (by kernel_rfl) (by kernel_rfl) (fun _ _ _ h => h) (Or.inr ⟨by rfl, rfl⟩) (by assumption) ?_
        try simp only [Act.put, List.setIfInBounds_toArray, List.set_cons_zero, List.set_cons_succ]
        refine wpAnyH_take (i := 13) (oi := ⟨some 63, _, _, _, _, _⟩) (v := undef) rfl (by kernel_rfl) (by kernel_rfl) (by kernel_rfl) (fun _ _ _ h => h) (Or.inr ⟨by rfl, rfl⟩) (by assumption) ?_
        try simp only [Act.put, List.setIfInBounds_toArray, List.set_cons_zero, List.set_cons_succ]
        refine wpAnyH_take (i := 14) (oi := ⟨some 64, _, _, _, _, _⟩) (v := undef) rfl (by kernel_rfl) (by kernel_rfl) (by kernel_rfl) (fun _ _ _ h => h) (Or.inr ⟨by rfl, rfl⟩) (by assumption) ?_
        try simp only [Act.put, List.setIfInBounds_toArray, List.set_cons_zero, List.set_cons_succ]
        refine wpAnyH_take (i := 15) (oi := ⟨some 65, _, _, _, _, _⟩) (v := undef) rfl (by kernel_rfl) (by kernel_rfl) (by kernel_rfl) (fun _ _ _ h => h) (Or.inr ⟨by rfl, rfl⟩) (by assumption) ?_
        try simp only [Act.put, List.setIfInBounds_toArray, List.set_cons_zero, List.set_cons_succ]
        refine wpAnyH_take (i := 16) (oi := ⟨some 66, _, _, _, _, _⟩) (v := undef) rfl (by kernel_rfl) (by kernel_rfl) (by kernel_rfl) (fun _ _ _ h => h) (Or.inr ⟨by rfl, rfl⟩) (by assumption) ?_
        try simp only [Act.put, List.setIfInBounds_toArray, List.set_cons_zero, List.set_cons_succ]
        refine wpAnyH_take (i := 17) (oi := ⟨some 67, _, _, _, _, _⟩) (v := ?_) rfl (by kernel_rfl) (by kernel_rfl) (by kernel_rfl) (fun _ _ _ h => h) (Or.inl ⟨by rfl, ?_⟩) (by assumption) ?_
        rotate_left
        · (intro w hSw; (try dsimp only at hSw); go_simp; try with_reducible rfl)
        try simp only [Act.put, List.setIfInBounds_toArray, List.set_cons_zero, List.set_cons_succ]
        refine wpAnyH_done (by kernel_rfl) ?_ _
        have hg7 := hS6.1
        clear hS0 hS6 hS7 k0 k1 hcx gd hg6 hCx
        go_wp2_with fail
        go_roundw
        case rel => exact ⟨i + 1, by go_num, by omega, hg7⟩
        case measure => simp [RowKit.intOf]; omega
    · obtain rfl : n = i := by omega
      clear hst
      go_wp2_with fail
      go_loopw [12] (fun v12 wr => ∃ k : Nat, v12 = .int .i64 (k : Int) ∧ k ≤ 255 ∧ w4.grownBy wr none) (fun v12 _ => 255 - (RowKit.intOf v12).toNat)
      case atStart => exact ⟨0, rfl, Nat.zero_le _, hg⟩
      case round =>
        clear hg
        obtain ⟨k, rfl, hk, hg⟩ := hrel
        by_cases hk2 : k < 255
        · have hkd : decide ((k : Int) < 255) = true := by simp; omega
          have M0 : Aside (MI w4 ((l.take 0).filter (pk f k)) ((o.take 0).filter (pk f k)) (.slice none 0 0) (.slice none 0 0) wr) := by
            refine ⟨?_, ?_, (fun q e => by cases e), hg⟩
            · rw [List.take_zero]; exact OwnN.none _ _
            · rw [List.take_zero]; exact OwnN.none _ _
          clear hg
          go_wp2_with fail
          go_loopw [13, 14, 75] (fun v13 v14 v75 wr => ∃ i : Nat, v75 = .int .i64 (i : Int) ∧ i ≤ n ∧ Aside (MI w4 ((l.take i).filter (pk f k)) ((o.take i).filter (pk f k)) v13 v14 wr)) (fun _ _ v75 _ => n - (RowKit.intOf v75).toNat)
          case atStart => exact ⟨0, rfl, Nat.zero_le _, M0⟩
          case round =>
            clear M0
            obtain ⟨i, rfl, hi, hM⟩ := hrel
            by_cases hlt : i < n
            · obtain ⟨x, hx⟩ : ∃ x, l[i]? = some x := ⟨_, List.getElem?_eq_getElem (by have := HN.out; omega)⟩
              obtain ⟨y, hy⟩ : ∃ y, o[i]? = some y := ⟨_, List.getElem?_eq_getElem (by have := HN.out; have := HOL.out; omega)⟩
              have fx := Lib.hid (fil_snoc f k l i x hx)
              have fy := Lib.hid (fil_snoc f k o i y hy)
              have hxc := pk_cases f k x
              have hyc := pk_cases f k y
              have la : ((l.take i).filter (pk f k)).length ≤ i := Nat.le_trans (List.length_filter_le _ _) (by rw [List.length_take]; omega)
              have lb : ((o.take i).filter (pk f k)).length ≤ i := Nat.le_trans (List.length_filter_le _ _) (by rw [List.length_take]; omega)
              have hgr := hM.out.2.2.2
              have gd := hgr.trans (gdrew (World.grownBy.refl wr none))
              obtain ⟨k0, k1⟩ := hB.out _ gd
              have hCx := hCl.out _ gd x
              obtain ⟨b3, o3, rfl, hcx⟩ := RS.cell (hL.out _ gd) hx
              obtain ⟨b5, o5, rfl, hcy⟩ := RS.cell (hOo.out _ gd) hy
              have hcY : Hid (∀ V, w4.grownBy V none → V.cell? ⟨b5, o5 + i, none⟩ = some (.int .i32 y)) := Lib.hid fun V hg => by
                obtain ⟨b', o', e, h⟩ := RS.cell (hOo.out V hg) hy
                cases e
                exact h
              have hM0 := hM.out
              generalize (l.take i).filter (pk f k) = A at *
              generalize (o.take i).filter (pk f k) = B at *
              obtain ⟨aA, cA, rfl⟩ := hM0.1.form
              obtain ⟨aB, cB, rfl⟩ := hM0.2.1.form
              clear hx hy hM0
              go_wp2_with fail
              refine wp_region_held_drew (S := fun V => wr.grownBy V none ∧ V.cell? ⟨bx, 0, none⟩ = some (.slice a1 cl c1) ∧ V.cell? ⟨bx, 1, none⟩ = some (.slice a2 dl c2) ∧ V.cell? ⟨b3, o3 + i, none⟩ = some (.int .i32 x)) (by kernel_rfl) ⟨gdrew (World.grownBy.refl wr none), k0, k1, hcx⟩ (fun hS0 => ?_)
              refine wpAnyH_take (i := 0) (oi := ⟨some 78, _, _, _, _, _⟩) (v := ?_) rfl (by kernel_rfl) (by kernel_rfl) (by kernel_rfl) (fun _ _ _ h => h) (Or.inl ⟨by rfl, ?_⟩) (by assumption) ?_
              rotate_left
              · (intro w hSw; (try dsimp only at hSw); go_simp; try with_reducible rfl)
              try simp only [Act.put, List.setIfInBounds_toArray, List.set_cons_zero, List.set_cons_succ]
              refine wpAnyH_take (i := 1) (oi := ⟨some 79, _, _, _, _, _⟩) (v := ?_) rfl (by kernel_rfl) (by kernel_rfl) (by kernel_rfl) (fun _ _ _ h => h) (Or.inl ⟨by rfl, ?_⟩) (by assumption) ?_
              rotate_left
              · (intro w hSw; (try dsimp only at hSw); go_simp; try with_reducible rfl)
              try simp only [Act.put, List.setIfInBounds_toArray, List.set_cons_zero, List.set_cons_succ]
              refine wpAnyH_take (i := 2) (oi := ⟨some 80, _, _, _, _, _⟩) (v := ?_) rfl (by kernel_rfl) (by kernel_rfl) (by kernel_rfl) (fun _ _ _ h => h) (Or.inl ⟨by rfl, ?_⟩) (by assumption) ?_
              rotate_left
              · (intro w hSw; (try dsimp only at hSw); go_simp; try with_reducible rfl)
              try simp only [Act.put, List.setIfInBounds_toArray, List.set_cons_zero, List.set_cons_succ]
              refine wpAnyH_take (i := 3) (oi := ⟨some 81, _, _, _, _, _⟩) (v := ?_) rfl (by kernel_rfl) (by kernel_rfl) (by kernel_rfl) (fun _ _ _ h => h) (Or.inl ⟨by rfl, ?_⟩) (by assumption) ?_
              rotate_left
              · (intro w hSw; (try dsimp only at hSw); go_simp; try with_reducible rfl)
              try simp only [Act.put, List.setIfInBounds_toArray, List.set_cons_zero, List.set_cons_succ]
              refine wpAnyH_take (i := 4) (oi := ⟨some 82, _, _, _, _, _⟩) (v := ?_) rfl (by kernel_rfl) (by kernel_rfl) (by kernel_rfl) (fun _ _ _ h => h) (Or.inl ⟨by rfl, ?_⟩) (by assumption) ?_
              rotate_left
              · (intro w hSw; (try dsimp only at hSw); go_simp; try with_reducible rfl)
              try simp only [Act.put, List.setIfInBounds_toArray, List.set_cons_zero, List.set_cons_succ]
              refine wpAnyH_ready (rs := [5]) (by kernel_rfl) (by simp) ?_
              refine AllReadyH.cons rfl (fun K hK => ?_) AllReadyH.nil
              go_simp
              refine hCx.mono ?_
              rintro e w6 ⟨rfl, hg6⟩
              have hS6 := And.intro ((gdrew (World.grownBy.refl wr none)).trans hg6) (And.intro (hg6.cell k0 (by simp)) (And.intro (hg6.cell k1 (by simp)) (hg6.cell hcx (by simp))))
              go_wp2_with fail
              refine hK.out _ _ hS6 (fun hS7 => ?_)
              clear hK
              refine wpAnyH_ready (rs := [6]) (by kernel_rfl) (by simp) ?_
              refine AllReadyH.cons rfl (fun K hK => ?_) AllReadyH.nil
              go_simp
              refine hK.out _ _ hS7 (fun hS8 => ?_)
              clear hK
              refine wpAnyH_done (by kernel_rfl) ?_ _
              have c6 := hS6.2.2.2
              have hM6 := Lib.hid (hM.out.new hS6.1)
              have hb6 : w4.heap.size ≤ w6.heap.size := (hM6.out.2.2.2).size
              clear hS0 hS6 hS7 hS8 k0 k1 hcx hcy gd hg6 hCx hM hgr
              rcases hxc with ⟨t1, hp⟩ | ⟨t1, t2, hp⟩ | ⟨t1, t2, hp⟩
              · rw [hp] at fx
                clear hp
                go_wp2_with (at_builtin; refine wpList_append_rs _ rfl _ _ 50 rfl w4.heap.size Tryz.underlying50 (.slice aA A.length cA) A rfl (hM6.out.new (World.grownBy_alloc w6 (.cells #[.int .i32 x] 21) none)).1 _ [x] rfl (rs_lit x _) (by simp; omega) (by rw [World.size_alloc]; omega) ?_; intro v7 w7 ho7 hg7 hb7; obtain ⟨a7, m7, rfl⟩ := ho7.form)
                have hM7 := Lib.hid ((hM6.out.new (World.grownBy_alloc w6 (.cells #[.int .i32 x] 21) none)).a ho7 hg7 hb7)
                have hl7 : (A ++ [x]).length = A.length + 1 := by simp
                rw [hl7] at hM7
                clear ho7 hg7 hb7 hM6 c6 hl7
                have gd7 := gdrew (World.grownBy.refl w7 none)
                have gw7 := (hM7.out.2.2.2).trans gd7
                obtain ⟨k0, k1⟩ := hB.out _ gw7
                have hCy := hCl.out _ gw7 y
                have hcy := hcY.out _ gw7
                go_wp2_with fail
                refine wp_region_held_drew (S := fun V => w7.grownBy V none ∧ V.cell? ⟨bx, 0, none⟩ = some (.slice a1 cl c1) ∧ V.cell? ⟨bx, 1, none⟩ = some (.slice a2 dl c2) ∧ V.cell? ⟨b5, o5 + i, none⟩ = some (.int .i32 y)) (by kernel_rfl) ⟨gd7, k0, k1, hcy⟩ (fun hS0 => ?_)
                refine wpAnyH_take (i := 0) (oi := ⟨some 98, _, _, _, _, _⟩) (v := ?_) rfl (by kernel_rfl) (by kernel_rfl) (by kernel_rfl) (fun _ _ _ h => h) (Or.inl ⟨by rfl, ?_⟩) (by assumption) ?_
                rotate_left
                · (intro w hSw; (try dsimp only at hSw); go_simp; try with_reducible rfl)
                try simp only [Act.put, List.setIfInBounds_toArray, List.set_cons_zero, List.set_cons_succ]
                refine wpAnyH_take (i := 1) (oi := ⟨some 99, _, _, _, _, _⟩) (v := ?_) rfl (by kernel_rfl) (by kernel_rfl) (by kernel_rfl) (fun _ _ _ h => h) (Or.inl ⟨by rfl, ?_⟩) (by assumption) ?_
                rotate_left
                · (intro w hSw; (try dsimp only at hSw); go_simp; try with_reducible rfl)
                try simp only [Act.put, List.setIfInBounds_toArray, List.set_cons_zero, List.set_cons_succ]
                refine wpAnyH_take (i := 2) (oi := ⟨some 100, _, _, _, _, _⟩) (v := ?_) rfl (by kernel_rfl) (by kernel_rfl) (by kernel_rfl) (fun _ _ _ h => h) (Or.inl ⟨by rfl, ?_⟩) (by assumption) ?_
                rotate_left
                · (intro w hSw; (try dsimp only at hSw); go_simp; try with_reducible rfl)
                try simp only [Act.put, List.setIfInBounds_toArray, List.set_cons_zero, List.set_cons_succ]
                refine wpAnyH_take (i := 3) (oi := ⟨some 101, _, _, _, _, _⟩) (v := ?_) rfl (by kernel_rfl) (by kernel_rfl) (by kernel_rfl) (fun _ _ _ h => h) (Or.inl ⟨by rfl, ?_⟩) (by assumption) ?_
                rotate_left
                · (intro w hSw; (try dsimp only at hSw); go_simp; try with_reducible rfl)
                try simp only [Act.put, List.setIfInBounds_toArray, List.set_cons_zero, List.set_cons_succ]
                refine wpAnyH_take (i := 4) (oi := ⟨some 102, _, _, _, _, _⟩) (v := ?_) rfl (by kernel_rfl) (by kernel_rfl) (by kernel_rfl) (fun _ _ _ h => h) (Or.inl ⟨by rfl, ?_⟩) (by assumption) ?_
                rotate_left
                · (intro w hSw; (try dsimp only at hSw); go_simp; try with_reducible rfl)
                try simp only [Act.put, List.setIfInBounds_toArray, List.set_cons_zero, List.set_cons_succ]
                refine wpAnyH_ready (rs := [5]) (by kernel_rfl) (by simp) ?_
                refine AllReadyH.cons rfl (fun K hK => ?_) AllReadyH.nil
                go_simp
                refine hCy.mono ?_
                rintro e w8 ⟨rfl, hg8⟩
                have hS8 := And.intro (gd7.trans hg8) (And.intro (hg8.cell k0 (by simp)) (And.intro (hg8.cell k1 (by simp)) (hg8.cell hcy (by simp))))
                go_wp2_with fail
                refine hK.out _ _ hS8 (fun hS7 => ?_)
                clear hK
                refine wpAnyH_ready (rs := [6]) (by kernel_rfl) (by simp) ?_
                refine AllReadyH.cons rfl (fun K hK => ?_) AllReadyH.nil
                go_simp
                refine hK.out _ _ hS7 (fun hS9 => ?_)
                clear hK
                refine wpAnyH_done (by kernel_rfl) ?_ _
                have c8 := hS8.2.2.2
                have hM8 := Lib.hid (hM7.out.new hS8.1)
                have hb8 : w4.heap.size ≤ w8.heap.size := (hM8.out.2.2.2).size
                clear hS0 hS8 hS7 hS9 k0 k1 hcy gd7 gw7 hg8 hCy hM7
                rcases hyc with ⟨s1, hq⟩ | ⟨s1, s2, hq⟩ | ⟨s1, s2, hq⟩

                · rw [hq] at fy
                  clear hq
                  go_wp2_with (at_builtin; refine wpList_append_rs _ rfl _ _ 50 rfl w4.heap.size Tryz.underlying50 (.slice aB B.length cB) B rfl (hM8.out.new (World.grownBy_alloc w8 (.cells #[.int .i32 y] 21) none)).2.1 _ [y] rfl (rs_lit y _) (by simp; omega) (by rw [World.size_alloc]; omega) ?_; intro v9 w9 ho9 hg9 hb9; obtain ⟨a9, m9, rfl⟩ := ho9.form)
                  have Q : Aside (MI w4 ((l.take (i + 1)).filter (pk f k)) ((o.take (i + 1)).filter (pk f k)) (.slice a7 (A.length + 1) m7) (.slice a9 (B.length + 1) m9) w9) := by
                    have := (hM8.out.new (World.grownBy_alloc w8 (.cells #[.int .i32 y] 21) none)).b ho9 hg9 hb9
                    show MI _ _ _ _ _ _
                    rw [fx.out, fy.out]
                    simpa using this
                  clear hM8 ho9 hg9 hb9
                  go_roundw
                  case rel => exact ⟨i + 1, by go_num, by omega, Q⟩
                  case measure => simp [RowKit.intOf]; omega

                · rw [hq] at fy
                  clear hq
                  go_wp2_with (at_builtin; refine wpList_append_rs _ rfl _ _ 50 rfl w4.heap.size Tryz.underlying50 (.slice aB B.length cB) B rfl (hM8.out.new (World.grownBy_alloc w8 (.cells #[.int .i32 y] 21) none)).2.1 _ [y] rfl (rs_lit y _) (by simp; omega) (by rw [World.size_alloc]; omega) ?_; intro v9 w9 ho9 hg9 hb9; obtain ⟨a9, m9, rfl⟩ := ho9.form)
                  have Q : Aside (MI w4 ((l.take (i + 1)).filter (pk f k)) ((o.take (i + 1)).filter (pk f k)) (.slice a7 (A.length + 1) m7) (.slice a9 (B.length + 1) m9) w9) := by
                    have := (hM8.out.new (World.grownBy_alloc w8 (.cells #[.int .i32 y] 21) none)).b ho9 hg9 hb9
                    show MI _ _ _ _ _ _
                    rw [fx.out, fy.out]
                    simpa using this
                  clear hM8 ho9 hg9 hb9
                  go_roundw
                  case rel => exact ⟨i + 1, by go_num, by omega, Q⟩
                  case measure => simp [RowKit.intOf]; omega

                · rw [hq] at fy
                  clear hq
                  go_wp2_with fail
                  have Q : Aside (MI w4 ((l.take (i + 1)).filter (pk f k)) ((o.take (i + 1)).filter (pk f k)) (.slice a7 (A.length + 1) m7) (.slice aB B.length cB) w8) := by
                    have := hM8.out
                    show MI _ _ _ _ _ _
                    rw [fx.out, fy.out]
                    simpa using this
                  clear hM8
                  go_roundw
                  case rel => exact ⟨i + 1, by go_num, by omega, Q⟩
                  case measure => simp [RowKit.intOf]; omega
              · rw [hp] at fx
                clear hp
                go_wp2_with (at_builtin; refine wpList_append_rs _ rfl _ _ 50 rfl w4.heap.size Tryz.underlying50 (.slice aA A.length cA) A rfl (hM6.out.new (World.grownBy_alloc w6 (.cells #[.int .i32 x] 21) none)).1 _ [x] rfl (rs_lit x _) (by simp; omega) (by rw [World.size_alloc]; omega) ?_; intro v7 w7 ho7 hg7 hb7; obtain ⟨a7, m7, rfl⟩ := ho7.form)
                have hM7 := Lib.hid ((hM6.out.new (World.grownBy_alloc w6 (.cells #[.int .i32 x] 21) none)).a ho7 hg7 hb7)
                have hl7 : (A ++ [x]).length = A.length + 1 := by simp
                rw [hl7] at hM7
                clear ho7 hg7 hb7 hM6 c6 hl7
                have gd7 := gdrew (World.grownBy.refl w7 none)
                have gw7 := (hM7.out.2.2.2).trans gd7
                obtain ⟨k0, k1⟩ := hB.out _ gw7
                have hCy := hCl.out _ gw7 y
                have hcy := hcY.out _ gw7
                go_wp2_with fail
                refine wp_region_held_drew (S := fun V => w7.grownBy V none ∧ V.cell? ⟨bx, 0, none⟩ = some (.slice a1 cl c1) ∧ V.cell? ⟨bx, 1, none⟩ = some (.slice a2 dl c2) ∧ V.cell? ⟨b5, o5 + i, none⟩ = some (.int .i32 y)) (by kernel_rfl) ⟨gd7, k0, k1, hcy⟩ (fun hS0 => ?_)
                refine wpAnyH_take (i := 0) (oi := ⟨some 98, _, _, _, _, _⟩) (v := ?_) rfl (by kernel_rfl) (by kernel_rfl) (by kernel_rfl) (fun _ _ _ h => h) (Or.inl ⟨by rfl, ?_⟩) (by assumption) ?_
                rotate_left
                · (intro w hSw; (try dsimp only at hSw); go_simp; try with_reducible rfl)
                try simp only [Act.put, List.setIfInBounds_toArray, List.set_cons_zero, List.set_cons_succ]
                refine wpAnyH_take (i := 1) (oi := ⟨some 99, _, _, _, _, _⟩) (v := ?_) rfl (by kernel_rfl) (by kernel_rfl) (by kernel_rfl) (fun _ _ _ h => h) (Or.inl ⟨by rfl, ?_⟩) (by assumption) ?_
                rotate_left
                · (intro w hSw; (try dsimp only at hSw); go_simp; try with_reducible rfl)
                try simp only [Act.put, List.setIfInBounds_toArray, List.set_cons_zero, List.set_cons_succ]
                refine wpAnyH_take (i := 2) (oi := ⟨some 100, _, _, _, _, _⟩) (v := ?_) rfl (by kernel_rfl) (by kernel_rfl) (by kernel_rfl) (fun _ _ _ h => h) (Or.inl ⟨by rfl, ?_⟩) (by assumption) ?_
                rotate_left
                · (intro w hSw; (try dsimp only at hSw); go_simp; try with_reducible rfl)
                try simp only [Act.put, List.setIfInBounds_toArray, List.set_cons_zero, List.set_cons_succ]
                refine wpAnyH_take (i := 3) (oi := ⟨some 101, _, _, _, _, _⟩) (v := ?_) rfl (by kernel_rfl) (by kernel_rfl) (by kernel_rfl) (fun _ _ _ h => h) (Or.inl ⟨by rfl, ?_⟩) (by assumption) ?_
                rotate_left
                · (intro w hSw; (try dsimp only at hSw); go_simp; try with_reducible rfl)
                try simp only [Act.put, List.setIfInBounds_toArray, List.set_cons_zero, List.set_cons_succ]
                refine wpAnyH_take (i := 4) (oi := ⟨some 102, _, _, _, _, _⟩) (v := ?_) rfl (by kernel_rfl) (by kernel_rfl) (by kernel_rfl) (fun _ _ _ h => h) (Or.inl ⟨by rfl, ?_⟩) (by assumption) ?_
                rotate_left
                · (intro w hSw; (try dsimp only at hSw); go_simp; try with_reducible rfl)
                try simp only [Act.put, List.setIfInBounds_toArray, List.set_cons_zero, List.set_cons_succ]
                refine wpAnyH_ready (rs := [5]) (by kernel_rfl) (by simp) ?_
                refine AllReadyH.cons rfl (fun K hK => ?_) AllReadyH.nil
                go_simp
                refine hCy.mono ?_
                rintro e w8 ⟨rfl, hg8⟩
                have hS8 := And.intro (gd7.trans hg8) (And.intro (hg8.cell k0 (by simp)) (And.intro (hg8.cell k1 (by simp)) (hg8.cell hcy (by simp))))
                go_wp2_with fail
                refine hK.out _ _ hS8 (fun hS7 => ?_)
                clear hK
                refine wpAnyH_ready (rs := [6]) (by kernel_rfl) (by simp) ?_
                refine AllReadyH.cons rfl (fun K hK => ?_) AllReadyH.nil
                go_simp
                refine hK.out _ _ hS7 (fun hS9 => ?_)
                clear hK
                refine wpAnyH_done (by kernel_rfl) ?_ _
                have c8 := hS8.2.2.2
                have hM8 := Lib.hid (hM7.out.new hS8.1)
                have hb8 : w4.heap.size ≤ w8.heap.size := (hM8.out.2.2.2).size
                clear hS0 hS8 hS7 hS9 k0 k1 hcy gd7 gw7 hg8 hCy hM7
                rcases hyc with ⟨s1, hq⟩ | ⟨s1, s2, hq⟩ | ⟨s1, s2, hq⟩

                · rw [hq] at fy
                  clear hq
                  go_wp2_with (at_builtin; refine wpList_append_rs _ rfl _ _ 50 rfl w4.heap.size Tryz.underlying50 (.slice aB B.length cB) B rfl (hM8.out.new (World.grownBy_alloc w8 (.cells #[.int .i32 y] 21) none)).2.1 _ [y] rfl (rs_lit y _) (by simp; omega) (by rw [World.size_alloc]; omega) ?_; intro v9 w9 ho9 hg9 hb9; obtain ⟨a9, m9, rfl⟩ := ho9.form)
                  have Q : Aside (MI w4 ((l.take (i + 1)).filter (pk f k)) ((o.take (i + 1)).filter (pk f k)) (.slice a7 (A.length + 1) m7) (.slice a9 (B.length + 1) m9) w9) := by
                    have := (hM8.out.new (World.grownBy_alloc w8 (.cells #[.int .i32 y] 21) none)).b ho9 hg9 hb9
                    show MI _ _ _ _ _ _
                    rw [fx.out, fy.out]
                    simpa using this
                  clear hM8 ho9 hg9 hb9
                  go_roundw
                  case rel => exact ⟨i + 1, by go_num, by omega, Q⟩
                  case measure => simp [RowKit.intOf]; omega

                · rw [hq] at fy
                  clear hq
                  go_wp2_with (at_builtin; refine wpList_append_rs _ rfl _ _ 50 rfl w4.heap.size Tryz.underlying50 (.slice aB B.length cB) B rfl (hM8.out.new (World.grownBy_alloc w8 (.cells #[.int .i32 y] 21) none)).2.1 _ [y] rfl (rs_lit y _) (by simp; omega) (by rw [World.size_alloc]; omega) ?_; intro v9 w9 ho9 hg9 hb9; obtain ⟨a9, m9, rfl⟩ := ho9.form)
                  have Q : Aside (MI w4 ((l.take (i + 1)).filter (pk f k)) ((o.take (i + 1)).filter (pk f k)) (.slice a7 (A.length + 1) m7) (.slice a9 (B.length + 1) m9) w9) := by
                    have := (hM8.out.new (World.grownBy_alloc w8 (.cells #[.int .i32 y] 21) none)).b ho9 hg9 hb9
                    show MI _ _ _ _ _ _
                    rw [fx.out, fy.out]
                    simpa using this
                  clear hM8 ho9 hg9 hb9
                  go_roundw
                  case rel => exact ⟨i + 1, by go_num, by omega, Q⟩
                  case measure => simp [RowKit.intOf]; omega

                · rw [hq] at fy
                  clear hq
                  go_wp2_with fail
                  have Q : Aside (MI w4 ((l.take (i + 1)).filter (pk f k)) ((o.take (i + 1)).filter (pk f k)) (.slice a7 (A.length + 1) m7) (.slice aB B.length cB) w8) := by
                    have := hM8.out
                    show MI _ _ _ _ _ _
                    rw [fx.out, fy.out]
                    simpa using this
                  clear hM8
                  go_roundw
                  case rel => exact ⟨i + 1, by go_num, by omega, Q⟩
                  case measure => simp [RowKit.intOf]; omega
              · rw [hp] at fx
                clear hp
                go_wp2_with fail
                obtain ⟨w7, hw7⟩ : ∃ w7, w7 = w6 := ⟨_, rfl⟩
                subst hw7
                have hM7 := hM6
                clear hM6 c6
                have gd7 := gdrew (World.grownBy.refl w7 none)
                have gw7 := (hM7.out.2.2.2).trans gd7
                obtain ⟨k0, k1⟩ := hB.out _ gw7
                have hCy := hCl.out _ gw7 y
                have hcy := hcY.out _ gw7
                go_wp2_with fail
                refine wp_region_held_drew (S := fun V => w7.grownBy V none ∧ V.cell? ⟨bx, 0, none⟩ = some (.slice a1 cl c1) ∧ V.cell? ⟨bx, 1, none⟩ = some (.slice a2 dl c2) ∧ V.cell? ⟨b5, o5 + i, none⟩ = some (.int .i32 y)) (by kernel_rfl) ⟨gd7, k0, k1, hcy⟩ (fun hS0 => ?_)
                refine wpAnyH_take (i := 0) (oi := ⟨some 98, _, _, _, _, _⟩) (v := ?_) rfl (by kernel_rfl) (by kernel_rfl) (by kernel_rfl) (fun _ _ _ h => h) (Or.inl ⟨by rfl, ?_⟩) (by assumption) ?_
                rotate_left
                · (intro w hSw; (try dsimp only at hSw); go_simp; try with_reducible rfl)
                try simp only [Act.put, List.setIfInBounds_toArray, List.set_cons_zero, List.set_cons_succ]
                refine wpAnyH_take (i := 1) (oi := ⟨some 99, _, _, _, _, _⟩) (v := ?_) rfl (by kernel_rfl) (by kernel_rfl) (by kernel_rfl) (fun _ _ _ h => h) (Or.inl ⟨by rfl, ?_⟩) (by assumption) ?_
                rotate_left
                · (intro w hSw; (try dsimp only at hSw); go_simp; try with_reducible rfl)
                try simp only [Act.put, List.setIfInBounds_toArray, List.set_cons_zero, List.set_cons_succ]
                refine wpAnyH_take (i := 2) (oi := ⟨some 100, _, _, _, _, _⟩) (v := ?_) rfl (by kernel_rfl) (by kernel_rfl) (by kernel_rfl) (fun _ _ _ h => h) (Or.inl ⟨by rfl, ?_⟩) (by assumption) ?_
                rotate_left
                · (intro w hSw; (try dsimp only at hSw); go_simp; try with_reducible rfl)
                try simp only [Act.put, List.setIfInBounds_toArray, List.set_cons_zero, List.set_cons_succ]
                refine wpAnyH_take (i := 3) (oi := ⟨some 101, _, _, _, _, _⟩) (v := ?_) rfl (by kernel_rfl) (by kernel_rfl) (by kernel_rfl) (fun _ _ _ h => h) (Or.inl ⟨by rfl, ?_⟩) (by assumption) ?_
                rotate_left
                · (intro w hSw; (try dsimp only at hSw); go_simp; try with_reducible rfl)
                try simp only [Act.put, List.setIfInBounds_toArray, List.set_cons_zero, List.set_cons_succ]
                refine wpAnyH_take (i := 4) (oi := ⟨some 102, _, _, _, _, _⟩) (v := ?_) rfl (by kernel_rfl) (by kernel_rfl) (by kernel_rfl) (fun _ _ _ h => h) (Or.inl ⟨by rfl, ?_⟩) (by assumption) ?_
                rotate_left
                · (intro w hSw; (try dsimp only at hSw); go_simp; try with_reducible rfl)
                try simp only [Act.put, List.setIfInBounds_toArray, List.set_cons_zero, List.set_cons_succ]
                refine wpAnyH_ready (rs := [5]) (by kernel_rfl) (by simp) ?_
                refine AllReadyH.cons rfl (fun K hK => ?_) AllReadyH.nil
                go_simp
                refine hCy.mono ?_
                rintro e w8 ⟨rfl, hg8⟩
                have hS8 := And.intro (gd7.trans hg8) (And.intro (hg8.cell k0 (by simp)) (And.intro (hg8.cell k1 (by simp)) (hg8.cell hcy (by simp))))
                go_wp2_with fail
                refine hK.out _ _ hS8 (fun hS7 => ?_)
                clear hK
                refine wpAnyH_ready (rs := [6]) (by kernel_rfl) (by simp) ?_
                refine AllReadyH.cons rfl (fun K hK => ?_) AllReadyH.nil
                go_simp
                refine hK.out _ _ hS7 (fun hS9 => ?_)
                clear hK
                refine wpAnyH_done (by kernel_rfl) ?_ _
                have c8 := hS8.2.2.2
                have hM8 := Lib.hid (hM7.out.new hS8.1)
                have hb8 : w4.heap.size ≤ w8.heap.size := (hM8.out.2.2.2).size
                clear hS0 hS8 hS7 hS9 k0 k1 hcy gd7 gw7 hg8 hCy hM7
                rcases hyc with ⟨s1, hq⟩ | ⟨s1, s2, hq⟩ | ⟨s1, s2, hq⟩

                · rw [hq] at fy
                  clear hq
                  go_wp2_with (at_builtin; refine wpList_append_rs _ rfl _ _ 50 rfl w4.heap.size Tryz.underlying50 (.slice aB B.length cB) B rfl (hM8.out.new (World.grownBy_alloc w8 (.cells #[.int .i32 y] 21) none)).2.1 _ [y] rfl (rs_lit y _) (by simp; omega) (by rw [World.size_alloc]; omega) ?_; intro v9 w9 ho9 hg9 hb9; obtain ⟨a9, m9, rfl⟩ := ho9.form)
                  have Q : Aside (MI w4 ((l.take (i + 1)).filter (pk f k)) ((o.take (i + 1)).filter (pk f k)) (.slice aA A.length cA) (.slice a9 (B.length + 1) m9) w9) := by
                    have := (hM8.out.new (World.grownBy_alloc w8 (.cells #[.int .i32 y] 21) none)).b ho9 hg9 hb9
                    show MI _ _ _ _ _ _
                    rw [fx.out, fy.out]
                    simpa using this
                  clear hM8 ho9 hg9 hb9
                  go_roundw
                  case rel => exact ⟨i + 1, by go_num, by omega, Q⟩
                  case measure => simp [RowKit.intOf]; omega

                · rw [hq] at fy
                  clear hq
                  go_wp2_with (at_builtin; refine wpList_append_rs _ rfl _ _ 50 rfl w4.heap.size Tryz.underlying50 (.slice aB B.length cB) B rfl (hM8.out.new (World.grownBy_alloc w8 (.cells #[.int .i32 y] 21) none)).2.1 _ [y] rfl (rs_lit y _) (by simp; omega) (by rw [World.size_alloc]; omega) ?_; intro v9 w9 ho9 hg9 hb9; obtain ⟨a9, m9, rfl⟩ := ho9.form)
                  have Q : Aside (MI w4 ((l.take (i + 1)).filter (pk f k)) ((o.take (i + 1)).filter (pk f k)) (.slice aA A.length cA) (.slice a9 (B.length + 1) m9) w9) := by
                    have := (hM8.out.new (World.grownBy_alloc w8 (.cells #[.int .i32 y] 21) none)).b ho9 hg9 hb9
                    show MI _ _ _ _ _ _
                    rw [fx.out, fy.out]
                    simpa using this
                  clear hM8 ho9 hg9 hb9
                  go_roundw
                  case rel => exact ⟨i + 1, by go_num, by omega, Q⟩
                  case measure => simp [RowKit.intOf]; omega

                · rw [hq] at fy
                  clear hq
                  go_wp2_with fail
                  have Q : Aside (MI w4 ((l.take (i + 1)).filter (pk f k)) ((o.take (i + 1)).filter (pk f k)) (.slice aA A.length cA) (.slice aB B.length cB) w8) := by
                    have := hM8.out
                    show MI _ _ _ _ _ _
                    rw [fx.out, fy.out]
                    simpa using this
                  clear hM8
                  go_roundw
                  case rel => exact ⟨i + 1, by go_num, by omega, Q⟩
                  case measure => simp [RowKit.intOf]; omega
            · obtain rfl : n = i := by omega
              have hM0 := hM.out
              have hfk := hfl.out k
              rw [HN.out, List.take_length] at hM0
              rw [show o.take l.length = o by rw [← HOL.out, List.take_length], hfk] at hM0
              have hlf : (l.filter (pk f k)).length ≤ l.length := List.length_filter_le _ _
              generalize l.filter (pk f k) = A at *
              obtain ⟨aA, cA, rfl⟩ := hM0.1.form
              obtain ⟨aB, cB, rfl⟩ := hM0.2.1.form
              have hR := runes_same _ _ A wr hM0.1.ro.reads hM0.2.1.ro.reads (by have := HN.out; omega)
              have hgr := hM0.2.2.2
              clear hM hM0 hfk hlf
              go_wp2_with (go_at_call 30; refine hR.mono ?_; rintro e w7 ⟨rfl, m7, rfl⟩)
              go_roundw
              case rel => exact ⟨k + 1, by go_num, by omega, gdrewN hgr m7⟩
              case measure => simp [RowKit.intOf]; omega
        · have hkd : decide ((k : Int) < 255) = false := by simp; omega
          clear hk hk2
          go_wp2_with fail
          go_loopw [18] (fun v18 wr => ∃ j : Nat, v18 = .int .i64 ((j : Int) + 1) ∧ j ≤ n ∧ w4.grownBy wr none) (fun v18 _ => n + 1 - (RowKit.intOf v18).toNat)
          case atStart => exact ⟨0, rfl, Nat.zero_le _, hg⟩
          case round =>
            obtain ⟨j, rfl, hj, hg⟩ := hrel
            by_cases hlt2 : j + 1 < n
            · obtain ⟨x, hx⟩ : ∃ x, o[j]? = some x := ⟨_, List.getElem?_eq_getElem (by have := HN.out; have := HOL.out; omega)⟩
              obtain ⟨y, hy⟩ : ∃ y, o[j + 1]? = some y := ⟨_, List.getElem?_eq_getElem (by have := HN.out; have := HOL.out; omega)⟩
              have hltz : decide ((j : Int) + 1 < (n : Int)) = true := by simp; omega
              have hcn := Chn.get f j x y hch.out hx hy
              have hpy := hpos.out y
              have gd := hg.trans (gdrew (World.grownBy.refl wr none))
              obtain ⟨k0, k1⟩ := hB.out _ gd
              have hCy := hCl.out _ gd y
              obtain ⟨b5, o5, rfl, hcx⟩ := RS.cell (hOo.out _ gd) hx
              have hcy : wr.drew.cell? ⟨b5, o5 + (j + 1), none⟩ = some (.int .i32 y) := by
                obtain ⟨b', o', e, h⟩ := RS.cell (hOo.out _ gd) hy
                cases e
                exact h
              have htn : ((j : Int) + 1).toNat = j + 1 := by omega
              have hj0 : (0 : Int) ≤ (j : Int) + 1 := by omega
              have hj1 : (j : Int) + 1 < (n : Int) := by omega
              have hj2 : j < n := by omega
              have hwj : IntKind.i64.wrap (j : Int) = (j : Int) := IntWalk.i64_in _ (by omega)
              have hwk : IntKind.i64.wrap ((j : Int) + 1 - 1) = (j : Int) := by rw [show (j : Int) + 1 - 1 = (j : Int) by omega]; exact hwj
              clear hx hy
              go_wp2_with fail
              refine wp_region_held_drew (S := fun V => w4.grownBy V none ∧ V.cell? ⟨bx, 0, none⟩ = some (.slice a1 cl c1) ∧ V.cell? ⟨bx, 1, none⟩ = some (.slice a2 dl c2) ∧ V.cell? ⟨b5, o5 + (j + 1), none⟩ = some (.int .i32 y)) (by kernel_rfl) ⟨gd, k0, k1, hcy⟩ (fun hS0 => ?_)
              refine wpAnyH_take (i := 0) (oi := ⟨some 129, _, _, _, _, _⟩) (v := ?_) rfl (by kernel_rfl) (by kernel_rfl) (by kernel_rfl) (fun _ _ _ h => h) (Or.inl ⟨by rfl, ?_⟩) (by assumption) ?_
              rotate_left
              · (intro w hSw; (try dsimp only at hSw); go_simp; try with_reducible rfl)
              try simp only [Act.put, List.setIfInBounds_toArray, List.set_cons_zero, List.set_cons_succ]
              refine wpAnyH_take (i := 1) (oi := ⟨some 130, _, _, _, _, _⟩) (v := ?_) rfl (by kernel_rfl) (by kernel_rfl) (by kernel_rfl) (fun _ _ _ h => h) (Or.inl ⟨by rfl, ?_⟩) (by assumption) ?_
              rotate_left
              · (intro w hSw; (try dsimp only at hSw); go_simp; try with_reducible rfl)
              try simp only [Act.put, List.setIfInBounds_toArray, List.set_cons_zero, List.set_cons_succ]
              refine wpAnyH_take (i := 2) (oi := ⟨some 131, _, _, _, _, _⟩) (v := ?_) rfl (by kernel_rfl) (by kernel_rfl) (by kernel_rfl) (fun _ _ _ h => h) (Or.inl ⟨by rfl, ?_⟩) (by assumption) ?_
              rotate_left
              · (intro w hSw; (try dsimp only at hSw); go_simp; try with_reducible rfl)
              try simp only [Act.put, List.setIfInBounds_toArray, List.set_cons_zero, List.set_cons_succ]
              refine wpAnyH_take (i := 3) (oi := ⟨some 132, _, _, _, _, _⟩) (v := ?_) rfl (by kernel_rfl) (by kernel_rfl) (by kernel_rfl) (fun _ _ _ h => h) (Or.inl ⟨by rfl, ?_⟩) (by assumption) ?_
              rotate_left
              · (intro w hSw; (try dsimp only at hSw); go_simp; try with_reducible rfl)
              try simp only [Act.put, List.setIfInBounds_toArray, List.set_cons_zero, List.set_cons_succ]
              refine wpAnyH_take (i := 4) (oi := ⟨some 133, _, _, _, _, _⟩) (v := ?_) rfl (by kernel_rfl) (by kernel_rfl) (by kernel_rfl) (fun _ _ _ h => h) (Or.inl ⟨by rfl, ?_⟩) (by assumption) ?_
              rotate_left
              · (intro w hSw; (try dsimp only at hSw); go_simp; try with_reducible rfl)
              try simp only [Act.put, List.setIfInBounds_toArray, List.set_cons_zero, List.set_cons_succ]
              refine wpAnyH_ready (rs := [5]) (by kernel_rfl) (by simp) ?_
              refine AllReadyH.cons rfl (fun K hK => ?_) AllReadyH.nil
              go_simp
              refine hCy.mono ?_
              rintro e w6 ⟨rfl, hg6⟩
              have hS6 := And.intro (gd.trans hg6) (And.intro (hg6.cell k0 (by simp)) (And.intro (hg6.cell k1 (by simp)) (hg6.cell hcy (by simp))))
              go_wp2_with fail
              refine hK.out _ _ hS6 (fun hS7 => ?_)
              clear hK
              refine wpAnyH_ready (rs := [6]) (by kernel_rfl) (by simp) ?_
              refine AllReadyH.cons rfl (fun K hK => ?_) AllReadyH.nil
              go_simp
              refine hK.out _ _ hS7 (fun hS8 => ?_)
              clear hK
              refine wpAnyH_done (by kernel_rfl) ?_ _
              have hg7 := hS6.1
              have c6 := hg6.cell hcx (by simp)
              clear hS0 hS6 hS7 hS8 k0 k1 hcx hcy gd hg6 hCy hg
              have gd := hg7.trans (gdrew (World.grownBy.refl w6 none))
              obtain ⟨k0, k1⟩ := hB.out _ gd
              by_cases hz : f y = 0
              · have hzb : (f y != 0) = false := by simp [hz]
                clear hz hcn hpy c6
                go_wp2_with fail
                refine wp_region_held_drew (S := fun V => w4.grownBy V none ∧ V.cell? ⟨bx, 0, none⟩ = some (.slice a1 cl c1) ∧ V.cell? ⟨bx, 1, none⟩ = some (.slice a2 dl c2)) (by kernel_rfl) ⟨gd, k0, k1⟩ (fun hS0 => ?_)
                refine wpAnyH_take (i := 0) (oi := ⟨some 135, _, _, _, _, _⟩) (v := ?_) rfl (by kernel_rfl) (by kernel_rfl) (by kernel_rfl) (fun _ _ _ h => h) (Or.inl ⟨by rfl, ?_⟩) (by assumption) ?_
                rotate_left
                · (intro w hSw; (try dsimp only at hSw); go_simp; try with_reducible rfl)
                try simp only [Act.put, List.setIfInBounds_toArray, List.set_cons_zero, List.set_cons_succ]
                refine wpAnyH_take (i := 1) (oi := ⟨some 136, _, _, _, _, _⟩) (v := ?_) rfl (by kernel_rfl) (by kernel_rfl) (by kernel_rfl) (fun _ _ _ h => h) (Or.inl ⟨by rfl, ?_⟩) (by assumption) ?_
                rotate_left
                · (intro w hSw; (try dsimp only at hSw); go_simp; try with_reducible rfl)
                try simp only [Act.put, List.setIfInBounds_toArray, List.set_cons_zero, List.set_cons_succ]
                refine wpAnyH_take (i := 2) (oi := ⟨some 137, _, _, _, _, _⟩) (v := ?_) rfl (by kernel_rfl) (by kernel_rfl) (by kernel_rfl) (fun _ _ _ h => h) (Or.inl ⟨by rfl, ?_⟩) (by assumption) ?_
                rotate_left
                · (intro w hSw; (try dsimp only at hSw); go_simp; try with_reducible rfl)
                try simp only [Act.put, List.setIfInBounds_toArray, List.set_cons_zero, List.set_cons_succ]
                refine wpAnyH_take (i := 3) (oi := ⟨some 138, _, _, _, _, _⟩) (v := undef) rfl (by kernel_rfl) (by kernel_rfl) (by kernel_rfl) (fun _ _ _ h => h) (Or.inr ⟨by rfl, rfl⟩) (by assumption) ?_
                try simp only [Act.put, List.setIfInBounds_toArray, List.set_cons_zero, List.set_cons_succ]
                refine wpAnyH_take (i := 4) (oi := ⟨some 139, _, _, _, _, _⟩) (v := undef) rfl (by kernel_rfl) (by kernel_rfl) (by kernel_rfl) (fun _ _ _ h => h) (Or.inr ⟨by rfl, rfl⟩) (by assumption) ?_
                try simp only [Act.put, List.setIfInBounds_toArray, List.set_cons_zero, List.set_cons_succ]
                refine wpAnyH_take (i := 5) (oi := ⟨some 140, _, _, _, _, _⟩) (v := undef) rfl (by kernel_rfl) (by kernel_rfl) (by kernel_rfl) (fun _ _ _ h => h) (Or.inr ⟨by rfl, rfl⟩) (by assumption) ?_
                try simp only [Act.put, List.setIfInBounds_toArray, List.set_cons_zero, List.set_cons_succ]
                refine wpAnyH_take (i := 6) (oi := ⟨some 141, _, _, _, _, _⟩) (v := undef) rfl (by kernel_rfl) (by kernel_rfl) (by kernel_rfl) (fun _ _ _ h => h) (Or.inr ⟨by rfl, rfl⟩) (by assumption) ?_
                try simp only [Act.put, List.setIfInBounds_toArray, List.set_cons_zero, List.set_cons_succ]
                refine wpAnyH_take (i := 7) (oi := ⟨some 142, _, _, _, _, _⟩) (v := undef) rfl (by kernel_rfl) (by kernel_rfl) (by kernel_rfl) (fun _ _ _ h => h) (Or.inr ⟨by rfl, rfl⟩) (by assumption) ?_
                try simp only [Act.put, List.setIfInBounds_toArray, List.set_cons_zero, List.set_cons_succ]
                refine wpAnyH_take (i := 8) (oi := ⟨some 143, _, _, _, _, _⟩) (v := undef) rfl (by kernel_rfl) (by kernel_rfl) (by kernel_rfl) (fun _ _ _ h => h) (Or.inr ⟨by rfl, rfl⟩) (by assumption) ?_
                try simp only [Act.put, List.setIfInBounds_toArray, List.set_cons_zero, List.set_cons_succ]
                refine wpAnyH_take (i := 9) (oi := ⟨some 144, _, _, _, _, _⟩) (v := undef) rfl (by kernel_rfl) (by kernel_rfl) (by kernel_rfl) (fun _ _ _ h => h) (Or.inr ⟨by rfl, rfl⟩) (by assumption) ?_
                try simp only [Act.put, List.setIfInBounds_toArray, List.set_cons_zero, List.set_cons_succ]
                refine wpAnyH_take (i := 10) (oi := ⟨some 145, _, _, _, _, _⟩) (v := undef) rfl (by kernel_rfl) (by kernel_rfl) (by kernel_rfl) (fun _ _ _ h => h) (Or.inr ⟨by rfl, rfl⟩) (by assumption) ?_
                try simp only [Act.put, List.setIfInBounds_toArray, List.set_cons_zero, List.set_cons_succ]
                refine wpAnyH_take (i := 11) (oi := ⟨some 146, _, _, _, _, _⟩) (v := undef) rfl (by kernel_rfl) (by kernel_rfl) (by kernel_rfl) (fun _ _ _ h => h) (Or.inr ⟨by rfl, rfl⟩) (by assumption) ?_
                try simp only [Act.put, List.setIfInBounds_toArray, List.set_cons_zero, List.set_cons_succ]
                refine wpAnyH_take (i := 12) (oi := ⟨some 147, _, _, _, _, _⟩) (v := ?_) rfl (by kernel_rfl) (by kernel_rfl) (by kernel_rfl) (fun _ _ _ h => h) (Or.inl ⟨by rfl, ?_⟩) (by assumption) ?_
                rotate_left
                · (intro w hSw; (try dsimp only at hSw); go_simp; try with_reducible rfl)
                try simp only [Act.put, List.setIfInBounds_toArray, List.set_cons_zero, List.set_cons_succ]
                refine wpAnyH_done (by kernel_rfl) ?_ _
                clear hS0 k0 k1 htn hwj hwk hj0 hj1 hj2
                go_wp2_with fail
                go_roundw
                case rel => exact ⟨j + 1, by go_num, by omega, gd⟩
                case measure => simp [RowKit.intOf]; omega
              · have hzb : (f y != 0) = true := by simp [hz]
                have hgt : decide (f y < f x) = false := by simp; omega
                have hCx := hCl.out _ gd x
                have hcx := (gdrew (World.grownBy.refl w6 none)).cell c6 (by simp)
                clear hz hcn hpy c6
                go_wp2_with fail
                refine wp_region_held_drew (S := fun V => w4.grownBy V none ∧ V.cell? ⟨bx, 0, none⟩ = some (.slice a1 cl c1) ∧ V.cell? ⟨bx, 1, none⟩ = some (.slice a2 dl c2) ∧ V.cell? ⟨b5, o5 + j, none⟩ = some (.int .i32 x)) (by kernel_rfl) ⟨gd, k0, k1, hcx⟩ (fun hS0 => ?_)
                refine wpAnyH_take (i := 0) (oi := ⟨some 135, _, _, _, _, _⟩) (v := ?_) rfl (by kernel_rfl) (by kernel_rfl) (by kernel_rfl) (fun _ _ _ h => h) (Or.inl ⟨by rfl, ?_⟩) (by assumption) ?_
                rotate_left
                · (intro w hSw; (try dsimp only at hSw); go_simp; try with_reducible rfl)
                try simp only [Act.put, List.setIfInBounds_toArray, List.set_cons_zero, List.set_cons_succ]
                refine wpAnyH_take (i := 1) (oi := ⟨some 136, _, _, _, _, _⟩) (v := ?_) rfl (by kernel_rfl) (by kernel_rfl) (by kernel_rfl) (fun _ _ _ h => h) (Or.inl ⟨by rfl, ?_⟩) (by assumption) ?_
                rotate_left
                · (intro w hSw; (try dsimp only at hSw); go_simp; try with_reducible rfl)
                try simp only [Act.put, List.setIfInBounds_toArray, List.set_cons_zero, List.set_cons_succ]
                refine wpAnyH_take (i := 2) (oi := ⟨some 137, _, _, _, _, _⟩) (v := ?_) rfl (by kernel_rfl) (by kernel_rfl) (by kernel_rfl) (fun _ _ _ h => h) (Or.inl ⟨by rfl, ?_⟩) (by assumption) ?_
                rotate_left
                · (intro w hSw; (try dsimp only at hSw); go_simp; try with_reducible rfl)
                try simp only [Act.put, List.setIfInBounds_toArray, List.set_cons_zero, List.set_cons_succ]
                refine wpAnyH_take (i := 3) (oi := ⟨some 138, _, _, _, _, _⟩) (v := ?_) rfl (by kernel_rfl) (by kernel_rfl) (by kernel_rfl) (fun _ _ _ h => h) (Or.inl ⟨by rfl, ?_⟩) (by assumption) ?_
                rotate_left
                · (intro w hSw; (try dsimp only at hSw); go_simp; try with_reducible rfl)
                try simp only [Act.put, List.setIfInBounds_toArray, List.set_cons_zero, List.set_cons_succ]
                refine wpAnyH_take (i := 4) (oi := ⟨some 139, _, _, _, _, _⟩) (v := ?_) rfl (by kernel_rfl) (by kernel_rfl) (by kernel_rfl) (fun _ _ _ h => h) (Or.inl ⟨by rfl, ?_⟩) (by assumption) ?_
                rotate_left
                · (intro w hSw; (try dsimp only at hSw); go_simp; try with_reducible rfl)
                try simp only [Act.put, List.setIfInBounds_toArray, List.set_cons_zero, List.set_cons_succ]
                refine wpAnyH_take (i := 5) (oi := ⟨some 140, _, _, _, _, _⟩) (v := ?_) rfl (by kernel_rfl) (by kernel_rfl) (by kernel_rfl) (fun _ _ _ h => h) (Or.inl ⟨by rfl, ?_⟩) (by assumption) ?_
                rotate_left
                · (intro w hSw; (try dsimp only at hSw); go_simp; try with_reducible rfl)
                try simp only [Act.put, List.setIfInBounds_toArray, List.set_cons_zero, List.set_cons_succ]
                refine wpAnyH_take (i := 6) (oi := ⟨some 141, _, _, _, _, _⟩) (v := ?_) rfl (by kernel_rfl) (by kernel_rfl) (by kernel_rfl) (fun _ _ _ h => h) (Or.inl ⟨by rfl, ?_⟩) (by assumption) ?_
                rotate_left
                · (intro w hSw; (try dsimp only at hSw); go_simp; try with_reducible rfl)
                try simp only [Act.put, List.setIfInBounds_toArray, List.set_cons_zero, List.set_cons_succ]
                refine wpAnyH_take (i := 7) (oi := ⟨some 142, _, _, _, _, _⟩) (v := ?_) rfl (by kernel_rfl) (by kernel_rfl) (by kernel_rfl) (fun _ _ _ h => h) (Or.inl ⟨by rfl, ?_⟩) (by assumption) ?_
                rotate_left
                · (intro w hSw; (try dsimp only at hSw); go_simp; try with_reducible rfl)
                try simp only [Act.put, List.setIfInBounds_toArray, List.set_cons_zero, List.set_cons_succ]
                refine wpAnyH_take (i := 8) (oi := ⟨some 143, _, _, _, _, _⟩) (v := ?_) rfl (by kernel_rfl) (by kernel_rfl) (by kernel_rfl) (fun _ _ _ h => h) (Or.inl ⟨by rfl, ?_⟩) (by assumption) ?_
                rotate_left
                · (intro w hSw; (try dsimp only at hSw); go_simp; try with_reducible rfl)
                try simp only [Act.put, List.setIfInBounds_toArray, List.set_cons_zero, List.set_cons_succ]
                refine wpAnyH_take (i := 10) (oi := ⟨some 145, _, _, _, _, _⟩) (v := ?_) rfl (by kernel_rfl) (by kernel_rfl) (by kernel_rfl) (fun _ _ _ h => h) (Or.inl ⟨by rfl, ?_⟩) (by assumption) ?_
                rotate_left
                · (intro w hSw; (try dsimp only at hSw); go_simp; try with_reducible rfl)
                try simp only [Act.put, List.setIfInBounds_toArray, List.set_cons_zero, List.set_cons_succ]
                refine wpAnyH_ready (rs := [9]) (by kernel_rfl) (by simp) ?_
                refine AllReadyH.cons rfl (fun K hK => ?_) AllReadyH.nil
                go_simp
                refine hCx.mono ?_
                rintro e w8 ⟨rfl, hg8⟩
                have hS8 := And.intro (gd.trans hg8) (And.intro (hg8.cell k0 (by simp)) (And.intro (hg8.cell k1 (by simp)) (hg8.cell hcx (by simp))))
                go_wp2_with fail
                refine hK.out _ _ hS8 (fun hS7 => ?_)
                clear hK
                refine wpAnyH_take (i := 11) (oi := ⟨some 146, _, _, _, _, _⟩) (v := ?_) rfl (by kernel_rfl) (by kernel_rfl) (by kernel_rfl) (fun _ _ _ h => h) (Or.inl ⟨by rfl, ?_⟩) (by assumption) ?_
                rotate_left
                · (intro w hSw; (try dsimp only at hSw); go_simp; try with_reducible rfl)
                try simp only [Act.put, List.setIfInBounds_toArray, List.set_cons_zero, List.set_cons_succ]
                refine wpAnyH_take (i := 12) (oi := ⟨some 147, _, _, _, _, _⟩) (v := ?_) rfl (by kernel_rfl) (by kernel_rfl) (by kernel_rfl) (fun _ _ _ h => h) (Or.inl ⟨by rfl, ?_⟩) (by assumption) ?_
                rotate_left
                · (intro w hSw; (try dsimp only at hSw); go_simp; try with_reducible rfl)
                try simp only [Act.put, List.setIfInBounds_toArray, List.set_cons_zero, List.set_cons_succ]
                refine wpAnyH_done (by kernel_rfl) ?_ _
                have hg9 := hS8.1
                clear hS0 hS7 hS8 k0 k1 hcx gd hg8 hCx htn hwj hwk hj0 hj1 hj2
                go_wp2_with fail
                go_roundw
                case rel => exact ⟨j + 1, by go_num, by omega, hg9⟩
                case measure => simp [RowKit.intOf]; omega
            · have hltz : decide ((j : Int) + 1 < (n : Int)) = false := by simp; omega
              clear hpos
              go_wp2
              go_ret
              exact ⟨rfl, hfin.out _ hg⟩

theorem NormMoves_walk (w : World) (a1 : Option Addr) (l1 c1 : Nat) (c : List Cls) (hc : Tri .i64 w (.slice a1 l1 c1) c) (a2 : Option Addr) (l2 c2 : Nat) (d : List Dec) (hd : Tri .i32 w (.slice a2 l2 c2) d) (a3 : Option Addr) (l3 c3 : Nat) (l : List Int) (hl : RS w (.slice a3 l3 c3) l) :
    Calls Tryz.prog 9 #[.slice a1 l1 c1, .slice a2 l2 c2, .slice a3 l3 c3] w fun e w' => e = .returned (.bool true) ∧ Below w.heap.size w w' := by
  by_cases h1 : 200 < c.length ∨ 200 < d.length ∨ good c d = false
  · exact moves_none w _ _ _ c d l ⟨hc, hd⟩ hl h1
  · have hg : good c d = true := by
      cases h : good c d with
      | true => rfl
      | false => exact absurd (.inr (.inr h)) h1
    have k1 : c.length ≤ 200 := by omega
    have k2 : d.length ≤ 200 := by omega
    by_cases h2 : 300 < l.length
    · exact moves_long w _ _ _ c d l ⟨hc, hd⟩ hl hg k1 k2 h2
    · exact moves_walk w _ _ _ c d l ⟨hc, hd⟩ hl hg k1 k2 (by omega)
end Go.Proofs.YtpdacbiiaglodaaGreat
