/-
  LAYER 6 (norm): the reference's Parts, walked.
-/
import Derived.Test.YtpdacbiiaglodaaGreatQG39
import Derived.IntWalk
namespace Go.Proofs.YtpdacbiiaglodaaGreat
set_option maxRecDepth 100000
open Go.RowKit Go.Lib

theorem addP_len (f : Int → Int) (out : List (List Int)) (u : Int) : (addP f out u).length ≤ out.length + 1 := by
  unfold addP
  split
  · simp
  · simp
theorem foldl_len (f : Int → Int) : ∀ (B : List Int) (out : List (List Int)), (B.foldl (addP f) out).length ≤ out.length + B.length
  | [], _ => Nat.le_refl _
  | u :: t, out => by
    rw [List.foldl_cons, List.length_cons]
    have := foldl_len f t (addP f out u)
    have := addP_len f out u
    omega
theorem pcs_len (f : Int → Int) (d : List Int) : (pcs f d).length ≤ d.length := by have := foldl_len f d []; simpa [pcs] using this
theorem addP_flat (f : Int → Int) (out : List (List Int)) (u : Int) : (addP f out u).flatten = out.flatten ++ [u] := by
  unfold addP
  by_cases h : out = [] ∨ f u = 0
  · rw [if_pos h]; simp
  · rw [if_neg h]
    have hne : out ≠ [] := fun e => h (.inl e)
    obtain ⟨A, b, rfl⟩ : ∃ A b, out = A ++ [b] := ⟨out.dropLast, out.getLast hne, (List.dropLast_concat_getLast hne).symm⟩
    simp
theorem foldl_flat (f : Int → Int) : ∀ (B : List Int) (out : List (List Int)), (B.foldl (addP f) out).flatten = out.flatten ++ B
  | [], _ => by simp
  | u :: t, out => by rw [List.foldl_cons, foldl_flat f t, addP_flat]; simp
theorem pcs_max (f : Int → Int) (d : List Int) (s : List Int) (h : s ∈ pcs f d) : s.length ≤ d.length := by
  have e : (pcs f d).flatten = d := by have := foldl_flat f d []; simpa [pcs] using this
  obtain ⟨A, B, hAB⟩ := List.append_of_mem h
  rw [← e, hAB]
  simp
  omega
theorem wpList_append_piece (w : World) {ops : Array Oper} {rest : List Oper} {o : Oper} {a : Act} {Q : Exit → Act → World → Prop} (hgd : o.guard = none) (s x : Operand) (t : TypeId)
    (ho : o.op = .call { callee := .builtin .append, args := #[s, x], argTypes := #[t, t] })
    (B : Nat) (ht : Tryz.prog.underlying t = some (.slice 50))
    (v : Value) (ps : List (List Int)) (hs : a.eval s = v) (h : PR B w v ps) (hB : B ≤ w.heap.size) (hx : a.eval x = .slice (some ⟨w.heap.size, 0, none⟩) 1 1) (hl : ps.length ≤ 1000000)
    (hK : ∀ v' w', PR B w' v' (ps ++ [[]]) → w.grownBy w' none ∨ (∃ r, w.grownBy w' (some r) ∧ B ≤ r) → wpList Tryz.prog ops Q rest (a.put o.dst v') w') : wpList Tryz.prog ops Q (o :: rest) a (w.alloc (.cells #[.slice none 0 0] 50)) := by
  obtain ⟨i0, hi, hz0, hz1, hz2⟩ := infoSl_parts
  have hga := World.grownBy_alloc w (.cells #[.slice none 0 0] 50) none
  obtain ⟨vs, h1, h2, h3, h4, h5⟩ := h.new hga
  have hvl := h.size
  have hn := World.alloc_heap_new w (.cells #[.slice none 0 0] 50)
  refine wpList_append_own_at _ hgd s x t ho B 50 i0 (.slice none 0 0) 1 24 ht hi hz0 hz1 hz2 rfl (by decide) v vs.length vs hs h2 ⟨w.heap.size, 0, none⟩ 1 1 [.slice none 0 0] hx rfl (fun j u hu => ?_) (fun u hu => ?_) (by unfold maxLen; omega) (by omega) (by rw [World.size_alloc]; omega) fun v' w' r1 r2 _ r4 => ?_
  · cases j with
    | zero => simp at hu; subst hu; rw [show (⟨w.heap.size, 0, none⟩ : Addr).add 0 = ⟨w.heap.size, 0, none⟩ from rfl]; simp only [World.cell?, hn]; rfl
    | succ j => simp at hu
  · simp at hu; subst hu; rfl
  · refine hK v' w' (pr_more h1 h3 h4 h5 r2 r1 r4) ?_
    cases hv : v.ownBlock with
    | none => rw [hv] at r2; exact .inl (hga.trans r2)
    | some r => rw [hv] at r2; exact .inr ⟨r, (gbut hga _).trans r2, hvl r hv⟩

set_option maxHeartbeats 8000000 in
theorem rParts_ok (vc vd v : Value) (c : List Cls) (d : List Dec) (l : List Int) (w : World) (hT : Dat w vc vd c d) (hgd : good c d = true) (hR : RS w v l) (hsc : ∀ r ∈ l, scal r = true) (hl : l.length ≤ 4096) :
    Calls Tryz.prog 28 #[.agg #[vc, vd], v] w fun e w' => ∃ v' B, e = .returned v' ∧ PR B w' v' (pcs (clsOf c) (nf (clsOf c) (told' d) l)) ∧ w.heap.size ≤ B ∧ w.grownBy w' none := by
  have hN := fun W (hg : w.grownBy W none) => rNFD_ok vc vd v c d l W (hT.all hg) (hR.new hg) (by omega) hgd hsc hl
  have hC := fun W (hg : w.grownBy W none) r => rCls_any vc vd c d r W (hT.all hg)
  have hdl := flatMap_len (told_length d) l
  have hnl : (nf (clsOf c) (told' d) l).length ≤ 28672 := by unfold nf; rw [ord_length]; omega
  obtain ⟨a1, c1, rfl, _, _⟩ := hT.1.form
  obtain ⟨a2, c2, rfl, _, _⟩ := hT.2.form
  obtain ⟨a0, c0, rfl, _⟩ := id hR
  generalize c.length = cl at *
  generalize d.length = dl at *
  generalize nf (clsOf c) (told' d) l = D at *
  generalize clsOf c = f at *
  have hplen : ∀ i, (pcs f (D.take i)).length ≤ i := fun i => Nat.le_trans (pcs_len f _) (by rw [List.length_take]; exact Nat.min_le_left _ _)
  have hpmax : ∀ i s, s ∈ pcs f (D.take i) → s.length ≤ 28672 := fun i s hs => by have := pcs_max f _ s hs; rw [List.length_take] at this; omega
  obtain ⟨W, hW, hga, hX⟩ := boxed_data w (.slice a1 cl c1) (.slice a2 dl c2)
  have hN1 := hN W hga
  obtain ⟨k0, k1⟩ := hX W (World.grownBy.refl W none)
  generalize l.length = n0 at *
  replace hX := Lib.hid hX
  replace hC := Lib.hid hC
  replace hW := Lib.hid hW
  replace hplen := Lib.hid hplen
  replace hpmax := Lib.hid hpmax
  clear hT hR hsc hN hdl
  go_enter Tryz.func28, Tryz.ntmps28
  go_wp2_with fail
  rw [← hW.out]
  go_at_call 37
  refine hN1.mono ?_
  rintro e w2 ⟨v5, rfl, ho5, hg2⟩
  have hB : Hid (∀ V, w2.grownBy V none → V.cell? ⟨w.heap.size, 0, none⟩ = some (.slice a1 cl c1) ∧ V.cell? ⟨w.heap.size, 1, none⟩ = some (.slice a2 dl c2)) := Lib.hid fun V hg => hX.out V (hg2.trans hg)
  have hCl := Lib.hid fun V (hg : w2.grownBy V none) r => hC.out V ((hga.trans hg2).trans hg) r
  have hL := Lib.hid fun V (hg : w2.grownBy V none) => ho5.ro.reads.new hg
  obtain ⟨a5, c5, rfl⟩ := ho5.form
  obtain ⟨n, hn⟩ : ∃ n, n = D.length := ⟨_, rfl⟩
  rw [← hn] at hL hnl ⊢
  have HD := Lib.hid hn
  have hgw2 := Lib.hid (hga.trans hg2)
  clear k0 k1 hN1 hX hC hga hg2 ho5 hn hW
  generalize w.heap.size = bx at hB
  go_wp2_with fail
  go_loopw [7, 8] (fun v7 v8 wr => ∃ i : Nat, v8 = .int .i64 (i : Int) ∧ i ≤ n ∧ Aside (PR w2.heap.size wr v7 (pcs f (D.take i)) ∧ w2.grownBy wr none)) (fun _ v8 _ => n - (RowKit.intOf v8).toNat)
  case atStart => exact ⟨0, rfl, Nat.zero_le _, by show _ ∧ _; rw [List.take_zero]; exact ⟨PR.nil _ _, World.grownBy.refl _ _⟩⟩
  case round =>
    obtain ⟨i, rfl, hi, hM⟩ := hrel
    obtain ⟨hPR0, hg⟩ := hM.out
    clear hM
    by_cases hlt : i < n
    · obtain ⟨x, hx⟩ : ∃ x, D[i]? = some x := ⟨_, List.getElem?_eq_getElem (by have := HD.out; omega)⟩
      have htk : pcs f (D.take (i + 1)) = addP f (pcs f (D.take i)) x := by rw [List.take_add_one, hx]; exact pcs_snoc f _ x
      have hpl := hplen.out i
      have hpm := hpmax.out i
      have gd := gdrew (World.grownBy.refl wr none)
      have gw := hg.trans gd
      obtain ⟨k0, k1⟩ := hB.out _ gw
      have hCx := hCl.out _ gw x
      obtain ⟨b5, o5, rfl, hcx⟩ := RS.cell (hL.out _ gw) hx
      have cX : Hid (∀ V, w2.grownBy V none → V.cell? ⟨b5, o5 + i, none⟩ = some (.int .i32 x)) := Lib.hid fun V hg => by
        obtain ⟨b', o', e, h⟩ := RS.cell (hL.out V hg) hx
        cases e
        exact h
      generalize pcs f (D.take i) = ps at *
      clear hx
      by_cases h0 : ps = []
      · have hres0 : pcs f (D.take (i + 1)) = ps ++ [[] ++ [x]] := by
          rw [htk, h0]
          unfold addP
          rw [if_pos (.inl rfl)]
          rfl
        have hres := Lib.hid hres0
        have hQb : Hid (ps.length ≤ 28672) := Lib.hid (by rw [h0]; simp)
        have hsl : Hid (([] : List Int).length ≤ 28672) := Lib.hid (by simp)
        have hbl : ps.length ≤ 1000000 := by rw [h0]; simp
        obtain ⟨a7, c7, rfl⟩ := hPR0.form
        have hp0 : ps.length = 0 := by rw [h0]; rfl
        rw [hp0] at hPR0 ⊢
        clear h0 hp0 htk hres0 hpm
        go_wp2_with fail
        refine wp_region_held_drew (S := fun V => wr.grownBy V none) (by kernel_rfl) gd (fun hS0 => ?_)
        refine wpAnyH_take (i := 0) (oi := ⟨some 24, _, _, _, _, _⟩) (v := ?_) rfl (by kernel_rfl) (by kernel_rfl) (by kernel_rfl) (fun _ _ _ h => h) (Or.inl ⟨by rfl, ?_⟩) (by assumption) ?_
        rotate_left
        · (intro w hSw; (try dsimp only at hSw); go_simp; try with_reducible rfl)
        try simp only [Act.put, List.setIfInBounds_toArray, List.set_cons_zero, List.set_cons_succ]
        refine wpAnyH_take (i := 1) (oi := ⟨some 25, _, _, _, _, _⟩) (v := ?_) rfl (by kernel_rfl) (by kernel_rfl) (by kernel_rfl) (fun _ _ _ h => h) (Or.inl ⟨by rfl, ?_⟩) (by assumption) ?_
        rotate_left
        · (intro w hSw; (try dsimp only at hSw); go_simp; try with_reducible rfl)
        try simp only [Act.put, List.setIfInBounds_toArray, List.set_cons_zero, List.set_cons_succ]
        refine wpAnyH_take (i := 2) (oi := ⟨some 26, _, _, _, _, _⟩) (v := ?_) rfl (by kernel_rfl) (by kernel_rfl) (by kernel_rfl) (fun _ _ _ h => h) (Or.inl ⟨by rfl, ?_⟩) (by assumption) ?_
        rotate_left
        · (intro w hSw; (try dsimp only at hSw); go_simp; try with_reducible rfl)
        try simp only [Act.put, List.setIfInBounds_toArray, List.set_cons_zero, List.set_cons_succ]
        refine wpAnyH_take (i := 3) (oi := ⟨some 27, _, _, _, _, _⟩) (v := ?_) rfl (by kernel_rfl) (by kernel_rfl) (by kernel_rfl) (fun _ _ _ h => h) (Or.inl ⟨by rfl, ?_⟩) (by assumption) ?_
        rotate_left
        · (intro w hSw; (try dsimp only at hSw); go_simp; try with_reducible rfl)
        try simp only [Act.put, List.setIfInBounds_toArray, List.set_cons_zero, List.set_cons_succ]
        refine wpAnyH_take (i := 4) (oi := ⟨some 28, _, _, _, _, _⟩) (v := undef) rfl (by kernel_rfl) (by kernel_rfl) (by kernel_rfl) (fun _ _ _ h => h) (Or.inr ⟨by rfl, rfl⟩) (by assumption) ?_
        try simp only [Act.put, List.setIfInBounds_toArray, List.set_cons_zero, List.set_cons_succ]
        refine wpAnyH_take (i := 5) (oi := ⟨some 29, _, _, _, _, _⟩) (v := undef) rfl (by kernel_rfl) (by kernel_rfl) (by kernel_rfl) (fun _ _ _ h => h) (Or.inr ⟨by rfl, rfl⟩) (by assumption) ?_
        try simp only [Act.put, List.setIfInBounds_toArray, List.set_cons_zero, List.set_cons_succ]
        refine wpAnyH_take (i := 6) (oi := ⟨some 30, _, _, _, _, _⟩) (v := undef) rfl (by kernel_rfl) (by kernel_rfl) (by kernel_rfl) (fun _ _ _ h => h) (Or.inr ⟨by rfl, rfl⟩) (by assumption) ?_
        try simp only [Act.put, List.setIfInBounds_toArray, List.set_cons_zero, List.set_cons_succ]
        refine wpAnyH_take (i := 7) (oi := ⟨some 31, _, _, _, _, _⟩) (v := undef) rfl (by kernel_rfl) (by kernel_rfl) (by kernel_rfl) (fun _ _ _ h => h) (Or.inr ⟨by rfl, rfl⟩) (by assumption) ?_
        try simp only [Act.put, List.setIfInBounds_toArray, List.set_cons_zero, List.set_cons_succ]
        refine wpAnyH_take (i := 8) (oi := ⟨some 32, _, _, _, _, _⟩) (v := undef) rfl (by kernel_rfl) (by kernel_rfl) (by kernel_rfl) (fun _ _ _ h => h) (Or.inr ⟨by rfl, rfl⟩) (by assumption) ?_
        try simp only [Act.put, List.setIfInBounds_toArray, List.set_cons_zero, List.set_cons_succ]
        refine wpAnyH_take (i := 9) (oi := ⟨some 33, _, _, _, _, _⟩) (v := undef) rfl (by kernel_rfl) (by kernel_rfl) (by kernel_rfl) (fun _ _ _ h => h) (Or.inr ⟨by rfl, rfl⟩) (by assumption) ?_
        try simp only [Act.put, List.setIfInBounds_toArray, List.set_cons_zero, List.set_cons_succ]
        refine wpAnyH_take (i := 10) (oi := ⟨some 34, _, _, _, _, _⟩) (v := undef) rfl (by kernel_rfl) (by kernel_rfl) (by kernel_rfl) (fun _ _ _ h => h) (Or.inr ⟨by rfl, rfl⟩) (by assumption) ?_
        try simp only [Act.put, List.setIfInBounds_toArray, List.set_cons_zero, List.set_cons_succ]
        refine wpAnyH_take (i := 11) (oi := ⟨some 35, _, _, _, _, _⟩) (v := ?_) rfl (by kernel_rfl) (by kernel_rfl) (by kernel_rfl) (fun _ _ _ h => h) (Or.inl ⟨by rfl, ?_⟩) (by assumption) ?_
        rotate_left
        · (intro w hSw; (try dsimp only at hSw); go_simp; try with_reducible rfl)
        try simp only [Act.put, List.setIfInBounds_toArray, List.set_cons_zero, List.set_cons_succ]
        refine wpAnyH_done (by kernel_rfl) ?_ _
        have hPR4 := hPR0.new gd
        have g4 := gw
        clear hS0 hPR0 k0 k1 hcx hCx hg gw gd
        generalize wr.drew = w4 at hPR4 g4 ⊢
        have hz4 := g4.size
        go_wp2_with (at_builtin; refine wpList_append_piece w4 rfl (.tmp 36) (.tmp 37) 79 rfl w2.heap.size Tryz.underlying79 (.slice a7 0 c7) ps rfl hPR4 hz4 rfl hbl ?_; intro v9 w5 hPR hg5; have g5 : w2.grownBy w5 none := (by rcases hg5 with h | ⟨r, h, hr⟩; exact g4.trans h; exact gnew g4 h (fun q e => by cases e; exact .inl hr)); obtain ⟨g, c7', u, rfl, hgB, hgw, hcu, hou, hug, hcuV, hstep⟩ := hPR.last; obtain ⟨mQ, hmQ⟩ : ∃ mQ, mQ = ps.length := ⟨_, rfl⟩; rw [← hmQ] at hcu hcuV hstep ⊢; obtain ⟨au, cu, rfl⟩ := hou.form; obtain ⟨mS, hmS⟩ : ∃ mS, mS = ([] : List Int).length := ⟨_, rfl⟩; rw [← hmS] at hcu hcuV hstep hou; have hmQb : mQ ≤ 28672 := (by have := hQb.out; omega); have hwm : IntKind.i64.wrap ((mQ : Int) + 1 - 1) = (mQ : Int) := (by rw [show (mQ : Int) + 1 - 1 = (mQ : Int) by omega]; exact IntWalk.i64_in _ (by omega)); have hwm2 : IntKind.i64.wrap (mQ : Int) = (mQ : Int) := IntWalk.i64_in _ (by omega); have hltm : (mQ : Int) < (mQ : Int) + 1 := (by omega); replace hstep := Lib.hid hstep; replace hcuV := Lib.hid hcuV; replace hou := Lib.hid hou; replace hmQ := Lib.hid hmQ; replace hmS := Lib.hid hmS; have gd5 := gdrew (World.grownBy.refl w5 none); have hcx5 := cX.out _ (g5.trans gd5))
        clear hPR hcu
        go_wp2_with fail
        refine wp_region_held_drew (S := fun V => w2.grownBy V none ∧ V.cell? ⟨b5, o5 + i, none⟩ = some (.int .i32 x)) (by kernel_rfl) ⟨g5.trans gd5, hcx5⟩ (fun hS0 => ?_)
        have hcu5 := hcuV.out _ gd5
        refine wpAnyH_take (i := 0) (oi := ⟨some 42, _, _, _, _, _⟩) (v := ?_) rfl (by kernel_rfl) (by kernel_rfl) (by kernel_rfl) (fun _ _ _ h => h) (Or.inl ⟨by rfl, ?_⟩) (by assumption) ?_
        rotate_left
        · (intro w hSw; (try dsimp only at hSw); go_simp; try with_reducible rfl)
        try simp only [Act.put, List.setIfInBounds_toArray, List.set_cons_zero, List.set_cons_succ]
        refine wpAnyH_take (i := 1) (oi := ⟨some 43, _, _, _, _, _⟩) (v := ?_) rfl (by kernel_rfl) (by kernel_rfl) (by kernel_rfl) (fun _ _ _ h => h) (Or.inl ⟨by rfl, ?_⟩) (by assumption) ?_
        rotate_left
        · (intro w hSw; (try dsimp only at hSw); go_simp; try with_reducible rfl)
        try simp only [Act.put, List.setIfInBounds_toArray, List.set_cons_zero, List.set_cons_succ]
        refine wpAnyH_take (i := 2) (oi := ⟨some 44, _, _, _, _, _⟩) (v := ?_) rfl (by kernel_rfl) (by kernel_rfl) (by kernel_rfl) (fun _ _ _ h => h) (Or.inl ⟨by rfl, ?_⟩) (by assumption) ?_
        rotate_left
        · (intro w hSw; (try dsimp only at hSw); go_simp; try with_reducible rfl)
        try simp only [Act.put, List.setIfInBounds_toArray, List.set_cons_zero, List.set_cons_succ]
        refine wpAnyH_take (i := 3) (oi := ⟨some 45, _, _, _, _, _⟩) (v := ?_) rfl (by kernel_rfl) (by kernel_rfl) (by kernel_rfl) (fun _ _ _ h => h) (Or.inl ⟨by rfl, ?_⟩) (by assumption) ?_
        rotate_left
        · (intro w hSw; (try dsimp only at hSw); go_simp; try with_reducible rfl)
        try simp only [Act.put, List.setIfInBounds_toArray, List.set_cons_zero, List.set_cons_succ]
        refine wpAnyH_take (i := 4) (oi := ⟨some 46, _, _, _, _, _⟩) (v := ?_) rfl (by kernel_rfl) (by kernel_rfl) (by kernel_rfl) (fun _ _ _ h => h) (Or.inl ⟨by rfl, ?_⟩) (by assumption) ?_
        rotate_left
        · (intro w hSw; (try dsimp only at hSw); go_simp; try with_reducible rfl)
        try simp only [Act.put, List.setIfInBounds_toArray, List.set_cons_zero, List.set_cons_succ]
        refine wpAnyH_take (i := 6) (oi := ⟨some 48, _, _, _, _, _⟩) (v := ?_) rfl (by kernel_rfl) (by kernel_rfl) (by kernel_rfl) (fun _ _ _ h => h) (Or.inl ⟨by rfl, ?_⟩) (by assumption) ?_
        rotate_left
        · (intro w hSw; (try dsimp only at hSw); go_simp; try with_reducible rfl)
        try simp only [Act.put, List.setIfInBounds_toArray, List.set_cons_zero, List.set_cons_succ]
        refine wpAnyH_take (i := 7) (oi := ⟨some 49, _, _, _, _, _⟩) (v := ?_) rfl (by kernel_rfl) (by kernel_rfl) (by kernel_rfl) (fun _ _ _ h => h) (Or.inl ⟨by rfl, ?_⟩) (by assumption) ?_
        rotate_left
        · (intro w hSw; (try dsimp only at hSw); go_simp; try with_reducible rfl)
        try simp only [Act.put, List.setIfInBounds_toArray, List.set_cons_zero, List.set_cons_succ]
        refine wpAnyH_take (i := 8) (oi := ⟨some 50, _, _, _, _, _⟩) (v := ?_) rfl (by kernel_rfl) (by kernel_rfl) (by kernel_rfl) (fun _ _ _ h => h) (Or.inl ⟨by rfl, ?_⟩) (by assumption) ?_
        rotate_left
        · (intro w hSw; (try dsimp only at hSw); go_simp; try with_reducible rfl)
        try simp only [Act.put, List.setIfInBounds_toArray, List.set_cons_zero, List.set_cons_succ]
        refine wpAnyH_take (i := 9) (oi := ⟨some 51, _, _, _, _, _⟩) (v := ?_) rfl (by kernel_rfl) (by kernel_rfl) (by kernel_rfl) (fun _ _ _ h => h) (Or.inl ⟨by rfl, ?_⟩) (by assumption) ?_
        rotate_left
        · (intro w hSw; (try dsimp only at hSw); go_simp; try with_reducible rfl)
        try simp only [Act.put, List.setIfInBounds_toArray, List.set_cons_zero, List.set_cons_succ]
        refine wpAnyH_ready (rs := [5, 10]) (by kernel_rfl) (by simp) ?_
        refine AllReadyH.cons rfl (fun K hK => ?_) (AllReadyH.cons rfl (fun K hK => ?_) AllReadyH.nil)
        · go_simp
          refine hK.out _ _ ⟨g5.trans gd5, hcx5⟩ (fun hS6 => ?_)
          clear hK
          refine wpAnyH_ready (rs := [10]) (by kernel_rfl) (by simp) ?_
          refine AllReadyH.cons rfl (fun K hK => ?_) AllReadyH.nil
          go_simp
          have g6 := (World.grownBy_alloc w5 (.cells #[.int .i32 x] 21) none).trans (gdrew (World.grownBy.refl _ none))
          have ho6 : OwnN (w5.alloc (.cells #[.int .i32 x] 21)).drew w5.heap.size (.slice (some ⟨w5.heap.size, 0, none⟩) 1 1) [x] := (own_one x w5).kept (gdrew (World.grownBy.refl _ none)) (by simp)
          generalize (w5.alloc (.cells #[.int .i32 x] 21)).drew = w6 at g6 ho6 ⊢
          refine hK.out _ _ ⟨g5.trans g6, cX.out _ (g5.trans g6)⟩ (fun hS1 => ?_)
          clear hK
          refine wpAnyH_ready (rs := [11]) (by kernel_rfl) (by simp) ?_
          refine AllReadyH.cons rfl (fun K hK => ?_) AllReadyH.nil
          rw [if_pos (by rfl)]
          refine wp_app_rs w6 (.tmp 47) (.tmp 52) 50 rfl w2.heap.size Tryz.underlying50 (.slice au mS cu) ([] : List Int) rfl (hou.out.kept g6 (by simp)) (.slice (some ⟨w5.heap.size, 0, none⟩) 1 1) [x] rfl ho6.ro.reads (by have := hsl.out; have h1x : ([x] : List Int).length = 1 := rfl; omega) (by have := (g5.trans g6).size; omega) ?_
          intro u7 w7 ho7 hg7 hb7
          obtain ⟨f7, cs7, PR7, G7⟩ := hstep.out w6 w7 u7 (([] : List Int) ++ [x]) g6 hg7 ho7 hb7
          have g7 : w2.grownBy w7 none := gnew (g5.trans g6) hg7 (fun r e => .inl (hou.out.lt r e).1)
          obtain ⟨a7', cc7, rfl⟩ := ho7.form
          have g8 : w2.grownBy (w7.setCell ⟨g, mQ, none⟩ (.slice a7' (([] : List Int) ++ [x]).length cc7)) none := gnew g7 G7 (fun r e => by cases e; exact .inl hgB)
          have hn8 : (([] : List Int) ++ [x]).length = mS + 1 := by rw [List.length_append, hmS.out]; rfl
          rw [hn8] at PR7 g8 ⊢
          refine hK.out _ _ ⟨g7, cX.out _ g7⟩ (fun hS2 => ?_)
          clear hK ho7 hg7 hb7 ho6 G7 hn8
          have Q : Aside (PR w2.heap.size (w7.setCell ⟨g, mQ, none⟩ (.slice a7' (mS + 1) cc7)) (.slice (some ⟨g, 0, none⟩) (mQ + 1) c7') (pcs f (D.take (i + 1))) ∧ w2.grownBy (w7.setCell ⟨g, mQ, none⟩ (.slice a7' (mS + 1) cc7)) none) := by
            show _ ∧ _
            rw [hres.out]
            exact ⟨PR7, g8⟩
          have hc8 : (w7.setCell ⟨g, mQ, none⟩ (.slice a7' (mS + 1) cc7)).cell? ⟨b5, o5 + i, none⟩ = some (.int .i32 x) := cX.out _ g8
          replace PR7 := Lib.hid PR7
          refine wpAnyH_take (i := 12) (oi := ⟨some 54, _, _, _, _, _⟩) (v := ?_) rfl (by kernel_rfl) (by kernel_rfl) (by kernel_rfl) (fun _ _ _ h => h) (Or.inl ⟨by rfl, ?_⟩) (by assumption) ?_
          rotate_left
          · (intro w hSw; (try dsimp only at hSw); go_simp; try with_reducible rfl)
          try simp only [Act.put, List.setIfInBounds_toArray]
          refine wpAnyH_ready (rs := [13]) (by kernel_rfl) (by simp) ?_
          refine AllReadyH.cons rfl (fun K hK => ?_) AllReadyH.nil
          go_simp
          refine hK.out _ _ ⟨g8, hc8⟩ (fun hS9 => ?_)
          clear hK
          refine wpAnyH_done (by kernel_rfl) ?_ _
          clear hS0 hS1 hS2 hS6 hS9 g6 g7 g8 hc8 cs7 f7 PR7
          go_wp2_with fail
          go_roundw
          case rel => exact ⟨i + 1, by go_num, by omega, Q⟩
          case measure => simp [RowKit.intOf]; omega
        · go_simp
          have g6 := (World.grownBy_alloc w5 (.cells #[.int .i32 x] 21) none).trans (gdrew (World.grownBy.refl _ none))
          have ho6 : OwnN (w5.alloc (.cells #[.int .i32 x] 21)).drew w5.heap.size (.slice (some ⟨w5.heap.size, 0, none⟩) 1 1) [x] := (own_one x w5).kept (gdrew (World.grownBy.refl _ none)) (by simp)
          generalize (w5.alloc (.cells #[.int .i32 x] 21)).drew = w6 at g6 ho6 ⊢
          refine hK.out _ _ ⟨g5.trans g6, cX.out _ (g5.trans g6)⟩ (fun hS1 => ?_)
          clear hK
          have hcu6 := hcuV.out _ g6
          refine wpAnyH_ready (rs := [5]) (by kernel_rfl) (by simp) ?_
          refine AllReadyH.cons rfl (fun K hK => ?_) AllReadyH.nil
          go_simp
          refine hK.out _ _ hS1 (fun hS6 => ?_)
          clear hK
          refine wpAnyH_ready (rs := [11]) (by kernel_rfl) (by simp) ?_
          refine AllReadyH.cons rfl (fun K hK => ?_) AllReadyH.nil
          rw [if_pos (by rfl)]
          refine wp_app_rs w6 (.tmp 47) (.tmp 52) 50 rfl w2.heap.size Tryz.underlying50 (.slice au mS cu) ([] : List Int) rfl (hou.out.kept g6 (by simp)) (.slice (some ⟨w5.heap.size, 0, none⟩) 1 1) [x] rfl ho6.ro.reads (by have := hsl.out; have h1x : ([x] : List Int).length = 1 := rfl; omega) (by have := (g5.trans g6).size; omega) ?_
          intro u7 w7 ho7 hg7 hb7
          obtain ⟨f7, cs7, PR7, G7⟩ := hstep.out w6 w7 u7 (([] : List Int) ++ [x]) g6 hg7 ho7 hb7
          have g7 : w2.grownBy w7 none := gnew (g5.trans g6) hg7 (fun r e => .inl (hou.out.lt r e).1)
          obtain ⟨a7', cc7, rfl⟩ := ho7.form
          have g8 : w2.grownBy (w7.setCell ⟨g, mQ, none⟩ (.slice a7' (([] : List Int) ++ [x]).length cc7)) none := gnew g7 G7 (fun r e => by cases e; exact .inl hgB)
          have hn8 : (([] : List Int) ++ [x]).length = mS + 1 := by rw [List.length_append, hmS.out]; rfl
          rw [hn8] at PR7 g8 ⊢
          refine hK.out _ _ ⟨g7, cX.out _ g7⟩ (fun hS2 => ?_)
          clear hK ho7 hg7 hb7 ho6 G7 hn8
          have Q : Aside (PR w2.heap.size (w7.setCell ⟨g, mQ, none⟩ (.slice a7' (mS + 1) cc7)) (.slice (some ⟨g, 0, none⟩) (mQ + 1) c7') (pcs f (D.take (i + 1))) ∧ w2.grownBy (w7.setCell ⟨g, mQ, none⟩ (.slice a7' (mS + 1) cc7)) none) := by
            show _ ∧ _
            rw [hres.out]
            exact ⟨PR7, g8⟩
          have hc8 : (w7.setCell ⟨g, mQ, none⟩ (.slice a7' (mS + 1) cc7)).cell? ⟨b5, o5 + i, none⟩ = some (.int .i32 x) := cX.out _ g8
          replace PR7 := Lib.hid PR7
          refine wpAnyH_take (i := 12) (oi := ⟨some 54, _, _, _, _, _⟩) (v := ?_) rfl (by kernel_rfl) (by kernel_rfl) (by kernel_rfl) (fun _ _ _ h => h) (Or.inl ⟨by rfl, ?_⟩) (by assumption) ?_
          rotate_left
          · (intro w hSw; (try dsimp only at hSw); go_simp; try with_reducible rfl)
          try simp only [Act.put, List.setIfInBounds_toArray]
          refine wpAnyH_ready (rs := [13]) (by kernel_rfl) (by simp) ?_
          refine AllReadyH.cons rfl (fun K hK => ?_) AllReadyH.nil
          go_simp
          refine hK.out _ _ ⟨g8, hc8⟩ (fun hS9 => ?_)
          clear hK
          refine wpAnyH_done (by kernel_rfl) ?_ _
          clear hS0 hS1 hS2 hS6 hS9 g6 g7 g8 hc8 cs7 f7 PR7
          go_wp2_with fail
          go_roundw
          case rel => exact ⟨i + 1, by go_num, by omega, Q⟩
          case measure => simp [RowKit.intOf]; omega
      · by_cases hz : f x = 0
        · have hzb : (f x == 0) = true := by simp [hz]
          have hres0 : pcs f (D.take (i + 1)) = ps ++ [[] ++ [x]] := by
            rw [htk]
            unfold addP
            rw [if_pos (.inr hz)]
            rfl
          have hres := Lib.hid hres0
          have hQb : Hid (ps.length ≤ 28672) := Lib.hid (by have := HD.out; omega)
          have hsl : Hid (([] : List Int).length ≤ 28672) := Lib.hid (by simp)
          have hbl : ps.length ≤ 1000000 := by have := HD.out; omega
          have hp1 : 0 < ps.length := List.length_pos_iff.2 h0
          obtain ⟨a7, c7, rfl⟩ := hPR0.form
          obtain ⟨mp, hmp⟩ : ∃ mp, mp = ps.length := ⟨_, rfl⟩
          rw [← hmp] at hPR0 hp1 ⊢
          have h0b : ((mp : Int) == 0) = false := by simp; omega
          have h0c : (mp == 0) = false := by simp; omega
          replace hPR0 := Lib.hid hPR0
          clear h0 htk hres0 hpm hz hmp hp1
          go_wp2_with fail
          refine wp_region_held_drew (S := fun V => wr.grownBy V none ∧ V.cell? ⟨bx, 0, none⟩ = some (.slice a1 cl c1) ∧ V.cell? ⟨bx, 1, none⟩ = some (.slice a2 dl c2) ∧ V.cell? ⟨b5, o5 + i, none⟩ = some (.int .i32 x)) (by kernel_rfl) ⟨gd, k0, k1, hcx⟩ (fun hS0 => ?_)
          refine wpAnyH_take (i := 0) (oi := ⟨some 24, _, _, _, _, _⟩) (v := ?_) rfl (by kernel_rfl) (by kernel_rfl) (by kernel_rfl) (fun _ _ _ h => h) (Or.inl ⟨by rfl, ?_⟩) (by assumption) ?_
          rotate_left
          · (intro w hSw; (try dsimp only at hSw); go_simp; try with_reducible rfl)
          try simp only [Act.put, List.setIfInBounds_toArray, List.set_cons_zero, List.set_cons_succ]
          refine wpAnyH_take (i := 1) (oi := ⟨some 25, _, _, _, _, _⟩) (v := ?_) rfl (by kernel_rfl) (by kernel_rfl) (by kernel_rfl) (fun _ _ _ h => h) (Or.inl ⟨by rfl, ?_⟩) (by assumption) ?_
          rotate_left
          · (intro w hSw; (try dsimp only at hSw); go_simp; try with_reducible rfl)
          try simp only [Act.put, List.setIfInBounds_toArray, List.set_cons_zero, List.set_cons_succ]
          refine wpAnyH_take (i := 2) (oi := ⟨some 26, _, _, _, _, _⟩) (v := ?_) rfl (by kernel_rfl) (by kernel_rfl) (by kernel_rfl) (fun _ _ _ h => h) (Or.inl ⟨by rfl, ?_⟩) (by assumption) ?_
          rotate_left
          · (intro w hSw; (try dsimp only at hSw); go_simp; try with_reducible rfl)
          try simp only [Act.put, List.setIfInBounds_toArray, List.set_cons_zero, List.set_cons_succ]
          refine wpAnyH_take (i := 3) (oi := ⟨some 27, _, _, _, _, _⟩) (v := ?_) rfl (by kernel_rfl) (by kernel_rfl) (by kernel_rfl) (fun _ _ _ h => h) (Or.inl ⟨by rfl, ?_⟩) (by assumption) ?_
          rotate_left
          · (intro w hSw; (try dsimp only at hSw); go_simp; try with_reducible rfl)
          try simp only [Act.put, List.setIfInBounds_toArray, List.set_cons_zero, List.set_cons_succ]
          refine wpAnyH_take (i := 4) (oi := ⟨some 28, _, _, _, _, _⟩) (v := ?_) rfl (by kernel_rfl) (by kernel_rfl) (by kernel_rfl) (fun _ _ _ h => h) (Or.inl ⟨by rfl, ?_⟩) (by assumption) ?_
          rotate_left
          · (intro w hSw; (try dsimp only at hSw); go_simp; try with_reducible rfl)
          try simp only [Act.put, List.setIfInBounds_toArray, List.set_cons_zero, List.set_cons_succ]
          refine wpAnyH_take (i := 5) (oi := ⟨some 29, _, _, _, _, _⟩) (v := ?_) rfl (by kernel_rfl) (by kernel_rfl) (by kernel_rfl) (fun _ _ _ h => h) (Or.inl ⟨by rfl, ?_⟩) (by assumption) ?_
          rotate_left
          · (intro w hSw; (try dsimp only at hSw); go_simp; try with_reducible rfl)
          try simp only [Act.put, List.setIfInBounds_toArray, List.set_cons_zero, List.set_cons_succ]
          refine wpAnyH_take (i := 6) (oi := ⟨some 30, _, _, _, _, _⟩) (v := ?_) rfl (by kernel_rfl) (by kernel_rfl) (by kernel_rfl) (fun _ _ _ h => h) (Or.inl ⟨by rfl, ?_⟩) (by assumption) ?_
          rotate_left
          · (intro w hSw; (try dsimp only at hSw); go_simp; try with_reducible rfl)
          try simp only [Act.put, List.setIfInBounds_toArray, List.set_cons_zero, List.set_cons_succ]
          refine wpAnyH_take (i := 7) (oi := ⟨some 31, _, _, _, _, _⟩) (v := ?_) rfl (by kernel_rfl) (by kernel_rfl) (by kernel_rfl) (fun _ _ _ h => h) (Or.inl ⟨by rfl, ?_⟩) (by assumption) ?_
          rotate_left
          · (intro w hSw; (try dsimp only at hSw); go_simp; try with_reducible rfl)
          try simp only [Act.put, List.setIfInBounds_toArray, List.set_cons_zero, List.set_cons_succ]
          refine wpAnyH_take (i := 8) (oi := ⟨some 32, _, _, _, _, _⟩) (v := ?_) rfl (by kernel_rfl) (by kernel_rfl) (by kernel_rfl) (fun _ _ _ h => h) (Or.inl ⟨by rfl, ?_⟩) (by assumption) ?_
          rotate_left
          · (intro w hSw; (try dsimp only at hSw); go_simp; try with_reducible rfl)
          try simp only [Act.put, List.setIfInBounds_toArray, List.set_cons_zero, List.set_cons_succ]
          refine wpAnyH_ready (rs := [9]) (by kernel_rfl) (by simp) ?_
          refine AllReadyH.cons rfl (fun K hK => ?_) AllReadyH.nil
          go_simp
          refine hCx.mono ?_
          rintro e w4 ⟨rfl, hg4⟩
          have hS6 := And.intro (gd.trans hg4) (And.intro (hg4.cell k0 (by simp)) (And.intro (hg4.cell k1 (by simp)) (hg4.cell hcx (by simp))))
          go_wp2_with fail
          refine hK.out _ _ hS6 (fun hS7 => ?_)
          clear hK
          refine wpAnyH_take (i := 10) (oi := ⟨some 34, _, _, _, _, _⟩) (v := ?_) rfl (by kernel_rfl) (by kernel_rfl) (by kernel_rfl) (fun _ _ _ h => h) (Or.inl ⟨by rfl, ?_⟩) (by assumption) ?_
          rotate_left
          · (intro w hSw; (try dsimp only at hSw); go_simp; try with_reducible rfl)
          try simp only [Act.put, List.setIfInBounds_toArray, List.set_cons_zero, List.set_cons_succ]
          refine wpAnyH_take (i := 11) (oi := ⟨some 35, _, _, _, _, _⟩) (v := ?_) rfl (by kernel_rfl) (by kernel_rfl) (by kernel_rfl) (fun _ _ _ h => h) (Or.inl ⟨by rfl, ?_⟩) (by assumption) ?_
          rotate_left
          · (intro w hSw; (try dsimp only at hSw); go_simp; try with_reducible rfl)
          try simp only [Act.put, List.setIfInBounds_toArray, List.set_cons_zero, List.set_cons_succ]
          refine wpAnyH_done (by kernel_rfl) ?_ _
          have hPR4 := hPR0.out.new hS6.1
          have g4 := hg.trans hS6.1
          clear hS0 hS6 hS7 k0 k1 hcx gd gw hg4 hCx hPR0 hg
          have hz4 := g4.size
          go_wp2_with (at_builtin; refine wpList_append_piece w4 rfl (.tmp 36) (.tmp 37) 79 rfl w2.heap.size Tryz.underlying79 (.slice a7 mp c7) ps rfl hPR4 hz4 rfl hbl ?_; intro v9 w5 hPR hg5; have g5 : w2.grownBy w5 none := (by rcases hg5 with h | ⟨r, h, hr⟩; exact g4.trans h; exact gnew g4 h (fun q e => by cases e; exact .inl hr)); obtain ⟨g, c7', u, rfl, hgB, hgw, hcu, hou, hug, hcuV, hstep⟩ := hPR.last; obtain ⟨mQ, hmQ⟩ : ∃ mQ, mQ = ps.length := ⟨_, rfl⟩; rw [← hmQ] at hcu hcuV hstep ⊢; obtain ⟨au, cu, rfl⟩ := hou.form; obtain ⟨mS, hmS⟩ : ∃ mS, mS = ([] : List Int).length := ⟨_, rfl⟩; rw [← hmS] at hcu hcuV hstep hou; have hmQb : mQ ≤ 28672 := (by have := hQb.out; omega); have hwm : IntKind.i64.wrap ((mQ : Int) + 1 - 1) = (mQ : Int) := (by rw [show (mQ : Int) + 1 - 1 = (mQ : Int) by omega]; exact IntWalk.i64_in _ (by omega)); have hwm2 : IntKind.i64.wrap (mQ : Int) = (mQ : Int) := IntWalk.i64_in _ (by omega); have hltm : (mQ : Int) < (mQ : Int) + 1 := (by omega); replace hstep := Lib.hid hstep; replace hcuV := Lib.hid hcuV; replace hou := Lib.hid hou; replace hmQ := Lib.hid hmQ; replace hmS := Lib.hid hmS; have gd5 := gdrew (World.grownBy.refl w5 none); have hcx5 := cX.out _ (g5.trans gd5))
          clear hPR hcu
          go_wp2_with fail
          refine wp_region_held_drew (S := fun V => w2.grownBy V none ∧ V.cell? ⟨b5, o5 + i, none⟩ = some (.int .i32 x)) (by kernel_rfl) ⟨g5.trans gd5, hcx5⟩ (fun hS0 => ?_)
          have hcu5 := hcuV.out _ gd5
          refine wpAnyH_take (i := 0) (oi := ⟨some 42, _, _, _, _, _⟩) (v := ?_) rfl (by kernel_rfl) (by kernel_rfl) (by kernel_rfl) (fun _ _ _ h => h) (Or.inl ⟨by rfl, ?_⟩) (by assumption) ?_
          rotate_left
          · (intro w hSw; (try dsimp only at hSw); go_simp; try with_reducible rfl)
          try simp only [Act.put, List.setIfInBounds_toArray, List.set_cons_zero, List.set_cons_succ]
          refine wpAnyH_take (i := 1) (oi := ⟨some 43, _, _, _, _, _⟩) (v := ?_) rfl (by kernel_rfl) (by kernel_rfl) (by kernel_rfl) (fun _ _ _ h => h) (Or.inl ⟨by rfl, ?_⟩) (by assumption) ?_
          rotate_left
          · (intro w hSw; (try dsimp only at hSw); go_simp; try with_reducible rfl)
          try simp only [Act.put, List.setIfInBounds_toArray, List.set_cons_zero, List.set_cons_succ]
          refine wpAnyH_take (i := 2) (oi := ⟨some 44, _, _, _, _, _⟩) (v := ?_) rfl (by kernel_rfl) (by kernel_rfl) (by kernel_rfl) (fun _ _ _ h => h) (Or.inl ⟨by rfl, ?_⟩) (by assumption) ?_
          rotate_left
          · (intro w hSw; (try dsimp only at hSw); go_simp; try with_reducible rfl)
          try simp only [Act.put, List.setIfInBounds_toArray, List.set_cons_zero, List.set_cons_succ]
          refine wpAnyH_take (i := 3) (oi := ⟨some 45, _, _, _, _, _⟩) (v := ?_) rfl (by kernel_rfl) (by kernel_rfl) (by kernel_rfl) (fun _ _ _ h => h) (Or.inl ⟨by rfl, ?_⟩) (by assumption) ?_
          rotate_left
          · (intro w hSw; (try dsimp only at hSw); go_simp; try with_reducible rfl)
          try simp only [Act.put, List.setIfInBounds_toArray, List.set_cons_zero, List.set_cons_succ]
          refine wpAnyH_take (i := 4) (oi := ⟨some 46, _, _, _, _, _⟩) (v := ?_) rfl (by kernel_rfl) (by kernel_rfl) (by kernel_rfl) (fun _ _ _ h => h) (Or.inl ⟨by rfl, ?_⟩) (by assumption) ?_
          rotate_left
          · (intro w hSw; (try dsimp only at hSw); go_simp; try with_reducible rfl)
          try simp only [Act.put, List.setIfInBounds_toArray, List.set_cons_zero, List.set_cons_succ]
          refine wpAnyH_take (i := 6) (oi := ⟨some 48, _, _, _, _, _⟩) (v := ?_) rfl (by kernel_rfl) (by kernel_rfl) (by kernel_rfl) (fun _ _ _ h => h) (Or.inl ⟨by rfl, ?_⟩) (by assumption) ?_
          rotate_left
          · (intro w hSw; (try dsimp only at hSw); go_simp; try with_reducible rfl)
          try simp only [Act.put, List.setIfInBounds_toArray, List.set_cons_zero, List.set_cons_succ]
          refine wpAnyH_take (i := 7) (oi := ⟨some 49, _, _, _, _, _⟩) (v := ?_) rfl (by kernel_rfl) (by kernel_rfl) (by kernel_rfl) (fun _ _ _ h => h) (Or.inl ⟨by rfl, ?_⟩) (by assumption) ?_
          rotate_left
          · (intro w hSw; (try dsimp only at hSw); go_simp; try with_reducible rfl)
          try simp only [Act.put, List.setIfInBounds_toArray, List.set_cons_zero, List.set_cons_succ]
          refine wpAnyH_take (i := 8) (oi := ⟨some 50, _, _, _, _, _⟩) (v := ?_) rfl (by kernel_rfl) (by kernel_rfl) (by kernel_rfl) (fun _ _ _ h => h) (Or.inl ⟨by rfl, ?_⟩) (by assumption) ?_
          rotate_left
          · (intro w hSw; (try dsimp only at hSw); go_simp; try with_reducible rfl)
          try simp only [Act.put, List.setIfInBounds_toArray, List.set_cons_zero, List.set_cons_succ]
          refine wpAnyH_take (i := 9) (oi := ⟨some 51, _, _, _, _, _⟩) (v := ?_) rfl (by kernel_rfl) (by kernel_rfl) (by kernel_rfl) (fun _ _ _ h => h) (Or.inl ⟨by rfl, ?_⟩) (by assumption) ?_
          rotate_left
          · (intro w hSw; (try dsimp only at hSw); go_simp; try with_reducible rfl)
          try simp only [Act.put, List.setIfInBounds_toArray, List.set_cons_zero, List.set_cons_succ]
          refine wpAnyH_ready (rs := [5, 10]) (by kernel_rfl) (by simp) ?_
          refine AllReadyH.cons rfl (fun K hK => ?_) (AllReadyH.cons rfl (fun K hK => ?_) AllReadyH.nil)
          · go_simp
            refine hK.out _ _ ⟨g5.trans gd5, hcx5⟩ (fun hS6 => ?_)
            clear hK
            refine wpAnyH_ready (rs := [10]) (by kernel_rfl) (by simp) ?_
            refine AllReadyH.cons rfl (fun K hK => ?_) AllReadyH.nil
            go_simp
            have g6 := (World.grownBy_alloc w5 (.cells #[.int .i32 x] 21) none).trans (gdrew (World.grownBy.refl _ none))
            have ho6 : OwnN (w5.alloc (.cells #[.int .i32 x] 21)).drew w5.heap.size (.slice (some ⟨w5.heap.size, 0, none⟩) 1 1) [x] := (own_one x w5).kept (gdrew (World.grownBy.refl _ none)) (by simp)
            generalize (w5.alloc (.cells #[.int .i32 x] 21)).drew = w6 at g6 ho6 ⊢
            refine hK.out _ _ ⟨g5.trans g6, cX.out _ (g5.trans g6)⟩ (fun hS1 => ?_)
            clear hK
            refine wpAnyH_ready (rs := [11]) (by kernel_rfl) (by simp) ?_
            refine AllReadyH.cons rfl (fun K hK => ?_) AllReadyH.nil
            rw [if_pos (by rfl)]
            refine wp_app_rs w6 (.tmp 47) (.tmp 52) 50 rfl w2.heap.size Tryz.underlying50 (.slice au mS cu) ([] : List Int) rfl (hou.out.kept g6 (by simp)) (.slice (some ⟨w5.heap.size, 0, none⟩) 1 1) [x] rfl ho6.ro.reads (by have := hsl.out; have h1x : ([x] : List Int).length = 1 := rfl; omega) (by have := (g5.trans g6).size; omega) ?_
            intro u7 w7 ho7 hg7 hb7
            obtain ⟨f7, cs7, PR7, G7⟩ := hstep.out w6 w7 u7 (([] : List Int) ++ [x]) g6 hg7 ho7 hb7
            have g7 : w2.grownBy w7 none := gnew (g5.trans g6) hg7 (fun r e => .inl (hou.out.lt r e).1)
            obtain ⟨a7', cc7, rfl⟩ := ho7.form
            have g8 : w2.grownBy (w7.setCell ⟨g, mQ, none⟩ (.slice a7' (([] : List Int) ++ [x]).length cc7)) none := gnew g7 G7 (fun r e => by cases e; exact .inl hgB)
            have hn8 : (([] : List Int) ++ [x]).length = mS + 1 := by rw [List.length_append, hmS.out]; rfl
            rw [hn8] at PR7 g8 ⊢
            refine hK.out _ _ ⟨g7, cX.out _ g7⟩ (fun hS2 => ?_)
            clear hK ho7 hg7 hb7 ho6 G7 hn8
            have Q : Aside (PR w2.heap.size (w7.setCell ⟨g, mQ, none⟩ (.slice a7' (mS + 1) cc7)) (.slice (some ⟨g, 0, none⟩) (mQ + 1) c7') (pcs f (D.take (i + 1))) ∧ w2.grownBy (w7.setCell ⟨g, mQ, none⟩ (.slice a7' (mS + 1) cc7)) none) := by
              show _ ∧ _
              rw [hres.out]
              exact ⟨PR7, g8⟩
            have hc8 : (w7.setCell ⟨g, mQ, none⟩ (.slice a7' (mS + 1) cc7)).cell? ⟨b5, o5 + i, none⟩ = some (.int .i32 x) := cX.out _ g8
            replace PR7 := Lib.hid PR7
            refine wpAnyH_take (i := 12) (oi := ⟨some 54, _, _, _, _, _⟩) (v := ?_) rfl (by kernel_rfl) (by kernel_rfl) (by kernel_rfl) (fun _ _ _ h => h) (Or.inl ⟨by rfl, ?_⟩) (by assumption) ?_
            rotate_left
            · (intro w hSw; (try dsimp only at hSw); go_simp; try with_reducible rfl)
            try simp only [Act.put, List.setIfInBounds_toArray]
            refine wpAnyH_ready (rs := [13]) (by kernel_rfl) (by simp) ?_
            refine AllReadyH.cons rfl (fun K hK => ?_) AllReadyH.nil
            go_simp
            refine hK.out _ _ ⟨g8, hc8⟩ (fun hS9 => ?_)
            clear hK
            refine wpAnyH_done (by kernel_rfl) ?_ _
            clear hS0 hS1 hS2 hS6 hS9 g6 g7 g8 hc8 cs7 f7 PR7
            go_wp2_with fail
            go_roundw
            case rel => exact ⟨i + 1, by go_num, by omega, Q⟩
            case measure => simp [RowKit.intOf]; omega
          · go_simp
            have g6 := (World.grownBy_alloc w5 (.cells #[.int .i32 x] 21) none).trans (gdrew (World.grownBy.refl _ none))
            have ho6 : OwnN (w5.alloc (.cells #[.int .i32 x] 21)).drew w5.heap.size (.slice (some ⟨w5.heap.size, 0, none⟩) 1 1) [x] := (own_one x w5).kept (gdrew (World.grownBy.refl _ none)) (by simp)
            generalize (w5.alloc (.cells #[.int .i32 x] 21)).drew = w6 at g6 ho6 ⊢
            refine hK.out _ _ ⟨g5.trans g6, cX.out _ (g5.trans g6)⟩ (fun hS1 => ?_)
            clear hK
            have hcu6 := hcuV.out _ g6
            refine wpAnyH_ready (rs := [5]) (by kernel_rfl) (by simp) ?_
            refine AllReadyH.cons rfl (fun K hK => ?_) AllReadyH.nil
            go_simp
            refine hK.out _ _ hS1 (fun hS6 => ?_)
            clear hK
            refine wpAnyH_ready (rs := [11]) (by kernel_rfl) (by simp) ?_
            refine AllReadyH.cons rfl (fun K hK => ?_) AllReadyH.nil
            rw [if_pos (by rfl)]
            refine wp_app_rs w6 (.tmp 47) (.tmp 52) 50 rfl w2.heap.size Tryz.underlying50 (.slice au mS cu) ([] : List Int) rfl (hou.out.kept g6 (by simp)) (.slice (some ⟨w5.heap.size, 0, none⟩) 1 1) [x] rfl ho6.ro.reads (by have := hsl.out; have h1x : ([x] : List Int).length = 1 := rfl; omega) (by have := (g5.trans g6).size; omega) ?_
            intro u7 w7 ho7 hg7 hb7
            obtain ⟨f7, cs7, PR7, G7⟩ := hstep.out w6 w7 u7 (([] : List Int) ++ [x]) g6 hg7 ho7 hb7
            have g7 : w2.grownBy w7 none := gnew (g5.trans g6) hg7 (fun r e => .inl (hou.out.lt r e).1)
            obtain ⟨a7', cc7, rfl⟩ := ho7.form
            have g8 : w2.grownBy (w7.setCell ⟨g, mQ, none⟩ (.slice a7' (([] : List Int) ++ [x]).length cc7)) none := gnew g7 G7 (fun r e => by cases e; exact .inl hgB)
            have hn8 : (([] : List Int) ++ [x]).length = mS + 1 := by rw [List.length_append, hmS.out]; rfl
            rw [hn8] at PR7 g8 ⊢
            refine hK.out _ _ ⟨g7, cX.out _ g7⟩ (fun hS2 => ?_)
            clear hK ho7 hg7 hb7 ho6 G7 hn8
            have Q : Aside (PR w2.heap.size (w7.setCell ⟨g, mQ, none⟩ (.slice a7' (mS + 1) cc7)) (.slice (some ⟨g, 0, none⟩) (mQ + 1) c7') (pcs f (D.take (i + 1))) ∧ w2.grownBy (w7.setCell ⟨g, mQ, none⟩ (.slice a7' (mS + 1) cc7)) none) := by
              show _ ∧ _
              rw [hres.out]
              exact ⟨PR7, g8⟩
            have hc8 : (w7.setCell ⟨g, mQ, none⟩ (.slice a7' (mS + 1) cc7)).cell? ⟨b5, o5 + i, none⟩ = some (.int .i32 x) := cX.out _ g8
            replace PR7 := Lib.hid PR7
            refine wpAnyH_take (i := 12) (oi := ⟨some 54, _, _, _, _, _⟩) (v := ?_) rfl (by kernel_rfl) (by kernel_rfl) (by kernel_rfl) (fun _ _ _ h => h) (Or.inl ⟨by rfl, ?_⟩) (by assumption) ?_
            rotate_left
            · (intro w hSw; (try dsimp only at hSw); go_simp; try with_reducible rfl)
            try simp only [Act.put, List.setIfInBounds_toArray]
            refine wpAnyH_ready (rs := [13]) (by kernel_rfl) (by simp) ?_
            refine AllReadyH.cons rfl (fun K hK => ?_) AllReadyH.nil
            go_simp
            refine hK.out _ _ ⟨g8, hc8⟩ (fun hS9 => ?_)
            clear hK
            refine wpAnyH_done (by kernel_rfl) ?_ _
            clear hS0 hS1 hS2 hS6 hS9 g6 g7 g8 hc8 cs7 f7 PR7
            go_wp2_with fail
            go_roundw
            case rel => exact ⟨i + 1, by go_num, by omega, Q⟩
            case measure => simp [RowKit.intOf]; omega
        · have hzb : (f x == 0) = false := by simp [hz]
          obtain ⟨Q, s, hps⟩ : ∃ Q s, ps = Q ++ [s] := ⟨ps.dropLast, ps.getLast h0, (List.dropLast_concat_getLast h0).symm⟩
          have hres0 : pcs f (D.take (i + 1)) = Q ++ [s ++ [x]] := by
            rw [htk, hps]
            unfold addP
            rw [if_neg (by simp [hz])]
            simp
          have hres := Lib.hid hres0
          have hsl : Hid (s.length ≤ 28672) := Lib.hid (hpm s (by rw [hps]; simp))
          have hpl2 : Q.length + 1 ≤ i := by rw [hps, List.length_append] at hpl; exact hpl
          have hQb : Hid (Q.length ≤ 28672) := Lib.hid (by have := HD.out; omega)
          subst hps
          obtain ⟨a7, c7, rfl⟩ := hPR0.form
          obtain ⟨mp, hmp⟩ : ∃ mp, mp = (Q ++ [s]).length := ⟨_, rfl⟩
          have hp1 : 0 < mp := by rw [hmp]; simp
          rw [← hmp] at hPR0 ⊢
          have HMP := Lib.hid hmp
          have h0b : ((mp : Int) == 0) = false := by simp; omega
          have h0c : (mp == 0) = false := by simp; omega
          replace hPR0 := Lib.hid hPR0
          clear h0 htk hres0 hpm hz hmp hp1 hpl
          go_wp2_with fail
          refine wp_region_held_drew (S := fun V => wr.grownBy V none ∧ V.cell? ⟨bx, 0, none⟩ = some (.slice a1 cl c1) ∧ V.cell? ⟨bx, 1, none⟩ = some (.slice a2 dl c2) ∧ V.cell? ⟨b5, o5 + i, none⟩ = some (.int .i32 x)) (by kernel_rfl) ⟨gd, k0, k1, hcx⟩ (fun hS0 => ?_)
          refine wpAnyH_take (i := 0) (oi := ⟨some 24, _, _, _, _, _⟩) (v := ?_) rfl (by kernel_rfl) (by kernel_rfl) (by kernel_rfl) (fun _ _ _ h => h) (Or.inl ⟨by rfl, ?_⟩) (by assumption) ?_
          rotate_left
          · (intro w hSw; (try dsimp only at hSw); go_simp; try with_reducible rfl)
          try simp only [Act.put, List.setIfInBounds_toArray, List.set_cons_zero, List.set_cons_succ]
          refine wpAnyH_take (i := 1) (oi := ⟨some 25, _, _, _, _, _⟩) (v := ?_) rfl (by kernel_rfl) (by kernel_rfl) (by kernel_rfl) (fun _ _ _ h => h) (Or.inl ⟨by rfl, ?_⟩) (by assumption) ?_
          rotate_left
          · (intro w hSw; (try dsimp only at hSw); go_simp; try with_reducible rfl)
          try simp only [Act.put, List.setIfInBounds_toArray, List.set_cons_zero, List.set_cons_succ]
          refine wpAnyH_take (i := 2) (oi := ⟨some 26, _, _, _, _, _⟩) (v := ?_) rfl (by kernel_rfl) (by kernel_rfl) (by kernel_rfl) (fun _ _ _ h => h) (Or.inl ⟨by rfl, ?_⟩) (by assumption) ?_
          rotate_left
          · (intro w hSw; (try dsimp only at hSw); go_simp; try with_reducible rfl)
          try simp only [Act.put, List.setIfInBounds_toArray, List.set_cons_zero, List.set_cons_succ]
          refine wpAnyH_take (i := 3) (oi := ⟨some 27, _, _, _, _, _⟩) (v := ?_) rfl (by kernel_rfl) (by kernel_rfl) (by kernel_rfl) (fun _ _ _ h => h) (Or.inl ⟨by rfl, ?_⟩) (by assumption) ?_
          rotate_left
          · (intro w hSw; (try dsimp only at hSw); go_simp; try with_reducible rfl)
          try simp only [Act.put, List.setIfInBounds_toArray, List.set_cons_zero, List.set_cons_succ]
          refine wpAnyH_take (i := 4) (oi := ⟨some 28, _, _, _, _, _⟩) (v := ?_) rfl (by kernel_rfl) (by kernel_rfl) (by kernel_rfl) (fun _ _ _ h => h) (Or.inl ⟨by rfl, ?_⟩) (by assumption) ?_
          rotate_left
          · (intro w hSw; (try dsimp only at hSw); go_simp; try with_reducible rfl)
          try simp only [Act.put, List.setIfInBounds_toArray, List.set_cons_zero, List.set_cons_succ]
          refine wpAnyH_take (i := 5) (oi := ⟨some 29, _, _, _, _, _⟩) (v := ?_) rfl (by kernel_rfl) (by kernel_rfl) (by kernel_rfl) (fun _ _ _ h => h) (Or.inl ⟨by rfl, ?_⟩) (by assumption) ?_
          rotate_left
          · (intro w hSw; (try dsimp only at hSw); go_simp; try with_reducible rfl)
          try simp only [Act.put, List.setIfInBounds_toArray, List.set_cons_zero, List.set_cons_succ]
          refine wpAnyH_take (i := 6) (oi := ⟨some 30, _, _, _, _, _⟩) (v := ?_) rfl (by kernel_rfl) (by kernel_rfl) (by kernel_rfl) (fun _ _ _ h => h) (Or.inl ⟨by rfl, ?_⟩) (by assumption) ?_
          rotate_left
          · (intro w hSw; (try dsimp only at hSw); go_simp; try with_reducible rfl)
          try simp only [Act.put, List.setIfInBounds_toArray, List.set_cons_zero, List.set_cons_succ]
          refine wpAnyH_take (i := 7) (oi := ⟨some 31, _, _, _, _, _⟩) (v := ?_) rfl (by kernel_rfl) (by kernel_rfl) (by kernel_rfl) (fun _ _ _ h => h) (Or.inl ⟨by rfl, ?_⟩) (by assumption) ?_
          rotate_left
          · (intro w hSw; (try dsimp only at hSw); go_simp; try with_reducible rfl)
          try simp only [Act.put, List.setIfInBounds_toArray, List.set_cons_zero, List.set_cons_succ]
          refine wpAnyH_take (i := 8) (oi := ⟨some 32, _, _, _, _, _⟩) (v := ?_) rfl (by kernel_rfl) (by kernel_rfl) (by kernel_rfl) (fun _ _ _ h => h) (Or.inl ⟨by rfl, ?_⟩) (by assumption) ?_
          rotate_left
          · (intro w hSw; (try dsimp only at hSw); go_simp; try with_reducible rfl)
          try simp only [Act.put, List.setIfInBounds_toArray, List.set_cons_zero, List.set_cons_succ]
          refine wpAnyH_ready (rs := [9]) (by kernel_rfl) (by simp) ?_
          refine AllReadyH.cons rfl (fun K hK => ?_) AllReadyH.nil
          go_simp
          refine hCx.mono ?_
          rintro e w4 ⟨rfl, hg4⟩
          have hS6 := And.intro (gd.trans hg4) (And.intro (hg4.cell k0 (by simp)) (And.intro (hg4.cell k1 (by simp)) (hg4.cell hcx (by simp))))
          go_wp2_with fail
          refine hK.out _ _ hS6 (fun hS7 => ?_)
          clear hK
          refine wpAnyH_take (i := 10) (oi := ⟨some 34, _, _, _, _, _⟩) (v := ?_) rfl (by kernel_rfl) (by kernel_rfl) (by kernel_rfl) (fun _ _ _ h => h) (Or.inl ⟨by rfl, ?_⟩) (by assumption) ?_
          rotate_left
          · (intro w hSw; (try dsimp only at hSw); go_simp; try with_reducible rfl)
          try simp only [Act.put, List.setIfInBounds_toArray, List.set_cons_zero, List.set_cons_succ]
          refine wpAnyH_take (i := 11) (oi := ⟨some 35, _, _, _, _, _⟩) (v := ?_) rfl (by kernel_rfl) (by kernel_rfl) (by kernel_rfl) (fun _ _ _ h => h) (Or.inl ⟨by rfl, ?_⟩) (by assumption) ?_
          rotate_left
          · (intro w hSw; (try dsimp only at hSw); go_simp; try with_reducible rfl)
          try simp only [Act.put, List.setIfInBounds_toArray, List.set_cons_zero, List.set_cons_succ]
          refine wpAnyH_done (by kernel_rfl) ?_ _
          have hPR4 := hPR0.out.new hS6.1
          have g4 := hg.trans hS6.1
          clear hS0 hS6 hS7 k0 k1 hcx gd gw hg4 hCx hPR0 hg
          have hPR := hPR4
          obtain ⟨w5, hw5⟩ : ∃ w5, w5 = w4 := ⟨_, rfl⟩
          subst hw5
          have g5 := g4
          obtain ⟨g, c7', u, hv7, hgB, hgw, hcu, hou, hug, hcuV, hstep⟩ := hPR.last
          have hmp1 : mp = Q.length + 1 := by rw [HMP.out]; simp
          rw [hmp1] at hv7 hstep hPR ⊢
          cases hv7
          obtain ⟨mQ, hmQ⟩ : ∃ mQ, mQ = Q.length := ⟨_, rfl⟩
          rw [← hmQ] at hcu hcuV hstep ⊢
          obtain ⟨au, cu, rfl⟩ := hou.form
          obtain ⟨mS, hmS⟩ : ∃ mS, mS = s.length := ⟨_, rfl⟩
          rw [← hmS] at hcu hcuV hstep hou
          have hmQb : mQ ≤ 28672 := (by have := hQb.out; omega)
          have hwm : IntKind.i64.wrap ((mQ : Int) + 1 - 1) = (mQ : Int) := (by rw [show (mQ : Int) + 1 - 1 = (mQ : Int) by omega]; exact IntWalk.i64_in _ (by omega))
          have hwm2 : IntKind.i64.wrap (mQ : Int) = (mQ : Int) := IntWalk.i64_in _ (by omega)
          have hltm : (mQ : Int) < (mQ : Int) + 1 := (by omega)
          replace hstep := Lib.hid hstep
          replace hcuV := Lib.hid hcuV
          replace hou := Lib.hid hou
          replace hmQ := Lib.hid hmQ
          replace hmS := Lib.hid hmS
          have gd5 := gdrew (World.grownBy.refl w5 none)
          have hcx5 := cX.out _ (g5.trans gd5)
          clear hPR hcu
          go_wp2_with fail
          refine wp_region_held_drew (S := fun V => w2.grownBy V none ∧ V.cell? ⟨b5, o5 + i, none⟩ = some (.int .i32 x)) (by kernel_rfl) ⟨g5.trans gd5, hcx5⟩ (fun hS0 => ?_)
          have hcu5 := hcuV.out _ gd5
          refine wpAnyH_take (i := 0) (oi := ⟨some 42, _, _, _, _, _⟩) (v := ?_) rfl (by kernel_rfl) (by kernel_rfl) (by kernel_rfl) (fun _ _ _ h => h) (Or.inl ⟨by rfl, ?_⟩) (by assumption) ?_
          rotate_left
          · (intro w hSw; (try dsimp only at hSw); go_simp; try with_reducible rfl)
          try simp only [Act.put, List.setIfInBounds_toArray, List.set_cons_zero, List.set_cons_succ]
          refine wpAnyH_take (i := 1) (oi := ⟨some 43, _, _, _, _, _⟩) (v := ?_) rfl (by kernel_rfl) (by kernel_rfl) (by kernel_rfl) (fun _ _ _ h => h) (Or.inl ⟨by rfl, ?_⟩) (by assumption) ?_
          rotate_left
          · (intro w hSw; (try dsimp only at hSw); go_simp; try with_reducible rfl)
          try simp only [Act.put, List.setIfInBounds_toArray, List.set_cons_zero, List.set_cons_succ]
          refine wpAnyH_take (i := 2) (oi := ⟨some 44, _, _, _, _, _⟩) (v := ?_) rfl (by kernel_rfl) (by kernel_rfl) (by kernel_rfl) (fun _ _ _ h => h) (Or.inl ⟨by rfl, ?_⟩) (by assumption) ?_
          rotate_left
          · (intro w hSw; (try dsimp only at hSw); go_simp; try with_reducible rfl)
          try simp only [Act.put, List.setIfInBounds_toArray, List.set_cons_zero, List.set_cons_succ]
          refine wpAnyH_take (i := 3) (oi := ⟨some 45, _, _, _, _, _⟩) (v := ?_) rfl (by kernel_rfl) (by kernel_rfl) (by kernel_rfl) (fun _ _ _ h => h) (Or.inl ⟨by rfl, ?_⟩) (by assumption) ?_
          rotate_left
          · (intro w hSw; (try dsimp only at hSw); go_simp; try with_reducible rfl)
          try simp only [Act.put, List.setIfInBounds_toArray, List.set_cons_zero, List.set_cons_succ]
          refine wpAnyH_take (i := 4) (oi := ⟨some 46, _, _, _, _, _⟩) (v := ?_) rfl (by kernel_rfl) (by kernel_rfl) (by kernel_rfl) (fun _ _ _ h => h) (Or.inl ⟨by rfl, ?_⟩) (by assumption) ?_
          rotate_left
          · (intro w hSw; (try dsimp only at hSw); go_simp; try with_reducible rfl)
          try simp only [Act.put, List.setIfInBounds_toArray, List.set_cons_zero, List.set_cons_succ]
          refine wpAnyH_take (i := 6) (oi := ⟨some 48, _, _, _, _, _⟩) (v := ?_) rfl (by kernel_rfl) (by kernel_rfl) (by kernel_rfl) (fun _ _ _ h => h) (Or.inl ⟨by rfl, ?_⟩) (by assumption) ?_
          rotate_left
          · (intro w hSw; (try dsimp only at hSw); go_simp; try with_reducible rfl)
          try simp only [Act.put, List.setIfInBounds_toArray, List.set_cons_zero, List.set_cons_succ]
          refine wpAnyH_take (i := 7) (oi := ⟨some 49, _, _, _, _, _⟩) (v := ?_) rfl (by kernel_rfl) (by kernel_rfl) (by kernel_rfl) (fun _ _ _ h => h) (Or.inl ⟨by rfl, ?_⟩) (by assumption) ?_
          rotate_left
          · (intro w hSw; (try dsimp only at hSw); go_simp; try with_reducible rfl)
          try simp only [Act.put, List.setIfInBounds_toArray, List.set_cons_zero, List.set_cons_succ]
          refine wpAnyH_take (i := 8) (oi := ⟨some 50, _, _, _, _, _⟩) (v := ?_) rfl (by kernel_rfl) (by kernel_rfl) (by kernel_rfl) (fun _ _ _ h => h) (Or.inl ⟨by rfl, ?_⟩) (by assumption) ?_
          rotate_left
          · (intro w hSw; (try dsimp only at hSw); go_simp; try with_reducible rfl)
          try simp only [Act.put, List.setIfInBounds_toArray, List.set_cons_zero, List.set_cons_succ]
          refine wpAnyH_take (i := 9) (oi := ⟨some 51, _, _, _, _, _⟩) (v := ?_) rfl (by kernel_rfl) (by kernel_rfl) (by kernel_rfl) (fun _ _ _ h => h) (Or.inl ⟨by rfl, ?_⟩) (by assumption) ?_
          rotate_left
          · (intro w hSw; (try dsimp only at hSw); go_simp; try with_reducible rfl)
          try simp only [Act.put, List.setIfInBounds_toArray, List.set_cons_zero, List.set_cons_succ]
          refine wpAnyH_ready (rs := [5, 10]) (by kernel_rfl) (by simp) ?_
          refine AllReadyH.cons rfl (fun K hK => ?_) (AllReadyH.cons rfl (fun K hK => ?_) AllReadyH.nil)
          · go_simp
            refine hK.out _ _ ⟨g5.trans gd5, hcx5⟩ (fun hS6 => ?_)
            clear hK
            refine wpAnyH_ready (rs := [10]) (by kernel_rfl) (by simp) ?_
            refine AllReadyH.cons rfl (fun K hK => ?_) AllReadyH.nil
            go_simp
            have g6 := (World.grownBy_alloc w5 (.cells #[.int .i32 x] 21) none).trans (gdrew (World.grownBy.refl _ none))
            have ho6 : OwnN (w5.alloc (.cells #[.int .i32 x] 21)).drew w5.heap.size (.slice (some ⟨w5.heap.size, 0, none⟩) 1 1) [x] := (own_one x w5).kept (gdrew (World.grownBy.refl _ none)) (by simp)
            generalize (w5.alloc (.cells #[.int .i32 x] 21)).drew = w6 at g6 ho6 ⊢
            refine hK.out _ _ ⟨g5.trans g6, cX.out _ (g5.trans g6)⟩ (fun hS1 => ?_)
            clear hK
            refine wpAnyH_ready (rs := [11]) (by kernel_rfl) (by simp) ?_
            refine AllReadyH.cons rfl (fun K hK => ?_) AllReadyH.nil
            rw [if_pos (by rfl)]
            refine wp_app_rs w6 (.tmp 47) (.tmp 52) 50 rfl w2.heap.size Tryz.underlying50 (.slice au mS cu) s rfl (hou.out.kept g6 (by simp)) (.slice (some ⟨w5.heap.size, 0, none⟩) 1 1) [x] rfl ho6.ro.reads (by have := hsl.out; have h1x : ([x] : List Int).length = 1 := rfl; omega) (by have := (g5.trans g6).size; omega) ?_
            intro u7 w7 ho7 hg7 hb7
            obtain ⟨f7, cs7, PR7, G7⟩ := hstep.out w6 w7 u7 (s ++ [x]) g6 hg7 ho7 hb7
            have g7 : w2.grownBy w7 none := gnew (g5.trans g6) hg7 (fun r e => .inl (hou.out.lt r e).1)
            obtain ⟨a7', cc7, rfl⟩ := ho7.form
            have g8 : w2.grownBy (w7.setCell ⟨g, mQ, none⟩ (.slice a7' (s ++ [x]).length cc7)) none := gnew g7 G7 (fun r e => by cases e; exact .inl hgB)
            have hn8 : (s ++ [x]).length = mS + 1 := by rw [List.length_append, hmS.out]; rfl
            rw [hn8] at PR7 g8 ⊢
            refine hK.out _ _ ⟨g7, cX.out _ g7⟩ (fun hS2 => ?_)
            clear hK ho7 hg7 hb7 ho6 G7 hn8
            have Q : Aside (PR w2.heap.size (w7.setCell ⟨g, mQ, none⟩ (.slice a7' (mS + 1) cc7)) (.slice (some ⟨g, 0, none⟩) (mQ + 1) c7) (pcs f (D.take (i + 1))) ∧ w2.grownBy (w7.setCell ⟨g, mQ, none⟩ (.slice a7' (mS + 1) cc7)) none) := by
              show _ ∧ _
              rw [hres.out]
              exact ⟨PR7, g8⟩
            have hc8 : (w7.setCell ⟨g, mQ, none⟩ (.slice a7' (mS + 1) cc7)).cell? ⟨b5, o5 + i, none⟩ = some (.int .i32 x) := cX.out _ g8
            replace PR7 := Lib.hid PR7
            refine wpAnyH_take (i := 12) (oi := ⟨some 54, _, _, _, _, _⟩) (v := ?_) rfl (by kernel_rfl) (by kernel_rfl) (by kernel_rfl) (fun _ _ _ h => h) (Or.inl ⟨by rfl, ?_⟩) (by assumption) ?_
            rotate_left
            · (intro w hSw; (try dsimp only at hSw); go_simp; try with_reducible rfl)
            try simp only [Act.put, List.setIfInBounds_toArray]
            refine wpAnyH_ready (rs := [13]) (by kernel_rfl) (by simp) ?_
            refine AllReadyH.cons rfl (fun K hK => ?_) AllReadyH.nil
            go_simp
            refine hK.out _ _ ⟨g8, hc8⟩ (fun hS9 => ?_)
            clear hK
            refine wpAnyH_done (by kernel_rfl) ?_ _
            clear hS0 hS1 hS2 hS6 hS9 g6 g7 g8 hc8 cs7 f7 PR7
            go_wp2_with fail
            go_roundw
            case rel => exact ⟨i + 1, by go_num, by omega, Q⟩
            case measure => simp [RowKit.intOf]; omega
          · go_simp
            have g6 := (World.grownBy_alloc w5 (.cells #[.int .i32 x] 21) none).trans (gdrew (World.grownBy.refl _ none))
            have ho6 : OwnN (w5.alloc (.cells #[.int .i32 x] 21)).drew w5.heap.size (.slice (some ⟨w5.heap.size, 0, none⟩) 1 1) [x] := (own_one x w5).kept (gdrew (World.grownBy.refl _ none)) (by simp)
            generalize (w5.alloc (.cells #[.int .i32 x] 21)).drew = w6 at g6 ho6 ⊢
            refine hK.out _ _ ⟨g5.trans g6, cX.out _ (g5.trans g6)⟩ (fun hS1 => ?_)
            clear hK
            have hcu6 := hcuV.out _ g6
            refine wpAnyH_ready (rs := [5]) (by kernel_rfl) (by simp) ?_
            refine AllReadyH.cons rfl (fun K hK => ?_) AllReadyH.nil
            go_simp
            refine hK.out _ _ hS1 (fun hS6 => ?_)
            clear hK
            refine wpAnyH_ready (rs := [11]) (by kernel_rfl) (by simp) ?_
            refine AllReadyH.cons rfl (fun K hK => ?_) AllReadyH.nil
            rw [if_pos (by rfl)]
            refine wp_app_rs w6 (.tmp 47) (.tmp 52) 50 rfl w2.heap.size Tryz.underlying50 (.slice au mS cu) s rfl (hou.out.kept g6 (by simp)) (.slice (some ⟨w5.heap.size, 0, none⟩) 1 1) [x] rfl ho6.ro.reads (by have := hsl.out; have h1x : ([x] : List Int).length = 1 := rfl; omega) (by have := (g5.trans g6).size; omega) ?_
            intro u7 w7 ho7 hg7 hb7
            obtain ⟨f7, cs7, PR7, G7⟩ := hstep.out w6 w7 u7 (s ++ [x]) g6 hg7 ho7 hb7
            have g7 : w2.grownBy w7 none := gnew (g5.trans g6) hg7 (fun r e => .inl (hou.out.lt r e).1)
            obtain ⟨a7', cc7, rfl⟩ := ho7.form
            have g8 : w2.grownBy (w7.setCell ⟨g, mQ, none⟩ (.slice a7' (s ++ [x]).length cc7)) none := gnew g7 G7 (fun r e => by cases e; exact .inl hgB)
            have hn8 : (s ++ [x]).length = mS + 1 := by rw [List.length_append, hmS.out]; rfl
            rw [hn8] at PR7 g8 ⊢
            refine hK.out _ _ ⟨g7, cX.out _ g7⟩ (fun hS2 => ?_)
            clear hK ho7 hg7 hb7 ho6 G7 hn8
            have Q : Aside (PR w2.heap.size (w7.setCell ⟨g, mQ, none⟩ (.slice a7' (mS + 1) cc7)) (.slice (some ⟨g, 0, none⟩) (mQ + 1) c7) (pcs f (D.take (i + 1))) ∧ w2.grownBy (w7.setCell ⟨g, mQ, none⟩ (.slice a7' (mS + 1) cc7)) none) := by
              show _ ∧ _
              rw [hres.out]
              exact ⟨PR7, g8⟩
            have hc8 : (w7.setCell ⟨g, mQ, none⟩ (.slice a7' (mS + 1) cc7)).cell? ⟨b5, o5 + i, none⟩ = some (.int .i32 x) := cX.out _ g8
            replace PR7 := Lib.hid PR7
            refine wpAnyH_take (i := 12) (oi := ⟨some 54, _, _, _, _, _⟩) (v := ?_) rfl (by kernel_rfl) (by kernel_rfl) (by kernel_rfl) (fun _ _ _ h => h) (Or.inl ⟨by rfl, ?_⟩) (by assumption) ?_
            rotate_left
            · (intro w hSw; (try dsimp only at hSw); go_simp; try with_reducible rfl)
            try simp only [Act.put, List.setIfInBounds_toArray]
            refine wpAnyH_ready (rs := [13]) (by kernel_rfl) (by simp) ?_
            refine AllReadyH.cons rfl (fun K hK => ?_) AllReadyH.nil
            go_simp
            refine hK.out _ _ ⟨g8, hc8⟩ (fun hS9 => ?_)
            clear hK
            refine wpAnyH_done (by kernel_rfl) ?_ _
            clear hS0 hS1 hS2 hS6 hS9 g6 g7 g8 hc8 cs7 f7 PR7
            go_wp2_with fail
            go_roundw
            case rel => exact ⟨i + 1, by go_num, by omega, Q⟩
            case measure => simp [RowKit.intOf]; omega
    · obtain rfl : n = i := by omega
      have ht : D.take n = D := by rw [HD.out, List.take_length]
      rw [ht] at hPR0
      have hgf := hgw2.out.trans hg
      have hzz := hgw2.out.size
      obtain ⟨a7, c7, rfl⟩ := hPR0.form
      replace hPR0 := Lib.hid hPR0
      generalize (pcs f D).length = m7 at *
      clear ht hg hplen hpmax
      go_wp2_with fail
      go_ret
      exact ⟨_, _, rfl, hPR0.out, hzz, hgf⟩
end Go.Proofs.YtpdacbiiaglodaaGreat
