/-
  LAYER 1 (fs): the reference's Cut.
-/
import Derived.Test.YtafcgjbafihniaaGreatFA20
import Derived.Test.YtafcgjbafihniaaGreatFA05
namespace Go.Proofs.YtafcgjbafihniaaGreat
set_option maxRecDepth 100000
variable {DX : Nat → Prop}
open Go.RowKit Go.Lib
attribute [local go_sem] Oper.semAt_some

/-- A file system of the reference that stands, somewhere. -/
def RAny (DX R : Nat → Prop) (w : World) (q : Nat) (a : RefP) (W : World) : Prop := ∃ r vs, RefOk DX (RW R w) W q a r vs ∧ GP R w W
section
variable {R : Nat → Prop} {w W W' : World} {q : Nat} {a : RefP}
theorem RAny.new (h : RAny DX R w q a W) (g : W.grownBy W' none) : RAny DX R w q a W' := by
  obtain ⟨r, vs, h1, h2⟩ := h
  exact ⟨r, vs, h1.new g, h2.more g⟩
theorem RAny.of (h : RDone DX R w q a W) : RAny DX R w q a W := by
  obtain ⟨⟨r, vs, h1⟩, h2⟩ := h
  exact ⟨r, vs, h1.wide, h2⟩
theorem RAny.done (h : RAny DX R w q a W) : RDone DX R w q a W := by
  obtain ⟨r, vs, h1, h2⟩ := h
  exact RDone.of h1 h2
theorem RAny.node (h : RAny DX R w q a W) (s : ByteArray) (hm : a.dir.length ≤ 3518437208881) :
    Calls Tryz.prog 52 #[.pointer (some ⟨q, 0, none⟩), .string s] W fun e w' => e = .returned (.int .i64 (ptrN (a.dir.look s.data.toList))) ∧ W.grownBy w' none := by
  obtain ⟨r, vs, h1, h2⟩ := h
  exact node_any q r a.dir s W h1.at_ h1.rows.rd.1 hm
/-- A file that is looked at: what lies there, what its data answer. -/
theorem RAny.data (h : RAny DX R w q a W) (F : a.Fits) {j : Nat} (hj : j < a.nodes.length) :
    ∃ gn nvc sv cv, W.cell? ⟨q, 7, none⟩ = some (.slice (some ⟨gn, 0, none⟩) a.nodes.length nvc) ∧ W.cell? ⟨gn, j * 2, none⟩ = some sv ∧ W.cell? ⟨gn, j * 2 + 1, none⟩ = some cv ∧
      Calls Tryz.prog 53 #[.agg #[sv, cv]] W fun e w' => ∃ x c, e = .returned (.slice x (a.file j).data.length c) ∧ Owns w' W.heap.size 5 (.slice x (a.file j).data.length c) (a.file j).data ∧ W.grownBy w' none := by
  obtain ⟨r, vs, h1, h2⟩ := h
  obtain ⟨gn, nvc, sv, cv, e7, e0, e1, hN⟩ := h1.nodeAt hj
  have hf := F.file hj
  refine ⟨gn, nvc, sv, cv, e7, e0, e1, (data_any _ sv cv _ W hN hf.1.1 hf.1.2 hf.2).mono ?_⟩
  rintro e w' ⟨v, rfl, o, g⟩
  obtain ⟨x, c, rfl⟩ := rowForm o
  exact ⟨x, c, rfl, o, g⟩
theorem RAny.dataG (h : RAny DX R w q a W) (F : a.Fits) {j : Nat} (hj : j < a.nodes.length) :
    ∃ gn nvc sv cv, W.cell? ⟨q, 7, none⟩ = some (.slice (some ⟨gn, 0, none⟩) a.nodes.length nvc) ∧ W.cell? ⟨gn, j * 2, none⟩ = some sv ∧ W.cell? ⟨gn, j * 2 + 1, none⟩ = some cv ∧
      ∀ W', W.grownBy W' none → Calls Tryz.prog 53 #[.agg #[sv, cv]] W' fun e w' => ∃ x c, e = .returned (.slice x (a.file j).data.length c) ∧ Owns w' W'.heap.size 5 (.slice x (a.file j).data.length c) (a.file j).data ∧ W'.grownBy w' none := by
  obtain ⟨r, vs, h1, h2⟩ := h
  obtain ⟨gn, nvc, sv, cv, e7, e0, e1, hN⟩ := h1.nodeAt hj
  have hf := F.file hj
  refine ⟨gn, nvc, sv, cv, e7, e0, e1, fun W' g => (data_any _ sv cv _ W' (hN.new g) hf.1.1 hf.1.2 hf.2).mono ?_⟩
  rintro e w' ⟨v, rfl, o, g⟩
  obtain ⟨x, c, rfl⟩ := rowForm o
  exact ⟨x, c, rfl, o, g⟩
theorem RefP.Fits.counted (F : a.Fits) (h : a.count < 4611686018427387903) : RefP.Fits { a with count := a.count + 1 } :=
  ⟨F.keep, F.moves, F.safe, F.dies, F.dirs, F.good, F.sum, by have := F.cnt0; show 0 ≤ a.count + 1; omega, by show a.count + 1 < _; omega⟩

set_option maxHeartbeats 8000000 in
theorem rcut_any {r : RefV} {vs : List (Value × Value)} (s : ByteArray) (long : Int) (h : RefOk DX R w q a r vs) (hR : ∀ k, RD R DX k → k < w.heap.size) (F : a.Fits) (hdir : a.dir.length ≤ 65536) (hdl : ∀ x j, a.dir.look x = some j → j < a.nodes.length) (hc9 : a.count < 4611686018427387903) (hbig : ∀ n ∈ a.nodes, n.data.length ≤ 268435456) (hsm : chgSum a.nodes ≤ 2199023255552) (hlg : long < 9223372036854775808) :
    Calls Tryz.prog 41 #[.pointer (some ⟨q, 0, none⟩), .string s, .int .i64 long] w fun e w' => e = .returned (.int .i64 (a.cut s long).1) ∧ RDone DX R w q (a.cut s long).2 w' := by
  have hb := rbegin_any h hR F
  unfold RefP.cut
  by_cases h0 : a.begin.1 = 0
  · rw [RefP.begin_ok h0, h0] at hb
    rw [if_pos h0]
    clear h0 h
    cases hlk : a.dir.look s.data.toList with
    | none =>
      dsimp only
      replace hlk := Lib.hid (show ptrN (a.dir.look s.data.toList) = -1 by rw [hlk]; rfl)
      go_enter Tryz.func41, Tryz.ntmps41
      go_wp2_with first | (go_at_call 74; refine hb.mono ?_; clear hb; rintro e w1 ⟨rfl, h1⟩; have H1 := Lib.hid (RAny.of h1); clear h1; have hno := H1.out.node s (by show a.dir.length ≤ _; omega); rw [hlk.out] at hno) | (go_at_call 52; refine hno.mono ?_; clear hno; rintro e w2 ⟨rfl, g2⟩; have H2 := Lib.hid (H1.out.new g2); clear H1 g2)
      go_ret
      exact ⟨rfl, H2.out.done⟩
    | some jn =>
      dsimp only
      have hj0 : ((jn : Int) < 0) = False := by simp
      have hjl := hdl _ _ hlk
      replace hlk := Lib.hid (show ptrN (a.dir.look s.data.toList) = (jn : Int) by rw [hlk]; rfl)
      obtain ⟨n, hfn⟩ : ∃ n, n = a.file jn := ⟨_, rfl⟩
      have hnm : n ∈ a.nodes := by rw [hfn]; exact RefP.file_mem hjl
      have hna : a.nodes[jn]? = some n := by rw [hfn]; exact RefP.file_at hjl
      have hdb := hbig n hnm
      have hcs : n.chg.length ≤ 2199023255552 := by have := chgSum_set [] a.nodes jn n hna; omega
      rw [← hfn]
      obtain ⟨nl, hnl⟩ : ∃ nl, nl = a.nodes.length := ⟨_, rfl⟩
      have hjz : (jn : Int) < (nl : Int) := by omega
      obtain ⟨dl, hdl⟩ : ∃ dl, dl = n.data.length := ⟨_, rfl⟩
      rw [← hdl] at hdb ⊢
      replace hnl := Lib.hid hnl
      replace hdl := Lib.hid hdl
      replace hfn := Lib.hid hfn
      replace hjl := Lib.hid hjl
      replace hnm := Lib.hid hnm
      replace hna := Lib.hid hna
      have FC := Lib.hid (F.counted hc9)
      clear F hR
      by_cases k1 : long < 0 ∨ (dl : Int) < long
      · rw [if_pos k1]
        have key : long < 0 ∨ (0 ≤ long ∧ (dl : Int) < long) := by omega
        clear k1
        rcases key with k1 | ⟨k1, k2⟩
        all_goals
          go_enter Tryz.func41, Tryz.ntmps41
          go_wp2_with first | (go_at_call 74; refine hb.mono ?_; clear hb; rintro e w1 ⟨rfl, h1⟩; have H1 := Lib.hid (RAny.of h1); clear h1; have hno := H1.out.node s (by show a.dir.length ≤ _; omega); rw [hlk.out] at hno) | (go_at_call 52; refine hno.mono ?_; clear hno; rintro e w2 ⟨rfl, g2⟩; have H2 := Lib.hid (H1.out.new g2); clear H1 g2; obtain ⟨gn, nvc, sv, cv, e7, e0, e1, hda⟩ := H2.out.data FC.out hjl.out; rw [show RefP.file { a with count := a.count + 1 } jn = n from hfn.out.symm] at hda; rw [show ({ a with count := a.count + 1 } : RefP).nodes.length = nl from hnl.out.symm] at e7) | (go_at_call 53; refine hda.mono ?_; clear hda; rintro e w3 ⟨x3, c3, rfl, o3, g3⟩; rw [← hdl.out]; have H3 := Lib.hid (H2.out.new g3); clear H2 g3 o3 e7 e0 e1)
          go_ret
          exact ⟨rfl, H3.out.done⟩
      · rw [if_neg k1]
        obtain ⟨m, rfl⟩ : ∃ m : Nat, long = (m : Int) := ⟨long.toNat, by omega⟩
        by_cases k2 : (m : Int) < (dl : Int)
        · rw [if_pos k2]
          rw [show ((m : Int)).toNat = m by simp]
          have k3 : 0 ≤ (m : Int) := by omega
          have k4 : (m : Int) ≤ (dl : Int) := by omega
          replace hcs := Lib.hid hcs
          clear k1 hlg hdb hbig hsm hc9
          go_enter Tryz.func41, Tryz.ntmps41
          go_upto_region 11 with first | (go_at_call 74; refine hb.mono ?_; clear hb; rintro e w1 ⟨rfl, h1⟩; have H1 := Lib.hid (RAny.of h1); clear h1; have hno := H1.out.node s (by show a.dir.length ≤ _; omega); rw [hlk.out] at hno) | (go_at_call 52; refine hno.mono ?_; clear hno; rintro e w2 ⟨rfl, g2⟩; have H2 := Lib.hid (H1.out.new g2); clear H1 g2; obtain ⟨gn, nvc, sv, cv, e7, e0, e1, hda⟩ := H2.out.data FC.out hjl.out; rw [show RefP.file { a with count := a.count + 1 } jn = n from hfn.out.symm] at hda; rw [show ({ a with count := a.count + 1 } : RefP).nodes.length = nl from hnl.out.symm] at e7) | (go_at_call 53; refine hda.mono ?_; clear hda; rintro e w3 ⟨x3, c3, rfl, o3, g3⟩; rw [← hdl.out]; have H3 := Lib.hid (H2.out.new g3); clear H2 g3 o3 e7 e0 e1)
          obtain ⟨r3, vs3, h3, gp3⟩ := H3.out
          have gd := gdrew (World.grownBy.refl w3 none)
          have h4 := h3.new gd
          have gp4 := gp3.more gd
          have hvl : vs3.length = a.nodes.length := h4.rows.vl
          obtain ⟨⟨sv, cv⟩, hv⟩ : ∃ v, vs3[jn]? = some v := ⟨_, List.getElem?_eq_getElem (by rw [hvl]; exact hjl.out)⟩
          obtain ⟨nva, nvc, hnv⟩ := h4.rows.rn.form
          have hrn := h4.rows.rn
          rw [hnv] at hrn
          obtain ⟨gn, rfl, hgnQ, hgl, rc, hfr⟩ := hrn.cell (by show 0 < a.nodes.length; have := hjl.out; omega)
          have l1 := (flat_at (fun x : Value × Value => [x.1, x.2]) 2 (fun _ => rfl) vs3 jn _ hv) 1 (by omega)
          have e7 : w3.drew.cell? ⟨q, 7, none⟩ = some (.slice (some ⟨gn, 0, none⟩) nl nvc) := by rw [hnl.out, ← hnv]; exact h4.at_.c7
          have e1 : w3.drew.cell? ⟨gn, jn * 2 + 1, none⟩ = some cv := by
            rw [rc _ (by show jn * 2 + 1 < a.nodes.length * 2; have := hjl.out; omega)]
            simpa [nodeCells] using l1
          obtain ⟨_, dvs, q1, q2, q3⟩ := h4.rows.node jn (sv, cv) n hv hna.out
          dsimp only at q2
          have hzl : (n.chg.zip dvs).length = n.chg.length := by rw [List.length_zip, q1, Nat.min_self]
          obtain ⟨v5, w5, a8, c8, w8, v5', w5', a8', c8', w8', run5, g5, run8, g8, o8, run5', g5', run8', g8', o8', gX, gY⟩ := twoWays (c := .cut m) (dv := .slice none 0 0) (zip_one q3) (by rw [hzl]; exact q2.1) (by rw [hzl]; exact hcs.out) rfl
          rw [show chB (.cut m) = true from rfl, show chM (.cut m) = (m : Int) from rfl] at run8 run5' gX gY
          have dA := h4.moreChg gp4 hv hna.out hnv q1 q3 g8 (by rw [← hzl]; exact o8) OwnR.nil
          have dB := h4.moreChg gp4 hv hna.out hnv q1 q3 g8' (by rw [← hzl]; exact o8') OwnR.nil
          have zA := dA.2.1
          have fA := dA.2.2
          have zB := dB.2.1
          have fB := dB.2.2
          replace dA := Lib.hid dA.1
          replace dB := Lib.hid dB.1
          have hqg : q ≠ gn := fun e => by
            subst e
            obtain ⟨c', fr, h9⟩ := own_obj hrn.1 q rfl
            have := apart_obj h9 (show _ = _ from h4.at_)
            simp at this
          have hS : ∀ V, w3.drew.grownBy V none → V.cell? ⟨q, 7, none⟩ = some (.slice (some ⟨gn, 0, none⟩) nl nvc) := fun V g => g.cell e7 (by simp)
          have s5 := hS _ g5
          have s8 := hS _ g8
          have s5' := hS _ g5'
          have s8' := hS _ g8'
          have sX := hS _ gX
          have sY := hS _ gY
          have eY1 : (w3.alloc (.cells #[.bool true, .int .i64 (m : Int), .slice none 0 0] 126)).cell? ⟨gn, jn * 2 + 1, none⟩ = some cv := gY.cell e1 (by simp)
          have sW := hS _ (World.grownBy.refl _ none)
          obtain ⟨cl, hcl⟩ : ∃ cl, cl = (n.chg.zip dvs).length + 1 := ⟨_, rfl⟩
          rw [← hcl] at run8 run8' dA dB
          have s9 := (gq w8 gn (jn * 2 + 1) (.slice a8 cl c8)).cell s8 (fun e => hqg (by simpa using e))
          have s9' := (gq w8' gn (jn * 2 + 1) (.slice a8' cl c8')).cell s8' (fun e => hqg (by simpa using e))
          replace hcl := Lib.hid hcl
          clear h3 gp3 gd h4 gp4 hvl hv hnv hrn rc hfr l1 q1 q2 q3 hzl o8 o8' g5 g8 g5' g8' gX gY hS H3 hgl hgnQ hqg
          refine wp_region_held_drew (S := fun V => V.cell? ⟨q, 7, none⟩ = some (.slice (some ⟨gn, 0, none⟩) nl nvc)) (by kernel_rfl) sW (fun hS0 => ?_)
          refine wpAnyH_take (i := 0) (oi := ⟨some 39, _, _, _, _, _⟩) (v := ?_) rfl (by kernel_rfl) (by kernel_rfl) (by kernel_rfl) (fun _ _ _ h => h) (Or.inl ⟨by rfl, ?_⟩) (by assumption) ?_
          rotate_left
          · (intro w hSw; (try dsimp only at hSw); go_simp; try with_reducible rfl)
          try simp only [Act.put, List.setIfInBounds_toArray, List.set_cons_zero, List.set_cons_succ]
          refine wpAnyH_take (i := 1) (oi := ⟨some 40, _, _, _, _, _⟩) (v := ?_) rfl (by kernel_rfl) (by kernel_rfl) (by kernel_rfl) (fun _ _ _ h => h) (Or.inl ⟨by rfl, ?_⟩) (by assumption) ?_
          rotate_left
          · (intro w hSw; (try dsimp only at hSw); go_simp; try with_reducible rfl)
          try simp only [Act.put, List.setIfInBounds_toArray, List.set_cons_zero, List.set_cons_succ]
          refine wpAnyH_take (i := 2) (oi := ⟨some 41, _, _, _, _, _⟩) (v := ?_) rfl (by kernel_rfl) (by kernel_rfl) (by kernel_rfl) (fun _ _ _ h => h) (Or.inl ⟨by rfl, ?_⟩) (by assumption) ?_
          rotate_left
          · (intro w hSw; (try dsimp only at hSw); go_simp; try with_reducible rfl)
          try simp only [Act.put, List.setIfInBounds_toArray, List.set_cons_zero, List.set_cons_succ]
          refine wpAnyH_take (i := 3) (oi := ⟨some 42, _, _, _, _, _⟩) (v := ?_) rfl (by kernel_rfl) (by kernel_rfl) (by kernel_rfl) (fun _ _ _ h => h) (Or.inl ⟨by rfl, ?_⟩) (by assumption) ?_
          rotate_left
          · (intro w hSw; (try dsimp only at hSw); go_simp; try with_reducible rfl)
          try simp only [Act.put, List.setIfInBounds_toArray, List.set_cons_zero, List.set_cons_succ]
          refine wpAnyH_take (i := 4) (oi := ⟨some 43, _, _, _, _, _⟩) (v := ?_) rfl (by kernel_rfl) (by kernel_rfl) (by kernel_rfl) (fun _ _ _ h => h) (Or.inl ⟨by rfl, ?_⟩) (by assumption) ?_
          rotate_left
          · (intro w hSw; (try dsimp only at hSw); go_simp; try with_reducible rfl)
          try simp only [Act.put, List.setIfInBounds_toArray, List.set_cons_zero, List.set_cons_succ]
          refine wpAnyH_take (i := 5) (oi := ⟨some 44, _, _, _, _, _⟩) (v := ?_) rfl (by kernel_rfl) (by kernel_rfl) (by kernel_rfl) (fun _ _ _ h => h) (Or.inl ⟨by rfl, ?_⟩) (by assumption) ?_
          rotate_left
          · (intro w hSw; (try dsimp only at hSw); go_simp; try with_reducible rfl)
          try simp only [Act.put, List.setIfInBounds_toArray, List.set_cons_zero, List.set_cons_succ]
          refine wpAnyH_take (i := 6) (oi := ⟨some 45, _, _, _, _, _⟩) (v := ?_) rfl (by kernel_rfl) (by kernel_rfl) (by kernel_rfl) (fun _ _ _ h => h) (Or.inl ⟨by rfl, ?_⟩) (by assumption) ?_
          rotate_left
          · (intro w hSw; (try dsimp only at hSw); go_simp; try with_reducible rfl)
          try simp only [Act.put, List.setIfInBounds_toArray, List.set_cons_zero, List.set_cons_succ]
          refine wpAnyH_take (i := 7) (oi := ⟨some 46, _, _, _, _, _⟩) (v := ?_) rfl (by kernel_rfl) (by kernel_rfl) (by kernel_rfl) (fun _ _ _ h => h) (Or.inl ⟨by rfl, ?_⟩) (by assumption) ?_
          rotate_left
          · (intro w hSw; (try dsimp only at hSw); go_simp; try with_reducible rfl)
          try simp only [Act.put, List.setIfInBounds_toArray, List.set_cons_zero, List.set_cons_succ]
          refine wpAnyH_take (i := 8) (oi := ⟨some 47, _, _, _, _, _⟩) (v := ?_) rfl (by kernel_rfl) (by kernel_rfl) (by kernel_rfl) (fun _ _ _ h => h) (Or.inl ⟨by rfl, ?_⟩) (by assumption) ?_
          rotate_left
          · (intro w hSw; (try dsimp only at hSw); go_simp; try with_reducible rfl)
          try simp only [Act.put, List.setIfInBounds_toArray, List.set_cons_zero, List.set_cons_succ]
          refine wpAnyH_take (i := 9) (oi := ⟨some 48, _, _, _, _, _⟩) (v := ?_) rfl (by kernel_rfl) (by kernel_rfl) (by kernel_rfl) (fun _ _ _ h => h) (Or.inl ⟨by rfl, ?_⟩) (by assumption) ?_
          rotate_left
          · (intro w hSw; (try dsimp only at hSw); go_simp; try with_reducible rfl)
          try simp only [Act.put, List.setIfInBounds_toArray, List.set_cons_zero, List.set_cons_succ]
          refine wpAnyH_take (i := 10) (oi := ⟨some 49, _, _, _, _, _⟩) (v := ?_) rfl (by kernel_rfl) (by kernel_rfl) (by kernel_rfl) (fun _ _ _ h => h) (Or.inl ⟨by rfl, ?_⟩) (by assumption) ?_
          rotate_left
          · (intro w hSw; (try dsimp only at hSw); go_simp; try with_reducible rfl)
          try simp only [Act.put, List.setIfInBounds_toArray, List.set_cons_zero, List.set_cons_succ]
          refine wpAnyH_take (i := 11) (oi := ⟨some 50, _, _, _, _, _⟩) (v := ?_) rfl (by kernel_rfl) (by kernel_rfl) (by kernel_rfl) (fun _ _ _ h => h) (Or.inl ⟨by rfl, ?_⟩) (by assumption) ?_
          rotate_left
          · (intro w hSw; (try dsimp only at hSw); go_simp; try with_reducible rfl)
          try simp only [Act.put, List.setIfInBounds_toArray, List.set_cons_zero, List.set_cons_succ]
          refine wpAnyH_take (i := 14) (oi := ⟨some 53, _, _, _, _, _⟩) (v := ?_) rfl (by kernel_rfl) (by kernel_rfl) (by kernel_rfl) (fun _ _ _ h => h) (Or.inl ⟨by rfl, ?_⟩) (by assumption) ?_
          rotate_left
          · (intro w hSw; (try dsimp only at hSw); go_simp; try with_reducible rfl)
          try simp only [Act.put, List.setIfInBounds_toArray, List.set_cons_zero, List.set_cons_succ]
          refine wpAnyH_take (i := 15) (oi := ⟨some 54, _, _, _, _, _⟩) (v := ?_) rfl (by kernel_rfl) (by kernel_rfl) (by kernel_rfl) (fun _ _ _ h => h) (Or.inl ⟨by rfl, ?_⟩) (by assumption) ?_
          rotate_left
          · (intro w hSw; (try dsimp only at hSw); go_simp; try with_reducible rfl)
          try simp only [Act.put, List.setIfInBounds_toArray, List.set_cons_zero, List.set_cons_succ]
          refine wpAnyH_ready (rs := [12, 16]) (by kernel_rfl) (by simp) ?_
          refine AllReadyH.cons rfl (fun K hK => ?_) (AllReadyH.cons rfl (fun K hK => ?_) AllReadyH.nil)
          · go_simp
            refine hK.out _ _ sW (fun _ => ?_)
            clear hK
            refine wpAnyH_ready (rs := [13, 16]) (by kernel_rfl) (by simp) ?_
            refine AllReadyH.cons rfl (fun K hK => ?_) (AllReadyH.cons rfl (fun K hK => ?_) AllReadyH.nil)
            · rw [if_pos (by rfl)]
              refine wp_app_run _ _ _ rfl (.slice none 0 0) _ rfl rfl run5 ?_
              refine hK.out _ _ s5 (fun _ => ?_)
              clear hK
              refine wpAnyH_ready (rs := [16]) (by kernel_rfl) (by simp) ?_
              refine AllReadyH.cons rfl (fun K hK => ?_) AllReadyH.nil
              go_simp
              refine hK.out _ _ sX (fun _ => ?_)
              clear hK
              refine wpAnyH_ready (rs := [17]) (by kernel_rfl) (by simp) ?_
              refine AllReadyH.cons rfl (fun K hK => ?_) AllReadyH.nil
              rw [if_pos (by rfl)]
              refine wp_app_run _ _ _ rfl v5 _ rfl rfl run8 ?_
              refine hK.out _ _ s8 (fun _ => ?_)
              clear hK
              refine wpAnyH_take (i := 18) (oi := ⟨some 57, _, _, _, _, _⟩) (v := ?_) rfl (by kernel_rfl) (by kernel_rfl) (by kernel_rfl) (fun _ _ _ h => h) (Or.inl ⟨by rfl, ?_⟩) (by assumption) ?_
              rotate_left
              · (intro w hSw; (try dsimp only at hSw); go_simp; try with_reducible rfl)
              try simp only [Act.put, List.setIfInBounds_toArray, List.set_cons_zero, List.set_cons_succ]
              refine wpAnyH_take (i := 19) (oi := ⟨some 58, _, _, _, _, _⟩) (v := ?_) rfl (by kernel_rfl) (by kernel_rfl) (by kernel_rfl) (fun _ _ _ h => h) (Or.inl ⟨by rfl, ?_⟩) (by assumption) ?_
              rotate_left
              · (intro w hSw; (try dsimp only at hSw); go_simp; try with_reducible rfl)
              try simp only [Act.put, List.setIfInBounds_toArray, List.set_cons_zero, List.set_cons_succ]
              refine wpAnyH_ready (rs := [20]) (by kernel_rfl) (by simp) ?_
              refine AllReadyH.cons rfl (fun K hK => ?_) AllReadyH.nil
              go_simp
              refine hK.out _ _ s9 (fun _ => ?_)
              clear hK
              refine wpAnyH_done (by kernel_rfl) ?_ _
              go_wp2_with fail
              go_ret
              exact ⟨rfl, dA.out⟩
            · go_simp
              refine hK.out _ _ sY (fun _ => ?_)
              clear hK
              refine wpAnyH_ready (rs := [13]) (by kernel_rfl) (by simp) ?_
              refine AllReadyH.cons rfl (fun K hK => ?_) AllReadyH.nil
              rw [if_pos (by rfl)]
              refine wp_app_run _ _ _ rfl (.slice none 0 0) _ rfl rfl run5' ?_
              refine hK.out _ _ s5' (fun _ => ?_)
              clear hK
              refine wpAnyH_ready (rs := [17]) (by kernel_rfl) (by simp) ?_
              refine AllReadyH.cons rfl (fun K hK => ?_) AllReadyH.nil
              rw [if_pos (by rfl)]
              refine wp_app_run _ _ _ rfl v5' _ rfl rfl run8' ?_
              refine hK.out _ _ s8' (fun _ => ?_)
              clear hK
              refine wpAnyH_take (i := 18) (oi := ⟨some 57, _, _, _, _, _⟩) (v := ?_) rfl (by kernel_rfl) (by kernel_rfl) (by kernel_rfl) (fun _ _ _ h => h) (Or.inl ⟨by rfl, ?_⟩) (by assumption) ?_
              rotate_left
              · (intro w hSw; (try dsimp only at hSw); go_simp; try with_reducible rfl)
              try simp only [Act.put, List.setIfInBounds_toArray, List.set_cons_zero, List.set_cons_succ]
              refine wpAnyH_take (i := 19) (oi := ⟨some 58, _, _, _, _, _⟩) (v := ?_) rfl (by kernel_rfl) (by kernel_rfl) (by kernel_rfl) (fun _ _ _ h => h) (Or.inl ⟨by rfl, ?_⟩) (by assumption) ?_
              rotate_left
              · (intro w hSw; (try dsimp only at hSw); go_simp; try with_reducible rfl)
              try simp only [Act.put, List.setIfInBounds_toArray, List.set_cons_zero, List.set_cons_succ]
              refine wpAnyH_ready (rs := [20]) (by kernel_rfl) (by simp) ?_
              refine AllReadyH.cons rfl (fun K hK => ?_) AllReadyH.nil
              go_simp
              refine hK.out _ _ s9' (fun _ => ?_)
              clear hK
              refine wpAnyH_done (by kernel_rfl) ?_ _
              go_wp2_with fail
              go_ret
              exact ⟨rfl, dB.out⟩
          · go_simp
            refine hK.out _ _ sY (fun _ => ?_)
            clear hK
            refine wpAnyH_ready (rs := [12]) (by kernel_rfl) (by simp) ?_
            refine AllReadyH.cons rfl (fun K hK => ?_) AllReadyH.nil
            go_simp
            refine hK.out _ _ sY (fun _ => ?_)
            clear hK
            refine wpAnyH_ready (rs := [13]) (by kernel_rfl) (by simp) ?_
            refine AllReadyH.cons rfl (fun K hK => ?_) AllReadyH.nil
            rw [if_pos (by rfl)]
            refine wp_app_run _ _ _ rfl (.slice none 0 0) _ rfl rfl run5' ?_
            refine hK.out _ _ s5' (fun _ => ?_)
            clear hK
            refine wpAnyH_ready (rs := [17]) (by kernel_rfl) (by simp) ?_
            refine AllReadyH.cons rfl (fun K hK => ?_) AllReadyH.nil
            rw [if_pos (by rfl)]
            refine wp_app_run _ _ _ rfl v5' _ rfl rfl run8' ?_
            refine hK.out _ _ s8' (fun _ => ?_)
            clear hK
            refine wpAnyH_take (i := 18) (oi := ⟨some 57, _, _, _, _, _⟩) (v := ?_) rfl (by kernel_rfl) (by kernel_rfl) (by kernel_rfl) (fun _ _ _ h => h) (Or.inl ⟨by rfl, ?_⟩) (by assumption) ?_
            rotate_left
            · (intro w hSw; (try dsimp only at hSw); go_simp; try with_reducible rfl)
            try simp only [Act.put, List.setIfInBounds_toArray, List.set_cons_zero, List.set_cons_succ]
            refine wpAnyH_take (i := 19) (oi := ⟨some 58, _, _, _, _, _⟩) (v := ?_) rfl (by kernel_rfl) (by kernel_rfl) (by kernel_rfl) (fun _ _ _ h => h) (Or.inl ⟨by rfl, ?_⟩) (by assumption) ?_
            rotate_left
            · (intro w hSw; (try dsimp only at hSw); go_simp; try with_reducible rfl)
            try simp only [Act.put, List.setIfInBounds_toArray, List.set_cons_zero, List.set_cons_succ]
            refine wpAnyH_ready (rs := [20]) (by kernel_rfl) (by simp) ?_
            refine AllReadyH.cons rfl (fun K hK => ?_) AllReadyH.nil
            go_simp
            refine hK.out _ _ s9' (fun _ => ?_)
            clear hK
            refine wpAnyH_done (by kernel_rfl) ?_ _
            go_wp2_with fail
            go_ret
            exact ⟨rfl, dB.out⟩
        · rw [if_neg k2]
          obtain rfl : m = dl := by omega
          clear k1 k2 hlg hdb hbig hsm hcs hc9
          go_enter Tryz.func41, Tryz.ntmps41
          go_wp2_with first | (go_at_call 74; refine hb.mono ?_; clear hb; rintro e w1 ⟨rfl, h1⟩; have H1 := Lib.hid (RAny.of h1); clear h1; have hno := H1.out.node s (by show a.dir.length ≤ _; omega); rw [hlk.out] at hno) | (go_at_call 52; refine hno.mono ?_; clear hno; rintro e w2 ⟨rfl, g2⟩; have H2 := Lib.hid (H1.out.new g2); clear H1 g2; obtain ⟨gn, nvc, sv, cv, e7, e0, e1, hda⟩ := H2.out.data FC.out hjl.out; rw [show RefP.file { a with count := a.count + 1 } jn = n from hfn.out.symm] at hda; rw [show ({ a with count := a.count + 1 } : RefP).nodes.length = nl from hnl.out.symm] at e7) | (go_at_call 53; refine hda.mono ?_; clear hda; rintro e w3 ⟨x3, c3, rfl, o3, g3⟩; rw [← hdl.out]; have H3 := Lib.hid (H2.out.new g3); clear H2 g3 o3 e7 e0 e1)
          go_ret
          exact ⟨rfl, H3.out.done⟩
  · rw [if_neg h0]
    have hz : (a.begin.1 == 0) = false := by simpa using h0
    generalize a.begin = b at *
    clear h F
    go_enter Tryz.func41, Tryz.ntmps41
    go_wp2_with (go_at_call 74; go_loud (refine hb.mono ?_; clear hb; rintro e w1 ⟨rfl, h1⟩; have H1 := Lib.hid h1; clear h1))
    go_ret
    exact ⟨rfl, H1.out⟩
end
end Go.Proofs.YtafcgjbafihniaaGreat

/-
  LAYER 1 (fs): the reference's Files.
-/
namespace Go.Proofs.YtafcgjbafihniaaGreat
set_option maxRecDepth 100000
variable {DX : Nat → Prop}
open Go.RowKit Go.Lib
open Go.Proofs (encStr)
attribute [local go_sem] Oper.semAt_some

/-- One file more. -/
theorem push_file (v : Value) (rows : List FRow) (x : List UInt8) (dv : Value) (bs : List UInt8) (B b : Nat) (w : World) (hr : FilesAt w B v rows) (hB : B ≤ w.heap.size) (hl : rows.length ≤ 1048576) (hd : Owns w B 5 dv bs)
    (hb : w.heap[b]? = some (.cells #[encStr x, dv] 53 (0, 0))) :
    ∃ v' w', (Builtin.append_ #[50, 50] 50 #[v, .slice (some ⟨b, 0, none⟩) 1 1]).run Tryz.prog w = .ok v' w' ∧ FilesAt w' B v' (rows ++ [(x, dv, bs)]) ∧ w.grownBy w' v.ownBlock := by
  obtain ⟨i0, hi, hz0, hz1, hz2⟩ := info_partsFl
  obtain ⟨da, dc, rfl⟩ := rowForm hd
  obtain ⟨v', w', hrun, h5, h6, _, h7⟩ := run_append_own_at (P := Tryz.prog) w B 50 50 53 i0 (.agg #[.string ⟨#[]⟩, .slice none 0 0]) 2 40 Tryz.underlying50 hi hz0 hz1 hz2 rfl (by decide) v rows.length (fileCells rows) hr.1 ⟨b, 0, none⟩ 1 1 [encStr x, .slice da bs.length dc] rfl
    (fun j u hj => by
      rw [addr_add]
      have eX : ∀ i', w.cell? ⟨b, i', none⟩ = #[encStr x, Value.slice da bs.length dc][i']? := fun i' => by simp [World.cell?, hb]
      rw [eX]
      simpa using hj) (fun u hu => by
        simp at hu
        rcases hu with rfl | rfl
        · unfold encStr
          rfl
        · rfl) (by unfold maxLen; omega) (by omega) hB
  have alt : ∀ (u : Value) (cs : List UInt8), Owns w B 5 u cs → u.ownBlock = none ∨ u.ownBlock ≠ v.ownBlock := fun u cs hu => by
    cases e : u.ownBlock with
    | none => exact .inl rfl
    | some k => exact .inr (fun e2 => own_own hr.1 hu (by decide) k e2.symm e)
  refine ⟨v', w', hrun, ⟨?_, fun r hr2 => ?_⟩, h6⟩
  · rw [fileCells_append, List.length_append]
    exact h5
  · rcases List.mem_append.1 hr2 with h | h
    · exact World.ownsRow.kept (hr.2 r h) h6 (alt _ _ (hr.2 r h))
    · simp at h
      subst h
      exact World.ownsRow.kept hd h6 (alt _ _ hd)
theorem FilesAt.new {A B : World} {b : Nat} {v : Value} {rows : List FRow} (h : FilesAt A b v rows) (g : A.grownBy B none) : FilesAt B b v rows := h.kept g (fun k e => by cases e)

section
variable {R : Nat → Prop} {w : World} {q : Nat} {a : RefP} {r : RefV} {vs : List (Value × Value)}
set_option maxHeartbeats 8000000 in
theorem rfiles_any (h : RefOk DX R w q a r vs) (F : a.Fits) (hdir : a.dir.length ≤ 65536) (hdl : ∀ x j, a.dir.look x = some j → j < a.nodes.length) :
    Calls Tryz.prog 47 #[.pointer (some ⟨q, 0, none⟩)] w fun e w' => ∃ v rows, e = .returned v ∧ FilesAt w' w.heap.size v rows ∧ rows.map (fun r => (r.1, r.2.2)) = a.files ∧ w.grownBy w' none := by
  have c6 := h.at_.c6
  rw [h.died] at c6
  unfold RefP.files
  by_cases hd : a.died = true
  · rw [if_pos hd]
    rw [hd] at c6
    have FF : Hid (∃ v rows, (Ending.returned (.slice none 0 0)) = .returned v ∧ FilesAt w w.heap.size v rows ∧ rows.map (fun r => (r.1, r.2.2)) = [] ∧ w.grownBy w none) := Lib.hid ⟨_, [], rfl, ⟨World.ownsRow_nil _ _ _ _, fun r hr => by cases hr⟩, rfl, World.grownBy.refl _ _⟩
    clear h
    go_enter Tryz.func47, Tryz.ntmps47
    go_wp2
    go_ret
    exact FF.out
  · rw [if_neg hd]
    have hdf : a.died = false := by simpa using hd
    rw [hdf] at c6
    have H : Hid (RAny DX R w q a w) := Lib.hid ⟨r, vs, h.weak (fun _ hk => .inl hk), GP.refl _ _⟩
    have hnm := names_any (some ⟨q, 0, none⟩) r.dir a.dir w h.rows.rd.1 (by omega)
    have c8 := h.at_.c8
    obtain ⟨dva, dvc, hdv⟩ := h.rows.rd.form
    rw [hdv] at c8 hnm
    obtain ⟨NM, hNM⟩ : ∃ NM, NM = a.dir.names.mergeSort leB := ⟨_, rfl⟩
    rw [show a.dir.sorted.map (fun x => (x.1, (a.file x.2).data)) = NM.map (fun x => (x, (a.file ((a.dir.look x).getD 0)).data)) by
      unfold DirL.sorted
      rw [List.map_map, hNM]
      rfl]
    rw [← hNM] at hnm
    have hin : Hid (∀ x ∈ NM, ∃ j, a.dir.look x = some j ∧ j < a.nodes.length) := Lib.hid fun x hx => by
      rw [hNM] at hx
      obtain ⟨j, hj⟩ := Option.isSome_iff_exists.1 (DirL.look_names.2 (List.mem_mergeSort.1 hx))
      exact ⟨j, hj, hdl _ _ hj⟩
    have hNl : Hid (NM.length ≤ 65536) := Lib.hid (by rw [hNM, List.length_mergeSort]; simpa [DirL.names] using hdir)
    obtain ⟨nd, hnd⟩ : ∃ nd, nd = a.dir.length := ⟨_, rfl⟩
    obtain ⟨nn, hnn⟩ : ∃ nn, nn = NM.length := ⟨_, rfl⟩
    rw [← hnd] at c8 hnm hdir
    replace hNM := Lib.hid hNM
    replace hnd := Lib.hid hnd
    replace hdl := Lib.hid hdl
    replace F := Lib.hid F
    have hnn9 : nn ≤ 65536 := by have := hNl.out; omega
    replace hnn := Lib.hid hnn
    clear h hd hdf hdv
    go_enter Tryz.func47, Tryz.ntmps47
    go_wp2_with (go_at_call 80
                 refine hnm.mono ?_
                 clear hnm
                 rintro e w1 ⟨v1, rfl, hO, g1⟩
                 obtain ⟨sa, sc, rfl⟩ := hO.form
                 rw [← hnn.out]
                 have hO1 := Lib.hid hO
                 have hg1 := Lib.hid g1
                 clear hO g1)
    go_loopw [3, 5, 18] (fun v3 _ vi wr => ∃ (j : Nat) (rows : List FRow), vi = .int .i64 (j : Int) ∧ j ≤ nn ∧ Hid (FilesAt wr w1.heap.size v3 rows) ∧ Hid (rows.length = j) ∧ Hid (rows.map (fun r => (r.1, r.2.2)) = (NM.take j).map (fun x => (x, (a.file ((a.dir.look x).getD 0)).data))) ∧ Hid (w1.grownBy wr none)) (fun _ _ vi _ => nn - (RowKit.intOf vi).toNat)
    case atStart => exact ⟨0, [], rfl, Nat.zero_le _, Lib.hid ⟨World.ownsRow_nil _ _ _ _, fun r hr => by cases hr⟩, Lib.hid rfl, Lib.hid rfl, Lib.hid (World.grownBy.refl _ _)⟩
    case round =>
      obtain ⟨j, rows, rfl, hj, hR, hrl, hE, hG⟩ := hrel
      obtain ⟨ra, rc, rfl⟩ := rowFormS hR.out.1
      by_cases hlt : j < nn
      · have hltz : (j : Int) < (nn : Int) := by omega
        obtain ⟨x, hx⟩ : ∃ x, NM[j]? = some x := ⟨_, List.getElem?_eq_getElem (by rw [← hnn.out]; exact hlt)⟩
        obtain ⟨i, hlk, hil⟩ := hin.out x (List.mem_of_getElem? hx)
        have hOr := hO1.out.new hG.out
        obtain ⟨gs, rfl, _, hgs2, _, c0, _⟩ := hOr.at hx
        obtain ⟨xs, hxs⟩ : ∃ xs : ByteArray, xs = ⟨x.toArray⟩ := ⟨_, rfl⟩
        rw [← hxs] at c0
        have hxd : xs.data.toList = x := by rw [hxs]
        have gwr : w.grownBy wr none := hg1.out.trans hG.out
        have gd := gdrew (World.grownBy.refl wr none)
        obtain ⟨gn, nvc, sv, cv, e7, e0, e1, hdg⟩ := H.out.dataG F.out hil
        have hno := (H.out.new (gwr.trans gd)).node xs (by have := hnd.out; omega)
        rw [hxd, hlk, show ptrN (some i) = (i : Int) from rfl] at hno
        obtain ⟨n, hn⟩ : ∃ n, n = a.file i := ⟨_, rfl⟩
        rw [← hn] at hdg
        obtain ⟨dl, hdl5⟩ : ∃ dl, dl = n.data.length := ⟨_, rfl⟩
        rw [← hdl5] at hdg
        obtain ⟨nl, hnl⟩ : ∃ nl, nl = a.nodes.length := ⟨_, rfl⟩
        rw [← hnl] at e7 hil
        have hiz : (i : Int) < (nl : Int) := by omega
        obtain ⟨rl, hrl2⟩ : ∃ rl, rl = rows.length := ⟨_, rfl⟩
        rw [← hrl2]
        have hRd := hR.out.new gd
        rw [← hrl2] at hRd
        have g1d := hG.out.trans gd
        have hS : ∀ V, w.grownBy V none → V.cell? ⟨q, 7, none⟩ = some (.slice (some ⟨gn, 0, none⟩) nl nvc) ∧ V.cell? ⟨gn, i * 2, none⟩ = some sv ∧ V.cell? ⟨gn, i * 2 + 1, none⟩ = some cv := fun V g => ⟨g.cell e7 (by simp), g.cell e0 (by simp), g.cell e1 (by simp)⟩
        have hfin : ∀ (dv : Value) (V : World), wr.drew.grownBy V none → Owns V w1.heap.size 5 dv n.data → ∃ a9 c9 W9, (Builtin.append_ #[50, 50] 50 #[.slice ra rl rc, .slice (some ⟨V.heap.size, 0, none⟩) 1 1]).run Tryz.prog (V.alloc (.cells #[.string xs, dv] 53)) = .ok (.slice a9 (rl + 1) c9) W9 ∧ w1.grownBy W9 none ∧ FilesAt W9 w1.heap.size (.slice a9 (rl + 1) c9) (rows ++ [(x, dv, n.data)]) := by
          intro dv V gV oV
          have gW := World.grownBy_alloc V (.cells #[.string xs, dv] 53) none
          have eW := World.alloc_heap_new V (.cells #[.string xs, dv] 53)
          have hWs := ((g1d.trans gV).trans gW).size
          obtain ⟨v9, W9, run9, f9, g9⟩ := push_file (.slice ra rl rc) rows x dv n.data w1.heap.size V.heap.size _ ((hRd.new gV).new gW) hWs (by have := hNl.out; have := hnn.out; have := hrl.out; omega) (World.ownsRow.kept oV gW (by cases dv.ownBlock <;> simp)) (by rw [eW, hxs, show encStr x = .string ⟨x.toArray⟩ from rfl])
          obtain ⟨a9, c9, rfl⟩ := rowFormS f9.1
          have e9 : (rows ++ [(x, dv, n.data)]).length = rl + 1 := by rw [List.length_append, hrl2]; rfl
          rw [e9] at run9 f9
          exact ⟨a9, c9, W9, run9, gnew ((g1d.trans gV).trans gW) g9 (fun k e => .inl (World.ownsRow.lt hRd.1 k e).1), f9⟩
        have hE2 : Hid (∀ dv : Value, (rows ++ [(x, dv, n.data)]).map (fun r : FRow => (r.1, r.2.2)) = (NM.take (j + 1)).map (fun x => (x, (a.file ((a.dir.look x).getD 0)).data))) := Lib.hid fun dv => by
          obtain ⟨h1, h2⟩ := List.getElem?_eq_some_iff.1 hx
          rw [List.map_append, hE.out, List.take_succ_eq_append_getElem h1, List.map_append, h2]
          simp [hlk, hn]
        have hj1 : Hid (∀ dv : Value, (rows ++ [(x, dv, n.data)]).length = j + 1) := Lib.hid fun dv => by rw [List.length_append, hrl.out]; rfl
        have S0 := hS _ (gwr.trans gd)
        have hgn := Lib.hid (hg1.out)
        have gwd := gwr.trans gd
        replace hfin := Lib.hid hfin
        replace hdg := Lib.hid hdg
        replace hS := Lib.hid hS
        replace gwd := Lib.hid gwd
        replace g1d := Lib.hid g1d
        replace hx := Lib.hid hx
        replace hlk := Lib.hid hlk
        replace hxs := Lib.hid hxs
        replace hxd := Lib.hid hxd
        replace hn := Lib.hid hn
        replace hdl5 := Lib.hid hdl5
        replace hnl := Lib.hid hnl
        replace hrl2 := Lib.hid hrl2
        clear hRd hOr e7 e0 e1 gd gwr hE hR hrl
        go_wp2_with fail
        refine wp_region_held_drew (S := fun V => V.cell? ⟨q, 7, none⟩ = some (.slice (some ⟨gn, 0, none⟩) nl nvc) ∧ V.cell? ⟨gn, i * 2, none⟩ = some sv ∧ V.cell? ⟨gn, i * 2 + 1, none⟩ = some cv) (by kernel_rfl) S0 (fun hS0 => ?_)
        refine wpAnyH_take (i := 0) (oi := ⟨some 22, _, _, _, _, _⟩) (v := ?_) rfl (by kernel_rfl) (by kernel_rfl) (by kernel_rfl) (fun _ _ _ h => h) (Or.inl ⟨by rfl, ?_⟩) (by assumption) ?_
        rotate_left
        · (intro w hSw; (try dsimp only at hSw); go_simp; try with_reducible rfl)
        try simp only [Act.put, List.setIfInBounds_toArray, List.set_cons_zero, List.set_cons_succ]
        refine wpAnyH_take (i := 1) (oi := ⟨some 23, _, _, _, _, _⟩) (v := ?_) rfl (by kernel_rfl) (by kernel_rfl) (by kernel_rfl) (fun _ _ _ h => h) (Or.inl ⟨by rfl, ?_⟩) (by assumption) ?_
        rotate_left
        · (intro w hSw; (try dsimp only at hSw); go_simp; try with_reducible rfl)
        try simp only [Act.put, List.setIfInBounds_toArray, List.set_cons_zero, List.set_cons_succ]
        refine wpAnyH_take (i := 2) (oi := ⟨some 24, _, _, _, _, _⟩) (v := ?_) rfl (by kernel_rfl) (by kernel_rfl) (by kernel_rfl) (fun _ _ _ h => h) (Or.inl ⟨by rfl, ?_⟩) (by assumption) ?_
        rotate_left
        · (intro w hSw; (try dsimp only at hSw); go_simp; try with_reducible rfl)
        try simp only [Act.put, List.setIfInBounds_toArray, List.set_cons_zero, List.set_cons_succ]
        refine wpAnyH_take (i := 3) (oi := ⟨some 25, _, _, _, _, _⟩) (v := ?_) rfl (by kernel_rfl) (by kernel_rfl) (by kernel_rfl) (fun _ _ _ h => h) (Or.inl ⟨by rfl, ?_⟩) (by assumption) ?_
        rotate_left
        · (intro w hSw; (try dsimp only at hSw); go_simp; try with_reducible rfl)
        try simp only [Act.put, List.setIfInBounds_toArray, List.set_cons_zero, List.set_cons_succ]
        refine wpAnyH_take (i := 4) (oi := ⟨some 26, _, _, _, _, _⟩) (v := ?_) rfl (by kernel_rfl) (by kernel_rfl) (by kernel_rfl) (fun _ _ _ h => h) (Or.inl ⟨by rfl, ?_⟩) (by assumption) ?_
        rotate_left
        · (intro w hSw; (try dsimp only at hSw); go_simp; try with_reducible rfl)
        try simp only [Act.put, List.setIfInBounds_toArray, List.set_cons_zero, List.set_cons_succ]
        refine wpAnyH_take (i := 5) (oi := ⟨some 27, _, _, _, _, _⟩) (v := ?_) rfl (by kernel_rfl) (by kernel_rfl) (by kernel_rfl) (fun _ _ _ h => h) (Or.inl ⟨by rfl, ?_⟩) (by assumption) ?_
        rotate_left
        · (intro w hSw; (try dsimp only at hSw); go_simp; try with_reducible rfl)
        try simp only [Act.put, List.setIfInBounds_toArray, List.set_cons_zero, List.set_cons_succ]
        refine wpAnyH_take (i := 6) (oi := ⟨some 28, _, _, _, _, _⟩) (v := ?_) rfl (by kernel_rfl) (by kernel_rfl) (by kernel_rfl) (fun _ _ _ h => h) (Or.inl ⟨by rfl, ?_⟩) (by assumption) ?_
        rotate_left
        · (intro w hSw; (try dsimp only at hSw); go_simp; try with_reducible rfl)
        try simp only [Act.put, List.setIfInBounds_toArray, List.set_cons_zero, List.set_cons_succ]
        refine wpAnyH_take (i := 7) (oi := ⟨some 29, _, _, _, _, _⟩) (v := ?_) rfl (by kernel_rfl) (by kernel_rfl) (by kernel_rfl) (fun _ _ _ h => h) (Or.inl ⟨by rfl, ?_⟩) (by assumption) ?_
        rotate_left
        · (intro w hSw; (try dsimp only at hSw); go_simp; try with_reducible rfl)
        try simp only [Act.put, List.setIfInBounds_toArray, List.set_cons_zero, List.set_cons_succ]
        refine wpAnyH_ready (rs := [8]) (by kernel_rfl) (by simp) ?_
        refine AllReadyH.cons rfl (fun K hK => ?_) AllReadyH.nil
        go_simp
        refine hno.mono ?_
        clear hno
        rintro e w2 ⟨rfl, g2⟩
        have S2 := hS.out _ (gwd.out.trans g2)
        have hda := hdg.out w2 (gwd.out.trans g2)
        refine hK.out _ _ S2 (fun _ => ?_)
        clear hK
        refine wpAnyH_take (i := 9) (oi := ⟨some 31, _, _, _, _, _⟩) (v := ?_) rfl (by kernel_rfl) (by kernel_rfl) (by kernel_rfl) (fun _ _ _ h => h) (Or.inl ⟨by rfl, ?_⟩) (by assumption) ?_
        rotate_left
        · (intro w hSw; (try dsimp only at hSw); go_simp; try with_reducible rfl)
        try simp only [Act.put, List.setIfInBounds_toArray, List.set_cons_zero, List.set_cons_succ]
        refine wpAnyH_take (i := 10) (oi := ⟨some 32, _, _, _, _, _⟩) (v := ?_) rfl (by kernel_rfl) (by kernel_rfl) (by kernel_rfl) (fun _ _ _ h => h) (Or.inl ⟨by rfl, ?_⟩) (by assumption) ?_
        rotate_left
        · (intro w hSw; (try dsimp only at hSw); go_simp; try with_reducible rfl)
        try simp only [Act.put, List.setIfInBounds_toArray, List.set_cons_zero, List.set_cons_succ]
        refine wpAnyH_ready (rs := [11]) (by kernel_rfl) (by simp) ?_
        refine AllReadyH.cons rfl (fun K hK => ?_) AllReadyH.nil
        go_simp
        refine hda.mono ?_
        clear hda
        rintro e w3 ⟨x3, c3, rfl, o3, g3⟩
        have S3 := hS.out _ ((gwd.out.trans g2).trans g3)
        have g23 := g2.trans g3
        obtain ⟨a9, c9, W9, run9, g9, f9⟩ := hfin.out (.slice x3 dl c3) w3 g23 (World.ownsRow.mono o3 (Nat.le_trans g1d.out.size g2.size))
        have S9 := hS.out _ (hgn.out.trans g9)
        have gx := World.grownBy_alloc w3 (.cells #[.string xs, .slice x3 dl c3] 53) none
        have S4 := hS.out _ (((gwd.out.trans g2).trans g3).trans gx)
        have f9h := Lib.hid f9
        have g9h := Lib.hid g9
        clear g23 o3 g3 g2 f9 g9 gx
        refine hK.out _ _ S3 (fun _ => ?_)
        clear hK
        refine wpAnyH_take (i := 12) (oi := ⟨some 34, _, _, _, _, _⟩) (v := ?_) rfl (by kernel_rfl) (by kernel_rfl) (by kernel_rfl) (fun _ _ _ h => h) (Or.inl ⟨by rfl, ?_⟩) (by assumption) ?_
        rotate_left
        · (intro w hSw; (try dsimp only at hSw); go_simp; try with_reducible rfl)
        try simp only [Act.put, List.setIfInBounds_toArray, List.set_cons_zero, List.set_cons_succ]
        refine wpAnyH_ready (rs := [13]) (by kernel_rfl) (by simp) ?_
        refine AllReadyH.cons rfl (fun K hK => ?_) AllReadyH.nil
        go_simp
        refine hK.out _ _ S4 (fun _ => ?_)
        clear hK
        refine wpAnyH_ready (rs := [14]) (by kernel_rfl) (by simp) ?_
        refine AllReadyH.cons rfl (fun K hK => ?_) AllReadyH.nil
        rw [if_pos (by rfl)]
        refine wp_app_run _ _ _ rfl (.slice ra rl rc) _ rfl rfl run9 ?_
        refine hK.out _ _ S9 (fun _ => ?_)
        clear hK
        refine wpAnyH_take (i := 15) (oi := ⟨some 3, _, _, _, _, _⟩) (v := ?_) rfl (by kernel_rfl) (by kernel_rfl) (by kernel_rfl) (fun _ _ _ h => h) (Or.inl ⟨by rfl, ?_⟩) (by assumption) ?_
        rotate_left
        · (intro w hSw; (try dsimp only at hSw); go_simp; try with_reducible rfl)
        try simp only [Act.put, List.setIfInBounds_toArray, List.set_cons_zero, List.set_cons_succ]
        refine wpAnyH_done (by kernel_rfl) ?_ _
        go_wp2_with fail
        exact ⟨⟨j + 1, rows ++ [(x, .slice x3 dl c3, n.data)], by go_num, by omega, f9h, hj1.out _, hE2.out _, g9h⟩, by simp [RowKit.intOf]; omega⟩
      · obtain rfl : j = nn := by omega
        have hEf : rows.map (fun r => (r.1, r.2.2)) = NM.map (fun x => (x, (a.file ((a.dir.look x).getD 0)).data)) := by
          rw [hE.out, hnn.out, List.take_length]
        have FF : Hid (∃ v rows', (Ending.returned (.slice ra rows.length rc)) = .returned v ∧ FilesAt wr w.heap.size v rows' ∧ rows'.map (fun r => (r.1, r.2.2)) = NM.map (fun x => (x, (a.file ((a.dir.look x).getD 0)).data)) ∧ w.grownBy wr none) := Lib.hid ⟨_, rows, rfl, ⟨World.ownsRow.mono hR.out.1 hg1.out.size, fun r hr => World.ownsRow.mono (hR.out.2 r hr) hg1.out.size⟩, hEf, hg1.out.trans hG.out⟩
        clear hEf
        go_wp2
        go_ret
        exact FF.out
end
end Go.Proofs.YtafcgjbafihniaaGreat

/-
  LAYER 1 (fs): the reference's Used.
-/
namespace Go.Proofs.YtafcgjbafihniaaGreat
set_option maxRecDepth 100000
variable {DX : Nat → Prop}
open Go.RowKit Go.Lib
open Go.Proofs (encStr)
attribute [local go_sem] Oper.semAt_some

theorem cell_of {W : World} {b : Nat} {cs : Array Value} {e : TypeId} (h : W.heap[b]? = some (.cells cs e (0, 0))) (i : Nat) : W.cell? ⟨b, i, none⟩ = cs[i]? := by simp [World.cell?, h]
theorem free_of {W : World} {b : Nat} {cs : Array Value} {e : TypeId} (h : W.heap[b]? = some (.cells cs e (0, 0))) (i : Nat) : W.frozen? ⟨b, i, none⟩ = false := by simp [World.frozen?, h]
theorem FilesAt.at {w : World} {B : Nat} {g : Option Addr} {n c : Nat} {rows : List FRow} (h : FilesAt w B (.slice g n c) rows) {j : Nat} {r : FRow} (hr : rows[j]? = some r) :
    ∃ b da dc, g = some ⟨b, 0, none⟩ ∧ B ≤ b ∧ b < w.heap.size ∧ w.cell? ⟨b, j * 2, none⟩ = some (.string ⟨r.1.toArray⟩) ∧ r.2.1 = .slice da r.2.2.length dc ∧ w.cell? ⟨b, j * 2 + 1, none⟩ = some (.slice da r.2.2.length dc) := by
  have hj : j < rows.length := (List.getElem?_eq_some_iff.1 hr).1
  have ho : OwnR (fun b => B ≤ b) w 53 2 (.slice g n c) rows.length (fileCells rows) := ⟨World.ownsRow.mono h.1 (Nat.zero_le _), fun b hb => (World.ownsRow.lt h.1 b hb).1⟩
  have hn : n = rows.length := by
    obtain ⟨a', c', e⟩ := rowFormS h.1
    simp at e
    exact e.2.1
  subst hn
  obtain ⟨b, rfl, hB, hl, rc, _⟩ := ho.cell (by omega)
  have hat := flat_at (fun r : FRow => [encStr r.1, r.2.1]) 2 (fun _ => rfl) rows j r hr
  have q0 := (rc (j * 2 + 0) (by omega)).trans (hat 0 (by omega))
  have q1 := (rc (j * 2 + 1) (by omega)).trans (hat 1 (by omega))
  simp at q0 q1
  obtain ⟨da, dc, hd⟩ := rowForm (h.2 r (List.mem_of_getElem? hr))
  exact ⟨b, da, dc, rfl, hB, hl, q0, hd, by rw [← hd]; exact q1⟩
section
variable {R : Nat → Prop} {w : World} {q : Nat} {a : RefP} {r : RefV} {vs : List (Value × Value)}
theorem RefP.used_files (hd : a.died = false) : a.used = (a.files.map fun x => x.2.length).sum := by
  unfold RefP.used RefP.files
  rw [if_neg (by rw [hd]; simp), List.map_map]
  rfl
theorem take_sum (l : List Nat) (M : Nat) (h : ∀ x ∈ l, x ≤ M) (j : Nat) : (l.take j).sum ≤ j * M := by
  have h1 := sum_bound (fun x => x) M (l.take j) (fun x hx => h x (List.mem_of_mem_take hx))
  simp only [List.map_id', List.length_take] at h1
  exact Nat.le_trans h1 (Nat.mul_le_mul_right M (Nat.min_le_left _ _))
set_option maxHeartbeats 8000000 in
theorem rused_any (h : RefOk DX R w q a r vs) (F : a.Fits) (hdir : a.dir.length ≤ 65536) (hdl : ∀ x j, a.dir.look x = some j → j < a.nodes.length) (hbig : ∀ x ∈ a.files, x.2.length ≤ 268435456) :
    Calls Tryz.prog 49 #[.pointer (some ⟨q, 0, none⟩)] w fun e w' => e = .returned (.int .i64 (((a.files.map fun x => x.2.length).sum : Nat) : Int)) ∧ w.grownBy w' none := by
  have hfl := rfiles_any h F hdir hdl
  have hlen : a.files.length ≤ 65536 := by
    unfold RefP.files
    split
    · simp
    · rw [List.length_map, DirL.sorted_length]
      exact hdir
  obtain ⟨L, hL⟩ : ∃ L, L = a.files.map fun x => x.2.length := ⟨_, rfl⟩
  rw [← hL]
  have hLb : ∀ x ∈ L, x ≤ 268435456 := fun x hx => by
    rw [hL] at hx
    obtain ⟨y, hy, rfl⟩ := List.mem_map.1 hx
    exact hbig y hy
  have hts := Lib.hid (take_sum L 268435456 hLb)
  have hLl : L.length ≤ 65536 := by rw [hL, List.length_map]; exact hlen
  obtain ⟨nn, hnn⟩ : ∃ nn, nn = L.length := ⟨_, rfl⟩
  rw [← hnn] at hLl
  replace hL := Lib.hid hL
  replace hnn := Lib.hid hnn
  clear h F hdir hdl hbig hlen hLb
  go_enter Tryz.func49, Tryz.ntmps49
  go_wp2_with (go_at_call 47
               refine hfl.mono ?_
               clear hfl
               rintro e w1 ⟨v1, rows, rfl, hF, hE, g1⟩
               obtain ⟨fa, fc, rfl⟩ := rowFormS hF.1
               have hL2 : L = rows.map (fun r => r.2.2.length) := by rw [hL.out, ← hE, List.map_map]; rfl
               have hrn : rows.length = nn := by rw [hnn.out, hL2, List.length_map]
               rw [hrn] at hF ⊢
               have hF1 := Lib.hid hF
               have hg1 := Lib.hid g1
               have hL3 := Lib.hid hL2
               have hrn2 := Lib.hid hrn
               clear hF g1 hE hL2 hrn)
  go_loopw [3, 5, 9] (fun v3 _ vi wr => ∃ (j : Nat), vi = .int .i64 (j : Int) ∧ j ≤ nn ∧ v3 = .int .i64 (((L.take j).sum : Nat) : Int) ∧ Hid (w1.grownBy wr none)) (fun _ _ vi _ => nn - (RowKit.intOf vi).toNat)
  case atStart => exact ⟨0, rfl, Nat.zero_le _, rfl, Lib.hid (World.grownBy.refl _ _)⟩
  case round =>
    obtain ⟨j, rfl, hj, rfl, hG⟩ := hrel
    obtain ⟨t0, ht0⟩ : ∃ t0, t0 = (L.take j).sum := ⟨_, rfl⟩
    have hb0 : t0 ≤ 17592186044416 := by rw [ht0]; have := hts.out j; omega
    rw [← ht0]
    by_cases hlt : j < nn
    · have hltz : (j : Int) < (nn : Int) := by omega
      obtain ⟨x, hx⟩ : ∃ x, rows[j]? = some x := ⟨_, List.getElem?_eq_getElem (by rw [hrn2.out]; exact hlt)⟩
      obtain ⟨b, da, dc, rfl, _, hbl, c0, _, c1⟩ := (hF1.out.new hG.out).at hx
      obtain ⟨xs, hxs⟩ : ∃ xs : ByteArray, xs = ⟨x.1.toArray⟩ := ⟨_, rfl⟩
      rw [← hxs] at c0
      obtain ⟨dl, hdl⟩ : ∃ dl, dl = x.2.2.length := ⟨_, rfl⟩
      rw [← hdl] at c1
      have hLj : L[j]? = some dl := by rw [hL3.out, List.getElem?_map, hx, hdl]; rfl
      have hs1 : (L.take (j + 1)).sum = t0 + dl := by
        obtain ⟨h1, h2⟩ := List.getElem?_eq_some_iff.1 hLj
        rw [List.take_succ_eq_append_getElem h1, List.sum_append, h2, ht0]
        simp
      have hb1 : t0 + dl ≤ 17592186044416 := by rw [← hs1]; have := hts.out (j + 1); omega
      have gX := World.grownBy_alloc wr (.cells #[.string ⟨#[]⟩, .slice none 0 0] 53) none
      have eX := World.alloc_heap_new wr (.cells #[.string ⟨#[]⟩, .slice none 0 0] 53)
      have x0 : (wr.alloc (.cells #[.string ⟨#[]⟩, .slice none 0 0] 53)).cell? ⟨wr.heap.size, 0, none⟩ = some (.string ⟨#[]⟩) := cell_of eX 0
      have f0 : (wr.alloc (.cells #[.string ⟨#[]⟩, .slice none 0 0] 53)).frozen? ⟨wr.heap.size, 0, none⟩ = false := free_of eX 0
      have eY := heap_setCell_same _ wr.heap.size 0 _ _ (.string xs) eX
      have x1 : ((wr.alloc (.cells #[.string ⟨#[]⟩, .slice none 0 0] 53)).setCell ⟨wr.heap.size, 0, none⟩ (.string xs)).cell? ⟨wr.heap.size, 1, none⟩ = some (.slice none 0 0) := cell_of eY 1
      have f1 : ((wr.alloc (.cells #[.string ⟨#[]⟩, .slice none 0 0] 53)).setCell ⟨wr.heap.size, 0, none⟩ (.string xs)).frozen? ⟨wr.heap.size, 1, none⟩ = false := free_of eY 1
      have eZ := heap_setCell_same _ wr.heap.size 1 _ _ (.slice da dl dc) eY
      have x2 : (((wr.alloc (.cells #[.string ⟨#[]⟩, .slice none 0 0] 53)).setCell ⟨wr.heap.size, 0, none⟩ (.string xs)).setCell ⟨wr.heap.size, 1, none⟩ (.slice da dl dc)).cell? ⟨wr.heap.size, 1, none⟩ = some (.slice da dl dc) := cell_of eZ 1
      have gF := Lib.hid (hG.out.trans (World.grownBy_alloc wr (.cells #[.string xs, .slice da dl dc] 53) none))
      replace hs1 := Lib.hid hs1
      replace ht0 := Lib.hid ht0
      replace hxs := Lib.hid hxs
      replace hdl := Lib.hid hdl
      replace hLj := Lib.hid hLj
      replace hx := Lib.hid hx
      clear gX eX eY eZ hG
      go_wp2_with fail
      exact ⟨⟨j + 1, by go_num, by omega, by rw [hs1.out]; go_num, gF⟩, by simp [RowKit.intOf]; omega⟩
    · obtain rfl : j = nn := by omega
      have ht : t0 = L.sum := by rw [ht0, hnn.out, List.take_length]
      subst ht
      have FF := Lib.hid (hg1.out.trans hG.out)
      go_wp2
      go_ret
      exact ⟨rfl, FF.out⟩
end
end Go.Proofs.YtafcgjbafihniaaGreat
