/-
  LAYER 1 (fs): the reference's Append.
-/
import Derived.Test.YtafcgjbafihniaaGreatFA21
import Derived.Test.YtafcgjbafihniaaGreatFA09
namespace Go.Proofs.YtafcgjbafihniaaGreat
set_option maxRecDepth 100000
variable {DX : Nat → Prop}
open Go.RowKit Go.Lib
attribute [local go_sem] Oper.semAt_some

section
variable {R : Nat → Prop} {w W W' : World} {q : Nat} {a : RefP}
theorem RAny.full (h : RAny DX R w q a W) : Calls Tryz.prog 76 #[.pointer (some ⟨q, 0, none⟩)] W fun e w' => e = .returned (.bool (a.pl.full.contains a.count)) ∧ W.grownBy w' none := by
  obtain ⟨r, vs, h1, h2⟩ := h
  refine (full_any h1).mono ?_
  rintro e w' ⟨rfl, m, rfl⟩
  exact ⟨rfl, gdrewN (World.grownBy.refl W none) m⟩
theorem RAny.used (h : RAny DX R w q a W) (F : a.Fits) (hdir : a.dir.length ≤ 65536) (hdl : ∀ x j, a.dir.look x = some j → j < a.nodes.length) (hbig : ∀ x ∈ a.files, x.2.length ≤ 268435456) :
    Calls Tryz.prog 49 #[.pointer (some ⟨q, 0, none⟩)] W fun e w' => e = .returned (.int .i64 (((a.files.map fun x => x.2.length).sum : Nat) : Int)) ∧ W.grownBy w' none := by
  obtain ⟨r, vs, h1, h2⟩ := h
  exact rused_any h1 F hdir hdl hbig
theorem RAny.room (h : RAny DX R w q a W) : W.cell? ⟨q, 4, none⟩ = some (.int .i64 a.pl.room) := by
  obtain ⟨r, vs, h1, h2⟩ := h
  rw [← h1.room]
  exact h1.at_.c4

set_option maxHeartbeats 16000000 in
theorem rappend_any {r : RefV} {vs : List (Value × Value)} (s : ByteArray) (ba : Option Addr) (bc : Nat) (bs : List UInt8) (h : RefOk DX R w q a r vs) (hR : ∀ k, RD R DX k → k < w.heap.size) (F : a.Fits) (hdir : a.dir.length ≤ 65536) (hdl : ∀ x j, a.dir.look x = some j → j < a.nodes.length) (hc9 : a.count < 4611686018427387903) (hbig : ∀ n ∈ a.nodes, n.data.length ≤ 268435456) (hsm : chgSum a.nodes ≤ 2199023255552)
    (hB : bs ≠ [] → ∀ W', GP R w W' → Reads W' (.slice ba bs.length bc) bs) (hbl : bs.length ≤ 140737488351232) :
    Calls Tryz.prog 40 #[.pointer (some ⟨q, 0, none⟩), .string s, .slice ba bs.length bc] w fun e w' => e = .returned (.int .i64 (a.append s bs).1) ∧ RDone DX R w q (a.append s bs).2 w' := by
  have hb := rbegin_any h hR F
  unfold RefP.append
  by_cases h0 : a.begin.1 = 0
  · rw [RefP.begin_ok h0, h0] at hb
    rw [if_pos h0]
    have hdead : a.died = false := by
      cases e : a.died with
      | false => rfl
      | true => unfold RefP.begin at h0; rw [if_pos e] at h0; cases h0
    clear h0 h
    obtain ⟨bl, hbl2⟩ : ∃ bl, bl = bs.length := ⟨_, rfl⟩
    rw [← hbl2] at hbl hB ⊢
    cases hlk : a.dir.look s.data.toList with
    | none =>
      dsimp only
      replace hlk := Lib.hid (show ptrN (a.dir.look s.data.toList) = -1 by rw [hlk]; rfl)
      replace hB := Lib.hid hB
      replace hbl2 := Lib.hid hbl2
      go_enter Tryz.func40, Tryz.ntmps40
      go_wp2_with first | (go_at_call 74; refine hb.mono ?_; clear hb; rintro e w1 ⟨rfl, h1⟩; have H1 := Lib.hid (RAny.of h1); clear h1; have hno := H1.out.node s (by show a.dir.length ≤ _; omega); rw [hlk.out] at hno) | (go_at_call 52; refine hno.mono ?_; clear hno; rintro e w2 ⟨rfl, g2⟩; have H2 := Lib.hid (H1.out.new g2); clear H1 g2)
      go_ret
      exact ⟨rfl, H2.out.done⟩
    | some jn =>
      dsimp only
      have hj0 : ((jn : Int) < 0) = False := by simp
      have hjl := hdl _ _ hlk
      replace hlk := Lib.hid (show ptrN (a.dir.look s.data.toList) = (jn : Int) by rw [hlk]; rfl)
      obtain ⟨n, hfn⟩ : ∃ n, n = a.file jn := ⟨_, rfl⟩
      have hnm : n ∈ a.nodes := by rw [hfn]; exact RefP.file_mem hjl
      have hna : a.nodes[jn]? = some n := by rw [hfn]; exact RefP.file_at hjl
      have hdb := hbig n hnm
      have hcs : n.chg.length ≤ 2199023255552 := by have := chgSum_set [] a.nodes jn n hna; omega
      rw [← hfn]
      obtain ⟨nl, hnl⟩ : ∃ nl, nl = a.nodes.length := ⟨_, rfl⟩
      have hjz : (jn : Int) < (nl : Int) := by omega
      obtain ⟨dl, hdl2⟩ : ∃ dl, dl = n.data.length := ⟨_, rfl⟩
      rw [← hdl2] at hdb ⊢
      have hUS : Hid (∀ (W : World), RAny DX R w q { a with count := a.count + 1 } W → Calls Tryz.prog 49 #[.pointer (some ⟨q, 0, none⟩)] W fun e w' => e = .returned (.int .i64 ((a.used : Nat) : Int)) ∧ W.grownBy w' none) := Lib.hid fun W hW => by
        have hff : ∀ x ∈ RefP.files { a with count := a.count + 1 }, x.2.length ≤ 268435456 := fun x hx => by
          unfold RefP.files at hx
          rw [if_neg (by show ¬ a.died = true; rw [hdead]; simp)] at hx
          obtain ⟨y, hy, rfl⟩ := List.mem_map.1 hx
          exact hbig _ (RefP.file_mem (a := a) (hdl _ _ (DirL.sorted_look _ y hy)))
        have := hW.used (F.counted hc9) hdir hdl hff
        rw [← RefP.used_files (a := { a with count := a.count + 1 }) hdead] at this
        exact this
      have husb : a.used ≤ 17592186044416 := by
        have h1 := sum_bound (fun x : List UInt8 × Nat => (a.file x.2).data.length) 268435456 a.dir.sorted (fun y hy => hbig _ (RefP.file_mem (hdl _ _ (DirL.sorted_look _ y hy))))
        rw [DirL.sorted_length] at h1
        unfold RefP.used
        omega
      replace hdead := Lib.hid hdead
      replace hnl := Lib.hid hnl
      replace hdl := Lib.hid hdl2
      clear hdl2
      replace hfn := Lib.hid hfn
      replace hjl := Lib.hid hjl
      replace hnm := Lib.hid hnm
      replace hna := Lib.hid hna
      replace hB := Lib.hid hB
      replace hbl2 := Lib.hid hbl2
      replace hcs := Lib.hid hcs
      have FC := Lib.hid (F.counted hc9)
      clear F hR hbig hsm hc9
      by_cases k1 : 268435456 < bl + dl
      · rw [if_pos k1]
        go_enter Tryz.func40, Tryz.ntmps40
        go_wp2_with first | (go_at_call 74; refine hb.mono ?_; clear hb; rintro e w1 ⟨rfl, h1⟩; have H1 := Lib.hid (RAny.of h1); clear h1; have hno := H1.out.node s (by show a.dir.length ≤ _; omega); rw [hlk.out] at hno) | (go_at_call 52; refine hno.mono ?_; clear hno; rintro e w2 ⟨rfl, g2⟩; have H2 := Lib.hid (H1.out.new g2); clear H1 g2; obtain ⟨gn, nvc, sv, cv, e7, e0, e1, hda⟩ := H2.out.data FC.out hjl.out; rw [show RefP.file { a with count := a.count + 1 } jn = n from hfn.out.symm] at hda; rw [show ({ a with count := a.count + 1 } : RefP).nodes.length = nl from hnl.out.symm] at e7) | (go_at_call 53; refine hda.mono ?_; clear hda; rintro e w3 ⟨x3, c3, rfl, o3, g3⟩; rw [← hdl.out]; have H3 := Lib.hid (H2.out.new g3); clear H2 g3 o3 e7 e0 e1)
        go_ret
        exact ⟨rfl, H3.out.done⟩
      · rw [if_neg k1]
        obtain ⟨bb, hbb⟩ : ∃ bb, bb = a.pl.full.contains (a.count + 1) := ⟨_, rfl⟩
        rw [← hbb]
        obtain ⟨rm, hrm⟩ : ∃ rm, rm = a.pl.room := ⟨_, rfl⟩
        rw [← hrm]
        obtain ⟨us, hus⟩ : ∃ us, us = a.used := ⟨_, rfl⟩
        rw [← hus] at husb hUS ⊢
        replace hbb := Lib.hid hbb
        replace hrm := Lib.hid hrm
        replace hus := Lib.hid hus
        have k1b : bl + dl ≤ 268435456 := by omega
        clear k1
        cases bb
        · rw [if_neg (by simp)]
          by_cases k2 : bl = 0
          · rw [if_neg (by omega), if_pos (List.eq_nil_of_length_eq_zero (by rw [← hbl2.out]; exact k2))]
            obtain rfl := k2
            go_enter Tryz.func40, Tryz.ntmps40
            go_upto_region 10 with first | (go_at_call 74; refine hb.mono ?_; clear hb; rintro e w1 ⟨rfl, h1⟩; have H1 := Lib.hid (RAny.of h1); clear h1; have hno := H1.out.node s (by show a.dir.length ≤ _; omega); rw [hlk.out] at hno) | (go_at_call 52; refine hno.mono ?_; clear hno; rintro e w2 ⟨rfl, g2⟩; have H2 := Lib.hid (H1.out.new g2); clear H1 g2; obtain ⟨gn, nvc, sv, cv, e7, e0, e1, hda⟩ := H2.out.data FC.out hjl.out; rw [show RefP.file { a with count := a.count + 1 } jn = n from hfn.out.symm] at hda; rw [show ({ a with count := a.count + 1 } : RefP).nodes.length = nl from hnl.out.symm] at e7) | (go_at_call 53; refine hda.mono ?_; clear hda; rintro e w3 ⟨x3, c3, rfl, o3, g3⟩; rw [← hdl.out]; have H3 := Lib.hid (H2.out.new g3); clear H2 g3 o3 e7 e0 e1)
            have HD := Lib.hid (H3.out.new (gdrew (World.grownBy.refl w3 none)))
            have e4 := HD.out.room
            have hfu := HD.out.full
            rw [show ({ a with count := a.count + 1 } : RefP).pl.full.contains ({ a with count := a.count + 1 } : RefP).count = false from hbb.out.symm] at hfu
            rw [show ({ a with count := a.count + 1 } : RefP).pl.room = rm from hrm.out.symm] at e4
            refine wp_region_held_drew (S := fun V => V.cell? ⟨q, 4, none⟩ = some (.int .i64 rm)) (by kernel_rfl) e4 (fun hS0 => ?_)
            refine wpAnyH_take (i := 0) (oi := ⟨some 34, _, _, _, _, _⟩) (v := ?_) rfl (by kernel_rfl) (by kernel_rfl) (by kernel_rfl) (fun _ _ _ h => h) (Or.inl ⟨by rfl, ?_⟩) (by assumption) ?_
            rotate_left
            · (intro w hSw; (try dsimp only at hSw); go_simp; try with_reducible rfl)
            try simp only [Act.put, List.setIfInBounds_toArray, List.set_cons_zero, List.set_cons_succ]
            refine wpAnyH_ready (rs := [1]) (by kernel_rfl) (by simp) ?_
            refine AllReadyH.cons rfl (fun K hK => ?_) AllReadyH.nil
            go_simp
            refine hfu.mono ?_
            clear hfu
            rintro e w4 ⟨rfl, g4⟩
            have H4 := Lib.hid (HD.out.new g4)
            refine hK.out _ _ (g4.cell e4 (by simp)) (fun _ => ?_)
            clear hK
            refine wpAnyH_take (i := 2) (oi := ⟨some 36, _, _, _, _, _⟩) (v := ?_) rfl (by kernel_rfl) (by kernel_rfl) (by kernel_rfl) (fun _ _ _ h => h) (Or.inl ⟨by rfl, ?_⟩) (by assumption) ?_
            rotate_left
            · (intro w hSw; (try dsimp only at hSw); go_simp; try with_reducible rfl)
            try simp only [Act.put, List.setIfInBounds_toArray, List.set_cons_zero, List.set_cons_succ]
            refine wpAnyH_take (i := 3) (oi := ⟨some 37, _, _, _, _, _⟩) (v := ?_) rfl (by kernel_rfl) (by kernel_rfl) (by kernel_rfl) (fun _ _ _ h => h) (Or.inl ⟨by rfl, ?_⟩) (by assumption) ?_
            rotate_left
            · (intro w hSw; (try dsimp only at hSw); go_simp; try with_reducible rfl)
            try simp only [Act.put, List.setIfInBounds_toArray, List.set_cons_zero, List.set_cons_succ]
            refine wpAnyH_take (i := 4) (oi := ⟨some 38, _, _, _, _, _⟩) (v := ?_) rfl (by kernel_rfl) (by kernel_rfl) (by kernel_rfl) (fun _ _ _ h => h) (Or.inl ⟨by rfl, ?_⟩) (by assumption) ?_
            rotate_left
            · (intro w hSw; (try dsimp only at hSw); go_simp; try with_reducible rfl)
            try simp only [Act.put, List.setIfInBounds_toArray, List.set_cons_zero, List.set_cons_succ]
            refine wpAnyH_take (i := 5) (oi := ⟨some 39, _, _, _, _, _⟩) (v := ?_) rfl (by kernel_rfl) (by kernel_rfl) (by kernel_rfl) (fun _ _ _ h => h) (Or.inl ⟨by rfl, ?_⟩) (by assumption) ?_
            rotate_left
            · (intro w hSw; (try dsimp only at hSw); go_simp; try with_reducible rfl)
            try simp only [Act.put, List.setIfInBounds_toArray, List.set_cons_zero, List.set_cons_succ]
            refine wpAnyH_take (i := 6) (oi := ⟨some 40, _, _, _, _, _⟩) (v := ?_) rfl (by kernel_rfl) (by kernel_rfl) (by kernel_rfl) (fun _ _ _ h => h) (Or.inl ⟨by rfl, ?_⟩) (by assumption) ?_
            rotate_left
            · (intro w hSw; (try dsimp only at hSw); go_simp; try with_reducible rfl)
            try simp only [Act.put, List.setIfInBounds_toArray, List.set_cons_zero, List.set_cons_succ]
            refine wpAnyH_take (i := 7) (oi := ⟨some 41, _, _, _, _, _⟩) (v := undef) rfl (by kernel_rfl) (by kernel_rfl) (by kernel_rfl) (fun _ _ _ h => h) (Or.inr ⟨by rfl, rfl⟩) (by assumption) ?_
            try simp only [Act.put, List.setIfInBounds_toArray, List.set_cons_zero, List.set_cons_succ]
            refine wpAnyH_take (i := 8) (oi := ⟨some 42, _, _, _, _, _⟩) (v := undef) rfl (by kernel_rfl) (by kernel_rfl) (by kernel_rfl) (fun _ _ _ h => h) (Or.inr ⟨by rfl, rfl⟩) (by assumption) ?_
            try simp only [Act.put, List.setIfInBounds_toArray, List.set_cons_zero, List.set_cons_succ]
            refine wpAnyH_take (i := 9) (oi := ⟨some 43, _, _, _, _, _⟩) (v := undef) rfl (by kernel_rfl) (by kernel_rfl) (by kernel_rfl) (fun _ _ _ h => h) (Or.inr ⟨by rfl, rfl⟩) (by assumption) ?_
            try simp only [Act.put, List.setIfInBounds_toArray, List.set_cons_zero, List.set_cons_succ]
            refine wpAnyH_take (i := 10) (oi := ⟨some 44, _, _, _, _, _⟩) (v := undef) rfl (by kernel_rfl) (by kernel_rfl) (by kernel_rfl) (fun _ _ _ h => h) (Or.inr ⟨by rfl, rfl⟩) (by assumption) ?_
            try simp only [Act.put, List.setIfInBounds_toArray, List.set_cons_zero, List.set_cons_succ]
            refine wpAnyH_take (i := 11) (oi := ⟨some 45, _, _, _, _, _⟩) (v := undef) rfl (by kernel_rfl) (by kernel_rfl) (by kernel_rfl) (fun _ _ _ h => h) (Or.inr ⟨by rfl, rfl⟩) (by assumption) ?_
            try simp only [Act.put, List.setIfInBounds_toArray, List.set_cons_zero, List.set_cons_succ]
            refine wpAnyH_take (i := 12) (oi := ⟨some 46, _, _, _, _, _⟩) (v := undef) rfl (by kernel_rfl) (by kernel_rfl) (by kernel_rfl) (fun _ _ _ h => h) (Or.inr ⟨by rfl, rfl⟩) (by assumption) ?_
            try simp only [Act.put, List.setIfInBounds_toArray, List.set_cons_zero, List.set_cons_succ]
            refine wpAnyH_take (i := 13) (oi := ⟨some 47, _, _, _, _, _⟩) (v := ?_) rfl (by kernel_rfl) (by kernel_rfl) (by kernel_rfl) (fun _ _ _ h => h) (Or.inl ⟨by rfl, ?_⟩) (by assumption) ?_
            rotate_left
            · (intro w hSw; (try dsimp only at hSw); go_simp; try with_reducible rfl)
            try simp only [Act.put, List.setIfInBounds_toArray, List.set_cons_zero, List.set_cons_succ]
            refine wpAnyH_take (i := 14) (oi := ⟨some 48, _, _, _, _, _⟩) (v := ?_) rfl (by kernel_rfl) (by kernel_rfl) (by kernel_rfl) (fun _ _ _ h => h) (Or.inl ⟨by rfl, ?_⟩) (by assumption) ?_
            rotate_left
            · (intro w hSw; (try dsimp only at hSw); go_simp; try with_reducible rfl)
            try simp only [Act.put, List.setIfInBounds_toArray, List.set_cons_zero, List.set_cons_succ]
            refine wpAnyH_take (i := 15) (oi := ⟨some 49, _, _, _, _, _⟩) (v := undef) rfl (by kernel_rfl) (by kernel_rfl) (by kernel_rfl) (fun _ _ _ h => h) (Or.inr ⟨by rfl, rfl⟩) (by assumption) ?_
            try simp only [Act.put, List.setIfInBounds_toArray, List.set_cons_zero, List.set_cons_succ]
            refine wpAnyH_take (i := 16) (oi := ⟨some 50, _, _, _, _, _⟩) (v := undef) rfl (by kernel_rfl) (by kernel_rfl) (by kernel_rfl) (fun _ _ _ h => h) (Or.inr ⟨by rfl, rfl⟩) (by assumption) ?_
            try simp only [Act.put, List.setIfInBounds_toArray, List.set_cons_zero, List.set_cons_succ]
            refine wpAnyH_take (i := 17) (oi := ⟨some 51, _, _, _, _, _⟩) (v := undef) rfl (by kernel_rfl) (by kernel_rfl) (by kernel_rfl) (fun _ _ _ h => h) (Or.inr ⟨by rfl, rfl⟩) (by assumption) ?_
            try simp only [Act.put, List.setIfInBounds_toArray, List.set_cons_zero, List.set_cons_succ]
            refine wpAnyH_take (i := 18) (oi := ⟨some 52, _, _, _, _, _⟩) (v := undef) rfl (by kernel_rfl) (by kernel_rfl) (by kernel_rfl) (fun _ _ _ h => h) (Or.inr ⟨by rfl, rfl⟩) (by assumption) ?_
            try simp only [Act.put, List.setIfInBounds_toArray, List.set_cons_zero, List.set_cons_succ]
            refine wpAnyH_take (i := 19) (oi := ⟨some 53, _, _, _, _, _⟩) (v := undef) rfl (by kernel_rfl) (by kernel_rfl) (by kernel_rfl) (fun _ _ _ h => h) (Or.inr ⟨by rfl, rfl⟩) (by assumption) ?_
            try simp only [Act.put, List.setIfInBounds_toArray, List.set_cons_zero, List.set_cons_succ]
            refine wpAnyH_take (i := 20) (oi := ⟨some 54, _, _, _, _, _⟩) (v := undef) rfl (by kernel_rfl) (by kernel_rfl) (by kernel_rfl) (fun _ _ _ h => h) (Or.inr ⟨by rfl, rfl⟩) (by assumption) ?_
            try simp only [Act.put, List.setIfInBounds_toArray, List.set_cons_zero, List.set_cons_succ]
            refine wpAnyH_take (i := 21) (oi := ⟨some 55, _, _, _, _, _⟩) (v := undef) rfl (by kernel_rfl) (by kernel_rfl) (by kernel_rfl) (fun _ _ _ h => h) (Or.inr ⟨by rfl, rfl⟩) (by assumption) ?_
            try simp only [Act.put, List.setIfInBounds_toArray, List.set_cons_zero, List.set_cons_succ]
            refine wpAnyH_take (i := 22) (oi := ⟨some 56, _, _, _, _, _⟩) (v := undef) rfl (by kernel_rfl) (by kernel_rfl) (by kernel_rfl) (fun _ _ _ h => h) (Or.inr ⟨by rfl, rfl⟩) (by assumption) ?_
            try simp only [Act.put, List.setIfInBounds_toArray, List.set_cons_zero, List.set_cons_succ]
            refine wpAnyH_take (i := 23) (oi := ⟨some 57, _, _, _, _, _⟩) (v := undef) rfl (by kernel_rfl) (by kernel_rfl) (by kernel_rfl) (fun _ _ _ h => h) (Or.inr ⟨by rfl, rfl⟩) (by assumption) ?_
            try simp only [Act.put, List.setIfInBounds_toArray, List.set_cons_zero, List.set_cons_succ]
            refine wpAnyH_take (i := 24) (oi := ⟨some 58, _, _, _, _, _⟩) (v := undef) rfl (by kernel_rfl) (by kernel_rfl) (by kernel_rfl) (fun _ _ _ h => h) (Or.inr ⟨by rfl, rfl⟩) (by assumption) ?_
            try simp only [Act.put, List.setIfInBounds_toArray, List.set_cons_zero, List.set_cons_succ]
            refine wpAnyH_take (i := 25) (oi := ⟨some 59, _, _, _, _, _⟩) (v := undef) rfl (by kernel_rfl) (by kernel_rfl) (by kernel_rfl) (fun _ _ _ h => h) (Or.inr ⟨by rfl, rfl⟩) (by assumption) ?_
            try simp only [Act.put, List.setIfInBounds_toArray, List.set_cons_zero, List.set_cons_succ]
            refine wpAnyH_take (i := 26) (oi := ⟨some 60, _, _, _, _, _⟩) (v := ?_) rfl (by kernel_rfl) (by kernel_rfl) (by kernel_rfl) (fun _ _ _ h => h) (Or.inl ⟨by rfl, ?_⟩) (by assumption) ?_
            rotate_left
            · (intro w hSw; (try dsimp only at hSw); go_simp; try with_reducible rfl)
            try simp only [Act.put, List.setIfInBounds_toArray, List.set_cons_zero, List.set_cons_succ]
            refine wpAnyH_take (i := 27) (oi := ⟨some 61, _, _, _, _, _⟩) (v := ?_) rfl (by kernel_rfl) (by kernel_rfl) (by kernel_rfl) (fun _ _ _ h => h) (Or.inl ⟨by rfl, ?_⟩) (by assumption) ?_
            rotate_left
            · (intro w hSw; (try dsimp only at hSw); go_simp; try with_reducible rfl)
            try simp only [Act.put, List.setIfInBounds_toArray, List.set_cons_zero, List.set_cons_succ]
            refine wpAnyH_done (by kernel_rfl) ?_ _
            go_wp2_with fail
            go_ret
            exact ⟨rfl, H4.out.done⟩
          · -- APPENDS (printed by wip/tools/fs-app.py)
            have k2b : decide (0 < bl) = true := by simp; omega
            have hne : bs ≠ [] := fun e => k2 (by rw [hbl2.out, e]; rfl)
            by_cases k3 : 0 < rm
            · by_cases k4 : rm < ((us + bl : Nat) : Int)
              · rw [if_pos ⟨by omega, k3, k4⟩]
                have k3b : decide (0 < rm) = true := by simpa using k3
                have k1c : (bl : Int) ≤ 268435456 - (dl : Int) := by omega
                have k4b : decide (rm < (us : Int) + (bl : Int)) = true := by simp; omega
                have hwk : IntKind.i64.wrap ((us : Int) + (bl : Int)) = (us : Int) + (bl : Int) := IntWalk.i64_in _ (by omega)
                go_enter Tryz.func40, Tryz.ntmps40
                go_upto_region 10 with first | (go_at_call 74; refine hb.mono ?_; clear hb; rintro e w1 ⟨rfl, h1⟩; have H1 := Lib.hid (RAny.of h1); clear h1; have hno := H1.out.node s (by show a.dir.length ≤ _; omega); rw [hlk.out] at hno) | (go_at_call 52; refine hno.mono ?_; clear hno; rintro e w2 ⟨rfl, g2⟩; have H2 := Lib.hid (H1.out.new g2); clear H1 g2; obtain ⟨gn, nvc, sv, cv, e7, e0, e1, hda⟩ := H2.out.data FC.out hjl.out; rw [show RefP.file { a with count := a.count + 1 } jn = n from hfn.out.symm] at hda; rw [show ({ a with count := a.count + 1 } : RefP).nodes.length = nl from hnl.out.symm] at e7) | (go_at_call 53; refine hda.mono ?_; clear hda; rintro e w3 ⟨x3, c3, rfl, o3, g3⟩; rw [← hdl.out]; have H3 := Lib.hid (H2.out.new g3); clear H2 g3 o3 e7 e0 e1)
                have HD := Lib.hid (H3.out.new (gdrew (World.grownBy.refl w3 none)))
                have e4 := HD.out.room
                have hfu := HD.out.full
                rw [show ({ a with count := a.count + 1 } : RefP).pl.full.contains ({ a with count := a.count + 1 } : RefP).count = false from hbb.out.symm] at hfu
                rw [show ({ a with count := a.count + 1 } : RefP).pl.room = rm from hrm.out.symm] at e4
                refine wp_region_held_drew (S := fun V => V.cell? ⟨q, 4, none⟩ = some (.int .i64 rm)) (by kernel_rfl) e4 (fun hS0 => ?_)
                refine wpAnyH_take (i := 0) (oi := ⟨some 34, _, _, _, _, _⟩) (v := ?_) rfl (by kernel_rfl) (by kernel_rfl) (by kernel_rfl) (fun _ _ _ h => h) (Or.inl ⟨by rfl, ?_⟩) (by assumption) ?_
                rotate_left
                · (intro w hSw; (try dsimp only at hSw); go_simp; try with_reducible rfl)
                try simp only [Act.put, List.setIfInBounds_toArray, List.set_cons_zero, List.set_cons_succ]
                refine wpAnyH_ready (rs := [1]) (by kernel_rfl) (by simp) ?_
                refine AllReadyH.cons rfl (fun K hK => ?_) AllReadyH.nil
                go_simp
                refine hfu.mono ?_
                clear hfu
                rintro e w4 ⟨rfl, g4⟩
                have H4 := Lib.hid (HD.out.new g4)
                have e4b := g4.cell e4 (by simp)
                refine hK.out _ _ e4b (fun _ => ?_)
                clear hK
                refine wpAnyH_take (i := 2) (oi := ⟨some 36, _, _, _, _, _⟩) (v := ?_) rfl (by kernel_rfl) (by kernel_rfl) (by kernel_rfl) (fun _ _ _ h => h) (Or.inl ⟨by rfl, ?_⟩) (by assumption) ?_
                rotate_left
                · (intro w hSw; (try dsimp only at hSw); go_simp; try with_reducible rfl)
                try simp only [Act.put, List.setIfInBounds_toArray, List.set_cons_zero, List.set_cons_succ]
                refine wpAnyH_take (i := 3) (oi := ⟨some 37, _, _, _, _, _⟩) (v := ?_) rfl (by kernel_rfl) (by kernel_rfl) (by kernel_rfl) (fun _ _ _ h => h) (Or.inl ⟨by rfl, ?_⟩) (by assumption) ?_
                rotate_left
                · (intro w hSw; (try dsimp only at hSw); go_simp; try with_reducible rfl)
                try simp only [Act.put, List.setIfInBounds_toArray, List.set_cons_zero, List.set_cons_succ]
                refine wpAnyH_take (i := 4) (oi := ⟨some 38, _, _, _, _, _⟩) (v := ?_) rfl (by kernel_rfl) (by kernel_rfl) (by kernel_rfl) (fun _ _ _ h => h) (Or.inl ⟨by rfl, ?_⟩) (by assumption) ?_
                rotate_left
                · (intro w hSw; (try dsimp only at hSw); go_simp; try with_reducible rfl)
                try simp only [Act.put, List.setIfInBounds_toArray, List.set_cons_zero, List.set_cons_succ]
                refine wpAnyH_take (i := 5) (oi := ⟨some 39, _, _, _, _, _⟩) (v := ?_) rfl (by kernel_rfl) (by kernel_rfl) (by kernel_rfl) (fun _ _ _ h => h) (Or.inl ⟨by rfl, ?_⟩) (by assumption) ?_
                rotate_left
                · (intro w hSw; (try dsimp only at hSw); go_simp; try with_reducible rfl)
                try simp only [Act.put, List.setIfInBounds_toArray, List.set_cons_zero, List.set_cons_succ]
                refine wpAnyH_take (i := 6) (oi := ⟨some 40, _, _, _, _, _⟩) (v := ?_) rfl (by kernel_rfl) (by kernel_rfl) (by kernel_rfl) (fun _ _ _ h => h) (Or.inl ⟨by rfl, ?_⟩) (by assumption) ?_
                rotate_left
                · (intro w hSw; (try dsimp only at hSw); go_simp; try with_reducible rfl)
                try simp only [Act.put, List.setIfInBounds_toArray, List.set_cons_zero, List.set_cons_succ]
                refine wpAnyH_take (i := 7) (oi := ⟨some 41, _, _, _, _, _⟩) (v := ?_) rfl (by kernel_rfl) (by kernel_rfl) (by kernel_rfl) (fun _ _ _ h => h) (Or.inl ⟨by rfl, ?_⟩) (by assumption) ?_
                rotate_left
                · (intro w hSw; (try dsimp only at hSw); go_simp; try with_reducible rfl)
                try simp only [Act.put, List.setIfInBounds_toArray, List.set_cons_zero, List.set_cons_succ]
                refine wpAnyH_take (i := 8) (oi := ⟨some 42, _, _, _, _, _⟩) (v := ?_) rfl (by kernel_rfl) (by kernel_rfl) (by kernel_rfl) (fun _ _ _ h => h) (Or.inl ⟨by rfl, ?_⟩) (by assumption) ?_
                rotate_left
                · (intro w hSw; (try dsimp only at hSw); go_simp; try with_reducible rfl)
                try simp only [Act.put, List.setIfInBounds_toArray, List.set_cons_zero, List.set_cons_succ]
                refine wpAnyH_take (i := 9) (oi := ⟨some 43, _, _, _, _, _⟩) (v := ?_) rfl (by kernel_rfl) (by kernel_rfl) (by kernel_rfl) (fun _ _ _ h => h) (Or.inl ⟨by rfl, ?_⟩) (by assumption) ?_
                rotate_left
                · (intro w hSw; (try dsimp only at hSw); go_simp; try with_reducible rfl)
                try simp only [Act.put, List.setIfInBounds_toArray, List.set_cons_zero, List.set_cons_succ]
                refine wpAnyH_take (i := 10) (oi := ⟨some 44, _, _, _, _, _⟩) (v := ?_) rfl (by kernel_rfl) (by kernel_rfl) (by kernel_rfl) (fun _ _ _ h => h) (Or.inl ⟨by rfl, ?_⟩) (by assumption) ?_
                rotate_left
                · (intro w hSw; (try dsimp only at hSw); go_simp; try with_reducible rfl)
                try simp only [Act.put, List.setIfInBounds_toArray, List.set_cons_zero, List.set_cons_succ]
                refine wpAnyH_take (i := 11) (oi := ⟨some 45, _, _, _, _, _⟩) (v := ?_) rfl (by kernel_rfl) (by kernel_rfl) (by kernel_rfl) (fun _ _ _ h => h) (Or.inl ⟨by rfl, ?_⟩) (by assumption) ?_
                rotate_left
                · (intro w hSw; (try dsimp only at hSw); go_simp; try with_reducible rfl)
                try simp only [Act.put, List.setIfInBounds_toArray, List.set_cons_zero, List.set_cons_succ]
                refine wpAnyH_take (i := 12) (oi := ⟨some 46, _, _, _, _, _⟩) (v := ?_) rfl (by kernel_rfl) (by kernel_rfl) (by kernel_rfl) (fun _ _ _ h => h) (Or.inl ⟨by rfl, ?_⟩) (by assumption) ?_
                rotate_left
                · (intro w hSw; (try dsimp only at hSw); go_simp; try with_reducible rfl)
                try simp only [Act.put, List.setIfInBounds_toArray, List.set_cons_zero, List.set_cons_succ]
                refine wpAnyH_take (i := 13) (oi := ⟨some 47, _, _, _, _, _⟩) (v := ?_) rfl (by kernel_rfl) (by kernel_rfl) (by kernel_rfl) (fun _ _ _ h => h) (Or.inl ⟨by rfl, ?_⟩) (by assumption) ?_
                rotate_left
                · (intro w hSw; (try dsimp only at hSw); go_simp; try with_reducible rfl)
                try simp only [Act.put, List.setIfInBounds_toArray, List.set_cons_zero, List.set_cons_succ]
                refine wpAnyH_take (i := 14) (oi := ⟨some 48, _, _, _, _, _⟩) (v := ?_) rfl (by kernel_rfl) (by kernel_rfl) (by kernel_rfl) (fun _ _ _ h => h) (Or.inl ⟨by rfl, ?_⟩) (by assumption) ?_
                rotate_left
                · (intro w hSw; (try dsimp only at hSw); go_simp; try with_reducible rfl)
                try simp only [Act.put, List.setIfInBounds_toArray, List.set_cons_zero, List.set_cons_succ]
                refine wpAnyH_take (i := 15) (oi := ⟨some 49, _, _, _, _, _⟩) (v := ?_) rfl (by kernel_rfl) (by kernel_rfl) (by kernel_rfl) (fun _ _ _ h => h) (Or.inl ⟨by rfl, ?_⟩) (by assumption) ?_
                rotate_left
                · (intro w hSw; (try dsimp only at hSw); go_simp; try with_reducible rfl)
                try simp only [Act.put, List.setIfInBounds_toArray, List.set_cons_zero, List.set_cons_succ]
                refine wpAnyH_take (i := 17) (oi := ⟨some 51, _, _, _, _, _⟩) (v := ?_) rfl (by kernel_rfl) (by kernel_rfl) (by kernel_rfl) (fun _ _ _ h => h) (Or.inl ⟨by rfl, ?_⟩) (by assumption) ?_
                rotate_left
                · (intro w hSw; (try dsimp only at hSw); go_simp; try with_reducible rfl)
                try simp only [Act.put, List.setIfInBounds_toArray, List.set_cons_zero, List.set_cons_succ]
                refine wpAnyH_take (i := 18) (oi := ⟨some 52, _, _, _, _, _⟩) (v := ?_) rfl (by kernel_rfl) (by kernel_rfl) (by kernel_rfl) (fun _ _ _ h => h) (Or.inl ⟨by rfl, ?_⟩) (by assumption) ?_
                rotate_left
                · (intro w hSw; (try dsimp only at hSw); go_simp; try with_reducible rfl)
                try simp only [Act.put, List.setIfInBounds_toArray, List.set_cons_zero, List.set_cons_succ]
                refine wpAnyH_take (i := 20) (oi := ⟨some 54, _, _, _, _, _⟩) (v := ?_) rfl (by kernel_rfl) (by kernel_rfl) (by kernel_rfl) (fun _ _ _ h => h) (Or.inl ⟨by rfl, ?_⟩) (by assumption) ?_
                rotate_left
                · (intro w hSw; (try dsimp only at hSw); go_simp; try with_reducible rfl)
                try simp only [Act.put, List.setIfInBounds_toArray, List.set_cons_zero, List.set_cons_succ]
                refine wpAnyH_take (i := 21) (oi := ⟨some 55, _, _, _, _, _⟩) (v := ?_) rfl (by kernel_rfl) (by kernel_rfl) (by kernel_rfl) (fun _ _ _ h => h) (Or.inl ⟨by rfl, ?_⟩) (by assumption) ?_
                rotate_left
                · (intro w hSw; (try dsimp only at hSw); go_simp; try with_reducible rfl)
                try simp only [Act.put, List.setIfInBounds_toArray, List.set_cons_zero, List.set_cons_succ]
                refine wpAnyH_take (i := 22) (oi := ⟨some 56, _, _, _, _, _⟩) (v := ?_) rfl (by kernel_rfl) (by kernel_rfl) (by kernel_rfl) (fun _ _ _ h => h) (Or.inl ⟨by rfl, ?_⟩) (by assumption) ?_
                rotate_left
                · (intro w hSw; (try dsimp only at hSw); go_simp; try with_reducible rfl)
                try simp only [Act.put, List.setIfInBounds_toArray, List.set_cons_zero, List.set_cons_succ]
                refine wpAnyH_take (i := 23) (oi := ⟨some 57, _, _, _, _, _⟩) (v := ?_) rfl (by kernel_rfl) (by kernel_rfl) (by kernel_rfl) (fun _ _ _ h => h) (Or.inl ⟨by rfl, ?_⟩) (by assumption) ?_
                rotate_left
                · (intro w hSw; (try dsimp only at hSw); go_simp; try with_reducible rfl)
                try simp only [Act.put, List.setIfInBounds_toArray, List.set_cons_zero, List.set_cons_succ]
                refine wpAnyH_take (i := 24) (oi := ⟨some 58, _, _, _, _, _⟩) (v := ?_) rfl (by kernel_rfl) (by kernel_rfl) (by kernel_rfl) (fun _ _ _ h => h) (Or.inl ⟨by rfl, ?_⟩) (by assumption) ?_
                rotate_left
                · (intro w hSw; (try dsimp only at hSw); go_simp; try with_reducible rfl)
                try simp only [Act.put, List.setIfInBounds_toArray, List.set_cons_zero, List.set_cons_succ]
                have huu := hUS.out w4 H4.out
                refine wpAnyH_ready (rs := [16]) (by kernel_rfl) (by simp) ?_
                refine AllReadyH.cons rfl (fun K hK => ?_) AllReadyH.nil
                go_simp
                refine huu.mono ?_
                clear huu
                rintro e w5 ⟨rfl, g5⟩
                have H5 := Lib.hid (H4.out.new g5)
                have e4c := g5.cell e4b (by simp)
                refine hK.out _ _ e4c (fun _ => ?_)
                clear hK
                refine wpAnyH_take (i := 19) (oi := ⟨some 53, _, _, _, _, _⟩) (v := ?_) rfl (by kernel_rfl) (by kernel_rfl) (by kernel_rfl) (fun _ _ _ h => h) (Or.inl ⟨by rfl, ?_⟩) (by assumption) ?_
                rotate_left
                · (intro w hSw; (try dsimp only at hSw); go_simp; try with_reducible rfl)
                try simp only [Act.put, List.setIfInBounds_toArray, List.set_cons_zero, List.set_cons_succ]
                refine wpAnyH_take (i := 25) (oi := ⟨some 59, _, _, _, _, _⟩) (v := ?_) rfl (by kernel_rfl) (by kernel_rfl) (by kernel_rfl) (fun _ _ _ h => h) (Or.inl ⟨by rfl, ?_⟩) (by assumption) ?_
                rotate_left
                · (intro w hSw; (try dsimp only at hSw); go_simp; try with_reducible rfl)
                try simp only [Act.put, List.setIfInBounds_toArray, List.set_cons_zero, List.set_cons_succ]
                refine wpAnyH_take (i := 26) (oi := ⟨some 60, _, _, _, _, _⟩) (v := ?_) rfl (by kernel_rfl) (by kernel_rfl) (by kernel_rfl) (fun _ _ _ h => h) (Or.inl ⟨by rfl, ?_⟩) (by assumption) ?_
                rotate_left
                · (intro w hSw; (try dsimp only at hSw); go_simp; try with_reducible rfl)
                try simp only [Act.put, List.setIfInBounds_toArray, List.set_cons_zero, List.set_cons_succ]
                refine wpAnyH_take (i := 27) (oi := ⟨some 61, _, _, _, _, _⟩) (v := ?_) rfl (by kernel_rfl) (by kernel_rfl) (by kernel_rfl) (fun _ _ _ h => h) (Or.inl ⟨by rfl, ?_⟩) (by assumption) ?_
                rotate_left
                · (intro w hSw; (try dsimp only at hSw); go_simp; try with_reducible rfl)
                try simp only [Act.put, List.setIfInBounds_toArray, List.set_cons_zero, List.set_cons_succ]
                refine wpAnyH_done (by kernel_rfl) ?_ _
                clear H4 HD g4 g5 e4 e4b e4c H3
                go_wp2_with fail
                go_ret
                exact ⟨rfl, H5.out.done⟩
              · rw [if_neg (by omega), if_neg hne]
                have k3b : decide (0 < rm) = true := by simpa using k3
                have k1c : (bl : Int) ≤ 268435456 - (dl : Int) := by omega
                have k4b : decide (rm < (us : Int) + (bl : Int)) = false := by simp; omega
                have hwk : IntKind.i64.wrap ((us : Int) + (bl : Int)) = (us : Int) + (bl : Int) := IntWalk.i64_in _ (by omega)
                go_enter Tryz.func40, Tryz.ntmps40
                go_upto_region 10 with first | (go_at_call 74; refine hb.mono ?_; clear hb; rintro e w1 ⟨rfl, h1⟩; have H1 := Lib.hid (RAny.of h1); clear h1; have hno := H1.out.node s (by show a.dir.length ≤ _; omega); rw [hlk.out] at hno) | (go_at_call 52; refine hno.mono ?_; clear hno; rintro e w2 ⟨rfl, g2⟩; have H2 := Lib.hid (H1.out.new g2); clear H1 g2; obtain ⟨gn, nvc, sv, cv, e7, e0, e1, hda⟩ := H2.out.data FC.out hjl.out; rw [show RefP.file { a with count := a.count + 1 } jn = n from hfn.out.symm] at hda; rw [show ({ a with count := a.count + 1 } : RefP).nodes.length = nl from hnl.out.symm] at e7) | (go_at_call 53; refine hda.mono ?_; clear hda; rintro e w3 ⟨x3, c3, rfl, o3, g3⟩; rw [← hdl.out]; have H3 := Lib.hid (H2.out.new g3); clear H2 g3 o3 e7 e0 e1)
                have HD := Lib.hid (H3.out.new (gdrew (World.grownBy.refl w3 none)))
                have e4 := HD.out.room
                have hfu := HD.out.full
                rw [show ({ a with count := a.count + 1 } : RefP).pl.full.contains ({ a with count := a.count + 1 } : RefP).count = false from hbb.out.symm] at hfu
                rw [show ({ a with count := a.count + 1 } : RefP).pl.room = rm from hrm.out.symm] at e4
                refine wp_region_held_drew (S := fun V => V.cell? ⟨q, 4, none⟩ = some (.int .i64 rm)) (by kernel_rfl) e4 (fun hS0 => ?_)
                refine wpAnyH_take (i := 0) (oi := ⟨some 34, _, _, _, _, _⟩) (v := ?_) rfl (by kernel_rfl) (by kernel_rfl) (by kernel_rfl) (fun _ _ _ h => h) (Or.inl ⟨by rfl, ?_⟩) (by assumption) ?_
                rotate_left
                · (intro w hSw; (try dsimp only at hSw); go_simp; try with_reducible rfl)
                try simp only [Act.put, List.setIfInBounds_toArray, List.set_cons_zero, List.set_cons_succ]
                refine wpAnyH_ready (rs := [1]) (by kernel_rfl) (by simp) ?_
                refine AllReadyH.cons rfl (fun K hK => ?_) AllReadyH.nil
                go_simp
                refine hfu.mono ?_
                clear hfu
                rintro e w4 ⟨rfl, g4⟩
                have H4 := Lib.hid (HD.out.new g4)
                have e4b := g4.cell e4 (by simp)
                refine hK.out _ _ e4b (fun _ => ?_)
                clear hK
                refine wpAnyH_take (i := 2) (oi := ⟨some 36, _, _, _, _, _⟩) (v := ?_) rfl (by kernel_rfl) (by kernel_rfl) (by kernel_rfl) (fun _ _ _ h => h) (Or.inl ⟨by rfl, ?_⟩) (by assumption) ?_
                rotate_left
                · (intro w hSw; (try dsimp only at hSw); go_simp; try with_reducible rfl)
                try simp only [Act.put, List.setIfInBounds_toArray, List.set_cons_zero, List.set_cons_succ]
                refine wpAnyH_take (i := 3) (oi := ⟨some 37, _, _, _, _, _⟩) (v := ?_) rfl (by kernel_rfl) (by kernel_rfl) (by kernel_rfl) (fun _ _ _ h => h) (Or.inl ⟨by rfl, ?_⟩) (by assumption) ?_
                rotate_left
                · (intro w hSw; (try dsimp only at hSw); go_simp; try with_reducible rfl)
                try simp only [Act.put, List.setIfInBounds_toArray, List.set_cons_zero, List.set_cons_succ]
                refine wpAnyH_take (i := 4) (oi := ⟨some 38, _, _, _, _, _⟩) (v := ?_) rfl (by kernel_rfl) (by kernel_rfl) (by kernel_rfl) (fun _ _ _ h => h) (Or.inl ⟨by rfl, ?_⟩) (by assumption) ?_
                rotate_left
                · (intro w hSw; (try dsimp only at hSw); go_simp; try with_reducible rfl)
                try simp only [Act.put, List.setIfInBounds_toArray, List.set_cons_zero, List.set_cons_succ]
                refine wpAnyH_take (i := 5) (oi := ⟨some 39, _, _, _, _, _⟩) (v := ?_) rfl (by kernel_rfl) (by kernel_rfl) (by kernel_rfl) (fun _ _ _ h => h) (Or.inl ⟨by rfl, ?_⟩) (by assumption) ?_
                rotate_left
                · (intro w hSw; (try dsimp only at hSw); go_simp; try with_reducible rfl)
                try simp only [Act.put, List.setIfInBounds_toArray, List.set_cons_zero, List.set_cons_succ]
                refine wpAnyH_take (i := 6) (oi := ⟨some 40, _, _, _, _, _⟩) (v := ?_) rfl (by kernel_rfl) (by kernel_rfl) (by kernel_rfl) (fun _ _ _ h => h) (Or.inl ⟨by rfl, ?_⟩) (by assumption) ?_
                rotate_left
                · (intro w hSw; (try dsimp only at hSw); go_simp; try with_reducible rfl)
                try simp only [Act.put, List.setIfInBounds_toArray, List.set_cons_zero, List.set_cons_succ]
                refine wpAnyH_take (i := 7) (oi := ⟨some 41, _, _, _, _, _⟩) (v := ?_) rfl (by kernel_rfl) (by kernel_rfl) (by kernel_rfl) (fun _ _ _ h => h) (Or.inl ⟨by rfl, ?_⟩) (by assumption) ?_
                rotate_left
                · (intro w hSw; (try dsimp only at hSw); go_simp; try with_reducible rfl)
                try simp only [Act.put, List.setIfInBounds_toArray, List.set_cons_zero, List.set_cons_succ]
                refine wpAnyH_take (i := 8) (oi := ⟨some 42, _, _, _, _, _⟩) (v := ?_) rfl (by kernel_rfl) (by kernel_rfl) (by kernel_rfl) (fun _ _ _ h => h) (Or.inl ⟨by rfl, ?_⟩) (by assumption) ?_
                rotate_left
                · (intro w hSw; (try dsimp only at hSw); go_simp; try with_reducible rfl)
                try simp only [Act.put, List.setIfInBounds_toArray, List.set_cons_zero, List.set_cons_succ]
                refine wpAnyH_take (i := 9) (oi := ⟨some 43, _, _, _, _, _⟩) (v := ?_) rfl (by kernel_rfl) (by kernel_rfl) (by kernel_rfl) (fun _ _ _ h => h) (Or.inl ⟨by rfl, ?_⟩) (by assumption) ?_
                rotate_left
                · (intro w hSw; (try dsimp only at hSw); go_simp; try with_reducible rfl)
                try simp only [Act.put, List.setIfInBounds_toArray, List.set_cons_zero, List.set_cons_succ]
                refine wpAnyH_take (i := 10) (oi := ⟨some 44, _, _, _, _, _⟩) (v := ?_) rfl (by kernel_rfl) (by kernel_rfl) (by kernel_rfl) (fun _ _ _ h => h) (Or.inl ⟨by rfl, ?_⟩) (by assumption) ?_
                rotate_left
                · (intro w hSw; (try dsimp only at hSw); go_simp; try with_reducible rfl)
                try simp only [Act.put, List.setIfInBounds_toArray, List.set_cons_zero, List.set_cons_succ]
                refine wpAnyH_take (i := 11) (oi := ⟨some 45, _, _, _, _, _⟩) (v := ?_) rfl (by kernel_rfl) (by kernel_rfl) (by kernel_rfl) (fun _ _ _ h => h) (Or.inl ⟨by rfl, ?_⟩) (by assumption) ?_
                rotate_left
                · (intro w hSw; (try dsimp only at hSw); go_simp; try with_reducible rfl)
                try simp only [Act.put, List.setIfInBounds_toArray, List.set_cons_zero, List.set_cons_succ]
                refine wpAnyH_take (i := 12) (oi := ⟨some 46, _, _, _, _, _⟩) (v := ?_) rfl (by kernel_rfl) (by kernel_rfl) (by kernel_rfl) (fun _ _ _ h => h) (Or.inl ⟨by rfl, ?_⟩) (by assumption) ?_
                rotate_left
                · (intro w hSw; (try dsimp only at hSw); go_simp; try with_reducible rfl)
                try simp only [Act.put, List.setIfInBounds_toArray, List.set_cons_zero, List.set_cons_succ]
                refine wpAnyH_take (i := 13) (oi := ⟨some 47, _, _, _, _, _⟩) (v := ?_) rfl (by kernel_rfl) (by kernel_rfl) (by kernel_rfl) (fun _ _ _ h => h) (Or.inl ⟨by rfl, ?_⟩) (by assumption) ?_
                rotate_left
                · (intro w hSw; (try dsimp only at hSw); go_simp; try with_reducible rfl)
                try simp only [Act.put, List.setIfInBounds_toArray, List.set_cons_zero, List.set_cons_succ]
                refine wpAnyH_take (i := 14) (oi := ⟨some 48, _, _, _, _, _⟩) (v := ?_) rfl (by kernel_rfl) (by kernel_rfl) (by kernel_rfl) (fun _ _ _ h => h) (Or.inl ⟨by rfl, ?_⟩) (by assumption) ?_
                rotate_left
                · (intro w hSw; (try dsimp only at hSw); go_simp; try with_reducible rfl)
                try simp only [Act.put, List.setIfInBounds_toArray, List.set_cons_zero, List.set_cons_succ]
                refine wpAnyH_take (i := 15) (oi := ⟨some 49, _, _, _, _, _⟩) (v := ?_) rfl (by kernel_rfl) (by kernel_rfl) (by kernel_rfl) (fun _ _ _ h => h) (Or.inl ⟨by rfl, ?_⟩) (by assumption) ?_
                rotate_left
                · (intro w hSw; (try dsimp only at hSw); go_simp; try with_reducible rfl)
                try simp only [Act.put, List.setIfInBounds_toArray, List.set_cons_zero, List.set_cons_succ]
                refine wpAnyH_take (i := 17) (oi := ⟨some 51, _, _, _, _, _⟩) (v := ?_) rfl (by kernel_rfl) (by kernel_rfl) (by kernel_rfl) (fun _ _ _ h => h) (Or.inl ⟨by rfl, ?_⟩) (by assumption) ?_
                rotate_left
                · (intro w hSw; (try dsimp only at hSw); go_simp; try with_reducible rfl)
                try simp only [Act.put, List.setIfInBounds_toArray, List.set_cons_zero, List.set_cons_succ]
                refine wpAnyH_take (i := 18) (oi := ⟨some 52, _, _, _, _, _⟩) (v := ?_) rfl (by kernel_rfl) (by kernel_rfl) (by kernel_rfl) (fun _ _ _ h => h) (Or.inl ⟨by rfl, ?_⟩) (by assumption) ?_
                rotate_left
                · (intro w hSw; (try dsimp only at hSw); go_simp; try with_reducible rfl)
                try simp only [Act.put, List.setIfInBounds_toArray, List.set_cons_zero, List.set_cons_succ]
                refine wpAnyH_take (i := 20) (oi := ⟨some 54, _, _, _, _, _⟩) (v := ?_) rfl (by kernel_rfl) (by kernel_rfl) (by kernel_rfl) (fun _ _ _ h => h) (Or.inl ⟨by rfl, ?_⟩) (by assumption) ?_
                rotate_left
                · (intro w hSw; (try dsimp only at hSw); go_simp; try with_reducible rfl)
                try simp only [Act.put, List.setIfInBounds_toArray, List.set_cons_zero, List.set_cons_succ]
                refine wpAnyH_take (i := 21) (oi := ⟨some 55, _, _, _, _, _⟩) (v := ?_) rfl (by kernel_rfl) (by kernel_rfl) (by kernel_rfl) (fun _ _ _ h => h) (Or.inl ⟨by rfl, ?_⟩) (by assumption) ?_
                rotate_left
                · (intro w hSw; (try dsimp only at hSw); go_simp; try with_reducible rfl)
                try simp only [Act.put, List.setIfInBounds_toArray, List.set_cons_zero, List.set_cons_succ]
                refine wpAnyH_take (i := 22) (oi := ⟨some 56, _, _, _, _, _⟩) (v := ?_) rfl (by kernel_rfl) (by kernel_rfl) (by kernel_rfl) (fun _ _ _ h => h) (Or.inl ⟨by rfl, ?_⟩) (by assumption) ?_
                rotate_left
                · (intro w hSw; (try dsimp only at hSw); go_simp; try with_reducible rfl)
                try simp only [Act.put, List.setIfInBounds_toArray, List.set_cons_zero, List.set_cons_succ]
                refine wpAnyH_take (i := 23) (oi := ⟨some 57, _, _, _, _, _⟩) (v := ?_) rfl (by kernel_rfl) (by kernel_rfl) (by kernel_rfl) (fun _ _ _ h => h) (Or.inl ⟨by rfl, ?_⟩) (by assumption) ?_
                rotate_left
                · (intro w hSw; (try dsimp only at hSw); go_simp; try with_reducible rfl)
                try simp only [Act.put, List.setIfInBounds_toArray, List.set_cons_zero, List.set_cons_succ]
                refine wpAnyH_take (i := 24) (oi := ⟨some 58, _, _, _, _, _⟩) (v := ?_) rfl (by kernel_rfl) (by kernel_rfl) (by kernel_rfl) (fun _ _ _ h => h) (Or.inl ⟨by rfl, ?_⟩) (by assumption) ?_
                rotate_left
                · (intro w hSw; (try dsimp only at hSw); go_simp; try with_reducible rfl)
                try simp only [Act.put, List.setIfInBounds_toArray, List.set_cons_zero, List.set_cons_succ]
                have huu := hUS.out w4 H4.out
                refine wpAnyH_ready (rs := [16]) (by kernel_rfl) (by simp) ?_
                refine AllReadyH.cons rfl (fun K hK => ?_) AllReadyH.nil
                go_simp
                refine huu.mono ?_
                clear huu
                rintro e w5 ⟨rfl, g5⟩
                have H5 := Lib.hid (H4.out.new g5)
                have e4c := g5.cell e4b (by simp)
                refine hK.out _ _ e4c (fun _ => ?_)
                clear hK
                refine wpAnyH_take (i := 19) (oi := ⟨some 53, _, _, _, _, _⟩) (v := ?_) rfl (by kernel_rfl) (by kernel_rfl) (by kernel_rfl) (fun _ _ _ h => h) (Or.inl ⟨by rfl, ?_⟩) (by assumption) ?_
                rotate_left
                · (intro w hSw; (try dsimp only at hSw); go_simp; try with_reducible rfl)
                try simp only [Act.put, List.setIfInBounds_toArray, List.set_cons_zero, List.set_cons_succ]
                refine wpAnyH_take (i := 25) (oi := ⟨some 59, _, _, _, _, _⟩) (v := ?_) rfl (by kernel_rfl) (by kernel_rfl) (by kernel_rfl) (fun _ _ _ h => h) (Or.inl ⟨by rfl, ?_⟩) (by assumption) ?_
                rotate_left
                · (intro w hSw; (try dsimp only at hSw); go_simp; try with_reducible rfl)
                try simp only [Act.put, List.setIfInBounds_toArray, List.set_cons_zero, List.set_cons_succ]
                refine wpAnyH_take (i := 26) (oi := ⟨some 60, _, _, _, _, _⟩) (v := ?_) rfl (by kernel_rfl) (by kernel_rfl) (by kernel_rfl) (fun _ _ _ h => h) (Or.inl ⟨by rfl, ?_⟩) (by assumption) ?_
                rotate_left
                · (intro w hSw; (try dsimp only at hSw); go_simp; try with_reducible rfl)
                try simp only [Act.put, List.setIfInBounds_toArray, List.set_cons_zero, List.set_cons_succ]
                refine wpAnyH_take (i := 27) (oi := ⟨some 61, _, _, _, _, _⟩) (v := ?_) rfl (by kernel_rfl) (by kernel_rfl) (by kernel_rfl) (fun _ _ _ h => h) (Or.inl ⟨by rfl, ?_⟩) (by assumption) ?_
                rotate_left
                · (intro w hSw; (try dsimp only at hSw); go_simp; try with_reducible rfl)
                try simp only [Act.put, List.setIfInBounds_toArray, List.set_cons_zero, List.set_cons_succ]
                refine wpAnyH_done (by kernel_rfl) ?_ _
                clear H4 HD g4 g5 e4 e4b e4c H3
                go_upto_region 13 with fail
                obtain ⟨r3, vs3, h3, gp3⟩ := H5.out
                have gd := gdrew (World.grownBy.refl w5 none)
                have h4 := h3.new gd
                have gp4 := gp3.more gd
                obtain ⟨W, hW⟩ : ∃ W, W = World.drew w5 := ⟨_, rfl⟩
                rw [← hW] at h4 gp4
                have hRB := hB.out hne W gp4
                have hvl : vs3.length = a.nodes.length := h4.rows.vl
                obtain ⟨⟨sv, cv⟩, hv⟩ : ∃ v, vs3[jn]? = some v := ⟨_, List.getElem?_eq_getElem (by rw [hvl]; exact hjl.out)⟩
                obtain ⟨nva, nvc, hnv⟩ := h4.rows.rn.form
                have hrn := h4.rows.rn
                rw [hnv] at hrn
                obtain ⟨gn, rfl, hgnQ, hgl, rc, hfr⟩ := hrn.cell (by show 0 < a.nodes.length; have := hjl.out; omega)
                have l1 := (flat_at (fun x : Value × Value => [x.1, x.2]) 2 (fun _ => rfl) vs3 jn _ hv) 1 (by omega)
                have e7 : W.cell? ⟨q, 7, none⟩ = some (.slice (some ⟨gn, 0, none⟩) nl nvc) := by rw [hnl.out, ← hnv]; exact h4.at_.c7
                have e1 : W.cell? ⟨gn, jn * 2 + 1, none⟩ = some cv := by
                  rw [rc _ (by show jn * 2 + 1 < a.nodes.length * 2; have := hjl.out; omega)]
                  simpa [nodeCells] using l1
                obtain ⟨_, dvs, q1, q2, q3⟩ := h4.rows.node jn (sv, cv) n hv hna.out
                dsimp only at q2
                have hzl : (n.chg.zip dvs).length = n.chg.length := by rw [List.length_zip, q1, Nat.min_self]
                have hqg : q ≠ gn := fun e => by
                  subst e
                  obtain ⟨c', fr, h9⟩ := own_obj hrn.1 q rfl
                  have := apart_obj h9 (show _ = _ from h4.at_)
                  simp at this
                obtain ⟨cl, hcl⟩ : ∃ cl, cl = (n.chg.zip dvs).length := ⟨_, rfl⟩
                have hz65 : cl ≤ 2199023255552 := by rw [hcl, hzl]; exact hcs.out
                have hone := zip_one q3
                have q2r : W.ownsRow 0 126 3 cv (n.chg.zip dvs).length (chgCells (n.chg.zip dvs)) := by rw [hzl]; exact q2.1
                have nn : ∀ {v : Value}, v.ownBlock = none ∨ v.ownBlock ≠ none := fun {v} => by cases v.ownBlock <;> simp
                have CP : Hid (∀ X, W.grownBy X none → ∃ v5 w5, (Builtin.append_ #[98, 98] 98 #[.slice none 0 0, cv]).run Tryz.prog X = .ok v5 w5 ∧ w5.ownsRow W.heap.size 126 3 v5 cl (chgCells (n.chg.zip dvs)) ∧ X.grownBy w5 none) := Lib.hid fun X g => by
                  obtain ⟨v5, w5, k1, k2, k3⟩ := copy_chg cv (n.chg.zip dvs) X hone (World.ownsRow.kept q2r g nn) (by rw [← hcl]; exact hz65)
                  exact ⟨v5, w5, k1, by rw [hcl]; exact World.ownsRow.mono k2 g.size, k3⟩
                have TW : Hid (∀ X, W.grownBy X none → Calls Tryz.prog 78 #[.slice ba bl bc] X fun e w' => ∃ xa xc, e = .returned (.slice xa bl xc) ∧ Owns w' W.heap.size 5 (.slice xa bl xc) bs ∧ X.grownBy w' none) := Lib.hid fun X g => by
                  refine (twin_any (.slice ba bl bc) bs X (hB.out hne X (gp4.more g)) (by rw [← hbl2.out]; omega)).mono ?_
                  rintro e w' ⟨v', rfl, o, g'⟩
                  obtain ⟨xa, xc, rfl⟩ := rowForm o
                  rw [← hbl2.out] at o ⊢
                  exact ⟨xa, xc, rfl, World.ownsRow.mono o g.size, g'⟩
                have PU : Hid (∀ (X : World) (v5 dv : Value) (b : Nat), W.grownBy X none → X.ownsRow W.heap.size 126 3 v5 cl (chgCells (n.chg.zip dvs)) → Owns X W.heap.size 5 dv bs → X.heap[b]? = some (.cells #[.bool false, .int .i64 0, dv] 126 (0, 0)) →
                    ∃ a8 c8 w8, (Builtin.append_ #[98, 98] 98 #[v5, .slice (some ⟨b, 0, none⟩) 1 1]).run Tryz.prog X = .ok (.slice a8 (cl + 1) c8) w8 ∧ w8.cell? ⟨q, 7, none⟩ = some (.slice (some ⟨gn, 0, none⟩) nl nvc) ∧ w8.cell? ⟨gn, jn * 2 + 1, none⟩ = some cv ∧ w8.frozen? ⟨gn, jn * 2 + 1, none⟩ = false ∧
                      (w8.setCell ⟨gn, jn * 2 + 1, none⟩ (.slice a8 (cl + 1) c8)).cell? ⟨q, 7, none⟩ = some (.slice (some ⟨gn, 0, none⟩) nl nvc) ∧ Hid (RDone DX R w q { a with count := a.count + 1, nodes := a.nodes.set jn (n.push (.add ⟨bs.toArray⟩)) } (w8.setCell ⟨gn, jn * 2 + 1, none⟩ (.slice a8 (cl + 1) c8)))) := Lib.hid fun X v5 dv b g o5 od eb => by
                  obtain ⟨da, dc, hdv⟩ := rowForm od
                  obtain ⟨v8, w8, run8, o8, g8⟩ := push_chg v5 (n.chg.zip dvs) (.add ⟨bs.toArray⟩) dv W.heap.size b X (by rw [hdv]; rfl) (by rw [← hcl]; exact o5) g.size (by rw [← hcl]; exact hz65) eb
                  obtain ⟨a8, c8, hv8⟩ := rowFormS o8
                  rw [← hcl] at hv8
                  subst hv8
                  have g98 := grown_new g g8 (fun k e => (World.ownsRow.lt o5 k e).1)
                  have od8 : Owns w8 W.heap.size 5 dv bs := World.ownsRow.kept od g8 (by
                    cases e : dv.ownBlock with
                    | none => exact .inl rfl
                    | some k => exact .inr (fun e2 => own_own o5 od (by decide) k e2.symm e))
                  have dA := h4.moreChg (c := .add ⟨bs.toArray⟩) (dv := dv) gp4 hv hna.out hnv q1 q3 g98 (by rw [← hzl]; exact o8) (OwnR.rw (by
                    show w8.ownsRow W.heap.size 5 1 dv (bs.toArray.toList).length (byteCells bs.toArray.toList)
                    rw [List.toList_toArray]
                    exact od8) gp4.size)
                  have c7 := g98.cell e7 (by simp)
                  exact ⟨a8, c8, w8, run8, c7, dA.2.1, dA.2.2, (gq w8 gn (jn * 2 + 1) (.slice a8 (cl + 1) c8)).cell c7 (fun e => hqg (by simpa using e)), Lib.hid dA.1⟩
                have hS : Hid (∀ V, W.grownBy V none → V.cell? ⟨q, 7, none⟩ = some (.slice (some ⟨gn, 0, none⟩) nl nvc) ∧ V.cell? ⟨gn, jn * 2 + 1, none⟩ = some cv) := Lib.hid fun V g => ⟨g.cell e7 (by simp), g.cell e1 (by simp)⟩
                have sW := hS.out W (World.grownBy.refl _ none)
                have s7 := sW.1
                have s1 := sW.2
                replace hcl := Lib.hid hcl
                clear h3 gp3 gd h4 gp4 hvl hv hnv hrn rc hfr l1 q1 q2 q3 hzl hone q2r nn hgl hgnQ hqg H5 e7 e1 sW hRB
                subst hW
                refine wp_region_held_drew (S := fun V => V.cell? ⟨q, 7, none⟩ = some (.slice (some ⟨gn, 0, none⟩) nl nvc)) (by kernel_rfl) s7 (fun hS0 => ?_)
                refine wpAnyH_take (i := 0) (oi := ⟨some 65, _, _, _, _, _⟩) (v := ?_) rfl (by kernel_rfl) (by kernel_rfl) (by kernel_rfl) (fun _ _ _ h => h) (Or.inl ⟨by rfl, ?_⟩) (by assumption) ?_
                rotate_left
                · (intro w hSw; (try dsimp only at hSw); go_simp; try with_reducible rfl)
                try simp only [Act.put, List.setIfInBounds_toArray, List.set_cons_zero, List.set_cons_succ]
                refine wpAnyH_take (i := 1) (oi := ⟨some 66, _, _, _, _, _⟩) (v := ?_) rfl (by kernel_rfl) (by kernel_rfl) (by kernel_rfl) (fun _ _ _ h => h) (Or.inl ⟨by rfl, ?_⟩) (by assumption) ?_
                rotate_left
                · (intro w hSw; (try dsimp only at hSw); go_simp; try with_reducible rfl)
                try simp only [Act.put, List.setIfInBounds_toArray, List.set_cons_zero, List.set_cons_succ]
                refine wpAnyH_take (i := 2) (oi := ⟨some 67, _, _, _, _, _⟩) (v := ?_) rfl (by kernel_rfl) (by kernel_rfl) (by kernel_rfl) (fun _ _ _ h => h) (Or.inl ⟨by rfl, ?_⟩) (by assumption) ?_
                rotate_left
                · (intro w hSw; (try dsimp only at hSw); go_simp; try with_reducible rfl)
                try simp only [Act.put, List.setIfInBounds_toArray, List.set_cons_zero, List.set_cons_succ]
                refine wpAnyH_take (i := 3) (oi := ⟨some 68, _, _, _, _, _⟩) (v := ?_) rfl (by kernel_rfl) (by kernel_rfl) (by kernel_rfl) (fun _ _ _ h => h) (Or.inl ⟨by rfl, ?_⟩) (by assumption) ?_
                rotate_left
                · (intro w hSw; (try dsimp only at hSw); go_simp; try with_reducible rfl)
                try simp only [Act.put, List.setIfInBounds_toArray, List.set_cons_zero, List.set_cons_succ]
                refine wpAnyH_take (i := 4) (oi := ⟨some 69, _, _, _, _, _⟩) (v := ?_) rfl (by kernel_rfl) (by kernel_rfl) (by kernel_rfl) (fun _ _ _ h => h) (Or.inl ⟨by rfl, ?_⟩) (by assumption) ?_
                rotate_left
                · (intro w hSw; (try dsimp only at hSw); go_simp; try with_reducible rfl)
                try simp only [Act.put, List.setIfInBounds_toArray, List.set_cons_zero, List.set_cons_succ]
                refine wpAnyH_take (i := 5) (oi := ⟨some 70, _, _, _, _, _⟩) (v := ?_) rfl (by kernel_rfl) (by kernel_rfl) (by kernel_rfl) (fun _ _ _ h => h) (Or.inl ⟨by rfl, ?_⟩) (by assumption) ?_
                rotate_left
                · (intro w hSw; (try dsimp only at hSw); go_simp; try with_reducible rfl)
                try simp only [Act.put, List.setIfInBounds_toArray, List.set_cons_zero, List.set_cons_succ]
                refine wpAnyH_take (i := 6) (oi := ⟨some 71, _, _, _, _, _⟩) (v := ?_) rfl (by kernel_rfl) (by kernel_rfl) (by kernel_rfl) (fun _ _ _ h => h) (Or.inl ⟨by rfl, ?_⟩) (by assumption) ?_
                rotate_left
                · (intro w hSw; (try dsimp only at hSw); go_simp; try with_reducible rfl)
                try simp only [Act.put, List.setIfInBounds_toArray, List.set_cons_zero, List.set_cons_succ]
                refine wpAnyH_take (i := 7) (oi := ⟨some 72, _, _, _, _, _⟩) (v := ?_) rfl (by kernel_rfl) (by kernel_rfl) (by kernel_rfl) (fun _ _ _ h => h) (Or.inl ⟨by rfl, ?_⟩) (by assumption) ?_
                rotate_left
                · (intro w hSw; (try dsimp only at hSw); go_simp; try with_reducible rfl)
                try simp only [Act.put, List.setIfInBounds_toArray, List.set_cons_zero, List.set_cons_succ]
                refine wpAnyH_take (i := 8) (oi := ⟨some 73, _, _, _, _, _⟩) (v := ?_) rfl (by kernel_rfl) (by kernel_rfl) (by kernel_rfl) (fun _ _ _ h => h) (Or.inl ⟨by rfl, ?_⟩) (by assumption) ?_
                rotate_left
                · (intro w hSw; (try dsimp only at hSw); go_simp; try with_reducible rfl)
                try simp only [Act.put, List.setIfInBounds_toArray, List.set_cons_zero, List.set_cons_succ]
                refine wpAnyH_take (i := 9) (oi := ⟨some 74, _, _, _, _, _⟩) (v := ?_) rfl (by kernel_rfl) (by kernel_rfl) (by kernel_rfl) (fun _ _ _ h => h) (Or.inl ⟨by rfl, ?_⟩) (by assumption) ?_
                rotate_left
                · (intro w hSw; (try dsimp only at hSw); go_simp; try with_reducible rfl)
                try simp only [Act.put, List.setIfInBounds_toArray, List.set_cons_zero, List.set_cons_succ]
                refine wpAnyH_take (i := 10) (oi := ⟨some 75, _, _, _, _, _⟩) (v := ?_) rfl (by kernel_rfl) (by kernel_rfl) (by kernel_rfl) (fun _ _ _ h => h) (Or.inl ⟨by rfl, ?_⟩) (by assumption) ?_
                rotate_left
                · (intro w hSw; (try dsimp only at hSw); go_simp; try with_reducible rfl)
                try simp only [Act.put, List.setIfInBounds_toArray, List.set_cons_zero, List.set_cons_succ]
                refine wpAnyH_take (i := 11) (oi := ⟨some 76, _, _, _, _, _⟩) (v := ?_) rfl (by kernel_rfl) (by kernel_rfl) (by kernel_rfl) (fun _ _ _ h => h) (Or.inl ⟨by rfl, ?_⟩) (by assumption) ?_
                rotate_left
                · (intro w hSw; (try dsimp only at hSw); go_simp; try with_reducible rfl)
                try simp only [Act.put, List.setIfInBounds_toArray, List.set_cons_zero, List.set_cons_succ]
                refine wpAnyH_take (i := 14) (oi := ⟨some 79, _, _, _, _, _⟩) (v := ?_) rfl (by kernel_rfl) (by kernel_rfl) (by kernel_rfl) (fun _ _ _ h => h) (Or.inl ⟨by rfl, ?_⟩) (by assumption) ?_
                rotate_left
                · (intro w hSw; (try dsimp only at hSw); go_simp; try with_reducible rfl)
                try simp only [Act.put, List.setIfInBounds_toArray, List.set_cons_zero, List.set_cons_succ]
                refine wpAnyH_ready (rs := [12]) (by kernel_rfl) (by simp) ?_
                refine AllReadyH.cons rfl (fun K hK => ?_) AllReadyH.nil
                go_simp
                refine hK.out _ _ s7 (fun _ => ?_)
                clear hK
                obtain ⟨v5, w6, run6, o6, g6⟩ := CP.out _ (World.grownBy.refl _ none)
                refine wpAnyH_ready (rs := [13]) (by kernel_rfl) (by simp) ?_
                refine AllReadyH.cons rfl (fun K hK => ?_) AllReadyH.nil
                rw [if_pos (by rfl)]
                refine wp_app_run _ _ _ rfl (.slice none 0 0) _ rfl rfl run6 ?_
                refine hK.out _ _ (hS.out _ g6).1 (fun _ => ?_)
                clear hK
                have htw := TW.out w6 g6
                refine wpAnyH_ready (rs := [15]) (by kernel_rfl) (by simp) ?_
                refine AllReadyH.cons rfl (fun K hK => ?_) AllReadyH.nil
                go_simp
                refine htw.mono ?_
                clear htw
                rintro e w7 ⟨xa, xc, rfl, o7, g7⟩
                have g67 := g6.trans g7
                refine hK.out _ _ (hS.out _ g67).1 (fun _ => ?_)
                clear hK
                refine wpAnyH_take (i := 16) (oi := ⟨some 81, _, _, _, _, _⟩) (v := ?_) rfl (by kernel_rfl) (by kernel_rfl) (by kernel_rfl) (fun _ _ _ h => h) (Or.inl ⟨by rfl, ?_⟩) (by assumption) ?_
                rotate_left
                · (intro w hSw; (try dsimp only at hSw); go_simp; try with_reducible rfl)
                try simp only [Act.put, List.setIfInBounds_toArray, List.set_cons_zero, List.set_cons_succ]
                have gX := World.grownBy_alloc w7 (.cells #[.bool false, .int .i64 0, .slice xa bl xc] 126) none
                obtain ⟨a8, c8, w8, run8, z7, z1, zf, z9, FF⟩ := PU.out _ v5 (.slice xa bl xc) w7.heap.size (g67.trans gX) (World.ownsRow.kept (World.ownsRow.kept o6 g7 (by cases v5.ownBlock <;> simp)) gX (by cases v5.ownBlock <;> simp)) (World.ownsRow.kept o7 gX (by cases (Value.slice xa bl xc).ownBlock <;> simp)) (World.alloc_heap_new w7 _)
                have sX := (hS.out _ (g67.trans gX)).1
                clear o6 o7 g6 g7 g67 gX
                refine wpAnyH_ready (rs := [17]) (by kernel_rfl) (by simp) ?_
                refine AllReadyH.cons rfl (fun K hK => ?_) AllReadyH.nil
                go_simp
                refine hK.out _ _ sX (fun _ => ?_)
                clear hK
                refine wpAnyH_ready (rs := [18]) (by kernel_rfl) (by simp) ?_
                refine AllReadyH.cons rfl (fun K hK => ?_) AllReadyH.nil
                rw [if_pos (by rfl)]
                refine wp_app_run _ _ _ rfl v5 _ rfl rfl run8 ?_
                refine hK.out _ _ z7 (fun _ => ?_)
                clear hK
                refine wpAnyH_take (i := 19) (oi := ⟨some 84, _, _, _, _, _⟩) (v := ?_) rfl (by kernel_rfl) (by kernel_rfl) (by kernel_rfl) (fun _ _ _ h => h) (Or.inl ⟨by rfl, ?_⟩) (by assumption) ?_
                rotate_left
                · (intro w hSw; (try dsimp only at hSw); go_simp; try with_reducible rfl)
                try simp only [Act.put, List.setIfInBounds_toArray, List.set_cons_zero, List.set_cons_succ]
                refine wpAnyH_take (i := 20) (oi := ⟨some 85, _, _, _, _, _⟩) (v := ?_) rfl (by kernel_rfl) (by kernel_rfl) (by kernel_rfl) (fun _ _ _ h => h) (Or.inl ⟨by rfl, ?_⟩) (by assumption) ?_
                rotate_left
                · (intro w hSw; (try dsimp only at hSw); go_simp; try with_reducible rfl)
                try simp only [Act.put, List.setIfInBounds_toArray, List.set_cons_zero, List.set_cons_succ]
                refine wpAnyH_ready (rs := [21]) (by kernel_rfl) (by simp) ?_
                refine AllReadyH.cons rfl (fun K hK => ?_) AllReadyH.nil
                go_simp
                refine hK.out _ _ z9 (fun _ => ?_)
                clear hK
                refine wpAnyH_done (by kernel_rfl) ?_ _
                go_wp2_with fail
                go_ret
                exact ⟨rfl, FF.out⟩
            · rw [if_neg (by omega), if_neg hne]
              have k3b : decide (0 < rm) = false := by simpa using k3
              have k1c : (bl : Int) ≤ 268435456 - (dl : Int) := by omega
              go_enter Tryz.func40, Tryz.ntmps40
              go_upto_region 10 with first | (go_at_call 74; refine hb.mono ?_; clear hb; rintro e w1 ⟨rfl, h1⟩; have H1 := Lib.hid (RAny.of h1); clear h1; have hno := H1.out.node s (by show a.dir.length ≤ _; omega); rw [hlk.out] at hno) | (go_at_call 52; refine hno.mono ?_; clear hno; rintro e w2 ⟨rfl, g2⟩; have H2 := Lib.hid (H1.out.new g2); clear H1 g2; obtain ⟨gn, nvc, sv, cv, e7, e0, e1, hda⟩ := H2.out.data FC.out hjl.out; rw [show RefP.file { a with count := a.count + 1 } jn = n from hfn.out.symm] at hda; rw [show ({ a with count := a.count + 1 } : RefP).nodes.length = nl from hnl.out.symm] at e7) | (go_at_call 53; refine hda.mono ?_; clear hda; rintro e w3 ⟨x3, c3, rfl, o3, g3⟩; rw [← hdl.out]; have H3 := Lib.hid (H2.out.new g3); clear H2 g3 o3 e7 e0 e1)
              have HD := Lib.hid (H3.out.new (gdrew (World.grownBy.refl w3 none)))
              have e4 := HD.out.room
              have hfu := HD.out.full
              rw [show ({ a with count := a.count + 1 } : RefP).pl.full.contains ({ a with count := a.count + 1 } : RefP).count = false from hbb.out.symm] at hfu
              rw [show ({ a with count := a.count + 1 } : RefP).pl.room = rm from hrm.out.symm] at e4
              refine wp_region_held_drew (S := fun V => V.cell? ⟨q, 4, none⟩ = some (.int .i64 rm)) (by kernel_rfl) e4 (fun hS0 => ?_)
              refine wpAnyH_take (i := 0) (oi := ⟨some 34, _, _, _, _, _⟩) (v := ?_) rfl (by kernel_rfl) (by kernel_rfl) (by kernel_rfl) (fun _ _ _ h => h) (Or.inl ⟨by rfl, ?_⟩) (by assumption) ?_
              rotate_left
              · (intro w hSw; (try dsimp only at hSw); go_simp; try with_reducible rfl)
              try simp only [Act.put, List.setIfInBounds_toArray, List.set_cons_zero, List.set_cons_succ]
              refine wpAnyH_ready (rs := [1]) (by kernel_rfl) (by simp) ?_
              refine AllReadyH.cons rfl (fun K hK => ?_) AllReadyH.nil
              go_simp
              refine hfu.mono ?_
              clear hfu
              rintro e w4 ⟨rfl, g4⟩
              have H4 := Lib.hid (HD.out.new g4)
              have e4b := g4.cell e4 (by simp)
              refine hK.out _ _ e4b (fun _ => ?_)
              clear hK
              refine wpAnyH_take (i := 2) (oi := ⟨some 36, _, _, _, _, _⟩) (v := ?_) rfl (by kernel_rfl) (by kernel_rfl) (by kernel_rfl) (fun _ _ _ h => h) (Or.inl ⟨by rfl, ?_⟩) (by assumption) ?_
              rotate_left
              · (intro w hSw; (try dsimp only at hSw); go_simp; try with_reducible rfl)
              try simp only [Act.put, List.setIfInBounds_toArray, List.set_cons_zero, List.set_cons_succ]
              refine wpAnyH_take (i := 3) (oi := ⟨some 37, _, _, _, _, _⟩) (v := ?_) rfl (by kernel_rfl) (by kernel_rfl) (by kernel_rfl) (fun _ _ _ h => h) (Or.inl ⟨by rfl, ?_⟩) (by assumption) ?_
              rotate_left
              · (intro w hSw; (try dsimp only at hSw); go_simp; try with_reducible rfl)
              try simp only [Act.put, List.setIfInBounds_toArray, List.set_cons_zero, List.set_cons_succ]
              refine wpAnyH_take (i := 4) (oi := ⟨some 38, _, _, _, _, _⟩) (v := ?_) rfl (by kernel_rfl) (by kernel_rfl) (by kernel_rfl) (fun _ _ _ h => h) (Or.inl ⟨by rfl, ?_⟩) (by assumption) ?_
              rotate_left
              · (intro w hSw; (try dsimp only at hSw); go_simp; try with_reducible rfl)
              try simp only [Act.put, List.setIfInBounds_toArray, List.set_cons_zero, List.set_cons_succ]
              refine wpAnyH_take (i := 5) (oi := ⟨some 39, _, _, _, _, _⟩) (v := ?_) rfl (by kernel_rfl) (by kernel_rfl) (by kernel_rfl) (fun _ _ _ h => h) (Or.inl ⟨by rfl, ?_⟩) (by assumption) ?_
              rotate_left
              · (intro w hSw; (try dsimp only at hSw); go_simp; try with_reducible rfl)
              try simp only [Act.put, List.setIfInBounds_toArray, List.set_cons_zero, List.set_cons_succ]
              refine wpAnyH_take (i := 6) (oi := ⟨some 40, _, _, _, _, _⟩) (v := ?_) rfl (by kernel_rfl) (by kernel_rfl) (by kernel_rfl) (fun _ _ _ h => h) (Or.inl ⟨by rfl, ?_⟩) (by assumption) ?_
              rotate_left
              · (intro w hSw; (try dsimp only at hSw); go_simp; try with_reducible rfl)
              try simp only [Act.put, List.setIfInBounds_toArray, List.set_cons_zero, List.set_cons_succ]
              refine wpAnyH_take (i := 7) (oi := ⟨some 41, _, _, _, _, _⟩) (v := ?_) rfl (by kernel_rfl) (by kernel_rfl) (by kernel_rfl) (fun _ _ _ h => h) (Or.inl ⟨by rfl, ?_⟩) (by assumption) ?_
              rotate_left
              · (intro w hSw; (try dsimp only at hSw); go_simp; try with_reducible rfl)
              try simp only [Act.put, List.setIfInBounds_toArray, List.set_cons_zero, List.set_cons_succ]
              refine wpAnyH_take (i := 8) (oi := ⟨some 42, _, _, _, _, _⟩) (v := ?_) rfl (by kernel_rfl) (by kernel_rfl) (by kernel_rfl) (fun _ _ _ h => h) (Or.inl ⟨by rfl, ?_⟩) (by assumption) ?_
              rotate_left
              · (intro w hSw; (try dsimp only at hSw); go_simp; try with_reducible rfl)
              try simp only [Act.put, List.setIfInBounds_toArray, List.set_cons_zero, List.set_cons_succ]
              refine wpAnyH_take (i := 9) (oi := ⟨some 43, _, _, _, _, _⟩) (v := ?_) rfl (by kernel_rfl) (by kernel_rfl) (by kernel_rfl) (fun _ _ _ h => h) (Or.inl ⟨by rfl, ?_⟩) (by assumption) ?_
              rotate_left
              · (intro w hSw; (try dsimp only at hSw); go_simp; try with_reducible rfl)
              try simp only [Act.put, List.setIfInBounds_toArray, List.set_cons_zero, List.set_cons_succ]
              refine wpAnyH_take (i := 10) (oi := ⟨some 44, _, _, _, _, _⟩) (v := ?_) rfl (by kernel_rfl) (by kernel_rfl) (by kernel_rfl) (fun _ _ _ h => h) (Or.inl ⟨by rfl, ?_⟩) (by assumption) ?_
              rotate_left
              · (intro w hSw; (try dsimp only at hSw); go_simp; try with_reducible rfl)
              try simp only [Act.put, List.setIfInBounds_toArray, List.set_cons_zero, List.set_cons_succ]
              refine wpAnyH_take (i := 11) (oi := ⟨some 45, _, _, _, _, _⟩) (v := ?_) rfl (by kernel_rfl) (by kernel_rfl) (by kernel_rfl) (fun _ _ _ h => h) (Or.inl ⟨by rfl, ?_⟩) (by assumption) ?_
              rotate_left
              · (intro w hSw; (try dsimp only at hSw); go_simp; try with_reducible rfl)
              try simp only [Act.put, List.setIfInBounds_toArray, List.set_cons_zero, List.set_cons_succ]
              refine wpAnyH_take (i := 12) (oi := ⟨some 46, _, _, _, _, _⟩) (v := ?_) rfl (by kernel_rfl) (by kernel_rfl) (by kernel_rfl) (fun _ _ _ h => h) (Or.inl ⟨by rfl, ?_⟩) (by assumption) ?_
              rotate_left
              · (intro w hSw; (try dsimp only at hSw); go_simp; try with_reducible rfl)
              try simp only [Act.put, List.setIfInBounds_toArray, List.set_cons_zero, List.set_cons_succ]
              refine wpAnyH_take (i := 13) (oi := ⟨some 47, _, _, _, _, _⟩) (v := ?_) rfl (by kernel_rfl) (by kernel_rfl) (by kernel_rfl) (fun _ _ _ h => h) (Or.inl ⟨by rfl, ?_⟩) (by assumption) ?_
              rotate_left
              · (intro w hSw; (try dsimp only at hSw); go_simp; try with_reducible rfl)
              try simp only [Act.put, List.setIfInBounds_toArray, List.set_cons_zero, List.set_cons_succ]
              refine wpAnyH_take (i := 14) (oi := ⟨some 48, _, _, _, _, _⟩) (v := ?_) rfl (by kernel_rfl) (by kernel_rfl) (by kernel_rfl) (fun _ _ _ h => h) (Or.inl ⟨by rfl, ?_⟩) (by assumption) ?_
              rotate_left
              · (intro w hSw; (try dsimp only at hSw); go_simp; try with_reducible rfl)
              try simp only [Act.put, List.setIfInBounds_toArray, List.set_cons_zero, List.set_cons_succ]
              refine wpAnyH_take (i := 15) (oi := ⟨some 49, _, _, _, _, _⟩) (v := undef) rfl (by kernel_rfl) (by kernel_rfl) (by kernel_rfl) (fun _ _ _ h => h) (Or.inr ⟨by rfl, rfl⟩) (by assumption) ?_
              try simp only [Act.put, List.setIfInBounds_toArray, List.set_cons_zero, List.set_cons_succ]
              refine wpAnyH_take (i := 16) (oi := ⟨some 50, _, _, _, _, _⟩) (v := undef) rfl (by kernel_rfl) (by kernel_rfl) (by kernel_rfl) (fun _ _ _ h => h) (Or.inr ⟨by rfl, rfl⟩) (by assumption) ?_
              try simp only [Act.put, List.setIfInBounds_toArray, List.set_cons_zero, List.set_cons_succ]
              refine wpAnyH_take (i := 17) (oi := ⟨some 51, _, _, _, _, _⟩) (v := undef) rfl (by kernel_rfl) (by kernel_rfl) (by kernel_rfl) (fun _ _ _ h => h) (Or.inr ⟨by rfl, rfl⟩) (by assumption) ?_
              try simp only [Act.put, List.setIfInBounds_toArray, List.set_cons_zero, List.set_cons_succ]
              refine wpAnyH_take (i := 18) (oi := ⟨some 52, _, _, _, _, _⟩) (v := undef) rfl (by kernel_rfl) (by kernel_rfl) (by kernel_rfl) (fun _ _ _ h => h) (Or.inr ⟨by rfl, rfl⟩) (by assumption) ?_
              try simp only [Act.put, List.setIfInBounds_toArray, List.set_cons_zero, List.set_cons_succ]
              refine wpAnyH_take (i := 19) (oi := ⟨some 53, _, _, _, _, _⟩) (v := undef) rfl (by kernel_rfl) (by kernel_rfl) (by kernel_rfl) (fun _ _ _ h => h) (Or.inr ⟨by rfl, rfl⟩) (by assumption) ?_
              try simp only [Act.put, List.setIfInBounds_toArray, List.set_cons_zero, List.set_cons_succ]
              refine wpAnyH_take (i := 20) (oi := ⟨some 54, _, _, _, _, _⟩) (v := undef) rfl (by kernel_rfl) (by kernel_rfl) (by kernel_rfl) (fun _ _ _ h => h) (Or.inr ⟨by rfl, rfl⟩) (by assumption) ?_
              try simp only [Act.put, List.setIfInBounds_toArray, List.set_cons_zero, List.set_cons_succ]
              refine wpAnyH_take (i := 21) (oi := ⟨some 55, _, _, _, _, _⟩) (v := undef) rfl (by kernel_rfl) (by kernel_rfl) (by kernel_rfl) (fun _ _ _ h => h) (Or.inr ⟨by rfl, rfl⟩) (by assumption) ?_
              try simp only [Act.put, List.setIfInBounds_toArray, List.set_cons_zero, List.set_cons_succ]
              refine wpAnyH_take (i := 22) (oi := ⟨some 56, _, _, _, _, _⟩) (v := undef) rfl (by kernel_rfl) (by kernel_rfl) (by kernel_rfl) (fun _ _ _ h => h) (Or.inr ⟨by rfl, rfl⟩) (by assumption) ?_
              try simp only [Act.put, List.setIfInBounds_toArray, List.set_cons_zero, List.set_cons_succ]
              refine wpAnyH_take (i := 23) (oi := ⟨some 57, _, _, _, _, _⟩) (v := undef) rfl (by kernel_rfl) (by kernel_rfl) (by kernel_rfl) (fun _ _ _ h => h) (Or.inr ⟨by rfl, rfl⟩) (by assumption) ?_
              try simp only [Act.put, List.setIfInBounds_toArray, List.set_cons_zero, List.set_cons_succ]
              refine wpAnyH_take (i := 24) (oi := ⟨some 58, _, _, _, _, _⟩) (v := undef) rfl (by kernel_rfl) (by kernel_rfl) (by kernel_rfl) (fun _ _ _ h => h) (Or.inr ⟨by rfl, rfl⟩) (by assumption) ?_
              try simp only [Act.put, List.setIfInBounds_toArray, List.set_cons_zero, List.set_cons_succ]
              refine wpAnyH_take (i := 25) (oi := ⟨some 59, _, _, _, _, _⟩) (v := undef) rfl (by kernel_rfl) (by kernel_rfl) (by kernel_rfl) (fun _ _ _ h => h) (Or.inr ⟨by rfl, rfl⟩) (by assumption) ?_
              try simp only [Act.put, List.setIfInBounds_toArray, List.set_cons_zero, List.set_cons_succ]
              refine wpAnyH_take (i := 26) (oi := ⟨some 60, _, _, _, _, _⟩) (v := ?_) rfl (by kernel_rfl) (by kernel_rfl) (by kernel_rfl) (fun _ _ _ h => h) (Or.inl ⟨by rfl, ?_⟩) (by assumption) ?_
              rotate_left
              · (intro w hSw; (try dsimp only at hSw); go_simp; try with_reducible rfl)
              try simp only [Act.put, List.setIfInBounds_toArray, List.set_cons_zero, List.set_cons_succ]
              refine wpAnyH_take (i := 27) (oi := ⟨some 61, _, _, _, _, _⟩) (v := ?_) rfl (by kernel_rfl) (by kernel_rfl) (by kernel_rfl) (fun _ _ _ h => h) (Or.inl ⟨by rfl, ?_⟩) (by assumption) ?_
              rotate_left
              · (intro w hSw; (try dsimp only at hSw); go_simp; try with_reducible rfl)
              try simp only [Act.put, List.setIfInBounds_toArray, List.set_cons_zero, List.set_cons_succ]
              refine wpAnyH_done (by kernel_rfl) ?_ _
              have H5 := H4
              clear H4 HD g4 e4 e4b H3
              go_upto_region 13 with fail
              obtain ⟨r3, vs3, h3, gp3⟩ := H5.out
              have gd := gdrew (World.grownBy.refl w4 none)
              have h4 := h3.new gd
              have gp4 := gp3.more gd
              obtain ⟨W, hW⟩ : ∃ W, W = World.drew w4 := ⟨_, rfl⟩
              rw [← hW] at h4 gp4
              have hRB := hB.out hne W gp4
              have hvl : vs3.length = a.nodes.length := h4.rows.vl
              obtain ⟨⟨sv, cv⟩, hv⟩ : ∃ v, vs3[jn]? = some v := ⟨_, List.getElem?_eq_getElem (by rw [hvl]; exact hjl.out)⟩
              obtain ⟨nva, nvc, hnv⟩ := h4.rows.rn.form
              have hrn := h4.rows.rn
              rw [hnv] at hrn
              obtain ⟨gn, rfl, hgnQ, hgl, rc, hfr⟩ := hrn.cell (by show 0 < a.nodes.length; have := hjl.out; omega)
              have l1 := (flat_at (fun x : Value × Value => [x.1, x.2]) 2 (fun _ => rfl) vs3 jn _ hv) 1 (by omega)
              have e7 : W.cell? ⟨q, 7, none⟩ = some (.slice (some ⟨gn, 0, none⟩) nl nvc) := by rw [hnl.out, ← hnv]; exact h4.at_.c7
              have e1 : W.cell? ⟨gn, jn * 2 + 1, none⟩ = some cv := by
                rw [rc _ (by show jn * 2 + 1 < a.nodes.length * 2; have := hjl.out; omega)]
                simpa [nodeCells] using l1
              obtain ⟨_, dvs, q1, q2, q3⟩ := h4.rows.node jn (sv, cv) n hv hna.out
              dsimp only at q2
              have hzl : (n.chg.zip dvs).length = n.chg.length := by rw [List.length_zip, q1, Nat.min_self]
              have hqg : q ≠ gn := fun e => by
                subst e
                obtain ⟨c', fr, h9⟩ := own_obj hrn.1 q rfl
                have := apart_obj h9 (show _ = _ from h4.at_)
                simp at this
              obtain ⟨cl, hcl⟩ : ∃ cl, cl = (n.chg.zip dvs).length := ⟨_, rfl⟩
              have hz65 : cl ≤ 2199023255552 := by rw [hcl, hzl]; exact hcs.out
              have hone := zip_one q3
              have q2r : W.ownsRow 0 126 3 cv (n.chg.zip dvs).length (chgCells (n.chg.zip dvs)) := by rw [hzl]; exact q2.1
              have nn : ∀ {v : Value}, v.ownBlock = none ∨ v.ownBlock ≠ none := fun {v} => by cases v.ownBlock <;> simp
              have CP : Hid (∀ X, W.grownBy X none → ∃ v5 w5, (Builtin.append_ #[98, 98] 98 #[.slice none 0 0, cv]).run Tryz.prog X = .ok v5 w5 ∧ w5.ownsRow W.heap.size 126 3 v5 cl (chgCells (n.chg.zip dvs)) ∧ X.grownBy w5 none) := Lib.hid fun X g => by
                obtain ⟨v5, w5, k1, k2, k3⟩ := copy_chg cv (n.chg.zip dvs) X hone (World.ownsRow.kept q2r g nn) (by rw [← hcl]; exact hz65)
                exact ⟨v5, w5, k1, by rw [hcl]; exact World.ownsRow.mono k2 g.size, k3⟩
              have TW : Hid (∀ X, W.grownBy X none → Calls Tryz.prog 78 #[.slice ba bl bc] X fun e w' => ∃ xa xc, e = .returned (.slice xa bl xc) ∧ Owns w' W.heap.size 5 (.slice xa bl xc) bs ∧ X.grownBy w' none) := Lib.hid fun X g => by
                refine (twin_any (.slice ba bl bc) bs X (hB.out hne X (gp4.more g)) (by rw [← hbl2.out]; omega)).mono ?_
                rintro e w' ⟨v', rfl, o, g'⟩
                obtain ⟨xa, xc, rfl⟩ := rowForm o
                rw [← hbl2.out] at o ⊢
                exact ⟨xa, xc, rfl, World.ownsRow.mono o g.size, g'⟩
              have PU : Hid (∀ (X : World) (v5 dv : Value) (b : Nat), W.grownBy X none → X.ownsRow W.heap.size 126 3 v5 cl (chgCells (n.chg.zip dvs)) → Owns X W.heap.size 5 dv bs → X.heap[b]? = some (.cells #[.bool false, .int .i64 0, dv] 126 (0, 0)) →
                  ∃ a8 c8 w8, (Builtin.append_ #[98, 98] 98 #[v5, .slice (some ⟨b, 0, none⟩) 1 1]).run Tryz.prog X = .ok (.slice a8 (cl + 1) c8) w8 ∧ w8.cell? ⟨q, 7, none⟩ = some (.slice (some ⟨gn, 0, none⟩) nl nvc) ∧ w8.cell? ⟨gn, jn * 2 + 1, none⟩ = some cv ∧ w8.frozen? ⟨gn, jn * 2 + 1, none⟩ = false ∧
                    (w8.setCell ⟨gn, jn * 2 + 1, none⟩ (.slice a8 (cl + 1) c8)).cell? ⟨q, 7, none⟩ = some (.slice (some ⟨gn, 0, none⟩) nl nvc) ∧ Hid (RDone DX R w q { a with count := a.count + 1, nodes := a.nodes.set jn (n.push (.add ⟨bs.toArray⟩)) } (w8.setCell ⟨gn, jn * 2 + 1, none⟩ (.slice a8 (cl + 1) c8)))) := Lib.hid fun X v5 dv b g o5 od eb => by
                obtain ⟨da, dc, hdv⟩ := rowForm od
                obtain ⟨v8, w8, run8, o8, g8⟩ := push_chg v5 (n.chg.zip dvs) (.add ⟨bs.toArray⟩) dv W.heap.size b X (by rw [hdv]; rfl) (by rw [← hcl]; exact o5) g.size (by rw [← hcl]; exact hz65) eb
                obtain ⟨a8, c8, hv8⟩ := rowFormS o8
                rw [← hcl] at hv8
                subst hv8
                have g98 := grown_new g g8 (fun k e => (World.ownsRow.lt o5 k e).1)
                have od8 : Owns w8 W.heap.size 5 dv bs := World.ownsRow.kept od g8 (by
                  cases e : dv.ownBlock with
                  | none => exact .inl rfl
                  | some k => exact .inr (fun e2 => own_own o5 od (by decide) k e2.symm e))
                have dA := h4.moreChg (c := .add ⟨bs.toArray⟩) (dv := dv) gp4 hv hna.out hnv q1 q3 g98 (by rw [← hzl]; exact o8) (OwnR.rw (by
                  show w8.ownsRow W.heap.size 5 1 dv (bs.toArray.toList).length (byteCells bs.toArray.toList)
                  rw [List.toList_toArray]
                  exact od8) gp4.size)
                have c7 := g98.cell e7 (by simp)
                exact ⟨a8, c8, w8, run8, c7, dA.2.1, dA.2.2, (gq w8 gn (jn * 2 + 1) (.slice a8 (cl + 1) c8)).cell c7 (fun e => hqg (by simpa using e)), Lib.hid dA.1⟩
              have hS : Hid (∀ V, W.grownBy V none → V.cell? ⟨q, 7, none⟩ = some (.slice (some ⟨gn, 0, none⟩) nl nvc) ∧ V.cell? ⟨gn, jn * 2 + 1, none⟩ = some cv) := Lib.hid fun V g => ⟨g.cell e7 (by simp), g.cell e1 (by simp)⟩
              have sW := hS.out W (World.grownBy.refl _ none)
              have s7 := sW.1
              have s1 := sW.2
              replace hcl := Lib.hid hcl
              clear h3 gp3 gd h4 gp4 hvl hv hnv hrn rc hfr l1 q1 q2 q3 hzl hone q2r nn hgl hgnQ hqg H5 e7 e1 sW hRB
              subst hW
              refine wp_region_held_drew (S := fun V => V.cell? ⟨q, 7, none⟩ = some (.slice (some ⟨gn, 0, none⟩) nl nvc)) (by kernel_rfl) s7 (fun hS0 => ?_)
              refine wpAnyH_take (i := 0) (oi := ⟨some 65, _, _, _, _, _⟩) (v := ?_) rfl (by kernel_rfl) (by kernel_rfl) (by kernel_rfl) (fun _ _ _ h => h) (Or.inl ⟨by rfl, ?_⟩) (by assumption) ?_
              rotate_left
              · (intro w hSw; (try dsimp only at hSw); go_simp; try with_reducible rfl)
              try simp only [Act.put, List.setIfInBounds_toArray, List.set_cons_zero, List.set_cons_succ]
              refine wpAnyH_take (i := 1) (oi := ⟨some 66, _, _, _, _, _⟩) (v := ?_) rfl (by kernel_rfl) (by kernel_rfl) (by kernel_rfl) (fun _ _ _ h => h) (Or.inl ⟨by rfl, ?_⟩) (by assumption) ?_
              rotate_left
              · (intro w hSw; (try dsimp only at hSw); go_simp; try with_reducible rfl)
              try simp only [Act.put, List.setIfInBounds_toArray, List.set_cons_zero, List.set_cons_succ]
              refine wpAnyH_take (i := 2) (oi := ⟨some 67, _, _, _, _, _⟩) (v := ?_) rfl (by kernel_rfl) (by kernel_rfl) (by kernel_rfl) (fun _ _ _ h => h) (Or.inl ⟨by rfl, ?_⟩) (by assumption) ?_
              rotate_left
              · (intro w hSw; (try dsimp only at hSw); go_simp; try with_reducible rfl)
              try simp only [Act.put, List.setIfInBounds_toArray, List.set_cons_zero, List.set_cons_succ]
              refine wpAnyH_take (i := 3) (oi := ⟨some 68, _, _, _, _, _⟩) (v := ?_) rfl (by kernel_rfl) (by kernel_rfl) (by kernel_rfl) (fun _ _ _ h => h) (Or.inl ⟨by rfl, ?_⟩) (by assumption) ?_
              rotate_left
              · (intro w hSw; (try dsimp only at hSw); go_simp; try with_reducible rfl)
              try simp only [Act.put, List.setIfInBounds_toArray, List.set_cons_zero, List.set_cons_succ]
              refine wpAnyH_take (i := 4) (oi := ⟨some 69, _, _, _, _, _⟩) (v := ?_) rfl (by kernel_rfl) (by kernel_rfl) (by kernel_rfl) (fun _ _ _ h => h) (Or.inl ⟨by rfl, ?_⟩) (by assumption) ?_
              rotate_left
              · (intro w hSw; (try dsimp only at hSw); go_simp; try with_reducible rfl)
              try simp only [Act.put, List.setIfInBounds_toArray, List.set_cons_zero, List.set_cons_succ]
              refine wpAnyH_take (i := 5) (oi := ⟨some 70, _, _, _, _, _⟩) (v := ?_) rfl (by kernel_rfl) (by kernel_rfl) (by kernel_rfl) (fun _ _ _ h => h) (Or.inl ⟨by rfl, ?_⟩) (by assumption) ?_
              rotate_left
              · (intro w hSw; (try dsimp only at hSw); go_simp; try with_reducible rfl)
              try simp only [Act.put, List.setIfInBounds_toArray, List.set_cons_zero, List.set_cons_succ]
              refine wpAnyH_take (i := 6) (oi := ⟨some 71, _, _, _, _, _⟩) (v := ?_) rfl (by kernel_rfl) (by kernel_rfl) (by kernel_rfl) (fun _ _ _ h => h) (Or.inl ⟨by rfl, ?_⟩) (by assumption) ?_
              rotate_left
              · (intro w hSw; (try dsimp only at hSw); go_simp; try with_reducible rfl)
              try simp only [Act.put, List.setIfInBounds_toArray, List.set_cons_zero, List.set_cons_succ]
              refine wpAnyH_take (i := 7) (oi := ⟨some 72, _, _, _, _, _⟩) (v := ?_) rfl (by kernel_rfl) (by kernel_rfl) (by kernel_rfl) (fun _ _ _ h => h) (Or.inl ⟨by rfl, ?_⟩) (by assumption) ?_
              rotate_left
              · (intro w hSw; (try dsimp only at hSw); go_simp; try with_reducible rfl)
              try simp only [Act.put, List.setIfInBounds_toArray, List.set_cons_zero, List.set_cons_succ]
              refine wpAnyH_take (i := 8) (oi := ⟨some 73, _, _, _, _, _⟩) (v := ?_) rfl (by kernel_rfl) (by kernel_rfl) (by kernel_rfl) (fun _ _ _ h => h) (Or.inl ⟨by rfl, ?_⟩) (by assumption) ?_
              rotate_left
              · (intro w hSw; (try dsimp only at hSw); go_simp; try with_reducible rfl)
              try simp only [Act.put, List.setIfInBounds_toArray, List.set_cons_zero, List.set_cons_succ]
              refine wpAnyH_take (i := 9) (oi := ⟨some 74, _, _, _, _, _⟩) (v := ?_) rfl (by kernel_rfl) (by kernel_rfl) (by kernel_rfl) (fun _ _ _ h => h) (Or.inl ⟨by rfl, ?_⟩) (by assumption) ?_
              rotate_left
              · (intro w hSw; (try dsimp only at hSw); go_simp; try with_reducible rfl)
              try simp only [Act.put, List.setIfInBounds_toArray, List.set_cons_zero, List.set_cons_succ]
              refine wpAnyH_take (i := 10) (oi := ⟨some 75, _, _, _, _, _⟩) (v := ?_) rfl (by kernel_rfl) (by kernel_rfl) (by kernel_rfl) (fun _ _ _ h => h) (Or.inl ⟨by rfl, ?_⟩) (by assumption) ?_
              rotate_left
              · (intro w hSw; (try dsimp only at hSw); go_simp; try with_reducible rfl)
              try simp only [Act.put, List.setIfInBounds_toArray, List.set_cons_zero, List.set_cons_succ]
              refine wpAnyH_take (i := 11) (oi := ⟨some 76, _, _, _, _, _⟩) (v := ?_) rfl (by kernel_rfl) (by kernel_rfl) (by kernel_rfl) (fun _ _ _ h => h) (Or.inl ⟨by rfl, ?_⟩) (by assumption) ?_
              rotate_left
              · (intro w hSw; (try dsimp only at hSw); go_simp; try with_reducible rfl)
              try simp only [Act.put, List.setIfInBounds_toArray, List.set_cons_zero, List.set_cons_succ]
              refine wpAnyH_take (i := 14) (oi := ⟨some 79, _, _, _, _, _⟩) (v := ?_) rfl (by kernel_rfl) (by kernel_rfl) (by kernel_rfl) (fun _ _ _ h => h) (Or.inl ⟨by rfl, ?_⟩) (by assumption) ?_
              rotate_left
              · (intro w hSw; (try dsimp only at hSw); go_simp; try with_reducible rfl)
              try simp only [Act.put, List.setIfInBounds_toArray, List.set_cons_zero, List.set_cons_succ]
              refine wpAnyH_ready (rs := [12]) (by kernel_rfl) (by simp) ?_
              refine AllReadyH.cons rfl (fun K hK => ?_) AllReadyH.nil
              go_simp
              refine hK.out _ _ s7 (fun _ => ?_)
              clear hK
              obtain ⟨v5, w6, run6, o6, g6⟩ := CP.out _ (World.grownBy.refl _ none)
              refine wpAnyH_ready (rs := [13]) (by kernel_rfl) (by simp) ?_
              refine AllReadyH.cons rfl (fun K hK => ?_) AllReadyH.nil
              rw [if_pos (by rfl)]
              refine wp_app_run _ _ _ rfl (.slice none 0 0) _ rfl rfl run6 ?_
              refine hK.out _ _ (hS.out _ g6).1 (fun _ => ?_)
              clear hK
              have htw := TW.out w6 g6
              refine wpAnyH_ready (rs := [15]) (by kernel_rfl) (by simp) ?_
              refine AllReadyH.cons rfl (fun K hK => ?_) AllReadyH.nil
              go_simp
              refine htw.mono ?_
              clear htw
              rintro e w7 ⟨xa, xc, rfl, o7, g7⟩
              have g67 := g6.trans g7
              refine hK.out _ _ (hS.out _ g67).1 (fun _ => ?_)
              clear hK
              refine wpAnyH_take (i := 16) (oi := ⟨some 81, _, _, _, _, _⟩) (v := ?_) rfl (by kernel_rfl) (by kernel_rfl) (by kernel_rfl) (fun _ _ _ h => h) (Or.inl ⟨by rfl, ?_⟩) (by assumption) ?_
              rotate_left
              · (intro w hSw; (try dsimp only at hSw); go_simp; try with_reducible rfl)
              try simp only [Act.put, List.setIfInBounds_toArray, List.set_cons_zero, List.set_cons_succ]
              have gX := World.grownBy_alloc w7 (.cells #[.bool false, .int .i64 0, .slice xa bl xc] 126) none
              obtain ⟨a8, c8, w8, run8, z7, z1, zf, z9, FF⟩ := PU.out _ v5 (.slice xa bl xc) w7.heap.size (g67.trans gX) (World.ownsRow.kept (World.ownsRow.kept o6 g7 (by cases v5.ownBlock <;> simp)) gX (by cases v5.ownBlock <;> simp)) (World.ownsRow.kept o7 gX (by cases (Value.slice xa bl xc).ownBlock <;> simp)) (World.alloc_heap_new w7 _)
              have sX := (hS.out _ (g67.trans gX)).1
              clear o6 o7 g6 g7 g67 gX
              refine wpAnyH_ready (rs := [17]) (by kernel_rfl) (by simp) ?_
              refine AllReadyH.cons rfl (fun K hK => ?_) AllReadyH.nil
              go_simp
              refine hK.out _ _ sX (fun _ => ?_)
              clear hK
              refine wpAnyH_ready (rs := [18]) (by kernel_rfl) (by simp) ?_
              refine AllReadyH.cons rfl (fun K hK => ?_) AllReadyH.nil
              rw [if_pos (by rfl)]
              refine wp_app_run _ _ _ rfl v5 _ rfl rfl run8 ?_
              refine hK.out _ _ z7 (fun _ => ?_)
              clear hK
              refine wpAnyH_take (i := 19) (oi := ⟨some 84, _, _, _, _, _⟩) (v := ?_) rfl (by kernel_rfl) (by kernel_rfl) (by kernel_rfl) (fun _ _ _ h => h) (Or.inl ⟨by rfl, ?_⟩) (by assumption) ?_
              rotate_left
              · (intro w hSw; (try dsimp only at hSw); go_simp; try with_reducible rfl)
              try simp only [Act.put, List.setIfInBounds_toArray, List.set_cons_zero, List.set_cons_succ]
              refine wpAnyH_take (i := 20) (oi := ⟨some 85, _, _, _, _, _⟩) (v := ?_) rfl (by kernel_rfl) (by kernel_rfl) (by kernel_rfl) (fun _ _ _ h => h) (Or.inl ⟨by rfl, ?_⟩) (by assumption) ?_
              rotate_left
              · (intro w hSw; (try dsimp only at hSw); go_simp; try with_reducible rfl)
              try simp only [Act.put, List.setIfInBounds_toArray, List.set_cons_zero, List.set_cons_succ]
              refine wpAnyH_ready (rs := [21]) (by kernel_rfl) (by simp) ?_
              refine AllReadyH.cons rfl (fun K hK => ?_) AllReadyH.nil
              go_simp
              refine hK.out _ _ z9 (fun _ => ?_)
              clear hK
              refine wpAnyH_done (by kernel_rfl) ?_ _
              go_wp2_with fail
              go_ret
              exact ⟨rfl, FF.out⟩
        · rw [if_pos rfl]
          go_enter Tryz.func40, Tryz.ntmps40
          go_upto_region 10 with first | (go_at_call 74; refine hb.mono ?_; clear hb; rintro e w1 ⟨rfl, h1⟩; have H1 := Lib.hid (RAny.of h1); clear h1; have hno := H1.out.node s (by show a.dir.length ≤ _; omega); rw [hlk.out] at hno) | (go_at_call 52; refine hno.mono ?_; clear hno; rintro e w2 ⟨rfl, g2⟩; have H2 := Lib.hid (H1.out.new g2); clear H1 g2; obtain ⟨gn, nvc, sv, cv, e7, e0, e1, hda⟩ := H2.out.data FC.out hjl.out; rw [show RefP.file { a with count := a.count + 1 } jn = n from hfn.out.symm] at hda; rw [show ({ a with count := a.count + 1 } : RefP).nodes.length = nl from hnl.out.symm] at e7) | (go_at_call 53; refine hda.mono ?_; clear hda; rintro e w3 ⟨x3, c3, rfl, o3, g3⟩; rw [← hdl.out]; have H3 := Lib.hid (H2.out.new g3); clear H2 g3 o3 e7 e0 e1)
          have HD := Lib.hid (H3.out.new (gdrew (World.grownBy.refl w3 none)))
          have e4 := HD.out.room
          have hfu := HD.out.full
          rw [show ({ a with count := a.count + 1 } : RefP).pl.full.contains ({ a with count := a.count + 1 } : RefP).count = true from hbb.out.symm] at hfu
          rw [show ({ a with count := a.count + 1 } : RefP).pl.room = rm from hrm.out.symm] at e4
          refine wp_region_held_drew (S := fun V => V.cell? ⟨q, 4, none⟩ = some (.int .i64 rm)) (by kernel_rfl) e4 (fun hS0 => ?_)
          refine wpAnyH_take (i := 0) (oi := ⟨some 34, _, _, _, _, _⟩) (v := ?_) rfl (by kernel_rfl) (by kernel_rfl) (by kernel_rfl) (fun _ _ _ h => h) (Or.inl ⟨by rfl, ?_⟩) (by assumption) ?_
          rotate_left
          · (intro w hSw; (try dsimp only at hSw); go_simp; try with_reducible rfl)
          try simp only [Act.put, List.setIfInBounds_toArray, List.set_cons_zero, List.set_cons_succ]
          refine wpAnyH_ready (rs := [1]) (by kernel_rfl) (by simp) ?_
          refine AllReadyH.cons rfl (fun K hK => ?_) AllReadyH.nil
          go_simp
          refine hfu.mono ?_
          clear hfu
          rintro e w4 ⟨rfl, g4⟩
          have H4 := Lib.hid (HD.out.new g4)
          refine hK.out _ _ (g4.cell e4 (by simp)) (fun _ => ?_)
          clear hK
          refine wpAnyH_take (i := 2) (oi := ⟨some 36, _, _, _, _, _⟩) (v := ?_) rfl (by kernel_rfl) (by kernel_rfl) (by kernel_rfl) (fun _ _ _ h => h) (Or.inl ⟨by rfl, ?_⟩) (by assumption) ?_
          rotate_left
          · (intro w hSw; (try dsimp only at hSw); go_simp; try with_reducible rfl)
          try simp only [Act.put, List.setIfInBounds_toArray, List.set_cons_zero, List.set_cons_succ]
          refine wpAnyH_take (i := 3) (oi := ⟨some 37, _, _, _, _, _⟩) (v := undef) rfl (by kernel_rfl) (by kernel_rfl) (by kernel_rfl) (fun _ _ _ h => h) (Or.inr ⟨by rfl, rfl⟩) (by assumption) ?_
          try simp only [Act.put, List.setIfInBounds_toArray, List.set_cons_zero, List.set_cons_succ]
          refine wpAnyH_take (i := 4) (oi := ⟨some 38, _, _, _, _, _⟩) (v := undef) rfl (by kernel_rfl) (by kernel_rfl) (by kernel_rfl) (fun _ _ _ h => h) (Or.inr ⟨by rfl, rfl⟩) (by assumption) ?_
          try simp only [Act.put, List.setIfInBounds_toArray, List.set_cons_zero, List.set_cons_succ]
          refine wpAnyH_take (i := 5) (oi := ⟨some 39, _, _, _, _, _⟩) (v := undef) rfl (by kernel_rfl) (by kernel_rfl) (by kernel_rfl) (fun _ _ _ h => h) (Or.inr ⟨by rfl, rfl⟩) (by assumption) ?_
          try simp only [Act.put, List.setIfInBounds_toArray, List.set_cons_zero, List.set_cons_succ]
          refine wpAnyH_take (i := 6) (oi := ⟨some 40, _, _, _, _, _⟩) (v := undef) rfl (by kernel_rfl) (by kernel_rfl) (by kernel_rfl) (fun _ _ _ h => h) (Or.inr ⟨by rfl, rfl⟩) (by assumption) ?_
          try simp only [Act.put, List.setIfInBounds_toArray, List.set_cons_zero, List.set_cons_succ]
          refine wpAnyH_take (i := 7) (oi := ⟨some 41, _, _, _, _, _⟩) (v := undef) rfl (by kernel_rfl) (by kernel_rfl) (by kernel_rfl) (fun _ _ _ h => h) (Or.inr ⟨by rfl, rfl⟩) (by assumption) ?_
          try simp only [Act.put, List.setIfInBounds_toArray, List.set_cons_zero, List.set_cons_succ]
          refine wpAnyH_take (i := 8) (oi := ⟨some 42, _, _, _, _, _⟩) (v := undef) rfl (by kernel_rfl) (by kernel_rfl) (by kernel_rfl) (fun _ _ _ h => h) (Or.inr ⟨by rfl, rfl⟩) (by assumption) ?_
          try simp only [Act.put, List.setIfInBounds_toArray, List.set_cons_zero, List.set_cons_succ]
          refine wpAnyH_take (i := 9) (oi := ⟨some 43, _, _, _, _, _⟩) (v := undef) rfl (by kernel_rfl) (by kernel_rfl) (by kernel_rfl) (fun _ _ _ h => h) (Or.inr ⟨by rfl, rfl⟩) (by assumption) ?_
          try simp only [Act.put, List.setIfInBounds_toArray, List.set_cons_zero, List.set_cons_succ]
          refine wpAnyH_take (i := 10) (oi := ⟨some 44, _, _, _, _, _⟩) (v := undef) rfl (by kernel_rfl) (by kernel_rfl) (by kernel_rfl) (fun _ _ _ h => h) (Or.inr ⟨by rfl, rfl⟩) (by assumption) ?_
          try simp only [Act.put, List.setIfInBounds_toArray, List.set_cons_zero, List.set_cons_succ]
          refine wpAnyH_take (i := 11) (oi := ⟨some 45, _, _, _, _, _⟩) (v := undef) rfl (by kernel_rfl) (by kernel_rfl) (by kernel_rfl) (fun _ _ _ h => h) (Or.inr ⟨by rfl, rfl⟩) (by assumption) ?_
          try simp only [Act.put, List.setIfInBounds_toArray, List.set_cons_zero, List.set_cons_succ]
          refine wpAnyH_take (i := 12) (oi := ⟨some 46, _, _, _, _, _⟩) (v := undef) rfl (by kernel_rfl) (by kernel_rfl) (by kernel_rfl) (fun _ _ _ h => h) (Or.inr ⟨by rfl, rfl⟩) (by assumption) ?_
          try simp only [Act.put, List.setIfInBounds_toArray, List.set_cons_zero, List.set_cons_succ]
          refine wpAnyH_take (i := 13) (oi := ⟨some 47, _, _, _, _, _⟩) (v := undef) rfl (by kernel_rfl) (by kernel_rfl) (by kernel_rfl) (fun _ _ _ h => h) (Or.inr ⟨by rfl, rfl⟩) (by assumption) ?_
          try simp only [Act.put, List.setIfInBounds_toArray, List.set_cons_zero, List.set_cons_succ]
          refine wpAnyH_take (i := 14) (oi := ⟨some 48, _, _, _, _, _⟩) (v := undef) rfl (by kernel_rfl) (by kernel_rfl) (by kernel_rfl) (fun _ _ _ h => h) (Or.inr ⟨by rfl, rfl⟩) (by assumption) ?_
          try simp only [Act.put, List.setIfInBounds_toArray, List.set_cons_zero, List.set_cons_succ]
          refine wpAnyH_take (i := 15) (oi := ⟨some 49, _, _, _, _, _⟩) (v := undef) rfl (by kernel_rfl) (by kernel_rfl) (by kernel_rfl) (fun _ _ _ h => h) (Or.inr ⟨by rfl, rfl⟩) (by assumption) ?_
          try simp only [Act.put, List.setIfInBounds_toArray, List.set_cons_zero, List.set_cons_succ]
          refine wpAnyH_take (i := 16) (oi := ⟨some 50, _, _, _, _, _⟩) (v := undef) rfl (by kernel_rfl) (by kernel_rfl) (by kernel_rfl) (fun _ _ _ h => h) (Or.inr ⟨by rfl, rfl⟩) (by assumption) ?_
          try simp only [Act.put, List.setIfInBounds_toArray, List.set_cons_zero, List.set_cons_succ]
          refine wpAnyH_take (i := 17) (oi := ⟨some 51, _, _, _, _, _⟩) (v := undef) rfl (by kernel_rfl) (by kernel_rfl) (by kernel_rfl) (fun _ _ _ h => h) (Or.inr ⟨by rfl, rfl⟩) (by assumption) ?_
          try simp only [Act.put, List.setIfInBounds_toArray, List.set_cons_zero, List.set_cons_succ]
          refine wpAnyH_take (i := 18) (oi := ⟨some 52, _, _, _, _, _⟩) (v := undef) rfl (by kernel_rfl) (by kernel_rfl) (by kernel_rfl) (fun _ _ _ h => h) (Or.inr ⟨by rfl, rfl⟩) (by assumption) ?_
          try simp only [Act.put, List.setIfInBounds_toArray, List.set_cons_zero, List.set_cons_succ]
          refine wpAnyH_take (i := 19) (oi := ⟨some 53, _, _, _, _, _⟩) (v := undef) rfl (by kernel_rfl) (by kernel_rfl) (by kernel_rfl) (fun _ _ _ h => h) (Or.inr ⟨by rfl, rfl⟩) (by assumption) ?_
          try simp only [Act.put, List.setIfInBounds_toArray, List.set_cons_zero, List.set_cons_succ]
          refine wpAnyH_take (i := 20) (oi := ⟨some 54, _, _, _, _, _⟩) (v := undef) rfl (by kernel_rfl) (by kernel_rfl) (by kernel_rfl) (fun _ _ _ h => h) (Or.inr ⟨by rfl, rfl⟩) (by assumption) ?_
          try simp only [Act.put, List.setIfInBounds_toArray, List.set_cons_zero, List.set_cons_succ]
          refine wpAnyH_take (i := 21) (oi := ⟨some 55, _, _, _, _, _⟩) (v := undef) rfl (by kernel_rfl) (by kernel_rfl) (by kernel_rfl) (fun _ _ _ h => h) (Or.inr ⟨by rfl, rfl⟩) (by assumption) ?_
          try simp only [Act.put, List.setIfInBounds_toArray, List.set_cons_zero, List.set_cons_succ]
          refine wpAnyH_take (i := 22) (oi := ⟨some 56, _, _, _, _, _⟩) (v := undef) rfl (by kernel_rfl) (by kernel_rfl) (by kernel_rfl) (fun _ _ _ h => h) (Or.inr ⟨by rfl, rfl⟩) (by assumption) ?_
          try simp only [Act.put, List.setIfInBounds_toArray, List.set_cons_zero, List.set_cons_succ]
          refine wpAnyH_take (i := 23) (oi := ⟨some 57, _, _, _, _, _⟩) (v := undef) rfl (by kernel_rfl) (by kernel_rfl) (by kernel_rfl) (fun _ _ _ h => h) (Or.inr ⟨by rfl, rfl⟩) (by assumption) ?_
          try simp only [Act.put, List.setIfInBounds_toArray, List.set_cons_zero, List.set_cons_succ]
          refine wpAnyH_take (i := 24) (oi := ⟨some 58, _, _, _, _, _⟩) (v := undef) rfl (by kernel_rfl) (by kernel_rfl) (by kernel_rfl) (fun _ _ _ h => h) (Or.inr ⟨by rfl, rfl⟩) (by assumption) ?_
          try simp only [Act.put, List.setIfInBounds_toArray, List.set_cons_zero, List.set_cons_succ]
          refine wpAnyH_take (i := 25) (oi := ⟨some 59, _, _, _, _, _⟩) (v := undef) rfl (by kernel_rfl) (by kernel_rfl) (by kernel_rfl) (fun _ _ _ h => h) (Or.inr ⟨by rfl, rfl⟩) (by assumption) ?_
          try simp only [Act.put, List.setIfInBounds_toArray, List.set_cons_zero, List.set_cons_succ]
          refine wpAnyH_take (i := 26) (oi := ⟨some 60, _, _, _, _, _⟩) (v := undef) rfl (by kernel_rfl) (by kernel_rfl) (by kernel_rfl) (fun _ _ _ h => h) (Or.inr ⟨by rfl, rfl⟩) (by assumption) ?_
          try simp only [Act.put, List.setIfInBounds_toArray, List.set_cons_zero, List.set_cons_succ]
          refine wpAnyH_take (i := 27) (oi := ⟨some 61, _, _, _, _, _⟩) (v := ?_) rfl (by kernel_rfl) (by kernel_rfl) (by kernel_rfl) (fun _ _ _ h => h) (Or.inl ⟨by rfl, ?_⟩) (by assumption) ?_
          rotate_left
          · (intro w hSw; (try dsimp only at hSw); go_simp; try with_reducible rfl)
          try simp only [Act.put, List.setIfInBounds_toArray, List.set_cons_zero, List.set_cons_succ]
          refine wpAnyH_done (by kernel_rfl) ?_ _
          go_wp2_with fail
          go_ret
          exact ⟨rfl, H4.out.done⟩
  · rw [if_neg h0]
    have hz : (a.begin.1 == 0) = false := by simpa using h0
    generalize a.begin = b at *
    clear h F
    go_enter Tryz.func40, Tryz.ntmps40
    go_wp2_with (go_at_call 74; go_loud (refine hb.mono ?_; clear hb; rintro e w1 ⟨rfl, h1⟩; have H1 := Lib.hid h1; clear h1))
    go_ret
    exact ⟨rfl, H1.out⟩
end
end Go.Proofs.YtafcgjbafihniaaGreat
