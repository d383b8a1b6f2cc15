/-
  LAYER 1 (fs): the reference's Create.
-/
import Derived.Test.YtafcgjbafihniaaGreatFA16
namespace Go.Proofs.YtafcgjbafihniaaGreat
set_option maxRecDepth 100000
variable {DX : Nat → Prop}
open Go.RowKit Go.Lib
open Go.Proofs (encStr)
attribute [local go_sem] Oper.semAt_some

def RefP.create (a : RefP) (s : ByteArray) : Int × RefP :=
  if a.begin.1 = 0 then
    (if okName s = true then
      (if (a.dir.look s.data.toList).isSome = true then (13, { a with count := a.count + 1 })
      else if 4096 ≤ a.dir.length then (2, { a with count := a.count + 1 })
      else if a.pl.full.contains (a.count + 1) = true then (11, { a with count := a.count + 1 })
      else (0, { a with count := a.count + 1, nodes := a.nodes ++ [⟨[], []⟩], dir := RMv.done a.dir (.made s a.nodes.length), moves := a.moves ++ [.made s a.nodes.length] }))
    else (15, { a with count := a.count + 1 }))
  else a.begin

set_option maxHeartbeats 8000000 in
theorem rcreate_any {R : Nat → Prop} {w : World} {q : Nat} {a : RefP} {r : RefV} {vs : List (Value × Value)} (s : ByteArray) (h : RefOk DX R w q a r vs) (hR : ∀ k, RD R DX k → k < w.heap.size) (F : a.Fits) (hdir : a.dir.length ≤ 65536) (hnn9 : a.nodes.length ≤ 2199023255552) :
    Calls Tryz.prog 39 #[.pointer (some ⟨q, 0, none⟩), .string s] w fun e w' => e = .returned (.int .i64 (a.create s).1) ∧ RDone DX R w q (a.create s).2 w' := by
  have hb := rbegin_any h hR F
  have hRq := h.rq
  unfold RefP.create
  by_cases h0 : a.begin.1 = 0
  · rw [RefP.begin_ok h0, h0] at hb
    rw [if_pos h0]
    have hmv9 := F.moves
    clear h0 h
    have hM := fun W => refMay_any s W
    obtain ⟨ok, hok⟩ : ∃ ok, ok = okName s := ⟨_, rfl⟩
    simp only [← hok] at hM
    rw [← hok]
    replace hok := Lib.hid hok
    obtain ⟨D, hD⟩ : ∃ D, D = a.dir := ⟨_, rfl⟩
    rw [← hD] at hdir
    replace hD := Lib.hid hD
    cases ok
    · rw [if_neg (by simp)]
      go_enter Tryz.func39, Tryz.ntmps39
      go_wp2_with first
        | (go_at_call 74
           refine hb.mono ?_
           clear hb
           rintro e w1 ⟨rfl, ⟨r1, vs1, h1⟩, g1⟩
           have H2 := Lib.hid (RDone.of h1.wide g1)
           clear h1 g1)
        | (go_at_call 75
           refine (hM _).mono ?_
           rintro e w9 ⟨rfl, rfl⟩)
      go_ret
      exact ⟨rfl, H2.out⟩
    · rw [if_pos rfl]
      cases hlk : a.dir.look s.data.toList with
      | some jn =>
        rw [if_pos (by simp)]
        replace hlk := Lib.hid hlk
        have hj0 : ((jn : Int) < 0) = False := by simp
        have hj1 : decide ((0 : Int) ≤ (jn : Int)) = true := by simp
        go_enter Tryz.func39, Tryz.ntmps39
        go_wp2_with first
          | (go_at_call 74
             refine hb.mono ?_
             clear hb
             rintro e w1 ⟨rfl, ⟨r1, vs1, h1⟩, g1⟩
             have hno := node_any q r1 a.dir s w1 h1.at_ h1.rows.rd.1 (by rw [← hD.out]; omega)
             rw [hlk.out, show ptrN (some jn) = (jn : Int) from rfl] at hno
             have H1 := Lib.hid (And.intro h1 g1)
             clear h1 g1)
          | (go_at_call 75
             refine (hM _).mono ?_
             rintro e w9 ⟨rfl, rfl⟩)
          | (go_at_call 52
             refine hno.mono ?_
             clear hno
             rintro e wn ⟨rfl, g2⟩
             have H2 := Lib.hid (RDone.of (H1.out.1.wide.new g2) (H1.out.2.more g2))
             clear H1
             clear g2)
        go_ret
        exact ⟨rfl, H2.out⟩
      | none =>
        rw [if_neg (by simp)]
        replace hlk := Lib.hid hlk
        obtain ⟨dn, hdn⟩ : ∃ dn, dn = D.length := ⟨_, rfl⟩
        rw [← hdn] at hdir
        have hdn2 := hdn
        rw [hD.out] at hdn2
        rw [← hdn2]
        replace hdn := Lib.hid hdn
        replace hdn2 := Lib.hid hdn2
        by_cases hlen : 4096 ≤ dn
        · rw [if_pos hlen]
          have hl1 : decide ((4096 : Int) ≤ (dn : Int)) = true := by simp; omega
          go_enter Tryz.func39, Tryz.ntmps39
          go_wp2_with first
            | (go_at_call 74
               refine hb.mono ?_
               clear hb
               rintro e w1 ⟨rfl, ⟨r1, vs1, h1⟩, g1⟩
               have hno := node_any q r1 a.dir s w1 h1.at_ h1.rows.rd.1 (by rw [← hD.out]; have := hdn.out; omega)
               rw [hlk.out, show ptrN none = -1 from rfl] at hno
               have H1 := Lib.hid (And.intro h1 g1)
               clear h1 g1)
            | (go_at_call 75
               refine (hM _).mono ?_
               rintro e w9 ⟨rfl, rfl⟩)
            | (go_at_call 52
               refine hno.mono ?_
               clear hno
               rintro e wn ⟨rfl, g2⟩
               have h2 := H1.out.1.wide.new g2
               have gp2 := H1.out.2.more g2
               clear H1
               obtain ⟨va, vc, hv⟩ := h2.rows.rd.form
               have x8 := h2.at_.c8
               rw [hv] at x8
               dsimp only at x8
               rw [← hD.out] at x8
               rw [← hdn.out] at x8
               have H2 := Lib.hid (RDone.of h2 gp2)
               clear g2)
          go_ret
          exact ⟨rfl, H2.out⟩
        · rw [if_neg hlen]
          have hl1 : decide ((4096 : Int) ≤ (dn : Int)) = false := by simp; omega
          obtain ⟨bb, hbb⟩ : ∃ bb, bb = a.pl.full.contains (a.count + 1) := ⟨_, rfl⟩
          rw [← hbb]
          replace hbb := Lib.hid hbb
          cases bb
          · rw [if_neg (by simp)]
            obtain ⟨n, hn⟩ : ∃ n, n = a.nodes.length := ⟨_, rfl⟩
            rw [← hn] at hnn9 ⊢
            replace hn := Lib.hid hn
            obtain ⟨nn, hnn⟩ : ∃ nn, nn = n + 1 := ⟨_, rfl⟩
            have hwr : IntKind.i64.wrap ((nn : Int) - 1) = (n : Int) := by rw [show (nn : Int) - 1 = (n : Int) by omega]; exact IntWalk.i64_in _ (by omega)
            replace hnn := Lib.hid hnn
            go_enter Tryz.func39, Tryz.ntmps39
            go_wp2_with first
              | (go_at_call 74
                 refine hb.mono ?_
                 clear hb
                 rintro e w1 ⟨rfl, ⟨r1, vs1, h1⟩, g1⟩
                 have hno := node_any q r1 a.dir s w1 h1.at_ h1.rows.rd.1 (by rw [← hD.out]; have := hdn.out; omega)
                 rw [hlk.out, show ptrN none = -1 from rfl] at hno
                 have H1 := Lib.hid (And.intro h1 g1)
                 clear h1 g1)
              | (go_at_call 75
                 refine (hM _).mono ?_
                 rintro e w9 ⟨rfl, rfl⟩)
              | (go_at_call 52
                 refine hno.mono ?_
                 clear hno
                 rintro e wn ⟨rfl, g2⟩
                 have h2 := H1.out.1.wide.new g2
                 have gp2 := H1.out.2.more g2
                 clear H1
                 obtain ⟨va, vc, hv⟩ := h2.rows.rd.form
                 have x8 := h2.at_.c8
                 rw [hv] at x8
                 dsimp only at x8
                 rw [← hD.out] at x8
                 rw [← hdn.out] at x8
                 have hf := full_any h2
                 dsimp only at hf
                 rw [← hbb.out] at hf
                 clear g2)
              | (go_at_call 76
                 refine hf.mono ?_
                 clear hf
                 rintro e w3 ⟨rfl, m, hw3⟩
                 have gm := gdrewN (World.grownBy.refl wn none) m
                 rw [← hw3] at gm
                 clear hw3
                 have h3 := h2.new gm
                 have gp3 := gp2.more gm
                 obtain ⟨na, nc, hnv⟩ := h3.rows.rn.form
                 dsimp only at hnv
                 rw [← hn.out] at hnv
                 have x7 := h3.at_.c7
                 rw [hnv] at x7
                 have gX0 := World.grownBy_alloc w3 (.cells #[.slice none 0 0, .slice none 0 0] 100) none
                 have eX0 := World.alloc_heap_new w3 (.cells #[.slice none 0 0, .slice none 0 0] 100)
                 have h4 := h3.new gX0
                 have gp4 := gp3.more gX0
                 have hrn := h4.rows.rn
                 dsimp only at hrn
                 rw [hnv, ← hn.out] at hrn
                 obtain ⟨v5, w5, hrun, o5, g5⟩ := push_node (.slice na n nc) n vs1 w3.heap.size w _ hrn gp4.size (by omega) eX0
                 obtain ⟨a5, c5, hv5⟩ := rowFormS o5.1
                 rw [← hnn.out] at hv5
                 subst hv5
                 obtain ⟨h6, at6, gp6⟩ := h4.pushNode (by rw [hnv]; exact g5) (by dsimp only; rw [← hn.out]; exact o5)
                 have y7 := at6.c7
                 have yf7 := at6.free 7
                 rw [hnv] at y7
                 obtain ⟨r6, hr6⟩ : ∃ r6, r6 = { r1 with nodes := .slice a5 nn c5 } := ⟨_, rfl⟩
                 rw [← hr6] at h6
                 have z7 := h6.at_.c7
                 rw [show r6.nodes = .slice a5 nn c5 by rw [hr6]] at z7
                 have z7b := z7
                 have gp2b := gp4.trans gp6 (fun k hk => hk.elim .inl (fun h => .inr h))
                 have FB := Lib.hid (And.intro h6 gp2b)
                 clear h2 gp2 h3 gp3 h4 gp4 gX0 eX0 hrn o5 g5 h6 at6 gp6 gp2b gm x8 hr6 hnv z7b)
              | (at_builtin; refine wpList_app_run rfl _ _ 80 rfl (.slice na n nc) _ rfl rfl hrun ?_)
            obtain ⟨h2, gp2⟩ := FB.out
            obtain ⟨w2, hw2⟩ : ∃ w2, w2 = w5.setCell ⟨q, 7, none⟩ (.slice a5 nn c5) := ⟨_, rfl⟩
            have hsz : w5.heap.size = w2.heap.size := by rw [hw2]; simp
            rw [← hw2] at h2 gp2 ⊢
            rw [hsz]
            have hdir2 : D.length ≤ 65536 := by rw [← hdn.out]; exact hdir
            clear FB x7 y7 yf7 z7 hrun
            replace hw2 := Lib.hid hw2
            replace hdir := hdir2
            obtain ⟨ml, hml⟩ : ∃ ml, ml = a.moves.length := ⟨_, rfl⟩
            obtain ⟨mva, mvc, hmv⟩ := h2.rows.rm.form
            dsimp only at hmv
            rw [← hml] at hmv
            have hmlt := fun r e => (World.ownsRow.lt h2.rows.rm.1 r e).2
            have gY := World.grownBy_alloc w2 (.cells #[.int .i64 1, .string s, .string ⟨#[]⟩, .int .i64 (n : Int)] 123) none
            have eY := World.alloc_heap_new w2 (.cells #[.int .i64 1, .string s, .string ⟨#[]⟩, .int .i64 (n : Int)] 123)
            obtain ⟨Y, hY⟩ : ∃ Y, Y = w2.alloc (.cells #[.int .i64 1, .string s, .string ⟨#[]⟩, .int .i64 (n : Int)] 123) := ⟨_, rfl⟩
            rw [← hY] at gY eY
            have gd := gY.trans (gdrew (World.grownBy.refl Y none))
            have h3 := h2.new gd
            have gp3 := gp2.more gd
            obtain ⟨va, vc, hv⟩ := h3.rows.rd.form
            have hrd := h3.rows.rd
            rw [hv] at hrd
            dsimp only at hv hrd
            rw [← hD.out] at hv hrd
            have x8 := h3.at_.c8
            rw [hv] at x8
            have hmo := moved_any (.made s n) (.slice va D.length vc) D Y.drew hrd.1 (by omega)
            rw [show (RMv.made s n).agg = .agg #[.int .i64 1, .string s, .string ⟨#[]⟩, .int .i64 (n : Int)] from rfl] at hmo
            have b0 : Y.drew.cell? ⟨w2.heap.size, 0, none⟩ = some (.int .i64 1) ∧ Y.drew.cell? ⟨w2.heap.size, 1, none⟩ = some (.string s) ∧ Y.drew.cell? ⟨w2.heap.size, 2, none⟩ = some (.string ⟨#[]⟩) ∧ Y.drew.cell? ⟨w2.heap.size, 3, none⟩ = some (.int .i64 (n : Int)) := by
              refine ⟨?_, ?_, ?_, ?_⟩ <;> (show Y.cell? _ = _; simp [World.cell?, eY])
            have hyq : w2.heap.size ≠ q := by have := lt_of_block h2.at_; omega
            have H3 := Lib.hid h3
            replace hmv := Lib.hid hmv
            replace hmlt := Lib.hid hmlt
            have hyl := Lib.hid (lt_of_block eY)
            replace hml := Lib.hid hml
            replace gp3 := Lib.hid gp3
            clear h2 gp2 gY eY gd hrd hv h3
            rw [← hY]
            replace hY := Lib.hid hY
            refine wp_region_held_drew (S := fun V => V.cell? ⟨w2.heap.size, 0, none⟩ = some (.int .i64 1) ∧ V.cell? ⟨w2.heap.size, 1, none⟩ = some (.string s) ∧ V.cell? ⟨w2.heap.size, 2, none⟩ = some (.string ⟨#[]⟩) ∧ V.cell? ⟨w2.heap.size, 3, none⟩ = some (.int .i64 (n : Int))) (by kernel_rfl) b0 (fun hS0 => ?_)
            refine wpAnyH_take (i := 0) (oi := ⟨some 49, _, _, _, _, _⟩) (v := ?_) rfl (by kernel_rfl) (by kernel_rfl) (by kernel_rfl) (fun _ _ _ h => h) (Or.inl ⟨by rfl, ?_⟩) (by assumption) ?_
            rotate_left
            · (intro w hSw; (try dsimp only at hSw); go_simp; try with_reducible rfl)
            try simp only [Act.put, List.setIfInBounds_toArray, List.set_cons_zero, List.set_cons_succ]
            refine wpAnyH_take (i := 1) (oi := ⟨some 50, _, _, _, _, _⟩) (v := ?_) rfl (by kernel_rfl) (by kernel_rfl) (by kernel_rfl) (fun _ _ _ h => h) (Or.inl ⟨by rfl, ?_⟩) (by assumption) ?_
            rotate_left
            · (intro w hSw; (try dsimp only at hSw); go_simp; try with_reducible rfl)
            try simp only [Act.put, List.setIfInBounds_toArray, List.set_cons_zero, List.set_cons_succ]
            refine wpAnyH_take (i := 2) (oi := ⟨some 51, _, _, _, _, _⟩) (v := ?_) rfl (by kernel_rfl) (by kernel_rfl) (by kernel_rfl) (fun _ _ _ h => h) (Or.inl ⟨by rfl, ?_⟩) (by assumption) ?_
            rotate_left
            · (intro w hSw; (try dsimp only at hSw); go_simp; try with_reducible rfl)
            try simp only [Act.put, List.setIfInBounds_toArray, List.set_cons_zero, List.set_cons_succ]
            refine wpAnyH_take (i := 3) (oi := ⟨some 52, _, _, _, _, _⟩) (v := ?_) rfl (by kernel_rfl) (by kernel_rfl) (by kernel_rfl) (fun _ _ _ h => h) (Or.inl ⟨by rfl, ?_⟩) (by assumption) ?_
            rotate_left
            · (intro w hSw; (try dsimp only at hSw); go_simp; try with_reducible rfl)
            try simp only [Act.put, List.setIfInBounds_toArray, List.set_cons_zero, List.set_cons_succ]
            refine wpAnyH_take (i := 5) (oi := ⟨some 54, _, _, _, _, _⟩) (v := ?_) rfl (by kernel_rfl) (by kernel_rfl) (by kernel_rfl) (fun _ _ _ h => h) (Or.inl ⟨by rfl, ?_⟩) (by assumption) ?_
            rotate_left
            · (intro w hSw; (try dsimp only at hSw); go_simp; try with_reducible rfl)
            try simp only [Act.put, List.setIfInBounds_toArray, List.set_cons_zero, List.set_cons_succ]
            refine wpAnyH_ready (rs := [4]) (by kernel_rfl) (by simp) ?_
            refine AllReadyH.cons rfl (fun K hK => ?_) AllReadyH.nil
            go_simp
            refine hK.out _ _ hS0 (fun _ => ?_)
            clear hK
            refine wpAnyH_ready (rs := [6]) (by kernel_rfl) (by simp) ?_
            refine AllReadyH.cons rfl (fun K hK => ?_) AllReadyH.nil
            go_simp
            refine hmo.mono ?_
            clear hmo
            rintro e W5 ⟨v5, rfl, o5, g5⟩
            have h5 := H3.out.new g5
            have hS5 : W5.cell? ⟨w2.heap.size, 0, none⟩ = some (.int .i64 1) ∧ W5.cell? ⟨w2.heap.size, 1, none⟩ = some (.string s) ∧ W5.cell? ⟨w2.heap.size, 2, none⟩ = some (.string ⟨#[]⟩) ∧ W5.cell? ⟨w2.heap.size, 3, none⟩ = some (.int .i64 (n : Int)) := ⟨g5.cell hS0.1 (by simp), g5.cell hS0.2.1 (by simp), g5.cell hS0.2.2.1 (by simp), g5.cell hS0.2.2.2 (by simp)⟩
            obtain ⟨a5, c5, rfl⟩ := rowFormS o5
            have y8 := h5.at_.c8
            have yf := h5.at_.free 8
            have h6 := h5.setDir (OwnR.rw o5 gp3.out.size)
            have g6 := gq W5 q 8 (.slice a5 (RMv.done D (.made s n)).length c5)
            have hS6 : ∀ u, (W5.setCell ⟨q, 8, none⟩ u).cell? ⟨w2.heap.size, 0, none⟩ = some (.int .i64 1) ∧ (W5.setCell ⟨q, 8, none⟩ u).cell? ⟨w2.heap.size, 1, none⟩ = some (.string s) ∧ (W5.setCell ⟨q, 8, none⟩ u).cell? ⟨w2.heap.size, 2, none⟩ = some (.string ⟨#[]⟩) ∧ (W5.setCell ⟨q, 8, none⟩ u).cell? ⟨w2.heap.size, 3, none⟩ = some (.int .i64 (n : Int)) := fun u =>
              ⟨(gq W5 q 8 u).cell hS5.1 (by simp; omega), (gq W5 q 8 u).cell hS5.2.1 (by simp; omega), (gq W5 q 8 u).cell hS5.2.2.1 (by simp; omega), (gq W5 q 8 u).cell hS5.2.2.2 (by simp; omega)⟩
            have gp6 := Lib.hid ((gp3.out.more g5).step g6 (fun k e => by cases e; exact .inl hRq))
            have H6 := Lib.hid h6
            have hz6 : Hid (w2.heap.size < W5.heap.size) := Lib.hid (Nat.lt_of_lt_of_le hyl.out g5.size)
            clear h5 h6 g5 g6 o5 H3 gp3
            go_wp2_with fail
            refine hK.out _ _ hS5 (fun hS7 => ?_)
            clear hK
            refine wpAnyH_take (i := 7) (oi := ⟨some 56, _, _, _, _, _⟩) (v := ?_) rfl (by kernel_rfl) (by kernel_rfl) (by kernel_rfl) (fun _ _ _ h => h) (Or.inl ⟨by rfl, ?_⟩) (by assumption) ?_
            rotate_left
            · (intro w hSw; (try dsimp only at hSw); go_simp; try with_reducible rfl)
            try simp only [Act.put, List.setIfInBounds_toArray, List.set_cons_zero, List.set_cons_succ]
            refine wpAnyH_take (i := 8) (oi := ⟨some 57, _, _, _, _, _⟩) (v := ?_) rfl (by kernel_rfl) (by kernel_rfl) (by kernel_rfl) (fun _ _ _ h => h) (Or.inl ⟨by rfl, ?_⟩) (by assumption) ?_
            rotate_left
            · (intro w hSw; (try dsimp only at hSw); go_simp; try with_reducible rfl)
            try simp only [Act.put, List.setIfInBounds_toArray, List.set_cons_zero, List.set_cons_succ]
            refine wpAnyH_ready (rs := [9]) (by kernel_rfl) (by simp) ?_
            refine AllReadyH.cons rfl (fun K hK => ?_) AllReadyH.nil
            go_simp
            refine hK.out _ _ (hS6 _) (fun _ => ?_)
            clear hK
            refine wpAnyH_done (by kernel_rfl) ?_ _
            obtain ⟨dl, hdl⟩ : ∃ dl, dl = (RMv.done D (.made s n)).length := ⟨_, rfl⟩
            rw [← hdl] at H6 gp6 ⊢
            have hT := hS6 (.slice a5 dl c5)
            obtain ⟨W6, hW6⟩ : ∃ W6, W6 = W5.setCell ⟨q, 8, none⟩ (.slice a5 dl c5) := ⟨_, rfl⟩
            rw [← hW6] at H6 gp6 hT
            have hz7 : w2.heap.size < W6.heap.size := by rw [hW6]; exact Nat.lt_of_lt_of_le hz6.out (gq W5 q 8 _).size
            clear hS0 hS5 hS6 hS7 b0 x8 y8 yf hz6
            go_wp2_with fail
            rw [← hW6]
            replace hW6 := Lib.hid hW6
            have gd := gdrew (World.grownBy.refl W6 none)
            have gX := World.grownBy_alloc W6.drew (.cells #[.int .i64 1, .string s, .string ⟨#[]⟩, .int .i64 (n : Int)] 123) none
            have eX := World.alloc_heap_new W6.drew (.cells #[.int .i64 1, .string s, .string ⟨#[]⟩, .int .i64 (n : Int)] 123)
            obtain ⟨X, hX⟩ : ∃ X, X = W6.drew.alloc (.cells #[.int .i64 1, .string s, .string ⟨#[]⟩, .int .i64 (n : Int)] 123) := ⟨_, rfl⟩
            rw [← hX] at gX eX
            have hd7 := H6.out.new gd
            have h7 := hd7.new gX
            have gp7 := (gp6.out.more gd).more gX
            have hrm := h7.rows.rm
            dsimp only at hrm
            rw [hmv.out, hml.out] at hrm
            obtain ⟨v8, w8, hrun8, o8, g8⟩ := push_move (.slice mva a.moves.length mvc) a.moves (.made s n) W6.drew.heap.size w X hrm gp7.size hmv9 eX
            obtain ⟨nl, hnl⟩ : ∃ nl, nl = (a.moves ++ [RMv.made s n]).length := ⟨_, rfl⟩
            obtain ⟨a8, c8, hv8⟩ := rowFormS o8.1
            rw [← hnl] at hv8
            subst hv8
            replace hnl := Lib.hid hnl
            rw [← hml.out] at hrun8 g8
            have g8' : X.grownBy w8 (Value.ownBlock { r6 with dir := .slice a5 dl c5 }.moves) := by dsimp only; rw [hmv.out]; exact g8
            obtain ⟨h9, at9, gp9⟩ := h7.pushMove g8' o8
            have x10 : W6.drew.cell? ⟨q, 10, none⟩ = some (.slice mva ml mvc) := by rw [← hmv.out]; exact hd7.at_.c10
            have x10b : X.cell? ⟨q, 10, none⟩ = some (.slice mva ml mvc) := gX.cell x10 (by simp)
            have y10 := at9.c10
            have yf10 := at9.free 10
            dsimp only at y10
            have hT7 : W6.drew.cell? ⟨w2.heap.size, 0, none⟩ = some (.int .i64 1) ∧ W6.drew.cell? ⟨w2.heap.size, 1, none⟩ = some (.string s) ∧ W6.drew.cell? ⟨w2.heap.size, 2, none⟩ = some (.string ⟨#[]⟩) ∧ W6.drew.cell? ⟨w2.heap.size, 3, none⟩ = some (.int .i64 (n : Int)) := hT
            have hT8 : X.cell? ⟨w2.heap.size, 0, none⟩ = some (.int .i64 1) ∧ X.cell? ⟨w2.heap.size, 1, none⟩ = some (.string s) ∧ X.cell? ⟨w2.heap.size, 2, none⟩ = some (.string ⟨#[]⟩) ∧ X.cell? ⟨w2.heap.size, 3, none⟩ = some (.int .i64 (n : Int)) := ⟨gX.cell hT7.1 (by simp), gX.cell hT7.2.1 (by simp), gX.cell hT7.2.2.1 (by simp), gX.cell hT7.2.2.2 (by simp)⟩
            have hmo9 : (Value.slice mva ml mvc).ownBlock ≠ some w2.heap.size := fun e => by have := hmlt.out _ (by rw [hmv.out]; exact e); omega
            have hT9 : w8.cell? ⟨w2.heap.size, 0, none⟩ = some (.int .i64 1) ∧ w8.cell? ⟨w2.heap.size, 1, none⟩ = some (.string s) ∧ w8.cell? ⟨w2.heap.size, 2, none⟩ = some (.string ⟨#[]⟩) ∧ w8.cell? ⟨w2.heap.size, 3, none⟩ = some (.int .i64 (n : Int)) := ⟨g8.cell hT8.1 (fun e => hmo9 (by simpa using e.symm)), g8.cell hT8.2.1 (fun e => hmo9 (by simpa using e.symm)), g8.cell hT8.2.2.1 (fun e => hmo9 (by simpa using e.symm)), g8.cell hT8.2.2.2 (fun e => hmo9 (by simpa using e.symm))⟩
            have gq9 := gq w8 q 10 (.slice a8 nl c8)
            have hTA : (w8.setCell ⟨q, 10, none⟩ (.slice a8 nl c8)).cell? ⟨w2.heap.size, 0, none⟩ = some (.int .i64 1) ∧ (w8.setCell ⟨q, 10, none⟩ (.slice a8 nl c8)).cell? ⟨w2.heap.size, 1, none⟩ = some (.string s) ∧ (w8.setCell ⟨q, 10, none⟩ (.slice a8 nl c8)).cell? ⟨w2.heap.size, 2, none⟩ = some (.string ⟨#[]⟩) ∧ (w8.setCell ⟨q, 10, none⟩ (.slice a8 nl c8)).cell? ⟨w2.heap.size, 3, none⟩ = some (.int .i64 (n : Int)) := ⟨gq9.cell hT9.1 (by simp; omega), gq9.cell hT9.2.1 (by simp; omega), gq9.cell hT9.2.2.1 (by simp; omega), gq9.cell hT9.2.2.2 (by simp; omega)⟩
            have FF := Lib.hid (RDone.of h9 (gp7.trans gp9 (fun k hk => hk.elim .inl (fun h => .inr h))))
            clear H6 gp6 gd gX eX h7 gp7 hrm o8 g8 g8' h9 at9 gp9 gq9 hd7 hmo9 hT
            subst hX
            have x10c : (W6.alloc (.cells #[.int .i64 1, .string s, .string ⟨#[]⟩, .int .i64 (n : Int)] 123)).cell? ⟨q, 10, none⟩ = some (.slice mva ml mvc) := x10b
            refine wp_region_held_drew (S := fun V => V.cell? ⟨w2.heap.size, 0, none⟩ = some (.int .i64 1) ∧ V.cell? ⟨w2.heap.size, 1, none⟩ = some (.string s) ∧ V.cell? ⟨w2.heap.size, 2, none⟩ = some (.string ⟨#[]⟩) ∧ V.cell? ⟨w2.heap.size, 3, none⟩ = some (.int .i64 (n : Int))) (by kernel_rfl) hT7 (fun hS0 => ?_)
            refine wpAnyH_take (i := 0) (oi := ⟨some 58, _, _, _, _, _⟩) (v := ?_) rfl (by kernel_rfl) (by kernel_rfl) (by kernel_rfl) (fun _ _ _ h => h) (Or.inl ⟨by rfl, ?_⟩) (by assumption) ?_
            rotate_left
            · (intro w hSw; (try dsimp only at hSw); go_simp; try with_reducible rfl)
            try simp only [Act.put, List.setIfInBounds_toArray, List.set_cons_zero, List.set_cons_succ]
            refine wpAnyH_take (i := 1) (oi := ⟨some 59, _, _, _, _, _⟩) (v := ?_) rfl (by kernel_rfl) (by kernel_rfl) (by kernel_rfl) (fun _ _ _ h => h) (Or.inl ⟨by rfl, ?_⟩) (by assumption) ?_
            rotate_left
            · (intro w hSw; (try dsimp only at hSw); go_simp; try with_reducible rfl)
            try simp only [Act.put, List.setIfInBounds_toArray, List.set_cons_zero, List.set_cons_succ]
            refine wpAnyH_take (i := 2) (oi := ⟨some 60, _, _, _, _, _⟩) (v := ?_) rfl (by kernel_rfl) (by kernel_rfl) (by kernel_rfl) (fun _ _ _ h => h) (Or.inl ⟨by rfl, ?_⟩) (by assumption) ?_
            rotate_left
            · (intro w hSw; (try dsimp only at hSw); go_simp; try with_reducible rfl)
            try simp only [Act.put, List.setIfInBounds_toArray, List.set_cons_zero, List.set_cons_succ]
            refine wpAnyH_take (i := 3) (oi := ⟨some 61, _, _, _, _, _⟩) (v := ?_) rfl (by kernel_rfl) (by kernel_rfl) (by kernel_rfl) (fun _ _ _ h => h) (Or.inl ⟨by rfl, ?_⟩) (by assumption) ?_
            rotate_left
            · (intro w hSw; (try dsimp only at hSw); go_simp; try with_reducible rfl)
            try simp only [Act.put, List.setIfInBounds_toArray, List.set_cons_zero, List.set_cons_succ]
            refine wpAnyH_take (i := 5) (oi := ⟨some 63, _, _, _, _, _⟩) (v := ?_) rfl (by kernel_rfl) (by kernel_rfl) (by kernel_rfl) (fun _ _ _ h => h) (Or.inl ⟨by rfl, ?_⟩) (by assumption) ?_
            rotate_left
            · (intro w hSw; (try dsimp only at hSw); go_simp; try with_reducible rfl)
            try simp only [Act.put, List.setIfInBounds_toArray, List.set_cons_zero, List.set_cons_succ]
            refine wpAnyH_ready (rs := [4, 6]) (by kernel_rfl) (by simp) ?_
            refine AllReadyH.cons rfl (fun K hK => ?_) (AllReadyH.cons rfl (fun K hK => ?_) AllReadyH.nil)
            · go_simp
              refine hK.out _ _ hS0 (fun _ => ?_)
              clear hK
              refine wpAnyH_ready (rs := [6]) (by kernel_rfl) (by simp) ?_
              refine AllReadyH.cons rfl (fun K hK => ?_) AllReadyH.nil
              go_simp
              refine hK.out _ _ hT8 (fun _ => ?_)
              clear hK
              refine wpAnyH_ready (rs := [7]) (by kernel_rfl) (by simp) ?_
              refine AllReadyH.cons rfl (fun K hK => ?_) AllReadyH.nil
              rw [if_pos (by rfl)]
              refine wp_app_run _ _ _ rfl (.slice mva ml mvc) _ rfl rfl hrun8 ?_
              refine hK.out _ _ hT9 (fun _ => ?_)
              clear hK
              refine wpAnyH_take (i := 8) (oi := ⟨some 66, _, _, _, _, _⟩) (v := ?_) rfl (by kernel_rfl) (by kernel_rfl) (by kernel_rfl) (fun _ _ _ h => h) (Or.inl ⟨by rfl, ?_⟩) (by assumption) ?_
              rotate_left
              · (intro w hSw; (try dsimp only at hSw); go_simp; try with_reducible rfl)
              try simp only [Act.put, List.setIfInBounds_toArray, List.set_cons_zero, List.set_cons_succ]
              refine wpAnyH_take (i := 9) (oi := ⟨some 67, _, _, _, _, _⟩) (v := ?_) rfl (by kernel_rfl) (by kernel_rfl) (by kernel_rfl) (fun _ _ _ h => h) (Or.inl ⟨by rfl, ?_⟩) (by assumption) ?_
              rotate_left
              · (intro w hSw; (try dsimp only at hSw); go_simp; try with_reducible rfl)
              try simp only [Act.put, List.setIfInBounds_toArray, List.set_cons_zero, List.set_cons_succ]
              refine wpAnyH_ready (rs := [10]) (by kernel_rfl) (by simp) ?_
              refine AllReadyH.cons rfl (fun K hK => ?_) AllReadyH.nil
              go_simp
              refine hK.out _ _ hTA (fun _ => ?_)
              clear hK
              refine wpAnyH_done (by kernel_rfl) ?_ _
              go_wp2_with fail
              go_ret
              have FG := FF.out
              rw [hD.out] at FG
              exact ⟨rfl, FG⟩
            · go_simp
              refine hK.out _ _ hT8 (fun _ => ?_)
              clear hK
              refine wpAnyH_ready (rs := [4]) (by kernel_rfl) (by simp) ?_
              refine AllReadyH.cons rfl (fun K hK => ?_) AllReadyH.nil
              go_simp
              refine hK.out _ _ hT8 (fun _ => ?_)
              clear hK
              refine wpAnyH_ready (rs := [7]) (by kernel_rfl) (by simp) ?_
              refine AllReadyH.cons rfl (fun K hK => ?_) AllReadyH.nil
              rw [if_pos (by rfl)]
              refine wp_app_run _ _ _ rfl (.slice mva ml mvc) _ rfl rfl hrun8 ?_
              refine hK.out _ _ hT9 (fun _ => ?_)
              clear hK
              refine wpAnyH_take (i := 8) (oi := ⟨some 66, _, _, _, _, _⟩) (v := ?_) rfl (by kernel_rfl) (by kernel_rfl) (by kernel_rfl) (fun _ _ _ h => h) (Or.inl ⟨by rfl, ?_⟩) (by assumption) ?_
              rotate_left
              · (intro w hSw; (try dsimp only at hSw); go_simp; try with_reducible rfl)
              try simp only [Act.put, List.setIfInBounds_toArray, List.set_cons_zero, List.set_cons_succ]
              refine wpAnyH_take (i := 9) (oi := ⟨some 67, _, _, _, _, _⟩) (v := ?_) rfl (by kernel_rfl) (by kernel_rfl) (by kernel_rfl) (fun _ _ _ h => h) (Or.inl ⟨by rfl, ?_⟩) (by assumption) ?_
              rotate_left
              · (intro w hSw; (try dsimp only at hSw); go_simp; try with_reducible rfl)
              try simp only [Act.put, List.setIfInBounds_toArray, List.set_cons_zero, List.set_cons_succ]
              refine wpAnyH_ready (rs := [10]) (by kernel_rfl) (by simp) ?_
              refine AllReadyH.cons rfl (fun K hK => ?_) AllReadyH.nil
              go_simp
              refine hK.out _ _ hTA (fun _ => ?_)
              clear hK
              refine wpAnyH_done (by kernel_rfl) ?_ _
              go_wp2_with fail
              go_ret
              have FG := FF.out
              rw [hD.out] at FG
              exact ⟨rfl, FG⟩
          · rw [if_pos rfl]
            go_enter Tryz.func39, Tryz.ntmps39
            go_wp2_with first
              | (go_at_call 74
                 refine hb.mono ?_
                 clear hb
                 rintro e w1 ⟨rfl, ⟨r1, vs1, h1⟩, g1⟩
                 have hno := node_any q r1 a.dir s w1 h1.at_ h1.rows.rd.1 (by rw [← hD.out]; have := hdn.out; omega)
                 rw [hlk.out, show ptrN none = -1 from rfl] at hno
                 have H1 := Lib.hid (And.intro h1 g1)
                 clear h1 g1)
              | (go_at_call 75
                 refine (hM _).mono ?_
                 rintro e w9 ⟨rfl, rfl⟩)
              | (go_at_call 52
                 refine hno.mono ?_
                 clear hno
                 rintro e wn ⟨rfl, g2⟩
                 have h2 := H1.out.1.wide.new g2
                 have gp2 := H1.out.2.more g2
                 clear H1
                 obtain ⟨va, vc, hv⟩ := h2.rows.rd.form
                 have x8 := h2.at_.c8
                 rw [hv] at x8
                 dsimp only at x8
                 rw [← hD.out] at x8
                 rw [← hdn.out] at x8
                 have hf := full_any h2
                 dsimp only at hf
                 rw [← hbb.out] at hf
                 clear g2)
              | (go_at_call 76
                 refine hf.mono ?_
                 clear hf
                 rintro e w3 ⟨rfl, m, hw3⟩
                 have gm := gdrewN (World.grownBy.refl wn none) m
                 rw [← hw3] at gm
                 clear hw3
                 have H2 := Lib.hid (RDone.of (h2.new gm) (gp2.more gm))
                 clear h2 gp2)
            go_ret
            exact ⟨rfl, H2.out⟩
  · rw [if_neg h0]
    have hz : (a.begin.1 == 0) = false := by simpa using h0
    generalize a.begin = b at *
    clear h F
    go_enter Tryz.func39, Tryz.ntmps39
    go_wp2_with (go_at_call 74; go_loud (refine hb.mono ?_; clear hb; rintro e w1 ⟨rfl, h1⟩; have H1 := Lib.hid h1; clear h1))
    go_ret
    exact ⟨rfl, H1.out⟩
end Go.Proofs.YtafcgjbafihniaaGreat

/-
  LAYER 1 (fs): the reference's Sync.
-/
namespace Go.Proofs.YtafcgjbafihniaaGreat
set_option maxRecDepth 100000
variable {DX : Nat → Prop}
open Go.RowKit Go.Lib
open Go.Proofs (encStr)
attribute [local go_sem] Oper.semAt_some

def NodeP.synced (n : NodeP) : NodeP := ⟨n.data, []⟩
def RefP.sync (a : RefP) (s : ByteArray) : Int × RefP :=
  if a.begin.1 = 0 then (match a.dir.look s.data.toList with
    | none => (14, { a with count := a.count + 1 })
    | some j => (0, { a with count := a.count + 1, nodes := a.nodes.set j (a.nodes.getD j ⟨[], []⟩).synced }))
  else a.begin

set_option maxHeartbeats 8000000 in
theorem rsync_any {R : Nat → Prop} {w : World} {q : Nat} {a : RefP} {r : RefV} {vs : List (Value × Value)} (s : ByteArray) (h : RefOk DX R w q a r vs) (hR : ∀ k, RD R DX k → k < w.heap.size) (F : a.Fits) (hdir : a.dir.length ≤ 65536) (hdl : ∀ x j, a.dir.look x = some j → j < a.nodes.length) :
    Calls Tryz.prog 42 #[.pointer (some ⟨q, 0, none⟩), .string s] w fun e w' => e = .returned (.int .i64 (a.sync s).1) ∧ RDone DX R w q (a.sync s).2 w' := by
  have hb := rbegin_any h hR F
  unfold RefP.sync
  by_cases h0 : a.begin.1 = 0
  · rw [RefP.begin_ok h0, h0] at hb
    rw [if_pos h0]
    clear h0 h
    cases hlk : a.dir.look s.data.toList with
    | none =>
      dsimp only
      replace hlk := Lib.hid hlk
      go_enter Tryz.func42, Tryz.ntmps42
      go_wp2_with first
        | (go_at_call 74
           refine hb.mono ?_
           clear hb
           rintro e w1 ⟨rfl, ⟨r1, vs1, h1⟩, g1⟩
           have hno := node_any q r1 a.dir s w1 h1.at_ h1.rows.rd.1 (by omega)
           rw [hlk.out, show ptrN none = -1 from rfl] at hno
           have H1 := Lib.hid (And.intro h1 g1)
           clear h1 g1)
        | (go_at_call 52
           refine hno.mono ?_
           clear hno
           rintro e w2 ⟨rfl, g2⟩
           have H2 := Lib.hid (RDone.of (H1.out.1.wide.new g2) (H1.out.2.more g2))
           clear H1 g2)
      go_ret
      exact ⟨rfl, H2.out⟩
    | some jn =>
      dsimp only
      have hj0 : ((jn : Int) < 0) = False := by simp
      have hjl := hdl _ _ hlk
      replace hlk := Lib.hid hlk
      obtain ⟨n, hn⟩ : ∃ n, a.nodes[jn]? = some n := ⟨_, List.getElem?_eq_getElem hjl⟩
      rw [show a.nodes.getD jn ⟨[], []⟩ = n by rw [List.getD_eq_getElem?_getD, hn]; rfl]
      have hgood := F.good n (List.mem_of_getElem? hn)
      have hcl : n.chg.length < 4611686018427387904 := by have := chgSum_set [] a.nodes jn n hn; have := F.sum; omega
      obtain ⟨nl, hnl⟩ : ∃ nl, nl = a.nodes.length := ⟨_, rfl⟩
      have hjz : (jn : Int) < (nl : Int) := by omega
      replace hnl := Lib.hid hnl
      replace hgood := Lib.hid hgood
      go_enter Tryz.func42, Tryz.ntmps42
      go_wp2_with first
        | (go_at_call 74
           refine hb.mono ?_
           clear hb
           rintro e w1 ⟨rfl, ⟨r1, vs1, h1⟩, g1⟩
           have hno := node_any q r1 a.dir s w1 h1.at_ h1.rows.rd.1 (by omega)
           rw [hlk.out, show ptrN (some jn) = (jn : Int) from rfl] at hno
           have H1 := Lib.hid (And.intro h1 g1)
           clear h1 g1)
        | (go_at_call 52
           refine hno.mono ?_
           clear hno
           rintro e w2 ⟨rfl, g2⟩
           have h2 := H1.out.1.wide.new g2
           have gp2 := H1.out.2.more g2
           clear H1 g2)
      have gd := gdrew (World.grownBy.refl w2 none)
      have h3 := h2.new gd
      have gp3 := gp2.more gd
      have hrows := h3.rows
      have hvl := hrows.vl
      dsimp only at hvl
      obtain ⟨⟨sv, cv⟩, hv⟩ : ∃ v, vs1[jn]? = some v := ⟨_, List.getElem?_eq_getElem (by omega)⟩
      have hND := hrows.node jn (sv, cv) n hv hn
      dsimp only at hND
      obtain ⟨nva, nvc, hnv⟩ := hrows.rn.form
      have hrn := hrows.rn
      rw [hnv] at hrn
      dsimp only at hrn hnv
      rw [← hnl.out] at hrn hnv
      obtain ⟨gn, rfl, hgnQ, hgl, rc, hfr⟩ := hrn.cell (by omega)
      have l0 := (flat_at (fun x : Value × Value => [x.1, x.2]) 2 (fun _ => rfl) vs1 jn _ hv) 0 (by omega)
      have l1 := (flat_at (fun x : Value × Value => [x.1, x.2]) 2 (fun _ => rfl) vs1 jn _ hv) 1 (by omega)
      have e0 : w2.drew.cell? ⟨gn, jn * 2, none⟩ = some sv := by rw [rc _ (by omega)]; simpa [nodeCells] using l0
      have e1 : w2.drew.cell? ⟨gn, jn * 2 + 1, none⟩ = some cv := by rw [rc _ (by omega)]; simpa [nodeCells] using l1
      have e7 : w2.drew.cell? ⟨q, 7, none⟩ = some (.slice (some ⟨gn, 0, none⟩) nl nvc) := by rw [← hnv]; exact h3.at_.c7
      have hda := data_any (RD (RW R w) DX) sv cv n w2.drew hND hgood.out.1 hgood.out.2 hcl
      have hqg : q ≠ gn := fun e => by
        subst e
        obtain ⟨c', fr, h9⟩ := own_obj hrn.1 q rfl
        have := apart_obj h9 (show _ = _ from h3.at_)
        simp at this
      have H3 := Lib.hid h3
      have GP3 := Lib.hid gp3
      have HN := Lib.hid hnv
      have Q3 := Lib.hid hgnQ
      replace hv := Lib.hid hv
      replace hn := Lib.hid hn
      clear h2 gp2 h3 gp3 hrows hND hrn rc l0 l1 gd hvl hnv hgnQ hfr
      refine wp_region_held_drew (S := fun V => V.cell? ⟨q, 7, none⟩ = some (.slice (some ⟨gn, 0, none⟩) nl nvc)) (by kernel_rfl) e7 (fun hS0 => ?_)
      refine wpAnyH_take (i := 0) (oi := ⟨some 17, _, _, _, _, _⟩) (v := ?_) rfl (by kernel_rfl) (by kernel_rfl) (by kernel_rfl) (fun _ _ _ h => h) (Or.inl ⟨by rfl, ?_⟩) (by assumption) ?_
      rotate_left
      · (intro w hSw; (try dsimp only at hSw); go_simp; try with_reducible rfl)
      try simp only [Act.put, List.setIfInBounds_toArray, List.set_cons_zero, List.set_cons_succ]
      refine wpAnyH_take (i := 1) (oi := ⟨some 18, _, _, _, _, _⟩) (v := ?_) rfl (by kernel_rfl) (by kernel_rfl) (by kernel_rfl) (fun _ _ _ h => h) (Or.inl ⟨by rfl, ?_⟩) (by assumption) ?_
      rotate_left
      · (intro w hSw; (try dsimp only at hSw); go_simp; try with_reducible rfl)
      try simp only [Act.put, List.setIfInBounds_toArray, List.set_cons_zero, List.set_cons_succ]
      refine wpAnyH_take (i := 2) (oi := ⟨some 19, _, _, _, _, _⟩) (v := ?_) rfl (by kernel_rfl) (by kernel_rfl) (by kernel_rfl) (fun _ _ _ h => h) (Or.inl ⟨by rfl, ?_⟩) (by assumption) ?_
      rotate_left
      · (intro w hSw; (try dsimp only at hSw); go_simp; try with_reducible rfl)
      try simp only [Act.put, List.setIfInBounds_toArray, List.set_cons_zero, List.set_cons_succ]
      refine wpAnyH_take (i := 3) (oi := ⟨some 20, _, _, _, _, _⟩) (v := ?_) rfl (by kernel_rfl) (by kernel_rfl) (by kernel_rfl) (fun _ _ _ h => h) (Or.inl ⟨by rfl, ?_⟩) (by assumption) ?_
      rotate_left
      · (intro w hSw; (try dsimp only at hSw); go_simp; try with_reducible rfl)
      try simp only [Act.put, List.setIfInBounds_toArray, List.set_cons_zero, List.set_cons_succ]
      refine wpAnyH_take (i := 4) (oi := ⟨some 21, _, _, _, _, _⟩) (v := ?_) rfl (by kernel_rfl) (by kernel_rfl) (by kernel_rfl) (fun _ _ _ h => h) (Or.inl ⟨by rfl, ?_⟩) (by assumption) ?_
      rotate_left
      · (intro w hSw; (try dsimp only at hSw); go_simp; try with_reducible rfl)
      try simp only [Act.put, List.setIfInBounds_toArray, List.set_cons_zero, List.set_cons_succ]
      refine wpAnyH_take (i := 5) (oi := ⟨some 22, _, _, _, _, _⟩) (v := ?_) rfl (by kernel_rfl) (by kernel_rfl) (by kernel_rfl) (fun _ _ _ h => h) (Or.inl ⟨by rfl, ?_⟩) (by assumption) ?_
      rotate_left
      · (intro w hSw; (try dsimp only at hSw); go_simp; try with_reducible rfl)
      try simp only [Act.put, List.setIfInBounds_toArray, List.set_cons_zero, List.set_cons_succ]
      refine wpAnyH_take (i := 6) (oi := ⟨some 23, _, _, _, _, _⟩) (v := ?_) rfl (by kernel_rfl) (by kernel_rfl) (by kernel_rfl) (fun _ _ _ h => h) (Or.inl ⟨by rfl, ?_⟩) (by assumption) ?_
      rotate_left
      · (intro w hSw; (try dsimp only at hSw); go_simp; try with_reducible rfl)
      try simp only [Act.put, List.setIfInBounds_toArray, List.set_cons_zero, List.set_cons_succ]
      refine wpAnyH_take (i := 7) (oi := ⟨some 24, _, _, _, _, _⟩) (v := ?_) rfl (by kernel_rfl) (by kernel_rfl) (by kernel_rfl) (fun _ _ _ h => h) (Or.inl ⟨by rfl, ?_⟩) (by assumption) ?_
      rotate_left
      · (intro w hSw; (try dsimp only at hSw); go_simp; try with_reducible rfl)
      try simp only [Act.put, List.setIfInBounds_toArray, List.set_cons_zero, List.set_cons_succ]
      refine wpAnyH_take (i := 8) (oi := ⟨some 25, _, _, _, _, _⟩) (v := ?_) rfl (by kernel_rfl) (by kernel_rfl) (by kernel_rfl) (fun _ _ _ h => h) (Or.inl ⟨by rfl, ?_⟩) (by assumption) ?_
      rotate_left
      · (intro w hSw; (try dsimp only at hSw); go_simp; try with_reducible rfl)
      try simp only [Act.put, List.setIfInBounds_toArray, List.set_cons_zero, List.set_cons_succ]
      refine wpAnyH_take (i := 9) (oi := ⟨some 26, _, _, _, _, _⟩) (v := ?_) rfl (by kernel_rfl) (by kernel_rfl) (by kernel_rfl) (fun _ _ _ h => h) (Or.inl ⟨by rfl, ?_⟩) (by assumption) ?_
      rotate_left
      · (intro w hSw; (try dsimp only at hSw); go_simp; try with_reducible rfl)
      try simp only [Act.put, List.setIfInBounds_toArray, List.set_cons_zero, List.set_cons_succ]
      refine wpAnyH_take (i := 10) (oi := ⟨some 27, _, _, _, _, _⟩) (v := ?_) rfl (by kernel_rfl) (by kernel_rfl) (by kernel_rfl) (fun _ _ _ h => h) (Or.inl ⟨by rfl, ?_⟩) (by assumption) ?_
      rotate_left
      · (intro w hSw; (try dsimp only at hSw); go_simp; try with_reducible rfl)
      try simp only [Act.put, List.setIfInBounds_toArray, List.set_cons_zero, List.set_cons_succ]
      refine wpAnyH_take (i := 11) (oi := ⟨some 28, _, _, _, _, _⟩) (v := ?_) rfl (by kernel_rfl) (by kernel_rfl) (by kernel_rfl) (fun _ _ _ h => h) (Or.inl ⟨by rfl, ?_⟩) (by assumption) ?_
      rotate_left
      · (intro w hSw; (try dsimp only at hSw); go_simp; try with_reducible rfl)
      try simp only [Act.put, List.setIfInBounds_toArray, List.set_cons_zero, List.set_cons_succ]
      refine wpAnyH_take (i := 12) (oi := ⟨some 29, _, _, _, _, _⟩) (v := ?_) rfl (by kernel_rfl) (by kernel_rfl) (by kernel_rfl) (fun _ _ _ h => h) (Or.inl ⟨by rfl, ?_⟩) (by assumption) ?_
      rotate_left
      · (intro w hSw; (try dsimp only at hSw); go_simp; try with_reducible rfl)
      try simp only [Act.put, List.setIfInBounds_toArray, List.set_cons_zero, List.set_cons_succ]
      refine wpAnyH_take (i := 13) (oi := ⟨some 30, _, _, _, _, _⟩) (v := ?_) rfl (by kernel_rfl) (by kernel_rfl) (by kernel_rfl) (fun _ _ _ h => h) (Or.inl ⟨by rfl, ?_⟩) (by assumption) ?_
      rotate_left
      · (intro w hSw; (try dsimp only at hSw); go_simp; try with_reducible rfl)
      try simp only [Act.put, List.setIfInBounds_toArray, List.set_cons_zero, List.set_cons_succ]
      refine wpAnyH_take (i := 14) (oi := ⟨some 31, _, _, _, _, _⟩) (v := ?_) rfl (by kernel_rfl) (by kernel_rfl) (by kernel_rfl) (fun _ _ _ h => h) (Or.inl ⟨by rfl, ?_⟩) (by assumption) ?_
      rotate_left
      · (intro w hSw; (try dsimp only at hSw); go_simp; try with_reducible rfl)
      try simp only [Act.put, List.setIfInBounds_toArray, List.set_cons_zero, List.set_cons_succ]
      refine wpAnyH_take (i := 15) (oi := ⟨some 32, _, _, _, _, _⟩) (v := ?_) rfl (by kernel_rfl) (by kernel_rfl) (by kernel_rfl) (fun _ _ _ h => h) (Or.inl ⟨by rfl, ?_⟩) (by assumption) ?_
      rotate_left
      · (intro w hSw; (try dsimp only at hSw); go_simp; try with_reducible rfl)
      try simp only [Act.put, List.setIfInBounds_toArray, List.set_cons_zero, List.set_cons_succ]
      refine wpAnyH_ready (rs := [16]) (by kernel_rfl) (by simp) ?_
      refine AllReadyH.cons rfl (fun K hK => ?_) AllReadyH.nil
      go_simp
      refine hK.out _ _ hS0 (fun _ => ?_)
      clear hK
      refine wpAnyH_ready (rs := [17]) (by kernel_rfl) (by simp) ?_
      refine AllReadyH.cons rfl (fun K hK => ?_) AllReadyH.nil
      go_simp
      refine hda.mono ?_
      clear hda
      rintro e W5 ⟨v5, rfl, o5, g5⟩
      obtain ⟨a5, c5, hv5⟩ := rowForm o5
      obtain ⟨dl, hdl5⟩ : ∃ dl, dl = n.data.length := ⟨_, rfl⟩
      rw [← hdl5] at hv5
      subst hv5
      replace hdl5 := Lib.hid hdl5
      have h5 := H3.out.new g5
      have hrn5 := h5.rows.rn
      rw [HN.out] at hrn5
      dsimp only at hrn5
      rw [← hnl.out] at hrn5
      have hvl := h5.rows.vl
      dsimp only at hvl
      have hjl2 : jn < nl := by omega
      have s1 := World.ownsRow.stored hrn5.1 (jn * 2) (.slice a5 dl c5)
      have l0 := (flat_at (fun x : Value × Value => [x.1, x.2]) 2 (fun _ => rfl) vs1 jn _ hv.out) 0 (by omega)
      have l1 := (flat_at (fun x : Value × Value => [x.1, x.2]) 2 (fun _ => rfl) vs1 jn _ hv.out) 1 (by omega)
      have z0 : W5.cell? ⟨gn, jn * 2, none⟩ = some sv := by rw [World.ownsRow.cellAt hrn5.1 (jn * 2) (by omega)]; simpa [nodeCells] using l0
      have zf0 : W5.frozen? ⟨gn, jn * 2, none⟩ = false := World.ownsRow.frozenAt hrn5.1 _
      have z1 : (W5.setCell ⟨gn, jn * 2, none⟩ (.slice a5 dl c5)).cell? ⟨gn, jn * 2 + 1, none⟩ = some cv := by
        rw [World.ownsRow.cellAt s1.1 (jn * 2 + 1) (by omega), List.getElem?_set_ne (by omega)]
        simpa [nodeCells] using l1
      have zf1 : (W5.setCell ⟨gn, jn * 2, none⟩ (.slice a5 dl c5)).frozen? ⟨gn, jn * 2 + 1, none⟩ = false := World.ownsRow.frozenAt s1.1 _
      have hset := h5.setNode (gn := gn) (j := jn) (s := .slice a5 dl c5) (c := .slice none 0 0) (n := n.synced) (by rw [HN.out]; rfl) (by dsimp only; rw [← hnl.out]; exact hjl2)
        ⟨(OwnR.rw o5 GP3.out.size).weak (fun _ hb => .inl hb), [], rfl, OwnR.nil, fun i c dv e1 _ => by simp [NodeP.synced] at e1⟩ rfl rfl
      dsimp only at hset
      have y7 := g5.cell e7 (by simp)
      have y7a := (gq W5 gn (jn * 2) (.slice a5 dl c5)).cell y7 (by simp; omega)
      have y7b := hset.2.cell y7 (by simp; omega)
      have FF := Lib.hid (RDone.of hset.1 ((GP3.out.more g5).step hset.2 (fun k e => by cases e; exact Q3.out)))
      clear h5 hrn5 hvl s1 l0 l1 hset o5 g5 H3 GP3
      go_wp2_with fail
      refine hK.out _ _ y7 (fun _ => ?_)
      clear hK
      refine wpAnyH_take (i := 18) (oi := ⟨some 35, _, _, _, _, _⟩) (v := ?_) rfl (by kernel_rfl) (by kernel_rfl) (by kernel_rfl) (fun _ _ _ h => h) (Or.inl ⟨by rfl, ?_⟩) (by assumption) ?_
      rotate_left
      · (intro w hSw; (try dsimp only at hSw); go_simp; try with_reducible rfl)
      try simp only [Act.put, List.setIfInBounds_toArray, List.set_cons_zero, List.set_cons_succ]
      refine wpAnyH_take (i := 19) (oi := ⟨some 36, _, _, _, _, _⟩) (v := ?_) rfl (by kernel_rfl) (by kernel_rfl) (by kernel_rfl) (fun _ _ _ h => h) (Or.inl ⟨by rfl, ?_⟩) (by assumption) ?_
      rotate_left
      · (intro w hSw; (try dsimp only at hSw); go_simp; try with_reducible rfl)
      try simp only [Act.put, List.setIfInBounds_toArray, List.set_cons_zero, List.set_cons_succ]
      refine wpAnyH_ready (rs := [20]) (by kernel_rfl) (by simp) ?_
      refine AllReadyH.cons rfl (fun K hK => ?_) AllReadyH.nil
      go_simp
      refine hK.out _ _ y7a (fun _ => ?_)
      clear hK
      refine wpAnyH_take (i := 21) (oi := ⟨some 37, _, _, _, _, _⟩) (v := ?_) rfl (by kernel_rfl) (by kernel_rfl) (by kernel_rfl) (fun _ _ _ h => h) (Or.inl ⟨by rfl, ?_⟩) (by assumption) ?_
      rotate_left
      · (intro w hSw; (try dsimp only at hSw); go_simp; try with_reducible rfl)
      try simp only [Act.put, List.setIfInBounds_toArray, List.set_cons_zero, List.set_cons_succ]
      refine wpAnyH_take (i := 22) (oi := ⟨some 38, _, _, _, _, _⟩) (v := ?_) rfl (by kernel_rfl) (by kernel_rfl) (by kernel_rfl) (fun _ _ _ h => h) (Or.inl ⟨by rfl, ?_⟩) (by assumption) ?_
      rotate_left
      · (intro w hSw; (try dsimp only at hSw); go_simp; try with_reducible rfl)
      try simp only [Act.put, List.setIfInBounds_toArray, List.set_cons_zero, List.set_cons_succ]
      refine wpAnyH_ready (rs := [23]) (by kernel_rfl) (by simp) ?_
      refine AllReadyH.cons rfl (fun K hK => ?_) AllReadyH.nil
      go_simp
      refine hK.out _ _ y7b (fun _ => ?_)
      clear hK
      refine wpAnyH_done (by kernel_rfl) ?_ _
      go_wp2_with fail
      go_ret
      exact ⟨rfl, FF.out⟩
  · rw [if_neg h0]
    have hz : (a.begin.1 == 0) = false := by simpa using h0
    generalize a.begin = b at *
    clear h F
    go_enter Tryz.func42, Tryz.ntmps42
    go_wp2_with (go_at_call 74; go_loud (refine hb.mono ?_; clear hb; rintro e w1 ⟨rfl, h1⟩; have H1 := Lib.hid h1; clear h1))
    go_ret
    exact ⟨rfl, H1.out⟩
end Go.Proofs.YtafcgjbafihniaaGreat

/-
  LAYER 1 (fs): the reference's Size and Read.
-/
namespace Go.Proofs.YtafcgjbafihniaaGreat
set_option maxRecDepth 100000
variable {DX : Nat → Prop}
open Go.RowKit Go.Lib
open Go.Proofs (encStr)
attribute [local go_sem] Oper.semAt_some

def RefP.file (a : RefP) (j : Nat) : NodeP := a.nodes.getD j ⟨[], []⟩
theorem RefOk.nodeAt {Q : Nat → Prop} {w : World} {q j : Nat} {a : RefP} {r : RefV} {vs : List (Value × Value)} (h : RefOk DX Q w q a r vs) (hj : j < a.nodes.length) :
    ∃ gn nvc sv cv, w.cell? ⟨q, 7, none⟩ = some (.slice (some ⟨gn, 0, none⟩) a.nodes.length nvc) ∧ w.cell? ⟨gn, j * 2, none⟩ = some sv ∧ w.cell? ⟨gn, j * 2 + 1, none⟩ = some cv ∧ NodeR (RD Q DX) w sv cv (a.file j) := by
  have hvl := h.rows.vl
  obtain ⟨⟨sv, cv⟩, hv⟩ : ∃ v, vs[j]? = some v := ⟨_, List.getElem?_eq_getElem (by omega)⟩
  obtain ⟨n, hn⟩ : ∃ n, a.nodes[j]? = some n := ⟨_, List.getElem?_eq_getElem hj⟩
  have hf : a.file j = n := by unfold RefP.file; rw [List.getD_eq_getElem?_getD, hn]; rfl
  have hND := h.rows.node j (sv, cv) n hv hn
  obtain ⟨nva, nvc, hnv⟩ := h.rows.rn.form
  have hrn := h.rows.rn
  rw [hnv] at hrn
  obtain ⟨gn, rfl, _, _, rc, _⟩ := hrn.cell (by omega)
  have l0 := (flat_at (fun x : Value × Value => [x.1, x.2]) 2 (fun _ => rfl) vs j _ hv) 0 (by omega)
  have l1 := (flat_at (fun x : Value × Value => [x.1, x.2]) 2 (fun _ => rfl) vs j _ hv) 1 (by omega)
  refine ⟨gn, nvc, sv, cv, by rw [← hnv]; exact h.at_.c7, ?_, ?_, by rw [hf]; exact hND⟩
  · rw [rc _ (by omega)]
    simpa [nodeCells] using l0
  · rw [rc _ (by omega)]
    simpa [nodeCells] using l1
theorem RefP.Fits.file {a : RefP} (F : a.Fits) {j : Nat} (hj : j < a.nodes.length) : (a.file j).good ∧ (a.file j).chg.length < 4611686018427387904 := by
  obtain ⟨n, hn⟩ : ∃ n, a.nodes[j]? = some n := ⟨_, List.getElem?_eq_getElem hj⟩
  have hf : a.file j = n := by unfold RefP.file; rw [List.getD_eq_getElem?_getD, hn]; rfl
  rw [hf]
  exact ⟨F.good n (List.mem_of_getElem? hn), by have := chgSum_set [] a.nodes j n hn; have := F.sum; omega⟩

def RefP.size (a : RefP) (s : ByteArray) : Int × Int :=
  if a.died = true then (0, 12) else match a.dir.look s.data.toList with
    | none => (0, 14)
    | some j => (((a.file j).data.length : Nat), 0)

set_option maxHeartbeats 8000000 in
theorem rsize_any {R : Nat → Prop} {w : World} {q : Nat} {a : RefP} {r : RefV} {vs : List (Value × Value)} (s : ByteArray) (h : RefOk DX R w q a r vs) (F : a.Fits) (hdir : a.dir.length ≤ 65536) (hdl : ∀ x j, a.dir.look x = some j → j < a.nodes.length) :
    Calls Tryz.prog 20 #[.pointer (some ⟨q, 0, none⟩), .string s] w fun e w' => e = .returned (.tuple #[.int .i64 (a.size s).1, .int .i64 (a.size s).2]) ∧ w.grownBy w' none := by
  have c6 := h.at_.c6
  rw [h.died] at c6
  have hno := node_any q r a.dir s w h.at_ h.rows.rd.1 (by omega)
  unfold RefP.size
  by_cases hd : a.died = true
  · rw [if_pos hd]
    rw [hd] at c6
    clear h hno
    go_enter Tryz.func20, Tryz.ntmps20
    go_wp2
    go_ret2
    exact ⟨rfl, World.grownBy.refl _ _⟩
  · rw [if_neg hd]
    have hdf : a.died = false := by simpa using hd
    rw [hdf] at c6
    cases hlk : a.dir.look s.data.toList with
    | none =>
      dsimp only
      rw [hlk, show ptrN none = -1 from rfl] at hno
      clear h hd hdf hlk
      go_enter Tryz.func20, Tryz.ntmps20
      go_wp2_with (go_at_call 52; refine hno.mono ?_; clear hno; rintro e w2 ⟨rfl, g2⟩)
      go_ret2
      exact ⟨rfl, g2⟩
    | some jn =>
      dsimp only
      rw [hlk, show ptrN (some jn) = (jn : Int) from rfl] at hno
      have hj0 : ((jn : Int) < 0) = False := by simp
      have hjl := hdl _ _ hlk
      have hf := F.file hjl
      have HN : Hid (∀ W, w.grownBy W none → ∃ gn nvc sv cv, W.cell? ⟨q, 7, none⟩ = some (.slice (some ⟨gn, 0, none⟩) a.nodes.length nvc) ∧ W.cell? ⟨gn, jn * 2, none⟩ = some sv ∧ W.cell? ⟨gn, jn * 2 + 1, none⟩ = some cv ∧ NodeR (RD R DX) W sv cv (a.file jn)) := Lib.hid fun W g => (h.new g).nodeAt hjl
      obtain ⟨nl, hnl⟩ : ∃ nl, nl = a.nodes.length := ⟨_, rfl⟩
      rw [← hnl] at hjl HN
      have hjz : (jn : Int) < (nl : Int) := by omega
      generalize a.file jn = n at *
      replace hnl := Lib.hid hnl
      replace hf := Lib.hid hf
      obtain ⟨dl, hdl5⟩ : ∃ dl, dl = n.data.length := ⟨_, rfl⟩
      rw [← hdl5]
      replace hdl5 := Lib.hid hdl5
      clear h hd hdf hlk hdl F
      go_enter Tryz.func20, Tryz.ntmps20
      go_wp2_with first
        | (go_at_call 52
           refine hno.mono ?_
           clear hno
           rintro e w2 ⟨rfl, g2⟩
           obtain ⟨gn, nvc, sv, cv, e7, e0, e1, hND⟩ := HN.out w2 g2
           have hda := data_any (RD R DX) sv cv n w2 hND hf.out.1.1 hf.out.1.2 hf.out.2
           clear HN hND)
        | (go_at_call 53
           refine hda.mono ?_
           clear hda
           rintro e w3 ⟨v3, rfl, o3, g3⟩
           obtain ⟨a3, c3, hv3⟩ := rowForm o3
           rw [← hdl5.out] at hv3
           subst hv3
           clear o3)
      go_ret2
      exact ⟨rfl, g2.trans g3⟩
end Go.Proofs.YtafcgjbafihniaaGreat

/-
  LAYER 1 (fs): both file systems as plain data: what a file system of the reference keeps to, step by step.
-/
namespace Go.Proofs.YtafcgjbafihniaaGreat
set_option maxRecDepth 100000
open Go.RowKit Go.Lib

/-- The same names, with other numbers. -/
def DirL.mapB (φ : Nat → Nat) (l : DirL) : DirL := l.map fun x => (x.1, φ x.2)
section
variable (φ : Nat → Nat) (l : DirL)
theorem DirL.mapB_look (x : List UInt8) : (DirL.mapB φ l).look x = (DirL.look l x).map φ := by
  induction l with
  | nil => rfl
  | cons p l ih =>
    unfold DirL.look DirL.mapB at *
    by_cases h : p.1 = x
    · simp [h]
    · simpa [h] using ih
theorem DirL.mapB_names : (DirL.mapB φ l).names = DirL.names l := by simp [DirL.names, DirL.mapB]
theorem DirL.mapB_drop (x : List UInt8) : (DirL.mapB φ l).drop x = DirL.mapB φ (DirL.drop l x) := by
  unfold DirL.drop DirL.mapB
  rw [List.filter_map]
  rfl
theorem DirL.mapB_put (x : List UInt8) (b : Nat) : (DirL.mapB φ l).put x (φ b) = DirL.mapB φ (DirL.put l x b) := by
  unfold DirL.put
  rw [DirL.mapB_drop]
  simp [DirL.mapB]
theorem DirL.mapB_length : (DirL.mapB φ l).length = l.length := by simp [DirL.mapB]
theorem DirL.mapB_sorted : (DirL.mapB φ l).sorted = DirL.mapB φ (DirL.sorted l) := by
  unfold DirL.sorted
  rw [DirL.mapB_names]
  show _ = ((l.names.mergeSort leB).map _).map _
  rw [List.map_map]
  refine List.map_congr_left fun x hx => ?_
  have hx2 : x ∈ l.names := List.mem_mergeSort.1 hx
  obtain ⟨b, hb⟩ := Option.isSome_iff_exists.1 (DirL.look_names.2 hx2)
  rw [DirL.mapB_look, hb]
  simp [hb]
theorem DirL.mapB_congr {φ ψ : Nat → Nat} {l : DirL} (h : ∀ p ∈ l, φ p.2 = ψ p.2) : DirL.mapB φ l = DirL.mapB ψ l := List.map_congr_left fun p hp => by rw [h p hp]
end

/-- A move, with blocks in the place of numbers. -/
def mvOf (φ : Nat → Nat) : RMv → Mv
  | .made a i => ⟨⟨#[]⟩, a, some (φ i)⟩
  | .ren a b _ => ⟨a, b, none⟩
  | .rem a => ⟨a, ⟨#[]⟩, none⟩
/-- Which moves may be done. -/
def RMv.ok (l : DirL) : RMv → Prop
  | .made a _ => 1 ≤ a.size ∧ a.size ≤ 32
  | .ren a b i => l.look a.data.toList = some i ∧ 1 ≤ b.size ∧ b.size ≤ 32
  | .rem a => (l.look a.data.toList).isSome = true
def okR : List RMv → DirL → Prop
  | [], _ => True
  | m :: ms, l => m.ok l ∧ okR ms (RMv.done l m)
theorem okR_add : ∀ (ml : List RMv) (m : RMv) (l : DirL), okR ml l → m.ok (ml.foldl RMv.done l) → okR (ml ++ [m]) l
  | [], _, _, _, h => ⟨h, trivial⟩
  | _ :: ml, m, l, h1, h2 => ⟨h1.1, okR_add ml m _ h1.2 h2⟩
theorem okR_take : ∀ (ml : List RMv) (l : DirL) (n : Nat), okR ml l → okR (ml.take n) l
  | [], _, _, _ => by simp [okR]
  | _ :: _, _, 0, _ => by simp [okR]
  | _ :: ml, l, n + 1, h => ⟨h.1, okR_take ml _ n h.2⟩

/-- A directory that a file system of the reference may have: so many names at most, numbers below K. -/
structure DOk (N K : Nat) (l : DirL) : Prop where
  names : l.names.Nodup
  nums : (l.map (·.2)).Nodup
  len : l.length ≤ N
  short : ∀ x ∈ l.names, x.length ≤ 32
  lt : ∀ p ∈ l, p.2 < K
theorem bsize (a : ByteArray) : a.data.toList.length = a.size := Array.length_toList
section
variable {N K N' K' : Nat} {l : DirL}
theorem DOk.nil : DOk N K [] := ⟨by simp [DirL.names], by simp, by simp, by simp [DirL.names], by simp⟩
theorem DOk.weak (h : DOk N K l) (hN : N ≤ N') (hK : K ≤ K') : DOk N' K' l := ⟨h.names, h.nums, Nat.le_trans h.len hN, h.short, fun p hp => Nat.lt_of_lt_of_le (h.lt p hp) hK⟩
theorem DirL.drop_sub (l : DirL) (x : List UInt8) : (DirL.drop l x).Sublist l := List.filter_sublist
theorem DOk.drop (h : DOk N K l) (x : List UInt8) : DOk N K (l.drop x) := by
  have hs := DirL.drop_sub l x
  exact ⟨h.names.sublist (hs.map _), h.nums.sublist (hs.map _), Nat.le_trans hs.length_le h.len, fun y hy => h.short y ((hs.map _).subset hy), fun p hp => h.lt p (hs.subset hp)⟩
theorem DOk.put (h : DOk N K l) (x : List UInt8) (b : Nat) (hx : x.length ≤ 32) (hb : ∀ p ∈ l, p.2 ≠ b) (hb2 : b < K) (hlt : l.length < N) : DOk N K (l.put x b) := by
  have hd := h.drop x
  refine ⟨DirL.nodup_put h.names x b, ?_, ?_, ?_, ?_⟩
  · unfold DirL.put
    rw [List.map_append, List.nodup_append]
    refine ⟨hd.nums, by simp, fun a ha c hc e => ?_⟩
    simp at hc
    subst hc e
    obtain ⟨p, hp, rfl⟩ := List.mem_map.1 ha
    exact hb p ((DirL.drop_sub l x).subset hp) rfl
  · have := (DirL.drop_sub l x).length_le
    simp only [DirL.put, List.length_append, List.length_singleton]
    omega
  · intro y hy
    unfold DirL.put DirL.names at hy
    rw [List.map_append, List.mem_append] at hy
    rcases hy with hy | hy
    · exact hd.short y hy
    · simp at hy
      rw [hy]
      exact hx
  · intro p hp
    unfold DirL.put at hp
    rw [List.mem_append] at hp
    rcases hp with hp | hp
    · exact hd.lt p hp
    · simp at hp
      subst hp
      exact hb2
theorem num_one : ∀ {l : DirL}, (l.map (·.2)).Nodup → ∀ p ∈ l, ∀ q ∈ l, p.2 = q.2 → p = q
  | [], _, p, hp, _, _, _ => by simp at hp
  | x :: l, h, p, hp, q, hq, e => by
    rw [List.map_cons, List.nodup_cons] at h
    rcases List.mem_cons.1 hp with e1 | hp2
    · rcases List.mem_cons.1 hq with e2 | hq2
      · rw [e1, e2]
      · exact (h.1 (List.mem_map.2 ⟨q, hq2, by rw [← e, e1]⟩)).elim
    · rcases List.mem_cons.1 hq with e2 | hq2
      · exact (h.1 (List.mem_map.2 ⟨p, hp2, by rw [e, e2]⟩)).elim
      · exact num_one h.2 p hp2 q hq2 e
theorem DOk.lookLt (h : DOk N K l) {x : List UInt8} {j : Nat} (hx : l.look x = some j) : j < K := h.lt _ (DirL.look_mem hx)
theorem DOk.lookShort (h : DOk N K l) {x : List UInt8} {j : Nat} (hx : l.look x = some j) : x.length ≤ 32 := h.short x (DirL.look_names.1 (by rw [hx]; rfl))
theorem drop_less : ∀ {l : DirL} {x : List UInt8} {j : Nat}, l.look x = some j → (DirL.drop l x).length < l.length
  | [], _, _, h => by cases h
  | p :: l, x, j, h => by
    unfold DirL.drop
    by_cases e : p.1 = x
    · rw [List.filter_cons_of_neg (by simpa using e)]
      have := List.length_filter_le (fun p : List UInt8 × Nat => !(p.1 == x)) l
      simp only [List.length_cons]
      omega
    · rw [List.filter_cons_of_pos (by simpa using e)]
      have h2 : DirL.look l x = some j := by
        unfold DirL.look at h ⊢
        rw [List.find?_cons_of_neg (by simpa using e)] at h
        exact h
      have := drop_less h2
      unfold DirL.drop at this
      simp only [List.length_cons]
      omega
theorem DOk.done (h : DOk N K l) (m : RMv) (hm : m.ok l) (hf : ∀ a i, m = .made a i → (∀ p ∈ l, p.2 ≠ i) ∧ i < K' ∧ l.length < N) (hK : K ≤ K') : DOk N K' (RMv.done l m) := by
  cases m with
  | made a i =>
    have := hf a i rfl
    exact (h.weak (Nat.le_refl _) hK).put _ _ (by rw [bsize]; exact hm.2) this.1 this.2.1 this.2.2
  | ren a b i =>
    refine ((h.drop _).weak (Nat.le_refl _) hK).put _ _ (by rw [bsize]; exact hm.2.2) (fun p hp e => ?_) (Nat.lt_of_lt_of_le (h.lookLt hm.1) hK) (Nat.lt_of_lt_of_le (drop_less hm.1) h.len)
    have h1 := DirL.look_mem hm.1
    have h2 := num_one h.nums p ((DirL.drop_sub l _).subset hp) _ h1 e
    subst h2
    have := (List.mem_filter.1 hp).2
    simp at this
  | rem a => exact (h.drop _).weak (Nat.le_refl _) hK
end

section
variable {φ : Nat → Nat} {m : RMv} {l : DirL} {N K : Nat}
theorem mvOf_done (h : m.ok l) : (mvOf φ m).done (l.mapB φ) = (RMv.done l m).mapB φ := by
  cases m with
  | made a i => exact DirL.mapB_put φ l _ _
  | ren a b i =>
    have h0 : b.size ≠ 0 := by have := h.2.1; omega
    simp only [mvOf, Mv.done, DirL.mapB_look, h.1, Option.map_some, RMv.done]
    refine (if_neg h0).trans ?_
    rw [DirL.mapB_drop, DirL.mapB_put]
  | rem a =>
    obtain ⟨j, hj⟩ := Option.isSome_iff_exists.1 h
    have h0 : (⟨#[]⟩ : ByteArray).size = 0 := rfl
    simp only [mvOf, Mv.done, DirL.mapB_look, hj, Option.map_some, RMv.done]
    refine (if_pos h0).trans ?_
    rw [DirL.mapB_drop]
theorem mvOf_may (h : m.ok l) (hD : DOk N K l) : (mvOf φ m).may (l.mapB φ) := by
  have hM : 32 ≤ maxLen := by unfold maxLen; omega
  have h0 : (⟨#[]⟩ : ByteArray).size = 0 := rfl
  cases m with
  | made a i =>
    refine ⟨?_, ?_, ?_⟩
    · show (⟨#[]⟩ : ByteArray).size ≤ _
      omega
    · exact Nat.le_trans h.2 hM
    · show a.size ≠ 0
      have := h.1
      omega
  | ren a b i =>
    have := hD.lookShort h.1
    rw [bsize] at this
    refine ⟨Nat.le_trans this hM, Nat.le_trans h.2.2 hM, ?_⟩
    show (DirL.look (DirL.mapB φ l) _).isSome = true
    rw [DirL.mapB_look]
    show (Option.map φ (l.look a.data.toList)).isSome = true
    rw [h.1]
    rfl
  | rem a =>
    obtain ⟨j, hj⟩ := Option.isSome_iff_exists.1 h
    have := hD.lookShort hj
    rw [bsize] at this
    refine ⟨Nat.le_trans this hM, ?_, ?_⟩
    · show (⟨#[]⟩ : ByteArray).size ≤ _
      omega
    · show (DirL.look (DirL.mapB φ l) _).isSome = true
      rw [DirL.mapB_look]
      show (Option.map φ (l.look a.data.toList)).isSome = true
      rw [hj]
      rfl
end
theorem movesDone_mapB (φ : Nat → Nat) : ∀ (ml : List RMv) (l : DirL), okR ml l → movesDone (ml.map (mvOf φ)) (l.mapB φ) = (ml.foldl RMv.done l).mapB φ
  | [], _, _ => rfl
  | m :: ml, l, h => by
    show movesDone (ml.map (mvOf φ)) ((mvOf φ m).done (l.mapB φ)) = _
    rw [mvOf_done h.1]
    exact movesDone_mapB φ ml _ h.2
theorem okMoves_mapB (φ : Nat → Nat) {N K : Nat} (hN : N < maxLen) : ∀ (ml : List RMv) (l : DirL), okR ml l → (∀ m, DOk N K ((ml.take m).foldl RMv.done l)) → okMoves (ml.map (mvOf φ)) (l.mapB φ)
  | [], _, _, _ => trivial
  | m :: ml, l, h, hD => by
    have h0 := hD 0
    refine ⟨mvOf_may h.1 h0, ?_, ?_⟩
    · rw [DirL.mapB_length]
      have := h0.len
      have e : ((List.take 0 (m :: ml)).foldl RMv.done l).length = l.length := rfl
      omega
    · rw [mvOf_done h.1]
      exact okMoves_mapB φ hN ml _ h.2 (fun k => hD (k + 1))

/-- Each change may be behind those ahead of it, and no file is ever longer than it may be. -/
def okB : List UInt8 → List Chg → Prop
  | bs, [] => bs.length ≤ 268435456
  | bs, c :: l => bs.length ≤ 268435456 ∧ c.may bs ∧ okB (c.done bs) l
theorem okB.head : ∀ {l : List Chg} {bs : List UInt8}, okB bs l → bs.length ≤ 268435456
  | [], _, h => h
  | _ :: _, _, h => h.1
theorem okB.okL : ∀ {l : List Chg} {bs : List UInt8}, okB bs l → Go.Proofs.YtafcgjbafihniaaGreat.okL bs l
  | [], _, _ => trivial
  | c :: l, bs, h => ⟨h.2.1, okB.okL (l := l) (bs := c.done bs) h.2.2⟩
theorem okB.last : ∀ {l : List Chg} {bs : List UInt8}, okB bs l → (l.foldl Chg.done bs).length ≤ 268435456
  | [], _, h => h
  | c :: l, bs, h => okB.last (l := l) (bs := c.done bs) h.2.2
theorem okB.add : ∀ {l : List Chg} {c : Chg} {bs : List UInt8}, okB bs l → c.may (l.foldl Chg.done bs) → (c.done (l.foldl Chg.done bs)).length ≤ 268435456 → okB bs (l ++ [c])
  | [], _, _, h, h1, h2 => ⟨h, h1, h2⟩
  | d :: l, c, bs, h, h1, h2 => ⟨h.1, h.2.1, okB.add (l := l) (c := c) (bs := d.done bs) h.2.2 h1 h2⟩
theorem kept_bytes (k : Int) (bs : List UInt8) (c : Chg) : (c.kept k bs).1.length ≤ bs.length ∨ (c.kept k bs).1.length ≤ (c.done bs).length := by
  cases c with
  | add a =>
    right
    have h1 := bsize a
    simp only [Chg.kept, Chg.done, List.length_append, List.length_take]
    omega
  | cut m =>
    simp only [Chg.kept]
    cases cutLives k
    · exact .inl (Nat.le_refl _)
    · left
      simp only [cond_true, List.length_take]
      omega
theorem settle_bytes (ks : Nat → Int) : ∀ (l : List Chg) (i : Nat) (bs : List UInt8) (t : Bool), bs.length ≤ 268435456 → (t = true → okB bs l) → (settleP ks i t bs l).length ≤ 268435456
  | [], _, _, t, h, _ => by cases t <;> simpa [settleP] using h
  | c :: l, i, bs, true, h, hb => by
    have hb2 := hb rfl
    rw [settleP]
    refine settle_bytes ks l (i + 1) (c.kept (ks i) bs).1 (c.kept (ks i) bs).2 ?_ (fun e => ?_)
    · have h1 := hb2.2.2.head
      rcases kept_bytes (ks i) bs c with h2 | h2 <;> omega
    · rw [kept_whole (ks i) bs c e]
      exact hb2.2.2
  | c :: l, i, bs, false, h, _ => by
    rw [settleP]
    exact settle_bytes ks l (i + 1) bs false h (fun e => by cases e)

def planFits (p : Pl) : Prop := p.keep.length * 8 ≤ 140737488351232 ∧ p.fail.length * 8 ≤ 140737488351232 ∧ p.full.length * 8 ≤ 140737488351232 ∧ p.room ≤ 9223372036854775807

/-- What a file system of the reference keeps to behind so many operations and bytes. -/
structure RInv (N : Nat) (a : RefP) : Prop where
  pl : planFits a.pl
  nl : a.nodes.length ≤ N
  ml : a.moves.length ≤ N
  okr : okR a.moves a.safe
  pre : ∀ m, DOk 4096 a.nodes.length ((a.moves.take m).foldl RMv.done a.safe)
  dir : a.dir = a.moves.foldl RMv.done a.safe
  good : ∀ n ∈ a.nodes, okB n.safe n.chg
  sum : chgSum a.nodes ≤ N
  c0 : 0 ≤ a.count
  c9 : a.count ≤ N
section
variable {N M : Nat} {a : RefP}
theorem RInv.weak (h : RInv N a) (hM : N ≤ M) : RInv M a :=
  ⟨h.pl, Nat.le_trans h.nl hM, Nat.le_trans h.ml hM, h.okr, h.pre, h.dir, h.good, Nat.le_trans h.sum hM, h.c0, by have := h.c9; omega⟩
theorem RInv.dirOk (h : RInv N a) : DOk 4096 a.nodes.length a.dir := by
  have := h.pre a.moves.length
  rwa [List.take_length, ← h.dir] at this
theorem RInv.safeOk (h : RInv N a) : DOk 4096 a.nodes.length a.safe := h.pre 0
theorem RInv.fits (h : RInv N a) (hN : N ≤ 2199023255552) : a.Fits where
  keep := by have := h.pl.1; omega
  moves := by have := h.ml; omega
  safe := by have := h.safeOk.len; omega
  dies := fun m x j e => (h.pre m).lookLt e
  dirs := fun m => Nat.le_trans (h.pre m).len (by omega)
  good := fun n hn => ⟨Nat.le_trans (h.good n hn).head (by omega), (h.good n hn).okL⟩
  sum := by have := h.sum; omega
  cnt0 := h.c0
  cnt := by have := h.c9; omega
theorem RInv.counted (h : RInv N a) : RInv (N + 1) { a with count := a.count + 1 } :=
  have k := h.weak (Nat.le_succ N)
  ⟨k.pl, k.nl, k.ml, k.okr, k.pre, k.dir, k.good, k.sum, by have := h.c0; show 0 ≤ a.count + 1; omega, by have := h.c9; show a.count + 1 ≤ ((N + 1 : Nat) : Int); omega⟩
theorem nodesDie_len (ks : Nat → Int) (D : DirL) : ∀ (xs : List (List UInt8)) (i : Nat) (ns : List NodeP), (nodesDie ks D xs i ns).length = ns.length
  | [], _, _ => rfl
  | x :: xs, i, ns => by
    unfold nodesDie
    split
    · exact nodesDie_len ks D xs i ns
    · split
      · exact nodesDie_len ks D xs i ns
      · rw [nodesDie_len, List.length_set]
theorem nodesDie_good (ks : Nat → Int) (D : DirL) : ∀ (xs : List (List UInt8)) (i : Nat) (ns : List NodeP), (∀ n ∈ ns, okB n.safe n.chg) → ∀ n ∈ nodesDie ks D xs i ns, okB n.safe n.chg
  | [], _, _, h => h
  | x :: xs, i, ns, h => by
    unfold nodesDie
    split
    · exact nodesDie_good ks D xs i ns h
    · split
      · exact nodesDie_good ks D xs i ns h
      · rename_i n hn
        refine nodesDie_good ks D xs _ _ (fun n' hn' => ?_)
        rcases List.mem_or_eq_of_mem_set hn' with h1 | rfl
        · exact h n' h1
        · have h1 := h n (List.mem_of_getElem? hn)
          exact settle_bytes ks n.chg i n.safe true h1.head (fun _ => h1)
theorem nodesDie_sum (ks : Nat → Int) (D : DirL) : ∀ (xs : List (List UInt8)) (i : Nat) (ns : List NodeP), chgSum (nodesDie ks D xs i ns) ≤ chgSum ns
  | [], _, _ => Nat.le_refl _
  | x :: xs, i, ns => by
    unfold nodesDie
    split
    · exact nodesDie_sum ks D xs i ns
    · split
      · exact nodesDie_sum ks D xs i ns
      · rename_i j hj _ n hn
        have h1 := nodesDie_sum ks D xs (i + n.chg.length) (ns.set j ⟨settleP ks i true n.safe n.chg, []⟩)
        have h2 := chgSum_set (settleP ks i true n.safe n.chg) ns j n hn
        omega
theorem RInv.die (h : RInv N a) : RInv N a.die := by
  have hd := h.pre (dieL a.pl.keep a.moves.length)
  refine ⟨h.pl, ?_, Nat.zero_le _, trivial, fun m => ?_, rfl, ?_, ?_, h.c0, h.c9⟩
  · show (nodesDie _ _ _ _ _).length ≤ N
    rw [nodesDie_len]
    exact h.nl
  · show DOk 4096 (nodesDie _ _ _ _ _).length ((([] : List RMv).take m).foldl RMv.done a.dieDir)
    rw [nodesDie_len, List.take_nil]
    exact hd
  · exact nodesDie_good _ _ _ _ _ h.good
  · exact Nat.le_trans (nodesDie_sum _ _ _ _ _) h.sum
theorem RInv.begin (h : RInv N a) : RInv (N + 1) a.begin.2 := by
  unfold RefP.begin
  split
  · exact h.weak (Nat.le_succ N)
  · split
    · exact h.counted.die
    · exact h.counted
/-- One move more. -/
theorem RInv.move (h : RInv N a) (m : RMv) (hm : m.ok a.dir) (ns : List NodeP) (hns : a.nodes.length ≤ ns.length) (hn1 : ns.length ≤ N + 1) (hg : ∀ n ∈ ns, okB n.safe n.chg) (hs : chgSum ns ≤ N + 1)
    (hf : ∀ x i, m = .made x i → a.nodes.length ≤ i ∧ i < ns.length ∧ a.dir.length < 4096) : RInv (N + 1) { a with count := a.count + 1, nodes := ns, dir := RMv.done a.dir m, moves := a.moves ++ [m] } := by
  have k := h.counted
  refine ⟨h.pl, hn1, ?_, ?_, fun j => ?_, ?_, hg, hs, k.c0, k.c9⟩
  · show (a.moves ++ [m]).length ≤ N + 1
    have := h.ml
    simp only [List.length_append, List.length_singleton]
    omega
  · exact okR_add _ _ _ h.okr (by rw [← h.dir]; exact hm)
  · show DOk 4096 ns.length (((a.moves ++ [m]).take j).foldl RMv.done a.safe)
    by_cases hj : j ≤ a.moves.length
    · rw [List.take_append_of_le_length hj]
      exact (h.pre j).weak (Nat.le_refl _) hns
    · rw [List.take_of_length_le (by simp only [List.length_append, List.length_singleton]; omega), List.foldl_append, ← h.dir]
      refine h.dirOk.done m hm (fun x i e => ?_) hns
      obtain ⟨h1, h2, h3⟩ := hf x i e
      exact ⟨fun p hp e2 => by have := h.dirOk.lt p hp; omega, h2, h3⟩
  · show RMv.done a.dir m = (a.moves ++ [m]).foldl RMv.done a.safe
    rw [List.foldl_append, ← h.dir]
    rfl
end
end Go.Proofs.YtafcgjbafihniaaGreat
