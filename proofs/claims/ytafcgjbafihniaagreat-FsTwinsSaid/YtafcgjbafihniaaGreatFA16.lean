/-
  LAYER 1 (fs): the reference's Remove.
-/
import Derived.Test.YtafcgjbafihniaaGreatFA15
namespace Go.Proofs.YtafcgjbafihniaaGreat
set_option maxRecDepth 100000
variable {DX : Nat → Prop}
open Go.RowKit Go.Lib
open Go.Proofs (encStr)
attribute [local go_sem] Oper.semAt_some

def RefP.remove (a : RefP) (s : ByteArray) : Int × RefP :=
  if a.begin.1 = 0 then (if (a.dir.look s.data.toList).isSome = true then (0, { a with count := a.count + 1, dir := RMv.done a.dir (.rem s), moves := a.moves ++ [.rem s] }) else (14, { a with count := a.count + 1 })) else a.begin

set_option maxHeartbeats 8000000 in
theorem rremove_any {R : Nat → Prop} {w : World} {q : Nat} {a : RefP} {r : RefV} {vs : List (Value × Value)} (s : ByteArray) (h : RefOk DX R w q a r vs) (hR : ∀ k, RD R DX k → k < w.heap.size) (F : a.Fits) (hdir : a.dir.length ≤ 65536) :
    Calls Tryz.prog 44 #[.pointer (some ⟨q, 0, none⟩), .string s] w fun e w' => e = .returned (.int .i64 (a.remove s).1) ∧ RDone DX R w q (a.remove s).2 w' := by
  have hb := rbegin_any h hR F
  have hRq := h.rq
  unfold RefP.remove
  by_cases h0 : a.begin.1 = 0
  · rw [RefP.begin_ok h0, h0] at hb
    rw [if_pos h0]
    have hmv9 := F.moves
    clear h0 h
    cases hlk : a.dir.look s.data.toList with
    | none =>
      rw [if_neg (by simp)]
      replace hlk := Lib.hid hlk
      go_enter Tryz.func44, Tryz.ntmps44
      go_wp2_with first
        | (go_at_call 74
           refine hb.mono ?_
           clear hb
           rintro e w1 ⟨rfl, ⟨r1, vs1, h1⟩, g1⟩
           have hno := node_any q r1 a.dir s w1 h1.at_ h1.rows.rd.1 (by omega)
           rw [hlk.out, show ptrN none = -1 from rfl] at hno
           have H1 := Lib.hid (And.intro h1 g1)
           clear h1 g1)
        | (go_at_call 52
           refine hno.mono ?_
           clear hno
           rintro e w2 ⟨rfl, g2⟩
           have H2 := Lib.hid (RDone.of (H1.out.1.wide.new g2) (H1.out.2.more g2))
           clear H1 g2)
      go_ret
      exact ⟨rfl, H2.out⟩
    | some jn =>
      rw [if_pos (by simp)]
      replace hlk := Lib.hid hlk
      have hj0 : ((jn : Int) < 0) = False := by simp
      obtain ⟨D, hD⟩ : ∃ D, D = a.dir := ⟨_, rfl⟩
      rw [← hD] at hdir
      replace hD := Lib.hid hD
      go_enter Tryz.func44, Tryz.ntmps44
      go_wp2_with first
        | (go_at_call 74
           refine hb.mono ?_
           clear hb
           rintro e w1 ⟨rfl, ⟨r1, vs1, h1⟩, g1⟩
           have hno := node_any q r1 a.dir s w1 h1.at_ h1.rows.rd.1 (by rw [← hD.out]; omega)
           rw [hlk.out, show ptrN (some jn) = (jn : Int) from rfl] at hno
           have H1 := Lib.hid (And.intro h1 g1)
           clear h1 g1)
        | (go_at_call 52
           refine hno.mono ?_
           clear hno
           rintro e w2 ⟨rfl, g2⟩
           have h2 := H1.out.1.wide.new g2
           have gp2 := H1.out.2.more g2
           clear H1 g2)
      obtain ⟨ml, hml⟩ : ∃ ml, ml = a.moves.length := ⟨_, rfl⟩
      obtain ⟨mva, mvc, hmv⟩ := h2.rows.rm.form
      dsimp only at hmv
      rw [← hml] at hmv
      have hmlt := fun r e => (World.ownsRow.lt h2.rows.rm.1 r e).2
      have gY := World.grownBy_alloc w2 (.cells #[.int .i64 3, .string s, .string ⟨#[]⟩, .int .i64 0] 123) none
      have eY := World.alloc_heap_new w2 (.cells #[.int .i64 3, .string s, .string ⟨#[]⟩, .int .i64 0] 123)
      obtain ⟨Y, hY⟩ : ∃ Y, Y = w2.alloc (.cells #[.int .i64 3, .string s, .string ⟨#[]⟩, .int .i64 0] 123) := ⟨_, rfl⟩
      rw [← hY] at gY eY
      have gd := gY.trans (gdrew (World.grownBy.refl Y none))
      have h3 := h2.new gd
      have gp3 := gp2.more gd
      obtain ⟨va, vc, hv⟩ := h3.rows.rd.form
      have hrd := h3.rows.rd
      rw [hv] at hrd
      dsimp only at hv hrd
      rw [← hD.out] at hv hrd
      have x8 := h3.at_.c8
      rw [hv] at x8
      have hmo := moved_any (.rem s) (.slice va D.length vc) D Y.drew hrd.1 (by omega)
      rw [show (RMv.rem s).agg = .agg #[.int .i64 3, .string s, .string ⟨#[]⟩, .int .i64 0] from rfl] at hmo
      have b0 : Y.drew.cell? ⟨w2.heap.size, 0, none⟩ = some (.int .i64 3) ∧ Y.drew.cell? ⟨w2.heap.size, 1, none⟩ = some (.string s) ∧ Y.drew.cell? ⟨w2.heap.size, 2, none⟩ = some (.string ⟨#[]⟩) ∧ Y.drew.cell? ⟨w2.heap.size, 3, none⟩ = some (.int .i64 0) := by
        refine ⟨?_, ?_, ?_, ?_⟩ <;> (show Y.cell? _ = _; simp [World.cell?, eY])
      have hyq : w2.heap.size ≠ q := by have := lt_of_block h2.at_; omega
      have H3 := Lib.hid h3
      replace hmv := Lib.hid hmv
      replace hmlt := Lib.hid hmlt
      have hyl := Lib.hid (lt_of_block eY)
      replace hml := Lib.hid hml
      replace gp3 := Lib.hid gp3
      clear h2 gp2 gY eY gd hrd hv h3
      rw [← hY]
      replace hY := Lib.hid hY
      refine wp_region_held_drew (S := fun V => V.cell? ⟨w2.heap.size, 0, none⟩ = some (.int .i64 3) ∧ V.cell? ⟨w2.heap.size, 1, none⟩ = some (.string s) ∧ V.cell? ⟨w2.heap.size, 2, none⟩ = some (.string ⟨#[]⟩) ∧ V.cell? ⟨w2.heap.size, 3, none⟩ = some (.int .i64 0)) (by kernel_rfl) b0 (fun hS0 => ?_)
      refine wpAnyH_take (i := 0) (oi := ⟨some 18, _, _, _, _, _⟩) (v := ?_) rfl (by kernel_rfl) (by kernel_rfl) (by kernel_rfl) (fun _ _ _ h => h) (Or.inl ⟨by rfl, ?_⟩) (by assumption) ?_
      rotate_left
      · (intro w hSw; (try dsimp only at hSw); go_simp; try with_reducible rfl)
      try simp only [Act.put, List.setIfInBounds_toArray, List.set_cons_zero, List.set_cons_succ]
      refine wpAnyH_take (i := 1) (oi := ⟨some 19, _, _, _, _, _⟩) (v := ?_) rfl (by kernel_rfl) (by kernel_rfl) (by kernel_rfl) (fun _ _ _ h => h) (Or.inl ⟨by rfl, ?_⟩) (by assumption) ?_
      rotate_left
      · (intro w hSw; (try dsimp only at hSw); go_simp; try with_reducible rfl)
      try simp only [Act.put, List.setIfInBounds_toArray, List.set_cons_zero, List.set_cons_succ]
      refine wpAnyH_take (i := 2) (oi := ⟨some 20, _, _, _, _, _⟩) (v := ?_) rfl (by kernel_rfl) (by kernel_rfl) (by kernel_rfl) (fun _ _ _ h => h) (Or.inl ⟨by rfl, ?_⟩) (by assumption) ?_
      rotate_left
      · (intro w hSw; (try dsimp only at hSw); go_simp; try with_reducible rfl)
      try simp only [Act.put, List.setIfInBounds_toArray, List.set_cons_zero, List.set_cons_succ]
      refine wpAnyH_take (i := 3) (oi := ⟨some 21, _, _, _, _, _⟩) (v := ?_) rfl (by kernel_rfl) (by kernel_rfl) (by kernel_rfl) (fun _ _ _ h => h) (Or.inl ⟨by rfl, ?_⟩) (by assumption) ?_
      rotate_left
      · (intro w hSw; (try dsimp only at hSw); go_simp; try with_reducible rfl)
      try simp only [Act.put, List.setIfInBounds_toArray, List.set_cons_zero, List.set_cons_succ]
      refine wpAnyH_take (i := 5) (oi := ⟨some 23, _, _, _, _, _⟩) (v := ?_) rfl (by kernel_rfl) (by kernel_rfl) (by kernel_rfl) (fun _ _ _ h => h) (Or.inl ⟨by rfl, ?_⟩) (by assumption) ?_
      rotate_left
      · (intro w hSw; (try dsimp only at hSw); go_simp; try with_reducible rfl)
      try simp only [Act.put, List.setIfInBounds_toArray, List.set_cons_zero, List.set_cons_succ]
      refine wpAnyH_ready (rs := [4]) (by kernel_rfl) (by simp) ?_
      refine AllReadyH.cons rfl (fun K hK => ?_) AllReadyH.nil
      go_simp
      refine hK.out _ _ hS0 (fun _ => ?_)
      clear hK
      refine wpAnyH_ready (rs := [6]) (by kernel_rfl) (by simp) ?_
      refine AllReadyH.cons rfl (fun K hK => ?_) AllReadyH.nil
      go_simp
      refine hmo.mono ?_
      clear hmo
      rintro e W5 ⟨v5, rfl, o5, g5⟩
      have h5 := H3.out.new g5
      have hS5 : W5.cell? ⟨w2.heap.size, 0, none⟩ = some (.int .i64 3) ∧ W5.cell? ⟨w2.heap.size, 1, none⟩ = some (.string s) ∧ W5.cell? ⟨w2.heap.size, 2, none⟩ = some (.string ⟨#[]⟩) ∧ W5.cell? ⟨w2.heap.size, 3, none⟩ = some (.int .i64 0) := ⟨g5.cell hS0.1 (by simp), g5.cell hS0.2.1 (by simp), g5.cell hS0.2.2.1 (by simp), g5.cell hS0.2.2.2 (by simp)⟩
      obtain ⟨a5, c5, rfl⟩ := rowFormS o5
      have y8 := h5.at_.c8
      have yf := h5.at_.free 8
      have h6 := h5.setDir (OwnR.rw o5 gp3.out.size)
      have g6 := gq W5 q 8 (.slice a5 (RMv.done D (.rem s)).length c5)
      have hS6 : ∀ u, (W5.setCell ⟨q, 8, none⟩ u).cell? ⟨w2.heap.size, 0, none⟩ = some (.int .i64 3) ∧ (W5.setCell ⟨q, 8, none⟩ u).cell? ⟨w2.heap.size, 1, none⟩ = some (.string s) ∧ (W5.setCell ⟨q, 8, none⟩ u).cell? ⟨w2.heap.size, 2, none⟩ = some (.string ⟨#[]⟩) ∧ (W5.setCell ⟨q, 8, none⟩ u).cell? ⟨w2.heap.size, 3, none⟩ = some (.int .i64 0) := fun u =>
        ⟨(gq W5 q 8 u).cell hS5.1 (by simp; omega), (gq W5 q 8 u).cell hS5.2.1 (by simp; omega), (gq W5 q 8 u).cell hS5.2.2.1 (by simp; omega), (gq W5 q 8 u).cell hS5.2.2.2 (by simp; omega)⟩
      have gp6 := Lib.hid ((gp3.out.more g5).step g6 (fun k e => by cases e; exact .inl hRq))
      have H6 := Lib.hid h6
      have hz6 : Hid (w2.heap.size < W5.heap.size) := Lib.hid (Nat.lt_of_lt_of_le hyl.out g5.size)
      clear h5 h6 g5 g6 o5 H3 gp3
      go_wp2_with fail
      refine hK.out _ _ hS5 (fun hS7 => ?_)
      clear hK
      refine wpAnyH_take (i := 7) (oi := ⟨some 25, _, _, _, _, _⟩) (v := ?_) rfl (by kernel_rfl) (by kernel_rfl) (by kernel_rfl) (fun _ _ _ h => h) (Or.inl ⟨by rfl, ?_⟩) (by assumption) ?_
      rotate_left
      · (intro w hSw; (try dsimp only at hSw); go_simp; try with_reducible rfl)
      try simp only [Act.put, List.setIfInBounds_toArray, List.set_cons_zero, List.set_cons_succ]
      refine wpAnyH_take (i := 8) (oi := ⟨some 26, _, _, _, _, _⟩) (v := ?_) rfl (by kernel_rfl) (by kernel_rfl) (by kernel_rfl) (fun _ _ _ h => h) (Or.inl ⟨by rfl, ?_⟩) (by assumption) ?_
      rotate_left
      · (intro w hSw; (try dsimp only at hSw); go_simp; try with_reducible rfl)
      try simp only [Act.put, List.setIfInBounds_toArray, List.set_cons_zero, List.set_cons_succ]
      refine wpAnyH_ready (rs := [9]) (by kernel_rfl) (by simp) ?_
      refine AllReadyH.cons rfl (fun K hK => ?_) AllReadyH.nil
      go_simp
      refine hK.out _ _ (hS6 _) (fun _ => ?_)
      clear hK
      refine wpAnyH_done (by kernel_rfl) ?_ _
      obtain ⟨dl, hdl⟩ : ∃ dl, dl = (RMv.done D (.rem s)).length := ⟨_, rfl⟩
      rw [← hdl] at H6 gp6 ⊢
      have hT := hS6 (.slice a5 dl c5)
      obtain ⟨W6, hW6⟩ : ∃ W6, W6 = W5.setCell ⟨q, 8, none⟩ (.slice a5 dl c5) := ⟨_, rfl⟩
      rw [← hW6] at H6 gp6 hT
      have hz7 : w2.heap.size < W6.heap.size := by rw [hW6]; exact Nat.lt_of_lt_of_le hz6.out (gq W5 q 8 _).size
      clear hS0 hS5 hS6 hS7 b0 x8 y8 yf hz6
      go_wp2_with fail
      rw [← hW6]
      replace hW6 := Lib.hid hW6
      have gd := gdrew (World.grownBy.refl W6 none)
      have gX := World.grownBy_alloc W6.drew (.cells #[.int .i64 3, .string s, .string ⟨#[]⟩, .int .i64 0] 123) none
      have eX := World.alloc_heap_new W6.drew (.cells #[.int .i64 3, .string s, .string ⟨#[]⟩, .int .i64 0] 123)
      obtain ⟨X, hX⟩ : ∃ X, X = W6.drew.alloc (.cells #[.int .i64 3, .string s, .string ⟨#[]⟩, .int .i64 0] 123) := ⟨_, rfl⟩
      rw [← hX] at gX eX
      have hd7 := H6.out.new gd
      have h7 := hd7.new gX
      have gp7 := (gp6.out.more gd).more gX
      have hrm := h7.rows.rm
      dsimp only at hrm
      rw [hmv.out, hml.out] at hrm
      obtain ⟨v8, w8, hrun8, o8, g8⟩ := push_move (.slice mva a.moves.length mvc) a.moves (.rem s) W6.drew.heap.size w X hrm gp7.size hmv9 eX
      obtain ⟨nl, hnl⟩ : ∃ nl, nl = (a.moves ++ [RMv.rem s]).length := ⟨_, rfl⟩
      obtain ⟨a8, c8, hv8⟩ := rowFormS o8.1
      rw [← hnl] at hv8
      subst hv8
      replace hnl := Lib.hid hnl
      rw [← hml.out] at hrun8 g8
      have g8' : X.grownBy w8 (Value.ownBlock { r1 with dir := .slice a5 dl c5 }.moves) := by dsimp only; rw [hmv.out]; exact g8
      obtain ⟨h9, at9, gp9⟩ := h7.pushMove g8' o8
      have x10 : W6.drew.cell? ⟨q, 10, none⟩ = some (.slice mva ml mvc) := by rw [← hmv.out]; exact hd7.at_.c10
      have x10b : X.cell? ⟨q, 10, none⟩ = some (.slice mva ml mvc) := gX.cell x10 (by simp)
      have y10 := at9.c10
      have yf10 := at9.free 10
      dsimp only at y10
      have hT7 : W6.drew.cell? ⟨w2.heap.size, 0, none⟩ = some (.int .i64 3) ∧ W6.drew.cell? ⟨w2.heap.size, 1, none⟩ = some (.string s) ∧ W6.drew.cell? ⟨w2.heap.size, 2, none⟩ = some (.string ⟨#[]⟩) ∧ W6.drew.cell? ⟨w2.heap.size, 3, none⟩ = some (.int .i64 0) := hT
      have hT8 : X.cell? ⟨w2.heap.size, 0, none⟩ = some (.int .i64 3) ∧ X.cell? ⟨w2.heap.size, 1, none⟩ = some (.string s) ∧ X.cell? ⟨w2.heap.size, 2, none⟩ = some (.string ⟨#[]⟩) ∧ X.cell? ⟨w2.heap.size, 3, none⟩ = some (.int .i64 0) := ⟨gX.cell hT7.1 (by simp), gX.cell hT7.2.1 (by simp), gX.cell hT7.2.2.1 (by simp), gX.cell hT7.2.2.2 (by simp)⟩
      have hmo9 : (Value.slice mva ml mvc).ownBlock ≠ some w2.heap.size := fun e => by have := hmlt.out _ (by rw [hmv.out]; exact e); omega
      have hT9 : w8.cell? ⟨w2.heap.size, 0, none⟩ = some (.int .i64 3) ∧ w8.cell? ⟨w2.heap.size, 1, none⟩ = some (.string s) ∧ w8.cell? ⟨w2.heap.size, 2, none⟩ = some (.string ⟨#[]⟩) ∧ w8.cell? ⟨w2.heap.size, 3, none⟩ = some (.int .i64 0) := ⟨g8.cell hT8.1 (fun e => hmo9 (by simpa using e.symm)), g8.cell hT8.2.1 (fun e => hmo9 (by simpa using e.symm)), g8.cell hT8.2.2.1 (fun e => hmo9 (by simpa using e.symm)), g8.cell hT8.2.2.2 (fun e => hmo9 (by simpa using e.symm))⟩
      have gq9 := gq w8 q 10 (.slice a8 nl c8)
      have hTA : (w8.setCell ⟨q, 10, none⟩ (.slice a8 nl c8)).cell? ⟨w2.heap.size, 0, none⟩ = some (.int .i64 3) ∧ (w8.setCell ⟨q, 10, none⟩ (.slice a8 nl c8)).cell? ⟨w2.heap.size, 1, none⟩ = some (.string s) ∧ (w8.setCell ⟨q, 10, none⟩ (.slice a8 nl c8)).cell? ⟨w2.heap.size, 2, none⟩ = some (.string ⟨#[]⟩) ∧ (w8.setCell ⟨q, 10, none⟩ (.slice a8 nl c8)).cell? ⟨w2.heap.size, 3, none⟩ = some (.int .i64 0) := ⟨gq9.cell hT9.1 (by simp; omega), gq9.cell hT9.2.1 (by simp; omega), gq9.cell hT9.2.2.1 (by simp; omega), gq9.cell hT9.2.2.2 (by simp; omega)⟩
      have FF := Lib.hid (RDone.of h9 (gp7.trans gp9 (fun k hk => hk.elim .inl (fun h => .inr h))))
      clear H6 gp6 gd gX eX h7 gp7 hrm o8 g8 g8' h9 at9 gp9 gq9 hd7 hmo9 hT
      subst hX
      have x10c : (W6.alloc (.cells #[.int .i64 3, .string s, .string ⟨#[]⟩, .int .i64 0] 123)).cell? ⟨q, 10, none⟩ = some (.slice mva ml mvc) := x10b
      refine wp_region_held_drew (S := fun V => V.cell? ⟨w2.heap.size, 0, none⟩ = some (.int .i64 3) ∧ V.cell? ⟨w2.heap.size, 1, none⟩ = some (.string s) ∧ V.cell? ⟨w2.heap.size, 2, none⟩ = some (.string ⟨#[]⟩) ∧ V.cell? ⟨w2.heap.size, 3, none⟩ = some (.int .i64 0)) (by kernel_rfl) hT7 (fun hS0 => ?_)
      refine wpAnyH_take (i := 0) (oi := ⟨some 27, _, _, _, _, _⟩) (v := ?_) rfl (by kernel_rfl) (by kernel_rfl) (by kernel_rfl) (fun _ _ _ h => h) (Or.inl ⟨by rfl, ?_⟩) (by assumption) ?_
      rotate_left
      · (intro w hSw; (try dsimp only at hSw); go_simp; try with_reducible rfl)
      try simp only [Act.put, List.setIfInBounds_toArray, List.set_cons_zero, List.set_cons_succ]
      refine wpAnyH_take (i := 1) (oi := ⟨some 28, _, _, _, _, _⟩) (v := ?_) rfl (by kernel_rfl) (by kernel_rfl) (by kernel_rfl) (fun _ _ _ h => h) (Or.inl ⟨by rfl, ?_⟩) (by assumption) ?_
      rotate_left
      · (intro w hSw; (try dsimp only at hSw); go_simp; try with_reducible rfl)
      try simp only [Act.put, List.setIfInBounds_toArray, List.set_cons_zero, List.set_cons_succ]
      refine wpAnyH_take (i := 2) (oi := ⟨some 29, _, _, _, _, _⟩) (v := ?_) rfl (by kernel_rfl) (by kernel_rfl) (by kernel_rfl) (fun _ _ _ h => h) (Or.inl ⟨by rfl, ?_⟩) (by assumption) ?_
      rotate_left
      · (intro w hSw; (try dsimp only at hSw); go_simp; try with_reducible rfl)
      try simp only [Act.put, List.setIfInBounds_toArray, List.set_cons_zero, List.set_cons_succ]
      refine wpAnyH_take (i := 3) (oi := ⟨some 30, _, _, _, _, _⟩) (v := ?_) rfl (by kernel_rfl) (by kernel_rfl) (by kernel_rfl) (fun _ _ _ h => h) (Or.inl ⟨by rfl, ?_⟩) (by assumption) ?_
      rotate_left
      · (intro w hSw; (try dsimp only at hSw); go_simp; try with_reducible rfl)
      try simp only [Act.put, List.setIfInBounds_toArray, List.set_cons_zero, List.set_cons_succ]
      refine wpAnyH_take (i := 5) (oi := ⟨some 32, _, _, _, _, _⟩) (v := ?_) rfl (by kernel_rfl) (by kernel_rfl) (by kernel_rfl) (fun _ _ _ h => h) (Or.inl ⟨by rfl, ?_⟩) (by assumption) ?_
      rotate_left
      · (intro w hSw; (try dsimp only at hSw); go_simp; try with_reducible rfl)
      try simp only [Act.put, List.setIfInBounds_toArray, List.set_cons_zero, List.set_cons_succ]
      refine wpAnyH_ready (rs := [4, 6]) (by kernel_rfl) (by simp) ?_
      refine AllReadyH.cons rfl (fun K hK => ?_) (AllReadyH.cons rfl (fun K hK => ?_) AllReadyH.nil)
      · go_simp
        refine hK.out _ _ hS0 (fun _ => ?_)
        clear hK
        refine wpAnyH_ready (rs := [6]) (by kernel_rfl) (by simp) ?_
        refine AllReadyH.cons rfl (fun K hK => ?_) AllReadyH.nil
        go_simp
        refine hK.out _ _ hT8 (fun _ => ?_)
        clear hK
        refine wpAnyH_ready (rs := [7]) (by kernel_rfl) (by simp) ?_
        refine AllReadyH.cons rfl (fun K hK => ?_) AllReadyH.nil
        rw [if_pos (by rfl)]
        refine wp_app_run _ _ _ rfl (.slice mva ml mvc) _ rfl rfl hrun8 ?_
        refine hK.out _ _ hT9 (fun _ => ?_)
        clear hK
        refine wpAnyH_take (i := 8) (oi := ⟨some 35, _, _, _, _, _⟩) (v := ?_) rfl (by kernel_rfl) (by kernel_rfl) (by kernel_rfl) (fun _ _ _ h => h) (Or.inl ⟨by rfl, ?_⟩) (by assumption) ?_
        rotate_left
        · (intro w hSw; (try dsimp only at hSw); go_simp; try with_reducible rfl)
        try simp only [Act.put, List.setIfInBounds_toArray, List.set_cons_zero, List.set_cons_succ]
        refine wpAnyH_take (i := 9) (oi := ⟨some 36, _, _, _, _, _⟩) (v := ?_) rfl (by kernel_rfl) (by kernel_rfl) (by kernel_rfl) (fun _ _ _ h => h) (Or.inl ⟨by rfl, ?_⟩) (by assumption) ?_
        rotate_left
        · (intro w hSw; (try dsimp only at hSw); go_simp; try with_reducible rfl)
        try simp only [Act.put, List.setIfInBounds_toArray, List.set_cons_zero, List.set_cons_succ]
        refine wpAnyH_ready (rs := [10]) (by kernel_rfl) (by simp) ?_
        refine AllReadyH.cons rfl (fun K hK => ?_) AllReadyH.nil
        go_simp
        refine hK.out _ _ hTA (fun _ => ?_)
        clear hK
        refine wpAnyH_done (by kernel_rfl) ?_ _
        go_wp2_with fail
        go_ret
        have FG := FF.out
        rw [hD.out] at FG
        exact ⟨rfl, FG⟩
      · go_simp
        refine hK.out _ _ hT8 (fun _ => ?_)
        clear hK
        refine wpAnyH_ready (rs := [4]) (by kernel_rfl) (by simp) ?_
        refine AllReadyH.cons rfl (fun K hK => ?_) AllReadyH.nil
        go_simp
        refine hK.out _ _ hT8 (fun _ => ?_)
        clear hK
        refine wpAnyH_ready (rs := [7]) (by kernel_rfl) (by simp) ?_
        refine AllReadyH.cons rfl (fun K hK => ?_) AllReadyH.nil
        rw [if_pos (by rfl)]
        refine wp_app_run _ _ _ rfl (.slice mva ml mvc) _ rfl rfl hrun8 ?_
        refine hK.out _ _ hT9 (fun _ => ?_)
        clear hK
        refine wpAnyH_take (i := 8) (oi := ⟨some 35, _, _, _, _, _⟩) (v := ?_) rfl (by kernel_rfl) (by kernel_rfl) (by kernel_rfl) (fun _ _ _ h => h) (Or.inl ⟨by rfl, ?_⟩) (by assumption) ?_
        rotate_left
        · (intro w hSw; (try dsimp only at hSw); go_simp; try with_reducible rfl)
        try simp only [Act.put, List.setIfInBounds_toArray, List.set_cons_zero, List.set_cons_succ]
        refine wpAnyH_take (i := 9) (oi := ⟨some 36, _, _, _, _, _⟩) (v := ?_) rfl (by kernel_rfl) (by kernel_rfl) (by kernel_rfl) (fun _ _ _ h => h) (Or.inl ⟨by rfl, ?_⟩) (by assumption) ?_
        rotate_left
        · (intro w hSw; (try dsimp only at hSw); go_simp; try with_reducible rfl)
        try simp only [Act.put, List.setIfInBounds_toArray, List.set_cons_zero, List.set_cons_succ]
        refine wpAnyH_ready (rs := [10]) (by kernel_rfl) (by simp) ?_
        refine AllReadyH.cons rfl (fun K hK => ?_) AllReadyH.nil
        go_simp
        refine hK.out _ _ hTA (fun _ => ?_)
        clear hK
        refine wpAnyH_done (by kernel_rfl) ?_ _
        go_wp2_with fail
        go_ret
        have FG := FF.out
        rw [hD.out] at FG
        exact ⟨rfl, FG⟩
  · rw [if_neg h0]
    have hz : (a.begin.1 == 0) = false := by simpa using h0
    generalize a.begin = b at *
    clear h F
    go_enter Tryz.func44, Tryz.ntmps44
    go_wp2_with (go_at_call 74; go_loud (refine hb.mono ?_; clear hb; rintro e w1 ⟨rfl, h1⟩; have H1 := Lib.hid h1; clear h1))
    go_ret
    exact ⟨rfl, H1.out⟩
end Go.Proofs.YtafcgjbafihniaaGreat

/-
  LAYER 1 (fs): the reference's Rename.
-/
namespace Go.Proofs.YtafcgjbafihniaaGreat
set_option maxRecDepth 100000
variable {DX : Nat → Prop}
open Go.RowKit Go.Lib
open Go.Proofs (encStr)
attribute [local go_sem] Oper.semAt_some

def RefP.rename (a : RefP) (s t : ByteArray) : Int × RefP :=
  if a.begin.1 = 0 then (match a.dir.look s.data.toList with
    | none => (14, { a with count := a.count + 1 })
    | some j => if okName t = true then (if s = t then (0, { a with count := a.count + 1 }) else (0, { a with count := a.count + 1, dir := RMv.done a.dir (.ren s t j), moves := a.moves ++ [.ren s t j] })) else (15, { a with count := a.count + 1 }))
  else a.begin

set_option maxHeartbeats 8000000 in
theorem rrename_any {R : Nat → Prop} {w : World} {q : Nat} {a : RefP} {r : RefV} {vs : List (Value × Value)} (s t : ByteArray) (h : RefOk DX R w q a r vs) (hR : ∀ k, RD R DX k → k < w.heap.size) (F : a.Fits) (hdir : a.dir.length ≤ 65536) :
    Calls Tryz.prog 43 #[.pointer (some ⟨q, 0, none⟩), .string s, .string t] w fun e w' => e = .returned (.int .i64 (a.rename s t).1) ∧ RDone DX R w q (a.rename s t).2 w' := by
  have hb := rbegin_any h hR F
  have hRq := h.rq
  unfold RefP.rename
  by_cases h0 : a.begin.1 = 0
  · rw [RefP.begin_ok h0, h0] at hb
    rw [if_pos h0]
    have hmv9 := F.moves
    clear h0 h
    cases hlk : a.dir.look s.data.toList with
    | none =>
      dsimp only
      replace hlk := Lib.hid hlk
      go_enter Tryz.func43, Tryz.ntmps43
      go_wp2_with first
        | (go_at_call 74
           refine hb.mono ?_
           clear hb
           rintro e w1 ⟨rfl, ⟨r1, vs1, h1⟩, g1⟩
           have hno := node_any q r1 a.dir s w1 h1.at_ h1.rows.rd.1 (by omega)
           rw [hlk.out, show ptrN none = -1 from rfl] at hno
           have H1 := Lib.hid (And.intro h1 g1)
           clear h1 g1)
        | (go_at_call 52
           refine hno.mono ?_
           clear hno
           rintro e w2 ⟨rfl, g2⟩
           have H2 := Lib.hid (RDone.of (H1.out.1.wide.new g2) (H1.out.2.more g2))
           clear H1 g2)
      go_ret
      exact ⟨rfl, H2.out⟩
    | some jn =>
      dsimp only
      replace hlk := Lib.hid hlk
      have hj0 : ((jn : Int) < 0) = False := by simp
      obtain ⟨D, hD⟩ : ∃ D, D = a.dir := ⟨_, rfl⟩
      rw [← hD] at hdir
      replace hD := Lib.hid hD
      have hM := fun W => refMay_any t W
      obtain ⟨ok, hok⟩ : ∃ ok, ok = okName t := ⟨_, rfl⟩
      simp only [← hok] at hM
      rw [← hok]
      replace hok := Lib.hid hok
      cases ok
      · rw [if_neg (by simp)]
        go_enter Tryz.func43, Tryz.ntmps43
        go_wp2_with first
          | (go_at_call 74
             refine hb.mono ?_
             clear hb
             rintro e w1 ⟨rfl, ⟨r1, vs1, h1⟩, g1⟩
             have hno := node_any q r1 a.dir s w1 h1.at_ h1.rows.rd.1 (by rw [← hD.out]; omega)
             rw [hlk.out, show ptrN (some jn) = (jn : Int) from rfl] at hno
             have H1 := Lib.hid (And.intro h1 g1)
             clear h1 g1)
          | (go_at_call 52
             refine hno.mono ?_
             clear hno
             rintro e w2 ⟨rfl, g2⟩
             have H2 := Lib.hid (RDone.of (H1.out.1.wide.new g2) (H1.out.2.more g2))
             clear H1 g2)
          | (go_at_call 75
             refine (hM _).mono ?_
             rintro e w9 ⟨rfl, rfl⟩)
        go_ret
        exact ⟨rfl, H2.out⟩
      · rw [if_pos rfl]
        by_cases hst : s = t
        · subst hst
          rw [if_pos rfl]
          have hst2 : (s.toList == s.toList) = true := by simp
          go_enter Tryz.func43, Tryz.ntmps43
          go_wp2_with first
            | (go_at_call 74
               refine hb.mono ?_
               clear hb
               rintro e w1 ⟨rfl, ⟨r1, vs1, h1⟩, g1⟩
               have hno := node_any q r1 a.dir s w1 h1.at_ h1.rows.rd.1 (by rw [← hD.out]; omega)
               rw [hlk.out, show ptrN (some jn) = (jn : Int) from rfl] at hno
               have H1 := Lib.hid (And.intro h1 g1)
               clear h1 g1)
            | (go_at_call 52
               refine hno.mono ?_
               clear hno
               rintro e w2 ⟨rfl, g2⟩
               have H2 := Lib.hid (RDone.of (H1.out.1.wide.new g2) (H1.out.2.more g2))
               clear H1 g2)
            | (go_at_call 75
               refine (hM _).mono ?_
               rintro e w9 ⟨rfl, rfl⟩)
          go_ret
          exact ⟨rfl, H2.out⟩
        · rw [if_neg hst]
          have hst2 : (s.toList == t.toList) = false := by
            rw [beq_eq_false_iff_ne]
            intro e
            rw [ByteArray.toList_eq, ByteArray.toList_eq] at e
            exact hst (by cases s; cases t; simp at e; simp [e])
          go_enter Tryz.func43, Tryz.ntmps43
          go_wp2_with first
            | (go_at_call 74
               refine hb.mono ?_
               clear hb
               rintro e w1 ⟨rfl, ⟨r1, vs1, h1⟩, g1⟩
               have hno := node_any q r1 a.dir s w1 h1.at_ h1.rows.rd.1 (by rw [← hD.out]; omega)
               rw [hlk.out, show ptrN (some jn) = (jn : Int) from rfl] at hno
               have H1 := Lib.hid (And.intro h1 g1)
               clear h1 g1)
            | (go_at_call 52
               refine hno.mono ?_
               clear hno
               rintro e w2 ⟨rfl, g2⟩
               have h2 := H1.out.1.wide.new g2
               have gp2 := H1.out.2.more g2
               clear H1 g2)
            | (go_at_call 75
               refine (hM _).mono ?_
               rintro e w9 ⟨rfl, rfl⟩)
          obtain ⟨ml, hml⟩ : ∃ ml, ml = a.moves.length := ⟨_, rfl⟩
          obtain ⟨mva, mvc, hmv⟩ := h2.rows.rm.form
          dsimp only at hmv
          rw [← hml] at hmv
          have hmlt := fun r e => (World.ownsRow.lt h2.rows.rm.1 r e).2
          have gY := World.grownBy_alloc w2 (.cells #[.int .i64 2, .string s, .string t, .int .i64 (jn : Int)] 123) none
          have eY := World.alloc_heap_new w2 (.cells #[.int .i64 2, .string s, .string t, .int .i64 (jn : Int)] 123)
          obtain ⟨Y, hY⟩ : ∃ Y, Y = w2.alloc (.cells #[.int .i64 2, .string s, .string t, .int .i64 (jn : Int)] 123) := ⟨_, rfl⟩
          rw [← hY] at gY eY
          have gd := gY.trans (gdrew (World.grownBy.refl Y none))
          have h3 := h2.new gd
          have gp3 := gp2.more gd
          obtain ⟨va, vc, hv⟩ := h3.rows.rd.form
          have hrd := h3.rows.rd
          rw [hv] at hrd
          dsimp only at hv hrd
          rw [← hD.out] at hv hrd
          have x8 := h3.at_.c8
          rw [hv] at x8
          have hmo := moved_any (.ren s t jn) (.slice va D.length vc) D Y.drew hrd.1 (by omega)
          rw [show (RMv.ren s t jn).agg = .agg #[.int .i64 2, .string s, .string t, .int .i64 (jn : Int)] from rfl] at hmo
          have b0 : Y.drew.cell? ⟨w2.heap.size, 0, none⟩ = some (.int .i64 2) ∧ Y.drew.cell? ⟨w2.heap.size, 1, none⟩ = some (.string s) ∧ Y.drew.cell? ⟨w2.heap.size, 2, none⟩ = some (.string t) ∧ Y.drew.cell? ⟨w2.heap.size, 3, none⟩ = some (.int .i64 (jn : Int)) := by
            refine ⟨?_, ?_, ?_, ?_⟩ <;> (show Y.cell? _ = _; simp [World.cell?, eY])
          have hyq : w2.heap.size ≠ q := by have := lt_of_block h2.at_; omega
          have H3 := Lib.hid h3
          replace hmv := Lib.hid hmv
          replace hmlt := Lib.hid hmlt
          have hyl := Lib.hid (lt_of_block eY)
          replace hml := Lib.hid hml
          replace gp3 := Lib.hid gp3
          clear h2 gp2 gY eY gd hrd hv h3
          rw [← hY]
          replace hY := Lib.hid hY
          refine wp_region_held_drew (S := fun V => V.cell? ⟨w2.heap.size, 0, none⟩ = some (.int .i64 2) ∧ V.cell? ⟨w2.heap.size, 1, none⟩ = some (.string s) ∧ V.cell? ⟨w2.heap.size, 2, none⟩ = some (.string t) ∧ V.cell? ⟨w2.heap.size, 3, none⟩ = some (.int .i64 (jn : Int))) (by kernel_rfl) b0 (fun hS0 => ?_)
          refine wpAnyH_take (i := 0) (oi := ⟨some 30, _, _, _, _, _⟩) (v := ?_) rfl (by kernel_rfl) (by kernel_rfl) (by kernel_rfl) (fun _ _ _ h => h) (Or.inl ⟨by rfl, ?_⟩) (by assumption) ?_
          rotate_left
          · (intro w hSw; (try dsimp only at hSw); go_simp; try with_reducible rfl)
          try simp only [Act.put, List.setIfInBounds_toArray, List.set_cons_zero, List.set_cons_succ]
          refine wpAnyH_take (i := 1) (oi := ⟨some 31, _, _, _, _, _⟩) (v := ?_) rfl (by kernel_rfl) (by kernel_rfl) (by kernel_rfl) (fun _ _ _ h => h) (Or.inl ⟨by rfl, ?_⟩) (by assumption) ?_
          rotate_left
          · (intro w hSw; (try dsimp only at hSw); go_simp; try with_reducible rfl)
          try simp only [Act.put, List.setIfInBounds_toArray, List.set_cons_zero, List.set_cons_succ]
          refine wpAnyH_take (i := 2) (oi := ⟨some 32, _, _, _, _, _⟩) (v := ?_) rfl (by kernel_rfl) (by kernel_rfl) (by kernel_rfl) (fun _ _ _ h => h) (Or.inl ⟨by rfl, ?_⟩) (by assumption) ?_
          rotate_left
          · (intro w hSw; (try dsimp only at hSw); go_simp; try with_reducible rfl)
          try simp only [Act.put, List.setIfInBounds_toArray, List.set_cons_zero, List.set_cons_succ]
          refine wpAnyH_take (i := 3) (oi := ⟨some 33, _, _, _, _, _⟩) (v := ?_) rfl (by kernel_rfl) (by kernel_rfl) (by kernel_rfl) (fun _ _ _ h => h) (Or.inl ⟨by rfl, ?_⟩) (by assumption) ?_
          rotate_left
          · (intro w hSw; (try dsimp only at hSw); go_simp; try with_reducible rfl)
          try simp only [Act.put, List.setIfInBounds_toArray, List.set_cons_zero, List.set_cons_succ]
          refine wpAnyH_take (i := 5) (oi := ⟨some 35, _, _, _, _, _⟩) (v := ?_) rfl (by kernel_rfl) (by kernel_rfl) (by kernel_rfl) (fun _ _ _ h => h) (Or.inl ⟨by rfl, ?_⟩) (by assumption) ?_
          rotate_left
          · (intro w hSw; (try dsimp only at hSw); go_simp; try with_reducible rfl)
          try simp only [Act.put, List.setIfInBounds_toArray, List.set_cons_zero, List.set_cons_succ]
          refine wpAnyH_ready (rs := [4]) (by kernel_rfl) (by simp) ?_
          refine AllReadyH.cons rfl (fun K hK => ?_) AllReadyH.nil
          go_simp
          refine hK.out _ _ hS0 (fun _ => ?_)
          clear hK
          refine wpAnyH_ready (rs := [6]) (by kernel_rfl) (by simp) ?_
          refine AllReadyH.cons rfl (fun K hK => ?_) AllReadyH.nil
          go_simp
          refine hmo.mono ?_
          clear hmo
          rintro e W5 ⟨v5, rfl, o5, g5⟩
          have h5 := H3.out.new g5
          have hS5 : W5.cell? ⟨w2.heap.size, 0, none⟩ = some (.int .i64 2) ∧ W5.cell? ⟨w2.heap.size, 1, none⟩ = some (.string s) ∧ W5.cell? ⟨w2.heap.size, 2, none⟩ = some (.string t) ∧ W5.cell? ⟨w2.heap.size, 3, none⟩ = some (.int .i64 (jn : Int)) := ⟨g5.cell hS0.1 (by simp), g5.cell hS0.2.1 (by simp), g5.cell hS0.2.2.1 (by simp), g5.cell hS0.2.2.2 (by simp)⟩
          obtain ⟨a5, c5, rfl⟩ := rowFormS o5
          have y8 := h5.at_.c8
          have yf := h5.at_.free 8
          have h6 := h5.setDir (OwnR.rw o5 gp3.out.size)
          have g6 := gq W5 q 8 (.slice a5 (RMv.done D (.ren s t jn)).length c5)
          have hS6 : ∀ u, (W5.setCell ⟨q, 8, none⟩ u).cell? ⟨w2.heap.size, 0, none⟩ = some (.int .i64 2) ∧ (W5.setCell ⟨q, 8, none⟩ u).cell? ⟨w2.heap.size, 1, none⟩ = some (.string s) ∧ (W5.setCell ⟨q, 8, none⟩ u).cell? ⟨w2.heap.size, 2, none⟩ = some (.string t) ∧ (W5.setCell ⟨q, 8, none⟩ u).cell? ⟨w2.heap.size, 3, none⟩ = some (.int .i64 (jn : Int)) := fun u =>
            ⟨(gq W5 q 8 u).cell hS5.1 (by simp; omega), (gq W5 q 8 u).cell hS5.2.1 (by simp; omega), (gq W5 q 8 u).cell hS5.2.2.1 (by simp; omega), (gq W5 q 8 u).cell hS5.2.2.2 (by simp; omega)⟩
          have gp6 := Lib.hid ((gp3.out.more g5).step g6 (fun k e => by cases e; exact .inl hRq))
          have H6 := Lib.hid h6
          have hz6 : Hid (w2.heap.size < W5.heap.size) := Lib.hid (Nat.lt_of_lt_of_le hyl.out g5.size)
          clear h5 h6 g5 g6 o5 H3 gp3
          go_wp2_with fail
          refine hK.out _ _ hS5 (fun hS7 => ?_)
          clear hK
          refine wpAnyH_take (i := 7) (oi := ⟨some 37, _, _, _, _, _⟩) (v := ?_) rfl (by kernel_rfl) (by kernel_rfl) (by kernel_rfl) (fun _ _ _ h => h) (Or.inl ⟨by rfl, ?_⟩) (by assumption) ?_
          rotate_left
          · (intro w hSw; (try dsimp only at hSw); go_simp; try with_reducible rfl)
          try simp only [Act.put, List.setIfInBounds_toArray, List.set_cons_zero, List.set_cons_succ]
          refine wpAnyH_take (i := 8) (oi := ⟨some 38, _, _, _, _, _⟩) (v := ?_) rfl (by kernel_rfl) (by kernel_rfl) (by kernel_rfl) (fun _ _ _ h => h) (Or.inl ⟨by rfl, ?_⟩) (by assumption) ?_
          rotate_left
          · (intro w hSw; (try dsimp only at hSw); go_simp; try with_reducible rfl)
          try simp only [Act.put, List.setIfInBounds_toArray, List.set_cons_zero, List.set_cons_succ]
          refine wpAnyH_ready (rs := [9]) (by kernel_rfl) (by simp) ?_
          refine AllReadyH.cons rfl (fun K hK => ?_) AllReadyH.nil
          go_simp
          refine hK.out _ _ (hS6 _) (fun _ => ?_)
          clear hK
          refine wpAnyH_done (by kernel_rfl) ?_ _
          obtain ⟨dl, hdl⟩ : ∃ dl, dl = (RMv.done D (.ren s t jn)).length := ⟨_, rfl⟩
          rw [← hdl] at H6 gp6 ⊢
          have hT := hS6 (.slice a5 dl c5)
          obtain ⟨W6, hW6⟩ : ∃ W6, W6 = W5.setCell ⟨q, 8, none⟩ (.slice a5 dl c5) := ⟨_, rfl⟩
          rw [← hW6] at H6 gp6 hT
          have hz7 : w2.heap.size < W6.heap.size := by rw [hW6]; exact Nat.lt_of_lt_of_le hz6.out (gq W5 q 8 _).size
          clear hS0 hS5 hS6 hS7 b0 x8 y8 yf hz6
          go_wp2_with fail
          rw [← hW6]
          replace hW6 := Lib.hid hW6
          have gd := gdrew (World.grownBy.refl W6 none)
          have gX := World.grownBy_alloc W6.drew (.cells #[.int .i64 2, .string s, .string t, .int .i64 (jn : Int)] 123) none
          have eX := World.alloc_heap_new W6.drew (.cells #[.int .i64 2, .string s, .string t, .int .i64 (jn : Int)] 123)
          obtain ⟨X, hX⟩ : ∃ X, X = W6.drew.alloc (.cells #[.int .i64 2, .string s, .string t, .int .i64 (jn : Int)] 123) := ⟨_, rfl⟩
          rw [← hX] at gX eX
          have hd7 := H6.out.new gd
          have h7 := hd7.new gX
          have gp7 := (gp6.out.more gd).more gX
          have hrm := h7.rows.rm
          dsimp only at hrm
          rw [hmv.out, hml.out] at hrm
          obtain ⟨v8, w8, hrun8, o8, g8⟩ := push_move (.slice mva a.moves.length mvc) a.moves (.ren s t jn) W6.drew.heap.size w X hrm gp7.size hmv9 eX
          obtain ⟨nl, hnl⟩ : ∃ nl, nl = (a.moves ++ [RMv.ren s t jn]).length := ⟨_, rfl⟩
          obtain ⟨a8, c8, hv8⟩ := rowFormS o8.1
          rw [← hnl] at hv8
          subst hv8
          replace hnl := Lib.hid hnl
          rw [← hml.out] at hrun8 g8
          have g8' : X.grownBy w8 (Value.ownBlock { r1 with dir := .slice a5 dl c5 }.moves) := by dsimp only; rw [hmv.out]; exact g8
          obtain ⟨h9, at9, gp9⟩ := h7.pushMove g8' o8
          have x10 : W6.drew.cell? ⟨q, 10, none⟩ = some (.slice mva ml mvc) := by rw [← hmv.out]; exact hd7.at_.c10
          have x10b : X.cell? ⟨q, 10, none⟩ = some (.slice mva ml mvc) := gX.cell x10 (by simp)
          have y10 := at9.c10
          have yf10 := at9.free 10
          dsimp only at y10
          have hT7 : W6.drew.cell? ⟨w2.heap.size, 0, none⟩ = some (.int .i64 2) ∧ W6.drew.cell? ⟨w2.heap.size, 1, none⟩ = some (.string s) ∧ W6.drew.cell? ⟨w2.heap.size, 2, none⟩ = some (.string t) ∧ W6.drew.cell? ⟨w2.heap.size, 3, none⟩ = some (.int .i64 (jn : Int)) := hT
          have hT8 : X.cell? ⟨w2.heap.size, 0, none⟩ = some (.int .i64 2) ∧ X.cell? ⟨w2.heap.size, 1, none⟩ = some (.string s) ∧ X.cell? ⟨w2.heap.size, 2, none⟩ = some (.string t) ∧ X.cell? ⟨w2.heap.size, 3, none⟩ = some (.int .i64 (jn : Int)) := ⟨gX.cell hT7.1 (by simp), gX.cell hT7.2.1 (by simp), gX.cell hT7.2.2.1 (by simp), gX.cell hT7.2.2.2 (by simp)⟩
          have hmo9 : (Value.slice mva ml mvc).ownBlock ≠ some w2.heap.size := fun e => by have := hmlt.out _ (by rw [hmv.out]; exact e); omega
          have hT9 : w8.cell? ⟨w2.heap.size, 0, none⟩ = some (.int .i64 2) ∧ w8.cell? ⟨w2.heap.size, 1, none⟩ = some (.string s) ∧ w8.cell? ⟨w2.heap.size, 2, none⟩ = some (.string t) ∧ w8.cell? ⟨w2.heap.size, 3, none⟩ = some (.int .i64 (jn : Int)) := ⟨g8.cell hT8.1 (fun e => hmo9 (by simpa using e.symm)), g8.cell hT8.2.1 (fun e => hmo9 (by simpa using e.symm)), g8.cell hT8.2.2.1 (fun e => hmo9 (by simpa using e.symm)), g8.cell hT8.2.2.2 (fun e => hmo9 (by simpa using e.symm))⟩
          have gq9 := gq w8 q 10 (.slice a8 nl c8)
          have hTA : (w8.setCell ⟨q, 10, none⟩ (.slice a8 nl c8)).cell? ⟨w2.heap.size, 0, none⟩ = some (.int .i64 2) ∧ (w8.setCell ⟨q, 10, none⟩ (.slice a8 nl c8)).cell? ⟨w2.heap.size, 1, none⟩ = some (.string s) ∧ (w8.setCell ⟨q, 10, none⟩ (.slice a8 nl c8)).cell? ⟨w2.heap.size, 2, none⟩ = some (.string t) ∧ (w8.setCell ⟨q, 10, none⟩ (.slice a8 nl c8)).cell? ⟨w2.heap.size, 3, none⟩ = some (.int .i64 (jn : Int)) := ⟨gq9.cell hT9.1 (by simp; omega), gq9.cell hT9.2.1 (by simp; omega), gq9.cell hT9.2.2.1 (by simp; omega), gq9.cell hT9.2.2.2 (by simp; omega)⟩
          have FF := Lib.hid (RDone.of h9 (gp7.trans gp9 (fun k hk => hk.elim .inl (fun h => .inr h))))
          clear H6 gp6 gd gX eX h7 gp7 hrm o8 g8 g8' h9 at9 gp9 gq9 hd7 hmo9 hT
          subst hX
          have x10c : (W6.alloc (.cells #[.int .i64 2, .string s, .string t, .int .i64 (jn : Int)] 123)).cell? ⟨q, 10, none⟩ = some (.slice mva ml mvc) := x10b
          refine wp_region_held_drew (S := fun V => V.cell? ⟨w2.heap.size, 0, none⟩ = some (.int .i64 2) ∧ V.cell? ⟨w2.heap.size, 1, none⟩ = some (.string s) ∧ V.cell? ⟨w2.heap.size, 2, none⟩ = some (.string t) ∧ V.cell? ⟨w2.heap.size, 3, none⟩ = some (.int .i64 (jn : Int))) (by kernel_rfl) hT7 (fun hS0 => ?_)
          refine wpAnyH_take (i := 0) (oi := ⟨some 39, _, _, _, _, _⟩) (v := ?_) rfl (by kernel_rfl) (by kernel_rfl) (by kernel_rfl) (fun _ _ _ h => h) (Or.inl ⟨by rfl, ?_⟩) (by assumption) ?_
          rotate_left
          · (intro w hSw; (try dsimp only at hSw); go_simp; try with_reducible rfl)
          try simp only [Act.put, List.setIfInBounds_toArray, List.set_cons_zero, List.set_cons_succ]
          refine wpAnyH_take (i := 1) (oi := ⟨some 40, _, _, _, _, _⟩) (v := ?_) rfl (by kernel_rfl) (by kernel_rfl) (by kernel_rfl) (fun _ _ _ h => h) (Or.inl ⟨by rfl, ?_⟩) (by assumption) ?_
          rotate_left
          · (intro w hSw; (try dsimp only at hSw); go_simp; try with_reducible rfl)
          try simp only [Act.put, List.setIfInBounds_toArray, List.set_cons_zero, List.set_cons_succ]
          refine wpAnyH_take (i := 2) (oi := ⟨some 41, _, _, _, _, _⟩) (v := ?_) rfl (by kernel_rfl) (by kernel_rfl) (by kernel_rfl) (fun _ _ _ h => h) (Or.inl ⟨by rfl, ?_⟩) (by assumption) ?_
          rotate_left
          · (intro w hSw; (try dsimp only at hSw); go_simp; try with_reducible rfl)
          try simp only [Act.put, List.setIfInBounds_toArray, List.set_cons_zero, List.set_cons_succ]
          refine wpAnyH_take (i := 3) (oi := ⟨some 42, _, _, _, _, _⟩) (v := ?_) rfl (by kernel_rfl) (by kernel_rfl) (by kernel_rfl) (fun _ _ _ h => h) (Or.inl ⟨by rfl, ?_⟩) (by assumption) ?_
          rotate_left
          · (intro w hSw; (try dsimp only at hSw); go_simp; try with_reducible rfl)
          try simp only [Act.put, List.setIfInBounds_toArray, List.set_cons_zero, List.set_cons_succ]
          refine wpAnyH_take (i := 5) (oi := ⟨some 44, _, _, _, _, _⟩) (v := ?_) rfl (by kernel_rfl) (by kernel_rfl) (by kernel_rfl) (fun _ _ _ h => h) (Or.inl ⟨by rfl, ?_⟩) (by assumption) ?_
          rotate_left
          · (intro w hSw; (try dsimp only at hSw); go_simp; try with_reducible rfl)
          try simp only [Act.put, List.setIfInBounds_toArray, List.set_cons_zero, List.set_cons_succ]
          refine wpAnyH_ready (rs := [4, 6]) (by kernel_rfl) (by simp) ?_
          refine AllReadyH.cons rfl (fun K hK => ?_) (AllReadyH.cons rfl (fun K hK => ?_) AllReadyH.nil)
          · go_simp
            refine hK.out _ _ hS0 (fun _ => ?_)
            clear hK
            refine wpAnyH_ready (rs := [6]) (by kernel_rfl) (by simp) ?_
            refine AllReadyH.cons rfl (fun K hK => ?_) AllReadyH.nil
            go_simp
            refine hK.out _ _ hT8 (fun _ => ?_)
            clear hK
            refine wpAnyH_ready (rs := [7]) (by kernel_rfl) (by simp) ?_
            refine AllReadyH.cons rfl (fun K hK => ?_) AllReadyH.nil
            rw [if_pos (by rfl)]
            refine wp_app_run _ _ _ rfl (.slice mva ml mvc) _ rfl rfl hrun8 ?_
            refine hK.out _ _ hT9 (fun _ => ?_)
            clear hK
            refine wpAnyH_take (i := 8) (oi := ⟨some 47, _, _, _, _, _⟩) (v := ?_) rfl (by kernel_rfl) (by kernel_rfl) (by kernel_rfl) (fun _ _ _ h => h) (Or.inl ⟨by rfl, ?_⟩) (by assumption) ?_
            rotate_left
            · (intro w hSw; (try dsimp only at hSw); go_simp; try with_reducible rfl)
            try simp only [Act.put, List.setIfInBounds_toArray, List.set_cons_zero, List.set_cons_succ]
            refine wpAnyH_take (i := 9) (oi := ⟨some 48, _, _, _, _, _⟩) (v := ?_) rfl (by kernel_rfl) (by kernel_rfl) (by kernel_rfl) (fun _ _ _ h => h) (Or.inl ⟨by rfl, ?_⟩) (by assumption) ?_
            rotate_left
            · (intro w hSw; (try dsimp only at hSw); go_simp; try with_reducible rfl)
            try simp only [Act.put, List.setIfInBounds_toArray, List.set_cons_zero, List.set_cons_succ]
            refine wpAnyH_ready (rs := [10]) (by kernel_rfl) (by simp) ?_
            refine AllReadyH.cons rfl (fun K hK => ?_) AllReadyH.nil
            go_simp
            refine hK.out _ _ hTA (fun _ => ?_)
            clear hK
            refine wpAnyH_done (by kernel_rfl) ?_ _
            go_wp2_with fail
            go_ret
            have FG := FF.out
            rw [hD.out] at FG
            exact ⟨rfl, FG⟩
          · go_simp
            refine hK.out _ _ hT8 (fun _ => ?_)
            clear hK
            refine wpAnyH_ready (rs := [4]) (by kernel_rfl) (by simp) ?_
            refine AllReadyH.cons rfl (fun K hK => ?_) AllReadyH.nil
            go_simp
            refine hK.out _ _ hT8 (fun _ => ?_)
            clear hK
            refine wpAnyH_ready (rs := [7]) (by kernel_rfl) (by simp) ?_
            refine AllReadyH.cons rfl (fun K hK => ?_) AllReadyH.nil
            rw [if_pos (by rfl)]
            refine wp_app_run _ _ _ rfl (.slice mva ml mvc) _ rfl rfl hrun8 ?_
            refine hK.out _ _ hT9 (fun _ => ?_)
            clear hK
            refine wpAnyH_take (i := 8) (oi := ⟨some 47, _, _, _, _, _⟩) (v := ?_) rfl (by kernel_rfl) (by kernel_rfl) (by kernel_rfl) (fun _ _ _ h => h) (Or.inl ⟨by rfl, ?_⟩) (by assumption) ?_
            rotate_left
            · (intro w hSw; (try dsimp only at hSw); go_simp; try with_reducible rfl)
            try simp only [Act.put, List.setIfInBounds_toArray, List.set_cons_zero, List.set_cons_succ]
            refine wpAnyH_take (i := 9) (oi := ⟨some 48, _, _, _, _, _⟩) (v := ?_) rfl (by kernel_rfl) (by kernel_rfl) (by kernel_rfl) (fun _ _ _ h => h) (Or.inl ⟨by rfl, ?_⟩) (by assumption) ?_
            rotate_left
            · (intro w hSw; (try dsimp only at hSw); go_simp; try with_reducible rfl)
            try simp only [Act.put, List.setIfInBounds_toArray, List.set_cons_zero, List.set_cons_succ]
            refine wpAnyH_ready (rs := [10]) (by kernel_rfl) (by simp) ?_
            refine AllReadyH.cons rfl (fun K hK => ?_) AllReadyH.nil
            go_simp
            refine hK.out _ _ hTA (fun _ => ?_)
            clear hK
            refine wpAnyH_done (by kernel_rfl) ?_ _
            go_wp2_with fail
            go_ret
            have FG := FF.out
            rw [hD.out] at FG
            exact ⟨rfl, FG⟩
  · rw [if_neg h0]
    have hz : (a.begin.1 == 0) = false := by simpa using h0
    generalize a.begin = b at *
    clear h F
    go_enter Tryz.func43, Tryz.ntmps43
    go_wp2_with (go_at_call 74; go_loud (refine hb.mono ?_; clear hb; rintro e w1 ⟨rfl, h1⟩; have H1 := Lib.hid h1; clear h1))
    go_ret
    exact ⟨rfl, H1.out⟩
end Go.Proofs.YtafcgjbafihniaaGreat

/-
  LAYER 1 (fs): the reference's nodes: one more, empty.
-/
namespace Go.Proofs.YtafcgjbafihniaaGreat
set_option maxRecDepth 100000
variable {DX : Nat → Prop}
open Go.RowKit Go.Lib
open Go.Proofs (encStr)

theorem infoRNd : (Tryz.prog.info? 100).map (fun i => (i.zero, i.size, i.bytes)) = some (some (.agg #[.slice none 0 0, .slice none 0 0]), 2, 48) := by kernel_rfl
theorem infoRNd_parts : ∃ i0 : TypeInfo, Tryz.prog.info? 100 = some i0 ∧ i0.zero = some (.agg #[.slice none 0 0, .slice none 0 0]) ∧ i0.size = 2 ∧ i0.bytes = 48 := by
  obtain ⟨i0, h1, h2⟩ := Option.map_eq_some_iff.1 infoRNd
  simp at h2
  exact ⟨i0, h1, h2.1, h2.2.1, h2.2.2⟩
def nilNode : Value × Value := (.slice none 0 0, .slice none 0 0)
theorem push_node {R : Nat → Prop} (v : Value) (n : Nat) (vs : List (Value × Value)) (b : Nat) (w0 w : World) (hr : OwnR (RW R w0) w 100 2 v n (nodeCells vs)) (hw : w0.heap.size ≤ w.heap.size) (hl : n ≤ 2199023255552)
    (hb : w.heap[b]? = some (.cells #[.slice none 0 0, .slice none 0 0] 100 (0, 0))) :
    ∃ v' w', (Builtin.append_ #[80, 80] 80 #[v, .slice (some ⟨b, 0, none⟩) 1 1]).run Tryz.prog w = .ok v' w' ∧ OwnR (RW R w0) w' 100 2 v' (n + 1) (nodeCells (vs ++ [nilNode])) ∧ w.grownBy w' v.ownBlock := by
  obtain ⟨i0, hi, hz0, hz1, hz2⟩ := infoRNd_parts
  obtain ⟨v', w', hrun, h5, h6, _, h7⟩ := run_append_own_at (P := Tryz.prog) w 0 80 80 100 i0 (.agg #[.slice none 0 0, .slice none 0 0]) 2 48 Tryz.underlying80 hi hz0 hz1 hz2 rfl (by decide) v n (nodeCells vs) hr.1 ⟨b, 0, none⟩ 1 1 [.slice none 0 0, .slice none 0 0] rfl
    (fun j u hj => by
      rw [addr_add]
      have eX : ∀ i', w.cell? ⟨b, i', none⟩ = #[Value.slice none 0 0, Value.slice none 0 0][i']? := fun i' => by simp [World.cell?, hb]
      match j, hj with
      | 0, hj => simp at hj; subst hj; exact eX 0
      | 1, hj => simp at hj; subst hj; exact eX 1) (fun u hu => by simp at hu; rcases hu with rfl | rfl <;> rfl) (by unfold maxLen; omega) (by omega) (Nat.zero_le _)
  refine ⟨v', w', hrun, ⟨?_, fun k hk => ?_⟩, h6⟩
  · rw [show nodeCells (vs ++ [nilNode]) = nodeCells vs ++ [.slice none 0 0, .slice none 0 0] by simp [nodeCells, nilNode]]
    exact h5
  · rcases h7 with h7 | h7
    · exact hr.2 k (by rw [← h7]; exact hk)
    · rw [h7] at hk
      cases hk
      exact .inr hw
theorem RefOk.pushNode {Q : Nat → Prop} {w w' : World} {q : Nat} {a : RefP} {r : RefV} {vs : List (Value × Value)} {v' : Value} (h : RefOk DX Q w q a r vs) (g : w.grownBy w' r.nodes.ownBlock) (hv : OwnR Q w' 100 2 v' (a.nodes.length + 1) (nodeCells (vs ++ [nilNode]))) :
    RefOk DX Q (w'.setCell ⟨q, 7, none⟩ v') q { a with nodes := a.nodes ++ [⟨[], []⟩] } { r with nodes := v' } (vs ++ [nilNode]) ∧ RefAt w' q r ∧ GP Q w (w'.setCell ⟨q, 7, none⟩ v') := by
  have hne : ∀ b, r.nodes.ownBlock = some b → b ≠ q := by
    intro b hb e
    subst e
    obtain ⟨c, fr, h3⟩ := own_obj h.rows.rn.1 b hb
    have := apart_obj h3 (show _ = _ from h.at_)
    simp at this
  have at' : RefAt w' q r := (g.block q (lt_of_block h.at_) (fun e => hne q e.symm rfl)).trans h.at_
  have gp : GP (fun k => r.nodes.ownBlock = some k ∨ k = q) w (w'.setCell ⟨q, 7, none⟩ v') := (GP.of g (fun k e => .inl e)).step (gq w' q 7 v') (fun k e => by cases e; exact .inl (.inr rfl))
  have hP : Kinds w (fun k => r.nodes.ownBlock = some k ∨ k = q) [100, 84] := fun k cs e z hk hb => by
    rcases hk with hk | hk
    · obtain ⟨c, fr, h3⟩ := own_obj h.rows.rn.1 k hk
      have := apart_obj hb h3
      simp at this
      simp [this.2.1]
    · subst hk
      have := apart_obj hb (show _ = _ from h.at_)
      simp at this
      simp [this.2.1]
  refine ⟨⟨at'.s7 v', h.rq, h.crash, h.room, h.count, h.died, ⟨h.rows.rk.gp gp hP (by decide), h.rows.rf.gp gp hP (by decide), h.rows.ru.gp gp hP (by decide), by simp [h.rows.vl], by rw [List.length_append]; exact hv.setq (by decide) at' 7 v', fun i v n e1 e2 => ?_, h.rows.rd.gp gp hP (by decide), h.rows.rs.gp gp hP (by decide), h.rows.rm.gp gp hP (by decide)⟩⟩, at', ?_⟩
  · have hvl := h.rows.vl
    by_cases hi : i < vs.length
    · rw [List.getElem?_append_left hi] at e1
      rw [List.getElem?_append_left (by omega)] at e2
      exact (h.rows.node i v n e1 e2).gp gp hP (by decide) (by decide)
    · rw [List.getElem?_append_right (by omega)] at e1 e2
      have e0 : i - vs.length = 0 := by
        have := (List.getElem?_eq_some_iff.1 e1).1
        simp at this
        omega
      rw [e0] at e1
      rw [← hvl, e0] at e2
      simp at e1 e2
      subst e1
      subst e2
      exact ⟨OwnR.nil, [], rfl, OwnR.nil, fun i c dv e1 _ => by simp at e1⟩
  · exact (GP.of g (fun k e => h.rows.rn.2 k e)).step (gq w' q 7 v') (fun k e => by cases e; exact .inl h.rq)
end Go.Proofs.YtafcgjbafihniaaGreat
