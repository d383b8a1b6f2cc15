/-
  LAYER 1 (fs): a file's settle, with whatever tells the numbers.
-/
import Derived.Test.YtfgmaeaojkfakaaGreatFFile
namespace Go.Proofs.YtfgmaeaojkfakaaGreat
set_option maxRecDepth 100000
open Go.RowKit Go.Lib
attribute [local go_sem] Oper.semAt_some

/-- Each change may be behind those ahead of it. -/
def okL : List UInt8 → List Chg → Prop
  | _, [] => True
  | bs, c :: l => c.may bs ∧ okL (c.done bs) l
/-- What is safe behind the changes, by the numbers ks from i on. -/
def settleP (ks : Nat → Int) : Nat → Bool → List UInt8 → List Chg → List UInt8
  | _, _, bs, [] => bs
  | i, true, bs, c :: l => settleP ks (i + 1) (c.kept (ks i) bs).2 (c.kept (ks i) bs).1 l
  | i, false, bs, _ :: l => settleP ks (i + 1) false bs l

theorem kept_whole (k : Int) (bs : List UInt8) (c : Chg) (h : (c.kept k bs).2 = true) : (c.kept k bs).1 = c.done bs := by
  cases c with
  | add a =>
    simp only [Chg.kept, decide_eq_true_eq] at h
    simp only [Chg.kept, Chg.done, h]
    rw [List.take_of_length_le (by simp)]
  | cut c =>
    simp only [Chg.kept] at h
    simp [Chg.kept, Chg.done, h]

/-- What tells the numbers: a function value, of a state that lies in the blocks nb; it turns block R. -/
structure NextOk (P : Program) (g : Nat) (lb : Array Value) (ks : Nat → Int) (R : Option Nat) (nb : List Nat) (NS : Nat → World → Prop) : Prop where
  enter : ∀ args W, (callFunc g args).run P W = .ok (.enter g args) W
  call : ∀ i W, i < 4611686018427387904 → NS i W → Calls P g lb W fun e W' => e = .returned (.int .i64 (ks i)) ∧ NS (i + 1) W' ∧ W.grownBy W' R
  kept : ∀ i A B, NS i A → (∀ k ∈ nb, B.heap[k]? = A.heap[k]?) → NS i B
  mem : ∀ r, R = some r → r ∈ nb
  lt : ∀ i A, NS i A → ∀ k ∈ nb, k < A.heap.size

set_option maxHeartbeats 8000000 in
theorem settle_any (g : Nat) (lb : Array Value) (ks : Nat → Int) (R : Option Nat) (nb : List Nat) (NS : Nat → World → Prop) (N : NextOk Tryz.prog g lb ks R nb NS) (b : Nat) (f : FileV) (w : World) (i0 : Nat) (h : FileAt w b f) (hN : NS i0 w)
    (hok : okL f.safe f.chg) (hn : i0 + f.chg.length < 4611686018427387904) (hap : b ∉ nb ∧ ∀ k ∈ f.blocks, k ∉ nb) :
    Calls Tryz.prog 58 #[.pointer (some ⟨b, 0, none⟩), .func (.func g) #[] lb] w fun e w' => e = .returned (.tuple #[]) ∧ ∃ sv, FileAt w' b { f with sv := sv, cv := .slice none 0 0, safe := settleP ks i0 true f.safe f.chg, chg := [] } ∧ NS (i0 + f.chg.length) w' ∧
      GP (fun k => k = b ∨ f.sv.ownBlock = some k ∨ R = some k) w w' ∧ (∀ k, sv.ownBlock = some k → f.sv.ownBlock = some k ∨ w.heap.size ≤ k) := by
  have c2 := h.c2
  obtain ⟨ac, cc, hcv⟩ : ∃ a c, f.cv = .slice a f.chg.length c := by
    obtain ⟨_, ⟨e, hz⟩ | ⟨g, cap, cur, e, _⟩⟩ := h.2.2.2.1
    · exact ⟨none, 0, by rw [e, hz]⟩
    · exact ⟨_, _, e⟩
  rw [hcv] at c2
  have hent := N.enter
  have hl0 := N.lt i0 w hN
  obtain ⟨fin, hfin⟩ : ∃ x, x = settleP ks i0 true f.safe f.chg := ⟨_, rfl⟩
  rw [← hfin]
  replace hfin := Lib.hid hfin
  go_enter Tryz.func58, Tryz.ntmps58
  go_wp2
  go_loopw [4, 6, 7, 13] (fun v4 _ _ vi wr => ∃ (j : Nat) (wh : Bool) (sv : Value) (bs : List UInt8), v4 = .bool wh ∧ vi = .int .i64 (j : Int) ∧ j ≤ f.chg.length ∧ Hid (FileAt wr b { f with sv := sv, safe := bs }) ∧ Hid (NS (i0 + j) wr) ∧ Hid (settleP ks (i0 + j) wh bs (f.chg.drop j) = fin) ∧
    Hid (wh = true → okL bs (f.chg.drop j)) ∧ Hid (GP (fun k => k = b ∨ f.sv.ownBlock = some k ∨ R = some k) w wr) ∧ Hid (∀ k, sv.ownBlock = some k → f.sv.ownBlock = some k ∨ w.heap.size ≤ k)) (fun _ _ _ vi _ => f.chg.length - (RowKit.intOf vi).toNat)
  case atStart => exact ⟨0, true, f.sv, f.safe, rfl, rfl, Nat.zero_le _, Lib.hid h, Lib.hid hN, Lib.hid hfin.out.symm, Lib.hid (fun _ => hok), Lib.hid (GP.refl _ _), Lib.hid (fun k e => .inl e)⟩
  case round =>
    obtain ⟨j, wh, sv, bs, rfl, rfl, hj, hF, hNS, hE, hO, hG, hB⟩ := hrel
    by_cases hlt : j < f.chg.length
    · obtain ⟨c, hc⟩ : ∃ c, c = f.chg[j] := ⟨_, rfl⟩
      have hdrop : f.chg.drop j = c :: f.chg.drop (j + 1) := by rw [hc]; exact List.drop_eq_getElem_cons hlt
      have hna := fun m W => nilAhead_kept c m W
      have hme := fun m W => method_kept c m W
      have hcf := fun args W => callFunc_kept c args W
      obtain ⟨gc, hgc, hcell⟩ : ∃ gc, ac = some ⟨gc, 0, none⟩ ∧ wr.cell? ⟨gc, j, none⟩ = some c.v := by
        have hrow := hF.out.2.2.2.1
        dsimp only at hrow
        rw [hcv] at hrow
        have hr0 := hrow
        obtain ⟨_, ⟨e, hz⟩ | ⟨g9, cap, cur, e, _⟩⟩ := hrow
        · omega
        · simp at e
          obtain ⟨rfl, rfl⟩ := e
          refine ⟨g9, rfl, ?_⟩
          rw [World.ownsRow.cellAt hr0 j (by omega)]
          simp [hc, hlt]
      subst hgc
      obtain ⟨ty, x, hv⟩ := c.form
      rw [hv] at hna hme hcell
      replace hv := Lib.hid hv
      rw [hdrop] at hE hO
      replace hc := Lib.hid hc
      clear hdrop
      have nbF : b ∉ nb ∧ ∀ k ∈ (FileV.blocks { f with sv := sv, safe := bs }), k ∉ nb := by
        refine ⟨hap.1, fun k hk hkn => ?_⟩
        rcases FileV.mem hk with e | e | e
        · rcases hB.out k e with e2 | e2
          · exact hap.2 k (FileV.mem_s e2) hkn
          · have := hl0 k hkn; omega
        · exact hap.2 k (FileV.mem_d e) hkn
        · exact hap.2 k (FileV.mem_c e) hkn
      replace nbF := Lib.hid nbF
      cases wh
      · go_wp2_with (refine (N.call (i0 + j) _ (by omega) hNS.out).mono ?_; rintro e w2 ⟨rfl, hN2, g2⟩)
        have gg := GP.of (P := fun k => R = some k) g2 (fun _ h => h)
        have hF2 := hF.out.kept gg (fun e => nbF.out.1 (N.mem _ e)) (fun k hk e => nbF.out.2 k hk (N.mem _ e))
        refine ⟨⟨j + 1, false, sv, bs, rfl, by go_num, by omega, Lib.hid hF2, Lib.hid (by rw [← Nat.add_assoc]; exact hN2), Lib.hid (by rw [← Nat.add_assoc]; exact hE.out), Lib.hid (fun e => by cases e), Lib.hid (hG.out.step g2 (fun k e => .inl (.inr (.inr e)))), hB⟩, by simp [RowKit.intOf]; omega⟩
      · go_upto_region 6 with (refine (N.call (i0 + j) _ (by omega) hNS.out).mono ?_; rintro e w2 ⟨rfl, hN2, g2⟩)
        have gg := GP.of (P := fun k => R = some k) g2 (fun _ h => h)
        have hF2 := hF.out.kept gg (fun e => nbF.out.1 (N.mem _ e)) (fun k hk e => nbF.out.2 k hk (N.mem _ e))
        have hG2 := hG.out.step g2 (fun k e => .inl (.inr (.inr e)))
        have hO2 := hO.out (by first | trivial | rfl)
        have hmay : c.may bs := hO2.1
        obtain ⟨hb2, hs2, hd2, hc2, hnd⟩ := hF2
        dsimp only at hb2 hs2 hd2 hc2 hnd
        have hsb : sv.ownBlock ≠ some b := fun e => by have := (List.nodup_cons.1 hnd).1; simp [FileV.blocks, e] at this
        have hnd2 := (List.nodup_cons.1 hnd).2
        have hsd : ∀ k, sv.ownBlock = some k → f.dv.ownBlock ≠ some k := fun k e e2 => by
          unfold FileV.blocks at hnd2
          dsimp only at hnd2
          rw [e, e2, List.nodup_append] at hnd2
          have := (List.nodup_append.1 hnd2.1).2.2
          exact this k (by simp) k (by simp) rfl
        have hsc : ∀ k, sv.ownBlock = some k → f.cv.ownBlock ≠ some k := fun k e e2 => by
          unfold FileV.blocks at hnd2
          dsimp only at hnd2
          rw [e, e2, List.nodup_append] at hnd2
          exact hnd2.2.2 k (by simp) k (by simp) rfl
        have hKept := fun W h hB => kept_any c (ks (i0 + j)) 0 sv bs W h hmay hB
        have hW9 := kept_whole (ks (i0 + j)) bs c
        rw [settleP] at hE
        obtain ⟨nb2, hnb2⟩ : ∃ y, y = (c.kept (ks (i0 + j)) bs).1 := ⟨_, rfl⟩
        obtain ⟨wh2, hwh2⟩ : ∃ y, y = (c.kept (ks (i0 + j)) bs).2 := ⟨_, rfl⟩
        have hE2 : Hid (settleP ks (i0 + j + 1) wh2 nb2 (f.chg.drop (j + 1)) = fin) := Lib.hid (by rw [hnb2, hwh2]; exact hE.out)
        rw [← hnb2, ← hwh2] at hKept hW9
        clear hnb2 hwh2 hE
        replace hW9 := Lib.hid hW9
        refine wp_region_held_drew (S := fun _ => True) (by kernel_rfl) trivial (fun hS0 => ?_)
        have hs3 : Owns w2.drew 0 5 sv bs := Owns.kept hs2 (gdrew (World.grownBy.refl w2 none)) (by cases sv.ownBlock <;> simp)
        obtain ⟨V, hV⟩ : ∃ V, V = w2.drew := ⟨_, rfl⟩
        have gV : w2.grownBy V none := by rw [hV]; exact gdrew (World.grownBy.refl w2 none)
        rw [← hV] at hs3 ⊢
        clear hV
        have hbV := (gV.block b (lt_of_block hb2) (by simp)).trans hb2
        have l1 : V.cell? ⟨b, 0, none⟩ = some sv := by simp [World.cell?, hbV]
        refine wpAnyH_take (i := 0) (oi := ⟨some 21, _, _, _, _, _⟩) (v := ?_) rfl (by kernel_rfl) (by kernel_rfl) (by kernel_rfl) (fun _ _ _ h => h) (Or.inl ⟨by rfl, ?_⟩) (by assumption) ?_
        rotate_left
        · (intro w hSw; (try dsimp only at hSw); go_simp; try with_reducible rfl)
        try simp only [Act.put, List.setIfInBounds_toArray, List.set_cons_zero, List.set_cons_succ]
        refine wpAnyH_take (i := 1) (oi := ⟨some 22, _, _, _, _, _⟩) (v := ?_) rfl (by kernel_rfl) (by kernel_rfl) (by kernel_rfl) (fun _ _ _ h => h) (Or.inl ⟨by rfl, ?_⟩) (by assumption) ?_
        rotate_left
        · (intro w hSw; (try dsimp only at hSw); go_simp; try with_reducible rfl)
        try simp only [Act.put, List.setIfInBounds_toArray, List.set_cons_zero, List.set_cons_succ]
        refine wpAnyH_take (i := 2) (oi := ⟨some 23, _, _, _, _, _⟩) (v := ?_) rfl (by kernel_rfl) (by kernel_rfl) (by kernel_rfl) (fun _ _ _ h => h) (Or.inl ⟨by rfl, ?_⟩) (by assumption) ?_
        rotate_left
        · (intro w hSw; (try dsimp only at hSw); go_simp; try with_reducible rfl)
        try simp only [Act.put, List.setIfInBounds_toArray, List.set_cons_zero, List.set_cons_succ]
        refine wpAnyH_take (i := 3) (oi := ⟨some 24, _, _, _, _, _⟩) (v := ?_) rfl (by kernel_rfl) (by kernel_rfl) (by kernel_rfl) (fun _ _ _ h => h) (Or.inl ⟨by rfl, ?_⟩) (by assumption) ?_
        rotate_left
        · (intro w hSw; (try dsimp only at hSw); go_simp; try with_reducible rfl)
        try simp only [Act.put, List.setIfInBounds_toArray, List.set_cons_zero, List.set_cons_succ]
        refine wpAnyH_take (i := 4) (oi := ⟨some 25, _, _, _, _, _⟩) (v := ?_) rfl (by kernel_rfl) (by kernel_rfl) (by kernel_rfl) (fun _ _ _ h => h) (Or.inl ⟨by rfl, ?_⟩) (by assumption) ?_
        rotate_left
        · (intro w hSw; (try dsimp only at hSw); go_simp; try with_reducible rfl)
        try simp only [Act.put, List.setIfInBounds_toArray, List.set_cons_zero, List.set_cons_succ]
        refine wpAnyH_take (i := 6) (oi := ⟨some 27, _, _, _, _, _⟩) (v := ?_) rfl (by kernel_rfl) (by kernel_rfl) (by kernel_rfl) (fun _ _ _ h => h) (Or.inl ⟨by rfl, ?_⟩) (by assumption) ?_
        rotate_left
        · (intro w hSw; (try dsimp only at hSw); go_simp; try with_reducible rfl)
        try simp only [Act.put, List.setIfInBounds_toArray, List.set_cons_zero, List.set_cons_succ]
        refine wpAnyH_take (i := 7) (oi := ⟨some 28, _, _, _, _, _⟩) (v := ?_) rfl (by kernel_rfl) (by kernel_rfl) (by kernel_rfl) (fun _ _ _ h => h) (Or.inl ⟨by rfl, ?_⟩) (by assumption) ?_
        rotate_left
        · (intro w hSw; (try dsimp only at hSw); go_simp; try with_reducible rfl)
        try simp only [Act.put, List.setIfInBounds_toArray, List.set_cons_zero, List.set_cons_succ]
        refine wpAnyH_take (i := 8) (oi := ⟨some 29, _, _, _, _, _⟩) (v := ?_) rfl (by kernel_rfl) (by kernel_rfl) (by kernel_rfl) (fun _ _ _ h => h) (Or.inl ⟨by rfl, ?_⟩) (by assumption) ?_
        rotate_left
        · (intro w hSw; (try dsimp only at hSw); go_simp; try with_reducible rfl)
        try simp only [Act.put, List.setIfInBounds_toArray, List.set_cons_zero, List.set_cons_succ]
        refine wpAnyH_take (i := 9) (oi := ⟨some 30, _, _, _, _, _⟩) (v := ?_) rfl (by kernel_rfl) (by kernel_rfl) (by kernel_rfl) (fun _ _ _ h => h) (Or.inl ⟨by rfl, ?_⟩) (by assumption) ?_
        rotate_left
        · (intro w hSw; (try dsimp only at hSw); go_simp; try with_reducible rfl)
        try simp only [Act.put, List.setIfInBounds_toArray, List.set_cons_zero, List.set_cons_succ]
        refine wpAnyH_ready (rs := [5]) (by kernel_rfl) (by simp) ?_
        refine AllReadyH.cons rfl (fun K hK => ?_) AllReadyH.nil
        go_simp
        refine hK.out _ _ trivial (fun _ => ?_)
        clear hK
        refine wpAnyH_ready (rs := [10]) (by kernel_rfl) (by simp) ?_
        refine AllReadyH.cons rfl (fun K hK => ?_) AllReadyH.nil
        go_simp
        refine (hKept _ hs3 (Nat.zero_le _)).mono ?_
        rintro e w5 ⟨v5, rfl, ho5, g5, hl5⟩
        refine hK.out _ _ trivial (fun _ => ?_)
        clear hK
        refine wpAnyH_take (i := 11) (oi := ⟨some 20, _, _, _, _, _⟩) (v := ?_) rfl (by kernel_rfl) (by kernel_rfl) (by kernel_rfl) (fun _ _ _ h => h) (Or.inl ⟨by rfl, ?_⟩) (by assumption) ?_
        rotate_left
        · (intro w hSw; (try dsimp only at hSw); go_simp; try with_reducible rfl)
        try simp only [Act.put, List.setIfInBounds_toArray, List.set_cons_zero, List.set_cons_succ]
        refine wpAnyH_take (i := 12) (oi := ⟨some 32, _, _, _, _, _⟩) (v := ?_) rfl (by kernel_rfl) (by kernel_rfl) (by kernel_rfl) (fun _ _ _ h => h) (Or.inl ⟨by rfl, ?_⟩) (by assumption) ?_
        rotate_left
        · (intro w hSw; (try dsimp only at hSw); go_simp; try with_reducible rfl)
        try simp only [Act.put, List.setIfInBounds_toArray, List.set_cons_zero, List.set_cons_succ]
        refine wpAnyH_take (i := 13) (oi := ⟨some 33, _, _, _, _, _⟩) (v := ?_) rfl (by kernel_rfl) (by kernel_rfl) (by kernel_rfl) (fun _ _ _ h => h) (Or.inl ⟨by rfl, ?_⟩) (by assumption) ?_
        rotate_left
        · (intro w hSw; (try dsimp only at hSw); go_simp; try with_reducible rfl)
        try simp only [Act.put, List.setIfInBounds_toArray, List.set_cons_zero, List.set_cons_succ]
        refine wpAnyH_take (i := 14) (oi := ⟨some 34, _, _, _, _, _⟩) (v := ?_) rfl (by kernel_rfl) (by kernel_rfl) (by kernel_rfl) (fun _ _ _ h => h) (Or.inl ⟨by rfl, ?_⟩) (by assumption) ?_
        rotate_left
        · (intro w hSw; (try dsimp only at hSw); go_simp; try with_reducible rfl)
        try simp only [Act.put, List.setIfInBounds_toArray, List.set_cons_zero, List.set_cons_succ]
        refine wpAnyH_take (i := 15) (oi := ⟨some 35, _, _, _, _, _⟩) (v := ?_) rfl (by kernel_rfl) (by kernel_rfl) (by kernel_rfl) (fun _ _ _ h => h) (Or.inl ⟨by rfl, ?_⟩) (by assumption) ?_
        rotate_left
        · (intro w hSw; (try dsimp only at hSw); go_simp; try with_reducible rfl)
        try simp only [Act.put, List.setIfInBounds_toArray, List.set_cons_zero, List.set_cons_succ]
        refine wpAnyH_ready (rs := [16]) (by kernel_rfl) (by simp) ?_
        refine AllReadyH.cons rfl (fun K hK => ?_) AllReadyH.nil
        have hb5 := (g5.block b (lt_of_block hbV) (fun e => hsb e.symm)).trans hbV
        have q1 : w5.frozen? ⟨b, 0, none⟩ = false := by simp [World.frozen?, hb5]
        have q2 : w5.cell? ⟨b, 0, none⟩ = some sv := by simp [World.cell?, hb5]
        obtain ⟨a5, n5, c5, rfl⟩ : ∃ a n c, v5 = .slice a n c := by
          obtain ⟨_, ⟨rfl, _⟩ | ⟨g, cap, cur, rfl, _⟩⟩ := ho5
          · exact ⟨_, _, _, rfl⟩
          · exact ⟨_, _, _, rfl⟩
        go_simp
        refine hK.out _ _ trivial (fun _ => ?_)
        clear hK
        refine wpAnyH_take (i := 17) (oi := ⟨some 4, _, _, _, _, _⟩) (v := ?_) rfl (by kernel_rfl) (by kernel_rfl) (by kernel_rfl) (fun _ _ _ h => h) (Or.inl ⟨by rfl, ?_⟩) (by assumption) ?_
        rotate_left
        · (intro w hSw; (try dsimp only at hSw); go_simp; try with_reducible rfl)
        try simp only [Act.put, List.setIfInBounds_toArray, List.set_cons_zero, List.set_cons_succ]
        refine wpAnyH_done (by kernel_rfl) ?_ _
        go_wp2_with fail
        have alt : ∀ (v : Value) (q : Option Nat), (∀ k, v.ownBlock = some k → q ≠ some k) → v.ownBlock = none ∨ v.ownBlock ≠ q := fun v q h => by
          cases e : v.ownBlock with
          | none => exact .inl rfl
          | some k => exact .inr (fun e2 => h k e e2.symm)
        have hdb : f.dv.ownBlock ≠ some b := fun e => by have := (List.nodup_cons.1 hnd).1; simp [FileV.blocks, e] at this
        have hcb : f.cv.ownBlock ≠ some b := fun e => by have := (List.nodup_cons.1 hnd).1; simp [FileV.blocks, e] at this
        have hdc : ∀ k, f.dv.ownBlock = some k → f.cv.ownBlock ≠ some k := fun k e e2 => by
          unfold FileV.blocks at hnd2
          dsimp only at hnd2
          rw [e, e2, List.nodup_append] at hnd2
          exact hnd2.2.2 k (by simp) k (by simp) rfl
        have gF := gset (World.grownBy.refl w5 (some b)) 0 (.slice a5 n5 c5)
        have hb6 := heap_setCell_same w5 b 0 _ _ (.slice a5 n5 c5) hb5
        obtain ⟨Z, hZ⟩ : ∃ Z, Z = w5.setCell ⟨b, 0, none⟩ (.slice a5 n5 c5) := ⟨_, rfl⟩
        rw [← hZ] at gF hb6 ⊢
        clear hZ
        have Vs := gV.size
        have w2s := g2.size
        have wrs := hG.out.size
        have bV := lt_of_block hbV
        have dold : ∀ k, f.dv.ownBlock = some k → k < V.heap.size := fun k e => by have := (Owns.lt hd2 k e).2; omega
        have cold : ∀ k, f.cv.ownBlock = some k → k < V.heap.size := fun k e => by have := (World.ownsRow.lt hc2 k e).2; omega
        have hvn : ∀ k, (Value.slice a5 n5 c5).ownBlock = some k → sv.ownBlock = some k ∨ k = V.heap.size := fun k e => by
          rcases hl5 with e2 | e2
          · left; rw [← e2]; exact e
          · right; rw [e] at e2; simpa using e2
        have hvb : (Value.slice a5 n5 c5).ownBlock ≠ some b := fun e => by
          rcases hvn b e with h | h
          · exact hsb h
          · omega
        have vd : ∀ k, (Value.slice a5 n5 c5).ownBlock = some k → f.dv.ownBlock ≠ some k := fun k e e2 => by
          rcases hvn k e with h | h
          · exact hsd k h e2
          · have := dold k e2; omega
        have vc : ∀ k, (Value.slice a5 n5 c5).ownBlock = some k → f.cv.ownBlock ≠ some k := fun k e e2 => by
          rcases hvn k e with h | h
          · exact hsc k h e2
          · have := cold k e2; omega
        have hd6 := ((Owns.kept hd2 gV (alt _ _ (fun k _ => by simp))).kept g5 (alt _ _ (fun k e e2 => hsd k e2 e))).kept gF (alt _ _ (fun k e e2 => hdb (by rw [e]; simpa using e2.symm)))
        have hc6 := World.ownsRow.kept (World.ownsRow.kept (World.ownsRow.kept hc2 gV (alt _ _ (fun k _ => by simp))) g5 (alt _ _ (fun k e e2 => hsc k e2 e))) gF (alt _ _ (fun k e e2 => hcb (by rw [e]; simpa using e2.symm)))
        have hv6 := Owns.kept ho5 gF (alt _ _ (fun k e e2 => hvb (by rw [e]; simpa using e2.symm)))
        have hFZ : FileAt Z b { f with sv := .slice a5 n5 c5, safe := nb2 } := ⟨hb6, hv6, hd6, hc6, nodup3 hvb hdb hcb vd vc hdc⟩
        have gX := (((GP.of (P := fun k => k = b ∨ sv.ownBlock = some k) gV (by simp)).step g5 (fun k e => .inl (.inr e))).step gF (fun k e => by cases e; exact .inl (.inl rfl)))
        have hNZ : NS (i0 + j + 1) Z := N.kept _ _ _ hN2 (fun k hk => gX.block k (N.lt _ _ hN2 k hk) (fun e => by
          rcases e with rfl | e
          · exact nbF.out.1 hk
          · exact nbF.out.2 k (FileV.mem_s e) hk))
        have hGZ := hG2.trans gX (fun k e => by
          rcases e with rfl | e
          · exact .inl (.inl rfl)
          · rcases hB.out k e with h | h
            · exact .inl (.inr (.inl h))
            · exact .inr h)
        have hBZ : ∀ k, (Value.slice a5 n5 c5).ownBlock = some k → f.sv.ownBlock = some k ∨ w.heap.size ≤ k := fun k e => by
          rcases hvn k e with h | h
          · exact hB.out k h
          · right; omega
        refine ⟨⟨j + 1, wh2, .slice a5 n5 c5, nb2, rfl, by go_num, by omega, Lib.hid hFZ, Lib.hid (by rw [← Nat.add_assoc]; exact hNZ), Lib.hid (by rw [← Nat.add_assoc]; exact hE2.out), Lib.hid (fun e => ?_), Lib.hid hGZ, Lib.hid hBZ⟩, by simp [RowKit.intOf]; omega⟩
        have := hO2.2
        rw [← hW9.out e] at this
        exact this
    · obtain rfl : j = f.chg.length := by omega
      have hFo := hF.out
      have f2 := hFo.free 2
      have hb2 := hFo.1
      have gF := gset (World.grownBy.refl wr (some b)) 2 (.slice none 0 0)
      have hb6 := heap_setCell_same wr b 2 _ _ (.slice none 0 0) hb2
      have cx : wr.cell? ⟨b, 2, none⟩ = some f.cv := hFo.c2
      rw [hcv] at cx
      go_wp2
      have hEf : bs = fin := by
        have := hE.out
        rw [List.drop_length] at this
        cases wh <;> exact this
      obtain ⟨hb3, hs3, hd3, hc3, hnd⟩ := hFo
      dsimp only at hb3 hs3 hd3 hc3 hnd
      have alt : ∀ (v : Value) (q : Option Nat), (∀ k, v.ownBlock = some k → q ≠ some k) → v.ownBlock = none ∨ v.ownBlock ≠ q := fun v q h => by
        cases e : v.ownBlock with
        | none => exact .inl rfl
        | some k => exact .inr (fun e2 => h k e e2.symm)
      have hsb : sv.ownBlock ≠ some b := fun e => by have := (List.nodup_cons.1 hnd).1; simp [FileV.blocks, e] at this
      have hdb : f.dv.ownBlock ≠ some b := fun e => by have := (List.nodup_cons.1 hnd).1; simp [FileV.blocks, e] at this
      have hnd2 := (List.nodup_cons.1 hnd).2
      have hsd : ∀ k, sv.ownBlock = some k → f.dv.ownBlock ≠ some k := fun k e e2 => by
        unfold FileV.blocks at hnd2
        dsimp only at hnd2
        rw [e, e2, List.nodup_append] at hnd2
        have := (List.nodup_append.1 hnd2.1).2.2
        exact this k (by simp) k (by simp) rfl
      have hs4 := Owns.kept hs3 gF (alt _ _ (fun k e e2 => hsb (by rw [e]; simpa using e2.symm)))
      have hd4 := Owns.kept hd3 gF (alt _ _ (fun k e e2 => hdb (by rw [e]; simpa using e2.symm)))
      have hN4 : NS (i0 + f.chg.length) (wr.setCell ⟨b, 2, none⟩ (.slice none 0 0)) := N.kept _ _ _ hNS.out (fun k hk => gF.block k (N.lt _ _ hNS.out k hk) (fun e => hap.1 (by cases e; exact hk)))
      go_end0
      refine ⟨rfl, sv, ⟨hb6, by rw [← hEf]; exact hs4, hd4, World.ownsRow_nil _ _ _ _, nodup3 hsb hdb (by simp [Value.ownBlock]) hsd (fun k _ e => by simp [Value.ownBlock] at e) (fun k _ e => by simp [Value.ownBlock] at e)⟩, hN4, hG.out.step gF (fun k e => by cases e; exact .inl (.inl rfl)), hB.out⟩
end Go.Proofs.YtfgmaeaojkfakaaGreat
