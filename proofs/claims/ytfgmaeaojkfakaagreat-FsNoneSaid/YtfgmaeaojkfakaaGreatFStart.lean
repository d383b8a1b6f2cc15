/-
  LAYER 1 (fs): Start.
-/
import Derived.Test.YtfgmaeaojkfakaaGreatFDie
namespace Go.Proofs.YtfgmaeaojkfakaaGreat
set_option maxRecDepth 100000
open Go.RowKit Go.Lib
open Go.Proofs (encStr)
attribute [local go_sem] Oper.semAt_some

theorem gbut2 {a c : World} (h : a.grownBy c none) (row : Option Nat) : a.grownBy c row := ⟨h.os, h.tape, h.output, h.size, fun i hi _ => h.block i hi (by simp)⟩
section
variable {w : World} {q : Nat} {p : PlV} {ops : Int} {d s : Nat} {mv : Value}
theorem FsAt.setPlan {dead : Bool} (h : FsAt w q dead p ops d s mv) (p' : PlV) : FsAt (((((w.setCell ⟨q, 2, none⟩ (.int .i64 p'.c)).setCell ⟨q, 3, none⟩ p'.k).setCell ⟨q, 4, none⟩ p'.f).setCell ⟨q, 5, none⟩ p'.u).setCell ⟨q, 6, none⟩ (.int .i64 p'.r)) q dead p' ops d s mv :=
  heap_setCell_same _ q 6 _ _ _ (heap_setCell_same _ q 5 _ _ _ (heap_setCell_same _ q 4 _ _ _ (heap_setCell_same _ q 3 _ _ _ (heap_setCell_same w q 2 _ _ _ h))))

set_option maxHeartbeats 8000000 in
/-- Start, with whatever die does (D). -/
theorem start_gen (dead : Bool) (D : World → World → Nat → Value → Prop) (vk vf vu : Value) (pl : Pl) (w : World) (h : FsAt w q dead p ops d s mv)
    (hdie : dead = false → ∀ W, w.grownBy W none → Calls Tryz.prog 62 #[.pointer (some ⟨q, 0, none⟩)] W fun e w' => e = .returned (.tuple #[]) ∧ ∃ d' mv', FsAt w' q true p ops d' s mv' ∧ D W w' d' mv')
    (hdead : dead = true → ∀ W, w.grownBy W none → D W W d mv)
    (hD : ∀ W W' d' mv', w.grownBy W none → D W W' d' mv' → W.heap.size ≤ W'.heap.size ∧ Ints (W'.setCell ⟨q, 1, none⟩ (.bool false)) vk pl.keep ∧ Ints (W'.setCell ⟨q, 1, none⟩ (.bool false)) vf pl.fail ∧ Ints (W'.setCell ⟨q, 1, none⟩ (.bool false)) vu pl.full ∧ (∀ x, W.heap[w.heap.size]? = some x → W'.heap[w.heap.size]? = some x))
    (lk : pl.keep.length * 8 ≤ 140737488351232) (lf : pl.fail.length * 8 ≤ 140737488351232) (lu : pl.full.length * 8 ≤ 140737488351232) :
    Calls Tryz.prog 25 #[.pointer (some ⟨q, 0, none⟩), .agg #[.int .i64 pl.crash, vk, vf, vu, .int .i64 pl.room]] w fun e w' => e = .returned (.int .i64 0) ∧ ∃ W W' d' mv' k' f' u', w.grownBy W none ∧ D W W' d' mv' ∧ W'.heap.size ≤ w'.heap.size ∧ FsAt w' q false ⟨pl.crash, k', f', u', pl.room⟩ 0 d' s mv' ∧
      w'.ownsRow W'.heap.size 3 1 k' pl.keep.length (pl.keep.map intV) ∧ w'.ownsRow W'.heap.size 3 1 f' pl.fail.length ((inOrd pl.fail).map intV) ∧ w'.ownsRow W'.heap.size 3 1 u' pl.full.length ((inOrd pl.full).map intV) ∧ GP (fun k => k = q) W' w' := by
  have hmade := fun W h => isMade_fs (q := q) (dead := dead) (p := p) (ops := ops) (d := d) (s := s) (mv := mv) W h
  have g0 := World.grownBy_alloc w (.cells #[.int .i64 pl.crash, vk, vf, vu, .int .i64 pl.room] 24) none
  have e0 := World.alloc_heap_new w (.cells #[.int .i64 pl.crash, vk, vf, vu, .int .i64 pl.room] 24)
  have h0 := h.kept g0 (by simp)
  obtain ⟨W, hW⟩ : ∃ W, W = w.alloc (.cells #[.int .i64 pl.crash, vk, vf, vu, .int .i64 pl.room] 24) := ⟨_, rfl⟩
  rw [← hW] at g0 e0 h0
  have hWs : W.heap.size = w.heap.size + 1 := by rw [hW]; simp
  have hmW := hmade W h0
  have hql := h.lt
  have c1 := h0.isDead
  -- behind die: the flag, the plan, the counter
  have hrest : ∀ W' d' mv', FsAt W' q true p ops d' s mv' → D W W' d' mv' → FsAt (W'.setCell ⟨q, 1, none⟩ (.bool false)) q false p ops d' s mv' ∧ PlanAt (W'.setCell ⟨q, 1, none⟩ (.bool false)) w.heap.size (.int .i64 pl.crash) vk vf vu (.int .i64 pl.room) ∧ W'.grownBy (W'.setCell ⟨q, 1, none⟩ (.bool false)) (some q) ∧
      Calls Tryz.prog 37 #[.agg #[.int .i64 pl.crash, vk, vf, vu, .int .i64 pl.room]] (W'.setCell ⟨q, 1, none⟩ (.bool false)) fun e w' => ∃ k' f' u', e = .returned (.agg #[.int .i64 pl.crash, k', f', u', .int .i64 pl.room]) ∧
        w'.ownsRow W'.heap.size 3 1 k' pl.keep.length (pl.keep.map intV) ∧ w'.ownsRow W'.heap.size 3 1 f' pl.fail.length ((inOrd pl.fail).map intV) ∧ w'.ownsRow W'.heap.size 3 1 u' pl.full.length ((inOrd pl.full).map intV) ∧ (W'.setCell ⟨q, 1, none⟩ (.bool false)).grownBy w' none := by
    intro W' d' mv' hF hDD
    obtain ⟨q1, q2, q3, q4, q5⟩ := hD W W' d' mv' g0 hDD
    have gs := gset (World.grownBy.refl W' (some q)) 1 (.bool false)
    have hsz : (W'.setCell ⟨q, 1, none⟩ (.bool false)).heap.size = W'.heap.size := by simp [World.setCell]
    refine ⟨hF.setDead false, (gs.block _ (by omega) (by simp; omega)).trans (q5 _ e0), gs, ?_⟩
    have := ownPlan_any vk vf vu pl _ q2 q3 q4 lk lf lu
    rw [hsz] at this
    exact this
  replace hrest := Lib.hid hrest
  clear hD
  cases dead
  · have hd2 := hdie rfl
    clear hdie hdead hmade
    go_enter Tryz.func25, Tryz.ntmps25
    go_wp2_with fail
    rw [← hW]
    clear hW
    go_wp2_with first
      | (go_at_call 54; refine hmW.mono ?_; rintro e w2 ⟨rfl, rfl⟩)
      | (go_at_call 62; refine (hd2 _ g0).mono ?_; clear hd2; rintro e w2 ⟨rfl, d', mv', hFd, hDd⟩; obtain ⟨r1, r2, r3, r4⟩ := hrest.out _ _ _ hFd hDd; have c1 := hFd.isDead; have f1 := hFd.free 1; have a0 := r2.c0; have a1 := r2.c1; have a2 := r2.c2; have a3 := r2.c3; have a4 := r2.c4; replace hDd := Lib.hid hDd; replace hFd := Lib.hid hFd; replace r1 := Lib.hid r1; replace r3 := Lib.hid r3; clear r2)
      | (go_at_call 37; refine r4.mono ?_; clear r4; rintro e w4 ⟨k', f', u', rfl, o1, o2, o3, g4⟩; obtain ⟨ka, kc, rfl⟩ := rowFormS o1; obtain ⟨fa, fc, rfl⟩ := rowFormS o2; obtain ⟨ua, uc, rfl⟩ := rowFormS o3; have r5 := r1.out.kept g4 (by simp); have b2 := r5.crash; have b3 := r5.keep; have b4 := r5.fail; have b5 := r5.full; have b6 := r5.room; have n2 := r5.free 2; have n3 := r5.free 3; have n4 := r5.free 4; have n5 := r5.free 5; have n6 := r5.free 6; replace r5 := Lib.hid r5; replace o1 := Lib.hid o1; replace o2 := Lib.hid o2; replace o3 := Lib.hid o3; replace g4 := Lib.hid g4)
      | (go_at_call 63; have r6 := r5.out.setPlan ⟨pl.crash, .slice ka pl.keep.length kc, .slice fa pl.fail.length fc, .slice ua pl.full.length uc, pl.room⟩; refine (store_fs 0 _ r6).mono ?_; rintro e w5 ⟨rfl, hw5⟩; have r7 := r6.setOps 0; rw [← hw5] at r7; replace r7 := Lib.hid r7; replace hw5 := Lib.hid hw5; clear r6)
    go_ret
    have gq : w2.grownBy w5 (some q) := by
      have gp : w4.grownBy w5 (some q) := by rw [hw5.out]; exact gset (gset (gset (gset (gset (gset (World.grownBy.refl w4 (some q)) 2 _) 3 _) 4 _) 5 _) 6 _) 7 _
      exact (r3.out.trans (gbut2 g4.out _)).trans gp
    have hlt := hFd.out.lt
    have rk : ∀ {v : Value} {n : Nat} {xs : List Value}, w4.ownsRow w2.heap.size 3 1 v n xs → w5.ownsRow w2.heap.size 3 1 v n xs := fun {v n xs} h => World.ownsRow.kept h (show w4.grownBy w5 (some q) by rw [hw5.out]; exact gset (gset (gset (gset (gset (gset (World.grownBy.refl w4 (some q)) 2 _) 3 _) 4 _) 5 _) 6 _) 7 _) (.inr (fun e => by have := (World.ownsRow.lt h _ e).1; omega))
    exact ⟨rfl, _, _, _, _, _, _, _, g0, hDd.out, gq.size, r7.out, rk o1.out, rk o2.out, rk o3.out, GP.of gq (fun k e => by cases e; rfl)⟩
  · have hDd := hdead rfl W g0
    clear hdie hdead hmade
    obtain ⟨r1, r2, r3, r4⟩ := hrest.out _ _ _ h0 hDd
    have hFd := Lib.hid h0
    have f1 := h0.free 1
    have a0 := r2.c0
    have a1 := r2.c1
    have a2 := r2.c2
    have a3 := r2.c3
    have a4 := r2.c4
    replace hDd := Lib.hid hDd
    replace r1 := Lib.hid r1
    replace r3 := Lib.hid r3
    clear r2
    go_enter Tryz.func25, Tryz.ntmps25
    go_wp2_with fail
    rw [← hW]
    clear hW
    go_wp2_with first
      | (go_at_call 54; refine hmW.mono ?_; rintro e w2 ⟨rfl, rfl⟩)
      | (go_at_call 37; refine r4.mono ?_; clear r4; rintro e w4 ⟨k', f', u', rfl, o1, o2, o3, g4⟩; obtain ⟨ka, kc, rfl⟩ := rowFormS o1; obtain ⟨fa, fc, rfl⟩ := rowFormS o2; obtain ⟨ua, uc, rfl⟩ := rowFormS o3; have r5 := r1.out.kept g4 (by simp); have b2 := r5.crash; have b3 := r5.keep; have b4 := r5.fail; have b5 := r5.full; have b6 := r5.room; have n2 := r5.free 2; have n3 := r5.free 3; have n4 := r5.free 4; have n5 := r5.free 5; have n6 := r5.free 6; replace r5 := Lib.hid r5; replace o1 := Lib.hid o1; replace o2 := Lib.hid o2; replace o3 := Lib.hid o3; replace g4 := Lib.hid g4)
      | (go_at_call 63; have r6 := r5.out.setPlan ⟨pl.crash, .slice ka pl.keep.length kc, .slice fa pl.fail.length fc, .slice ua pl.full.length uc, pl.room⟩; refine (store_fs 0 _ r6).mono ?_; rintro e w5 ⟨rfl, hw5⟩; have r7 := r6.setOps 0; rw [← hw5] at r7; replace r7 := Lib.hid r7; replace hw5 := Lib.hid hw5; clear r6)
    go_ret
    have gq : W.grownBy w5 (some q) := by
      have gp : w4.grownBy w5 (some q) := by rw [hw5.out]; exact gset (gset (gset (gset (gset (gset (World.grownBy.refl w4 (some q)) 2 _) 3 _) 4 _) 5 _) 6 _) 7 _
      exact (r3.out.trans (gbut2 g4.out _)).trans gp
    have hlt := hFd.out.lt
    have rk : ∀ {v : Value} {n : Nat} {xs : List Value}, w4.ownsRow W.heap.size 3 1 v n xs → w5.ownsRow W.heap.size 3 1 v n xs := fun {v n xs} h => World.ownsRow.kept h (show w4.grownBy w5 (some q) by rw [hw5.out]; exact gset (gset (gset (gset (gset (gset (World.grownBy.refl w4 (some q)) 2 _) 3 _) 4 _) 5 _) 6 _) 7 _) (.inr (fun e => by have := (World.ownsRow.lt h _ e).1; omega))
    exact ⟨rfl, _, _, _, _, _, _, _, g0, hDd.out, gq.size, r7.out, rk o1.out, rk o2.out, rk o3.out, GP.of gq (fun k e => by cases e; rfl)⟩
end
end Go.Proofs.YtfgmaeaojkfakaaGreat
