/-
  LAYER 1 (fs): Start.
-/
import Derived.Test.YtafcgjbafihniaaGreatFA07
import Derived.Test.YtafcgjbafihniaaGreatFA04
import Derived.Maps.RangeWalk
import Derived.Test.YtafcgjbafihniaaGreatFA05
namespace Go.Proofs.YtafcgjbafihniaaGreat
set_option maxRecDepth 100000
open Go.RowKit Go.Lib
open Go.Proofs (encStr)
attribute [local go_sem] Oper.semAt_some

theorem gbut2 {a c : World} (h : a.grownBy c none) (row : Option Nat) : a.grownBy c row := ⟨h.os, h.tape, h.output, h.size, fun i hi _ => h.block i hi (by simp)⟩
section
variable {w : World} {q : Nat} {p : PlV} {ops : Int} {d s : Nat} {mv : Value}
theorem FsAt.setPlan {dead : Bool} (h : FsAt w q dead p ops d s mv) (p' : PlV) : FsAt (((((w.setCell ⟨q, 2, none⟩ (.int .i64 p'.c)).setCell ⟨q, 3, none⟩ p'.k).setCell ⟨q, 4, none⟩ p'.f).setCell ⟨q, 5, none⟩ p'.u).setCell ⟨q, 6, none⟩ (.int .i64 p'.r)) q dead p' ops d s mv :=
  heap_setCell_same _ q 6 _ _ _ (heap_setCell_same _ q 5 _ _ _ (heap_setCell_same _ q 4 _ _ _ (heap_setCell_same _ q 3 _ _ _ (heap_setCell_same w q 2 _ _ _ h))))

set_option maxHeartbeats 8000000 in
/-- Start, with whatever die does (D). -/
theorem start_gen (dead : Bool) (D : World → World → Nat → Value → Prop) (vk vf vu : Value) (pl : Pl) (w : World) (h : FsAt w q dead p ops d s mv)
    (hdie : dead = false → ∀ W, w.grownBy W none → Calls Tryz.prog 62 #[.pointer (some ⟨q, 0, none⟩)] W fun e w' => e = .returned (.tuple #[]) ∧ ∃ d' mv', FsAt w' q true p ops d' s mv' ∧ D W w' d' mv')
    (hdead : dead = true → ∀ W, w.grownBy W none → D W W d mv)
    (hD : ∀ W W' d' mv', w.grownBy W none → D W W' d' mv' → W.heap.size ≤ W'.heap.size ∧ Ints (W'.setCell ⟨q, 1, none⟩ (.bool false)) vk pl.keep ∧ Ints (W'.setCell ⟨q, 1, none⟩ (.bool false)) vf pl.fail ∧ Ints (W'.setCell ⟨q, 1, none⟩ (.bool false)) vu pl.full ∧ (∀ x, W.heap[w.heap.size]? = some x → W'.heap[w.heap.size]? = some x))
    (lk : pl.keep.length * 8 ≤ 140737488351232) (lf : pl.fail.length * 8 ≤ 140737488351232) (lu : pl.full.length * 8 ≤ 140737488351232) :
    Calls Tryz.prog 25 #[.pointer (some ⟨q, 0, none⟩), .agg #[.int .i64 pl.crash, vk, vf, vu, .int .i64 pl.room]] w fun e w' => e = .returned (.int .i64 0) ∧ ∃ W W' d' mv' k' f' u', w.grownBy W none ∧ D W W' d' mv' ∧ W'.heap.size ≤ w'.heap.size ∧ FsAt w' q false ⟨pl.crash, k', f', u', pl.room⟩ 0 d' s mv' ∧
      w'.ownsRow W'.heap.size 3 1 k' pl.keep.length (pl.keep.map intV) ∧ w'.ownsRow W'.heap.size 3 1 f' pl.fail.length ((inOrd pl.fail).map intV) ∧ w'.ownsRow W'.heap.size 3 1 u' pl.full.length ((inOrd pl.full).map intV) ∧ GP (fun k => k = q) W' w' := by
  have hmade := fun W h => isMade_fs (q := q) (dead := dead) (p := p) (ops := ops) (d := d) (s := s) (mv := mv) W h
  have g0 := World.grownBy_alloc w (.cells #[.int .i64 pl.crash, vk, vf, vu, .int .i64 pl.room] 24) none
  have e0 := World.alloc_heap_new w (.cells #[.int .i64 pl.crash, vk, vf, vu, .int .i64 pl.room] 24)
  have h0 := h.kept g0 (by simp)
  obtain ⟨W, hW⟩ : ∃ W, W = w.alloc (.cells #[.int .i64 pl.crash, vk, vf, vu, .int .i64 pl.room] 24) := ⟨_, rfl⟩
  rw [← hW] at g0 e0 h0
  have hWs : W.heap.size = w.heap.size + 1 := by rw [hW]; simp
  have hmW := hmade W h0
  have hql := h.lt
  have c1 := h0.isDead
  -- behind die: the flag, the plan, the counter
  have hrest : ∀ W' d' mv', FsAt W' q true p ops d' s mv' → D W W' d' mv' → FsAt (W'.setCell ⟨q, 1, none⟩ (.bool false)) q false p ops d' s mv' ∧ PlanAt (W'.setCell ⟨q, 1, none⟩ (.bool false)) w.heap.size (.int .i64 pl.crash) vk vf vu (.int .i64 pl.room) ∧ W'.grownBy (W'.setCell ⟨q, 1, none⟩ (.bool false)) (some q) ∧
      Calls Tryz.prog 37 #[.agg #[.int .i64 pl.crash, vk, vf, vu, .int .i64 pl.room]] (W'.setCell ⟨q, 1, none⟩ (.bool false)) fun e w' => ∃ k' f' u', e = .returned (.agg #[.int .i64 pl.crash, k', f', u', .int .i64 pl.room]) ∧
        w'.ownsRow W'.heap.size 3 1 k' pl.keep.length (pl.keep.map intV) ∧ w'.ownsRow W'.heap.size 3 1 f' pl.fail.length ((inOrd pl.fail).map intV) ∧ w'.ownsRow W'.heap.size 3 1 u' pl.full.length ((inOrd pl.full).map intV) ∧ (W'.setCell ⟨q, 1, none⟩ (.bool false)).grownBy w' none := by
    intro W' d' mv' hF hDD
    obtain ⟨q1, q2, q3, q4, q5⟩ := hD W W' d' mv' g0 hDD
    have gs := gset (World.grownBy.refl W' (some q)) 1 (.bool false)
    have hsz : (W'.setCell ⟨q, 1, none⟩ (.bool false)).heap.size = W'.heap.size := by simp [World.setCell]
    refine ⟨hF.setDead false, (gs.block _ (by omega) (by simp; omega)).trans (q5 _ e0), gs, ?_⟩
    have := ownPlan_any vk vf vu pl _ q2 q3 q4 lk lf lu
    rw [hsz] at this
    exact this
  replace hrest := Lib.hid hrest
  clear hD
  cases dead
  · have hd2 := hdie rfl
    clear hdie hdead hmade
    go_enter Tryz.func25, Tryz.ntmps25
    go_wp2_with fail
    rw [← hW]
    clear hW
    go_wp2_with first
      | (go_at_call 54; refine hmW.mono ?_; rintro e w2 ⟨rfl, rfl⟩)
      | (go_at_call 62; refine (hd2 _ g0).mono ?_; clear hd2; rintro e w2 ⟨rfl, d', mv', hFd, hDd⟩; obtain ⟨r1, r2, r3, r4⟩ := hrest.out _ _ _ hFd hDd; have c1 := hFd.isDead; have f1 := hFd.free 1; have a0 := r2.c0; have a1 := r2.c1; have a2 := r2.c2; have a3 := r2.c3; have a4 := r2.c4; replace hDd := Lib.hid hDd; replace hFd := Lib.hid hFd; replace r1 := Lib.hid r1; replace r3 := Lib.hid r3; clear r2)
      | (go_at_call 37; refine r4.mono ?_; clear r4; rintro e w4 ⟨k', f', u', rfl, o1, o2, o3, g4⟩; obtain ⟨ka, kc, rfl⟩ := rowFormS o1; obtain ⟨fa, fc, rfl⟩ := rowFormS o2; obtain ⟨ua, uc, rfl⟩ := rowFormS o3; have r5 := r1.out.kept g4 (by simp); have b2 := r5.crash; have b3 := r5.keep; have b4 := r5.fail; have b5 := r5.full; have b6 := r5.room; have n2 := r5.free 2; have n3 := r5.free 3; have n4 := r5.free 4; have n5 := r5.free 5; have n6 := r5.free 6; replace r5 := Lib.hid r5; replace o1 := Lib.hid o1; replace o2 := Lib.hid o2; replace o3 := Lib.hid o3; replace g4 := Lib.hid g4)
      | (go_at_call 63; have r6 := r5.out.setPlan ⟨pl.crash, .slice ka pl.keep.length kc, .slice fa pl.fail.length fc, .slice ua pl.full.length uc, pl.room⟩; refine (store_fs 0 _ r6).mono ?_; rintro e w5 ⟨rfl, hw5⟩; have r7 := r6.setOps 0; rw [← hw5] at r7; replace r7 := Lib.hid r7; replace hw5 := Lib.hid hw5; clear r6)
    go_ret
    have gq : w2.grownBy w5 (some q) := by
      have gp : w4.grownBy w5 (some q) := by rw [hw5.out]; exact gset (gset (gset (gset (gset (gset (World.grownBy.refl w4 (some q)) 2 _) 3 _) 4 _) 5 _) 6 _) 7 _
      exact (r3.out.trans (gbut2 g4.out _)).trans gp
    have hlt := hFd.out.lt
    have rk : ∀ {v : Value} {n : Nat} {xs : List Value}, w4.ownsRow w2.heap.size 3 1 v n xs → w5.ownsRow w2.heap.size 3 1 v n xs := fun {v n xs} h => World.ownsRow.kept h (show w4.grownBy w5 (some q) by rw [hw5.out]; exact gset (gset (gset (gset (gset (gset (World.grownBy.refl w4 (some q)) 2 _) 3 _) 4 _) 5 _) 6 _) 7 _) (.inr (fun e => by have := (World.ownsRow.lt h _ e).1; omega))
    exact ⟨rfl, _, _, _, _, _, _, _, g0, hDd.out, gq.size, r7.out, rk o1.out, rk o2.out, rk o3.out, GP.of gq (fun k e => by cases e; rfl)⟩
  · have hDd := hdead rfl W g0
    clear hdie hdead hmade
    obtain ⟨r1, r2, r3, r4⟩ := hrest.out _ _ _ h0 hDd
    have hFd := Lib.hid h0
    have f1 := h0.free 1
    have a0 := r2.c0
    have a1 := r2.c1
    have a2 := r2.c2
    have a3 := r2.c3
    have a4 := r2.c4
    replace hDd := Lib.hid hDd
    replace r1 := Lib.hid r1
    replace r3 := Lib.hid r3
    clear r2
    go_enter Tryz.func25, Tryz.ntmps25
    go_wp2_with fail
    rw [← hW]
    clear hW
    go_wp2_with first
      | (go_at_call 54; refine hmW.mono ?_; rintro e w2 ⟨rfl, rfl⟩)
      | (go_at_call 37; refine r4.mono ?_; clear r4; rintro e w4 ⟨k', f', u', rfl, o1, o2, o3, g4⟩; obtain ⟨ka, kc, rfl⟩ := rowFormS o1; obtain ⟨fa, fc, rfl⟩ := rowFormS o2; obtain ⟨ua, uc, rfl⟩ := rowFormS o3; have r5 := r1.out.kept g4 (by simp); have b2 := r5.crash; have b3 := r5.keep; have b4 := r5.fail; have b5 := r5.full; have b6 := r5.room; have n2 := r5.free 2; have n3 := r5.free 3; have n4 := r5.free 4; have n5 := r5.free 5; have n6 := r5.free 6; replace r5 := Lib.hid r5; replace o1 := Lib.hid o1; replace o2 := Lib.hid o2; replace o3 := Lib.hid o3; replace g4 := Lib.hid g4)
      | (go_at_call 63; have r6 := r5.out.setPlan ⟨pl.crash, .slice ka pl.keep.length kc, .slice fa pl.fail.length fc, .slice ua pl.full.length uc, pl.room⟩; refine (store_fs 0 _ r6).mono ?_; rintro e w5 ⟨rfl, hw5⟩; have r7 := r6.setOps 0; rw [← hw5] at r7; replace r7 := Lib.hid r7; replace hw5 := Lib.hid hw5; clear r6)
    go_ret
    have gq : W.grownBy w5 (some q) := by
      have gp : w4.grownBy w5 (some q) := by rw [hw5.out]; exact gset (gset (gset (gset (gset (gset (World.grownBy.refl w4 (some q)) 2 _) 3 _) 4 _) 5 _) 6 _) 7 _
      exact (r3.out.trans (gbut2 g4.out _)).trans gp
    have hlt := hFd.out.lt
    have rk : ∀ {v : Value} {n : Nat} {xs : List Value}, w4.ownsRow W.heap.size 3 1 v n xs → w5.ownsRow W.heap.size 3 1 v n xs := fun {v n xs} h => World.ownsRow.kept h (show w4.grownBy w5 (some q) by rw [hw5.out]; exact gset (gset (gset (gset (gset (gset (World.grownBy.refl w4 (some q)) 2 _) 3 _) 4 _) 5 _) 6 _) 7 _) (.inr (fun e => by have := (World.ownsRow.lt h _ e).1; omega))
    exact ⟨rfl, _, _, _, _, _, _, _, g0, hDd.out, gq.size, r7.out, rk o1.out, rk o2.out, rk o3.out, GP.of gq (fun k e => by cases e; rfl)⟩
end
end Go.Proofs.YtafcgjbafihniaaGreat

/-
  LAYER 1 (fs): a file's clone.
-/
namespace Go.Proofs.YtafcgjbafihniaaGreat
set_option maxRecDepth 100000
open Go.RowKit Go.Lib
attribute [local go_sem] Oper.semAt_some

theorem Chg.v_one (c : Chg) : c.v.oneCell' = true := by cases c <;> rfl

set_option maxHeartbeats 2000000 in
theorem cloneChg_any (v : Value) (n : Nat) (l : List Chg) (w : World) (h : w.ownsRow 0 140 1 v n (l.map Chg.v)) (hn : n < 8796093022207) :
    Calls Tryz.prog 92 #[v] w fun e w' => ∃ v', e = .returned v' ∧ w'.ownsRow w.heap.size 140 1 v' n (l.map Chg.v) ∧ w.grownBy w' none := by
  obtain ⟨i0, hi, hz0, hz1, hz2⟩ := info_partsC
  have h0 := h
  have hl : (l.map Chg.v).length = n := by simpa using h.1
  have hone : ∀ u ∈ l.map Chg.v, u.oneCell' = true := by
    intro u hu
    obtain ⟨c, _, rfl⟩ := List.mem_map.1 hu
    exact c.v_one
  obtain ⟨_, ⟨rfl, hz⟩ | ⟨g, cap, cur, rfl, hB, hg, hc, hm, hs, ht⟩⟩ := h
  · subst hz
    have hnil : l.map Chg.v = [] := List.length_eq_zero_iff.1 hl
    rw [hnil]
    have hq : ∀ w, (binOp .eql 94 (.slice none 0 0) (.slice none 0 0)).run Tryz.prog w = .ok (.bool true) w := fun w => by rfl
    go_enter Tryz.func92, Tryz.ntmps92
    go_wp2
    go_ret
    exact ⟨_, rfl, World.ownsRow_nil _ _ _ _, World.grownBy.refl _ _⟩
  · have hcells : ∀ j u, (l.map Chg.v)[j]? = some u → (w.alloc (.cells #[] 140)).cell? ((⟨g, 0, none⟩ : Addr).add j) = some u := fun j u hj => (h0.alloc _).cells (g := g) rfl j u hj
    have hown : (w.alloc (.cells #[] 140)).ownsRow w.heap.size 140 1 (.slice (some ⟨w.heap.size, 0, none⟩) 0 0) 0 [] :=
      ⟨by simp, .inr ⟨w.heap.size, 0, #[], rfl, Nat.le_refl _, World.alloc_heap_new w _, Nat.le_refl _, by unfold maxLen; omega, by simp, by simp⟩⟩
    generalize l.map Chg.v = xs at *
    have hq : ∀ w, (binOp .eql 94 (.slice (some ⟨g, 0, none⟩) n cap) (.slice none 0 0)).run Tryz.prog w = .ok (.bool false) w := fun w => by rfl
    go_enter Tryz.func92, Tryz.ntmps92
    go_wp2_with (at_builtin; refine wpList_append_own_at _ rfl _ _ 94 rfl w.heap.size 140 i0 .nilIface 1 16 Tryz.underlying94 hi hz0 hz1 hz2 rfl (by decide) (.slice (some ⟨w.heap.size, 0, none⟩) 0 0) 0 [] rfl hown ⟨g, 0, none⟩ n cap xs rfl (by rw [hl, Nat.mul_one]) hcells hone (by rw [Nat.zero_add]; unfold maxLen; omega) (by rw [Nat.zero_add]; omega) (by simp) ?_; intro v' w' hown2 hgrow _ _)
    go_ret
    refine ⟨_, rfl, by simpa using hown2, ?_⟩
    exact gnew (World.grownBy_alloc w (.cells #[] 140) none) hgrow (fun r e => by simp [Value.ownBlock] at e; left; omega)

set_option maxHeartbeats 4000000 in
theorem fileClone_any (b : Nat) (f : FileV) (w : World) (h : FileAt w b f) (h1 : f.safe.length ≤ 140737488355328) (h2 : f.data.length ≤ 140737488355328) (hn : f.chg.length < 8796093022207) :
    Calls Tryz.prog 66 #[.pointer (some ⟨b, 0, none⟩)] w fun e w' => ∃ q g, e = .returned (.pointer (some ⟨q, 0, none⟩)) ∧ FileAt w' q g ∧ g.safe = f.safe ∧ g.data = f.data ∧ g.chg = f.chg ∧ w.heap.size ≤ q ∧ (∀ k ∈ g.blocks, w.heap.size ≤ k) ∧ w.grownBy w' none := by
  obtain ⟨hb, hs, hd, hc, hnd⟩ := h
  have hcell : ∀ w', w.grownBy w' none → w.grownBy w' none ∧ w'.cell? ⟨b, 0, none⟩ = some f.sv ∧ w'.cell? ⟨b, 1, none⟩ = some f.dv ∧ w'.cell? ⟨b, 2, none⟩ = some f.cv := fun w' g => by
    have e := (g.block b (lt_of_block hb) (by simp)).trans hb
    exact ⟨g, by simp [World.cell?, e], by simp [World.cell?, e], by simp [World.cell?, e]⟩
  have form : ∀ {e : TypeId} {v : Value} {n : Nat} {xs : List Value}, w.ownsRow 0 e 1 v n xs → ∃ a c, v = .slice a n c := by
    rintro e v n xs ⟨_, ⟨rfl, hz⟩ | ⟨g, cap, cur, rfl, _⟩⟩
    · exact ⟨none, 0, by rw [hz]⟩
    · exact ⟨_, _, rfl⟩
  obtain ⟨sa, sc, hsv⟩ := form hs
  obtain ⟨da, dc, hdv⟩ := form hd
  have K1 := fun W (g : w.grownBy W none) => fcopied_any sa f.safe.length sc f.safe W (by rw [← hsv]; exact (Owns.kept hs g (by cases f.sv.ownBlock <;> simp)).reads) h1
  have K2 := fun W (g : w.grownBy W none) => fcopied_any da f.data.length dc f.data W (by rw [← hdv]; exact (Owns.kept hd g (by cases f.dv.ownBlock <;> simp)).reads) h2
  have K3 := fun W (g : w.grownBy W none) => cloneChg_any f.cv f.chg.length f.chg W (World.ownsRow.kept hc g (by cases f.cv.ownBlock <;> simp)) hn
  rw [← hsv] at K1
  rw [← hdv] at K2
  clear form hsv hdv
  go_enter Tryz.func66, Tryz.ntmps66
  go_upto_region 1 with fail
  refine wp_region_held_drew (S := fun w' => w.grownBy w' none ∧ w'.cell? ⟨b, 0, none⟩ = some f.sv ∧ w'.cell? ⟨b, 1, none⟩ = some f.dv ∧ w'.cell? ⟨b, 2, none⟩ = some f.cv) (by kernel_rfl) (hcell _ (gdrew (World.grownBy.refl w none))) (fun hS => ?_)
  obtain ⟨V, hV⟩ : ∃ V, V = w.drew := ⟨_, rfl⟩
  rw [← hV] at hS ⊢
  clear hV
  refine wpAnyH_take (i := 0) (oi := ⟨some 3, _, _, _, _, _⟩) (v := ?_) rfl (by kernel_rfl) (by kernel_rfl) (by kernel_rfl) (fun _ _ _ h => h) (Or.inl ⟨by rfl, ?_⟩) (by assumption) ?_
  rotate_left
  · (intro w hSw; (try dsimp only at hSw); go_simp; try with_reducible rfl)
  try simp only [Act.put, List.setIfInBounds_toArray, List.set_cons_zero, List.set_cons_succ]
  refine wpAnyH_take (i := 1) (oi := ⟨some 4, _, _, _, _, _⟩) (v := ?_) rfl (by kernel_rfl) (by kernel_rfl) (by kernel_rfl) (fun _ _ _ h => h) (Or.inl ⟨by rfl, ?_⟩) (by assumption) ?_
  rotate_left
  · (intro w hSw; (try dsimp only at hSw); go_simp; try with_reducible rfl)
  try simp only [Act.put, List.setIfInBounds_toArray, List.set_cons_zero, List.set_cons_succ]
  refine wpAnyH_take (i := 2) (oi := ⟨some 5, _, _, _, _, _⟩) (v := ?_) rfl (by kernel_rfl) (by kernel_rfl) (by kernel_rfl) (fun _ _ _ h => h) (Or.inl ⟨by rfl, ?_⟩) (by assumption) ?_
  rotate_left
  · (intro w hSw; (try dsimp only at hSw); go_simp; try with_reducible rfl)
  try simp only [Act.put, List.setIfInBounds_toArray, List.set_cons_zero, List.set_cons_succ]
  refine wpAnyH_take (i := 3) (oi := ⟨some 6, _, _, _, _, _⟩) (v := ?_) rfl (by kernel_rfl) (by kernel_rfl) (by kernel_rfl) (fun _ _ _ h => h) (Or.inl ⟨by rfl, ?_⟩) (by assumption) ?_
  rotate_left
  · (intro w hSw; (try dsimp only at hSw); go_simp; try with_reducible rfl)
  try simp only [Act.put, List.setIfInBounds_toArray, List.set_cons_zero, List.set_cons_succ]
  refine wpAnyH_take (i := 5) (oi := ⟨some 8, _, _, _, _, _⟩) (v := ?_) rfl (by kernel_rfl) (by kernel_rfl) (by kernel_rfl) (fun _ _ _ h => h) (Or.inl ⟨by rfl, ?_⟩) (by assumption) ?_
  rotate_left
  · (intro w hSw; (try dsimp only at hSw); go_simp; try with_reducible rfl)
  try simp only [Act.put, List.setIfInBounds_toArray, List.set_cons_zero, List.set_cons_succ]
  refine wpAnyH_take (i := 6) (oi := ⟨some 9, _, _, _, _, _⟩) (v := ?_) rfl (by kernel_rfl) (by kernel_rfl) (by kernel_rfl) (fun _ _ _ h => h) (Or.inl ⟨by rfl, ?_⟩) (by assumption) ?_
  rotate_left
  · (intro w hSw; (try dsimp only at hSw); go_simp; try with_reducible rfl)
  try simp only [Act.put, List.setIfInBounds_toArray, List.set_cons_zero, List.set_cons_succ]
  refine wpAnyH_take (i := 7) (oi := ⟨some 10, _, _, _, _, _⟩) (v := ?_) rfl (by kernel_rfl) (by kernel_rfl) (by kernel_rfl) (fun _ _ _ h => h) (Or.inl ⟨by rfl, ?_⟩) (by assumption) ?_
  rotate_left
  · (intro w hSw; (try dsimp only at hSw); go_simp; try with_reducible rfl)
  try simp only [Act.put, List.setIfInBounds_toArray, List.set_cons_zero, List.set_cons_succ]
  refine wpAnyH_take (i := 8) (oi := ⟨some 11, _, _, _, _, _⟩) (v := ?_) rfl (by kernel_rfl) (by kernel_rfl) (by kernel_rfl) (fun _ _ _ h => h) (Or.inl ⟨by rfl, ?_⟩) (by assumption) ?_
  rotate_left
  · (intro w hSw; (try dsimp only at hSw); go_simp; try with_reducible rfl)
  try simp only [Act.put, List.setIfInBounds_toArray, List.set_cons_zero, List.set_cons_succ]
  refine wpAnyH_take (i := 10) (oi := ⟨some 13, _, _, _, _, _⟩) (v := ?_) rfl (by kernel_rfl) (by kernel_rfl) (by kernel_rfl) (fun _ _ _ h => h) (Or.inl ⟨by rfl, ?_⟩) (by assumption) ?_
  rotate_left
  · (intro w hSw; (try dsimp only at hSw); go_simp; try with_reducible rfl)
  try simp only [Act.put, List.setIfInBounds_toArray, List.set_cons_zero, List.set_cons_succ]
  refine wpAnyH_take (i := 11) (oi := ⟨some 14, _, _, _, _, _⟩) (v := ?_) rfl (by kernel_rfl) (by kernel_rfl) (by kernel_rfl) (fun _ _ _ h => h) (Or.inl ⟨by rfl, ?_⟩) (by assumption) ?_
  rotate_left
  · (intro w hSw; (try dsimp only at hSw); go_simp; try with_reducible rfl)
  try simp only [Act.put, List.setIfInBounds_toArray, List.set_cons_zero, List.set_cons_succ]
  refine wpAnyH_take (i := 12) (oi := ⟨some 15, _, _, _, _, _⟩) (v := ?_) rfl (by kernel_rfl) (by kernel_rfl) (by kernel_rfl) (fun _ _ _ h => h) (Or.inl ⟨by rfl, ?_⟩) (by assumption) ?_
  rotate_left
  · (intro w hSw; (try dsimp only at hSw); go_simp; try with_reducible rfl)
  try simp only [Act.put, List.setIfInBounds_toArray, List.set_cons_zero, List.set_cons_succ]
  refine wpAnyH_take (i := 13) (oi := ⟨some 16, _, _, _, _, _⟩) (v := ?_) rfl (by kernel_rfl) (by kernel_rfl) (by kernel_rfl) (fun _ _ _ h => h) (Or.inl ⟨by rfl, ?_⟩) (by assumption) ?_
  rotate_left
  · (intro w hSw; (try dsimp only at hSw); go_simp; try with_reducible rfl)
  try simp only [Act.put, List.setIfInBounds_toArray, List.set_cons_zero, List.set_cons_succ]
  refine wpAnyH_ready (rs := [4]) (by kernel_rfl) (by simp) ?_
  refine AllReadyH.cons rfl (fun K hK => ?_) AllReadyH.nil
  go_simp
  refine (K1 _ hS.1).mono ?_
  rintro e w1 ⟨v1, rfl, o1, g1⟩
  have hS1 := hcell _ (hS.1.trans g1)
  refine hK.out _ _ hS1 (fun _ => ?_)
  clear hK
  refine wpAnyH_ready (rs := [9]) (by kernel_rfl) (by simp) ?_
  refine AllReadyH.cons rfl (fun K hK => ?_) AllReadyH.nil
  go_simp
  refine (K2 _ hS1.1).mono ?_
  rintro e w2 ⟨v2, rfl, o2, g2⟩
  have hS2 := hcell _ (hS1.1.trans g2)
  refine hK.out _ _ hS2 (fun _ => ?_)
  clear hK
  refine wpAnyH_ready (rs := [14]) (by kernel_rfl) (by simp) ?_
  refine AllReadyH.cons rfl (fun K hK => ?_) AllReadyH.nil
  go_simp
  refine (K3 _ hS2.1).mono ?_
  rintro e w3 ⟨v3, rfl, o3, g3⟩
  have hS3 := hcell _ (hS2.1.trans g3)
  refine hK.out _ _ hS3 (fun _ => ?_)
  clear hK
  obtain ⟨a1, l1, c1, rfl⟩ : ∃ a n c, v1 = .slice a n c := by
    obtain ⟨_, ⟨rfl, _⟩ | ⟨g, cap, cur, rfl, _⟩⟩ := o1
    · exact ⟨_, _, _, rfl⟩
    · exact ⟨_, _, _, rfl⟩
  obtain ⟨a2, l2, c2, rfl⟩ : ∃ a n c, v2 = .slice a n c := by
    obtain ⟨_, ⟨rfl, _⟩ | ⟨g, cap, cur, rfl, _⟩⟩ := o2
    · exact ⟨_, _, _, rfl⟩
    · exact ⟨_, _, _, rfl⟩
  obtain ⟨a3, l3, c3, rfl⟩ : ∃ a n c, v3 = .slice a n c := by
    obtain ⟨_, ⟨rfl, _⟩ | ⟨g, cap, cur, rfl, _⟩⟩ := o3
    · exact ⟨_, _, _, rfl⟩
    · exact ⟨_, _, _, rfl⟩
  refine wpAnyH_take (i := 15) (oi := ⟨some 18, _, _, _, _, _⟩) (v := ?_) rfl (by kernel_rfl) (by kernel_rfl) (by kernel_rfl) (fun _ _ _ h => h) (Or.inl ⟨by rfl, ?_⟩) (by assumption) ?_
  rotate_left
  · (intro w hSw; (try dsimp only at hSw); go_simp; try with_reducible rfl)
  try simp only [Act.put, List.setIfInBounds_toArray, List.set_cons_zero, List.set_cons_succ]
  refine wpAnyH_ready (rs := [16]) (by kernel_rfl) (by simp) ?_
  refine AllReadyH.cons rfl (fun K hK => ?_) AllReadyH.nil
  go_simp
  have g4 := galloc hS3.1 (.cells #[.slice a1 l1 c1, .slice a2 l2 c2, .slice a3 l3 c3] 96)
  refine hK.out _ _ (hcell _ g4) (fun _ => ?_)
  clear hK
  refine wpAnyH_take (i := 17) (oi := ⟨some 2, _, _, _, _, _⟩) (v := ?_) rfl (by kernel_rfl) (by kernel_rfl) (by kernel_rfl) (fun _ _ _ h => h) (Or.inl ⟨by rfl, ?_⟩) (by assumption) ?_
  rotate_left
  · (intro w hSw; (try dsimp only at hSw); go_simp; try with_reducible rfl)
  try simp only [Act.put, List.setIfInBounds_toArray, List.set_cons_zero, List.set_cons_succ]
  refine wpAnyH_done (by kernel_rfl) ?_ _
  go_wp2_with fail
  have b1 := g1.size
  have b2 := g2.size
  have b3 := g3.size
  have bV := hS.1.size
  have n1 : ∀ k, (Value.slice a1 l1 c1).ownBlock = some k → V.heap.size ≤ k ∧ k < w1.heap.size := fun k e => Owns.lt o1 k e
  have n2 : ∀ k, (Value.slice a2 l2 c2).ownBlock = some k → w1.heap.size ≤ k ∧ k < w2.heap.size := fun k e => Owns.lt o2 k e
  have n3 : ∀ k, (Value.slice a3 l3 c3).ownBlock = some k → w2.heap.size ≤ k ∧ k < w3.heap.size := fun k e => World.ownsRow.lt o3 k e
  have gA := World.grownBy_alloc w3 (.cells #[.slice a1 l1 c1, .slice a2 l2 c2, .slice a3 l3 c3] 96) none
  have nn : ∀ v : Value, v.ownBlock = none ∨ v.ownBlock ≠ none := fun v => by cases v.ownBlock <;> simp
  have p1 := (((Owns.kept o1 g2 (nn _)).kept g3 (nn _)).kept gA (nn _)).mono (B' := 0) (Nat.zero_le _)
  have p2 := ((Owns.kept o2 g3 (nn _)).kept gA (nn _)).mono (B' := 0) (Nat.zero_le _)
  have p3 := World.ownsRow.kept o3 gA (nn _)
  have p3' : (w3.alloc (.cells #[.slice a1 l1 c1, .slice a2 l2 c2, .slice a3 l3 c3] 96)).ownsRow 0 140 1 (.slice a3 l3 c3) f.chg.length (f.chg.map Chg.v) := by
    obtain ⟨q1, q2 | ⟨g, cap, cur, q3, q4, q5⟩⟩ := p3
    · exact ⟨q1, .inl q2⟩
    · exact ⟨q1, .inr ⟨g, cap, cur, q3, Nat.zero_le _, q5⟩⟩
  go_ret
  refine ⟨_, ⟨.slice a1 l1 c1, .slice a2 l2 c2, .slice a3 l3 c3, f.safe, f.data, f.chg⟩, rfl, ⟨World.alloc_heap_new w3 _, p1, p2, p3', ?_⟩, rfl, rfl, rfl, by omega, ?_, g4⟩
  · refine nodup3 (fun e => ?_) (fun e => ?_) (fun e => ?_) (fun k e e2 => ?_) (fun k e e2 => ?_) (fun k e e2 => ?_)
    · have := n1 _ e; omega
    · have := n2 _ e; omega
    · have := n3 _ e; omega
    · have := n1 _ e; have := n2 _ e2; omega
    · have := n1 _ e; have := n3 _ e2; omega
    · have := n2 _ e; have := n3 _ e2; omega
  · intro k hk
    rcases FileV.mem hk with e | e | e
    · have := n1 _ e; omega
    · have := n2 _ e; omega
    · have := n3 _ e; omega
end Go.Proofs.YtafcgjbafihniaaGreat

/-
  LAYER 1 (fs): Clone of a file system of which nothing is safe and in which one file was made.
-/
namespace Go.Proofs.YtafcgjbafihniaaGreat
set_option maxRecDepth 100000
open Go.RowKit Go.Lib
attribute [local go_sem] Oper.semAt_some

theorem ints_of_own {w : World} {B : Nat} {v : Value} {zs : List Int} (h : w.ownsRow B 3 1 v zs.length (zs.map intV)) : Ints w v zs := by
  have h0 := h
  obtain ⟨_, ⟨rfl, hn⟩ | ⟨g, cap, cur, rfl, hB, hg, hc, hm, hs, ht⟩⟩ := h
  · exact .inl (.inl ⟨rfl, by simpa using List.length_eq_zero_iff.1 hn⟩)
  · refine .inl (.inr ⟨g, 0, cap, by simp, by simpa using hc, hm, fun i u hu => ?_⟩)
    have hi : i < zs.length := by have := (List.getElem?_eq_some_iff.1 hu).1; simpa using this
    have := World.ownsRow.cellAt h0 i (by simpa using hi)
    rw [Nat.zero_add, this]
    exact hu

theorem DirM.fresh {W : World} {d : Nat} (h : W.heap[d]? = some (.map #[] 0)) : DirM W d [] := by
  obtain ⟨h1, h2, n, D, ⟨es, clock, hb, F, hs, hD⟩, h4⟩ := DirM.made W
  rw [World.alloc_heap_new] at hb
  simp only [Option.some.injEq, Obj.map.injEq] at hb
  obtain ⟨rfl, rfl⟩ := hb
  exact ⟨h1, h2, n, D, ⟨_, _, h, F, hs, hD⟩, h4⟩

/-- A range over an empty directory. -/
theorem range_empty {W : World} {s : Nat} (h : DirM W s []) : ∃ W', (Instr.range 69 (.map (some s))).run Tryz.prog W = .ok (.pointer (some ⟨W.heap.size, 0, none⟩)) W' ∧ (∀ ty, (Instr.next (.pointer (some ⟨W.heap.size, 0, none⟩)) false ty).run Tryz.prog W' = .ok (.tuple #[.bool false]) W') ∧ W.grownBy W' none ∧ W'.heap.size = W.heap.size + 1 := by
  obtain ⟨D, h3, h4, h5, h6⟩ := h.size
  obtain ⟨W', h7, h8, h9, h10⟩ := h3.range keyed_str Tryz.underlying69
  refine ⟨W', h7, fun ty => ?_, h9, h10⟩
  rcases h8.next keyed_str ty with ⟨_, _, hr⟩ | ⟨key, v, kl, y, w2, c2, q1, q2, q3, q4, q5, q6, q7, _⟩
  · exact hr
  · rw [h4] at q7
    simp at q7

theorem own_other {W : World} {B e s n p : Nat} {v : Value} {xs : List Value} {o : Obj} (h : W.ownsRow B e s v n xs) (ho : W.heap[p]? = some o) (hne : ∀ c fr, o ≠ .cells c e fr) : v.ownBlock ≠ some p := by
  obtain ⟨_, ⟨rfl, _⟩ | ⟨g, cap, cur, rfl, _, hg, _⟩⟩ := h
  · simp [Value.ownBlock]
  · intro e2
    simp only [Value.ownBlock, Option.some.injEq] at e2
    subst e2
    rw [ho] at hg
    simp only [Option.some.injEq] at hg
    exact hne _ _ hg
theorem grown_gp {P : Nat → Prop} {w a b : World} (h : w.grownBy a none) (g : GP P a b) (hP : ∀ k, P k → w.heap.size ≤ k) : w.grownBy b none :=
  ⟨g.os.trans h.os, g.tape.trans h.tape, g.output.trans h.output, Nat.le_trans h.size g.size, fun k hk _ => (g.block k (Nat.lt_of_lt_of_le hk h.size) (fun e => by have := hP k e; omega)).trans (h.block k hk (by simp))⟩
theorem own_gp {A B : World} {P : Nat → Prop} {e b s n : Nat} {v : Value} {xs : List Value} (h : A.ownsRow b e s v n xs) (g : GP P A B) (hv : ∀ k, v.ownBlock = some k → ¬ P k) : B.ownsRow b e s v n xs := by
  obtain ⟨q1, q2 | ⟨gg, cap, cur, rfl, q4, q5, q6⟩⟩ := h
  · exact ⟨q1, .inl q2⟩
  · exact ⟨q1, .inr ⟨gg, cap, cur, rfl, q4, (g.block gg (lt_of_block q5) (hv gg rfl)).trans q5, q6⟩⟩
theorem DirM.gp {A B : World} {P : Nat → Prop} {d : Nat} {l : DirL} (h : DirM A d l) (g : GP P A B) (hd : ¬ P d) : DirM B d l := by
  obtain ⟨h1, h2, n, D, ⟨es, clock, hb, hF, hs, hD⟩, h4⟩ := h
  exact ⟨h1, h2, n, D, ⟨es, clock, (g.block d (lt_of_block hb) hd).trans hb, hF, hs, hD⟩, h4⟩
theorem FileAt.lt_blocks {w : World} {b : Nat} {f : FileV} (h : FileAt w b f) : ∀ k ∈ f.blocks, k < w.heap.size := by
  intro k hk
  rcases FileV.mem hk with e | e | e
  · exact (Owns.lt h.2.1 k e).2
  · exact (Owns.lt h.2.2.1 k e).2
  · exact (World.ownsRow.lt h.2.2.2.1 k e).2

/-- A clone in which one file was made and nothing is safe. -/
def ClonedOne (w : World) (p : PlV) (ops : Int) (keep fail full : List Int) (nm : ByteArray) (f : FileV) (gq gd gs : Nat) (k' f' u' : Value) (w' : World) : Prop := ∃ mv' b' f2, FsAt w' gq false ⟨p.c, k', f', u', p.r⟩ ops gd gs mv' ∧ DirM w' gd [(nm.data.toList, b')] ∧ DirM w' gs [] ∧
      w'.ownsRow 0 110 3 mv' 1 (mvCells [⟨⟨#[]⟩, nm, some b'⟩]) ∧ FileAt w' b' f2 ∧ f2.safe = f.safe ∧ f2.data = f.data ∧ f2.chg = f.chg ∧ gd ≠ gq ∧ gs ≠ gq ∧ gd ≠ gs ∧ (∀ k, mv'.ownBlock = some k → w.heap.size ≤ k ∧ k ≠ gq ∧ k ≠ gd ∧ k ≠ gs ∧ k ≠ b' ∧ k ∉ f2.blocks) ∧ (∀ k, k = gq ∨ k = gd ∨ k = gs ∨ k = b' ∨ k ∈ f2.blocks → w.heap.size ≤ k) ∧ (∀ k, k = gq ∨ k = gd ∨ k = gs → k ≠ b' ∧ k ∉ f2.blocks) ∧
      w'.ownsRow w.heap.size 3 1 k' keep.length (keep.map intV) ∧ w'.ownsRow w.heap.size 3 1 f' fail.length ((inOrd fail).map intV) ∧ w'.ownsRow w.heap.size 3 1 u' full.length ((inOrd full).map intV) ∧
      (∀ v, v = k' ∨ v = f' ∨ v = u' → ∀ k, v.ownBlock = some k → k ≠ gq ∧ k ≠ gd ∧ k ≠ gs ∧ k ≠ b' ∧ k ∉ f2.blocks) ∧ w.grownBy w' none

section
variable {w : World} {q : Nat} {p : PlV} {ops : Int} {d s : Nat} {mv : Value}
set_option maxHeartbeats 8000000 in
theorem clone_one (keep fail full : List Int) (nm : ByteArray) (b : Nat) (f : FileV) (w : World) (h : FsAt w q false p ops d s mv) (hk : w.ownsRow 0 3 1 p.k keep.length (keep.map intV)) (hf : w.ownsRow 0 3 1 p.f fail.length (fail.map intV)) (hu : w.ownsRow 0 3 1 p.u full.length (full.map intV))
    (lk : keep.length * 8 ≤ 140737488351232) (lf : fail.length * 8 ≤ 140737488351232) (lu : full.length * 8 ≤ 140737488351232) (hs : DirM w s []) (hr : w.ownsRow 0 110 3 mv 1 (mvCells [⟨⟨#[]⟩, nm, some b⟩])) (hF : FileAt w b f) (hs1 : f.safe.length ≤ 140737488355328) (hd1 : f.data.length ≤ 140737488355328) (hn1 : f.chg.length < 8796093022207)
    (hnm : nm.size ≠ 0) (hnm2 : nm.size ≤ maxLen) :
    Calls Tryz.prog 29 #[.pointer (some ⟨q, 0, none⟩)] w fun e w' => ∃ gq gd gs k' f' u', e = .returned (.pointer (some ⟨gq, 0, none⟩)) ∧ ClonedOne w p ops keep fail full nm f gq gd gs k' f' u' w' := by
  have hmade := fun W h => isMade_fs (q := q) (dead := false) (p := p) (ops := ops) (d := d) (s := s) (mv := mv) W h
  have x2 := h.crash
  have x3 := h.keep
  have x4 := h.fail
  have x5 := h.full
  have x6 := h.room
  obtain ⟨ka, kc, hkv⟩ := rowForm hk
  obtain ⟨fa, fc, hfv⟩ := rowForm hf
  obtain ⟨ua, uc, huv⟩ := rowForm hu
  have hnew := new_any p.k p.f p.u ⟨p.c, keep, fail, full, p.r⟩ w (ints_of_own hk) (ints_of_own hf) (ints_of_own hu) lk lf lu
  dsimp only at hnew
  rw [hkv, hfv, huv] at hnew
  rw [hkv] at x3
  rw [hfv] at x4
  rw [huv] at x5
  have hm1 := hmade w h
  go_enter Tryz.func29, Tryz.ntmps29
  go_wp2_with first
    | (go_at_call 54; refine hm1.mono ?_; rintro e w2 ⟨rfl, rfl⟩)
    | (go_at_call 12; refine hnew.mono ?_; clear hnew; rintro e w1 ⟨gq, gd, gs, k', f', u', rfl, n1, n2, n3, n4, n5, n6, n7, n8, n9, n10, g1⟩; have y1 := (h.kept g1 (by simp)).isDead; have y2 := n1.isDead; have y3 := n1.free 1; have y4 := n1.setDead false)
  obtain ⟨W3, hW3⟩ : ∃ W3, W3 = w1.setCell ⟨gq, 1, none⟩ (.bool false) := ⟨_, rfl⟩
  have g3 : w1.grownBy W3 (some gq) := by rw [hW3]; exact gset (World.grownBy.refl w1 (some gq)) 1 (.bool false)
  rw [← hW3] at y4 ⊢
  clear hW3 y1 y2 y3
  have hql := h.lt
  have gd1 := lt_of_block n2
  have gs1 := lt_of_block n3
  have gq1 := n1.lt
  have w1s := g1.size
  have ndq : gd ≠ gq := fun e => by
    have e1 : w1.heap[gq]? = _ := n1
    rw [← e, n2] at e1
    cases e1
  have nsq : gs ≠ gq := fun e => by
    have e1 : w1.heap[gq]? = _ := n1
    rw [← e, n3] at e1
    cases e1
  have w13 : w.grownBy W3 none := gnew g1 g3 (fun k e => by cases e; exact .inl n5)
  have gV := gdrew (World.grownBy.refl W3 none)
  obtain ⟨V, hV⟩ : ∃ V, V = W3.drew := ⟨_, rfl⟩
  have hL := h.kept (w13.trans gV) (by simp)
  have hG := y4.kept gV (by simp)
  refine wp_region_held_drew (S := fun _ => True) (by kernel_rfl) trivial (fun hS0 => ?_)
  rw [← hV] at gV hL hG ⊢
  clear hV
  have hld := load_fs V hL
  have hst := store_fs ops V hG
  refine wpAnyH_take (i := 0) (oi := ⟨some 24, _, _, _, _, _⟩) (v := ?_) rfl (by kernel_rfl) (by kernel_rfl) (by kernel_rfl) (fun _ _ _ h => h) (Or.inl ⟨by rfl, ?_⟩) (by assumption) ?_
  rotate_left
  · (intro w hSw; (try dsimp only at hSw); go_simp; try with_reducible rfl)
  try simp only [Act.put, List.setIfInBounds_toArray, List.set_cons_zero, List.set_cons_succ]
  refine wpAnyH_take (i := 1) (oi := ⟨some 25, _, _, _, _, _⟩) (v := ?_) rfl (by kernel_rfl) (by kernel_rfl) (by kernel_rfl) (fun _ _ _ h => h) (Or.inl ⟨by rfl, ?_⟩) (by assumption) ?_
  rotate_left
  · (intro w hSw; (try dsimp only at hSw); go_simp; try with_reducible rfl)
  try simp only [Act.put, List.setIfInBounds_toArray, List.set_cons_zero, List.set_cons_succ]
  refine wpAnyH_take (i := 2) (oi := ⟨some 26, _, _, _, _, _⟩) (v := ?_) rfl (by kernel_rfl) (by kernel_rfl) (by kernel_rfl) (fun _ _ _ h => h) (Or.inl ⟨by rfl, ?_⟩) (by assumption) ?_
  rotate_left
  · (intro w hSw; (try dsimp only at hSw); go_simp; try with_reducible rfl)
  try simp only [Act.put, List.setIfInBounds_toArray, List.set_cons_zero, List.set_cons_succ]
  refine wpAnyH_take (i := 3) (oi := ⟨some 27, _, _, _, _, _⟩) (v := ?_) rfl (by kernel_rfl) (by kernel_rfl) (by kernel_rfl) (fun _ _ _ h => h) (Or.inl ⟨by rfl, ?_⟩) (by assumption) ?_
  rotate_left
  · (intro w hSw; (try dsimp only at hSw); go_simp; try with_reducible rfl)
  try simp only [Act.put, List.setIfInBounds_toArray, List.set_cons_zero, List.set_cons_succ]
  refine wpAnyH_take (i := 4) (oi := ⟨some 28, _, _, _, _, _⟩) (v := ?_) rfl (by kernel_rfl) (by kernel_rfl) (by kernel_rfl) (fun _ _ _ h => h) (Or.inl ⟨by rfl, ?_⟩) (by assumption) ?_
  rotate_left
  · (intro w hSw; (try dsimp only at hSw); go_simp; try with_reducible rfl)
  try simp only [Act.put, List.setIfInBounds_toArray, List.set_cons_zero, List.set_cons_succ]
  refine wpAnyH_take (i := 5) (oi := ⟨some 29, _, _, _, _, _⟩) (v := ?_) rfl (by kernel_rfl) (by kernel_rfl) (by kernel_rfl) (fun _ _ _ h => h) (Or.inl ⟨by rfl, ?_⟩) (by assumption) ?_
  rotate_left
  · (intro w hSw; (try dsimp only at hSw); go_simp; try with_reducible rfl)
  try simp only [Act.put, List.setIfInBounds_toArray, List.set_cons_zero, List.set_cons_succ]
  refine wpAnyH_ready (rs := [6]) (by kernel_rfl) (by simp) ?_
  refine AllReadyH.cons rfl (fun K hK => ?_) AllReadyH.nil
  go_simp
  refine hld.mono ?_
  rintro e w2 ⟨rfl, rfl⟩
  refine hK.out _ _ trivial (fun _ => ?_)
  clear hK
  refine wpAnyH_ready (rs := [7]) (by kernel_rfl) (by simp) ?_
  refine AllReadyH.cons rfl (fun K hK => ?_) AllReadyH.nil
  go_simp
  refine hst.mono ?_
  rintro e W5 ⟨rfl, hW5⟩
  have hG5 := hG.setOps ops
  have g5 := gset (World.grownBy.refl V (some gq)) 7 (.int .i64 ops)
  rw [← hW5] at hG5 g5
  clear hW5 hst hld
  refine hK.out _ _ trivial (fun _ => ?_)
  clear hK
  refine wpAnyH_done (by kernel_rfl) ?_ _
  have w15 : w.grownBy W5 none := gnew (w13.trans gV) g5 (fun k e => by cases e; exact .inl n5)
  have hL5 := h.kept w15 (by simp)
  have y9 := hL5.safe
  obtain ⟨W6, r1, r2, r3, r4⟩ := range_empty (hs.kept w15 (by simp))
  replace r4 := Lib.hid r4
  have hL6 := hL5.kept r3 (by simp)
  have y10 := hL6.moves
  obtain ⟨ma, mc, hmv⟩ := rowForm hr
  rw [hmv] at y10
  have hD5 : DirM W5 gd [] := DirM.fresh ((g5.block gd (by have := g3.size; have := gV.size; omega) (by simp; exact ndq)).trans ((gV.block gd (by have := g3.size; omega) (by simp)).trans ((g3.block gd gd1 (by simp; exact ndq)).trans n2)))
  have hS5 : DirM W5 gs [] := DirM.fresh ((g5.block gs (by have := g3.size; have := gV.size; omega) (by simp; exact nsq)).trans ((gV.block gs (by have := g3.size; omega) (by simp)).trans ((g3.block gs gs1 (by simp; exact nsq)).trans n3)))
  go_wp2_with fail
  go_loopw [4, 5, 6] (fun _ _ _ wr => Hid (wr = W6)) (fun _ _ _ _ => 0)
  case atStart => exact Lib.hid rfl
  case round =>
    obtain rfl := hrel.out
    clear hrel
    go_wp2_with fail
    have w16 : w.grownBy wr none := w15.trans r3
    obtain ⟨mg, rfl, c0, c1, c2⟩ : ∃ mg, ma = some ⟨mg, 0, none⟩ ∧ wr.cell? ⟨mg, 0, none⟩ = some (.string ⟨#[]⟩) ∧ wr.cell? ⟨mg, 1, none⟩ = some (.string nm) ∧ wr.cell? ⟨mg, 2, none⟩ = some (.pointer (some ⟨b, 0, none⟩)) := by
      have hr6 := World.ownsRow.kept hr w16 (by cases mv.ownBlock <;> simp)
      rw [hmv] at hr6
      have hr7 := hr6
      obtain ⟨_, ⟨e, hz⟩ | ⟨g9, cap, cur, e, _⟩⟩ := hr6
      · cases hz
      · simp at e
        obtain ⟨rfl, rfl⟩ := e
        exact ⟨g9, rfl, World.ownsRow.cellAt hr7 0 (by omega), World.ownsRow.cellAt hr7 1 (by omega), World.ownsRow.cellAt hr7 2 (by omega)⟩
    have hG6 := hG5.kept r3 (by simp)
    have hD6 := hD5.kept r3 (by simp)
    have hS6 := hS5.kept r3 (by simp)
    have hfc := fun W (g : wr.grownBy W none) => fileClone_any b f W (hF.kept (P := fun _ => False) (GP.of (w16.trans g) (by simp)) (fun h => h) (fun _ _ h => h)) hs1 hd1 hn1
    have gx := World.grownBy_alloc wr (.cells #[.string ⟨#[]⟩, .string nm, .pointer (some ⟨b, 0, none⟩)] 110) none
    have ex := World.alloc_heap_new wr (.cells #[.string ⟨#[]⟩, .string nm, .pointer (some ⟨b, 0, none⟩)] 110)
    obtain ⟨W7, hW7⟩ : ∃ W7, W7 = wr.alloc (.cells #[.string ⟨#[]⟩, .string nm, .pointer (some ⟨b, 0, none⟩)] 110) := ⟨_, rfl⟩
    rw [← hW7] at gx ex
    have s7 : W7.heap.size = wr.heap.size + 1 := by rw [hW7]; simp
    have hM7 : MvAt W7 wr.heap.size ⟨⟨#[]⟩, nm, some b⟩ := ex
    have z0 := hM7.c0
    have z1 := hM7.c1
    have z2 := hM7.c2
    unfold ptrV at z2
    dsimp only at z0 z1 z2
    have hf7 := hfc W7 gx
    go_loopw [8, 61] (fun _ va wr' => va = .int .i64 0 ∧ Hid (wr' = wr) ∨ va = .int .i64 1 ∧ Hid (ClonedOne w p ops keep fail full nm f gq gd gs k' f' u' wr')) (fun _ va _ => 1 - (RowKit.intOf va).toNat)
    case atStart => exact .inl ⟨rfl, Lib.hid rfl⟩
    case round =>
      rcases hrel with ⟨rfl, hq⟩ | ⟨rfl, hq⟩
      · obtain rfl := hq.out
        go_wp2_with fail
        rw [← hW7]
        clear hW7
        have hG7 := hG6.kept gx (by simp)
        have hD7 := hD6.kept gx (by simp)
        have hS7 := hS6.kept gx (by simp)
        have xG := hG6.lt
        have xD := hD6.lt
        have xS := hS6.lt
        go_wp2_with first
          | (go_at_call 66; refine hf7.mono ?_; clear hf7; rintro e w8 ⟨b', f2, rfl, q1, q2, q3, q4, q5, q6, q7⟩; have hM8 := hM7.kept q7 (by simp); have u2 := hM8.c2; unfold ptrV at u2; dsimp only at u2; have v2 : w8.frozen? ⟨wr.heap.size, 2, none⟩ = false := by simp [World.frozen?, show _ = _ from hM8]
             have hM9 : MvAt (w8.setCell ⟨wr.heap.size, 2, none⟩ (.pointer (some ⟨b', 0, none⟩))) wr.heap.size ⟨⟨#[]⟩, nm, some b'⟩ := heap_setCell_same w8 wr.heap.size 2 _ _ _ hM8
             have a0 := hM9.c0
             have a1 := hM9.c1
             have a2 := hM9.c2
             unfold ptrV at a2
             dsimp only at a0 a1 a2
             have gs9 := gset (World.grownBy.refl w8 (some wr.heap.size)) 2 (.pointer (some ⟨b', 0, none⟩))
             have hG9 := (hG7.kept q7 (by simp)).kept gs9 (by simp; omega)
             have hD9 := (hD7.kept q7 (by simp)).kept gs9 (by simp; omega)
             have hmv9 := move_any ⟨⟨#[]⟩, nm, some b'⟩ [] [] _ hG9 hD9 (World.ownsRow_nil _ _ _ _) ⟨Nat.zero_le _, hnm2, hnm⟩ (by unfold maxLen; simp) (by simp) ndq (by simp [Value.ownBlock]) (by simp [Value.ownBlock])
             dsimp only [Mv.v, ptrV] at hmv9
             replace hG9 := Lib.hid hG9
             replace hD9 := Lib.hid hD9
             replace gs9 := Lib.hid gs9
             replace q1 := Lib.hid q1
             replace q5 := Lib.hid q5
             replace q6 := Lib.hid q6
             replace q7 := Lib.hid q7)
          | (go_at_call 67; refine hmv9.mono ?_; clear hmv9; rintro e w10 ⟨rfl, mv', p1, p2, p3, p4, p5⟩)
        have q1 := q1.out
        have q5 := q5.out
        have q6 := q6.out
        have q7 := q7.out
        have gs9 := gs9.out
        have s8 := q7.size
        have s9 : (w8.setCell ⟨wr.heap.size, 2, none⟩ (.pointer (some ⟨b', 0, none⟩))).heap.size = w8.heap.size := by simp [World.setCell]
        have wwr := w16.size
        have hnone : (Value.slice none 0 0).ownBlock = none := rfl
        have bl8 := q1.lt
        have fl8 := q1.lt_blocks
        have f9 : FileAt (w8.setCell ⟨wr.heap.size, 2, none⟩ (.pointer (some ⟨b', 0, none⟩))) b' f2 := q1.kept (P := fun k => k = wr.heap.size) (GP.of gs9 (fun k e => by cases e; rfl)) (by omega) (fun k hk e => by have := q6 k hk; omega)
        have f10 : FileAt w10 b' f2 := f9.kept p5 (by rw [hnone]; rintro (e | e | e); omega; omega; cases e) (fun k hk => by have := q6 k hk; rw [hnone]; rintro (e | e | e); omega; omega; cases e)
        have d10 : DirM w10 gs [] := ((hS7.kept q7 (by simp)).kept gs9 (by simp; omega)).gp p5 (by rw [hnone]; rintro (e | e | e); exact nsq e; exact n4 e.symm; cases e)
        have wg9 : w.grownBy (w8.setCell ⟨wr.heap.size, 2, none⟩ (.pointer (some ⟨b', 0, none⟩))) none := gnew ((w16.trans gx).trans q7) gs9 (fun k e => by cases e; exact .inl wwr)
        have wg10 : w.grownBy w10 none := grown_gp wg9 p5 (by rw [hnone]; rintro k (e | e | e); omega; omega; cases e)
        have mvb : ∀ k, mv'.ownBlock = some k → w8.heap.size ≤ k := fun k e => by
          rcases p4 with h | ⟨k2, h, hk2⟩
          · rw [e, hnone] at h; cases h
          · rw [e] at h; cases h; omega
        have rowk : ∀ {v : Value} {n : Nat} {xs : List Value}, w1.ownsRow w.heap.size 3 1 v n xs → w10.ownsRow w.heap.size 3 1 v n xs ∧ ∀ k, v.ownBlock = some k → k ≠ gq ∧ k ≠ gd ∧ k ≠ gs ∧ k ≠ b' ∧ k ∉ f2.blocks := by
          intro v n xs hv
          have e1 : v.ownBlock ≠ some gq := own_other hv n1 (fun c fr e => by cases e)
          have e2 : v.ownBlock ≠ some gd := own_other hv n2 (fun c fr e => by cases e)
          have e3 : v.ownBlock ≠ some gs := own_other hv n3 (fun c fr e => by cases e)
          have hlt := World.ownsRow.lt hv
          have g3s := g3.size
          have gVs := gV.size
          have g5s := g5.size
          have r3s := r3.size
          have nn : ∀ v : Value, v.ownBlock = none ∨ v.ownBlock ≠ none := fun v => by cases v.ownBlock <;> simp
          have hh := World.ownsRow.kept (World.ownsRow.kept (World.ownsRow.kept (World.ownsRow.kept (World.ownsRow.kept (World.ownsRow.kept hv g3 (.inr e1)) gV (nn v)) g5 (.inr e1)) r3 (nn v)) gx (nn v)) q7 (nn v)
          have hh2 := World.ownsRow.kept hh gs9 (.inr (fun e => by have := (hlt _ e).2; omega))
          refine ⟨own_gp hh2 p5 (fun k e => by rw [hnone]; rintro (h | h | h); exact e1 (by rw [← h]; exact e); exact e2 (by rw [← h]; exact e); cases h), fun k e => ⟨fun h => e1 (by rw [← h]; exact e), fun h => e2 (by rw [← h]; exact e), fun h => e3 (by rw [← h]; exact e), by have := (hlt k e).2; omega, fun h => by have := q6 k h; have := (hlt k e).2; omega⟩⟩
        have rk := rowk n8
        have rf := rowk n9
        have ru := rowk n10
        refine ⟨.inr ⟨rfl, Lib.hid ⟨mv', b', f2, p1, p2, d10, p3, f10, q2, q3, q4, ndq, nsq, n4, fun k e => ?_, fun k e => ?_, fun k e => ?_, rk.1, rf.1, ru.1, fun v hv => ?_, wg10⟩⟩, by simp [RowKit.intOf]⟩
        · have := mvb k e
          exact ⟨by omega, by omega, by omega, by omega, by omega, fun h => by have := fl8 k h; omega⟩
        · rcases e with e | e | e | e | e
          · omega
          · omega
          · omega
          · omega
          · have := q6 k e; omega
        · rcases e with e | e | e
          · exact ⟨by omega, fun h => by have := q6 k h; omega⟩
          · exact ⟨by omega, fun h => by have := q6 k h; omega⟩
          · exact ⟨by omega, fun h => by have := q6 k h; omega⟩
        · rcases hv with rfl | rfl | rfl
          · exact rk.2
          · exact rf.2
          · exact ru.2
      · clear hf7 hfc
        go_wp2_with fail
        go_ret
        exact ⟨_, _, _, _, _, _, rfl, hq.out⟩
end
end Go.Proofs.YtafcgjbafihniaaGreat

/-
  LAYER 1 (fs): a whole file system in memory; its blocks are apart by their kinds.
-/
namespace Go.Proofs.YtafcgjbafihniaaGreat
set_option maxRecDepth 100000
open Go.RowKit Go.Lib
open Go.Proofs (encStr)

/-- A file system in memory, all of it in blocks from n0 on. -/
structure FsOk (n0 : Nat → Prop) (w : World) (q : Nat) (dead : Bool) (p : PlV) (pl : Pl) (ops : Int) (d s : Nat) (mv : Value) (ld ls : DirL) (ml : List Mv) (fl : List (Nat × FileV)) : Prop where
  fs : FsAt w q dead p ops d s mv
  pc : p.c = pl.crash
  pr : p.r = pl.room
  rk : w.ownsRow 0 3 1 p.k pl.keep.length (pl.keep.map intV)
  rf : w.ownsRow 0 3 1 p.f pl.fail.length ((inOrd pl.fail).map intV)
  ru : w.ownsRow 0 3 1 p.u pl.full.length ((inOrd pl.full).map intV)
  dir : DirM w d ld
  safe : DirM w s ls
  mr : w.ownsRow 0 110 3 mv ml.length (mvCells ml)
  files : FilesM w fl
  nds : d ≠ s
  new : ∀ k, k = q ∨ k = d ∨ k = s ∨ mv.ownBlock = some k ∨ p.k.ownBlock = some k ∨ p.f.ownBlock = some k ∨ p.u.ownBlock = some k ∨ k ∈ filesBlocks fl → n0 k

def FsFoot (q d s : Nat) (p : PlV) (mv : Value) (fl : List (Nat × FileV)) (k : Nat) : Prop := k = q ∨ k = d ∨ k = s ∨ mv.ownBlock = some k ∨ p.k.ownBlock = some k ∨ p.f.ownBlock = some k ∨ p.u.ownBlock = some k ∨ k ∈ filesBlocks fl

theorem DirM.obj {w : World} {d : Nat} {l : DirL} (h : DirM w d l) : ∃ es c, w.heap[d]? = some (.map es c) := by
  obtain ⟨_, _, n, D, ⟨es, clock, hb, _⟩, _⟩ := h
  exact ⟨es, clock, hb⟩
theorem own_obj {w : World} {B e s n : Nat} {v : Value} {xs : List Value} (h : w.ownsRow B e s v n xs) : ∀ k, v.ownBlock = some k → ∃ c fr, w.heap[k]? = some (.cells c e fr) := by
  intro k hk
  obtain ⟨_, ⟨rfl, _⟩ | ⟨g, cap, cur, rfl, _, hg, _⟩⟩ := h
  · simp [Value.ownBlock] at hk
  · simp only [Value.ownBlock, Option.some.injEq] at hk
    subst hk
    exact ⟨_, _, hg⟩
theorem FilesM.obj {w : World} {fl : List (Nat × FileV)} (h : FilesM w fl) : ∀ k ∈ filesBlocks fl, ∃ c e fr, w.heap[k]? = some (.cells c e fr) ∧ (e = 96 ∨ e = 5 ∨ e = 140) := by
  intro k hk
  obtain ⟨x, hx, e | e⟩ := mem_filesBlocks.1 hk
  · rw [e]
    exact ⟨_, _, _, (h.1 x hx).1, .inl rfl⟩
  · have hf := h.1 x hx
    rcases FileV.mem e with e | e | e
    · obtain ⟨c, fr, h2⟩ := own_obj hf.2.1 k e
      exact ⟨c, _, fr, h2, .inr (.inl rfl)⟩
    · obtain ⟨c, fr, h2⟩ := own_obj hf.2.2.1 k e
      exact ⟨c, _, fr, h2, .inr (.inl rfl)⟩
    · obtain ⟨c, fr, h2⟩ := own_obj hf.2.2.2.1 k e
      exact ⟨c, _, fr, h2, .inr (.inr rfl)⟩
/-- Blocks of unlike kinds are apart. -/
theorem apart_obj {w : World} {k : Nat} {o o' : Obj} (h : w.heap[k]? = some o) (h' : w.heap[k]? = some o') : o = o' := by
  rw [h] at h'
  simpa using h'

section
variable {n0 : Nat → Prop} {w : World} {q : Nat} {dead : Bool} {p : PlV} {pl : Pl} {ops : Int} {d s : Nat} {mv : Value} {ld ls : DirL} {ml : List Mv} {fl : List (Nat × FileV)}
theorem FsOk.ndq (h : FsOk n0 w q dead p pl ops d s mv ld ls ml fl) : d ≠ q := by
  rintro rfl
  obtain ⟨es, c, h2⟩ := h.dir.obj
  cases apart_obj h2 (show _ = _ from h.fs)
theorem FsOk.nsq (h : FsOk n0 w q dead p pl ops d s mv ld ls ml fl) : s ≠ q := by
  rintro rfl
  obtain ⟨es, c, h2⟩ := h.safe.obj
  cases apart_obj h2 (show _ = _ from h.fs)
theorem FsOk.row_fs (h : FsOk n0 w q dead p pl ops d s mv ld ls ml fl) {B e z n : Nat} {v : Value} {xs : List Value} (hv : w.ownsRow B e z v n xs) (he : e ≠ 72) : v.ownBlock ≠ some q ∧ v.ownBlock ≠ some d ∧ v.ownBlock ≠ some s := by
  refine ⟨fun e2 => ?_, fun e2 => ?_, fun e2 => ?_⟩
  · obtain ⟨c, fr, h2⟩ := own_obj hv _ e2
    have := apart_obj h2 (show _ = _ from h.fs)
    simp at this
    exact he this.2.1
  · obtain ⟨c, fr, h2⟩ := own_obj hv _ e2
    obtain ⟨es, c2, h3⟩ := h.dir.obj
    cases apart_obj h2 h3
  · obtain ⟨c, fr, h2⟩ := own_obj hv _ e2
    obtain ⟨es, c2, h3⟩ := h.safe.obj
    cases apart_obj h2 h3
theorem FsOk.row_files (h : FsOk n0 w q dead p pl ops d s mv ld ls ml fl) {B e z n : Nat} {v : Value} {xs : List Value} (hv : w.ownsRow B e z v n xs) (he : e ≠ 96 ∧ e ≠ 5 ∧ e ≠ 140) : ∀ k ∈ filesBlocks fl, v.ownBlock ≠ some k := by
  intro k hk e2
  obtain ⟨c, fr, h2⟩ := own_obj hv _ e2
  obtain ⟨c3, e3, fr3, h3, h4⟩ := h.files.obj k hk
  have := apart_obj h2 h3
  simp at this
  obtain ⟨_, rfl, _⟩ := this
  rcases h4 with rfl | rfl | rfl
  · exact he.1 rfl
  · exact he.2.1 rfl
  · exact he.2.2 rfl
theorem FsOk.fb (h : FsOk n0 w q dead p pl ops d s mv ld ls ml fl) : ∀ k ∈ filesBlocks fl, k ≠ q ∧ k ≠ d ∧ k ≠ s := by
  intro k hk
  obtain ⟨c3, e3, fr3, h3, h4⟩ := h.files.obj k hk
  refine ⟨fun e => ?_, fun e => ?_, fun e => ?_⟩
  · subst e
    have := apart_obj h3 (show _ = _ from h.fs)
    simp at this
    obtain ⟨_, rfl, _⟩ := this
    rcases h4 with h4 | h4 | h4 <;> cases h4
  · subst e
    obtain ⟨es, c2, h5⟩ := h.dir.obj
    cases apart_obj h3 h5
  · subst e
    obtain ⟨es, c2, h5⟩ := h.safe.obj
    cases apart_obj h3 h5
/-- It is kept where its blocks are. -/
theorem FsOk.kept {w' : World} {P : Nat → Prop} (h : FsOk n0 w q dead p pl ops d s mv ld ls ml fl) (g : GP P w w') (hP : ∀ k, FsFoot q d s p mv fl k → ¬ P k) : FsOk n0 w' q dead p pl ops d s mv ld ls ml fl where
  fs := h.fs.gp g (hP q (.inl rfl))
  pc := h.pc
  pr := h.pr
  rk := own_gp h.rk g (fun k e => hP k (.inr (.inr (.inr (.inr (.inl e))))))
  rf := own_gp h.rf g (fun k e => hP k (.inr (.inr (.inr (.inr (.inr (.inl e)))))))
  ru := own_gp h.ru g (fun k e => hP k (.inr (.inr (.inr (.inr (.inr (.inr (.inl e))))))))
  dir := h.dir.gp g (hP d (.inr (.inl rfl)))
  safe := h.safe.gp g (hP s (.inr (.inr (.inl rfl))))
  mr := own_gp h.mr g (fun k e => hP k (.inr (.inr (.inr (.inl e)))))
  files := h.files.kept g (fun k hk => hP k (.inr (.inr (.inr (.inr (.inr (.inr (.inr hk))))))))
  nds := h.nds
  new := h.new
theorem FsOk.grown {w' : World} (h : FsOk n0 w q dead p pl ops d s mv ld ls ml fl) (g : w.grownBy w' none) : FsOk n0 w' q dead p pl ops d s mv ld ls ml fl :=
  h.kept (P := fun _ => False) (GP.of g (by simp)) (fun _ _ h => h)
theorem FsOk.lt (h : FsOk n0 w q dead p pl ops d s mv ld ls ml fl) : ∀ k, FsFoot q d s p mv fl k → k < w.heap.size := by
  intro k hk
  rcases hk with rfl | rfl | rfl | e | e | e | e | e
  · exact h.fs.lt
  · exact h.dir.lt
  · exact h.safe.lt
  · exact (World.ownsRow.lt h.mr k e).2
  · exact (World.ownsRow.lt h.rk k e).2
  · exact (World.ownsRow.lt h.rf k e).2
  · exact (World.ownsRow.lt h.ru k e).2
  · exact h.files.lt k e
end
end Go.Proofs.YtafcgjbafihniaaGreat

/-
  LAYER 1 (fs): Each's walk: what it gives back when its names and sizes are taken.
-/
namespace Go.Proofs.YtafcgjbafihniaaGreat
set_option maxRecDepth 100000
open Go.RowKit Go.Lib
open Go.Proofs (encStr)
attribute [local go_sem] Oper.semAt_some

/-- Between two files. -/
def EachJ (w : World) (n0 nb sb : Nat) (F : Nat → FileV) (Foot : Nat → Prop) (pre : List (List UInt8 × Nat)) (W : World) : Prop := EachI w n0 nb sb Foot (pre.map (fun x => x.1)) (pre.map (fun x => ((F x.2).data.length : Int))) W
theorem EachJ.keep {w0 : World} {n0 nb sb : Nat} {F : Nat → FileV} (h0 : w0.heap.size ≤ n0) : ∀ Foot s A B q, EachJ w0 n0 nb sb F Foot s A → A.grownBy B q → (∀ k, q = some k → n0 ≤ k ∧ ¬ Foot k) → EachJ w0 n0 nb sb F Foot s B := fun _ _ _ _ _ h g hq => EachI.keep h0 h g hq

section
variable {q : Nat} {p : PlV} {ops : Int} {d s : Nat} {mv : Value}

set_option maxHeartbeats 8000000 in
theorem each_lives (l : DirL) (F : Nat → FileV) (w : World) (h : FsAt w q false p ops d s mv) (hd : DirM w d l) (hf : ∀ x b, l.look x = some b → FileAt w b (F b) ∧ (F b).data.length ≤ 140737488355328) (hlim : l.length ≤ 3518437208881) :
    Calls Tryz.prog 50 #[.pointer (some ⟨q, 0, none⟩)] w fun e w' => ∃ nb sb v u, e = .returned (.func (.func 83) #[] #[.pointer (some ⟨nb, 0, none⟩), .pointer (some ⟨sb, 0, none⟩)]) ∧ Boxed w' nb 127 v ∧ Boxed w' sb 22 u ∧
      w'.ownsRow w.heap.size 9 1 v l.length (l.sorted.map (fun x => encStr x.1)) ∧ w'.ownsRow w.heap.size 3 1 u l.length (l.sorted.map (fun x => intV ((F x.2).data.length : Int))) ∧ w.grownBy w' none ∧ w.heap.size ≤ nb ∧ w.heap.size ≤ sb := by
  have hmade := fun W (g : w.grownBy W none) => dead_fs W (h.kept g (by simp))
  have hio := fun W => inOrder_any d W
  refine (callsIn_wide (n := 20)).1 ?_
  have hf1 : Fence.wide.fn 82 := trivial
  have hf2 : Fence.wide.fn 21 := trivial
  refine callsIn_of_wp_marks Tryz.func50 rfl trivial ?_ rfl
  simp only [Tryz.ntmps50, List.size_toArray, List.length_cons, List.length_nil, Nat.reduceAdd, Nat.reduceSub, Array.replicate_succ, Array.replicate_zero, List.push_toArray, List.append_toArray, List.nil_append, List.cons_append]
  have gA1 := World.grownBy_alloc w (.cells #[.slice none 0 0] 127) none
  have gA2 := World.grownBy_alloc (w.alloc (.cells #[.slice none 0 0] 127)) (.cells #[.slice none 0 0] 22) none
  have e1 := World.alloc_heap_new w (.cells #[.slice none 0 0] 127)
  have e2 := World.alloc_heap_new (w.alloc (.cells #[.slice none 0 0] 127)) (.cells #[.slice none 0 0] 22)
  have b1 : Boxed ((w.alloc (.cells #[.slice none 0 0] 127)).alloc (.cells #[.slice none 0 0] 22)) w.heap.size 127 (.slice none 0 0) := (gA2.block _ (by simp) (by simp)).trans e1
  obtain ⟨A2, hA2⟩ : ∃ A2, A2 = (w.alloc (.cells #[.slice none 0 0] 127)).alloc (.cells #[.slice none 0 0] 22) := ⟨_, rfl⟩
  have sA2 : A2.heap.size = w.heap.size + 2 := by rw [hA2]; simp
  have b2 : Boxed A2 (w.heap.size + 1) 22 (.slice none 0 0) := by
    have : (w.alloc (.cells #[.slice none 0 0] 127)).heap.size = w.heap.size + 1 := by simp
    rw [this] at e2
    rw [hA2]
    exact e2
  have gA := gA1.trans gA2
  rw [← hA2] at gA b1
  have hmA := hmade A2 gA
  have x8 := (h.kept gA (by simp)).dir
  clear gA1 gA2 e1 e2
  gi_wp2_with fail
  rw [← hA2]
  clear hA2
  refine (callsIn_wide.2 hmA).mono ?_
  rintro e w2 ⟨rfl, rfl⟩
  gi_wp2_with fail
  refine (callsIn_wide.2 (hio _)).mono ?_
  clear hio
  rintro e W2 ⟨p9, rfl, hp, g2, hpb⟩
  gi_wp2_with fail
  have s2 := g2.size
  have gw2 := gA.trans g2
  have hb1 := b1.kept g2 (by simp)
  have hb2 := b2.kept g2 (by simp)
  have hd2 := hd.kept gw2 (by simp)
  have hpl : p9 < W2.heap.size := lt_of_block hp
  have hdl : d < w.heap.size := hd.lt
  have hw2 : w.heap.size ≤ W2.heap.size := gw2.size
  clear b1 b2 hmA x8
  refine range_tellsZ1 (a := _) (w := W2) (α := List UInt8 × Nat) rfl (by omega) (gf := 99) (lb := #[.pointer (some ⟨p9, 0, none⟩)]) rfl trivial (enters_of Tryz.func99 (by kernel_rfl) rfl)
    (inOrder1_tells _ p9 d l W2 (by omega) hp hd2 (by omega)) (fun k hk => by rcases hk with rfl | rfl <;> omega) (fun _ => rfl) (fun _ _ _ _ _ _ h _ _ _ => h)
    (Ft (EachJ w W2.heap.size w.heap.size (w.heap.size + 1) F)) (fun _ _ _ _ => False) (fun Z s A h => by obtain ⟨_, ⟨_, h, _⟩, _⟩ := h; exact h)
    (Ft.tame (EachJ.keep hw2)) (fun c => ⟨fun _ _ _ _ _ h => h.elim, fun _ _ _ _ _ h => h.elim⟩)
    ⟨fun k => k = w.heap.size ∨ k = w.heap.size + 1, ⟨gw2, Nat.le_refl _, .inl rfl, .inr rfl, Nat.le_refl _, Nat.le_succ _, _, _, hb1, hb2, World.ownsRow_nil _ _ _ _, World.ownsRow_nil _ _ _ _, fun k e => by simp [Value.ownBlock] at e, fun k e => by simp [Value.ownBlock] at e⟩, fun k hk => ⟨fun hz => by rcases hz with rfl | rfl <;> rcases hk with h | h <;> omega, by rcases hk with h | h <;> omega⟩⟩
    ?a1 (fun _ _ _ _ h _ => h) ?assign ?body ?done ?stop
  case assign =>
    intro ll x W K hK
    dsimp only [dEnc]
    gi_wp2
    exact hK
  case body =>
    rintro ll Z pre x W hZ0 hZl ⟨Foot, hEI, hFt⟩ ⟨hpre, hx⟩ hsz
    obtain ⟨nm, b⟩ := x
    have hpl2 : pre.length < l.length := by have := (List.getElem?_eq_some_iff.1 hx).1; rw [DirL.sorted_length] at this; exact this
    obtain ⟨nm', b', hx', _, hlk, hin⟩ := DirL.sorted_at l pre.length hpl2
    rw [hx] at hx'
    cases hx'
    obtain ⟨hfa, hfl⟩ := hf nm b hlk
    obtain ⟨v, u, rV, rU⟩ : ∃ v u, W.cell? ⟨w.heap.size, 0, none⟩ = some v ∧ W.cell? ⟨w.heap.size + 1, 0, none⟩ = some u := by
      obtain ⟨_, _, _, _, _, _, v, u, h5, h6, _⟩ := hEI
      exact ⟨v, u, h5.cell, h6.cell⟩
    have gX := World.grownBy_alloc W (.cells #[encStr nm] 9) none
    have eX := World.alloc_heap_new W (.cells #[encStr nm] 9)
    obtain ⟨a8, n8, c8, w8, hrun, r8, hfr, Foot2, hE2, hFt2, hzk2⟩ := hEI.pushN (by omega) hFt hZl gX v rV nm W.heap.size (by rw [World.cell?, eX]; rfl) (by simp; omega)
    gi_wp2_with (gi_at_builtin; refine wpListIn_app_run rfl _ _ 127 rfl v _ rfl rfl hrun ?_)
    obtain ⟨W9, hW9⟩ : ∃ W9, W9 = w8.setCell ⟨w.heap.size, 0, none⟩ (.slice a8 n8 c8) := ⟨_, rfl⟩
    rw [← hW9] at hE2 hFt2 hzk2 ⊢
    clear hW9
    obtain ⟨V, hV⟩ : ∃ V, V = W9.drew := ⟨_, rfl⟩
    have gV : W9.grownBy V none := by rw [hV]; exact gdrew (World.grownBy.refl W9 none)
    have hFV : FileAt V b (F b) := hfa.kept (GP.of (P := fun _ => False) (hE2.1.trans gV) (by simp)) (fun h => h) (fun _ _ h => h)
    have hown := hFV.2.2.1
    have hc1 := hFV.c1
    obtain ⟨a3, c3, hdv⟩ : ∃ a c, (F b).dv = .slice a (F b).data.length c := rowFormS hown
    rw [hdv] at hc1
    have hZl2 : ∀ k, Z k → k < W9.heap.size := fun k hk => Nat.lt_of_lt_of_le (hZl k hk) hzk2.1
    obtain ⟨u2, rU2⟩ : ∃ u, W9.cell? ⟨w.heap.size + 1, 0, none⟩ = some u := by
      obtain ⟨_, _, _, _, _, _, v, u, h5, h6, _⟩ := hE2
      exact ⟨u, h6.cell⟩
    have rUV := gV.cell rU2 (by simp)
    have gX9 := World.grownBy_alloc V (.cells #[.int .i64 ((F b).data.length : Int)] 3) none
    have eX9 := World.alloc_heap_new V (.cells #[.int .i64 ((F b).data.length : Int)] 3)
    obtain ⟨a5, n5, c5, w5, hrun5, r5, hfr5, g5, Foot5, hE5, hFt5, hzk5⟩ := hE2.pushS (by omega) hFt2 hZl2 (gV.trans gX9) u2 rU2 ((F b).data.length : Int) V.heap.size (by rw [World.cell?, eX9]; rfl) (by simp; omega)
    apply wpIn_noPanic
    refine wpIn_region_held (S := fun V' => V'.cell? ⟨b, 1, none⟩ = some (.slice a3 (F b).data.length c3)) (by kernel_rfl) (by rw [← hV]; exact hc1) (fun hS0 => ?_)
    rw [← hV]
    clear hS0 hV
    refine wpAnyHIn_take (i := 1) (oi := ⟨some 22, _, _, _, _, _⟩) (v := ?_) rfl (by kernel_rfl) (by kernel_rfl) (by kernel_rfl) (by kernel_rfl) (fun _ _ _ h => h) (fun _ => rfl) (Or.inl ⟨by rfl, ?_⟩) (by assumption) ?_
    rotate_left
    · (intro w hSw; (try dsimp only at hSw); go_simp; try with_reducible rfl)
    try simp only [Act.put, List.setIfInBounds_toArray, List.set_cons_zero, List.set_cons_succ]
    refine wpAnyHIn_take (i := 2) (oi := ⟨some 23, _, _, _, _, _⟩) (v := ?_) rfl (by kernel_rfl) (by kernel_rfl) (by kernel_rfl) (by kernel_rfl) (fun _ _ _ h => h) (fun _ => rfl) (Or.inl ⟨by rfl, ?_⟩) (by assumption) ?_
    rotate_left
    · (intro w hSw; (try dsimp only at hSw); go_simp; try with_reducible rfl)
    try simp only [Act.put, List.setIfInBounds_toArray, List.set_cons_zero, List.set_cons_succ]
    refine wpAnyHIn_take (i := 3) (oi := ⟨some 24, _, _, _, _, _⟩) (v := ?_) rfl (by kernel_rfl) (by kernel_rfl) (by kernel_rfl) (by kernel_rfl) (fun _ _ _ h => h) (fun _ => rfl) (Or.inl ⟨by rfl, ?_⟩) (by assumption) ?_
    rotate_left
    · (intro w hSw; (try dsimp only at hSw); go_simp; try with_reducible rfl)
    try simp only [Act.put, List.setIfInBounds_toArray, List.set_cons_zero, List.set_cons_succ]
    refine wpAnyHIn_take (i := 4) (oi := ⟨some 25, _, _, _, _, _⟩) (v := ?_) rfl (by kernel_rfl) (by kernel_rfl) (by kernel_rfl) (by kernel_rfl) (fun _ _ _ h => h) (fun _ => rfl) (Or.inl ⟨by rfl, ?_⟩) (by assumption) ?_
    rotate_left
    · (intro w hSw; (try dsimp only at hSw); go_simp; try with_reducible rfl)
    try simp only [Act.put, List.setIfInBounds_toArray, List.set_cons_zero, List.set_cons_succ]
    refine wpAnyHIn_take (i := 5) (oi := ⟨some 26, _, _, _, _, _⟩) (v := ?_) rfl (by kernel_rfl) (by kernel_rfl) (by kernel_rfl) (by kernel_rfl) (fun _ _ _ h => h) (fun _ => rfl) (Or.inl ⟨by rfl, ?_⟩) (by assumption) ?_
    rotate_left
    · (intro w hSw; (try dsimp only at hSw); go_simp; try with_reducible rfl)
    try simp only [Act.put, List.setIfInBounds_toArray, List.set_cons_zero, List.set_cons_succ]
    have nub : u2.ownBlock ≠ some b := by
      obtain ⟨_, _, _, _, _, _, v, u, _, h6, _, h8, _⟩ := hE2
      have e1 : u = u2 := by have := h6.cell; rw [rU2] at this; simpa using this.symm
      rw [← e1]
      intro e
      obtain ⟨c, fr, h2⟩ := own_obj (World.ownsRow.kept h8 gV (notOwn (by simp))) _ e
      have := apart_obj h2 hFV.1
      simp at this
    have hS5 := g5.cell (gX9.cell hc1 (by simp)) (fun e => nub e.symm)
    have rU9 := gX9.cell rUV (by simp)
    have hSX := gX9.cell hc1 (by simp)
    have hS6 : (w5.setCell ⟨w.heap.size + 1, 0, none⟩ (.slice a5 n5 c5)).cell? ⟨b, 1, none⟩ = some (.slice a3 (F b).data.length c3) := by
      rw [← hdv]
      exact (hfa.kept (GP.of (P := fun _ => False) hE5.1 (by simp)) (fun h => h) (fun _ _ h => h)).c1
    refine wpAnyHIn_two (i := 0) (j := 6) (by kernel_rfl) rfl rfl (by rfl) (by rfl) (fun K hK => ?_) (fun K hK => ?_)
    · go_simp
      refine hK.out _ _ hc1 (fun _ => ?_)
      clear hK
      refine wpAnyHIn_next (i := 6) (by kernel_rfl) rfl (by rfl) (fun K hK => ?_)
      go_simp
      refine hK.out _ _ hSX (fun _ => ?_)
      clear hK
      refine wpAnyHIn_next (i := 7) (by kernel_rfl) rfl (by rfl) (fun K hK => ?_)
      refine wpIn_app_run _ _ _ rfl u2 _ rfl rfl hrun5 ?_
      refine hK.out _ _ hS5 (fun _ => ?_)
      clear hK
      refine wpAnyHIn_next (i := 8) (by kernel_rfl) rfl (by rfl) (fun K hK => ?_)
      go_simp
      refine hK.out _ _ hS6 (fun _ => ?_)
      clear hK
      refine wpAnyHIn_done (by kernel_rfl) ?_ _
      refine noPanic_normal ?_
      exact ⟨hzk2.trans hzk5, Foot5, by unfold EachJ; rw [List.map_append, List.map_append]; exact hE5, hFt5⟩
    · go_simp
      refine hK.out _ _ hSX (fun _ => ?_)
      clear hK
      refine wpAnyHIn_next (i := 0) (by kernel_rfl) rfl (by rfl) (fun K hK => ?_)
      go_simp
      refine hK.out _ _ hSX (fun _ => ?_)
      clear hK
      refine wpAnyHIn_next (i := 7) (by kernel_rfl) rfl (by rfl) (fun K hK => ?_)
      refine wpIn_app_run _ _ _ rfl u2 _ rfl rfl hrun5 ?_
      refine hK.out _ _ hS5 (fun _ => ?_)
      clear hK
      refine wpAnyHIn_next (i := 8) (by kernel_rfl) rfl (by rfl) (fun K hK => ?_)
      go_simp
      refine hK.out _ _ hS6 (fun _ => ?_)
      clear hK
      refine wpAnyHIn_done (by kernel_rfl) ?_ _
      refine noPanic_normal ?_
      exact ⟨hzk2.trans hzk5, Foot5, by unfold EachJ; rw [List.map_append, List.map_append]; exact hE5, hFt5⟩
  case done =>
    rintro D Z xs Wd W15 hD hZD _ hZl hS ⟨Foot, hTI, hFt⟩ g15 hM
    obtain rfl : xs = l.sorted := hS
    have gp := grownBy_putObj' W15 D (.deferred none)
    have hTP := EachJ.keep hw2 _ _ _ _ _ hTI gp (fun k e => by cases e; exact ⟨hD, fun hF => (hFt _ hF).1 hZD⟩)
    clear hTI hf hd hd2 hp gp g15 hb1 hb2 h
    gi_wp2_with fail
    refine ⟨by simp, .inl ⟨_, _, rfl, run_takeDeferred hM, ?_⟩⟩
    generalize W15.putObj D (.deferred none) = W19 at hTP ⊢
    obtain ⟨j1, j2, j3, j4, j5, j6, v, u, j7, j8, j9, j10, _⟩ := hTP
    simp [LeavesInM, LeavesIn, results, Tryz.results50, go_sem]
    rw [List.length_map, List.map_map, DirL.sorted_length] at j9 j10
    exact ⟨w.heap.size, w.heap.size + 1, ⟨⟨rfl, rfl⟩, v, j7, u, j8, j9, j10, j1, j5, j6⟩⟩
  case stop =>
    rintro D c Z pre W W' _ _ _ _ _ h
    exact h.elim

set_option maxHeartbeats 8000000 in
theorem each_dead (w : World) (h : FsAt w q true p ops d s mv) :
    Calls Tryz.prog 50 #[.pointer (some ⟨q, 0, none⟩)] w fun e w' => ∃ nb sb, e = .returned (.func (.func 83) #[] #[.pointer (some ⟨nb, 0, none⟩), .pointer (some ⟨sb, 0, none⟩)]) ∧ Boxed w' nb 127 (.slice none 0 0) ∧ Boxed w' sb 22 (.slice none 0 0) ∧
      w.grownBy w' none ∧ w.heap.size ≤ nb ∧ w.heap.size ≤ sb := by
  have hmade := fun W (g : w.grownBy W none) => dead_fs W (h.kept g (by simp))
  have gA1 := World.grownBy_alloc w (.cells #[.slice none 0 0] 127) none
  have gA2 := World.grownBy_alloc (w.alloc (.cells #[.slice none 0 0] 127)) (.cells #[.slice none 0 0] 22) none
  have e1 := World.alloc_heap_new w (.cells #[.slice none 0 0] 127)
  have e2 := World.alloc_heap_new (w.alloc (.cells #[.slice none 0 0] 127)) (.cells #[.slice none 0 0] 22)
  have b1 : Boxed ((w.alloc (.cells #[.slice none 0 0] 127)).alloc (.cells #[.slice none 0 0] 22)) w.heap.size 127 (.slice none 0 0) := (gA2.block _ (by simp) (by simp)).trans e1
  obtain ⟨A2, hA2⟩ : ∃ A2, A2 = (w.alloc (.cells #[.slice none 0 0] 127)).alloc (.cells #[.slice none 0 0] 22) := ⟨_, rfl⟩
  have b2 : Boxed A2 (w.heap.size + 1) 22 (.slice none 0 0) := by
    have : (w.alloc (.cells #[.slice none 0 0] 127)).heap.size = w.heap.size + 1 := by simp
    rw [this] at e2
    rw [hA2]
    exact e2
  have gA := gA1.trans gA2
  rw [← hA2] at gA b1
  have hmA := hmade A2 gA
  rw [hA2] at hmA
  clear gA1 gA2 e1 e2
  go_enter Tryz.func50, Tryz.ntmps50
  go_wp2_with (go_at_call 21; refine hmA.mono ?_; rintro e w2 ⟨rfl, rfl⟩)
  go_ret
  rw [← hA2]
  exact ⟨w.heap.size, w.heap.size + 1, by simp, b1, b2, gA, Nat.le_refl _, Nat.le_succ _⟩
end
end Go.Proofs.YtafcgjbafihniaaGreat
