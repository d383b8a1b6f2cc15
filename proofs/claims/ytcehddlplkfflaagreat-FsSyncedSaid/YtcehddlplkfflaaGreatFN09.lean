/-
  LAYER 1 (fs): Clone of a file system of which nothing is safe and in which one file was made.
-/
import Derived.Test.YtcehddlplkfflaaGreatFN08
import Derived.Test.YtcehddlplkfflaaGreatFN06
import Derived.Test.YtcehddlplkfflaaGreatFN07
import Derived.Maps.RangeWalk
import Derived.Deep.DeepCutAuto
import Derived.Deep.RegionHeld3
import Derived.Deep.QuietTactic
import Derived.BigQuiet
import Derived.Test.YtcehddlplkfflaaGreatFN01
import Derived.Test.YtcehddlplkfflaaGreatRows
import Derived.WalkKit
import Derived.WalkLawsBesides
import Derived.WalkSpells
import Derived.Laws.Strings
namespace Go.Proofs.YtcehddlplkfflaaGreat
set_option maxRecDepth 100000
open Go.RowKit Go.Lib
attribute [local go_sem] Oper.semAt_some

theorem ints_of_own {w : World} {B : Nat} {v : Value} {zs : List Int} (h : w.ownsRow B 3 1 v zs.length (zs.map intV)) : Ints w v zs := by
  have h0 := h
  obtain ⟨_, ⟨rfl, hn⟩ | ⟨g, cap, cur, rfl, hB, hg, hc, hm, hs, ht⟩⟩ := h
  · exact .inl (.inl ⟨rfl, by simpa using List.length_eq_zero_iff.1 hn⟩)
  · refine .inl (.inr ⟨g, 0, cap, by simp, by simpa using hc, hm, fun i u hu => ?_⟩)
    have hi : i < zs.length := by have := (List.getElem?_eq_some_iff.1 hu).1; simpa using this
    have := World.ownsRow.cellAt h0 i (by simpa using hi)
    rw [Nat.zero_add, this]
    exact hu

theorem DirM.fresh {W : World} {d : Nat} (h : W.heap[d]? = some (.map #[] 0)) : DirM W d [] := by
  obtain ⟨h1, h2, n, D, ⟨es, clock, hb, F, hs, hD⟩, h4⟩ := DirM.made W
  rw [World.alloc_heap_new] at hb
  simp only [Option.some.injEq, Obj.map.injEq] at hb
  obtain ⟨rfl, rfl⟩ := hb
  exact ⟨h1, h2, n, D, ⟨_, _, h, F, hs, hD⟩, h4⟩

/-- A range over an empty directory. -/
theorem range_empty {W : World} {s : Nat} (h : DirM W s []) : ∃ W', (Instr.range 67 (.map (some s))).run Tryz.prog W = .ok (.pointer (some ⟨W.heap.size, 0, none⟩)) W' ∧ (∀ ty, (Instr.next (.pointer (some ⟨W.heap.size, 0, none⟩)) false ty).run Tryz.prog W' = .ok (.tuple #[.bool false]) W') ∧ W.grownBy W' none ∧ W'.heap.size = W.heap.size + 1 := by
  obtain ⟨D, h3, h4, h5, h6⟩ := h.size
  obtain ⟨W', h7, h8, h9, h10⟩ := h3.range keyed_str Tryz.underlying67
  refine ⟨W', h7, fun ty => ?_, h9, h10⟩
  rcases h8.next keyed_str ty with ⟨_, _, hr⟩ | ⟨key, v, kl, y, w2, c2, q1, q2, q3, q4, q5, q6, q7, _⟩
  · exact hr
  · rw [h4] at q7
    simp at q7

theorem own_other {W : World} {B e s n p : Nat} {v : Value} {xs : List Value} {o : Obj} (h : W.ownsRow B e s v n xs) (ho : W.heap[p]? = some o) (hne : ∀ c fr, o ≠ .cells c e fr) : v.ownBlock ≠ some p := by
  obtain ⟨_, ⟨rfl, _⟩ | ⟨g, cap, cur, rfl, _, hg, _⟩⟩ := h
  · simp [Value.ownBlock]
  · intro e2
    simp only [Value.ownBlock, Option.some.injEq] at e2
    subst e2
    rw [ho] at hg
    simp only [Option.some.injEq] at hg
    exact hne _ _ hg
theorem grown_gp {P : Nat → Prop} {w a b : World} (h : w.grownBy a none) (g : GP P a b) (hP : ∀ k, P k → w.heap.size ≤ k) : w.grownBy b none :=
  ⟨g.os.trans h.os, g.tape.trans h.tape, g.output.trans h.output, Nat.le_trans h.size g.size, fun k hk _ => (g.block k (Nat.lt_of_lt_of_le hk h.size) (fun e => by have := hP k e; omega)).trans (h.block k hk (by simp))⟩
theorem own_gp {A B : World} {P : Nat → Prop} {e b s n : Nat} {v : Value} {xs : List Value} (h : A.ownsRow b e s v n xs) (g : GP P A B) (hv : ∀ k, v.ownBlock = some k → ¬ P k) : B.ownsRow b e s v n xs := by
  obtain ⟨q1, q2 | ⟨gg, cap, cur, rfl, q4, q5, q6⟩⟩ := h
  · exact ⟨q1, .inl q2⟩
  · exact ⟨q1, .inr ⟨gg, cap, cur, rfl, q4, (g.block gg (lt_of_block q5) (hv gg rfl)).trans q5, q6⟩⟩
theorem DirM.gp {A B : World} {P : Nat → Prop} {d : Nat} {l : DirL} (h : DirM A d l) (g : GP P A B) (hd : ¬ P d) : DirM B d l := by
  obtain ⟨h1, h2, n, D, ⟨es, clock, hb, hF, hs, hD⟩, h4⟩ := h
  exact ⟨h1, h2, n, D, ⟨es, clock, (g.block d (lt_of_block hb) hd).trans hb, hF, hs, hD⟩, h4⟩
theorem FileAt.lt_blocks {w : World} {b : Nat} {f : FileV} (h : FileAt w b f) : ∀ k ∈ f.blocks, k < w.heap.size := by
  intro k hk
  rcases FileV.mem hk with e | e | e
  · exact (Owns.lt h.2.1 k e).2
  · exact (Owns.lt h.2.2.1 k e).2
  · exact (World.ownsRow.lt h.2.2.2.1 k e).2

/-- A clone in which one file was made and nothing is safe. -/
def ClonedOne (w : World) (p : PlV) (ops : Int) (keep fail full : List Int) (nm : ByteArray) (f : FileV) (gq gd gs : Nat) (k' f' u' : Value) (w' : World) : Prop := ∃ mv' b' f2, FsAt w' gq false ⟨p.c, k', f', u', p.r⟩ ops gd gs mv' ∧ DirM w' gd [(nm.data.toList, b')] ∧ DirM w' gs [] ∧
      w'.ownsRow 0 108 3 mv' 1 (mvCells [⟨⟨#[]⟩, nm, some b'⟩]) ∧ FileAt w' b' f2 ∧ f2.safe = f.safe ∧ f2.data = f.data ∧ f2.chg = f.chg ∧ gd ≠ gq ∧ gs ≠ gq ∧ gd ≠ gs ∧ (∀ k, mv'.ownBlock = some k → w.heap.size ≤ k ∧ k ≠ gq ∧ k ≠ gd ∧ k ≠ gs ∧ k ≠ b' ∧ k ∉ f2.blocks) ∧ (∀ k, k = gq ∨ k = gd ∨ k = gs ∨ k = b' ∨ k ∈ f2.blocks → w.heap.size ≤ k) ∧ (∀ k, k = gq ∨ k = gd ∨ k = gs → k ≠ b' ∧ k ∉ f2.blocks) ∧
      w'.ownsRow w.heap.size 3 1 k' keep.length (keep.map intV) ∧ w'.ownsRow w.heap.size 3 1 f' fail.length ((inOrd fail).map intV) ∧ w'.ownsRow w.heap.size 3 1 u' full.length ((inOrd full).map intV) ∧
      (∀ v, v = k' ∨ v = f' ∨ v = u' → ∀ k, v.ownBlock = some k → k ≠ gq ∧ k ≠ gd ∧ k ≠ gs ∧ k ≠ b' ∧ k ∉ f2.blocks) ∧ w.grownBy w' none

section
variable {w : World} {q : Nat} {p : PlV} {ops : Int} {d s : Nat} {mv : Value}
set_option maxHeartbeats 8000000 in
theorem clone_one (keep fail full : List Int) (nm : ByteArray) (b : Nat) (f : FileV) (w : World) (h : FsAt w q false p ops d s mv) (hk : w.ownsRow 0 3 1 p.k keep.length (keep.map intV)) (hf : w.ownsRow 0 3 1 p.f fail.length (fail.map intV)) (hu : w.ownsRow 0 3 1 p.u full.length (full.map intV))
    (lk : keep.length * 8 ≤ 140737488351232) (lf : fail.length * 8 ≤ 140737488351232) (lu : full.length * 8 ≤ 140737488351232) (hs : DirM w s []) (hr : w.ownsRow 0 108 3 mv 1 (mvCells [⟨⟨#[]⟩, nm, some b⟩])) (hF : FileAt w b f) (hs1 : f.safe.length ≤ 140737488355328) (hd1 : f.data.length ≤ 140737488355328) (hn1 : f.chg.length < 8796093022207)
    (hnm : nm.size ≠ 0) (hnm2 : nm.size ≤ maxLen) :
    Calls Tryz.prog 28 #[.pointer (some ⟨q, 0, none⟩)] w fun e w' => ∃ gq gd gs k' f' u', e = .returned (.pointer (some ⟨gq, 0, none⟩)) ∧ ClonedOne w p ops keep fail full nm f gq gd gs k' f' u' w' := by
  have hmade := fun W h => isMade_fs (q := q) (dead := false) (p := p) (ops := ops) (d := d) (s := s) (mv := mv) W h
  have x2 := h.crash
  have x3 := h.keep
  have x4 := h.fail
  have x5 := h.full
  have x6 := h.room
  obtain ⟨ka, kc, hkv⟩ := rowForm hk
  obtain ⟨fa, fc, hfv⟩ := rowForm hf
  obtain ⟨ua, uc, huv⟩ := rowForm hu
  have hnew := new_any p.k p.f p.u ⟨p.c, keep, fail, full, p.r⟩ w (ints_of_own hk) (ints_of_own hf) (ints_of_own hu) lk lf lu
  dsimp only at hnew
  rw [hkv, hfv, huv] at hnew
  rw [hkv] at x3
  rw [hfv] at x4
  rw [huv] at x5
  have hm1 := hmade w h
  go_enter Tryz.func28, Tryz.ntmps28
  go_wp2_with first
    | (go_at_call 53; refine hm1.mono ?_; rintro e w2 ⟨rfl, rfl⟩)
    | (go_at_call 11; refine hnew.mono ?_; clear hnew; rintro e w1 ⟨gq, gd, gs, k', f', u', rfl, n1, n2, n3, n4, n5, n6, n7, n8, n9, n10, g1⟩; have y1 := (h.kept g1 (by simp)).isDead; have y2 := n1.isDead; have y3 := n1.free 1; have y4 := n1.setDead false)
  obtain ⟨W3, hW3⟩ : ∃ W3, W3 = w1.setCell ⟨gq, 1, none⟩ (.bool false) := ⟨_, rfl⟩
  have g3 : w1.grownBy W3 (some gq) := by rw [hW3]; exact gset (World.grownBy.refl w1 (some gq)) 1 (.bool false)
  rw [← hW3] at y4 ⊢
  clear hW3 y1 y2 y3
  have hql := h.lt
  have gd1 := lt_of_block n2
  have gs1 := lt_of_block n3
  have gq1 := n1.lt
  have w1s := g1.size
  have ndq : gd ≠ gq := fun e => by
    have e1 : w1.heap[gq]? = _ := n1
    rw [← e, n2] at e1
    cases e1
  have nsq : gs ≠ gq := fun e => by
    have e1 : w1.heap[gq]? = _ := n1
    rw [← e, n3] at e1
    cases e1
  have w13 : w.grownBy W3 none := gnew g1 g3 (fun k e => by cases e; exact .inl n5)
  have gV := gdrew (World.grownBy.refl W3 none)
  obtain ⟨V, hV⟩ : ∃ V, V = W3.drew := ⟨_, rfl⟩
  have hL := h.kept (w13.trans gV) (by simp)
  have hG := y4.kept gV (by simp)
  refine wp_region_held_drew (S := fun _ => True) (by kernel_rfl) trivial (fun hS0 => ?_)
  rw [← hV] at gV hL hG ⊢
  clear hV
  have hld := load_fs V hL
  have hst := store_fs ops V hG
  refine wpAnyH_take (i := 0) (oi := ⟨some 24, _, _, _, _, _⟩) (v := ?_) rfl (by kernel_rfl) (by kernel_rfl) (by kernel_rfl) (fun _ _ _ h => h) (Or.inl ⟨by rfl, ?_⟩) (by assumption) ?_
  rotate_left
  · (intro w hSw; (try dsimp only at hSw); go_simp; try with_reducible rfl)
  try simp only [Act.put, List.setIfInBounds_toArray, List.set_cons_zero, List.set_cons_succ]
  refine wpAnyH_take (i := 1) (oi := ⟨some 25, _, _, _, _, _⟩) (v := ?_) rfl (by kernel_rfl) (by kernel_rfl) (by kernel_rfl) (fun _ _ _ h => h) (Or.inl ⟨by rfl, ?_⟩) (by assumption) ?_
  rotate_left
  · (intro w hSw; (try dsimp only at hSw); go_simp; try with_reducible rfl)
  try simp only [Act.put, List.setIfInBounds_toArray, List.set_cons_zero, List.set_cons_succ]
  refine wpAnyH_take (i := 2) (oi := ⟨some 26, _, _, _, _, _⟩) (v := ?_) rfl (by kernel_rfl) (by kernel_rfl) (by kernel_rfl) (fun _ _ _ h => h) (Or.inl ⟨by rfl, ?_⟩) (by assumption) ?_
  rotate_left
  · (intro w hSw; (try dsimp only at hSw); go_simp; try with_reducible rfl)
  try simp only [Act.put, List.setIfInBounds_toArray, List.set_cons_zero, List.set_cons_succ]
  refine wpAnyH_take (i := 3) (oi := ⟨some 27, _, _, _, _, _⟩) (v := ?_) rfl (by kernel_rfl) (by kernel_rfl) (by kernel_rfl) (fun _ _ _ h => h) (Or.inl ⟨by rfl, ?_⟩) (by assumption) ?_
  rotate_left
  · (intro w hSw; (try dsimp only at hSw); go_simp; try with_reducible rfl)
  try simp only [Act.put, List.setIfInBounds_toArray, List.set_cons_zero, List.set_cons_succ]
  refine wpAnyH_take (i := 4) (oi := ⟨some 28, _, _, _, _, _⟩) (v := ?_) rfl (by kernel_rfl) (by kernel_rfl) (by kernel_rfl) (fun _ _ _ h => h) (Or.inl ⟨by rfl, ?_⟩) (by assumption) ?_
  rotate_left
  · (intro w hSw; (try dsimp only at hSw); go_simp; try with_reducible rfl)
  try simp only [Act.put, List.setIfInBounds_toArray, List.set_cons_zero, List.set_cons_succ]
  refine wpAnyH_take (i := 5) (oi := ⟨some 29, _, _, _, _, _⟩) (v := ?_) rfl (by kernel_rfl) (by kernel_rfl) (by kernel_rfl) (fun _ _ _ h => h) (Or.inl ⟨by rfl, ?_⟩) (by assumption) ?_
  rotate_left
  · (intro w hSw; (try dsimp only at hSw); go_simp; try with_reducible rfl)
  try simp only [Act.put, List.setIfInBounds_toArray, List.set_cons_zero, List.set_cons_succ]
  refine wpAnyH_ready (rs := [6]) (by kernel_rfl) (by simp) ?_
  refine AllReadyH.cons rfl (fun K hK => ?_) AllReadyH.nil
  go_simp
  refine hld.mono ?_
  rintro e w2 ⟨rfl, rfl⟩
  refine hK.out _ _ trivial (fun _ => ?_)
  clear hK
  refine wpAnyH_ready (rs := [7]) (by kernel_rfl) (by simp) ?_
  refine AllReadyH.cons rfl (fun K hK => ?_) AllReadyH.nil
  go_simp
  refine hst.mono ?_
  rintro e W5 ⟨rfl, hW5⟩
  have hG5 := hG.setOps ops
  have g5 := gset (World.grownBy.refl V (some gq)) 7 (.int .i64 ops)
  rw [← hW5] at hG5 g5
  clear hW5 hst hld
  refine hK.out _ _ trivial (fun _ => ?_)
  clear hK
  refine wpAnyH_done (by kernel_rfl) ?_ _
  have w15 : w.grownBy W5 none := gnew (w13.trans gV) g5 (fun k e => by cases e; exact .inl n5)
  have hL5 := h.kept w15 (by simp)
  have y9 := hL5.safe
  obtain ⟨W6, r1, r2, r3, r4⟩ := range_empty (hs.kept w15 (by simp))
  replace r4 := Lib.hid r4
  have hL6 := hL5.kept r3 (by simp)
  have y10 := hL6.moves
  obtain ⟨ma, mc, hmv⟩ := rowForm hr
  rw [hmv] at y10
  have hD5 : DirM W5 gd [] := DirM.fresh ((g5.block gd (by have := g3.size; have := gV.size; omega) (by simp; exact ndq)).trans ((gV.block gd (by have := g3.size; omega) (by simp)).trans ((g3.block gd gd1 (by simp; exact ndq)).trans n2)))
  have hS5 : DirM W5 gs [] := DirM.fresh ((g5.block gs (by have := g3.size; have := gV.size; omega) (by simp; exact nsq)).trans ((gV.block gs (by have := g3.size; omega) (by simp)).trans ((g3.block gs gs1 (by simp; exact nsq)).trans n3)))
  go_wp2_with fail
  go_loopw [4, 5, 6] (fun _ _ _ wr => Hid (wr = W6)) (fun _ _ _ _ => 0)
  case atStart => exact Lib.hid rfl
  case round =>
    obtain rfl := hrel.out
    clear hrel
    go_wp2_with fail
    have w16 : w.grownBy wr none := w15.trans r3
    obtain ⟨mg, rfl, c0, c1, c2⟩ : ∃ mg, ma = some ⟨mg, 0, none⟩ ∧ wr.cell? ⟨mg, 0, none⟩ = some (.string ⟨#[]⟩) ∧ wr.cell? ⟨mg, 1, none⟩ = some (.string nm) ∧ wr.cell? ⟨mg, 2, none⟩ = some (.pointer (some ⟨b, 0, none⟩)) := by
      have hr6 := World.ownsRow.kept hr w16 (by cases mv.ownBlock <;> simp)
      rw [hmv] at hr6
      have hr7 := hr6
      obtain ⟨_, ⟨e, hz⟩ | ⟨g9, cap, cur, e, _⟩⟩ := hr6
      · cases hz
      · simp at e
        obtain ⟨rfl, rfl⟩ := e
        exact ⟨g9, rfl, World.ownsRow.cellAt hr7 0 (by omega), World.ownsRow.cellAt hr7 1 (by omega), World.ownsRow.cellAt hr7 2 (by omega)⟩
    have hG6 := hG5.kept r3 (by simp)
    have hD6 := hD5.kept r3 (by simp)
    have hS6 := hS5.kept r3 (by simp)
    have hfc := fun W (g : wr.grownBy W none) => fileClone_any b f W (hF.kept (P := fun _ => False) (GP.of (w16.trans g) (by simp)) (fun h => h) (fun _ _ h => h)) hs1 hd1 hn1
    have gx := World.grownBy_alloc wr (.cells #[.string ⟨#[]⟩, .string nm, .pointer (some ⟨b, 0, none⟩)] 108) none
    have ex := World.alloc_heap_new wr (.cells #[.string ⟨#[]⟩, .string nm, .pointer (some ⟨b, 0, none⟩)] 108)
    obtain ⟨W7, hW7⟩ : ∃ W7, W7 = wr.alloc (.cells #[.string ⟨#[]⟩, .string nm, .pointer (some ⟨b, 0, none⟩)] 108) := ⟨_, rfl⟩
    rw [← hW7] at gx ex
    have s7 : W7.heap.size = wr.heap.size + 1 := by rw [hW7]; simp
    have hM7 : MvAt W7 wr.heap.size ⟨⟨#[]⟩, nm, some b⟩ := ex
    have z0 := hM7.c0
    have z1 := hM7.c1
    have z2 := hM7.c2
    unfold ptrV at z2
    dsimp only at z0 z1 z2
    have hf7 := hfc W7 gx
    go_loopw [8, 61] (fun _ va wr' => va = .int .i64 0 ∧ Hid (wr' = wr) ∨ va = .int .i64 1 ∧ Hid (ClonedOne w p ops keep fail full nm f gq gd gs k' f' u' wr')) (fun _ va _ => 1 - (RowKit.intOf va).toNat)
    case atStart => exact .inl ⟨rfl, Lib.hid rfl⟩
    case round =>
      rcases hrel with ⟨rfl, hq⟩ | ⟨rfl, hq⟩
      · obtain rfl := hq.out
        go_wp2_with fail
        rw [← hW7]
        clear hW7
        have hG7 := hG6.kept gx (by simp)
        have hD7 := hD6.kept gx (by simp)
        have hS7 := hS6.kept gx (by simp)
        have xG := hG6.lt
        have xD := hD6.lt
        have xS := hS6.lt
        go_wp2_with first
          | (go_at_call 65; refine hf7.mono ?_; clear hf7; rintro e w8 ⟨b', f2, rfl, q1, q2, q3, q4, q5, q6, q7⟩; have hM8 := hM7.kept q7 (by simp); have u2 := hM8.c2; unfold ptrV at u2; dsimp only at u2; have v2 : w8.frozen? ⟨wr.heap.size, 2, none⟩ = false := by simp [World.frozen?, show _ = _ from hM8]
             have hM9 : MvAt (w8.setCell ⟨wr.heap.size, 2, none⟩ (.pointer (some ⟨b', 0, none⟩))) wr.heap.size ⟨⟨#[]⟩, nm, some b'⟩ := heap_setCell_same w8 wr.heap.size 2 _ _ _ hM8
             have a0 := hM9.c0
             have a1 := hM9.c1
             have a2 := hM9.c2
             unfold ptrV at a2
             dsimp only at a0 a1 a2
             have gs9 := gset (World.grownBy.refl w8 (some wr.heap.size)) 2 (.pointer (some ⟨b', 0, none⟩))
             have hG9 := (hG7.kept q7 (by simp)).kept gs9 (by simp; omega)
             have hD9 := (hD7.kept q7 (by simp)).kept gs9 (by simp; omega)
             have hmv9 := move_any ⟨⟨#[]⟩, nm, some b'⟩ [] [] _ hG9 hD9 (World.ownsRow_nil _ _ _ _) ⟨Nat.zero_le _, hnm2, hnm⟩ (by unfold maxLen; simp) (by simp) ndq (by simp [Value.ownBlock]) (by simp [Value.ownBlock])
             dsimp only [Mv.v, ptrV] at hmv9
             replace hG9 := Lib.hid hG9
             replace hD9 := Lib.hid hD9
             replace gs9 := Lib.hid gs9
             replace q1 := Lib.hid q1
             replace q5 := Lib.hid q5
             replace q6 := Lib.hid q6
             replace q7 := Lib.hid q7)
          | (go_at_call 66; refine hmv9.mono ?_; clear hmv9; rintro e w10 ⟨rfl, mv', p1, p2, p3, p4, p5⟩)
        have q1 := q1.out
        have q5 := q5.out
        have q6 := q6.out
        have q7 := q7.out
        have gs9 := gs9.out
        have s8 := q7.size
        have s9 : (w8.setCell ⟨wr.heap.size, 2, none⟩ (.pointer (some ⟨b', 0, none⟩))).heap.size = w8.heap.size := by simp [World.setCell]
        have wwr := w16.size
        have hnone : (Value.slice none 0 0).ownBlock = none := rfl
        have bl8 := q1.lt
        have fl8 := q1.lt_blocks
        have f9 : FileAt (w8.setCell ⟨wr.heap.size, 2, none⟩ (.pointer (some ⟨b', 0, none⟩))) b' f2 := q1.kept (P := fun k => k = wr.heap.size) (GP.of gs9 (fun k e => by cases e; rfl)) (by omega) (fun k hk e => by have := q6 k hk; omega)
        have f10 : FileAt w10 b' f2 := f9.kept p5 (by rw [hnone]; rintro (e | e | e); omega; omega; cases e) (fun k hk => by have := q6 k hk; rw [hnone]; rintro (e | e | e); omega; omega; cases e)
        have d10 : DirM w10 gs [] := ((hS7.kept q7 (by simp)).kept gs9 (by simp; omega)).gp p5 (by rw [hnone]; rintro (e | e | e); exact nsq e; exact n4 e.symm; cases e)
        have wg9 : w.grownBy (w8.setCell ⟨wr.heap.size, 2, none⟩ (.pointer (some ⟨b', 0, none⟩))) none := gnew ((w16.trans gx).trans q7) gs9 (fun k e => by cases e; exact .inl wwr)
        have wg10 : w.grownBy w10 none := grown_gp wg9 p5 (by rw [hnone]; rintro k (e | e | e); omega; omega; cases e)
        have mvb : ∀ k, mv'.ownBlock = some k → w8.heap.size ≤ k := fun k e => by
          rcases p4 with h | ⟨k2, h, hk2⟩
          · rw [e, hnone] at h; cases h
          · rw [e] at h; cases h; omega
        have rowk : ∀ {v : Value} {n : Nat} {xs : List Value}, w1.ownsRow w.heap.size 3 1 v n xs → w10.ownsRow w.heap.size 3 1 v n xs ∧ ∀ k, v.ownBlock = some k → k ≠ gq ∧ k ≠ gd ∧ k ≠ gs ∧ k ≠ b' ∧ k ∉ f2.blocks := by
          intro v n xs hv
          have e1 : v.ownBlock ≠ some gq := own_other hv n1 (fun c fr e => by cases e)
          have e2 : v.ownBlock ≠ some gd := own_other hv n2 (fun c fr e => by cases e)
          have e3 : v.ownBlock ≠ some gs := own_other hv n3 (fun c fr e => by cases e)
          have hlt := World.ownsRow.lt hv
          have g3s := g3.size
          have gVs := gV.size
          have g5s := g5.size
          have r3s := r3.size
          have nn : ∀ v : Value, v.ownBlock = none ∨ v.ownBlock ≠ none := fun v => by cases v.ownBlock <;> simp
          have hh := World.ownsRow.kept (World.ownsRow.kept (World.ownsRow.kept (World.ownsRow.kept (World.ownsRow.kept (World.ownsRow.kept hv g3 (.inr e1)) gV (nn v)) g5 (.inr e1)) r3 (nn v)) gx (nn v)) q7 (nn v)
          have hh2 := World.ownsRow.kept hh gs9 (.inr (fun e => by have := (hlt _ e).2; omega))
          refine ⟨own_gp hh2 p5 (fun k e => by rw [hnone]; rintro (h | h | h); exact e1 (by rw [← h]; exact e); exact e2 (by rw [← h]; exact e); cases h), fun k e => ⟨fun h => e1 (by rw [← h]; exact e), fun h => e2 (by rw [← h]; exact e), fun h => e3 (by rw [← h]; exact e), by have := (hlt k e).2; omega, fun h => by have := q6 k h; have := (hlt k e).2; omega⟩⟩
        have rk := rowk n8
        have rf := rowk n9
        have ru := rowk n10
        refine ⟨.inr ⟨rfl, Lib.hid ⟨mv', b', f2, p1, p2, d10, p3, f10, q2, q3, q4, ndq, nsq, n4, fun k e => ?_, fun k e => ?_, fun k e => ?_, rk.1, rf.1, ru.1, fun v hv => ?_, wg10⟩⟩, by simp [RowKit.intOf]⟩
        · have := mvb k e
          exact ⟨by omega, by omega, by omega, by omega, by omega, fun h => by have := fl8 k h; omega⟩
        · rcases e with e | e | e | e | e
          · omega
          · omega
          · omega
          · omega
          · have := q6 k e; omega
        · rcases e with e | e | e
          · exact ⟨by omega, fun h => by have := q6 k h; omega⟩
          · exact ⟨by omega, fun h => by have := q6 k h; omega⟩
          · exact ⟨by omega, fun h => by have := q6 k h; omega⟩
        · rcases hv with rfl | rfl | rfl
          · exact rk.2
          · exact rf.2
          · exact ru.2
      · clear hf7 hfc
        go_wp2_with fail
        go_ret
        exact ⟨_, _, _, _, _, _, rfl, hq.out⟩
end
end Go.Proofs.YtcehddlplkfflaaGreat

/-
  LAYER 1 (fs): a whole file system in memory; its blocks are apart by their kinds.
-/
namespace Go.Proofs.YtcehddlplkfflaaGreat
set_option maxRecDepth 100000
open Go.RowKit Go.Lib
open Go.Proofs (encStr)

/-- A file system in memory, all of it in blocks from n0 on. -/
structure FsOk (n0 : Nat → Prop) (w : World) (q : Nat) (dead : Bool) (p : PlV) (pl : Pl) (ops : Int) (d s : Nat) (mv : Value) (ld ls : DirL) (ml : List Mv) (fl : List (Nat × FileV)) : Prop where
  fs : FsAt w q dead p ops d s mv
  pc : p.c = pl.crash
  pr : p.r = pl.room
  rk : w.ownsRow 0 3 1 p.k pl.keep.length (pl.keep.map intV)
  rf : w.ownsRow 0 3 1 p.f pl.fail.length ((inOrd pl.fail).map intV)
  ru : w.ownsRow 0 3 1 p.u pl.full.length ((inOrd pl.full).map intV)
  dir : DirM w d ld
  safe : DirM w s ls
  mr : w.ownsRow 0 108 3 mv ml.length (mvCells ml)
  files : FilesM w fl
  nds : d ≠ s
  new : ∀ k, k = q ∨ k = d ∨ k = s ∨ mv.ownBlock = some k ∨ p.k.ownBlock = some k ∨ p.f.ownBlock = some k ∨ p.u.ownBlock = some k ∨ k ∈ filesBlocks fl → n0 k

def FsFoot (q d s : Nat) (p : PlV) (mv : Value) (fl : List (Nat × FileV)) (k : Nat) : Prop := k = q ∨ k = d ∨ k = s ∨ mv.ownBlock = some k ∨ p.k.ownBlock = some k ∨ p.f.ownBlock = some k ∨ p.u.ownBlock = some k ∨ k ∈ filesBlocks fl

theorem DirM.obj {w : World} {d : Nat} {l : DirL} (h : DirM w d l) : ∃ es c, w.heap[d]? = some (.map es c) := by
  obtain ⟨_, _, n, D, ⟨es, clock, hb, _⟩, _⟩ := h
  exact ⟨es, clock, hb⟩
theorem own_obj {w : World} {B e s n : Nat} {v : Value} {xs : List Value} (h : w.ownsRow B e s v n xs) : ∀ k, v.ownBlock = some k → ∃ c fr, w.heap[k]? = some (.cells c e fr) := by
  intro k hk
  obtain ⟨_, ⟨rfl, _⟩ | ⟨g, cap, cur, rfl, _, hg, _⟩⟩ := h
  · simp [Value.ownBlock] at hk
  · simp only [Value.ownBlock, Option.some.injEq] at hk
    subst hk
    exact ⟨_, _, hg⟩
theorem FilesM.obj {w : World} {fl : List (Nat × FileV)} (h : FilesM w fl) : ∀ k ∈ filesBlocks fl, ∃ c e fr, w.heap[k]? = some (.cells c e fr) ∧ (e = 94 ∨ e = 5 ∨ e = 138) := by
  intro k hk
  obtain ⟨x, hx, e | e⟩ := mem_filesBlocks.1 hk
  · rw [e]
    exact ⟨_, _, _, (h.1 x hx).1, .inl rfl⟩
  · have hf := h.1 x hx
    rcases FileV.mem e with e | e | e
    · obtain ⟨c, fr, h2⟩ := own_obj hf.2.1 k e
      exact ⟨c, _, fr, h2, .inr (.inl rfl)⟩
    · obtain ⟨c, fr, h2⟩ := own_obj hf.2.2.1 k e
      exact ⟨c, _, fr, h2, .inr (.inl rfl)⟩
    · obtain ⟨c, fr, h2⟩ := own_obj hf.2.2.2.1 k e
      exact ⟨c, _, fr, h2, .inr (.inr rfl)⟩
/-- Blocks of unlike kinds are apart. -/
theorem apart_obj {w : World} {k : Nat} {o o' : Obj} (h : w.heap[k]? = some o) (h' : w.heap[k]? = some o') : o = o' := by
  rw [h] at h'
  simpa using h'

section
variable {n0 : Nat → Prop} {w : World} {q : Nat} {dead : Bool} {p : PlV} {pl : Pl} {ops : Int} {d s : Nat} {mv : Value} {ld ls : DirL} {ml : List Mv} {fl : List (Nat × FileV)}
theorem FsOk.ndq (h : FsOk n0 w q dead p pl ops d s mv ld ls ml fl) : d ≠ q := by
  rintro rfl
  obtain ⟨es, c, h2⟩ := h.dir.obj
  cases apart_obj h2 (show _ = _ from h.fs)
theorem FsOk.nsq (h : FsOk n0 w q dead p pl ops d s mv ld ls ml fl) : s ≠ q := by
  rintro rfl
  obtain ⟨es, c, h2⟩ := h.safe.obj
  cases apart_obj h2 (show _ = _ from h.fs)
theorem FsOk.row_fs (h : FsOk n0 w q dead p pl ops d s mv ld ls ml fl) {B e z n : Nat} {v : Value} {xs : List Value} (hv : w.ownsRow B e z v n xs) (he : e ≠ 75) : v.ownBlock ≠ some q ∧ v.ownBlock ≠ some d ∧ v.ownBlock ≠ some s := by
  refine ⟨fun e2 => ?_, fun e2 => ?_, fun e2 => ?_⟩
  · obtain ⟨c, fr, h2⟩ := own_obj hv _ e2
    have := apart_obj h2 (show _ = _ from h.fs)
    simp at this
    exact he this.2.1
  · obtain ⟨c, fr, h2⟩ := own_obj hv _ e2
    obtain ⟨es, c2, h3⟩ := h.dir.obj
    cases apart_obj h2 h3
  · obtain ⟨c, fr, h2⟩ := own_obj hv _ e2
    obtain ⟨es, c2, h3⟩ := h.safe.obj
    cases apart_obj h2 h3
theorem FsOk.row_files (h : FsOk n0 w q dead p pl ops d s mv ld ls ml fl) {B e z n : Nat} {v : Value} {xs : List Value} (hv : w.ownsRow B e z v n xs) (he : e ≠ 94 ∧ e ≠ 5 ∧ e ≠ 138) : ∀ k ∈ filesBlocks fl, v.ownBlock ≠ some k := by
  intro k hk e2
  obtain ⟨c, fr, h2⟩ := own_obj hv _ e2
  obtain ⟨c3, e3, fr3, h3, h4⟩ := h.files.obj k hk
  have := apart_obj h2 h3
  simp at this
  obtain ⟨_, rfl, _⟩ := this
  rcases h4 with rfl | rfl | rfl
  · exact he.1 rfl
  · exact he.2.1 rfl
  · exact he.2.2 rfl
theorem FsOk.fb (h : FsOk n0 w q dead p pl ops d s mv ld ls ml fl) : ∀ k ∈ filesBlocks fl, k ≠ q ∧ k ≠ d ∧ k ≠ s := by
  intro k hk
  obtain ⟨c3, e3, fr3, h3, h4⟩ := h.files.obj k hk
  refine ⟨fun e => ?_, fun e => ?_, fun e => ?_⟩
  · subst e
    have := apart_obj h3 (show _ = _ from h.fs)
    simp at this
    obtain ⟨_, rfl, _⟩ := this
    rcases h4 with h4 | h4 | h4 <;> cases h4
  · subst e
    obtain ⟨es, c2, h5⟩ := h.dir.obj
    cases apart_obj h3 h5
  · subst e
    obtain ⟨es, c2, h5⟩ := h.safe.obj
    cases apart_obj h3 h5
/-- It is kept where its blocks are. -/
theorem FsOk.kept {w' : World} {P : Nat → Prop} (h : FsOk n0 w q dead p pl ops d s mv ld ls ml fl) (g : GP P w w') (hP : ∀ k, FsFoot q d s p mv fl k → ¬ P k) : FsOk n0 w' q dead p pl ops d s mv ld ls ml fl where
  fs := h.fs.gp g (hP q (.inl rfl))
  pc := h.pc
  pr := h.pr
  rk := own_gp h.rk g (fun k e => hP k (.inr (.inr (.inr (.inr (.inl e))))))
  rf := own_gp h.rf g (fun k e => hP k (.inr (.inr (.inr (.inr (.inr (.inl e)))))))
  ru := own_gp h.ru g (fun k e => hP k (.inr (.inr (.inr (.inr (.inr (.inr (.inl e))))))))
  dir := h.dir.gp g (hP d (.inr (.inl rfl)))
  safe := h.safe.gp g (hP s (.inr (.inr (.inl rfl))))
  mr := own_gp h.mr g (fun k e => hP k (.inr (.inr (.inr (.inl e)))))
  files := h.files.kept g (fun k hk => hP k (.inr (.inr (.inr (.inr (.inr (.inr (.inr hk))))))))
  nds := h.nds
  new := h.new
theorem FsOk.grown {w' : World} (h : FsOk n0 w q dead p pl ops d s mv ld ls ml fl) (g : w.grownBy w' none) : FsOk n0 w' q dead p pl ops d s mv ld ls ml fl :=
  h.kept (P := fun _ => False) (GP.of g (by simp)) (fun _ _ h => h)
theorem FsOk.lt (h : FsOk n0 w q dead p pl ops d s mv ld ls ml fl) : ∀ k, FsFoot q d s p mv fl k → k < w.heap.size := by
  intro k hk
  rcases hk with rfl | rfl | rfl | e | e | e | e | e
  · exact h.fs.lt
  · exact h.dir.lt
  · exact h.safe.lt
  · exact (World.ownsRow.lt h.mr k e).2
  · exact (World.ownsRow.lt h.rk k e).2
  · exact (World.ownsRow.lt h.rf k e).2
  · exact (World.ownsRow.lt h.ru k e).2
  · exact h.files.lt k e
end
end Go.Proofs.YtcehddlplkfflaaGreat

/-
  LAYER 1 (fs): isFull.
-/
namespace Go.Proofs.YtcehddlplkfflaaGreat
set_option maxRecDepth 100000
open Go.RowKit Go.Lib
attribute [local go_sem] Oper.semAt_some
theorem quiet_eqF {P : Program} {f : FuncId} {args : Array Value} {w : World} {n : Nat} {v : Value}
    (h : Calls P f args (w.drewN n) fun e w' => e = .returned v ∧ w.drewN n = w') : Calls P f args (w.drewN n) fun e w'' => e = .returned v ∧ ∃ m, w'' = w.drewN m :=
  h.mono fun _ _ ⟨he, hm⟩ => ⟨he, n, hm.symm⟩
section
variable {w : World} {q : Nat} {dead : Bool} {p : PlV} {ops : Int} {d s : Nat} {mv : Value}
set_option maxHeartbeats 2000000 in
theorem isFull_fs (B : Nat) (full : List Int) (w : World) (h : FsAt w q dead p ops d s mv) (ho : w.ownsRow B 3 1 p.u full.length ((inOrd full).map intV)) (hsz : full.length < 4611686018427387904) :
    Calls Tryz.prog 59 #[.pointer (some ⟨q, 0, none⟩)] w fun e w' => e = .returned (.bool (full.contains ops)) ∧ ∃ m, w' = w.drewN m := by
  have h5 := h.full
  have hb := fun n => search_own B _ _ full ops (w.drewN n) (World.ownsRow.kept ho (gdrewN (World.grownBy.refl w none) n) (by cases p.u.ownBlock <;> simp)) rfl hsz
  have ho' := fun n => ops_fs (w.drewN n) (show FsAt (w.drewN n) q dead p ops d s mv from h)
  obtain ⟨a, c, e⟩ := rowForm ho
  rw [e] at h5 hb
  go_enter Tryz.func59, Tryz.ntmps59
  go_wp2_with (fail)
  go_quiet ((first | (go_at_call 27; exact quiet_eqF (ho' _)) | (go_at_call 84; exact Calls.quiet_of (hb _))))
  go_wp2_with (fail)
  go_ret
  exact ⟨by simp, _, rfl⟩

theorem decide_contains (l : List Int) (x : Int) : decide (x ∈ l) = l.contains x := by simp

set_option maxHeartbeats 2000000 in
/-- An operation that neither dies nor finds the file system dead: it is counted; the plan may let it fail. -/
theorem begin_fs (B : Nat) (fail : List Int) (w : World) (h : FsAt w q false p ops d s mv) (h0 : 0 ≤ ops) (h9 : ops < 4611686018427387904) (hc : ops + 1 ≠ p.c) (ho : w.ownsRow B 3 1 p.f fail.length ((inOrd fail).map intV)) (hq : p.f.ownBlock ≠ some q) (hsz : fail.length < 4611686018427387904) :
    Calls Tryz.prog 56 #[.pointer (some ⟨q, 0, none⟩)] w fun e w' => e = .returned (.int .i64 (if fail.contains (ops + 1) then 10 else 0)) ∧ ∃ m, w' = (w.setCell ⟨q, 7, none⟩ (.int .i64 (ops + 1))).drewN m := by
  have h1 := h.setOps (ops + 1)
  have ho1 := World.ownsRow.kept ho (gset (World.grownBy.refl w (some q)) 7 (.int .i64 (ops + 1))) (.inr hq)
  have hb := search_own B _ _ fail (ops + 1) _ ho1 rfl hsz
  have c2 := h1.crash
  have c4 := h1.fail
  obtain ⟨a, c, e⟩ := rowForm ho
  rw [e] at c4 hb
  have hce : (ops + 1 == p.c) = false := by simpa using hc
  obtain ⟨W, hW⟩ : ∃ W, W = w.setCell ⟨q, 7, none⟩ (.int .i64 (ops + 1)) := ⟨_, rfl⟩
  rw [← hW] at h1 ho1 hb c2 c4 ⊢
  replace hW := Lib.hid hW
  obtain ⟨bo, hbo⟩ : ∃ bo, fail.contains (ops + 1) = bo := ⟨_, rfl⟩
  rw [hbo] at hb ⊢
  clear hbo
  cases bo
  all_goals
    go_enter Tryz.func56, Tryz.ntmps56
    go_wp2_with (first
      | (go_at_call 20; refine (dead_fs _ h).mono ?_; rintro e w' ⟨rfl, rfl⟩)
      | (go_at_call 83; refine (add_fs _ h h0 h9).mono ?_; rintro e w' ⟨rfl, hw2⟩; have hw3 := hw2.trans hW.out.symm; clear hw2; subst hw3)
      | (go_at_call 84; refine hb.mono ?_; rintro e w' ⟨rfl, m, rfl⟩))
    go_ret
    exact ⟨rfl, m, rfl⟩
end
end Go.Proofs.YtcehddlplkfflaaGreat

/-
  LAYER 1 (fs): which names may be, of both.
-/
namespace Go.Proofs.YtcehddlplkfflaaGreat
set_option maxRecDepth 100000
open Go.RowKit Go.Lib
attribute [local go_sem] Oper.semAt_some

def okByte (c : UInt8) : Bool := decide (33 ≤ c.toNat) && decide (c.toNat ≤ 126) && !decide (c.toNat = 47)
def okName (s : ByteArray) : Bool := decide (1 ≤ s.size) && decide (s.size ≤ 32) && s.data.toList.all okByte

theorem okFrom (s : ByteArray) (k : Nat) (h : k < s.size) : (s.data.toList.drop k).all okByte = (okByte s[k] && (s.data.toList.drop (k + 1)).all okByte) := by
  have e : s.data.toList.drop k = s[k] :: s.data.toList.drop (k + 1) := by
    rw [List.drop_eq_getElem_cons (by simpa using h)]
    rfl
  rw [e, List.all_cons]

theorem okByte_cases (c : UInt8) (C : Nat) (hC : C = c.toNat) : (okByte c = true ∧ ¬ (C : Int) < 33 ∧ ¬ 126 < (C : Int) ∧ ((C : Int) == 47) = false) ∨ (okByte c = false ∧ (C : Int) < 33) ∨ (okByte c = false ∧ ¬ (C : Int) < 33 ∧ 126 < (C : Int)) ∨ (okByte c = false ∧ ¬ (C : Int) < 33 ∧ ¬ 126 < (C : Int) ∧ ((C : Int) == 47) = true) := by
  subst hC
  unfold okByte
  by_cases h1 : 33 ≤ c.toNat
  · by_cases h2 : c.toNat ≤ 126
    · by_cases h3 : c.toNat = 47
      · right; right; right; simp [h3]
      · left; simp [h1, h2, h3]; omega
    · right; right; left; simp [h2]; omega
  · right; left; simp [h1]; omega

theorem index_byte {P : Program} (w : World) (t : TypeId) (s : ByteArray) (k : Nat) (h : P.underlying t = some .string) (h1 : k < s.size) :
    (Instr.index t (.string s) (.int .i64 (k : Int))).run P w = .ok (.int .u8 ((s[k].toNat : Nat) : Int)) w := by
  rw [run_index_string w t s .i64 k h, dif_pos (show 0 ≤ (k : Int) ∧ (k : Int) < (s.size : Int) by omega)]
  simp

set_option maxHeartbeats 4000000 in
theorem mayBe_any (s : ByteArray) (w : World) : Calls Tryz.prog 67 #[.string s] w fun e w' => e = .returned (.bool (okName s)) ∧ w = w' := by
  obtain ⟨q, hq⟩ : ∃ q, q = okName s := ⟨_, rfl⟩
  rw [← hq]
  unfold okName at hq
  have hl0 : s.toList.length = s.size := by rw [ByteArray.toList_eq]; simp
  by_cases h1 : s.size = 0
  · have he : s.toList.isEmpty = true := by rw [← hl0] at h1; simpa using List.length_eq_zero_iff.1 h1
    have hs1 : (s.size : Int) < 1 := by omega
    obtain rfl : q = false := by rw [hq]; simp [h1]
    clear hq
    go_enter Tryz.func67, Tryz.ntmps67
    go_wp2
    go_ret
    exact ⟨rfl, rfl⟩
  · have he : s.toList.isEmpty = false := by
      cases hh : s.toList with
      | nil => rw [hh] at hl0; simp at hl0; omega
      | cons a l => rfl
    have hs1 : ¬ (s.size : Int) < 1 := by omega
    by_cases h2 : s.size ≤ 32
    · have hs2 : ¬ 32 < (s.size : Int) := by omega
      have hq2 : q = (s.data.toList.drop 0).all okByte := by
        rw [hq, List.drop_zero]
        have : 1 ≤ s.size := by omega
        simp [h2, this]
      clear hq
      have hq3 := Lib.hid hq2
      clear hq2
      go_enter Tryz.func67, Tryz.ntmps67
      go_wp2
      go_loopw [3, 13] (fun _ vi wr => ∃ k : Nat, vi = .int .i64 (k : Int) ∧ k ≤ s.size ∧ Hid (q = (s.data.toList.drop k).all okByte) ∧ Hid (wr = w)) (fun _ vi _ => s.size - (RowKit.intOf vi).toNat)
      case atStart => exact ⟨0, rfl, Nat.zero_le _, hq3, Lib.hid rfl⟩
      case round =>
        obtain ⟨k, rfl, hk, hK, hw⟩ := hrel
        obtain rfl := hw.out
        clear hw
        by_cases hlt : k < s.size
        · have hx := fun w t h => index_byte (P := Tryz.prog) w t s k h hlt
          have hK2 := hK.out
          rw [okFrom s k hlt] at hK2
          obtain ⟨C, hC⟩ : ∃ C, C = s[k].toNat := ⟨_, rfl⟩
          rw [← hC] at hx
          have hcs := okByte_cases s[k] C hC
          generalize okByte s[k] = ob at hK2 hcs
          clear hC hK
          rcases hcs with ⟨rfl, c1, c2, c3⟩ | ⟨rfl, c1⟩ | ⟨rfl, c1, c2⟩ | ⟨rfl, c1, c2, c3⟩
          · rw [Bool.true_and] at hK2
            have hK3 := Lib.hid hK2
            clear hK2
            go_wp2
            exact ⟨⟨k + 1, by go_num, by omega, hK3, Lib.hid (by trivial)⟩, by simp [RowKit.intOf]; omega⟩
          all_goals
            rw [Bool.false_and] at hK2
            subst hK2
            go_wp2
            go_ret
            exact ⟨rfl, rfl⟩
        · obtain rfl : k = s.size := by omega
          have hK2 := hK.out
          rw [List.drop_eq_nil_of_le (by simp)] at hK2
          obtain rfl : q = true := hK2
          clear hK
          go_wp2
          go_ret
          exact ⟨rfl, rfl⟩
    · have hs2 : 32 < (s.size : Int) := by omega
      obtain rfl : q = false := by rw [hq]; simp [h2]
      clear hq
      go_enter Tryz.func67, Tryz.ntmps67
      go_wp2
      go_ret
      exact ⟨rfl, rfl⟩
set_option maxHeartbeats 4000000 in
theorem refMay_any (s : ByteArray) (w : World) : Calls Tryz.prog 74 #[.string s] w fun e w' => e = .returned (.bool (okName s)) ∧ w = w' := by
  obtain ⟨q, hq⟩ : ∃ q, q = okName s := ⟨_, rfl⟩
  rw [← hq]
  unfold okName at hq
  have hl0 : s.toList.length = s.size := by rw [ByteArray.toList_eq]; simp
  by_cases h1 : s.size = 0
  · have he : s.toList.isEmpty = true := by rw [← hl0] at h1; simpa using List.length_eq_zero_iff.1 h1
    have hs1 : (s.size : Int) < 1 := by omega
    obtain rfl : q = false := by rw [hq]; simp [h1]
    clear hq
    go_enter Tryz.func74, Tryz.ntmps74
    go_wp2
    go_ret
    exact ⟨rfl, rfl⟩
  · have he : s.toList.isEmpty = false := by
      cases hh : s.toList with
      | nil => rw [hh] at hl0; simp at hl0; omega
      | cons a l => rfl
    have hs1 : ¬ (s.size : Int) < 1 := by omega
    by_cases h2 : s.size ≤ 32
    · have hs2 : ¬ 32 < (s.size : Int) := by omega
      have hq2 : q = (s.data.toList.drop 0).all okByte := by
        rw [hq, List.drop_zero]
        have : 1 ≤ s.size := by omega
        simp [h2, this]
      clear hq
      have hq3 := Lib.hid hq2
      clear hq2
      go_enter Tryz.func74, Tryz.ntmps74
      go_wp2
      go_loopw [3] (fun vi wr => ∃ k : Nat, vi = .int .i64 (k : Int) ∧ k ≤ s.size ∧ Hid (q = (s.data.toList.drop k).all okByte) ∧ Hid (wr = w)) (fun vi _ => s.size - (RowKit.intOf vi).toNat)
      case atStart => exact ⟨0, rfl, Nat.zero_le _, hq3, Lib.hid rfl⟩
      case round =>
        obtain ⟨k, rfl, hk, hK, hw⟩ := hrel
        obtain rfl := hw.out
        clear hw
        by_cases hlt : k < s.size
        · have hx := fun w t h => index_byte (P := Tryz.prog) w t s k h hlt
          have hK2 := hK.out
          rw [okFrom s k hlt] at hK2
          obtain ⟨C, hC⟩ : ∃ C, C = s[k].toNat := ⟨_, rfl⟩
          rw [← hC] at hx
          have hcs := okByte_cases s[k] C hC
          generalize okByte s[k] = ob at hK2 hcs
          clear hC hK
          rcases hcs with ⟨rfl, c1, c2, c3⟩ | ⟨rfl, c1⟩ | ⟨rfl, c1, c2⟩ | ⟨rfl, c1, c2, c3⟩
          · rw [Bool.true_and] at hK2
            have hK3 := Lib.hid hK2
            clear hK2
            go_wp2
            exact ⟨⟨k + 1, by go_num, by omega, hK3, Lib.hid (by trivial)⟩, by simp [RowKit.intOf]; omega⟩
          all_goals
            rw [Bool.false_and] at hK2
            subst hK2
            go_wp2
            go_ret
            exact ⟨rfl, rfl⟩
        · obtain rfl : k = s.size := by omega
          have hK2 := hK.out
          rw [List.drop_eq_nil_of_le (by simp)] at hK2
          obtain rfl : q = true := hK2
          clear hK
          go_wp2
          go_ret
          exact ⟨rfl, rfl⟩
    · have hs2 : 32 < (s.size : Int) := by omega
      obtain rfl : q = false := by rw [hq]; simp [h2]
      clear hq
      go_enter Tryz.func74, Tryz.ntmps74
      go_wp2
      go_ret
      exact ⟨rfl, rfl⟩
end Go.Proofs.YtcehddlplkfflaaGreat

/-
  LAYER 1 (fs): Create where nothing fails, nothing is full and nothing dies.
-/
namespace Go.Proofs.YtcehddlplkfflaaGreat
set_option maxRecDepth 100000
open Go.RowKit Go.Lib
attribute [local go_sem] Oper.semAt_some

section
variable {w : World} {q : Nat} {p : PlV} {ops : Int} {d s : Nat} {mv : Value}
set_option maxHeartbeats 4000000 in
theorem create_ok (B : Nat) (fail full : List Int) (nm : ByteArray) (ml : List Mv) (l : DirL) (w : World) (h : FsAt w q false p ops d s mv) (h0 : 0 ≤ ops) (h9 : ops < 4611686018427387904) (hc : ops + 1 ≠ p.c)
    (hf : w.ownsRow B 3 1 p.f fail.length ((inOrd fail).map intV)) (hu : w.ownsRow B 3 1 p.u full.length ((inOrd full).map intV)) (hq : p.f.ownBlock ≠ some q) (hqu : p.u.ownBlock ≠ some q) (hsf : fail.length < 4611686018427387904) (hsu : full.length < 4611686018427387904)
    (hnf : fail.contains (ops + 1) = false) (hnu : full.contains (ops + 1) = false) (hd : DirM w d l) (hs : nm.size ≤ maxLen) (hnm : okName nm = true) (hnm0 : nm.size ≠ 0) (hl : l.look nm.data.toList = none) (hl9 : l.length < 4096) (hr : w.ownsRow 0 108 3 mv ml.length (mvCells ml)) (hn2 : ml.length < 3518437208882)
    (hdq : d ≠ q) (hmq : mv.ownBlock ≠ some q) (hmd : mv.ownBlock ≠ some d) :
    Calls Tryz.prog 30 #[.pointer (some ⟨q, 0, none⟩), .string nm] w fun e w' => e = .returned (.int .i64 0) ∧ ∃ mv', FsAt w' q false p (ops + 1) d s mv' ∧ DirM w' d (l.put nm.data.toList w.heap.size) ∧ FileAt w' w.heap.size ⟨.slice none 0 0, .slice none 0 0, .slice none 0 0, [], [], []⟩ ∧
      w'.ownsRow 0 108 3 mv' (ml.length + 1) (mvCells (ml ++ [⟨⟨#[]⟩, nm, some w.heap.size⟩])) ∧ (mv'.ownBlock = mv.ownBlock ∨ ∃ k, mv'.ownBlock = some k ∧ w.heap.size ≤ k) ∧ GP (fun k => k = q ∨ k = d ∨ mv.ownBlock = some k) w w' := by
  have hb := begin_fs B fail w h h0 h9 hc hf hq hsf
  rw [hnf] at hb
  obtain ⟨W, hW⟩ : ∃ W, W = w.setCell ⟨q, 7, none⟩ (.int .i64 (ops + 1)) := ⟨_, rfl⟩
  have gF : w.grownBy W (some q) := by rw [hW]; exact gset (World.grownBy.refl w (some q)) 7 (.int .i64 (ops + 1))
  have hFs : ∀ m, FsAt (W.drewN m) q false p (ops + 1) d s mv := fun m => by rw [hW]; exact h.setOps (ops + 1)
  have hx : ∀ m, (W.drewN m).cell? ⟨q, 8, none⟩ = some (.map (some d)) := fun m => (hFs m).dir
  have hWs : W.heap.size = w.heap.size := by rw [hW]; simp
  rw [← hW] at hb
  clear hW
  have gm := fun m => gdrewN gF m
  have hlk : ∀ m, (Instr.lookup 67 (.map (some d)) (.string nm) false).run Tryz.prog (W.drewN m) = .ok (ptrV none) (W.drewN m) := fun m => by
    rw [← hl]
    exact (hd.kept (gm m) (by simp; exact hdq)).lookup nm hs
  unfold ptrV at hlk
  have hlen := fun m ty => (hd.kept (gm m) (by simp; exact hdq)).len ty
  have huq : ∀ m, (W.drewN m).ownsRow B 3 1 p.u full.length ((inOrd full).map intV) := fun m => World.ownsRow.kept hu (gm m) (.inr hqu)
  have hfu := fun m => isFull_fs B full (W.drewN m) (hFs m) (huq m) hsu
  rw [hnu] at hfu
  have hmb := fun m => mayBe_any nm (W.drewN m)
  rw [hnm] at hmb
  have gA := fun k => World.grownBy_alloc (W.drewN k) (.cells #[.slice none 0 0, .slice none 0 0, .slice none 0 0] 94) none
  have eA := fun k => World.alloc_heap_new (W.drewN k) (.cells #[.slice none 0 0, .slice none 0 0, .slice none 0 0] 94)
  have hmv := fun k => move_any ⟨⟨#[]⟩, nm, some W.heap.size⟩ ml l ((W.drewN k).alloc (.cells #[.slice none 0 0, .slice none 0 0, .slice none 0 0] 94)) ((hFs k).kept (gA k) (by simp)) ((hd.kept (gm k) (by simp; exact hdq)).kept (gA k) (by simp)) (World.ownsRow.kept (World.ownsRow.kept hr (gm k) (.inr hmq)) (gA k) (by cases mv.ownBlock <;> simp)) ⟨Nat.zero_le _, hs, hnm0⟩ (by unfold maxLen; omega) hn2 hdq hmq hmd
  dsimp only [Mv.v, ptrV] at hmv
  have hmvl : ∀ k, mv.ownBlock = some k → k < w.heap.size := fun k e => (World.ownsRow.lt hr k e).2
  have hql := h.lt
  have hdl := hd.lt
  replace hmv := Lib.hid hmv
  replace hWs := Lib.hid hWs
  replace eA := Lib.hid eA
  replace gA := Lib.hid gA
  replace hmvl := Lib.hid hmvl
  go_enter Tryz.func30, Tryz.ntmps30
  go_wp2_with first
    | (go_at_call 56; refine hb.mono ?_; rintro e w2 ⟨rfl, m1, rfl⟩)
    | (go_at_call 67; refine (hmb _).mono ?_; rintro e w2 ⟨rfl, rfl⟩)
    | (go_at_call 59; refine (hfu _).mono ?_; rintro e w2 ⟨rfl, m2, rfl⟩)
    | (go_at_call 66; refine (hmv.out _).mono ?_; rintro e w2 ⟨rfl, mv', k1, k2, k3, k4, k5⟩)
  go_ret
  have hWs := hWs.out
  have eA := eA.out
  have gA := gA.out
  have hmvl := hmvl.out
  rw [hWs] at k3
  have hA : (w2.heap)[w.heap.size]? = some (.cells #[.slice none 0 0, .slice none 0 0, .slice none 0 0] 94 (0, 0)) := by
    have e0 := eA (m1 + m2)
    have e1 : (W.drewN (m1 + m2)).heap.size = w.heap.size := hWs
    rw [e1] at e0
    refine (k5.block w.heap.size (lt_of_block e0) ?_).trans e0
    rintro (e | e | e)
    · omega
    · omega
    · have := hmvl _ e; omega
  refine ⟨rfl, mv', k1, ?_, ⟨hA, World.ownsRow_nil _ _ _ _, World.ownsRow_nil _ _ _ _, World.ownsRow_nil _ _ _ _, by simp [FileV.blocks, Value.ownBlock]⟩, k3, ?_, ?_⟩
  · have e : Mv.done ⟨⟨#[]⟩, nm, some W.heap.size⟩ l = l.put nm.data.toList W.heap.size := rfl
    rw [e, hWs] at k2
    exact k2
  · rcases k4 with e | ⟨k, e, hk⟩
    · exact .inl e
    · exact .inr ⟨k, e, by have := (gA (m1 + m2)).size; have := (gm (m1 + m2)).size; omega⟩
  · exact ((GP.of (P := fun k => k = q ∨ k = d ∨ mv.ownBlock = some k) (gm (m1 + m2)) (fun k e => by cases e; exact .inl rfl)).step (gA _) (by simp)).trans k5 (fun k e => .inl e)
end
end Go.Proofs.YtcehddlplkfflaaGreat
