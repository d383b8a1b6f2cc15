/-
  LAYER 1 (fs): the counter: Load, Store, Add; Ops.
-/
import Derived.Test.YtcehddlplkfflaaGreatFN05
import Derived.Laws.LoneSync
import Derived.Test.YtcehddlplkfflaaGreatFN07
import Derived.Laws.EntriesVeiled
import Derived.Test.YtcehddlplkfflaaGreatFN04
namespace Go.Proofs.YtcehddlplkfflaaGreat
set_option maxRecDepth 100000
open Go.RowKit Go.Lib
attribute [local go_sem] Oper.semAt_some
section
variable {w : World} {q : Nat} {dead : Bool} {p : PlV} {ops : Int} {d s : Nat} {mv : Value}
theorem FsAt.setOps (h : FsAt w q dead p ops d s mv) (x : Int) : FsAt (w.setCell ⟨q, 7, none⟩ (.int .i64 x)) q dead p x d s mv := heap_setCell_same w q 7 _ _ _ h
theorem FsAt.setDead (h : FsAt w q dead p ops d s mv) (x : Bool) : FsAt (w.setCell ⟨q, 1, none⟩ (.bool x)) q x p ops d s mv := heap_setCell_same w q 1 _ _ _ h

theorem load_fs (w : World) (h : FsAt w q dead p ops d s mv) :
    Calls Tryz.prog 64 #[.pointer (some ⟨q, 7, none⟩)] w fun e w' => e = .returned (.int .i64 ops) ∧ w = w' := by
  have h0 := h.count
  have hl := run_call_load (P := Tryz.prog) Tryz.func90 (by kernel_rfl) (by kernel_rfl) (by kernel_rfl) .i64 (by kernel_rfl) h0
  go_enter Tryz.func64, Tryz.ntmps64
  go_wp2_with (fail)
  go_ret
  exact ⟨rfl, rfl⟩

theorem store_fs (x : Int) (w : World) (h : FsAt w q dead p ops d s mv) :
    Calls Tryz.prog 62 #[.pointer (some ⟨q, 7, none⟩), .int .i64 x] w fun e w' => e = .returned (.tuple #[]) ∧ w' = w.setCell ⟨q, 7, none⟩ (.int .i64 x) := by
  have h0 := h.count
  have h1 := h.free 7
  have hl := run_call_store (P := Tryz.prog) Tryz.func89 (by kernel_rfl) (by kernel_rfl) (by kernel_rfl) (by kernel_rfl) (k := .i64) (y := x) h0 h1
  go_enter Tryz.func62, Tryz.ntmps62
  go_wp2_with (fail)
  go_end0
  exact ⟨rfl, rfl⟩

theorem add_fs (w : World) (h : FsAt w q dead p ops d s mv) (h0 : 0 ≤ ops) (h9 : ops < 4611686018427387904) :
    Calls Tryz.prog 83 #[.pointer (some ⟨q, 7, none⟩), .int .i64 1] w fun e w' => e = .returned (.int .i64 (ops + 1)) ∧ w' = w.setCell ⟨q, 7, none⟩ (.int .i64 (ops + 1)) := by
  have hc := h.count
  have h1 := h.free 7
  have hl := run_call_add (P := Tryz.prog) Tryz.func101 (by kernel_rfl) (by kernel_rfl) (by kernel_rfl) .i64 (by kernel_rfl) (y := 1) (s := ops + 1) hc h1 (by simp [go_sem]; exact IntWalk.i64_in _ (by omega))
  go_enter Tryz.func83, Tryz.ntmps83
  go_wp2_with (fail)
  go_ret
  exact ⟨rfl, rfl⟩

theorem ops_fs (w : World) (h : FsAt w q dead p ops d s mv) :
    Calls Tryz.prog 27 #[.pointer (some ⟨q, 0, none⟩)] w fun e w' => e = .returned (.int .i64 ops) ∧ w = w' := by
  go_enter Tryz.func27, Tryz.ntmps27
  go_wp2_with (first
    | (go_at_call 53; refine (isMade_fs _ h).mono ?_; rintro e w' ⟨rfl, rfl⟩)
    | (go_at_call 64; refine (load_fs _ h).mono ?_; rintro e w' ⟨rfl, rfl⟩))
  go_ret
  exact ⟨rfl, rfl⟩
end
end Go.Proofs.YtcehddlplkfflaaGreat

/-
  LAYER 1 (fs): a search in a plan's sorted list.
-/
namespace Go.Proofs.YtcehddlplkfflaaGreat
set_option maxRecDepth 100000
open Go.RowKit Go.Lib
attribute [local go_sem] Oper.semAt_some

theorem inOrd_sorted (zs : List Int) : (inOrd zs).Pairwise (· ≤ ·) := by
  have h := List.pairwise_mergeSort (le := fun x y : Int => decide (x ≤ y)) (fun a b c h1 h2 => by simp at *; omega) (fun a b => by simp; omega) zs
  exact h.imp (fun h => by simpa using h)
theorem inOrd_mem (zs : List Int) (x : Int) : (inOrd zs).contains x = zs.contains x := by
  have h : x ∈ inOrd zs ↔ x ∈ zs := by unfold inOrd; exact List.mem_mergeSort
  rw [Bool.eq_iff_iff]
  simp [h]

theorem search_own (B : Nat) (v : Value) (n : Nat) (zs : List Int) (x : Int) (w : World) (ho : w.ownsRow B 3 1 v n ((inOrd zs).map intV)) (hn : n = zs.length) (hsz : zs.length < 4611686018427387904) :
    Calls Tryz.prog 84 #[v, .int .i64 x] w fun e w' => e = .returned (.tuple #[.int .i64 (((inOrd zs).countP (· < x) : Nat) : Int), .bool (zs.contains x)]) ∧ ∃ m, w' = w.drewN m := by
  subst hn
  have h0 := ho
  obtain ⟨_, ⟨rfl, hn⟩ | ⟨g, cap, cur, rfl, hB, hgg, h1, h2, h3, h4⟩⟩ := ho
  · obtain rfl := List.length_eq_zero_iff.1 hn
    refine (Tryz.slices_BinarySearch_int_empty none 0 x w).mono ?_
    rintro e w' ⟨rfl, rfl⟩
    exact ⟨by simp [inOrd], 0, rfl⟩
  · have hq := Tryz.slices_BinarySearch_int g 0 zs.length cap (inOrd zs) x w (by rw [inOrd_length]; exact Nat.le_refl _) hsz (fun j hj => by
      rw [Nat.zero_add, World.ownsRow.cellAt h0 j (by rw [inOrd_length] at hj; simpa using hj)]
      simp [intV, List.getD_eq_getElem?_getD, List.getElem?_eq_getElem hj]) (by rw [List.take_of_length_le (by rw [inOrd_length]; exact Nat.le_refl _)]; exact inOrd_sorted zs)
    rw [List.take_of_length_le (by rw [inOrd_length]; exact Nat.le_refl _), inOrd_mem] at hq
    exact hq

section
variable {w : World} {q : Nat} {dead : Bool} {p : PlV} {ops : Int} {d s : Nat} {mv : Value}
theorem FsAt.full (h : FsAt w q dead p ops d s mv) : w.cell? ⟨q, 5, none⟩ = some p.u := by simp [World.cell?, show _ = _ from h]
theorem FsAt.fail (h : FsAt w q dead p ops d s mv) : w.cell? ⟨q, 4, none⟩ = some p.f := by simp [World.cell?, show _ = _ from h]
theorem FsAt.keep (h : FsAt w q dead p ops d s mv) : w.cell? ⟨q, 3, none⟩ = some p.k := by simp [World.cell?, show _ = _ from h]
theorem FsAt.crash (h : FsAt w q dead p ops d s mv) : w.cell? ⟨q, 2, none⟩ = some (.int .i64 p.c) := by simp [World.cell?, show _ = _ from h]
theorem FsAt.room (h : FsAt w q dead p ops d s mv) : w.cell? ⟨q, 6, none⟩ = some (.int .i64 p.r) := by simp [World.cell?, show _ = _ from h]

end
end Go.Proofs.YtcehddlplkfflaaGreat

/-
  LAYER 1 (fs): die.
-/
namespace Go.Proofs.YtcehddlplkfflaaGreat
set_option maxRecDepth 100000
open Go.RowKit Go.Lib
open Go.Proofs (encStr)
attribute [local go_sem] Oper.semAt_some

/-- How many moves survive. -/
def dieN (keep : List Int) (ml : List Mv) : Nat := surv (keepAt keep 0) ml.length

section
variable {w : World} {q : Nat} {p : PlV} {ops : Int} {d s : Nat} {mv : Value}
theorem FsAt.setDir (h : FsAt w q false p ops d s mv) (d' : Nat) : FsAt (w.setCell ⟨q, 8, none⟩ (.map (some d'))) q false p ops d' s mv := heap_setCell_same w q 8 _ _ _ h

set_option maxHeartbeats 8000000 in
theorem die_any (keep : List Int) (ml : List Mv) (l : DirL) (F : Nat → FileV) (w : World) (h : FsAt w q false p ops d s mv) (hk : w.ownsRow 0 3 1 p.k keep.length (keep.map intV)) (hlk : keep.length < 4611686018427387904)
    (hds : DirM w s l) (hr : w.ownsRow 0 108 3 mv ml.length (mvCells ml)) (nm : Nat) (hnm : nm = dieN keep ml) (hm : okMoves (ml.take nm) l) (l' : DirL) (hl' : l' = movesDone (ml.take nm) l) (hn2 : ml.length < 3518437208882) (hl9 : l'.length ≤ 3518437208881)
    (hF : FilesM w (filesOf F l'.sorted)) (hok : ∀ x ∈ l'.sorted, okL (F x.2).safe (F x.2).chg ∧ (F x.2).safe.length ≤ 140737488355328) (hcn : 1 + cnt F l'.sorted < 4611686018427387904)
    (hsq : s ≠ q) (hmq : mv.ownBlock ≠ some q) (hms : mv.ownBlock ≠ some s) (hkq : p.k.ownBlock ≠ some q) (hks : p.k.ownBlock ≠ some s)
    (hfb : ∀ k ∈ filesBlocks (filesOf F l'.sorted), k ≠ q ∧ k ≠ s ∧ p.k.ownBlock ≠ some k) :
    Calls Tryz.prog 61 #[.pointer (some ⟨q, 0, none⟩)] w fun e w' => e = .returned (.tuple #[]) ∧ ∃ d' G, FsAt w' q true p ops d' s (.slice none 0 0) ∧ DirM w' s l' ∧ DirM w' d' l' ∧ w.heap.size ≤ d' ∧
      FilesM w' (filesOf G l'.sorted) ∧ (∀ i x, l'.sorted[i]? = some x → diedAs (keepAt keep) F (1 + cnt F (l'.sorted.take i)) x.2 (G x.2)) ∧
      (∀ x ∈ l'.sorted, ∀ k ∈ (G x.2).blocks, k ∈ (F x.2).blocks ∨ w.heap.size ≤ k) ∧ (∀ k ∈ filesBlocks (filesOf G l'.sorted), k ≠ d') ∧
      GP (fun k => k = q ∨ k = s ∨ k ∈ filesBlocks (filesOf F l'.sorted)) w w' := by
  replace hnm := Lib.hid hnm
  replace hl' := Lib.hid hl'
  have hql := h.lt
  have hsl := hds.lt
  have hfl := hF.lt
  have x3 := h.keep
  obtain ⟨ka, kc, hkv⟩ := rowFormS hk
  rw [hkv] at x3
  have hit := inTurn_any p.k keep w hk
  rw [hkv] at hit
  refine (callsIn_wide (n := 20)).1 ?_
  have hf1 : Fence.wide.fn 86 := trivial
  have hf2 : Fence.wide.fn 81 := trivial
  have hf3 : Fence.wide.fn 88 := trivial
  refine callsIn_of_wp_marks Tryz.func61 rfl trivial ?_ rfl
  simp only [Tryz.ntmps61, List.size_toArray, List.length_cons, List.length_nil, Nat.reduceAdd, Nat.reduceSub, Array.replicate_succ, Array.replicate_zero, List.push_toArray, List.append_toArray, List.nil_append, List.cons_append]
  gi_wp2_with first
    | (gi_at_call 86; refine (callsIn_wide.2 hit).mono ?_; clear hit; rintro e w1 ⟨ab, kb, rfl, hT, g1, hab, hkb, hne⟩; have cN : (w1.alloc (.cells #[.nilFunc] 58)).cell? ⟨w1.heap.size, 0, none⟩ = some .nilFunc := (Boxed.new w1 _ _).cell; have fN : (w1.alloc (.cells #[.nilFunc] 58)).frozen? ⟨w1.heap.size, 0, none⟩ = false := (Boxed.new w1 _ _).frozen)
  obtain ⟨W2, hW2⟩ : ∃ W2, W2 = w1.alloc (.cells #[.func (.func 104) #[] #[.pointer (some ⟨kb, 0, none⟩), .pointer (some ⟨ab, 0, none⟩)]] 58) := ⟨_, rfl⟩
  rw [← hW2]
  have g12 : w1.grownBy W2 none := by rw [hW2]; exact World.grownBy_alloc w1 _ none
  have hb2 : Boxed W2 w1.heap.size 58 (.func (.func 104) #[] #[.pointer (some ⟨kb, 0, none⟩), .pointer (some ⟨ab, 0, none⟩)]) := by rw [hW2]; exact Boxed.new w1 _ _
  clear hW2 cN fN
  rw [hkv] at hkq hks hk hfb
  have hkl := World.ownsRow.lt hk
  have N := turnNext ab kb (.slice ka keep.length kc) keep ⟨hne, fun e => by have := hkl _ e; omega⟩ hlk
  have hw1s := g1.size
  have hnbl : ∀ k ∈ (ab :: kb :: (Value.slice ka keep.length kc).ownBlock.toList), k ≠ q ∧ k ≠ s ∧ k ∉ filesBlocks (filesOf F l'.sorted) := by
    intro k hk'
    simp only [List.mem_cons, Option.mem_toList] at hk'
    rcases hk' with rfl | rfl | hk'
    · exact ⟨by omega, by omega, fun hk2 => by have := hfl _ hk2; omega⟩
    · exact ⟨by omega, by omega, fun hk2 => by have := hfl _ hk2; omega⟩
    · exact ⟨fun e => hkq (by rw [← e]; exact hk'), fun e => hks (by rw [← e]; exact hk'), fun hk2 => (hfb k hk2).2.2 hk'⟩
  have hN1 : (∃ i', (keep = [] ∧ i' = 0 ∨ keep ≠ [] ∧ i' = 0) ∧ TurnAt ab kb (.slice ka keep.length kc) keep i' w1) := ⟨0, by by_cases e : keep = [] <;> simp [e], hT⟩
  have hN2 := N.kept 0 w1 W2 hN1 (fun k hk' => g12.block k (N.lt 0 w1 hN1 k hk') (by simp))
  obtain ⟨V, hV⟩ : ∃ V, V = W2.drew := ⟨_, rfl⟩
  have gV2 : W2.grownBy V none := by rw [hV]; exact gdrew (World.grownBy.refl W2 none)
  have hNV := N.kept 0 W2 V hN2 (fun k hk' => gV2.block k (N.lt 0 W2 hN2 k hk') (by simp))
  have hbV := hb2.kept gV2 (by simp)
  have gV : w.grownBy V none := (g1.trans g12).trans gV2
  have hFV := h.kept gV (by simp)
  have x10 := hFV.moves
  obtain ⟨ma, mc, hmv⟩ := rowFormS hr
  rw [hmv] at x10
  have hablt := N.lt 0 w1 hN1 ab (by simp)
  clear hN1 hN2 hT
  refine wpIn_mono (Q := fun e a' w' => e = .normal ∧ a' = { tmps := #[.pointer (some ⟨q, 0, none⟩), undef, .pointer (some ⟨w1.heap.size, 0, none⟩), undef, undef, .pointer (some ⟨q, 0, none⟩), .pointer (some ⟨q, 0, none⟩), .pointer (some ⟨q, 2, none⟩), .pointer (some ⟨q, 3, none⟩), .slice ka keep.length kc, .func (.func 104) #[] #[.pointer (some ⟨kb, 0, none⟩), .pointer (some ⟨ab, 0, none⟩)], .pointer (some ⟨q, 0, none⟩), .func (.func 104) #[] #[.pointer (some ⟨kb, 0, none⟩), .pointer (some ⟨ab, 0, none⟩)], .int .i64 (keepAt keep 0), .pointer (some ⟨q, 0, none⟩), .pointer (some ⟨q, 0, none⟩), .pointer (some ⟨q, 10, none⟩), .slice ma ml.length mc, .int .i64 (ml.length : Int), .int .i64 (nm : Int), .tuple #[], undef, undef, undef, undef, undef, undef, undef, undef, undef, undef, undef, undef, undef, undef, undef, undef, undef, undef, undef, undef, undef, undef, undef, undef, undef, undef, undef, undef, undef], defers := [] } ∧ FsAt w' q false p ops d s (.slice none 0 0) ∧ DirM w' s l' ∧ (∃ i', (keep = [] ∧ i' = 0 ∨ keep ≠ [] ∧ i' = 0 + 1) ∧ TurnAt ab kb (.slice ka keep.length kc) keep i' w') ∧ Boxed w' w1.heap.size 58 (.func (.func 104) #[] #[.pointer (some ⟨kb, 0, none⟩), .pointer (some ⟨ab, 0, none⟩)]) ∧ GP (fun k => k = q ∨ k = s) w w') ?reg ?cont
  case reg =>
    apply wpIn_noPanic
    refine wpIn_region_held (S := fun V' => V'.cell? ⟨w1.heap.size, 0, none⟩ = some (.func (.func 104) #[] #[.pointer (some ⟨kb, 0, none⟩), .pointer (some ⟨ab, 0, none⟩)])) (by kernel_rfl) (by rw [← hV]; exact hbV.cell) (fun hS0 => ?_)
    rw [← hV]
    have hSV := hbV.cell
    clear hS0 hV
    refine wpAnyHIn_take (i := 0) (oi := ⟨some 11, _, _, _, _, _⟩) (v := ?_) rfl (by kernel_rfl) (by kernel_rfl) (by kernel_rfl) (by kernel_rfl) (fun _ _ _ h => h) (fun _ => rfl) (Or.inl ⟨by rfl, ?_⟩) (by assumption) ?_
    rotate_left
    · (intro w hSw; (try dsimp only at hSw); go_simp; try with_reducible rfl)
    try simp only [Act.put, List.setIfInBounds_toArray, List.set_cons_zero, List.set_cons_succ]
    refine wpAnyHIn_take (i := 1) (oi := ⟨some 12, _, _, _, _, _⟩) (v := ?_) rfl (by kernel_rfl) (by kernel_rfl) (by kernel_rfl) (by kernel_rfl) (fun _ _ _ h => h) (fun _ => rfl) (Or.inl ⟨by rfl, ?_⟩) (by assumption) ?_
    rotate_left
    · (intro w hSw; (try dsimp only at hSw); go_simp; try with_reducible rfl)
    try simp only [Act.put, List.setIfInBounds_toArray, List.set_cons_zero, List.set_cons_succ]
    refine wpAnyHIn_take (i := 3) (oi := ⟨some 14, _, _, _, _, _⟩) (v := ?_) rfl (by kernel_rfl) (by kernel_rfl) (by kernel_rfl) (by kernel_rfl) (fun _ _ _ h => h) (fun _ => rfl) (Or.inl ⟨by rfl, ?_⟩) (by assumption) ?_
    rotate_left
    · (intro w hSw; (try dsimp only at hSw); go_simp; try with_reducible rfl)
    try simp only [Act.put, List.setIfInBounds_toArray, List.set_cons_zero, List.set_cons_succ]
    refine wpAnyHIn_take (i := 4) (oi := ⟨some 15, _, _, _, _, _⟩) (v := ?_) rfl (by kernel_rfl) (by kernel_rfl) (by kernel_rfl) (by kernel_rfl) (fun _ _ _ h => h) (fun _ => rfl) (Or.inl ⟨by rfl, ?_⟩) (by assumption) ?_
    rotate_left
    · (intro w hSw; (try dsimp only at hSw); go_simp; try with_reducible rfl)
    try simp only [Act.put, List.setIfInBounds_toArray, List.set_cons_zero, List.set_cons_succ]
    refine wpAnyHIn_take (i := 5) (oi := ⟨some 16, _, _, _, _, _⟩) (v := ?_) rfl (by kernel_rfl) (by kernel_rfl) (by kernel_rfl) (by kernel_rfl) (fun _ _ _ h => h) (fun _ => rfl) (Or.inl ⟨by rfl, ?_⟩) (by assumption) ?_
    rotate_left
    · (intro w hSw; (try dsimp only at hSw); go_simp; try with_reducible rfl)
    try simp only [Act.put, List.setIfInBounds_toArray, List.set_cons_zero, List.set_cons_succ]
    refine wpAnyHIn_two (i := 2) (j := 6) (by kernel_rfl) rfl rfl (by rfl) (by rfl) (fun K hK => ?_) (fun K hK => ?_)
    · go_simp
      refine ⟨trivial, (callsIn_wide.2 (N.call 0 V (by decide) hNV)).mono ?_⟩
      rintro e w3 ⟨rfl, hN3, g3⟩
      have gV3 : w.grownBy w3 none := gnew gV g3 (fun k e => by cases e; exact .inl hab)
      have hb3 := hbV.kept g3 (by simp; omega)
      have hF3 := h.kept gV3 (by simp)
      have y10 := hF3.moves
      rw [hmv] at y10
      refine hK.out _ _ hb3.cell (fun _ => ?_)
      clear hK
      refine wpAnyHIn_next (i := 6) (by kernel_rfl) rfl (by rfl) (fun K hK => ?_)
      go_simp
      refine hK.out _ _ hb3.cell (fun _ => ?_)
      clear hK
      refine wpAnyHIn_take (i := 7) (oi := ⟨some 18, _, _, _, _, _⟩) (v := ?_) rfl (by kernel_rfl) (by kernel_rfl) (by kernel_rfl) (by kernel_rfl) (fun _ _ _ h => h) (fun _ => rfl) (Or.inl ⟨by rfl, ?_⟩) (by assumption) ?_
      rotate_left
      · (intro w hSw; (try dsimp only at hSw); go_simp; try with_reducible rfl)
      try simp only [Act.put, List.setIfInBounds_toArray, List.set_cons_zero, List.set_cons_succ]
      refine wpAnyHIn_next (i := 8) (by kernel_rfl) rfl (by rfl) (fun K hK => ?_)
      go_simp
      refine ⟨trivial, (callsIn_wide.2 (surv_any (keepAt keep 0) ml.length (by omega) w3)).mono ?_⟩
      rintro e w4 ⟨rfl, rfl⟩
      rw [show surv (keepAt keep 0) ml.length = nm from hnm.out.symm]
      refine hK.out _ _ hb3.cell (fun _ => ?_)
      clear hK
      refine wpAnyHIn_next (i := 9) (by kernel_rfl) rfl (by rfl) (fun K hK => ?_)
      go_simp
      refine ⟨trivial, (callsIn_wide.2 (fsSettle_any nm ml l w3 hF3 (hds.kept gV3 (by simp)) (World.ownsRow.kept hr gV3 (by cases mv.ownBlock <;> simp)) hm (by rw [hnm.out]; exact surv_le _ _) hn2 hsq hmq hms)).mono ?_⟩
      rintro e w5 ⟨rfl, k1, k2, k3⟩
      have hb5 : Boxed w5 w1.heap.size 58 (.func (.func 104) #[] #[.pointer (some ⟨kb, 0, none⟩), .pointer (some ⟨ab, 0, none⟩)]) := (k3.block _ hb3.lt (by rintro (e | e) <;> omega)).trans hb3
      refine hK.out _ _ hb5.cell (fun _ => ?_)
      clear hK
      refine wpAnyHIn_done (by kernel_rfl) ?_ _
      refine noPanic_normal ?_
      exact ⟨rfl, rfl, k1, by rw [hl'.out]; exact k2, N.kept _ _ _ hN3 (fun k hk => k3.block k (N.lt _ _ hN3 k hk) (by rintro (e | e) <;> (have := hnbl k hk; omega))), hb5, (GP.of (P := fun k => k = q ∨ k = s) gV3 (by simp)).trans k3 (fun k e => .inl e)⟩
    · go_simp
      refine hK.out _ _ hbV.cell (fun _ => ?_)
      clear hK
      refine wpAnyHIn_take (i := 7) (oi := ⟨some 18, _, _, _, _, _⟩) (v := ?_) rfl (by kernel_rfl) (by kernel_rfl) (by kernel_rfl) (by kernel_rfl) (fun _ _ _ h => h) (fun _ => rfl) (Or.inl ⟨by rfl, ?_⟩) (by assumption) ?_
      rotate_left
      · (intro w hSw; (try dsimp only at hSw); go_simp; try with_reducible rfl)
      try simp only [Act.put, List.setIfInBounds_toArray, List.set_cons_zero, List.set_cons_succ]
      refine wpAnyHIn_next (i := 2) (by kernel_rfl) rfl (by rfl) (fun K hK => ?_)
      go_simp
      refine ⟨trivial, (callsIn_wide.2 (N.call 0 V (by decide) hNV)).mono ?_⟩
      rintro e w3 ⟨rfl, hN3, g3⟩
      have gV3 : w.grownBy w3 none := gnew gV g3 (fun k e => by cases e; exact .inl hab)
      have hb3 := hbV.kept g3 (by simp; omega)
      have hF3 := h.kept gV3 (by simp)
      have y10 := hF3.moves
      rw [hmv] at y10
      refine hK.out _ _ hb3.cell (fun _ => ?_)
      clear hK
      refine wpAnyHIn_next (i := 8) (by kernel_rfl) rfl (by rfl) (fun K hK => ?_)
      go_simp
      refine ⟨trivial, (callsIn_wide.2 (surv_any (keepAt keep 0) ml.length (by omega) w3)).mono ?_⟩
      rintro e w4 ⟨rfl, rfl⟩
      rw [show surv (keepAt keep 0) ml.length = nm from hnm.out.symm]
      refine hK.out _ _ hb3.cell (fun _ => ?_)
      clear hK
      refine wpAnyHIn_next (i := 9) (by kernel_rfl) rfl (by rfl) (fun K hK => ?_)
      go_simp
      refine ⟨trivial, (callsIn_wide.2 (fsSettle_any nm ml l w3 hF3 (hds.kept gV3 (by simp)) (World.ownsRow.kept hr gV3 (by cases mv.ownBlock <;> simp)) hm (by rw [hnm.out]; exact surv_le _ _) hn2 hsq hmq hms)).mono ?_⟩
      rintro e w5 ⟨rfl, k1, k2, k3⟩
      have hb5 : Boxed w5 w1.heap.size 58 (.func (.func 104) #[] #[.pointer (some ⟨kb, 0, none⟩), .pointer (some ⟨ab, 0, none⟩)]) := (k3.block _ hb3.lt (by rintro (e | e) <;> omega)).trans hb3
      refine hK.out _ _ hb5.cell (fun _ => ?_)
      clear hK
      refine wpAnyHIn_done (by kernel_rfl) ?_ _
      refine noPanic_normal ?_
      exact ⟨rfl, rfl, k1, by rw [hl'.out]; exact k2, N.kept _ _ _ hN3 (fun k hk => k3.block k (N.lt _ _ hN3 k hk) (by rintro (e | e) <;> (have := hnbl k hk; omega))), hb5, (GP.of (P := fun k => k = q ∨ k = s) gV3 (by simp)).trans k3 (fun k e => .inl e)⟩
  case cont =>
    rintro e a' W ⟨rfl, rfl, hF5, hD5, hN5, hb5, gw5⟩
    dsimp only
    have x9 := hF5.safe
    have hio := inOrder_any s W
    clear x10 hFV hbV hNV gV gV2 hV hb2 g12 x3 hds hr hm
    replace hN5 := Lib.hid hN5
    gi_wp2_with first
      | (gi_at_call 81; refine (callsIn_wide.2 hio).mono ?_; clear hio; rintro e W3 ⟨bx, rfl, hbx, g3, hbxl⟩)
    obtain ⟨NS, hNS⟩ : ∃ NS : Nat → World → Prop, NS = (fun i w => ∃ i', (keep = [] ∧ i' = 0 ∨ keep ≠ [] ∧ i' = i) ∧ TurnAt ab kb (.slice ka keep.length kc) keep i' w) := ⟨_, rfl⟩
    have hN5' : NS 1 W := by rw [hNS]; exact hN5.out
    rw [← hNS] at N
    clear hN5 hNS
    have hw1 : w1.heap.size + 1 ≤ W3.heap.size := by have := hb5.lt; have := g3.size; omega
    have sW := g3.size
    have hb5l := hb5.lt
    have hF3 := hF5.kept g3 (by simp)
    have hD3 := hD5.kept g3 (by simp)
    have hb3 := hb5.kept g3 (by simp)
    have hN3 : NS 1 W3 := N.kept 1 W W3 hN5' (fun k hk' => g3.block k (N.lt 1 W hN5' k hk') (by simp))
    have hnl3 := N.lt 1 W3 hN3
    have hM3 : FilesM W3 (filesOf F l'.sorted) := (hF.kept gw5 (fun k hk' e => by rcases e with e | e; exact (hfb k hk').1 e; exact (hfb k hk').2.1 e)).kept (GP.of (P := fun _ => False) g3 (by simp)) (fun _ _ h => h)
    have hfl3 := hM3.lt
    have wW := gw5.size
    have hap3 : ∀ k ∈ filesBlocks (filesOf F l'.sorted), k ∉ (ab :: kb :: (Value.slice ka keep.length kc).ownBlock.toList) ∧ k < W3.heap.size := fun k hk' => ⟨fun e => (hnbl k e).2.2 hk', hfl3 k hk'⟩
    have hbxl3 : bx < W3.heap.size := lt_of_block hbx
    have hnb3 : w1.heap.size ∉ filesBlocks (filesOf F l'.sorted) ∧ w1.heap.size < W3.heap.size ∧ some ab ≠ some w1.heap.size := ⟨fun e => by have := hfl _ e; omega, by omega, by simp; omega⟩
    refine range_tellsZ1 (a := _) (w := W3) (α := List UInt8 × Nat) rfl (by omega) (gf := 98) (lb := #[.pointer (some ⟨bx, 0, none⟩)]) rfl trivial (enters_of Tryz.func98 (by kernel_rfl) rfl)
      (inOrder1_tells _ bx s l' W3 (by omega) hbx hD3 (by omega)) (fun k hk' => by rcases hk' with rfl | rfl <;> omega) (fun _ => rfl) (fun _ _ _ _ _ _ h _ _ _ => h)
      (Ft (DieI W3 (some ab) w1.heap.size (.func (.func 104) #[] #[.pointer (some ⟨kb, 0, none⟩), .pointer (some ⟨ab, 0, none⟩)]) NS (ab :: kb :: (Value.slice ka keep.length kc).ownBlock.toList) (keepAt keep) l'.sorted F)) (fun _ _ _ _ => False) (fun Z s A h => by obtain ⟨_, ⟨h, _⟩, _⟩ := h; exact h)
      (Ft.tame (DieI.keep N)) (fun c => ⟨fun _ _ _ _ _ h => h.elim, fun _ _ _ _ _ h => h.elim⟩)
      ⟨fun k => k = w1.heap.size ∨ k ∈ (ab :: kb :: (Value.slice ka keep.length kc).ownBlock.toList) ∨ k ∈ filesBlocks (filesOf F l'.sorted), ⟨Nat.le_refl _, hb3, .inl rfl, fun k hk' => .inr (.inl hk'), hN3, F, by simpa [filesOf] using hM3, fun k hk' => .inr (.inr (by simpa [filesOf] using hk')), fun i x hi => by simp at hi, fun x hx => by simp at hx, GP.refl _ _⟩, fun k hk' => by
        rcases hk' with e | e | e
        · exact ⟨fun hz => by rcases hz with hz | hz <;> omega, by omega⟩
        · have h1 := hnl3 k e
          have h2 := N.lt 1 W hN5' k e
          have h3 := hnbl k e
          exact ⟨fun hz => by rcases hz with hz | hz <;> omega, h1⟩
        · have h1 := hfl k e
          have h2 := hfb k e
          exact ⟨fun hz => by rcases hz with hz | hz <;> omega, hfl3 k e⟩⟩
      ?a1 (fun _ _ _ _ h _ => h) ?assign ?body ?done ?stop
    case assign =>
      intro ll x W K hK
      dsimp only [dEnc]
      gi_wp2
      exact hK
    case stop =>
      rintro D c Z pre W W' _ _ _ _ _ h
      exact h.elim
    case body =>
      rintro ll Z pre x W4 hZ0 hZl ⟨Foot, hJ, hFt⟩ ⟨hpre, hx⟩ hsz
      obtain ⟨nmx, b⟩ := x
      have hin : (nmx, b) ∈ l'.sorted := List.mem_of_getElem? hx
      obtain ⟨hok1, hok2⟩ := hok _ hin
      dsimp only at hok1 hok2
      have hJ0 := hJ
      obtain ⟨j1, j2, j3, j4, j5, G, j6, j7, j8, j9, j10⟩ := hJ
      have hpl : pre.length < l'.sorted.length := (List.getElem?_eq_some_iff.1 hx).1
      have hdrop : List.drop pre.length l'.sorted = (nmx, b) :: List.drop (pre.length + 1) l'.sorted := by
        rw [List.drop_eq_getElem_cons hpl]
        rw [(List.getElem?_eq_some_iff.1 hx).2]
      have hfile : FileAt W4 b (F b) := j6.1 (b, F b) (by rw [hdrop]; simp [filesOf])
      have hfin : ∀ k, k = b ∨ k ∈ (F b).blocks → k ∈ filesBlocks (filesOf F l'.sorted) := fun k hk' => mem_filesBlocks.2 ⟨(b, F b), mem_filesOf.2 ⟨_, hin, rfl⟩, hk'⟩
      have hcb : 1 + cnt F pre + (F b).chg.length < 4611686018427387904 := by
        have h1 := cnt_append F pre (nmx, b)
        have h2 := cnt_take F l'.sorted (pre.length + 1)
        rw [List.take_add_one, hx, ← hpre] at h2
        simp only [Option.toList_some] at h2
        dsimp only at h1
        omega
      have hst := settle_any _ _ _ _ _ NS N b (F b) W4 (1 + cnt F pre) hfile j5 hok1 hcb ⟨(hap3 b (hfin b (.inl rfl))).1, fun k hk' => (hap3 k (hfin k (.inr hk'))).1⟩
      have cnb := j2.cell
      have hslen := settleP_len (keepAt keep) (F b).chg (1 + cnt F pre) (F b).safe hok1 hok2
      obtain ⟨S, hS⟩ : ∃ S, S = settleP (keepAt keep) (1 + cnt F pre) true (F b).safe (F b).chg := ⟨_, rfl⟩
      rw [← hS] at hst hslen
      replace hS := Lib.hid hS
      replace hJ0 := Lib.hid hJ0
      replace hpre := Lib.hid hpre
      replace hx := Lib.hid hx
      have hnext := fun W7 f' g h3 h4 h5 h6 => DieI.next (Z := Z) (P := fun k => k = b ∨ (F b).sv.ownBlock = some k ∨ some ab = some k) (W5 := W7) (f' := f') hJ0.out hFt hZl hpre.out hx.out hap3 hnb3 (fun r e => N.mem r e) hnl3 g (fun k hk' => by
        rcases hk' with e | e | e
        · exact .inl e
        · exact .inr (.inl (FileV.mem_s e))
        · exact .inr (.inr e)) h3 h4 h5 h6
      replace hnext := Lib.hid hnext
      clear j1 j2 j3 j4 j5 j6 j7 j8 j9 j10 hdrop hpl hF hM3 hF3 hD3 hb3 hN3 hok
      have hg1 : Fence.wide.fn 57 := trivial
      have hg2 : Fence.wide.fn 50 := trivial
      gi_wp2_with first
        | (gi_at_call 57; refine (callsIn_wide.2 hst).mono ?_; clear hst; rintro e W5 ⟨rfl, sv, k1, k2, k3, k4⟩; obtain ⟨sa, sc, hsv⟩ : ∃ a c, sv = .slice a S.length c := rowFormS k1.2.1; subst hsv; have c0 := k1.c0; have hcp := fcopied_any sa S.length sc S W5 k1.2.1.reads hslen; dsimp only at c0; replace k1 := Lib.hid k1; replace k2 := Lib.hid k2; replace k3 := Lib.hid k3; replace k4 := Lib.hid k4)
        | (gi_at_call 50; refine (callsIn_wide.2 hcp).mono ?_; clear hcp; rintro e W6 ⟨v6, rfl, o6, g6⟩; obtain ⟨a6, c6, rfl⟩ := rowFormS o6; have k6 := k1.out.kept (GP.of (P := fun _ => False) g6 (by simp)) (fun h => h) (fun _ _ h => h); have c1 := k6.c1; have f1 := k6.free 1; dsimp only at c1; replace k6 := Lib.hid k6; replace o6 := Lib.hid o6; replace g6 := Lib.hid g6)
      have gs := gset (World.grownBy.refl W6 (some b)) 1 (.slice a6 S.length c6)
      have k1 := k1.out
      have k6 := k6.out
      have o6 := o6.out
      have g6 := g6.out
      have k3 := k3.out
      have k4 := k4.out
      have sz5 := k3.size
      have hb7 := heap_setCell_same W6 b 1 _ _ (.slice a6 S.length c6) k6.1
      obtain ⟨_, hs6, _, hc6, hnd6⟩ := k6
      dsimp only at hs6 hc6 hnd6
      have hvo := Owns.lt o6
      have hbl5 := k1.lt
      have hsb : (Value.slice sa S.length sc).ownBlock ≠ some b := fun e => by have := (List.nodup_cons.1 hnd6).1; simp [FileV.blocks, e] at this
      have hvb : (Value.slice a6 S.length c6).ownBlock ≠ some b := fun e => by have := (hvo b e).1; omega
      have hss := Owns.lt k1.2.1
      have hf7 : FileAt (W6.setCell ⟨b, 1, none⟩ (.slice a6 S.length c6)) b ⟨.slice sa S.length sc, .slice a6 S.length c6, .slice none 0 0, S, S, []⟩ :=
        ⟨hb7, Owns.kept hs6 gs (.inr hsb), Owns.kept (o6.mono (B' := 0) (Nat.zero_le _)) gs (.inr hvb), World.ownsRow_nil _ _ _ _, nodup3 hsb hvb (by simp [Value.ownBlock]) (fun k e e2 => by have := (hvo k e2).1; have := (hss k e).2; omega) (fun k _ e => by simp [Value.ownBlock] at e) (fun k _ e => by simp [Value.ownBlock] at e)⟩
      refine hnext.out _ _ ((k3.step g6 (by simp)).step gs (fun k e => by cases e; exact .inl (.inl rfl))) hf7 (fun k hk' => ?_) ⟨hS.out, rfl, rfl⟩ ?_
      · rcases FileV.mem hk' with e | e | e
        · exact (k4 k e).imp FileV.mem_s id
        · exact .inr (Nat.le_trans sz5 (hvo k e).1)
        · simp [Value.ownBlock] at e
      · rw [cnt_append, ← Nat.add_assoc]
        exact N.kept _ _ _ k2.out (fun k hk' => (gs.block k (by have := N.lt _ _ k2.out k hk'; have := g6.size; omega) (fun e => by
          cases e
          exact (hap3 b (hfin b (.inl rfl))).1 hk')).trans (g6.block k (N.lt _ _ k2.out k hk') (by simp)))
    case done =>
      rintro D Z xs Wd W15 hD hZD hZ0 hZl hS ⟨Foot, hJ, hFt⟩ g15 hM
      obtain rfl : xs = l'.sorted := hS
      obtain ⟨j1, j2, j3, j4, j5, G, j6, j7, j8, j9, j10⟩ := hJ
      rw [List.drop_length, show filesOf F [] = [] from rfl, List.append_nil] at j6 j7
      have nq : ¬ (some ab = some q ∨ q ∈ filesBlocks (filesOf F l'.sorted)) := fun e => by
        rcases e with e | e
        · simp at e; omega
        · exact (hfb q e).1 rfl
      have ns : ¬ (some ab = some s ∨ s ∈ filesBlocks (filesOf F l'.sorted)) := fun e => by
        rcases e with e | e
        · simp at e; omega
        · exact (hfb s e).2.1 rfl
      have hF15 := hF3.gp j10 nq
      have hD15 : DirM W15 s l' := hD3.zk (Z := fun k => k = s) ⟨j10.size, fun k h1 h2 => j10.block k h1 (by rw [h2]; exact ns)⟩ rfl
      have hmc := mapClone_any s l' W15 hD15
      have x9 := hF15.safe
      have hDl : D < W15.heap.size := (Array.getElem?_eq_some_iff.1 hM).1
      have hqD : q ≠ D := by omega
      have hsD : s ≠ D := by omega
      have s15 := j10.size
      have hjl := j6.lt
      have hGD : ∀ k ∈ filesBlocks (filesOf G l'.sorted), k ≠ D := fun k hk' e => (hFt k (j7 k hk')).1 (by rw [e]; exact hZD)
      have hGq : ∀ k ∈ filesBlocks (filesOf G l'.sorted), k ≠ q := fun k hk' => by
        obtain ⟨pp, hp, hk''⟩ := mem_filesBlocks.1 hk'
        obtain ⟨x, hx1, rfl⟩ := mem_filesOf.1 hp
        rcases hk'' with e | e
        · exact (hfb k (mem_filesBlocks.2 ⟨_, mem_filesOf.2 ⟨x, hx1, rfl⟩, .inl e⟩)).1
        · rcases j9 x hx1 k e with e2 | e2
          · exact (hfb k (mem_filesBlocks.2 ⟨_, mem_filesOf.2 ⟨x, hx1, rfl⟩, .inr e2⟩)).1
          · omega
      clear hF hM3 hF3 hD3 hb3 hN3 hok j1 j2 j3 j4 j5 hFt hZl hZ0 g15
      replace j6 := Lib.hid j6
      replace j7 := Lib.hid j7
      replace j8 := Lib.hid j8
      replace j9 := Lib.hid j9
      replace j10 := Lib.hid j10
      replace hD15 := Lib.hid hD15
      replace hM := Lib.hid hM
      gi_wp2_with first
        | (gi_at_call 88; refine (callsIn_wide.2 hmc).mono ?_; clear hmc; rintro e W16 ⟨rfl, m1, g16⟩; have hF16 := hF15.kept g16 (by simp); have c8 := hF16.dir; have f8 := hF16.free 8; have hF17 := hF16.setDir W15.heap.size; have c1 := hF17.isDead; have f1 := hF17.free 1; have hF18 := hF17.setDead true; replace hF16 := Lib.hid hF16; replace hF17 := Lib.hid hF17; replace hF18 := Lib.hid hF18; replace m1 := Lib.hid m1; replace g16 := Lib.hid g16)
      have g16 := g16.out
      have hF18 := hF18.out
      have g18 : W16.grownBy ((W16.setCell ⟨q, 8, none⟩ (.map (some W15.heap.size))).setCell ⟨q, 1, none⟩ (.bool true)) (some q) := gset (gset (World.grownBy.refl W16 (some q)) 8 _) 1 _
      generalize (W16.setCell ⟨q, 8, none⟩ (.map (some W15.heap.size))).setCell ⟨q, 1, none⟩ (.bool true) = W18 at hF18 g18 ⊢
      have s16 := g16.size
      have s18 := g18.size
      have hql15 : q < W15.heap.size := by omega
      have hM18 := (g18.block D (by omega) (by simp; omega)).trans ((g16.block D hDl (by simp)).trans hM.out)
      have gp := grownBy_putObj' W18 D (.deferred none)
      have r1 := hF18.kept gp (by simp; omega)
      have r2 := ((hD15.out.kept g16 (by simp)).kept g18 (by simp; omega)).kept gp (by simp; omega)
      have r3 := (m1.out.kept g18 (by simp; omega)).kept gp (by simp; omega)
      have r4 : FilesM (W18.putObj D (.deferred none)) (filesOf G l'.sorted) := ((j6.out.kept (GP.of (P := fun _ => False) g16 (by simp)) (fun _ _ h => h)).kept (GP.of (P := fun k => k = q) g18 (fun k e => by cases e; rfl)) hGq).kept (GP.of (P := fun k => k = D) gp (fun k e => by cases e; rfl)) hGD
      have r5 : GP (fun k => k = q ∨ k = s ∨ k ∈ filesBlocks (filesOf F l'.sorted)) w (W18.putObj D (.deferred none)) := ((((((GP.refl _ w).trans gw5 (fun k e => .inl (by rcases e with e | e; exact .inl e; exact .inr (.inl e)))).step g3 (by simp)).trans j10.out (fun k e => by
        rcases e with e | e
        · right; simp at e; omega
        · exact .inl (.inr (.inr e)))).step g16 (by simp)).step g18 (fun k e => by cases e; exact .inl (.inl rfl))).step gp (fun k e => by cases e; right; omega)
      have r6 : ∀ k ∈ filesBlocks (filesOf G l'.sorted), k ≠ W15.heap.size := fun k hk' => by have := hjl k hk'; omega
      have r7 : ∀ x ∈ l'.sorted, ∀ k ∈ (G x.2).blocks, k ∈ (F x.2).blocks ∨ w.heap.size ≤ k := fun x hx1 k hk' => (j9.out x hx1 k hk').imp id (fun h => by omega)
      have r8 := j8.out
      have r9 : w.heap.size ≤ W15.heap.size := by omega
      refine ⟨by simp, .inl ⟨_, _, rfl, run_takeDeferred hM18, ?_⟩⟩
      clear gp hM18 g18 hF18 j6 j7 j8 j9 j10
      generalize W18.putObj D (.deferred none) = W19 at r1 r2 r3 r4 r5 ⊢
      simp only [LeavesInM, LeavesIn]
      exact ⟨.tuple #[], results_none rfl _ _ _, rfl, _, G, r1, r2, r3, r9, r4, r8, r7, r6, r5⟩
end
end Go.Proofs.YtcehddlplkfflaaGreat

/-
  LAYER 1 (fs): Start.
-/
namespace Go.Proofs.YtcehddlplkfflaaGreat
set_option maxRecDepth 100000
open Go.RowKit Go.Lib
open Go.Proofs (encStr)
attribute [local go_sem] Oper.semAt_some

theorem gbut2 {a c : World} (h : a.grownBy c none) (row : Option Nat) : a.grownBy c row := ⟨h.os, h.tape, h.output, h.size, fun i hi _ => h.block i hi (by simp)⟩
section
variable {w : World} {q : Nat} {p : PlV} {ops : Int} {d s : Nat} {mv : Value}
theorem FsAt.setPlan {dead : Bool} (h : FsAt w q dead p ops d s mv) (p' : PlV) : FsAt (((((w.setCell ⟨q, 2, none⟩ (.int .i64 p'.c)).setCell ⟨q, 3, none⟩ p'.k).setCell ⟨q, 4, none⟩ p'.f).setCell ⟨q, 5, none⟩ p'.u).setCell ⟨q, 6, none⟩ (.int .i64 p'.r)) q dead p' ops d s mv :=
  heap_setCell_same _ q 6 _ _ _ (heap_setCell_same _ q 5 _ _ _ (heap_setCell_same _ q 4 _ _ _ (heap_setCell_same _ q 3 _ _ _ (heap_setCell_same w q 2 _ _ _ h))))

set_option maxHeartbeats 8000000 in
/-- Start, with whatever die does (D). -/
theorem start_gen (dead : Bool) (D : World → World → Nat → Value → Prop) (vk vf vu : Value) (pl : Pl) (w : World) (h : FsAt w q dead p ops d s mv)
    (hdie : dead = false → ∀ W, w.grownBy W none → Calls Tryz.prog 61 #[.pointer (some ⟨q, 0, none⟩)] W fun e w' => e = .returned (.tuple #[]) ∧ ∃ d' mv', FsAt w' q true p ops d' s mv' ∧ D W w' d' mv')
    (hdead : dead = true → ∀ W, w.grownBy W none → D W W d mv)
    (hD : ∀ W W' d' mv', w.grownBy W none → D W W' d' mv' → W.heap.size ≤ W'.heap.size ∧ Ints (W'.setCell ⟨q, 1, none⟩ (.bool false)) vk pl.keep ∧ Ints (W'.setCell ⟨q, 1, none⟩ (.bool false)) vf pl.fail ∧ Ints (W'.setCell ⟨q, 1, none⟩ (.bool false)) vu pl.full ∧ (∀ x, W.heap[w.heap.size]? = some x → W'.heap[w.heap.size]? = some x))
    (lk : pl.keep.length * 8 ≤ 140737488351232) (lf : pl.fail.length * 8 ≤ 140737488351232) (lu : pl.full.length * 8 ≤ 140737488351232) :
    Calls Tryz.prog 24 #[.pointer (some ⟨q, 0, none⟩), .agg #[.int .i64 pl.crash, vk, vf, vu, .int .i64 pl.room]] w fun e w' => e = .returned (.int .i64 0) ∧ ∃ W W' d' mv' k' f' u', w.grownBy W none ∧ D W W' d' mv' ∧ W'.heap.size ≤ w'.heap.size ∧ FsAt w' q false ⟨pl.crash, k', f', u', pl.room⟩ 0 d' s mv' ∧
      w'.ownsRow W'.heap.size 3 1 k' pl.keep.length (pl.keep.map intV) ∧ w'.ownsRow W'.heap.size 3 1 f' pl.fail.length ((inOrd pl.fail).map intV) ∧ w'.ownsRow W'.heap.size 3 1 u' pl.full.length ((inOrd pl.full).map intV) ∧ GP (fun k => k = q) W' w' := by
  have hmade := fun W h => isMade_fs (q := q) (dead := dead) (p := p) (ops := ops) (d := d) (s := s) (mv := mv) W h
  have g0 := World.grownBy_alloc w (.cells #[.int .i64 pl.crash, vk, vf, vu, .int .i64 pl.room] 24) none
  have e0 := World.alloc_heap_new w (.cells #[.int .i64 pl.crash, vk, vf, vu, .int .i64 pl.room] 24)
  have h0 := h.kept g0 (by simp)
  obtain ⟨W, hW⟩ : ∃ W, W = w.alloc (.cells #[.int .i64 pl.crash, vk, vf, vu, .int .i64 pl.room] 24) := ⟨_, rfl⟩
  rw [← hW] at g0 e0 h0
  have hWs : W.heap.size = w.heap.size + 1 := by rw [hW]; simp
  have hmW := hmade W h0
  have hql := h.lt
  have c1 := h0.isDead
  -- behind die: the flag, the plan, the counter
  have hrest : ∀ W' d' mv', FsAt W' q true p ops d' s mv' → D W W' d' mv' → FsAt (W'.setCell ⟨q, 1, none⟩ (.bool false)) q false p ops d' s mv' ∧ PlanAt (W'.setCell ⟨q, 1, none⟩ (.bool false)) w.heap.size (.int .i64 pl.crash) vk vf vu (.int .i64 pl.room) ∧ W'.grownBy (W'.setCell ⟨q, 1, none⟩ (.bool false)) (some q) ∧
      Calls Tryz.prog 32 #[.agg #[.int .i64 pl.crash, vk, vf, vu, .int .i64 pl.room]] (W'.setCell ⟨q, 1, none⟩ (.bool false)) fun e w' => ∃ k' f' u', e = .returned (.agg #[.int .i64 pl.crash, k', f', u', .int .i64 pl.room]) ∧
        w'.ownsRow W'.heap.size 3 1 k' pl.keep.length (pl.keep.map intV) ∧ w'.ownsRow W'.heap.size 3 1 f' pl.fail.length ((inOrd pl.fail).map intV) ∧ w'.ownsRow W'.heap.size 3 1 u' pl.full.length ((inOrd pl.full).map intV) ∧ (W'.setCell ⟨q, 1, none⟩ (.bool false)).grownBy w' none := by
    intro W' d' mv' hF hDD
    obtain ⟨q1, q2, q3, q4, q5⟩ := hD W W' d' mv' g0 hDD
    have gs := gset (World.grownBy.refl W' (some q)) 1 (.bool false)
    have hsz : (W'.setCell ⟨q, 1, none⟩ (.bool false)).heap.size = W'.heap.size := by simp [World.setCell]
    refine ⟨hF.setDead false, (gs.block _ (by omega) (by simp; omega)).trans (q5 _ e0), gs, ?_⟩
    have := ownPlan_any vk vf vu pl _ q2 q3 q4 lk lf lu
    rw [hsz] at this
    exact this
  replace hrest := Lib.hid hrest
  clear hD
  cases dead
  · have hd2 := hdie rfl
    clear hdie hdead hmade
    go_enter Tryz.func24, Tryz.ntmps24
    go_wp2_with fail
    rw [← hW]
    clear hW
    go_wp2_with first
      | (go_at_call 53; refine hmW.mono ?_; rintro e w2 ⟨rfl, rfl⟩)
      | (go_at_call 61; refine (hd2 _ g0).mono ?_; clear hd2; rintro e w2 ⟨rfl, d', mv', hFd, hDd⟩; obtain ⟨r1, r2, r3, r4⟩ := hrest.out _ _ _ hFd hDd; have c1 := hFd.isDead; have f1 := hFd.free 1; have a0 := r2.c0; have a1 := r2.c1; have a2 := r2.c2; have a3 := r2.c3; have a4 := r2.c4; replace hDd := Lib.hid hDd; replace hFd := Lib.hid hFd; replace r1 := Lib.hid r1; replace r3 := Lib.hid r3; clear r2)
      | (go_at_call 32; refine r4.mono ?_; clear r4; rintro e w4 ⟨k', f', u', rfl, o1, o2, o3, g4⟩; obtain ⟨ka, kc, rfl⟩ := rowFormS o1; obtain ⟨fa, fc, rfl⟩ := rowFormS o2; obtain ⟨ua, uc, rfl⟩ := rowFormS o3; have r5 := r1.out.kept g4 (by simp); have b2 := r5.crash; have b3 := r5.keep; have b4 := r5.fail; have b5 := r5.full; have b6 := r5.room; have n2 := r5.free 2; have n3 := r5.free 3; have n4 := r5.free 4; have n5 := r5.free 5; have n6 := r5.free 6; replace r5 := Lib.hid r5; replace o1 := Lib.hid o1; replace o2 := Lib.hid o2; replace o3 := Lib.hid o3; replace g4 := Lib.hid g4)
      | (go_at_call 62; have r6 := r5.out.setPlan ⟨pl.crash, .slice ka pl.keep.length kc, .slice fa pl.fail.length fc, .slice ua pl.full.length uc, pl.room⟩; refine (store_fs 0 _ r6).mono ?_; rintro e w5 ⟨rfl, hw5⟩; have r7 := r6.setOps 0; rw [← hw5] at r7; replace r7 := Lib.hid r7; replace hw5 := Lib.hid hw5; clear r6)
    go_ret
    have gq : w2.grownBy w5 (some q) := by
      have gp : w4.grownBy w5 (some q) := by rw [hw5.out]; exact gset (gset (gset (gset (gset (gset (World.grownBy.refl w4 (some q)) 2 _) 3 _) 4 _) 5 _) 6 _) 7 _
      exact (r3.out.trans (gbut2 g4.out _)).trans gp
    have hlt := hFd.out.lt
    have rk : ∀ {v : Value} {n : Nat} {xs : List Value}, w4.ownsRow w2.heap.size 3 1 v n xs → w5.ownsRow w2.heap.size 3 1 v n xs := fun {v n xs} h => World.ownsRow.kept h (show w4.grownBy w5 (some q) by rw [hw5.out]; exact gset (gset (gset (gset (gset (gset (World.grownBy.refl w4 (some q)) 2 _) 3 _) 4 _) 5 _) 6 _) 7 _) (.inr (fun e => by have := (World.ownsRow.lt h _ e).1; omega))
    exact ⟨rfl, _, _, _, _, _, _, _, g0, hDd.out, gq.size, r7.out, rk o1.out, rk o2.out, rk o3.out, GP.of gq (fun k e => by cases e; rfl)⟩
  · have hDd := hdead rfl W g0
    clear hdie hdead hmade
    obtain ⟨r1, r2, r3, r4⟩ := hrest.out _ _ _ h0 hDd
    have hFd := Lib.hid h0
    have f1 := h0.free 1
    have a0 := r2.c0
    have a1 := r2.c1
    have a2 := r2.c2
    have a3 := r2.c3
    have a4 := r2.c4
    replace hDd := Lib.hid hDd
    replace r1 := Lib.hid r1
    replace r3 := Lib.hid r3
    clear r2
    go_enter Tryz.func24, Tryz.ntmps24
    go_wp2_with fail
    rw [← hW]
    clear hW
    go_wp2_with first
      | (go_at_call 53; refine hmW.mono ?_; rintro e w2 ⟨rfl, rfl⟩)
      | (go_at_call 32; refine r4.mono ?_; clear r4; rintro e w4 ⟨k', f', u', rfl, o1, o2, o3, g4⟩; obtain ⟨ka, kc, rfl⟩ := rowFormS o1; obtain ⟨fa, fc, rfl⟩ := rowFormS o2; obtain ⟨ua, uc, rfl⟩ := rowFormS o3; have r5 := r1.out.kept g4 (by simp); have b2 := r5.crash; have b3 := r5.keep; have b4 := r5.fail; have b5 := r5.full; have b6 := r5.room; have n2 := r5.free 2; have n3 := r5.free 3; have n4 := r5.free 4; have n5 := r5.free 5; have n6 := r5.free 6; replace r5 := Lib.hid r5; replace o1 := Lib.hid o1; replace o2 := Lib.hid o2; replace o3 := Lib.hid o3; replace g4 := Lib.hid g4)
      | (go_at_call 62; have r6 := r5.out.setPlan ⟨pl.crash, .slice ka pl.keep.length kc, .slice fa pl.fail.length fc, .slice ua pl.full.length uc, pl.room⟩; refine (store_fs 0 _ r6).mono ?_; rintro e w5 ⟨rfl, hw5⟩; have r7 := r6.setOps 0; rw [← hw5] at r7; replace r7 := Lib.hid r7; replace hw5 := Lib.hid hw5; clear r6)
    go_ret
    have gq : W.grownBy w5 (some q) := by
      have gp : w4.grownBy w5 (some q) := by rw [hw5.out]; exact gset (gset (gset (gset (gset (gset (World.grownBy.refl w4 (some q)) 2 _) 3 _) 4 _) 5 _) 6 _) 7 _
      exact (r3.out.trans (gbut2 g4.out _)).trans gp
    have hlt := hFd.out.lt
    have rk : ∀ {v : Value} {n : Nat} {xs : List Value}, w4.ownsRow W.heap.size 3 1 v n xs → w5.ownsRow W.heap.size 3 1 v n xs := fun {v n xs} h => World.ownsRow.kept h (show w4.grownBy w5 (some q) by rw [hw5.out]; exact gset (gset (gset (gset (gset (gset (World.grownBy.refl w4 (some q)) 2 _) 3 _) 4 _) 5 _) 6 _) 7 _) (.inr (fun e => by have := (World.ownsRow.lt h _ e).1; omega))
    exact ⟨rfl, _, _, _, _, _, _, _, g0, hDd.out, gq.size, r7.out, rk o1.out, rk o2.out, rk o3.out, GP.of gq (fun k e => by cases e; rfl)⟩
end
end Go.Proofs.YtcehddlplkfflaaGreat

/-
  LAYER 1 (fs): a file's clone.
-/
namespace Go.Proofs.YtcehddlplkfflaaGreat
set_option maxRecDepth 100000
open Go.RowKit Go.Lib
attribute [local go_sem] Oper.semAt_some

theorem Chg.v_one (c : Chg) : c.v.oneCell' = true := by cases c <;> rfl

set_option maxHeartbeats 2000000 in
theorem cloneChg_any (v : Value) (n : Nat) (l : List Chg) (w : World) (h : w.ownsRow 0 138 1 v n (l.map Chg.v)) (hn : n < 8796093022207) :
    Calls Tryz.prog 91 #[v] w fun e w' => ∃ v', e = .returned v' ∧ w'.ownsRow w.heap.size 138 1 v' n (l.map Chg.v) ∧ w.grownBy w' none := by
  obtain ⟨i0, hi, hz0, hz1, hz2⟩ := info_partsC
  have h0 := h
  have hl : (l.map Chg.v).length = n := by simpa using h.1
  have hone : ∀ u ∈ l.map Chg.v, u.oneCell' = true := by
    intro u hu
    obtain ⟨c, _, rfl⟩ := List.mem_map.1 hu
    exact c.v_one
  obtain ⟨_, ⟨rfl, hz⟩ | ⟨g, cap, cur, rfl, hB, hg, hc, hm, hs, ht⟩⟩ := h
  · subst hz
    have hnil : l.map Chg.v = [] := List.length_eq_zero_iff.1 hl
    rw [hnil]
    have hq : ∀ w, (binOp .eql 92 (.slice none 0 0) (.slice none 0 0)).run Tryz.prog w = .ok (.bool true) w := fun w => by rfl
    go_enter Tryz.func91, Tryz.ntmps91
    go_wp2
    go_ret
    exact ⟨_, rfl, World.ownsRow_nil _ _ _ _, World.grownBy.refl _ _⟩
  · have hcells : ∀ j u, (l.map Chg.v)[j]? = some u → (w.alloc (.cells #[] 138)).cell? ((⟨g, 0, none⟩ : Addr).add j) = some u := fun j u hj => (h0.alloc _).cells (g := g) rfl j u hj
    have hown : (w.alloc (.cells #[] 138)).ownsRow w.heap.size 138 1 (.slice (some ⟨w.heap.size, 0, none⟩) 0 0) 0 [] :=
      ⟨by simp, .inr ⟨w.heap.size, 0, #[], rfl, Nat.le_refl _, World.alloc_heap_new w _, Nat.le_refl _, by unfold maxLen; omega, by simp, by simp⟩⟩
    generalize l.map Chg.v = xs at *
    have hq : ∀ w, (binOp .eql 92 (.slice (some ⟨g, 0, none⟩) n cap) (.slice none 0 0)).run Tryz.prog w = .ok (.bool false) w := fun w => by rfl
    go_enter Tryz.func91, Tryz.ntmps91
    go_wp2_with (at_builtin; refine wpList_append_own_at _ rfl _ _ 92 rfl w.heap.size 138 i0 .nilIface 1 16 Tryz.underlying92 hi hz0 hz1 hz2 rfl (by decide) (.slice (some ⟨w.heap.size, 0, none⟩) 0 0) 0 [] rfl hown ⟨g, 0, none⟩ n cap xs rfl (by rw [hl, Nat.mul_one]) hcells hone (by rw [Nat.zero_add]; unfold maxLen; omega) (by rw [Nat.zero_add]; omega) (by simp) ?_; intro v' w' hown2 hgrow _ _)
    go_ret
    refine ⟨_, rfl, by simpa using hown2, ?_⟩
    exact gnew (World.grownBy_alloc w (.cells #[] 138) none) hgrow (fun r e => by simp [Value.ownBlock] at e; left; omega)

set_option maxHeartbeats 4000000 in
theorem fileClone_any (b : Nat) (f : FileV) (w : World) (h : FileAt w b f) (h1 : f.safe.length ≤ 140737488355328) (h2 : f.data.length ≤ 140737488355328) (hn : f.chg.length < 8796093022207) :
    Calls Tryz.prog 65 #[.pointer (some ⟨b, 0, none⟩)] w fun e w' => ∃ q g, e = .returned (.pointer (some ⟨q, 0, none⟩)) ∧ FileAt w' q g ∧ g.safe = f.safe ∧ g.data = f.data ∧ g.chg = f.chg ∧ w.heap.size ≤ q ∧ (∀ k ∈ g.blocks, w.heap.size ≤ k) ∧ w.grownBy w' none := by
  obtain ⟨hb, hs, hd, hc, hnd⟩ := h
  have hcell : ∀ w', w.grownBy w' none → w.grownBy w' none ∧ w'.cell? ⟨b, 0, none⟩ = some f.sv ∧ w'.cell? ⟨b, 1, none⟩ = some f.dv ∧ w'.cell? ⟨b, 2, none⟩ = some f.cv := fun w' g => by
    have e := (g.block b (lt_of_block hb) (by simp)).trans hb
    exact ⟨g, by simp [World.cell?, e], by simp [World.cell?, e], by simp [World.cell?, e]⟩
  have form : ∀ {e : TypeId} {v : Value} {n : Nat} {xs : List Value}, w.ownsRow 0 e 1 v n xs → ∃ a c, v = .slice a n c := by
    rintro e v n xs ⟨_, ⟨rfl, hz⟩ | ⟨g, cap, cur, rfl, _⟩⟩
    · exact ⟨none, 0, by rw [hz]⟩
    · exact ⟨_, _, rfl⟩
  obtain ⟨sa, sc, hsv⟩ := form hs
  obtain ⟨da, dc, hdv⟩ := form hd
  have K1 := fun W (g : w.grownBy W none) => fcopied_any sa f.safe.length sc f.safe W (by rw [← hsv]; exact (Owns.kept hs g (by cases f.sv.ownBlock <;> simp)).reads) h1
  have K2 := fun W (g : w.grownBy W none) => fcopied_any da f.data.length dc f.data W (by rw [← hdv]; exact (Owns.kept hd g (by cases f.dv.ownBlock <;> simp)).reads) h2
  have K3 := fun W (g : w.grownBy W none) => cloneChg_any f.cv f.chg.length f.chg W (World.ownsRow.kept hc g (by cases f.cv.ownBlock <;> simp)) hn
  rw [← hsv] at K1
  rw [← hdv] at K2
  clear form hsv hdv
  go_enter Tryz.func65, Tryz.ntmps65
  go_upto_region 1 with fail
  refine wp_region_held_drew (S := fun w' => w.grownBy w' none ∧ w'.cell? ⟨b, 0, none⟩ = some f.sv ∧ w'.cell? ⟨b, 1, none⟩ = some f.dv ∧ w'.cell? ⟨b, 2, none⟩ = some f.cv) (by kernel_rfl) (hcell _ (gdrew (World.grownBy.refl w none))) (fun hS => ?_)
  obtain ⟨V, hV⟩ : ∃ V, V = w.drew := ⟨_, rfl⟩
  rw [← hV] at hS ⊢
  clear hV
  refine wpAnyH_take (i := 0) (oi := ⟨some 3, _, _, _, _, _⟩) (v := ?_) rfl (by kernel_rfl) (by kernel_rfl) (by kernel_rfl) (fun _ _ _ h => h) (Or.inl ⟨by rfl, ?_⟩) (by assumption) ?_
  rotate_left
  · (intro w hSw; (try dsimp only at hSw); go_simp; try with_reducible rfl)
  try simp only [Act.put, List.setIfInBounds_toArray, List.set_cons_zero, List.set_cons_succ]
  refine wpAnyH_take (i := 1) (oi := ⟨some 4, _, _, _, _, _⟩) (v := ?_) rfl (by kernel_rfl) (by kernel_rfl) (by kernel_rfl) (fun _ _ _ h => h) (Or.inl ⟨by rfl, ?_⟩) (by assumption) ?_
  rotate_left
  · (intro w hSw; (try dsimp only at hSw); go_simp; try with_reducible rfl)
  try simp only [Act.put, List.setIfInBounds_toArray, List.set_cons_zero, List.set_cons_succ]
  refine wpAnyH_take (i := 2) (oi := ⟨some 5, _, _, _, _, _⟩) (v := ?_) rfl (by kernel_rfl) (by kernel_rfl) (by kernel_rfl) (fun _ _ _ h => h) (Or.inl ⟨by rfl, ?_⟩) (by assumption) ?_
  rotate_left
  · (intro w hSw; (try dsimp only at hSw); go_simp; try with_reducible rfl)
  try simp only [Act.put, List.setIfInBounds_toArray, List.set_cons_zero, List.set_cons_succ]
  refine wpAnyH_take (i := 3) (oi := ⟨some 6, _, _, _, _, _⟩) (v := ?_) rfl (by kernel_rfl) (by kernel_rfl) (by kernel_rfl) (fun _ _ _ h => h) (Or.inl ⟨by rfl, ?_⟩) (by assumption) ?_
  rotate_left
  · (intro w hSw; (try dsimp only at hSw); go_simp; try with_reducible rfl)
  try simp only [Act.put, List.setIfInBounds_toArray, List.set_cons_zero, List.set_cons_succ]
  refine wpAnyH_take (i := 5) (oi := ⟨some 8, _, _, _, _, _⟩) (v := ?_) rfl (by kernel_rfl) (by kernel_rfl) (by kernel_rfl) (fun _ _ _ h => h) (Or.inl ⟨by rfl, ?_⟩) (by assumption) ?_
  rotate_left
  · (intro w hSw; (try dsimp only at hSw); go_simp; try with_reducible rfl)
  try simp only [Act.put, List.setIfInBounds_toArray, List.set_cons_zero, List.set_cons_succ]
  refine wpAnyH_take (i := 6) (oi := ⟨some 9, _, _, _, _, _⟩) (v := ?_) rfl (by kernel_rfl) (by kernel_rfl) (by kernel_rfl) (fun _ _ _ h => h) (Or.inl ⟨by rfl, ?_⟩) (by assumption) ?_
  rotate_left
  · (intro w hSw; (try dsimp only at hSw); go_simp; try with_reducible rfl)
  try simp only [Act.put, List.setIfInBounds_toArray, List.set_cons_zero, List.set_cons_succ]
  refine wpAnyH_take (i := 7) (oi := ⟨some 10, _, _, _, _, _⟩) (v := ?_) rfl (by kernel_rfl) (by kernel_rfl) (by kernel_rfl) (fun _ _ _ h => h) (Or.inl ⟨by rfl, ?_⟩) (by assumption) ?_
  rotate_left
  · (intro w hSw; (try dsimp only at hSw); go_simp; try with_reducible rfl)
  try simp only [Act.put, List.setIfInBounds_toArray, List.set_cons_zero, List.set_cons_succ]
  refine wpAnyH_take (i := 8) (oi := ⟨some 11, _, _, _, _, _⟩) (v := ?_) rfl (by kernel_rfl) (by kernel_rfl) (by kernel_rfl) (fun _ _ _ h => h) (Or.inl ⟨by rfl, ?_⟩) (by assumption) ?_
  rotate_left
  · (intro w hSw; (try dsimp only at hSw); go_simp; try with_reducible rfl)
  try simp only [Act.put, List.setIfInBounds_toArray, List.set_cons_zero, List.set_cons_succ]
  refine wpAnyH_take (i := 10) (oi := ⟨some 13, _, _, _, _, _⟩) (v := ?_) rfl (by kernel_rfl) (by kernel_rfl) (by kernel_rfl) (fun _ _ _ h => h) (Or.inl ⟨by rfl, ?_⟩) (by assumption) ?_
  rotate_left
  · (intro w hSw; (try dsimp only at hSw); go_simp; try with_reducible rfl)
  try simp only [Act.put, List.setIfInBounds_toArray, List.set_cons_zero, List.set_cons_succ]
  refine wpAnyH_take (i := 11) (oi := ⟨some 14, _, _, _, _, _⟩) (v := ?_) rfl (by kernel_rfl) (by kernel_rfl) (by kernel_rfl) (fun _ _ _ h => h) (Or.inl ⟨by rfl, ?_⟩) (by assumption) ?_
  rotate_left
  · (intro w hSw; (try dsimp only at hSw); go_simp; try with_reducible rfl)
  try simp only [Act.put, List.setIfInBounds_toArray, List.set_cons_zero, List.set_cons_succ]
  refine wpAnyH_take (i := 12) (oi := ⟨some 15, _, _, _, _, _⟩) (v := ?_) rfl (by kernel_rfl) (by kernel_rfl) (by kernel_rfl) (fun _ _ _ h => h) (Or.inl ⟨by rfl, ?_⟩) (by assumption) ?_
  rotate_left
  · (intro w hSw; (try dsimp only at hSw); go_simp; try with_reducible rfl)
  try simp only [Act.put, List.setIfInBounds_toArray, List.set_cons_zero, List.set_cons_succ]
  refine wpAnyH_take (i := 13) (oi := ⟨some 16, _, _, _, _, _⟩) (v := ?_) rfl (by kernel_rfl) (by kernel_rfl) (by kernel_rfl) (fun _ _ _ h => h) (Or.inl ⟨by rfl, ?_⟩) (by assumption) ?_
  rotate_left
  · (intro w hSw; (try dsimp only at hSw); go_simp; try with_reducible rfl)
  try simp only [Act.put, List.setIfInBounds_toArray, List.set_cons_zero, List.set_cons_succ]
  refine wpAnyH_ready (rs := [4]) (by kernel_rfl) (by simp) ?_
  refine AllReadyH.cons rfl (fun K hK => ?_) AllReadyH.nil
  go_simp
  refine (K1 _ hS.1).mono ?_
  rintro e w1 ⟨v1, rfl, o1, g1⟩
  have hS1 := hcell _ (hS.1.trans g1)
  refine hK.out _ _ hS1 (fun _ => ?_)
  clear hK
  refine wpAnyH_ready (rs := [9]) (by kernel_rfl) (by simp) ?_
  refine AllReadyH.cons rfl (fun K hK => ?_) AllReadyH.nil
  go_simp
  refine (K2 _ hS1.1).mono ?_
  rintro e w2 ⟨v2, rfl, o2, g2⟩
  have hS2 := hcell _ (hS1.1.trans g2)
  refine hK.out _ _ hS2 (fun _ => ?_)
  clear hK
  refine wpAnyH_ready (rs := [14]) (by kernel_rfl) (by simp) ?_
  refine AllReadyH.cons rfl (fun K hK => ?_) AllReadyH.nil
  go_simp
  refine (K3 _ hS2.1).mono ?_
  rintro e w3 ⟨v3, rfl, o3, g3⟩
  have hS3 := hcell _ (hS2.1.trans g3)
  refine hK.out _ _ hS3 (fun _ => ?_)
  clear hK
  obtain ⟨a1, l1, c1, rfl⟩ : ∃ a n c, v1 = .slice a n c := by
    obtain ⟨_, ⟨rfl, _⟩ | ⟨g, cap, cur, rfl, _⟩⟩ := o1
    · exact ⟨_, _, _, rfl⟩
    · exact ⟨_, _, _, rfl⟩
  obtain ⟨a2, l2, c2, rfl⟩ : ∃ a n c, v2 = .slice a n c := by
    obtain ⟨_, ⟨rfl, _⟩ | ⟨g, cap, cur, rfl, _⟩⟩ := o2
    · exact ⟨_, _, _, rfl⟩
    · exact ⟨_, _, _, rfl⟩
  obtain ⟨a3, l3, c3, rfl⟩ : ∃ a n c, v3 = .slice a n c := by
    obtain ⟨_, ⟨rfl, _⟩ | ⟨g, cap, cur, rfl, _⟩⟩ := o3
    · exact ⟨_, _, _, rfl⟩
    · exact ⟨_, _, _, rfl⟩
  refine wpAnyH_take (i := 15) (oi := ⟨some 18, _, _, _, _, _⟩) (v := ?_) rfl (by kernel_rfl) (by kernel_rfl) (by kernel_rfl) (fun _ _ _ h => h) (Or.inl ⟨by rfl, ?_⟩) (by assumption) ?_
  rotate_left
  · (intro w hSw; (try dsimp only at hSw); go_simp; try with_reducible rfl)
  try simp only [Act.put, List.setIfInBounds_toArray, List.set_cons_zero, List.set_cons_succ]
  refine wpAnyH_ready (rs := [16]) (by kernel_rfl) (by simp) ?_
  refine AllReadyH.cons rfl (fun K hK => ?_) AllReadyH.nil
  go_simp
  have g4 := galloc hS3.1 (.cells #[.slice a1 l1 c1, .slice a2 l2 c2, .slice a3 l3 c3] 94)
  refine hK.out _ _ (hcell _ g4) (fun _ => ?_)
  clear hK
  refine wpAnyH_take (i := 17) (oi := ⟨some 2, _, _, _, _, _⟩) (v := ?_) rfl (by kernel_rfl) (by kernel_rfl) (by kernel_rfl) (fun _ _ _ h => h) (Or.inl ⟨by rfl, ?_⟩) (by assumption) ?_
  rotate_left
  · (intro w hSw; (try dsimp only at hSw); go_simp; try with_reducible rfl)
  try simp only [Act.put, List.setIfInBounds_toArray, List.set_cons_zero, List.set_cons_succ]
  refine wpAnyH_done (by kernel_rfl) ?_ _
  go_wp2_with fail
  have b1 := g1.size
  have b2 := g2.size
  have b3 := g3.size
  have bV := hS.1.size
  have n1 : ∀ k, (Value.slice a1 l1 c1).ownBlock = some k → V.heap.size ≤ k ∧ k < w1.heap.size := fun k e => Owns.lt o1 k e
  have n2 : ∀ k, (Value.slice a2 l2 c2).ownBlock = some k → w1.heap.size ≤ k ∧ k < w2.heap.size := fun k e => Owns.lt o2 k e
  have n3 : ∀ k, (Value.slice a3 l3 c3).ownBlock = some k → w2.heap.size ≤ k ∧ k < w3.heap.size := fun k e => World.ownsRow.lt o3 k e
  have gA := World.grownBy_alloc w3 (.cells #[.slice a1 l1 c1, .slice a2 l2 c2, .slice a3 l3 c3] 94) none
  have nn : ∀ v : Value, v.ownBlock = none ∨ v.ownBlock ≠ none := fun v => by cases v.ownBlock <;> simp
  have p1 := (((Owns.kept o1 g2 (nn _)).kept g3 (nn _)).kept gA (nn _)).mono (B' := 0) (Nat.zero_le _)
  have p2 := ((Owns.kept o2 g3 (nn _)).kept gA (nn _)).mono (B' := 0) (Nat.zero_le _)
  have p3 := World.ownsRow.kept o3 gA (nn _)
  have p3' : (w3.alloc (.cells #[.slice a1 l1 c1, .slice a2 l2 c2, .slice a3 l3 c3] 94)).ownsRow 0 138 1 (.slice a3 l3 c3) f.chg.length (f.chg.map Chg.v) := by
    obtain ⟨q1, q2 | ⟨g, cap, cur, q3, q4, q5⟩⟩ := p3
    · exact ⟨q1, .inl q2⟩
    · exact ⟨q1, .inr ⟨g, cap, cur, q3, Nat.zero_le _, q5⟩⟩
  go_ret
  refine ⟨_, ⟨.slice a1 l1 c1, .slice a2 l2 c2, .slice a3 l3 c3, f.safe, f.data, f.chg⟩, rfl, ⟨World.alloc_heap_new w3 _, p1, p2, p3', ?_⟩, rfl, rfl, rfl, by omega, ?_, g4⟩
  · refine nodup3 (fun e => ?_) (fun e => ?_) (fun e => ?_) (fun k e e2 => ?_) (fun k e e2 => ?_) (fun k e e2 => ?_)
    · have := n1 _ e; omega
    · have := n2 _ e; omega
    · have := n3 _ e; omega
    · have := n1 _ e; have := n2 _ e2; omega
    · have := n1 _ e; have := n3 _ e2; omega
    · have := n2 _ e; have := n3 _ e2; omega
  · intro k hk
    rcases FileV.mem hk with e | e | e
    · have := n1 _ e; omega
    · have := n2 _ e; omega
    · have := n3 _ e; omega
end Go.Proofs.YtcehddlplkfflaaGreat
