/-
  LAYER 1 (fs): die.
-/
import Derived.Test.YtfgmaeaojkfakaaGreatFDieP
import Derived.Test.YtfgmaeaojkfakaaGreatFMapCl
import Derived.Test.YtfgmaeaojkfakaaGreatFTurnB
import Derived.Test.YtfgmaeaojkfakaaGreatFSettleF
import Derived.Test.YtfgmaeaojkfakaaGreatFFull
import Derived.Laws.EntriesVeiled
namespace Go.Proofs.YtfgmaeaojkfakaaGreat
set_option maxRecDepth 100000
open Go.RowKit Go.Lib
open Go.Proofs (encStr)
attribute [local go_sem] Oper.semAt_some

/-- How many moves survive. -/
def dieN (keep : List Int) (ml : List Mv) : Nat := surv (keepAt keep 0) ml.length

section
variable {w : World} {q : Nat} {p : PlV} {ops : Int} {d s : Nat} {mv : Value}
theorem FsAt.setDir (h : FsAt w q false p ops d s mv) (d' : Nat) : FsAt (w.setCell ⟨q, 8, none⟩ (.map (some d'))) q false p ops d' s mv := heap_setCell_same w q 8 _ _ _ h

set_option maxHeartbeats 8000000 in
theorem die_any (keep : List Int) (ml : List Mv) (l : DirL) (F : Nat → FileV) (w : World) (h : FsAt w q false p ops d s mv) (hk : w.ownsRow 0 3 1 p.k keep.length (keep.map intV)) (hlk : keep.length < 4611686018427387904)
    (hds : DirM w s l) (hr : w.ownsRow 0 110 3 mv ml.length (mvCells ml)) (nm : Nat) (hnm : nm = dieN keep ml) (hm : okMoves (ml.take nm) l) (l' : DirL) (hl' : l' = movesDone (ml.take nm) l) (hn2 : ml.length < 3518437208882) (hl9 : l'.length ≤ 3518437208881)
    (hF : FilesM w (filesOf F l'.sorted)) (hok : ∀ x ∈ l'.sorted, okL (F x.2).safe (F x.2).chg ∧ (F x.2).safe.length ≤ 140737488355328) (hcn : 1 + cnt F l'.sorted < 4611686018427387904)
    (hsq : s ≠ q) (hmq : mv.ownBlock ≠ some q) (hms : mv.ownBlock ≠ some s) (hkq : p.k.ownBlock ≠ some q) (hks : p.k.ownBlock ≠ some s)
    (hfb : ∀ k ∈ filesBlocks (filesOf F l'.sorted), k ≠ q ∧ k ≠ s ∧ p.k.ownBlock ≠ some k) :
    Calls Tryz.prog 62 #[.pointer (some ⟨q, 0, none⟩)] w fun e w' => e = .returned (.tuple #[]) ∧ ∃ d' G, FsAt w' q true p ops d' s (.slice none 0 0) ∧ DirM w' s l' ∧ DirM w' d' l' ∧ w.heap.size ≤ d' ∧
      FilesM w' (filesOf G l'.sorted) ∧ (∀ i x, l'.sorted[i]? = some x → diedAs (keepAt keep) F (1 + cnt F (l'.sorted.take i)) x.2 (G x.2)) ∧
      (∀ x ∈ l'.sorted, ∀ k ∈ (G x.2).blocks, k ∈ (F x.2).blocks ∨ w.heap.size ≤ k) ∧ (∀ k ∈ filesBlocks (filesOf G l'.sorted), k ≠ d') ∧
      GP (fun k => k = q ∨ k = s ∨ k ∈ filesBlocks (filesOf F l'.sorted)) w w' := by
  replace hnm := Lib.hid hnm
  replace hl' := Lib.hid hl'
  have hql := h.lt
  have hsl := hds.lt
  have hfl := hF.lt
  have x3 := h.keep
  obtain ⟨ka, kc, hkv⟩ := rowFormS hk
  rw [hkv] at x3
  have hit := inTurn_any p.k keep w hk
  rw [hkv] at hit
  refine (callsIn_wide (n := 20)).1 ?_
  have hf1 : Fence.wide.fn 87 := trivial
  have hf2 : Fence.wide.fn 82 := trivial
  have hf3 : Fence.wide.fn 89 := trivial
  refine callsIn_of_wp_marks Tryz.func62 rfl trivial ?_ rfl
  simp only [Tryz.ntmps62, List.size_toArray, List.length_cons, List.length_nil, Nat.reduceAdd, Nat.reduceSub, Array.replicate_succ, Array.replicate_zero, List.push_toArray, List.append_toArray, List.nil_append, List.cons_append]
  gi_wp2_with first
    | (gi_at_call 87; refine (callsIn_wide.2 hit).mono ?_; clear hit; rintro e w1 ⟨ab, kb, rfl, hT, g1, hab, hkb, hne⟩; have cN : (w1.alloc (.cells #[.nilFunc] 58)).cell? ⟨w1.heap.size, 0, none⟩ = some .nilFunc := (Boxed.new w1 _ _).cell; have fN : (w1.alloc (.cells #[.nilFunc] 58)).frozen? ⟨w1.heap.size, 0, none⟩ = false := (Boxed.new w1 _ _).frozen)
  obtain ⟨W2, hW2⟩ : ∃ W2, W2 = w1.alloc (.cells #[.func (.func 105) #[] #[.pointer (some ⟨kb, 0, none⟩), .pointer (some ⟨ab, 0, none⟩)]] 58) := ⟨_, rfl⟩
  rw [← hW2]
  have g12 : w1.grownBy W2 none := by rw [hW2]; exact World.grownBy_alloc w1 _ none
  have hb2 : Boxed W2 w1.heap.size 58 (.func (.func 105) #[] #[.pointer (some ⟨kb, 0, none⟩), .pointer (some ⟨ab, 0, none⟩)]) := by rw [hW2]; exact Boxed.new w1 _ _
  clear hW2 cN fN
  rw [hkv] at hkq hks hk hfb
  have hkl := World.ownsRow.lt hk
  have N := turnNext ab kb (.slice ka keep.length kc) keep ⟨hne, fun e => by have := hkl _ e; omega⟩ hlk
  have hw1s := g1.size
  have hnbl : ∀ k ∈ (ab :: kb :: (Value.slice ka keep.length kc).ownBlock.toList), k ≠ q ∧ k ≠ s ∧ k ∉ filesBlocks (filesOf F l'.sorted) := by
    intro k hk'
    simp only [List.mem_cons, Option.mem_toList] at hk'
    rcases hk' with rfl | rfl | hk'
    · exact ⟨by omega, by omega, fun hk2 => by have := hfl _ hk2; omega⟩
    · exact ⟨by omega, by omega, fun hk2 => by have := hfl _ hk2; omega⟩
    · exact ⟨fun e => hkq (by rw [← e]; exact hk'), fun e => hks (by rw [← e]; exact hk'), fun hk2 => (hfb k hk2).2.2 hk'⟩
  have hN1 : (∃ i', (keep = [] ∧ i' = 0 ∨ keep ≠ [] ∧ i' = 0) ∧ TurnAt ab kb (.slice ka keep.length kc) keep i' w1) := ⟨0, by by_cases e : keep = [] <;> simp [e], hT⟩
  have hN2 := N.kept 0 w1 W2 hN1 (fun k hk' => g12.block k (N.lt 0 w1 hN1 k hk') (by simp))
  obtain ⟨V, hV⟩ : ∃ V, V = W2.drew := ⟨_, rfl⟩
  have gV2 : W2.grownBy V none := by rw [hV]; exact gdrew (World.grownBy.refl W2 none)
  have hNV := N.kept 0 W2 V hN2 (fun k hk' => gV2.block k (N.lt 0 W2 hN2 k hk') (by simp))
  have hbV := hb2.kept gV2 (by simp)
  have gV : w.grownBy V none := (g1.trans g12).trans gV2
  have hFV := h.kept gV (by simp)
  have x10 := hFV.moves
  obtain ⟨ma, mc, hmv⟩ := rowFormS hr
  rw [hmv] at x10
  have hablt := N.lt 0 w1 hN1 ab (by simp)
  clear hN1 hN2 hT
  refine wpIn_mono (Q := fun e a' w' => e = .normal ∧ a' = { tmps := #[.pointer (some ⟨q, 0, none⟩), undef, .pointer (some ⟨w1.heap.size, 0, none⟩), undef, undef, .pointer (some ⟨q, 0, none⟩), .pointer (some ⟨q, 0, none⟩), .pointer (some ⟨q, 2, none⟩), .pointer (some ⟨q, 3, none⟩), .slice ka keep.length kc, .func (.func 105) #[] #[.pointer (some ⟨kb, 0, none⟩), .pointer (some ⟨ab, 0, none⟩)], .pointer (some ⟨q, 0, none⟩), .func (.func 105) #[] #[.pointer (some ⟨kb, 0, none⟩), .pointer (some ⟨ab, 0, none⟩)], .int .i64 (keepAt keep 0), .pointer (some ⟨q, 0, none⟩), .pointer (some ⟨q, 0, none⟩), .pointer (some ⟨q, 10, none⟩), .slice ma ml.length mc, .int .i64 (ml.length : Int), .int .i64 (nm : Int), .tuple #[], undef, undef, undef, undef, undef, undef, undef, undef, undef, undef, undef, undef, undef, undef, undef, undef, undef, undef, undef, undef, undef, undef, undef, undef, undef, undef, undef, undef, undef], defers := [] } ∧ FsAt w' q false p ops d s (.slice none 0 0) ∧ DirM w' s l' ∧ (∃ i', (keep = [] ∧ i' = 0 ∨ keep ≠ [] ∧ i' = 0 + 1) ∧ TurnAt ab kb (.slice ka keep.length kc) keep i' w') ∧ Boxed w' w1.heap.size 58 (.func (.func 105) #[] #[.pointer (some ⟨kb, 0, none⟩), .pointer (some ⟨ab, 0, none⟩)]) ∧ GP (fun k => k = q ∨ k = s) w w') ?reg ?cont
  case reg =>
    apply wpIn_noPanic
    refine wpIn_region_held (S := fun V' => V'.cell? ⟨w1.heap.size, 0, none⟩ = some (.func (.func 105) #[] #[.pointer (some ⟨kb, 0, none⟩), .pointer (some ⟨ab, 0, none⟩)])) (by kernel_rfl) (by rw [← hV]; exact hbV.cell) (fun hS0 => ?_)
    rw [← hV]
    have hSV := hbV.cell
    clear hS0 hV
    refine wpAnyHIn_take (i := 0) (oi := ⟨some 11, _, _, _, _, _⟩) (v := ?_) rfl (by kernel_rfl) (by kernel_rfl) (by kernel_rfl) (by kernel_rfl) (fun _ _ _ h => h) (fun _ => rfl) (Or.inl ⟨by rfl, ?_⟩) (by assumption) ?_
    rotate_left
    · (intro w hSw; (try dsimp only at hSw); go_simp; try with_reducible rfl)
    try simp only [Act.put, List.setIfInBounds_toArray, List.set_cons_zero, List.set_cons_succ]
    refine wpAnyHIn_take (i := 1) (oi := ⟨some 12, _, _, _, _, _⟩) (v := ?_) rfl (by kernel_rfl) (by kernel_rfl) (by kernel_rfl) (by kernel_rfl) (fun _ _ _ h => h) (fun _ => rfl) (Or.inl ⟨by rfl, ?_⟩) (by assumption) ?_
    rotate_left
    · (intro w hSw; (try dsimp only at hSw); go_simp; try with_reducible rfl)
    try simp only [Act.put, List.setIfInBounds_toArray, List.set_cons_zero, List.set_cons_succ]
    refine wpAnyHIn_take (i := 3) (oi := ⟨some 14, _, _, _, _, _⟩) (v := ?_) rfl (by kernel_rfl) (by kernel_rfl) (by kernel_rfl) (by kernel_rfl) (fun _ _ _ h => h) (fun _ => rfl) (Or.inl ⟨by rfl, ?_⟩) (by assumption) ?_
    rotate_left
    · (intro w hSw; (try dsimp only at hSw); go_simp; try with_reducible rfl)
    try simp only [Act.put, List.setIfInBounds_toArray, List.set_cons_zero, List.set_cons_succ]
    refine wpAnyHIn_take (i := 4) (oi := ⟨some 15, _, _, _, _, _⟩) (v := ?_) rfl (by kernel_rfl) (by kernel_rfl) (by kernel_rfl) (by kernel_rfl) (fun _ _ _ h => h) (fun _ => rfl) (Or.inl ⟨by rfl, ?_⟩) (by assumption) ?_
    rotate_left
    · (intro w hSw; (try dsimp only at hSw); go_simp; try with_reducible rfl)
    try simp only [Act.put, List.setIfInBounds_toArray, List.set_cons_zero, List.set_cons_succ]
    refine wpAnyHIn_take (i := 5) (oi := ⟨some 16, _, _, _, _, _⟩) (v := ?_) rfl (by kernel_rfl) (by kernel_rfl) (by kernel_rfl) (by kernel_rfl) (fun _ _ _ h => h) (fun _ => rfl) (Or.inl ⟨by rfl, ?_⟩) (by assumption) ?_
    rotate_left
    · (intro w hSw; (try dsimp only at hSw); go_simp; try with_reducible rfl)
    try simp only [Act.put, List.setIfInBounds_toArray, List.set_cons_zero, List.set_cons_succ]
    refine wpAnyHIn_two (i := 2) (j := 6) (by kernel_rfl) rfl rfl (by rfl) (by rfl) (fun K hK => ?_) (fun K hK => ?_)
    · go_simp
      refine ⟨trivial, (callsIn_wide.2 (N.call 0 V (by decide) hNV)).mono ?_⟩
      rintro e w3 ⟨rfl, hN3, g3⟩
      have gV3 : w.grownBy w3 none := gnew gV g3 (fun k e => by cases e; exact .inl hab)
      have hb3 := hbV.kept g3 (by simp; omega)
      have hF3 := h.kept gV3 (by simp)
      have y10 := hF3.moves
      rw [hmv] at y10
      refine hK.out _ _ hb3.cell (fun _ => ?_)
      clear hK
      refine wpAnyHIn_next (i := 6) (by kernel_rfl) rfl (by rfl) (fun K hK => ?_)
      go_simp
      refine hK.out _ _ hb3.cell (fun _ => ?_)
      clear hK
      refine wpAnyHIn_take (i := 7) (oi := ⟨some 18, _, _, _, _, _⟩) (v := ?_) rfl (by kernel_rfl) (by kernel_rfl) (by kernel_rfl) (by kernel_rfl) (fun _ _ _ h => h) (fun _ => rfl) (Or.inl ⟨by rfl, ?_⟩) (by assumption) ?_
      rotate_left
      · (intro w hSw; (try dsimp only at hSw); go_simp; try with_reducible rfl)
      try simp only [Act.put, List.setIfInBounds_toArray, List.set_cons_zero, List.set_cons_succ]
      refine wpAnyHIn_next (i := 8) (by kernel_rfl) rfl (by rfl) (fun K hK => ?_)
      go_simp
      refine ⟨trivial, (callsIn_wide.2 (surv_any (keepAt keep 0) ml.length (by omega) w3)).mono ?_⟩
      rintro e w4 ⟨rfl, rfl⟩
      rw [show surv (keepAt keep 0) ml.length = nm from hnm.out.symm]
      refine hK.out _ _ hb3.cell (fun _ => ?_)
      clear hK
      refine wpAnyHIn_next (i := 9) (by kernel_rfl) rfl (by rfl) (fun K hK => ?_)
      go_simp
      refine ⟨trivial, (callsIn_wide.2 (fsSettle_any nm ml l w3 hF3 (hds.kept gV3 (by simp)) (World.ownsRow.kept hr gV3 (by cases mv.ownBlock <;> simp)) hm (by rw [hnm.out]; exact surv_le _ _) hn2 hsq hmq hms)).mono ?_⟩
      rintro e w5 ⟨rfl, k1, k2, k3⟩
      have hb5 : Boxed w5 w1.heap.size 58 (.func (.func 105) #[] #[.pointer (some ⟨kb, 0, none⟩), .pointer (some ⟨ab, 0, none⟩)]) := (k3.block _ hb3.lt (by rintro (e | e) <;> omega)).trans hb3
      refine hK.out _ _ hb5.cell (fun _ => ?_)
      clear hK
      refine wpAnyHIn_done (by kernel_rfl) ?_ _
      refine noPanic_normal ?_
      exact ⟨rfl, rfl, k1, by rw [hl'.out]; exact k2, N.kept _ _ _ hN3 (fun k hk => k3.block k (N.lt _ _ hN3 k hk) (by rintro (e | e) <;> (have := hnbl k hk; omega))), hb5, (GP.of (P := fun k => k = q ∨ k = s) gV3 (by simp)).trans k3 (fun k e => .inl e)⟩
    · go_simp
      refine hK.out _ _ hbV.cell (fun _ => ?_)
      clear hK
      refine wpAnyHIn_take (i := 7) (oi := ⟨some 18, _, _, _, _, _⟩) (v := ?_) rfl (by kernel_rfl) (by kernel_rfl) (by kernel_rfl) (by kernel_rfl) (fun _ _ _ h => h) (fun _ => rfl) (Or.inl ⟨by rfl, ?_⟩) (by assumption) ?_
      rotate_left
      · (intro w hSw; (try dsimp only at hSw); go_simp; try with_reducible rfl)
      try simp only [Act.put, List.setIfInBounds_toArray, List.set_cons_zero, List.set_cons_succ]
      refine wpAnyHIn_next (i := 2) (by kernel_rfl) rfl (by rfl) (fun K hK => ?_)
      go_simp
      refine ⟨trivial, (callsIn_wide.2 (N.call 0 V (by decide) hNV)).mono ?_⟩
      rintro e w3 ⟨rfl, hN3, g3⟩
      have gV3 : w.grownBy w3 none := gnew gV g3 (fun k e => by cases e; exact .inl hab)
      have hb3 := hbV.kept g3 (by simp; omega)
      have hF3 := h.kept gV3 (by simp)
      have y10 := hF3.moves
      rw [hmv] at y10
      refine hK.out _ _ hb3.cell (fun _ => ?_)
      clear hK
      refine wpAnyHIn_next (i := 8) (by kernel_rfl) rfl (by rfl) (fun K hK => ?_)
      go_simp
      refine ⟨trivial, (callsIn_wide.2 (surv_any (keepAt keep 0) ml.length (by omega) w3)).mono ?_⟩
      rintro e w4 ⟨rfl, rfl⟩
      rw [show surv (keepAt keep 0) ml.length = nm from hnm.out.symm]
      refine hK.out _ _ hb3.cell (fun _ => ?_)
      clear hK
      refine wpAnyHIn_next (i := 9) (by kernel_rfl) rfl (by rfl) (fun K hK => ?_)
      go_simp
      refine ⟨trivial, (callsIn_wide.2 (fsSettle_any nm ml l w3 hF3 (hds.kept gV3 (by simp)) (World.ownsRow.kept hr gV3 (by cases mv.ownBlock <;> simp)) hm (by rw [hnm.out]; exact surv_le _ _) hn2 hsq hmq hms)).mono ?_⟩
      rintro e w5 ⟨rfl, k1, k2, k3⟩
      have hb5 : Boxed w5 w1.heap.size 58 (.func (.func 105) #[] #[.pointer (some ⟨kb, 0, none⟩), .pointer (some ⟨ab, 0, none⟩)]) := (k3.block _ hb3.lt (by rintro (e | e) <;> omega)).trans hb3
      refine hK.out _ _ hb5.cell (fun _ => ?_)
      clear hK
      refine wpAnyHIn_done (by kernel_rfl) ?_ _
      refine noPanic_normal ?_
      exact ⟨rfl, rfl, k1, by rw [hl'.out]; exact k2, N.kept _ _ _ hN3 (fun k hk => k3.block k (N.lt _ _ hN3 k hk) (by rintro (e | e) <;> (have := hnbl k hk; omega))), hb5, (GP.of (P := fun k => k = q ∨ k = s) gV3 (by simp)).trans k3 (fun k e => .inl e)⟩
  case cont =>
    rintro e a' W ⟨rfl, rfl, hF5, hD5, hN5, hb5, gw5⟩
    dsimp only
    have x9 := hF5.safe
    have hio := inOrder_any s W
    clear x10 hFV hbV hNV gV gV2 hV hb2 g12 x3 hds hr hm
    replace hN5 := Lib.hid hN5
    gi_wp2_with first
      | (gi_at_call 82; refine (callsIn_wide.2 hio).mono ?_; clear hio; rintro e W3 ⟨bx, rfl, hbx, g3, hbxl⟩)
    obtain ⟨NS, hNS⟩ : ∃ NS : Nat → World → Prop, NS = (fun i w => ∃ i', (keep = [] ∧ i' = 0 ∨ keep ≠ [] ∧ i' = i) ∧ TurnAt ab kb (.slice ka keep.length kc) keep i' w) := ⟨_, rfl⟩
    have hN5' : NS 1 W := by rw [hNS]; exact hN5.out
    rw [← hNS] at N
    clear hN5 hNS
    have hw1 : w1.heap.size + 1 ≤ W3.heap.size := by have := hb5.lt; have := g3.size; omega
    have sW := g3.size
    have hb5l := hb5.lt
    have hF3 := hF5.kept g3 (by simp)
    have hD3 := hD5.kept g3 (by simp)
    have hb3 := hb5.kept g3 (by simp)
    have hN3 : NS 1 W3 := N.kept 1 W W3 hN5' (fun k hk' => g3.block k (N.lt 1 W hN5' k hk') (by simp))
    have hnl3 := N.lt 1 W3 hN3
    have hM3 : FilesM W3 (filesOf F l'.sorted) := (hF.kept gw5 (fun k hk' e => by rcases e with e | e; exact (hfb k hk').1 e; exact (hfb k hk').2.1 e)).kept (GP.of (P := fun _ => False) g3 (by simp)) (fun _ _ h => h)
    have hfl3 := hM3.lt
    have wW := gw5.size
    have hap3 : ∀ k ∈ filesBlocks (filesOf F l'.sorted), k ∉ (ab :: kb :: (Value.slice ka keep.length kc).ownBlock.toList) ∧ k < W3.heap.size := fun k hk' => ⟨fun e => (hnbl k e).2.2 hk', hfl3 k hk'⟩
    have hbxl3 : bx < W3.heap.size := lt_of_block hbx
    have hnb3 : w1.heap.size ∉ filesBlocks (filesOf F l'.sorted) ∧ w1.heap.size < W3.heap.size ∧ some ab ≠ some w1.heap.size := ⟨fun e => by have := hfl _ e; omega, by omega, by simp; omega⟩
    refine range_tellsZ1 (a := _) (w := W3) (α := List UInt8 × Nat) rfl (by omega) (gf := 99) (lb := #[.pointer (some ⟨bx, 0, none⟩)]) rfl trivial (enters_of Tryz.func99 (by kernel_rfl) rfl)
      (inOrder1_tells _ bx s l' W3 (by omega) hbx hD3 (by omega)) (fun k hk' => by rcases hk' with rfl | rfl <;> omega) (fun _ => rfl) (fun _ _ _ _ _ _ h _ _ _ => h)
      (Ft (DieI W3 (some ab) w1.heap.size (.func (.func 105) #[] #[.pointer (some ⟨kb, 0, none⟩), .pointer (some ⟨ab, 0, none⟩)]) NS (ab :: kb :: (Value.slice ka keep.length kc).ownBlock.toList) (keepAt keep) l'.sorted F)) (fun _ _ _ _ => False) (fun Z s A h => by obtain ⟨_, ⟨h, _⟩, _⟩ := h; exact h)
      (Ft.tame (DieI.keep N)) (fun c => ⟨fun _ _ _ _ _ h => h.elim, fun _ _ _ _ _ h => h.elim⟩)
      ⟨fun k => k = w1.heap.size ∨ k ∈ (ab :: kb :: (Value.slice ka keep.length kc).ownBlock.toList) ∨ k ∈ filesBlocks (filesOf F l'.sorted), ⟨Nat.le_refl _, hb3, .inl rfl, fun k hk' => .inr (.inl hk'), hN3, F, by simpa [filesOf] using hM3, fun k hk' => .inr (.inr (by simpa [filesOf] using hk')), fun i x hi => by simp at hi, fun x hx => by simp at hx, GP.refl _ _⟩, fun k hk' => by
        rcases hk' with e | e | e
        · exact ⟨fun hz => by rcases hz with hz | hz <;> omega, by omega⟩
        · have h1 := hnl3 k e
          have h2 := N.lt 1 W hN5' k e
          have h3 := hnbl k e
          exact ⟨fun hz => by rcases hz with hz | hz <;> omega, h1⟩
        · have h1 := hfl k e
          have h2 := hfb k e
          exact ⟨fun hz => by rcases hz with hz | hz <;> omega, hfl3 k e⟩⟩
      ?a1 (fun _ _ _ _ h _ => h) ?assign ?body ?done ?stop
    case assign =>
      intro ll x W K hK
      dsimp only [dEnc]
      gi_wp2
      exact hK
    case stop =>
      rintro D c Z pre W W' _ _ _ _ _ h
      exact h.elim
    case body =>
      rintro ll Z pre x W4 hZ0 hZl ⟨Foot, hJ, hFt⟩ ⟨hpre, hx⟩ hsz
      obtain ⟨nmx, b⟩ := x
      have hin : (nmx, b) ∈ l'.sorted := List.mem_of_getElem? hx
      obtain ⟨hok1, hok2⟩ := hok _ hin
      dsimp only at hok1 hok2
      have hJ0 := hJ
      obtain ⟨j1, j2, j3, j4, j5, G, j6, j7, j8, j9, j10⟩ := hJ
      have hpl : pre.length < l'.sorted.length := (List.getElem?_eq_some_iff.1 hx).1
      have hdrop : List.drop pre.length l'.sorted = (nmx, b) :: List.drop (pre.length + 1) l'.sorted := by
        rw [List.drop_eq_getElem_cons hpl]
        rw [(List.getElem?_eq_some_iff.1 hx).2]
      have hfile : FileAt W4 b (F b) := j6.1 (b, F b) (by rw [hdrop]; simp [filesOf])
      have hfin : ∀ k, k = b ∨ k ∈ (F b).blocks → k ∈ filesBlocks (filesOf F l'.sorted) := fun k hk' => mem_filesBlocks.2 ⟨(b, F b), mem_filesOf.2 ⟨_, hin, rfl⟩, hk'⟩
      have hcb : 1 + cnt F pre + (F b).chg.length < 4611686018427387904 := by
        have h1 := cnt_append F pre (nmx, b)
        have h2 := cnt_take F l'.sorted (pre.length + 1)
        rw [List.take_add_one, hx, ← hpre] at h2
        simp only [Option.toList_some] at h2
        dsimp only at h1
        omega
      have hst := settle_any _ _ _ _ _ NS N b (F b) W4 (1 + cnt F pre) hfile j5 hok1 hcb ⟨(hap3 b (hfin b (.inl rfl))).1, fun k hk' => (hap3 k (hfin k (.inr hk'))).1⟩
      have cnb := j2.cell
      have hslen := settleP_len (keepAt keep) (F b).chg (1 + cnt F pre) (F b).safe hok1 hok2
      obtain ⟨S, hS⟩ : ∃ S, S = settleP (keepAt keep) (1 + cnt F pre) true (F b).safe (F b).chg := ⟨_, rfl⟩
      rw [← hS] at hst hslen
      replace hS := Lib.hid hS
      replace hJ0 := Lib.hid hJ0
      replace hpre := Lib.hid hpre
      replace hx := Lib.hid hx
      have hnext := fun W7 f' g h3 h4 h5 h6 => DieI.next (Z := Z) (P := fun k => k = b ∨ (F b).sv.ownBlock = some k ∨ some ab = some k) (W5 := W7) (f' := f') hJ0.out hFt hZl hpre.out hx.out hap3 hnb3 (fun r e => N.mem r e) hnl3 g (fun k hk' => by
        rcases hk' with e | e | e
        · exact .inl e
        · exact .inr (.inl (FileV.mem_s e))
        · exact .inr (.inr e)) h3 h4 h5 h6
      replace hnext := Lib.hid hnext
      clear j1 j2 j3 j4 j5 j6 j7 j8 j9 j10 hdrop hpl hF hM3 hF3 hD3 hb3 hN3 hok
      have hg1 : Fence.wide.fn 58 := trivial
      have hg2 : Fence.wide.fn 51 := trivial
      gi_wp2_with first
        | (gi_at_call 58; refine (callsIn_wide.2 hst).mono ?_; clear hst; rintro e W5 ⟨rfl, sv, k1, k2, k3, k4⟩; obtain ⟨sa, sc, hsv⟩ : ∃ a c, sv = .slice a S.length c := rowFormS k1.2.1; subst hsv; have c0 := k1.c0; have hcp := fcopied_any sa S.length sc S W5 k1.2.1.reads hslen; dsimp only at c0; replace k1 := Lib.hid k1; replace k2 := Lib.hid k2; replace k3 := Lib.hid k3; replace k4 := Lib.hid k4)
        | (gi_at_call 51; refine (callsIn_wide.2 hcp).mono ?_; clear hcp; rintro e W6 ⟨v6, rfl, o6, g6⟩; obtain ⟨a6, c6, rfl⟩ := rowFormS o6; have k6 := k1.out.kept (GP.of (P := fun _ => False) g6 (by simp)) (fun h => h) (fun _ _ h => h); have c1 := k6.c1; have f1 := k6.free 1; dsimp only at c1; replace k6 := Lib.hid k6; replace o6 := Lib.hid o6; replace g6 := Lib.hid g6)
      have gs := gset (World.grownBy.refl W6 (some b)) 1 (.slice a6 S.length c6)
      have k1 := k1.out
      have k6 := k6.out
      have o6 := o6.out
      have g6 := g6.out
      have k3 := k3.out
      have k4 := k4.out
      have sz5 := k3.size
      have hb7 := heap_setCell_same W6 b 1 _ _ (.slice a6 S.length c6) k6.1
      obtain ⟨_, hs6, _, hc6, hnd6⟩ := k6
      dsimp only at hs6 hc6 hnd6
      have hvo := Owns.lt o6
      have hbl5 := k1.lt
      have hsb : (Value.slice sa S.length sc).ownBlock ≠ some b := fun e => by have := (List.nodup_cons.1 hnd6).1; simp [FileV.blocks, e] at this
      have hvb : (Value.slice a6 S.length c6).ownBlock ≠ some b := fun e => by have := (hvo b e).1; omega
      have hss := Owns.lt k1.2.1
      have hf7 : FileAt (W6.setCell ⟨b, 1, none⟩ (.slice a6 S.length c6)) b ⟨.slice sa S.length sc, .slice a6 S.length c6, .slice none 0 0, S, S, []⟩ :=
        ⟨hb7, Owns.kept hs6 gs (.inr hsb), Owns.kept (o6.mono (B' := 0) (Nat.zero_le _)) gs (.inr hvb), World.ownsRow_nil _ _ _ _, nodup3 hsb hvb (by simp [Value.ownBlock]) (fun k e e2 => by have := (hvo k e2).1; have := (hss k e).2; omega) (fun k _ e => by simp [Value.ownBlock] at e) (fun k _ e => by simp [Value.ownBlock] at e)⟩
      refine hnext.out _ _ ((k3.step g6 (by simp)).step gs (fun k e => by cases e; exact .inl (.inl rfl))) hf7 (fun k hk' => ?_) ⟨hS.out, rfl, rfl⟩ ?_
      · rcases FileV.mem hk' with e | e | e
        · exact (k4 k e).imp FileV.mem_s id
        · exact .inr (Nat.le_trans sz5 (hvo k e).1)
        · simp [Value.ownBlock] at e
      · rw [cnt_append, ← Nat.add_assoc]
        exact N.kept _ _ _ k2.out (fun k hk' => (gs.block k (by have := N.lt _ _ k2.out k hk'; have := g6.size; omega) (fun e => by
          cases e
          exact (hap3 b (hfin b (.inl rfl))).1 hk')).trans (g6.block k (N.lt _ _ k2.out k hk') (by simp)))
    case done =>
      rintro D Z xs Wd W15 hD hZD hZ0 hZl hS ⟨Foot, hJ, hFt⟩ g15 hM
      obtain rfl : xs = l'.sorted := hS
      obtain ⟨j1, j2, j3, j4, j5, G, j6, j7, j8, j9, j10⟩ := hJ
      rw [List.drop_length, show filesOf F [] = [] from rfl, List.append_nil] at j6 j7
      have nq : ¬ (some ab = some q ∨ q ∈ filesBlocks (filesOf F l'.sorted)) := fun e => by
        rcases e with e | e
        · simp at e; omega
        · exact (hfb q e).1 rfl
      have ns : ¬ (some ab = some s ∨ s ∈ filesBlocks (filesOf F l'.sorted)) := fun e => by
        rcases e with e | e
        · simp at e; omega
        · exact (hfb s e).2.1 rfl
      have hF15 := hF3.gp j10 nq
      have hD15 : DirM W15 s l' := hD3.zk (Z := fun k => k = s) ⟨j10.size, fun k h1 h2 => j10.block k h1 (by rw [h2]; exact ns)⟩ rfl
      have hmc := mapClone_any s l' W15 hD15
      have x9 := hF15.safe
      have hDl : D < W15.heap.size := (Array.getElem?_eq_some_iff.1 hM).1
      have hqD : q ≠ D := by omega
      have hsD : s ≠ D := by omega
      have s15 := j10.size
      have hjl := j6.lt
      have hGD : ∀ k ∈ filesBlocks (filesOf G l'.sorted), k ≠ D := fun k hk' e => (hFt k (j7 k hk')).1 (by rw [e]; exact hZD)
      have hGq : ∀ k ∈ filesBlocks (filesOf G l'.sorted), k ≠ q := fun k hk' => by
        obtain ⟨pp, hp, hk''⟩ := mem_filesBlocks.1 hk'
        obtain ⟨x, hx1, rfl⟩ := mem_filesOf.1 hp
        rcases hk'' with e | e
        · exact (hfb k (mem_filesBlocks.2 ⟨_, mem_filesOf.2 ⟨x, hx1, rfl⟩, .inl e⟩)).1
        · rcases j9 x hx1 k e with e2 | e2
          · exact (hfb k (mem_filesBlocks.2 ⟨_, mem_filesOf.2 ⟨x, hx1, rfl⟩, .inr e2⟩)).1
          · omega
      clear hF hM3 hF3 hD3 hb3 hN3 hok j1 j2 j3 j4 j5 hFt hZl hZ0 g15
      replace j6 := Lib.hid j6
      replace j7 := Lib.hid j7
      replace j8 := Lib.hid j8
      replace j9 := Lib.hid j9
      replace j10 := Lib.hid j10
      replace hD15 := Lib.hid hD15
      replace hM := Lib.hid hM
      gi_wp2_with first
        | (gi_at_call 89; refine (callsIn_wide.2 hmc).mono ?_; clear hmc; rintro e W16 ⟨rfl, m1, g16⟩; have hF16 := hF15.kept g16 (by simp); have c8 := hF16.dir; have f8 := hF16.free 8; have hF17 := hF16.setDir W15.heap.size; have c1 := hF17.isDead; have f1 := hF17.free 1; have hF18 := hF17.setDead true; replace hF16 := Lib.hid hF16; replace hF17 := Lib.hid hF17; replace hF18 := Lib.hid hF18; replace m1 := Lib.hid m1; replace g16 := Lib.hid g16)
      have g16 := g16.out
      have hF18 := hF18.out
      have g18 : W16.grownBy ((W16.setCell ⟨q, 8, none⟩ (.map (some W15.heap.size))).setCell ⟨q, 1, none⟩ (.bool true)) (some q) := gset (gset (World.grownBy.refl W16 (some q)) 8 _) 1 _
      generalize (W16.setCell ⟨q, 8, none⟩ (.map (some W15.heap.size))).setCell ⟨q, 1, none⟩ (.bool true) = W18 at hF18 g18 ⊢
      have s16 := g16.size
      have s18 := g18.size
      have hql15 : q < W15.heap.size := by omega
      have hM18 := (g18.block D (by omega) (by simp; omega)).trans ((g16.block D hDl (by simp)).trans hM.out)
      have gp := grownBy_putObj' W18 D (.deferred none)
      have r1 := hF18.kept gp (by simp; omega)
      have r2 := ((hD15.out.kept g16 (by simp)).kept g18 (by simp; omega)).kept gp (by simp; omega)
      have r3 := (m1.out.kept g18 (by simp; omega)).kept gp (by simp; omega)
      have r4 : FilesM (W18.putObj D (.deferred none)) (filesOf G l'.sorted) := ((j6.out.kept (GP.of (P := fun _ => False) g16 (by simp)) (fun _ _ h => h)).kept (GP.of (P := fun k => k = q) g18 (fun k e => by cases e; rfl)) hGq).kept (GP.of (P := fun k => k = D) gp (fun k e => by cases e; rfl)) hGD
      have r5 : GP (fun k => k = q ∨ k = s ∨ k ∈ filesBlocks (filesOf F l'.sorted)) w (W18.putObj D (.deferred none)) := ((((((GP.refl _ w).trans gw5 (fun k e => .inl (by rcases e with e | e; exact .inl e; exact .inr (.inl e)))).step g3 (by simp)).trans j10.out (fun k e => by
        rcases e with e | e
        · right; simp at e; omega
        · exact .inl (.inr (.inr e)))).step g16 (by simp)).step g18 (fun k e => by cases e; exact .inl (.inl rfl))).step gp (fun k e => by cases e; right; omega)
      have r6 : ∀ k ∈ filesBlocks (filesOf G l'.sorted), k ≠ W15.heap.size := fun k hk' => by have := hjl k hk'; omega
      have r7 : ∀ x ∈ l'.sorted, ∀ k ∈ (G x.2).blocks, k ∈ (F x.2).blocks ∨ w.heap.size ≤ k := fun x hx1 k hk' => (j9.out x hx1 k hk').imp id (fun h => by omega)
      have r8 := j8.out
      have r9 : w.heap.size ≤ W15.heap.size := by omega
      refine ⟨by simp, .inl ⟨_, _, rfl, run_takeDeferred hM18, ?_⟩⟩
      clear gp hM18 g18 hF18 j6 j7 j8 j9 j10
      generalize W18.putObj D (.deferred none) = W19 at r1 r2 r3 r4 r5 ⊢
      simp only [LeavesInM, LeavesIn]
      exact ⟨.tuple #[], results_none rfl _ _ _, rfl, _, G, r1, r2, r3, r9, r4, r8, r7, r6, r5⟩
end
end Go.Proofs.YtfgmaeaojkfakaaGreat
