/-
  LAYER 1 (fs): a file's clone.
-/
import Derived.Test.YtfgmaeaojkfakaaGreatFFile
namespace Go.Proofs.YtfgmaeaojkfakaaGreat
set_option maxRecDepth 100000
open Go.RowKit Go.Lib
attribute [local go_sem] Oper.semAt_some

theorem Chg.v_one (c : Chg) : c.v.oneCell' = true := by cases c <;> rfl

set_option maxHeartbeats 2000000 in
theorem cloneChg_any (v : Value) (n : Nat) (l : List Chg) (w : World) (h : w.ownsRow 0 140 1 v n (l.map Chg.v)) (hn : n < 8796093022207) :
    Calls Tryz.prog 92 #[v] w fun e w' => ∃ v', e = .returned v' ∧ w'.ownsRow w.heap.size 140 1 v' n (l.map Chg.v) ∧ w.grownBy w' none := by
  obtain ⟨i0, hi, hz0, hz1, hz2⟩ := info_partsC
  have h0 := h
  have hl : (l.map Chg.v).length = n := by simpa using h.1
  have hone : ∀ u ∈ l.map Chg.v, u.oneCell' = true := by
    intro u hu
    obtain ⟨c, _, rfl⟩ := List.mem_map.1 hu
    exact c.v_one
  obtain ⟨_, ⟨rfl, hz⟩ | ⟨g, cap, cur, rfl, hB, hg, hc, hm, hs, ht⟩⟩ := h
  · subst hz
    have hnil : l.map Chg.v = [] := List.length_eq_zero_iff.1 hl
    rw [hnil]
    have hq : ∀ w, (binOp .eql 94 (.slice none 0 0) (.slice none 0 0)).run Tryz.prog w = .ok (.bool true) w := fun w => by rfl
    go_enter Tryz.func92, Tryz.ntmps92
    go_wp2
    go_ret
    exact ⟨_, rfl, World.ownsRow_nil _ _ _ _, World.grownBy.refl _ _⟩
  · have hcells : ∀ j u, (l.map Chg.v)[j]? = some u → (w.alloc (.cells #[] 140)).cell? ((⟨g, 0, none⟩ : Addr).add j) = some u := fun j u hj => (h0.alloc _).cells (g := g) rfl j u hj
    have hown : (w.alloc (.cells #[] 140)).ownsRow w.heap.size 140 1 (.slice (some ⟨w.heap.size, 0, none⟩) 0 0) 0 [] :=
      ⟨by simp, .inr ⟨w.heap.size, 0, #[], rfl, Nat.le_refl _, World.alloc_heap_new w _, Nat.le_refl _, by unfold maxLen; omega, by simp, by simp⟩⟩
    generalize l.map Chg.v = xs at *
    have hq : ∀ w, (binOp .eql 94 (.slice (some ⟨g, 0, none⟩) n cap) (.slice none 0 0)).run Tryz.prog w = .ok (.bool false) w := fun w => by rfl
    go_enter Tryz.func92, Tryz.ntmps92
    go_wp2_with (at_builtin; refine wpList_append_own_at _ rfl _ _ 94 rfl w.heap.size 140 i0 .nilIface 1 16 Tryz.underlying94 hi hz0 hz1 hz2 rfl (by decide) (.slice (some ⟨w.heap.size, 0, none⟩) 0 0) 0 [] rfl hown ⟨g, 0, none⟩ n cap xs rfl (by rw [hl, Nat.mul_one]) hcells hone (by rw [Nat.zero_add]; unfold maxLen; omega) (by rw [Nat.zero_add]; omega) (by simp) ?_; intro v' w' hown2 hgrow _ _)
    go_ret
    refine ⟨_, rfl, by simpa using hown2, ?_⟩
    exact gnew (World.grownBy_alloc w (.cells #[] 140) none) hgrow (fun r e => by simp [Value.ownBlock] at e; left; omega)

set_option maxHeartbeats 4000000 in
theorem fileClone_any (b : Nat) (f : FileV) (w : World) (h : FileAt w b f) (h1 : f.safe.length ≤ 140737488355328) (h2 : f.data.length ≤ 140737488355328) (hn : f.chg.length < 8796093022207) :
    Calls Tryz.prog 66 #[.pointer (some ⟨b, 0, none⟩)] w fun e w' => ∃ q g, e = .returned (.pointer (some ⟨q, 0, none⟩)) ∧ FileAt w' q g ∧ g.safe = f.safe ∧ g.data = f.data ∧ g.chg = f.chg ∧ w.heap.size ≤ q ∧ (∀ k ∈ g.blocks, w.heap.size ≤ k) ∧ w.grownBy w' none := by
  obtain ⟨hb, hs, hd, hc, hnd⟩ := h
  have hcell : ∀ w', w.grownBy w' none → w.grownBy w' none ∧ w'.cell? ⟨b, 0, none⟩ = some f.sv ∧ w'.cell? ⟨b, 1, none⟩ = some f.dv ∧ w'.cell? ⟨b, 2, none⟩ = some f.cv := fun w' g => by
    have e := (g.block b (lt_of_block hb) (by simp)).trans hb
    exact ⟨g, by simp [World.cell?, e], by simp [World.cell?, e], by simp [World.cell?, e]⟩
  have form : ∀ {e : TypeId} {v : Value} {n : Nat} {xs : List Value}, w.ownsRow 0 e 1 v n xs → ∃ a c, v = .slice a n c := by
    rintro e v n xs ⟨_, ⟨rfl, hz⟩ | ⟨g, cap, cur, rfl, _⟩⟩
    · exact ⟨none, 0, by rw [hz]⟩
    · exact ⟨_, _, rfl⟩
  obtain ⟨sa, sc, hsv⟩ := form hs
  obtain ⟨da, dc, hdv⟩ := form hd
  have K1 := fun W (g : w.grownBy W none) => fcopied_any sa f.safe.length sc f.safe W (by rw [← hsv]; exact (Owns.kept hs g (by cases f.sv.ownBlock <;> simp)).reads) h1
  have K2 := fun W (g : w.grownBy W none) => fcopied_any da f.data.length dc f.data W (by rw [← hdv]; exact (Owns.kept hd g (by cases f.dv.ownBlock <;> simp)).reads) h2
  have K3 := fun W (g : w.grownBy W none) => cloneChg_any f.cv f.chg.length f.chg W (World.ownsRow.kept hc g (by cases f.cv.ownBlock <;> simp)) hn
  rw [← hsv] at K1
  rw [← hdv] at K2
  clear form hsv hdv
  go_enter Tryz.func66, Tryz.ntmps66
  go_upto_region 1 with fail
  refine wp_region_held_drew (S := fun w' => w.grownBy w' none ∧ w'.cell? ⟨b, 0, none⟩ = some f.sv ∧ w'.cell? ⟨b, 1, none⟩ = some f.dv ∧ w'.cell? ⟨b, 2, none⟩ = some f.cv) (by kernel_rfl) (hcell _ (gdrew (World.grownBy.refl w none))) (fun hS => ?_)
  obtain ⟨V, hV⟩ : ∃ V, V = w.drew := ⟨_, rfl⟩
  rw [← hV] at hS ⊢
  clear hV
  refine wpAnyH_take (i := 0) (oi := ⟨some 3, _, _, _, _, _⟩) (v := ?_) rfl (by kernel_rfl) (by kernel_rfl) (by kernel_rfl) (fun _ _ _ h => h) (Or.inl ⟨by rfl, ?_⟩) (by assumption) ?_
  rotate_left
  · (intro w hSw; (try dsimp only at hSw); go_simp; try with_reducible rfl)
  try simp only [Act.put, List.setIfInBounds_toArray, List.set_cons_zero, List.set_cons_succ]
  refine wpAnyH_take (i := 1) (oi := ⟨some 4, _, _, _, _, _⟩) (v := ?_) rfl (by kernel_rfl) (by kernel_rfl) (by kernel_rfl) (fun _ _ _ h => h) (Or.inl ⟨by rfl, ?_⟩) (by assumption) ?_
  rotate_left
  · (intro w hSw; (try dsimp only at hSw); go_simp; try with_reducible rfl)
  try simp only [Act.put, List.setIfInBounds_toArray, List.set_cons_zero, List.set_cons_succ]
  refine wpAnyH_take (i := 2) (oi := ⟨some 5, _, _, _, _, _⟩) (v := ?_) rfl (by kernel_rfl) (by kernel_rfl) (by kernel_rfl) (fun _ _ _ h => h) (Or.inl ⟨by rfl, ?_⟩) (by assumption) ?_
  rotate_left
  · (intro w hSw; (try dsimp only at hSw); go_simp; try with_reducible rfl)
  try simp only [Act.put, List.setIfInBounds_toArray, List.set_cons_zero, List.set_cons_succ]
  refine wpAnyH_take (i := 3) (oi := ⟨some 6, _, _, _, _, _⟩) (v := ?_) rfl (by kernel_rfl) (by kernel_rfl) (by kernel_rfl) (fun _ _ _ h => h) (Or.inl ⟨by rfl, ?_⟩) (by assumption) ?_
  rotate_left
  · (intro w hSw; (try dsimp only at hSw); go_simp; try with_reducible rfl)
  try simp only [Act.put, List.setIfInBounds_toArray, List.set_cons_zero, List.set_cons_succ]
  refine wpAnyH_take (i := 5) (oi := ⟨some 8, _, _, _, _, _⟩) (v := ?_) rfl (by kernel_rfl) (by kernel_rfl) (by kernel_rfl) (fun _ _ _ h => h) (Or.inl ⟨by rfl, ?_⟩) (by assumption) ?_
  rotate_left
  · (intro w hSw; (try dsimp only at hSw); go_simp; try with_reducible rfl)
  try simp only [Act.put, List.setIfInBounds_toArray, List.set_cons_zero, List.set_cons_succ]
  refine wpAnyH_take (i := 6) (oi := ⟨some 9, _, _, _, _, _⟩) (v := ?_) rfl (by kernel_rfl) (by kernel_rfl) (by kernel_rfl) (fun _ _ _ h => h) (Or.inl ⟨by rfl, ?_⟩) (by assumption) ?_
  rotate_left
  · (intro w hSw; (try dsimp only at hSw); go_simp; try with_reducible rfl)
  try simp only [Act.put, List.setIfInBounds_toArray, List.set_cons_zero, List.set_cons_succ]
  refine wpAnyH_take (i := 7) (oi := ⟨some 10, _, _, _, _, _⟩) (v := ?_) rfl (by kernel_rfl) (by kernel_rfl) (by kernel_rfl) (fun _ _ _ h => h) (Or.inl ⟨by rfl, ?_⟩) (by assumption) ?_
  rotate_left
  · (intro w hSw; (try dsimp only at hSw); go_simp; try with_reducible rfl)
  try simp only [Act.put, List.setIfInBounds_toArray, List.set_cons_zero, List.set_cons_succ]
  refine wpAnyH_take (i := 8) (oi := ⟨some 11, _, _, _, _, _⟩) (v := ?_) rfl (by kernel_rfl) (by kernel_rfl) (by kernel_rfl) (fun _ _ _ h => h) (Or.inl ⟨by rfl, ?_⟩) (by assumption) ?_
  rotate_left
  · (intro w hSw; (try dsimp only at hSw); go_simp; try with_reducible rfl)
  try simp only [Act.put, List.setIfInBounds_toArray, List.set_cons_zero, List.set_cons_succ]
  refine wpAnyH_take (i := 10) (oi := ⟨some 13, _, _, _, _, _⟩) (v := ?_) rfl (by kernel_rfl) (by kernel_rfl) (by kernel_rfl) (fun _ _ _ h => h) (Or.inl ⟨by rfl, ?_⟩) (by assumption) ?_
  rotate_left
  · (intro w hSw; (try dsimp only at hSw); go_simp; try with_reducible rfl)
  try simp only [Act.put, List.setIfInBounds_toArray, List.set_cons_zero, List.set_cons_succ]
  refine wpAnyH_take (i := 11) (oi := ⟨some 14, _, _, _, _, _⟩) (v := ?_) rfl (by kernel_rfl) (by kernel_rfl) (by kernel_rfl) (fun _ _ _ h => h) (Or.inl ⟨by rfl, ?_⟩) (by assumption) ?_
  rotate_left
  · (intro w hSw; (try dsimp only at hSw); go_simp; try with_reducible rfl)
  try simp only [Act.put, List.setIfInBounds_toArray, List.set_cons_zero, List.set_cons_succ]
  refine wpAnyH_take (i := 12) (oi := ⟨some 15, _, _, _, _, _⟩) (v := ?_) rfl (by kernel_rfl) (by kernel_rfl) (by kernel_rfl) (fun _ _ _ h => h) (Or.inl ⟨by rfl, ?_⟩) (by assumption) ?_
  rotate_left
  · (intro w hSw; (try dsimp only at hSw); go_simp; try with_reducible rfl)
  try simp only [Act.put, List.setIfInBounds_toArray, List.set_cons_zero, List.set_cons_succ]
  refine wpAnyH_take (i := 13) (oi := ⟨some 16, _, _, _, _, _⟩) (v := ?_) rfl (by kernel_rfl) (by kernel_rfl) (by kernel_rfl) (fun _ _ _ h => h) (Or.inl ⟨by rfl, ?_⟩) (by assumption) ?_
  rotate_left
  · (intro w hSw; (try dsimp only at hSw); go_simp; try with_reducible rfl)
  try simp only [Act.put, List.setIfInBounds_toArray, List.set_cons_zero, List.set_cons_succ]
  refine wpAnyH_ready (rs := [4]) (by kernel_rfl) (by simp) ?_
  refine AllReadyH.cons rfl (fun K hK => ?_) AllReadyH.nil
  go_simp
  refine (K1 _ hS.1).mono ?_
  rintro e w1 ⟨v1, rfl, o1, g1⟩
  have hS1 := hcell _ (hS.1.trans g1)
  refine hK.out _ _ hS1 (fun _ => ?_)
  clear hK
  refine wpAnyH_ready (rs := [9]) (by kernel_rfl) (by simp) ?_
  refine AllReadyH.cons rfl (fun K hK => ?_) AllReadyH.nil
  go_simp
  refine (K2 _ hS1.1).mono ?_
  rintro e w2 ⟨v2, rfl, o2, g2⟩
  have hS2 := hcell _ (hS1.1.trans g2)
  refine hK.out _ _ hS2 (fun _ => ?_)
  clear hK
  refine wpAnyH_ready (rs := [14]) (by kernel_rfl) (by simp) ?_
  refine AllReadyH.cons rfl (fun K hK => ?_) AllReadyH.nil
  go_simp
  refine (K3 _ hS2.1).mono ?_
  rintro e w3 ⟨v3, rfl, o3, g3⟩
  have hS3 := hcell _ (hS2.1.trans g3)
  refine hK.out _ _ hS3 (fun _ => ?_)
  clear hK
  obtain ⟨a1, l1, c1, rfl⟩ : ∃ a n c, v1 = .slice a n c := by
    obtain ⟨_, ⟨rfl, _⟩ | ⟨g, cap, cur, rfl, _⟩⟩ := o1
    · exact ⟨_, _, _, rfl⟩
    · exact ⟨_, _, _, rfl⟩
  obtain ⟨a2, l2, c2, rfl⟩ : ∃ a n c, v2 = .slice a n c := by
    obtain ⟨_, ⟨rfl, _⟩ | ⟨g, cap, cur, rfl, _⟩⟩ := o2
    · exact ⟨_, _, _, rfl⟩
    · exact ⟨_, _, _, rfl⟩
  obtain ⟨a3, l3, c3, rfl⟩ : ∃ a n c, v3 = .slice a n c := by
    obtain ⟨_, ⟨rfl, _⟩ | ⟨g, cap, cur, rfl, _⟩⟩ := o3
    · exact ⟨_, _, _, rfl⟩
    · exact ⟨_, _, _, rfl⟩
  refine wpAnyH_take (i := 15) (oi := ⟨some 18, _, _, _, _, _⟩) (v := ?_) rfl (by kernel_rfl) (by kernel_rfl) (by kernel_rfl) (fun _ _ _ h => h) (Or.inl ⟨by rfl, ?_⟩) (by assumption) ?_
  rotate_left
  · (intro w hSw; (try dsimp only at hSw); go_simp; try with_reducible rfl)
  try simp only [Act.put, List.setIfInBounds_toArray, List.set_cons_zero, List.set_cons_succ]
  refine wpAnyH_ready (rs := [16]) (by kernel_rfl) (by simp) ?_
  refine AllReadyH.cons rfl (fun K hK => ?_) AllReadyH.nil
  go_simp
  have g4 := galloc hS3.1 (.cells #[.slice a1 l1 c1, .slice a2 l2 c2, .slice a3 l3 c3] 96)
  refine hK.out _ _ (hcell _ g4) (fun _ => ?_)
  clear hK
  refine wpAnyH_take (i := 17) (oi := ⟨some 2, _, _, _, _, _⟩) (v := ?_) rfl (by kernel_rfl) (by kernel_rfl) (by kernel_rfl) (fun _ _ _ h => h) (Or.inl ⟨by rfl, ?_⟩) (by assumption) ?_
  rotate_left
  · (intro w hSw; (try dsimp only at hSw); go_simp; try with_reducible rfl)
  try simp only [Act.put, List.setIfInBounds_toArray, List.set_cons_zero, List.set_cons_succ]
  refine wpAnyH_done (by kernel_rfl) ?_ _
  go_wp2_with fail
  have b1 := g1.size
  have b2 := g2.size
  have b3 := g3.size
  have bV := hS.1.size
  have n1 : ∀ k, (Value.slice a1 l1 c1).ownBlock = some k → V.heap.size ≤ k ∧ k < w1.heap.size := fun k e => Owns.lt o1 k e
  have n2 : ∀ k, (Value.slice a2 l2 c2).ownBlock = some k → w1.heap.size ≤ k ∧ k < w2.heap.size := fun k e => Owns.lt o2 k e
  have n3 : ∀ k, (Value.slice a3 l3 c3).ownBlock = some k → w2.heap.size ≤ k ∧ k < w3.heap.size := fun k e => World.ownsRow.lt o3 k e
  have gA := World.grownBy_alloc w3 (.cells #[.slice a1 l1 c1, .slice a2 l2 c2, .slice a3 l3 c3] 96) none
  have nn : ∀ v : Value, v.ownBlock = none ∨ v.ownBlock ≠ none := fun v => by cases v.ownBlock <;> simp
  have p1 := (((Owns.kept o1 g2 (nn _)).kept g3 (nn _)).kept gA (nn _)).mono (B' := 0) (Nat.zero_le _)
  have p2 := ((Owns.kept o2 g3 (nn _)).kept gA (nn _)).mono (B' := 0) (Nat.zero_le _)
  have p3 := World.ownsRow.kept o3 gA (nn _)
  have p3' : (w3.alloc (.cells #[.slice a1 l1 c1, .slice a2 l2 c2, .slice a3 l3 c3] 96)).ownsRow 0 140 1 (.slice a3 l3 c3) f.chg.length (f.chg.map Chg.v) := by
    obtain ⟨q1, q2 | ⟨g, cap, cur, q3, q4, q5⟩⟩ := p3
    · exact ⟨q1, .inl q2⟩
    · exact ⟨q1, .inr ⟨g, cap, cur, q3, Nat.zero_le _, q5⟩⟩
  go_ret
  refine ⟨_, ⟨.slice a1 l1 c1, .slice a2 l2 c2, .slice a3 l3 c3, f.safe, f.data, f.chg⟩, rfl, ⟨World.alloc_heap_new w3 _, p1, p2, p3', ?_⟩, rfl, rfl, rfl, by omega, ?_, g4⟩
  · refine nodup3 (fun e => ?_) (fun e => ?_) (fun e => ?_) (fun k e e2 => ?_) (fun k e e2 => ?_) (fun k e e2 => ?_)
    · have := n1 _ e; omega
    · have := n2 _ e; omega
    · have := n3 _ e; omega
    · have := n1 _ e; have := n2 _ e2; omega
    · have := n1 _ e; have := n3 _ e2; omega
    · have := n2 _ e; have := n3 _ e2; omega
  · intro k hk
    rcases FileV.mem hk with e | e | e
    · have := n1 _ e; omega
    · have := n2 _ e; omega
    · have := n3 _ e; omega
end Go.Proofs.YtfgmaeaojkfakaaGreat
