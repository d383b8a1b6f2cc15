/-
  LAYER 1 (fs): the reference's moved, of a renaming.
-/
import Derived.Test.YtafcgjbafihniaaGreatFA13
import Derived.Test.YtafcgjbafihniaaGreatFA05
import Derived.Deep.RegionHeld
import Derived.IntWalk
import Derived.Test.YtafcgjbafihniaaGreatFA09
namespace Go.Proofs.YtafcgjbafihniaaGreat
set_option maxRecDepth 100000
open Go.RowKit Go.Lib
open Go.Proofs (encStr)
attribute [local go_sem] Oper.semAt_some

set_option maxHeartbeats 8000000 in
theorem moved_ren (v : Value) (l : DirL) (s t : ByteArray) (i : Nat) (w : World) (hr : w.ownsRow 0 130 2 v l.length (nameCells l)) (hl : l.length ≤ 3518437208880) :
    Calls Tryz.prog 77 #[v, (RMv.ren s t i).agg] w fun e w' => ∃ v', e = .returned v' ∧ w'.ownsRow w.heap.size 130 2 v' ((DirL.drop l s.data.toList).put t.data.toList i).length (nameCells ((DirL.drop l s.data.toList).put t.data.toList i)) ∧ w.grownBy w' none := by
  obtain ⟨a, c, rfl⟩ := rowFormS hr
  have gB := World.grownBy_alloc w (.cells #[.int .i64 2, .string s, .string t, .int .i64 (i : Int)] 123) none
  have eB := World.alloc_heap_new w (.cells #[.int .i64 2, .string s, .string t, .int .i64 (i : Int)] 123)
  obtain ⟨W0, hW0⟩ : ∃ W0, W0 = w.alloc (.cells #[.int .i64 2, .string s, .string t, .int .i64 (i : Int)] 123) := ⟨_, rfl⟩
  rw [← hW0] at gB eB
  have gd := gdrew (World.grownBy.refl W0 none)
  obtain ⟨v1, w1, hrun, o1, g1⟩ := copy_names (.slice a l.length c) l W0.drew (World.ownsRow.kept hr (gB.trans gd) (by cases (Value.slice a l.length c).ownBlock <;> simp)) (by omega)
  obtain ⟨a1, c1, rfl⟩ := rowFormS o1
  have hwo := without_any (.slice a1 l.length c1) l s w1 (World.ownsRow.mono o1 (Nat.zero_le _)) (by omega)
  have b0 : ∀ X, W0.grownBy X none → X.cell? ⟨w.heap.size, 1, none⟩ = some (.string s) := fun X g => g.cell (by simp [World.cell?, eB]) (by simp)
  have b1 : ∀ X, W0.grownBy X none → X.cell? ⟨w.heap.size, 0, none⟩ = some (.int .i64 2) := fun X g => g.cell (by simp [World.cell?, eB]) (by simp)
  have b2 : ∀ X, W0.grownBy X none → X.cell? ⟨w.heap.size, 2, none⟩ = some (.string t) := fun X g => g.cell (by simp [World.cell?, eB]) (by simp)
  have b3 : ∀ X, W0.grownBy X none → X.cell? ⟨w.heap.size, 3, none⟩ = some (.int .i64 (i : Int)) := fun X g => g.cell (by simp [World.cell?, eB]) (by simp)
  have gw1 := gB.trans (gd.trans g1)
  have gW01 := gd.trans g1
  have hdl : (DirL.drop l s.data.toList).length ≤ 3518437208880 := Nat.le_trans (List.length_filter_le _ _) hl
  unfold RMv.agg RMv.cells DirL.put
  generalize (DirL.drop l s.data.toList) = dl at *
  clear hr o1
  go_enter Tryz.func77, Tryz.ntmps77
  go_wp2_with fail
  rw [← hW0]
  clear hW0 eB
  refine wp_region_held_drew (S := fun V => V.cell? ⟨w.heap.size, 1, none⟩ = some (.string s)) (by kernel_rfl) (b0 _ gd) (fun hS0 => ?_)
  refine wpAnyH_take (i := 0) (oi := ⟨some 5, _, _, _, _, _⟩) (v := ?_) rfl (by kernel_rfl) (by kernel_rfl) (by kernel_rfl) (fun _ _ _ h => h) (Or.inl ⟨by rfl, ?_⟩) (by assumption) ?_
  rotate_left
  · (intro w hSw; (try dsimp only at hSw); go_simp; try with_reducible rfl)
  try simp only [Act.put, List.setIfInBounds_toArray, List.set_cons_zero, List.set_cons_succ]
  refine wpAnyH_take (i := 2) (oi := ⟨some 7, _, _, _, _, _⟩) (v := ?_) rfl (by kernel_rfl) (by kernel_rfl) (by kernel_rfl) (fun _ _ _ h => h) (Or.inl ⟨by rfl, ?_⟩) (by assumption) ?_
  rotate_left
  · (intro w hSw; (try dsimp only at hSw); go_simp; try with_reducible rfl)
  try simp only [Act.put, List.setIfInBounds_toArray, List.set_cons_zero, List.set_cons_succ]
  refine wpAnyH_take (i := 3) (oi := ⟨some 8, _, _, _, _, _⟩) (v := ?_) rfl (by kernel_rfl) (by kernel_rfl) (by kernel_rfl) (fun _ _ _ h => h) (Or.inl ⟨by rfl, ?_⟩) (by assumption) ?_
  rotate_left
  · (intro w hSw; (try dsimp only at hSw); go_simp; try with_reducible rfl)
  try simp only [Act.put, List.setIfInBounds_toArray, List.set_cons_zero, List.set_cons_succ]
  refine wpAnyH_ready (rs := [1]) (by kernel_rfl) (by simp) ?_
  refine AllReadyH.cons rfl (fun K hK => ?_) AllReadyH.nil
  rw [if_pos (by rfl)]
  refine wp_app_run _ _ _ rfl (.slice none 0 0) _ rfl rfl hrun ?_
  have hS1 := g1.cell hS0 (by simp)
  refine hK.out _ _ hS1 (fun _ => ?_)
  clear hK
  refine wpAnyH_ready (rs := [4]) (by kernel_rfl) (by simp) ?_
  refine AllReadyH.cons rfl (fun K hK => ?_) AllReadyH.nil
  go_simp
  refine hwo.mono ?_
  clear hwo
  rintro e w2 ⟨v2, rfl, o2, g2⟩
  obtain ⟨a2, c2, rfl⟩ := rowFormS o2
  have hS2 := g2.cell hS1 (by simp)
  go_wp2_with fail
  refine hK.out _ _ hS2 (fun _ => ?_)
  clear hK
  refine wpAnyH_ready (rs := [5]) (by kernel_rfl) (by simp) ?_
  refine AllReadyH.cons rfl (fun K hK => ?_) AllReadyH.nil
  go_simp
  refine hK.out _ _ hS2 (fun _ => ?_)
  clear hK
  refine wpAnyH_done (by kernel_rfl) ?_ _
  have k0 := b1 w2 (gW01.trans g2)
  have hdl2 : (DirL.drop dl t.data.toList).length ≤ 3518437208880 := Nat.le_trans (List.length_filter_le _ _) hdl
  have hW2 := fun X (g : w2.grownBy X none) => without_any (.slice a2 dl.length c2) dl t X (World.ownsRow.kept (World.ownsRow.mono o2 (Nat.zero_le _)) g (by cases (Value.slice a2 dl.length c2).ownBlock <;> simp)) (by omega)
  obtain ⟨dm, hdm⟩ : ∃ dm, dm = DirL.drop dl t.data.toList := ⟨_, rfl⟩
  rw [← hdm] at hdl2
  simp only [← hdm] at hW2
  replace hdm := Lib.hid hdm
  have hg2 := gw1.trans g2
  have g02 := gW01.trans g2
  have gBs := gB.size
  have h02 := g02.size
  clear hS0 hS1 hS2 b0 b1 gW01 g1 o2 gd gB hrun
  go_wp2_with fail
  have gd2 := gdrew (World.grownBy.refl w2 none)
  have hS0' : w2.drew.cell? ⟨w.heap.size, 2, none⟩ = some (.string t) ∧ w2.drew.cell? ⟨w.heap.size, 3, none⟩ = some (.int .i64 (i : Int)) := ⟨b2 _ (g02.trans gd2), b3 _ (g02.trans gd2)⟩
  refine wp_region_held_drew (S := fun V => V.cell? ⟨w.heap.size, 2, none⟩ = some (.string t) ∧ V.cell? ⟨w.heap.size, 3, none⟩ = some (.int .i64 (i : Int))) (by kernel_rfl) hS0' (fun hS0 => ?_)
  refine wpAnyH_take (i := 0) (oi := ⟨some 17, _, _, _, _, _⟩) (v := ?_) rfl (by kernel_rfl) (by kernel_rfl) (by kernel_rfl) (fun _ _ _ h => h) (Or.inl ⟨by rfl, ?_⟩) (by assumption) ?_
  rotate_left
  · (intro w hSw; (try dsimp only at hSw); go_simp; try with_reducible rfl)
  try simp only [Act.put, List.setIfInBounds_toArray, List.set_cons_zero, List.set_cons_succ]
  refine wpAnyH_take (i := 1) (oi := ⟨some 18, _, _, _, _, _⟩) (v := ?_) rfl (by kernel_rfl) (by kernel_rfl) (by kernel_rfl) (fun _ _ _ h => h) (Or.inl ⟨by rfl, ?_⟩) (by assumption) ?_
  rotate_left
  · (intro w hSw; (try dsimp only at hSw); go_simp; try with_reducible rfl)
  try simp only [Act.put, List.setIfInBounds_toArray, List.set_cons_zero, List.set_cons_succ]
  refine wpAnyH_take (i := 2) (oi := ⟨some 19, _, _, _, _, _⟩) (v := ?_) rfl (by kernel_rfl) (by kernel_rfl) (by kernel_rfl) (fun _ _ _ h => h) (Or.inl ⟨by rfl, ?_⟩) (by assumption) ?_
  rotate_left
  · (intro w hSw; (try dsimp only at hSw); go_simp; try with_reducible rfl)
  try simp only [Act.put, List.setIfInBounds_toArray, List.set_cons_zero, List.set_cons_succ]
  refine wpAnyH_take (i := 4) (oi := ⟨some 21, _, _, _, _, _⟩) (v := ?_) rfl (by kernel_rfl) (by kernel_rfl) (by kernel_rfl) (fun _ _ _ h => h) (Or.inl ⟨by rfl, ?_⟩) (by assumption) ?_
  rotate_left
  · (intro w hSw; (try dsimp only at hSw); go_simp; try with_reducible rfl)
  try simp only [Act.put, List.setIfInBounds_toArray, List.set_cons_zero, List.set_cons_succ]
  refine wpAnyH_take (i := 5) (oi := ⟨some 22, _, _, _, _, _⟩) (v := ?_) rfl (by kernel_rfl) (by kernel_rfl) (by kernel_rfl) (fun _ _ _ h => h) (Or.inl ⟨by rfl, ?_⟩) (by assumption) ?_
  rotate_left
  · (intro w hSw; (try dsimp only at hSw); go_simp; try with_reducible rfl)
  try simp only [Act.put, List.setIfInBounds_toArray, List.set_cons_zero, List.set_cons_succ]
  refine wpAnyH_take (i := 6) (oi := ⟨some 23, _, _, _, _, _⟩) (v := ?_) rfl (by kernel_rfl) (by kernel_rfl) (by kernel_rfl) (fun _ _ _ h => h) (Or.inl ⟨by rfl, ?_⟩) (by assumption) ?_
  rotate_left
  · (intro w hSw; (try dsimp only at hSw); go_simp; try with_reducible rfl)
  try simp only [Act.put, List.setIfInBounds_toArray, List.set_cons_zero, List.set_cons_succ]
  refine wpAnyH_take (i := 7) (oi := ⟨some 24, _, _, _, _, _⟩) (v := ?_) rfl (by kernel_rfl) (by kernel_rfl) (by kernel_rfl) (fun _ _ _ h => h) (Or.inl ⟨by rfl, ?_⟩) (by assumption) ?_
  rotate_left
  · (intro w hSw; (try dsimp only at hSw); go_simp; try with_reducible rfl)
  try simp only [Act.put, List.setIfInBounds_toArray, List.set_cons_zero, List.set_cons_succ]
  refine wpAnyH_take (i := 8) (oi := ⟨some 25, _, _, _, _, _⟩) (v := ?_) rfl (by kernel_rfl) (by kernel_rfl) (by kernel_rfl) (fun _ _ _ h => h) (Or.inl ⟨by rfl, ?_⟩) (by assumption) ?_
  rotate_left
  · (intro w hSw; (try dsimp only at hSw); go_simp; try with_reducible rfl)
  try simp only [Act.put, List.setIfInBounds_toArray, List.set_cons_zero, List.set_cons_succ]
  refine wpAnyH_ready (rs := [3, 9]) (by kernel_rfl) (by simp) ?_
  refine AllReadyH.cons rfl (fun K hK => ?_) (AllReadyH.cons rfl (fun K hK => ?_) AllReadyH.nil)
  · go_simp
    refine (hW2 _ gd2).mono ?_
    clear hW2
    rintro e w3 ⟨v3, rfl, o3, g3⟩
    obtain ⟨a3, c3, rfl⟩ := rowFormS o3
    have hS3 := And.intro (g3.cell hS0.1 (by simp)) (g3.cell hS0.2 (by simp))
    go_wp2_with fail
    refine hK.out _ _ hS3 (fun _ => ?_)
    clear hK
    refine wpAnyH_ready (rs := [9]) (by kernel_rfl) (by simp) ?_
    refine AllReadyH.cons rfl (fun K hK => ?_) AllReadyH.nil
    go_simp
    have gX := World.grownBy_alloc w3 (.cells #[.string t, .int .i64 (i : Int)] 130) none
    have eX := World.alloc_heap_new w3 (.cells #[.string t, .int .i64 (i : Int)] 130)
    have hSX := And.intro (gX.cell hS3.1 (by simp)) (gX.cell hS3.2 (by simp))
    have oX := World.ownsRow.kept (World.ownsRow.mono o3 (Nat.le_trans h02 gd2.size)) gX (by cases (Value.slice a3 dm.length c3).ownBlock <;> simp)
    have hws : W0.heap.size ≤ (w3.alloc (.cells #[.string t, .int .i64 (i : Int)] 130)).heap.size := by have := gX.size; have := g3.size; have := gd2.size; omega
    obtain ⟨v4, w4, hrun4, o4, g4⟩ := push_name (.slice a3 dm.length c3) dm t i W0.heap.size w3.heap.size _ oX hws hdl2 eX
    have gF := Lib.hid (gnew (((hg2.trans gd2).trans g3).trans gX) g4 (fun r e => .inl (Nat.le_trans gBs (World.ownsRow.lt oX r e).1)))
    have oF := Lib.hid (World.ownsRow.mono o4 gBs)
    have hS4 : w4.cell? ⟨w.heap.size, 2, none⟩ = some (.string t) ∧ w4.cell? ⟨w.heap.size, 3, none⟩ = some (.int .i64 (i : Int)) := ⟨b2 _ (gnew (((g02.trans gd2).trans g3).trans gX) g4 (fun r e => .inl (World.ownsRow.lt oX r e).1)), b3 _ (gnew (((g02.trans gd2).trans g3).trans gX) g4 (fun r e => .inl (World.ownsRow.lt oX r e).1))⟩
    refine hK.out _ _ hSX (fun _ => ?_)
    clear hK
    refine wpAnyH_ready (rs := [10]) (by kernel_rfl) (by simp) ?_
    refine AllReadyH.cons rfl (fun K hK => ?_) AllReadyH.nil
    rw [if_pos (by rfl)]
    refine wp_app_run _ _ _ rfl (.slice a3 dm.length c3) _ rfl rfl hrun4 ?_
    refine hK.out _ _ hS4 (fun _ => ?_)
    clear hK
    refine wpAnyH_ready (rs := [11]) (by kernel_rfl) (by simp) ?_
    refine AllReadyH.cons rfl (fun K hK => ?_) AllReadyH.nil
    go_simp
    refine hK.out _ _ hS4 (fun _ => ?_)
    clear hK
    refine wpAnyH_done (by kernel_rfl) ?_ _
    go_wp2_with fail
    go_ret
    exact ⟨v4, rfl, by rw [← hdm.out]; exact oF.out, gF.out⟩
  · go_simp
    have gX := World.grownBy_alloc w2.drew (.cells #[.string t, .int .i64 (i : Int)] 130) none
    have eX := World.alloc_heap_new w2.drew (.cells #[.string t, .int .i64 (i : Int)] 130)
    have hSX := And.intro (gX.cell hS0.1 (by simp)) (gX.cell hS0.2 (by simp))
    refine hK.out _ _ hSX (fun _ => ?_)
    clear hK
    refine wpAnyH_ready (rs := [3]) (by kernel_rfl) (by simp) ?_
    refine AllReadyH.cons rfl (fun K hK => ?_) AllReadyH.nil
    go_simp
    refine (hW2 _ (gd2.trans gX)).mono ?_
    clear hW2
    rintro e w3 ⟨v3, rfl, o3, g3⟩
    obtain ⟨a3, c3, rfl⟩ := rowFormS o3
    have hS3 := And.intro (g3.cell hSX.1 (by simp)) (g3.cell hSX.2 (by simp))
    go_wp2_with fail
    refine hK.out _ _ hS3 (fun _ => ?_)
    clear hK
    have eX3 := (g3.block _ (lt_of_block eX) (by simp)).trans eX
    have oX := World.ownsRow.mono o3 (show W0.heap.size ≤ _ by have := gX.size; have := gd2.size; omega)
    have hws : W0.heap.size ≤ w3.heap.size := by have := gX.size; have := g3.size; have := gd2.size; omega
    obtain ⟨v4, w4, hrun4, o4, g4⟩ := push_name (.slice a3 dm.length c3) dm t i W0.heap.size w2.drew.heap.size w3 oX hws hdl2 eX3
    have gF := Lib.hid (gnew (((hg2.trans gd2).trans gX).trans g3) g4 (fun r e => .inl (Nat.le_trans gBs (World.ownsRow.lt oX r e).1)))
    have oF := Lib.hid (World.ownsRow.mono o4 gBs)
    have hS4 : w4.cell? ⟨w.heap.size, 2, none⟩ = some (.string t) ∧ w4.cell? ⟨w.heap.size, 3, none⟩ = some (.int .i64 (i : Int)) := ⟨b2 _ (gnew (((g02.trans gd2).trans gX).trans g3) g4 (fun r e => .inl (World.ownsRow.lt oX r e).1)), b3 _ (gnew (((g02.trans gd2).trans gX).trans g3) g4 (fun r e => .inl (World.ownsRow.lt oX r e).1))⟩
    refine wpAnyH_ready (rs := [10]) (by kernel_rfl) (by simp) ?_
    refine AllReadyH.cons rfl (fun K hK => ?_) AllReadyH.nil
    rw [if_pos (by rfl)]
    refine wp_app_run _ _ _ rfl (.slice a3 dm.length c3) _ rfl rfl hrun4 ?_
    refine hK.out _ _ hS4 (fun _ => ?_)
    clear hK
    refine wpAnyH_ready (rs := [11]) (by kernel_rfl) (by simp) ?_
    refine AllReadyH.cons rfl (fun K hK => ?_) AllReadyH.nil
    go_simp
    refine hK.out _ _ hS4 (fun _ => ?_)
    clear hK
    refine wpAnyH_done (by kernel_rfl) ?_ _
    go_wp2_with fail
    go_ret
    exact ⟨v4, rfl, by rw [← hdm.out]; exact oF.out, gF.out⟩
end Go.Proofs.YtafcgjbafihniaaGreat

/-
  LAYER 1 (fs): the reference's names: a list's names in order, by insertion.
-/
namespace Go.Proofs.YtafcgjbafihniaaGreat
set_option maxRecDepth 100000
open Go.RowKit Go.Lib Go.Sort
open Go.Proofs (encStr)
attribute [local go_sem] Oper.semAt_some

def InO (l : List (List UInt8)) : Prop := l.Pairwise fun a b => leB a b = true
theorem leB_trans {a b c : List UInt8} (h1 : leB a b = true) (h2 : leB b c = true) : leB a c = true := by simp only [leB, decide_eq_true_eq] at *; exact List.le_trans h1 h2
theorem leB_total (a b : List UInt8) : leB a b = true ∨ leB b a = true := by simp only [leB, decide_eq_true_eq]; exact List.le_total a b
theorem le_put {A B : List (List UInt8)} {s : List UInt8} (h : InO (A ++ B)) (hb : ∀ b ∈ B, leB s b = true) (ha : ∀ y, A.getLast? = some y → leB y s = true) : InO (A ++ s :: B) := by
  unfold InO at h ⊢
  rw [List.pairwise_append] at h ⊢
  obtain ⟨h1, h2, h3⟩ := h
  refine ⟨h1, List.pairwise_cons.2 ⟨hb, h2⟩, fun a hA b hB => ?_⟩
  have hai : leB a s = true := by
    rcases List.eq_nil_or_concat A with rfl | ⟨A', y, rfl⟩
    · cases hA
    · have hy := ha y (by simp)
      rw [List.concat_eq_append] at hA h1
      rcases List.mem_append.1 hA with h | h
      · exact leB_trans ((List.pairwise_append.1 h1).2.2 a h y (by simp)) hy
      · have : a = y := by simpa using h
        rw [this]; exact hy
  rcases List.mem_cons.1 hB with rfl | hB
  · exact hai
  · exact h3 a hA b hB
theorem inO_eq {l l' : List (List UInt8)} (h : InO l) (hp : l.Perm l') : l = l'.mergeSort leB := by
  have tot : ∀ a b : List UInt8, (leB a b || leB b a) = true := fun a b => by rcases leB_total a b with h | h <;> simp [h]
  rw [← mergeSort_of_perm hp]
  refine List.Perm.eq_of_pairwise (le := fun a b => leB a b = true) (fun a b _ _ h1 h2 => ?_) h (List.pairwise_mergeSort (le := leB) (fun _ _ _ h1 h2 => leB_trans h1 h2) tot l) (List.mergeSort_perm l leB).symm
  simp only [leB, decide_eq_true_eq] at h1 h2
  exact List.le_antisymm h1 h2

/-- A list of names, in a row of its own. -/
def StrO (w : World) (B : Nat) (v : Value) (O : List (List UInt8)) : Prop := w.ownsRow B 9 1 v O.length (O.map encStr)
theorem StrO.form {w : World} {B : Nat} {v : Value} {O : List (List UInt8)} (h : StrO w B v O) : ∃ a c, v = .slice a O.length c := rowFormS h
theorem StrO.new {w w' : World} {B : Nat} {v : Value} {O : List (List UInt8)} (h : StrO w B v O) (g : w.grownBy w' none) : StrO w' B v O := World.ownsRow.kept h g (by cases v.ownBlock <;> simp)
theorem StrO.at {w : World} {B : Nat} {a : Option Addr} {n c : Nat} {O : List (List UInt8)} (h : StrO w B (.slice a n c) O) {k : Nat} {i : List UInt8} (hk : O[k]? = some i) : ∃ g, a = some ⟨g, 0, none⟩ ∧ B ≤ g ∧ g < w.heap.size ∧ n = O.length ∧ w.cell? ⟨g, k, none⟩ = some (.string ⟨i.toArray⟩) ∧ w.frozen? ⟨g, k, none⟩ = false := by
  have hl := (List.getElem?_eq_some_iff.1 hk).1
  have hr := h
  unfold StrO at hr
  obtain ⟨h0, ⟨e, hz⟩ | ⟨g, cap, cur, e, q1, q2, q3⟩⟩ := h
  · omega
  · obtain ⟨rfl, rfl, rfl⟩ : a = some ⟨g, 0, none⟩ ∧ n = O.length ∧ c = cap := by simpa using e
    refine ⟨g, rfl, q1, lt_of_block q2, rfl, ?_, World.ownsRow.frozenAt hr k⟩
    rw [World.ownsRow.cellAt hr k (by omega)]
    simp [hk]
theorem StrO.swap {w : World} {B g c : Nat} {A C : List (List UInt8)} {x y : List UInt8} (h : StrO w B (.slice (some ⟨g, 0, none⟩) (A ++ x :: y :: C).length c) (A ++ x :: y :: C)) :
    StrO ((w.setCell ⟨g, A.length, none⟩ (.string ⟨y.toArray⟩)).setCell ⟨g, A.length + 1, none⟩ (.string ⟨x.toArray⟩)) B (.slice (some ⟨g, 0, none⟩) (A ++ x :: y :: C).length c) (A ++ y :: x :: C) := by
  unfold StrO at h ⊢
  have h1 := (World.ownsRow.stored h A.length (.string ⟨y.toArray⟩)).1
  have h2 := (World.ownsRow.stored h1 (A.length + 1) (.string ⟨x.toArray⟩)).1
  have e : (((A ++ x :: y :: C).map encStr).set A.length (.string ⟨y.toArray⟩)).set (A.length + 1) (.string ⟨x.toArray⟩) = (A ++ y :: x :: C).map encStr := by
    simp only [List.map_append, List.map_cons]
    rw [List.set_append_right (h := by simp), List.length_map, Nat.sub_self, List.set_cons_zero, List.set_append_right (h := by simp), List.length_map, show A.length + 1 - A.length = 1 by omega]
    rfl
  rw [e] at h2
  have el : (A ++ y :: x :: C).length = (A ++ x :: y :: C).length := by simp
  rw [el]
  exact h2
theorem infoStr : (Tryz.prog.info? 9).map (fun i => (i.zero, i.size, i.bytes)) = some (some (.string ⟨#[]⟩), 1, 16) := by kernel_rfl
theorem infoStr_parts : ∃ i0 : TypeInfo, Tryz.prog.info? 9 = some i0 ∧ i0.zero = some (.string ⟨#[]⟩) ∧ i0.size = 1 ∧ i0.bytes = 16 := by
  obtain ⟨i0, h1, h2⟩ := Option.map_eq_some_iff.1 infoStr
  simp at h2
  exact ⟨i0, h1, h2.1, h2.2.1, h2.2.2⟩

set_option maxHeartbeats 8000000 in
theorem names_any (po : Option Addr) (v : Value) (l : DirL) (w : World) (h : w.ownsRow 0 130 2 v l.length (nameCells l)) (hlen : l.length ≤ 1048576) :
    Calls Tryz.prog 80 #[.pointer po, v] w fun e w' => ∃ v', e = .returned v' ∧ StrO w' w.heap.size v' (l.names.mergeSort leB) ∧ w.grownBy w' none := by
  obtain ⟨a0, c0, rfl⟩ := rowFormS h
  obtain ⟨n, hn⟩ : ∃ n, n = l.length := ⟨_, rfl⟩
  have HE : Hid (∀ W, w.grownBy W none → OwnR (fun _ => True) W 130 2 (.slice a0 n c0) n (nameCells l)) := Lib.hid fun W g => by rw [hn]; exact OwnR.new ⟨h, fun _ _ => trivial⟩ g
  rw [← hn] at hlen ⊢
  obtain ⟨i0, hi, hz0, hz1, hz2⟩ := infoStr_parts
  obtain ⟨NM, hNM⟩ : ∃ NM, NM = l.names.mergeSort leB := ⟨_, rfl⟩
  rw [← hNM]
  replace hNM := Lib.hid hNM
  replace hi := Lib.hid hi
  replace hz0 := Lib.hid hz0
  replace hz1 := Lib.hid hz1
  replace hz2 := Lib.hid hz2
  replace hn := Lib.hid hn
  clear h
  go_enter Tryz.func80, Tryz.ntmps80
  go_wp2_with fail
  go_loopw [5, 11] (fun v3 v8 wr => ∃ (i : Nat) (O : List (List UInt8)), v8 = .int .i64 (i : Int) ∧ i ≤ n ∧ Hid (StrO wr w.heap.size v3 O) ∧ Hid (InO O ∧ O.Perm (l.names.take i) ∧ O.length = i) ∧ Hid (w.grownBy wr none)) (fun _ v8 _ => n - (RowKit.intOf v8).toNat)
  case atStart => exact ⟨0, [], rfl, Nat.zero_le _, Lib.hid (World.ownsRow_nil _ _ _ _), Lib.hid ⟨List.Pairwise.nil, by simp, rfl⟩, World.grownBy.refl _ _⟩
  case round =>
    obtain ⟨i, O, rfl, hi1, hO, hS, hG⟩ := hrel
    by_cases hlt : i < n
    · have hltz : (i : Int) < (n : Int) := by omega
      obtain ⟨x, hx⟩ : ∃ x, l[i]? = some x := ⟨_, List.getElem?_eq_getElem (by have := hn.out; omega)⟩
      obtain ⟨xn, xi⟩ := x
      obtain ⟨g0, rfl, _, _, rc, _⟩ := (HE.out wr hG.out).cell (by omega)
      have hat := flat_at (fun x : List UInt8 × Nat => [encStr x.1, .int .i64 (x.2 : Int)]) 2 (fun _ => rfl) l i (xn, xi) hx
      have q0 := (rc (i * 2 + 0) (by omega)).trans (hat 0 (by omega))
      have q1 := (rc (i * 2 + 1) (by omega)).trans (hat 1 (by omega))
      simp at q0 q1
      obtain ⟨xs, hxs⟩ : ∃ xs : ByteArray, xs = ⟨xn.toArray⟩ := ⟨_, rfl⟩
      have q0' : wr.cell? ⟨g0, i * 2, none⟩ = some (.string xs) := by rw [q0, hxs]
      obtain ⟨sa, sc, rfl⟩ := hO.out.form
      -- the box of the element, the one-element row
      have gY := World.grownBy_alloc wr (.cells #[.string xs, .int .i64 (xi : Int)] 130) none
      have gS := World.grownBy_alloc (wr.alloc (.cells #[.string xs, .int .i64 (xi : Int)] 130)) (.cells #[.string xs] 9) none
      have eS := World.alloc_heap_new (wr.alloc (.cells #[.string xs, .int .i64 (xi : Int)] 130)) (.cells #[.string xs] 9)
      rw [World.size_alloc] at eS
      have hSX := hO.out.new (gY.trans gS)
      unfold StrO at hSX
      rw [hS.out.2.2] at hSX ⊢
      obtain ⟨X, hX⟩ : ∃ X, X = (wr.alloc (.cells #[.string xs, .int .i64 (xi : Int)] 130)).alloc (.cells #[.string xs] 9) := ⟨_, rfl⟩
      have gX := gY.trans gS
      rw [← hX] at eS hSX gX
      have cS : X.cell? ⟨wr.heap.size + 1, 0, none⟩ = some (.string xs) := by simp only [World.cell?, eS]; rfl
      have hgs := hG.out.size
      have hXs : w.heap.size ≤ X.heap.size := by have := gX.size; omega
      obtain ⟨v3, w3, hrun, ho3, g3, _, _⟩ := run_append_own_at (P := Tryz.prog) X w.heap.size 127 127 9 i0 (.string ⟨#[]⟩) 1 16 Tryz.underlying127 hi.out hz0.out hz1.out hz2.out rfl (by decide) (.slice sa i sc) i (O.map encStr) hSX ⟨wr.heap.size + 1, 0, none⟩ 1 1 [.string xs] rfl
        (fun j u hj => by
          match j, hj with
          | 0, hj => simp at hj; subst hj; exact cS) (fun u hu => by simp at hu; subst hu; rfl) (by unfold maxLen; omega) (by omega) hXs
      have gF := Lib.hid (gnew (hG.out.trans gX) g3 (fun r e => by left; exact (World.ownsRow.lt hSX r e).1))
      obtain ⟨m, hm⟩ : ∃ m, m = i + 1 := ⟨_, rfl⟩
      have hO3 : StrO w3 w.heap.size v3 (O ++ [xn]) := by
        unfold StrO
        rw [List.length_append, hS.out.2.2, List.map_append]
        have : [Value.string xs] = [xn].map encStr := by rw [hxs]; rfl
        rw [← this]
        exact ho3
      obtain ⟨sa3, sc3, rfl⟩ := hO3.form
      have hl3 : (O ++ [xn]).length = m := by rw [hm, List.length_append, hS.out.2.2]; rfl
      rw [hl3] at hO3 hrun
      rw [hX] at hrun
      have hxo := Lib.hid hx
      have hwk0 : IntKind.i64.wrap ((m : Int) - 1) = (i : Int) := by rw [show (m : Int) - 1 = (i : Int) by omega]; exact IntWalk.i64_in _ (by omega)
      replace hm := Lib.hid hm
      replace hO3 := Lib.hid hO3
      replace hl3 := Lib.hid hl3
      replace hxs := Lib.hid hxs
      replace hX := Lib.hid hX
      clear gY gS eS hSX gX cS g3 ho3 hO hx q0 rc hat
      go_wp2_with (at_builtin; refine wpList_app_run rfl _ _ 127 rfl (.slice sa i sc) _ rfl rfl hrun ?_)
      go_loopw [8] (fun v8 wr => ∃ (k : Nat) (A B : List (List UInt8)), v8 = .int .i64 (k : Int) ∧ k ≤ i ∧ Hid (A.length = k) ∧ Hid (A ++ B = O) ∧ Hid (∀ b ∈ B, leB xn b = true) ∧ Hid (StrO wr w.heap.size (.slice sa3 m sc3) (A ++ xn :: B)) ∧ Hid (w.grownBy wr none)) (fun v8 _ => (RowKit.intOf v8).toNat)
      case atStart => exact ⟨i, O, [], rfl, Nat.le_refl _, hS.out.2.2, Lib.hid (by simp), Lib.hid (by simp), hO3, gF⟩
      case round =>
        obtain ⟨k, A, B, rfl, hki, hA, hAB, hB, hR, hG⟩ := hrel
        have FIN : Hid ((∀ y, A.getLast? = some y → leB y xn = true) → InO (A ++ xn :: B) ∧ (A ++ xn :: B).Perm (l.names.take (i + 1)) ∧ (A ++ xn :: B).length = i + 1) := Lib.hid fun hy => by
          obtain ⟨s1, s2, s3⟩ := hS.out
          have hAB' := hAB.out
          refine ⟨le_put (by rw [hAB']; exact s1) hB.out hy, ?_, ?_⟩
          · have ht : l.names.take (i + 1) = l.names.take i ++ [xn] := by
              obtain ⟨h1, h2⟩ := List.getElem?_eq_some_iff.1 hxo.out
              rw [List.take_succ_eq_append_getElem (by simpa [DirL.names] using h1)]
              simp [DirL.names, h2]
            rw [ht]
            refine List.perm_middle.trans ((List.Perm.cons xn (by rw [hAB']; exact s2)).trans (List.perm_append_comm (l₁ := [xn])))
          · rw [← hAB'] at s3
            simp at s3 ⊢
            omega
        by_cases hk0 : k = 0
        · subst hk0
          have hF := Lib.hid (FIN.out (fun y h => by rw [List.eq_nil_of_length_eq_zero hA.out] at h; cases h))
          have hG2 := hG
          have hR2 := hR
          have hkb : decide (0 < (0 : Nat)) = false := by simp
          clear FIN hR hG hS hB hAB hA
          go_wp2_with fail
          go_quiet (fail)
          go_wp2_with fail
          go_roundw
          case rel => exact ⟨i + 1, A ++ xn :: B, by go_num, by omega, Lib.hid (by have := (hR2.out).new (gdrewN (World.grownBy.refl wr none) nq); rw [hm.out, ← hF.out.2.2] at this; rw [hm.out, ← hF.out.2.2]; exact this), hF, Lib.hid (gdrewN hG2.out nq)⟩
          case measure => simp [RowKit.intOf]; omega
        · obtain ⟨j, hkj⟩ : ∃ j, k = j + 1 := ⟨k - 1, by omega⟩
          obtain ⟨A', y, hAy, hAl⟩ : ∃ A' y, A = A' ++ [y] ∧ A'.length = j := by
            have hAk := hA.out
            rcases List.eq_nil_or_concat A with rfl | ⟨A', y, rfl⟩
            · simp at hAk; omega
            · refine ⟨A', y, List.concat_eq_append, ?_⟩
              simp at hAk; omega
          have hk1 : (A ++ xn :: B)[k]? = some xn := by rw [List.getElem?_append_right (by have := hA.out; omega), hA.out]; simp
          have hk2 : (A ++ xn :: B)[j]? = some y := by rw [hAy, List.append_assoc, List.getElem?_append_right (by omega), hAl]; simp
          obtain ⟨g, rfl, hBg, -, -, d1, f1⟩ := hR.out.at hk1
          obtain ⟨g', e', -, -, -, d2, f2⟩ := hR.out.at hk2
          cases e'
          obtain ⟨ys, hys⟩ : ∃ ys : ByteArray, ys = ⟨y.toArray⟩ := ⟨_, rfl⟩
          rw [← hys] at d2
          rw [← hxs.out] at d1
          obtain ⟨q, hq⟩ : ∃ q, q = leB y xn := ⟨_, rfl⟩
          have htest : (Op.bytesLess ys.toList xs.toList || ys.toList == xs.toList) = q := by
            rw [hq, hys, hxs.out, ByteArray.toList_eq, ByteArray.toList_eq, bytesLess_eq]
            show (decide (y < xn) || y == xn) = decide (y ≤ xn)
            by_cases h1 : y < xn
            · simp [h1, List.le_of_lt h1]
            · by_cases h2 : y = xn
              · subst h2; simp [List.le_refl]
              · have : ¬ y ≤ xn := fun h3 => by
                  rcases List.le_iff_lt_or_eq.1 h3 with h4 | h4
                  · exact h1 h4
                  · exact h2 h4
                simp [h1, h2, this]
          have hkb : decide (0 < k) = true := by simp; omega
          have hj1 : j < m := by have := hm.out; omega
          have hk1' : k < m := by have := hm.out; omega
          have hwk : IntKind.i64.wrap ((k : Int) - 1) = (j : Int) := by rw [show (k : Int) - 1 = (j : Int) by omega]; exact IntWalk.i64_in _ (by omega)
          have RR := Lib.hid (And.intro hAy (And.intro hAl hq))
          have hkj' := Lib.hid hkj
          have hG2 := hG
          have hR2 := hR
          have hys' := Lib.hid hys
          clear hAy hAl hkj hk1 hk2 hk0 hG hR hys hO3 hBg
          cases q with
          | true =>
            have hF := Lib.hid (FIN.out (fun y' h => by
              rw [RR.out.1] at h
              simp at h
              rw [← h]
              exact RR.out.2.2.symm))
            clear hq FIN f1 f2
            go_wp2_with fail
            go_quiet (fail)
            go_wp2_with fail
            go_roundw
            case rel => exact ⟨i + 1, A ++ xn :: B, by go_num, by omega, Lib.hid (by have := (hR2.out).new (gdrewN (World.grownBy.refl wr none) nq); rw [hm.out, ← hF.out.2.2] at this; rw [hm.out, ← hF.out.2.2]; exact this), hF, Lib.hid (gdrewN hG2.out nq)⟩
            case measure => simp [RowKit.intOf]; omega
          | false =>
            clear hq FIN
            go_wp2_with fail
            go_quiet (fail)
            go_wp2_with fail
            have hgq := gdrewN (World.grownBy.refl wr none) nq
            have hR5 := hR2.out.new hgq
            have hG5 := Lib.hid (hG2.out.trans hgq)
            generalize wr.drewN nq = W5 at hgq hR5 hG5 ⊢
            obtain ⟨r1, r2, r3⟩ := RR.out
            have hRe : A ++ xn :: B = A' ++ y :: xn :: B := by rw [r1]; simp
            rw [hRe] at hR5
            have hk1 : (A' ++ y :: xn :: B)[k]? = some xn := by rw [List.getElem?_append_right (by have := hkj'.out; omega), hkj'.out, ← r2]; simp
            have hk2 : (A' ++ y :: xn :: B)[j]? = some y := by rw [List.getElem?_append_right (by omega), r2]; simp
            have hR6d := hR5.new (gdrew (World.grownBy.refl W5 none))
            obtain ⟨g1, e', -, -, hln, d1', f1⟩ := hR6d.at hk1
            obtain ⟨g2, e'', -, -, -, d2', f2⟩ := hR6d.at hk2
            cases e'
            cases e''
            obtain ⟨g3, e', -, -, -, d3, f3⟩ := hR5.at hk1
            obtain ⟨g4, e'', -, -, -, d4, f4⟩ := hR5.at hk2
            cases e'
            cases e''
            have hsw : Hid (∀ W, StrO W w.heap.size (.slice (some ⟨g, 0, none⟩) m sc3) (A' ++ y :: xn :: B) → StrO ((W.setCell ⟨g, j, none⟩ (.string xs)).setCell ⟨g, k, none⟩ (.string ys)) w.heap.size (.slice (some ⟨g, 0, none⟩) m sc3) (A' ++ xn :: y :: B)) := Lib.hid fun W hW => by
              have hl : m = (A' ++ y :: xn :: B).length := hln
              rw [hl] at hW ⊢
              have := hW.swap
              rw [r2] at this
              rw [hkj'.out, hxs.out, hys'.out]
              exact this
            have hB2 : Hid (∀ b ∈ y :: B, leB xn b = true) := Lib.hid (by
              intro b hb
              rcases List.mem_cons.1 hb with rfl | hb
              · rcases leB_total b xn with h | h
                · rw [← r3] at h; cases h
                · exact h
              · exact hB.out b hb)
            have hAB2 : Hid (A' ++ y :: B = O) := Lib.hid (by rw [← hAB.out, r1]; simp)
            have hA2 : Hid (A'.length = j) := Lib.hid r2
            have hR6 := Lib.hid hR5
            have hGF : Hid (∀ W : World, StrO W w.heap.size (.slice (some ⟨g, 0, none⟩) m sc3) (A' ++ y :: xn :: B) → w.grownBy W none → w.grownBy ((W.setCell ⟨g, j, none⟩ (.string xs)).setCell ⟨g, k, none⟩ (.string ys)) none) := Lib.hid fun W hW hg => by
              have h1 := World.ownsRow.lt hW g rfl
              exact gnew hg (gset (gset (World.grownBy.refl W (some g)) j _) k _) (fun r e => by cases e; left; exact h1.1)
            have hne1 : k ≠ j := by have := hkj'.out; omega
            have hne2 : j ≠ k := fun e => hne1 e.symm
            rw [← hxs.out] at d1' d3
            rw [← hys'.out] at d2' d4
            clear r1 r2 r3 hRe hk1 hk2 hR6d hln RR hAB hB hA hR5 hgq hR2 hG2 d1 d2 htest
            go_region
            all_goals go_wp2_with fail
            go_roundw
            case rel => exact ⟨j, A', y :: B, by go_num, by have := hkj'.out; omega, hA2, hAB2, hB2, hsw.out W5 hR6.out, Lib.hid ((hGF.out W5 hR6.out hG5.out).trans (gdrew (World.grownBy.refl _ none)))⟩
            case measure => simp [RowKit.intOf]; have := hkj'.out; omega
    · obtain rfl : n = i := by omega
      obtain ⟨sa, sc, rfl⟩ := hO.out.form
      have Q : Hid (StrO wr w.heap.size (.slice sa O.length sc) NM ∧ w.grownBy wr none) := Lib.hid (by
        obtain ⟨s1, s2, s3⟩ := hS.out
        have : O = NM := by
          rw [hNM.out]
          refine inO_eq s1 ?_
          rw [List.take_of_length_le (by simp [DirL.names, hn.out])] at s2
          exact s2
        rw [← this]
        exact ⟨hO.out, hG.out⟩)
      clear hO hS hG
      go_wp2_with fail
      go_ret
      exact ⟨_, rfl, Q.out.1, Q.out.2⟩
end Go.Proofs.YtafcgjbafihniaaGreat

/-
  LAYER 1 (fs): the reference's data of a file: its safe data with all changes done.
-/
namespace Go.Proofs.YtafcgjbafihniaaGreat
set_option maxRecDepth 100000
open Go.RowKit Go.Lib
attribute [local go_sem] Oper.semAt_some

theorem reads_take {w : World} {a : Option Addr} {n c : Nat} {bs : List UInt8} (h : Reads w (.slice a n c) bs) {k : Nat} (hk : k ≤ bs.length) (ha : a = none → bs = []) : Reads w (.slice a k c) (bs.take k) := by
  rcases h with ⟨e, rfl⟩ | ⟨b, off, cap, e, h1, h2, h3⟩
  · obtain ⟨rfl, rfl, rfl⟩ : a = none ∧ n = 0 ∧ c = 0 := by simpa using e
    have : k = 0 := by simpa using hk
    subst this
    exact .inl ⟨rfl, rfl⟩
  · obtain ⟨rfl, rfl, rfl⟩ : a = some ⟨b, off, none⟩ ∧ n = bs.length ∧ c = cap := by simpa using e
    have hl : (bs.take k).length = k := by rw [List.length_take]; omega
    refine .inr ⟨b, off, c, by rw [hl], by omega, h2, fun i u hu => h3 i u ?_⟩
    have hi := (List.getElem?_eq_some_iff.1 hu).1
    rw [hl] at hi
    rw [List.getElem?_take_of_lt hi] at hu
    exact hu

set_option maxHeartbeats 8000000 in
theorem data_any (R : Nat → Prop) (sv cv : Value) (n : NodeP) (w : World) (h : NodeR R w sv cv n) (hs : n.safe.length ≤ 140737488355328) (hok : okL n.safe n.chg) (hm : n.chg.length < 4611686018427387904) :
    Calls Tryz.prog 53 #[.agg #[sv, cv]] w fun e w' => ∃ v', e = .returned v' ∧ Owns w' w.heap.size 5 v' n.data ∧ w.grownBy w' none := by
  obtain ⟨h1, dvs, h2, h3, h4⟩ := h
  obtain ⟨a1, c1, rfl⟩ := h1.form
  obtain ⟨a2, c2, rfl⟩ := h3.form
  have gB := World.grownBy_alloc w (.cells #[.slice a1 n.safe.length c1, .slice a2 n.chg.length c2] 100) none
  have eB := World.alloc_heap_new w (.cells #[.slice a1 n.safe.length c1, .slice a2 n.chg.length c2] 100)
  obtain ⟨W0, hW0⟩ : ∃ W0, W0 = w.alloc (.cells #[.slice a1 n.safe.length c1, .slice a2 n.chg.length c2] 100) := ⟨_, rfl⟩
  rw [← hW0] at gB eB
  have b0 : W0.cell? ⟨w.heap.size, 0, none⟩ = some (.slice a1 n.safe.length c1) := by simp [World.cell?, eB]
  have b1 : ∀ X, W0.grownBy X none → X.cell? ⟨w.heap.size, 1, none⟩ = some (.slice a2 n.chg.length c2) := fun X g => g.cell (by simp [World.cell?, eB]) (by simp)
  have hTw := twin_any (.slice a1 n.safe.length c1) n.safe W0 (Owns.reads (h1.new gB).1) hs
  obtain ⟨i0, hi, hz0, hz1, hz2⟩ := info_parts infoU8
  have hlen : Hid (n.safe.length ≤ 140737488355328) := Lib.hid hs
  obtain ⟨D, hD⟩ : ∃ D, D = n.data := ⟨_, rfl⟩
  have hD' : Hid (D = n.chg.foldl Chg.done n.safe) := Lib.hid hD
  rw [← hD]
  clear hD
  obtain ⟨m, hmm⟩ : ∃ m, m = n.chg.length := ⟨_, rfl⟩
  obtain ⟨sl, hsl⟩ : ∃ m, m = n.safe.length := ⟨_, rfl⟩
  rw [← hmm] at b1 h3 eB hW0 hm
  rw [← hsl] at b0 hTw eB hW0
  have HC : Hid (∀ W, W0.grownBy W none → OwnR R W 126 3 (.slice a2 m c2) m (chgCells (n.chg.zip dvs)) ∧ ∀ (i : Nat) (c : Chg) (dv : Value), n.chg[i]? = some c → dvs[i]? = some dv → OwnR R W 5 1 dv (chgData c).length (byteCells (chgData c))) := Lib.hid fun W g => ⟨h3.new (gB.trans g), fun i c dv e1 e2 => (h4 i c dv e1 e2).new (gB.trans g)⟩
  replace gB := Lib.hid gB
  replace hi := Lib.hid hi
  replace hz0 := Lib.hid hz0
  replace hz1 := Lib.hid hz1
  replace hz2 := Lib.hid hz2
  replace b1 := Lib.hid b1
  replace hok := Lib.hid hok
  replace hmm := Lib.hid hmm
  replace hsl := Lib.hid hsl
  replace h2 := Lib.hid h2
  have hs0 := Lib.hid (lt_of_block eB)
  clear h1 h3 h4 eB hs
  rw [← hmm.out]
  rw [← hsl.out]
  go_enter Tryz.func53, Tryz.ntmps53
  go_wp2_with fail
  rw [← hW0]
  replace hW0 := Lib.hid hW0
  refine hTw.mono ?_
  clear hTw
  rintro e W1 ⟨v1, rfl, o1, g1⟩
  have b2 := b1.out W1 g1
  have hg1 := Lib.hid g1
  have o1' := Lib.hid o1
  clear o1 g1
  go_wp2_with fail
  go_loopw [3, 12] (fun v3 v12 wr => ∃ (k : Nat) (bs : List UInt8), v12 = .int .i64 (k : Int) ∧ k ≤ m ∧ Hid (Owns wr W0.heap.size 5 v3 bs) ∧ Hid (D = (n.chg.drop k).foldl Chg.done bs ∧ okL bs (n.chg.drop k) ∧ bs.length ≤ 140737488355328) ∧ Hid (W0.grownBy wr none)) (fun _ v12 _ => m - (RowKit.intOf v12).toNat)
  case atStart => exact ⟨0, n.safe, rfl, Nat.zero_le _, o1', Lib.hid ⟨hD'.out, hok.out, hlen.out⟩, hg1⟩
  case round =>
    obtain ⟨k, bs, rfl, hk, hO, hP, hG⟩ := hrel
    by_cases hlt : k < m
    · have hltz : (k : Int) < (m : Int) := by omega
      obtain ⟨c, hc⟩ : ∃ c, n.chg[k]? = some c := ⟨_, List.getElem?_eq_getElem (by have := hmm.out; omega)⟩
      obtain ⟨dv, hdv⟩ : ∃ dv, dvs[k]? = some dv := ⟨_, List.getElem?_eq_getElem (by have := hmm.out; have := h2.out; omega)⟩
      obtain ⟨r1, r2⟩ := HC.out wr hG.out
      obtain ⟨g, rfl, _, _, rc, _⟩ := r1.cell (by omega)
      have hz : (n.chg.zip dvs)[k]? = some (c, dv) := by rw [List.getElem?_zip_eq_some]; exact ⟨hc, hdv⟩
      have hat := flat_at (fun x : Chg × Value => chgCells1 x.1 x.2) 3 chg1_len (n.chg.zip dvs) k (c, dv) hz
      have q0 := (rc (k * 3 + 0) (by omega)).trans (hat 0 (by omega))
      have q1 := (rc (k * 3 + 1) (by omega)).trans (hat 1 (by omega))
      have q2 := (rc (k * 3 + 2) (by omega)).trans (hat 2 (by omega))
      have od := r2 k c dv hc hdv
      obtain ⟨p1, p2, p3⟩ := hP.out
      have hdr : n.chg.drop k = c :: n.chg.drop (k + 1) := by
        obtain ⟨h1, h2⟩ := List.getElem?_eq_some_iff.1 hc
        rw [List.drop_eq_getElem_cons h1, h2]
      rw [hdr] at p1 p2
      rw [List.foldl_cons] at p1
      obtain ⟨p2a, p2b⟩ := p2
      clear hP hc hdv r1 r2 rc hz hat hdr HC
      rw [Nat.add_zero] at q0
      obtain ⟨va, vc, hva⟩ := rowForm hO.out
      subst hva
      obtain ⟨bl, hbl⟩ : ∃ bl, bl = bs.length := ⟨_, rfl⟩
      cases c with
      | add ad =>
        simp [chgCells1] at q0 q1 q2
        obtain ⟨da, dc, rfl⟩ := od.form
        have gY := World.grownBy_alloc wr (.cells #[.bool false, .int .i64 0, .slice da (chgData (.add ad)).length dc] 126) none
        have oY := hO.out.new gY
        have dY := Owns.reads (od.new gY).1
        have hPn : Hid (D = (n.chg.drop (k + 1)).foldl Chg.done (bs ++ ad.data.toList) ∧ okL (bs ++ ad.data.toList) (n.chg.drop (k + 1)) ∧ (bs ++ ad.data.toList).length ≤ 140737488355328) := Lib.hid ⟨p1, p2b, by have h1 : bs.length + ad.size ≤ 140737488355328 := p2a; rw [List.length_append]; simpa using h1⟩
        have hGs := hG.out.size
        have hgs := gB.out.size
        have hdl : (chgData (.add ad)).length = ad.size := by simp [chgData]
        have hbnd : bs.length + ad.size ≤ 140737488355328 := p2a
        rw [← hbl] at oY hbnd ⊢
        generalize hdd : chgData (.add ad) = dd at *
        have hdd2 : Hid (ad.data.toList = dd) := Lib.hid hdd
        clear hdd p1 p2a p2b p3 od
        obtain ⟨dl, hdl2⟩ : ∃ dl, dl = dd.length := ⟨_, rfl⟩
        rw [← hdl2] at dY q2 gY oY hdl
        replace hbl := Lib.hid hbl
        replace hdl2 := Lib.hid hdl2
        have hws : W0.heap.size ≤ (wr.alloc (.cells #[.bool false, .int .i64 0, .slice da dl dc] 126)).heap.size := by have := gY.size; omega
        have oH := Lib.hid oY
        have dH := Lib.hid dY
        have hbd : bs.length + dd.length ≤ 140737488355328 := by rw [← hdl2.out]; have := hbl.out; omega
        have hGY := Lib.hid (hG.out.trans gY)
        have hpn2 := hPn.out
        rw [hdd2.out] at hpn2
        replace hPn := Lib.hid hpn2
        clear oY dY gY hpn2 hG hO hdl hbnd
        go_wp2_with (at_builtin; refine wpList_append_bytes _ rfl _ _ 32 rfl W0.heap.size 5 i0 Tryz.underlying32 hi.out hz0.out hz1.out hz2.out (.slice va bl vc) bs rfl oH.out (.slice da dl dc) dd rfl dH.out hbd hws ?_; intro v' w' ho hg; have hO2 := Lib.hid ho; have hG2 := Lib.hid (gnew hGY.out hg (fun r e => .inl (Owns.lt oH.out r e).1)); clear ho hg)
        exact ⟨⟨k + 1, bs ++ dd, by go_num, by omega, hO2, hPn, hG2⟩, by simp [RowKit.intOf]; omega⟩
      | cut ct =>
        simp [chgCells1] at q0 q1 q2
        obtain ⟨da, dc, hdve⟩ := od.form
        have hdv2 : dv = .slice da 0 dc := hdve
        clear hdve
        subst hdv2
        have hcl : ct ≤ bs.length := p2a
        have gY := World.grownBy_alloc wr (.cells #[.bool true, .int .i64 (ct : Int), .slice da 0 dc] 126) none
        have oY := hO.out.new gY
        have hrY := reads_take oY.reads hcl (fun e => by
          subst e
          obtain ⟨h0, ⟨_, hz⟩ | ⟨g, cap, cur, e2, _⟩⟩ := oY
          · exact List.length_eq_zero_iff.1 hz
          · simp at e2)
        rw [← hbl] at oY
        have hTw := twin_any (.slice va ct vc) (bs.take ct) _ hrY (by rw [List.length_take]; omega)
        have hPn : Hid (D = (n.chg.drop (k + 1)).foldl Chg.done (bs.take ct) ∧ okL (bs.take ct) (n.chg.drop (k + 1)) ∧ (bs.take ct).length ≤ 140737488355328) := Lib.hid ⟨p1, p2b, by rw [List.length_take]; omega⟩
        have hcb : ct ≤ bl := by omega
        have hbv : ct ≤ vc := by
          obtain ⟨h0, ⟨e2, hz⟩ | ⟨g, cap, cur, e2, _, _, hnc, _⟩⟩ := oY
          · omega
          · simp at e2
            omega
        have hGY := Lib.hid (hG.out.trans gY)
        have hws : W0.heap.size ≤ (wr.alloc (.cells #[.bool true, .int .i64 (ct : Int), .slice da 0 dc] 126)).heap.size := by have := gY.size; have := hG.out.size; have := gB.out.size; omega
        replace hbl := Lib.hid hbl
        rw [← hbl.out]
        clear p1 p2a p2b p3 od oY hrY hG hO gY
        go_wp2_with (go_at_call 78; refine hTw.mono ?_; clear hTw; rintro e w2 ⟨v2, rfl, o2, g2⟩; have hO2 := Lib.hid (o2.mono hws); have hG2 := Lib.hid (hGY.out.trans g2); clear o2 g2)
        exact ⟨⟨k + 1, bs.take ct, by go_num, by omega, hO2, hPn, hG2⟩, by simp [RowKit.intOf]; omega⟩
    · obtain rfl : m = k := by omega
      obtain ⟨va, vc, hva⟩ := rowForm hO.out
      subst hva
      have hfin : Hid (D = bs) := Lib.hid (by have := hP.out.1; rw [hmm.out, List.drop_length] at this; exact this)
      have Q := Lib.hid (And.intro (hO.out.mono gB.out.size) (gB.out.trans hG.out))
      clear hO hP hG HC
      go_wp2_with fail
      go_ret
      exact ⟨_, rfl, by rw [hfin.out]; exact Q.out.1, Q.out.2⟩
end Go.Proofs.YtafcgjbafihniaaGreat

/-
  LAYER 1 (fs): the reference's file system turned step by step; what a death makes of it, pure.
-/
namespace Go.Proofs.YtafcgjbafihniaaGreat
set_option maxRecDepth 100000
variable {DX : Nat → Prop}
open Go.RowKit Go.Lib
open Go.Proofs (encStr)

section
variable {R : Nat → Prop} {w : World} {q : Nat} {a : RefP} {r : RefV} {vs : List (Value × Value)}
theorem RefAt.s5 (h : RefAt w q r) (x : Int) : RefAt (w.setCell ⟨q, 5, none⟩ (.int .i64 x)) q { r with count := x } := heap_setCell_same w q 5 _ _ _ h
theorem RefAt.s6 (h : RefAt w q r) (x : Bool) : RefAt (w.setCell ⟨q, 6, none⟩ (.bool x)) q { r with died := x } := heap_setCell_same w q 6 _ _ _ h
theorem RefAt.s7 (h : RefAt w q r) (x : Value) : RefAt (w.setCell ⟨q, 7, none⟩ x) q { r with nodes := x } := heap_setCell_same w q 7 _ _ _ h
theorem RefAt.s8 (h : RefAt w q r) (x : Value) : RefAt (w.setCell ⟨q, 8, none⟩ x) q { r with dir := x } := heap_setCell_same w q 8 _ _ _ h
theorem RefAt.s9 (h : RefAt w q r) (x : Value) : RefAt (w.setCell ⟨q, 9, none⟩ x) q { r with safe := x } := heap_setCell_same w q 9 _ _ _ h
theorem RefAt.s10 (h : RefAt w q r) (x : Value) : RefAt (w.setCell ⟨q, 10, none⟩ x) q { r with moves := x } := heap_setCell_same w q 10 _ _ _ h
theorem gq (w : World) (q i : Nat) (x : Value) : w.grownBy (w.setCell ⟨q, i, none⟩ x) (some q) := gset (World.grownBy.refl w (some q)) i x
theorem OwnR.setq {e k n : Nat} {v : Value} {xs : List Value} (h : OwnR R w e k v n xs) (he : e ≠ 84) (hq : RefAt w q r) (i : Nat) (x : Value) : OwnR R (w.setCell ⟨q, i, none⟩ x) e k v n xs :=
  h.gp (P := fun k => k = q) (GP.of (gq w q i x) (fun k e => by cases e; rfl)) (T := [84]) (fun k cs e z hk hb => by
    subst hk
    have := apart_obj hb (show _ = _ from hq)
    simp at this
    simp [this.2.1]) (by simpa using he)
theorem RefOk.setSafe (h : RefOk DX R w q a r vs) {D : DirL} {v : Value} (hv : OwnR R w 130 2 v D.length (nameCells D)) : RefOk DX R (w.setCell ⟨q, 9, none⟩ v) q { a with safe := D } { r with safe := v } vs :=
  h.own (gq w q 9 v) (h.at_.s9 v) h.crash h.room h.count h.died fun _ k => ⟨k.rk, k.rf, k.ru, k.vl, k.rn, k.node, k.rd, hv.setq (by decide) h.at_ 9 v, k.rm⟩
theorem RefOk.setDir (h : RefOk DX R w q a r vs) {D : DirL} {v : Value} (hv : OwnR R w 130 2 v D.length (nameCells D)) : RefOk DX R (w.setCell ⟨q, 8, none⟩ v) q { a with dir := D } { r with dir := v } vs :=
  h.own (gq w q 8 v) (h.at_.s8 v) h.crash h.room h.count h.died fun _ k => ⟨k.rk, k.rf, k.ru, k.vl, k.rn, k.node, hv.setq (by decide) h.at_ 8 v, k.rs, k.rm⟩
theorem RefOk.setMoves (h : RefOk DX R w q a r vs) {M : List RMv} {v : Value} (hv : OwnR R w 123 4 v M.length (rmvCells M)) : RefOk DX R (w.setCell ⟨q, 10, none⟩ v) q { a with moves := M } { r with moves := v } vs :=
  h.own (gq w q 10 v) (h.at_.s10 v) h.crash h.room h.count h.died fun _ k => ⟨k.rk, k.rf, k.ru, k.vl, k.rn, k.node, k.rd, k.rs, hv.setq (by decide) h.at_ 10 v⟩
theorem RefOk.setDied (h : RefOk DX R w q a r vs) (x : Bool) : RefOk DX R (w.setCell ⟨q, 6, none⟩ (.bool x)) q { a with died := x } { r with died := x } vs :=
  h.own (gq w q 6 _) (h.at_.s6 x) h.crash h.room h.count rfl fun _ k => ⟨k.rk, k.rf, k.ru, k.vl, k.rn, k.node, k.rd, k.rs, k.rm⟩
theorem RefOk.setCount (h : RefOk DX R w q a r vs) (x : Int) : RefOk DX R (w.setCell ⟨q, 5, none⟩ (.int .i64 x)) q { a with count := x } { r with count := x } vs :=
  h.own (gq w q 5 _) (h.at_.s5 x) h.crash h.room rfl h.died fun _ k => ⟨k.rk, k.rf, k.ru, k.vl, k.rn, k.node, k.rd, k.rs, k.rm⟩
/-- One node is turned: its two cells. -/
theorem RefOk.setNode {w1 w2 : World} {gn j : Nat} {s c : Value} {n : NodeP} (h : RefOk DX R w q a r vs) (ha : r.nodes.ownBlock = some gn) (hj : j < a.nodes.length) (hn : NodeR (RD R DX) w s c n) (h1 : w1 = w.setCell ⟨gn, j * 2, none⟩ s) (h2 : w2 = w1.setCell ⟨gn, j * 2 + 1, none⟩ c) :
    RefOk DX R w2 q { a with nodes := a.nodes.set j n } r (vs.set j (s, c)) ∧ w.grownBy w2 (some gn) := by
  obtain ⟨va, vc, hv⟩ := h.rows.rn.form
  have hr := h.rows.rn
  rw [hv] at hr ha
  obtain ⟨g, rfl, _, hgl, _, _⟩ := hr.cell (by omega)
  have hgg : g = gn := by simpa [Value.ownBlock] using ha
  subst hgg
  have s1 := World.ownsRow.stored hr.1 (j * 2) s
  have s2 := World.ownsRow.stored s1.1 (j * 2 + 1) c
  have g12 : w.grownBy w2 (some g) := by rw [h2, h1]; exact s1.2.trans s2.2
  have hP : Kinds w (fun k => k = g) [100] := fun k cs e z hk hb => by
    subst hk
    obtain ⟨c', fr, h3⟩ := own_obj hr.1 k (by simp [Value.ownBlock])
    have := apart_obj hb h3
    simp at this
    simp [this.2.1]
  have gp : GP (fun k => k = g) w w2 := GP.of g12 (fun k e => by cases e; rfl)
  have hqg : q ≠ g := fun e => by
    subst e
    obtain ⟨c', fr, h3⟩ := own_obj hr.1 q (by simp [Value.ownBlock])
    have := apart_obj h3 (show _ = _ from h.at_)
    simp at this
  have hvl := h.rows.vl
  refine ⟨⟨(g12.block q (lt_of_block h.at_) (fun e => hqg (by simpa using e))).trans h.at_, h.rq, h.crash, h.room, h.count, h.died, ⟨h.rows.rk.gp gp hP (by decide), h.rows.rf.gp gp hP (by decide), h.rows.ru.gp gp hP (by decide), by simp [hvl], ⟨?_, h.rows.rn.2⟩, fun i v n' e1 e2 => ?_, h.rows.rd.gp gp hP (by decide), h.rows.rs.gp gp hP (by decide), h.rows.rm.gp gp hP (by decide)⟩⟩, g12⟩
  · have e : ((nodeCells vs).set (j * 2) s).set (j * 2 + 1) c = nodeCells (vs.set j (s, c)) := by
      have key : ∀ (l : List (Value × Value)) (j : Nat), j < l.length → ((nodeCells l).set (j * 2) s).set (j * 2 + 1) c = nodeCells (l.set j (s, c)) := by
        intro l
        induction l with
        | nil => intro j hj; simp at hj
        | cons x l ih =>
          intro j hj
          cases j with
          | zero => rfl
          | succ j =>
            have := ih j (by simpa using hj)
            simp only [nodeCells, List.flatMap_cons, List.set_cons_succ] at this ⊢
            rw [show (j + 1) * 2 = j * 2 + 1 + 1 by omega, show j * 2 + 1 + 1 + 1 = (j * 2 + 1) + 1 + 1 by omega]
            simp only [List.cons_append, List.nil_append, List.set_cons_succ]
            rw [this]
      exact key vs j (by omega)
    rw [hv, List.length_set, ← e, h2, h1]
    exact s2.1
  · by_cases hij : i = j
    · subst hij
      rw [List.getElem?_set_self (by omega)] at e1
      rw [List.getElem?_set_self hj] at e2
      cases e1
      cases e2
      exact hn.gp gp hP (by decide) (by decide)
    · rw [List.getElem?_set_ne (by omega)] at e1 e2
      exact (h.rows.node i v n' e1 e2).gp gp hP (by decide) (by decide)
end

/-- How many moves survive. -/
def dieL (keep : List Int) (n : Nat) : Nat := surv (keepAt keep 0) n
theorem dieL_le (keep : List Int) (n : Nat) : dieL keep n ≤ n := surv_le _ _
/-- What a death makes of the files of these names, one behind the other, with numbers from i on. -/
def nodesDie (ks : Nat → Int) (D : DirL) : List (List UInt8) → Nat → List NodeP → List NodeP
  | [], _, ns => ns
  | x :: xs, i, ns => match D.look x with
    | none => nodesDie ks D xs i ns
    | some j => match ns[j]? with
      | none => nodesDie ks D xs i ns
      | some n => nodesDie ks D xs (i + n.chg.length) (ns.set j ⟨settleP ks i true n.safe n.chg, []⟩)
def RefP.dieDir (a : RefP) : DirL := (a.moves.take (dieL a.pl.keep a.moves.length)).foldl RMv.done a.safe
def RefP.die (a : RefP) : RefP := { a with died := true, moves := [], dir := a.dieDir, safe := a.dieDir, nodes := nodesDie (keepAt a.pl.keep) a.dieDir (a.dieDir.names.mergeSort leB) 1 a.nodes }

theorem moved_any (m : RMv) (v : Value) (l : DirL) (w : World) (hr : w.ownsRow 0 130 2 v l.length (nameCells l)) (hl : l.length ≤ 3518437208880) :
    Calls Tryz.prog 77 #[v, m.agg] w fun e w' => ∃ v', e = .returned v' ∧ w'.ownsRow w.heap.size 130 2 v' (RMv.done l m).length (nameCells (RMv.done l m)) ∧ w.grownBy w' none := by
  cases m with
  | made a i => exact moved_made v l a i w hr hl
  | ren a b i => exact moved_ren v l a b i w hr hl
  | rem a => exact moved_rem v l a w hr hl
theorem done_len (m : RMv) (l : DirL) : (RMv.done l m).length ≤ l.length + 1 := by
  cases m with
  | made a i => simp only [RMv.done, DirL.put, List.length_append, List.length_singleton]; have := List.length_filter_le (fun p : List UInt8 × Nat => !(p.1 == a.data.toList)) l; unfold DirL.drop; omega
  | ren a b i =>
    simp only [RMv.done, DirL.put, List.length_append, List.length_singleton]
    have h1 := List.length_filter_le (fun p : List UInt8 × Nat => !(p.1 == a.data.toList)) l
    have h2 := List.length_filter_le (fun p : List UInt8 × Nat => !(p.1 == b.data.toList)) (DirL.drop l a.data.toList)
    unfold DirL.drop at *
    omega
  | rem a => simp only [RMv.done]; have := List.length_filter_le (fun p : List UInt8 × Nat => !(p.1 == a.data.toList)) l; unfold DirL.drop; omega
end Go.Proofs.YtafcgjbafihniaaGreat
