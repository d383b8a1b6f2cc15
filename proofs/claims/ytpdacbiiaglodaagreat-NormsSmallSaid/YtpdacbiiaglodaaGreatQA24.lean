/-
  LAYER 5 (norms): the law NormsSmall.
-/
import Derived.Test.YtpdacbiiaglodaaGreatQA18
import Derived.Test.YtpdacbiiaglodaaGreatQA19
import Derived.Test.YtpdacbiiaglodaaGreatQA23
import Derived.Test.YtpdacbiiaglodaaGreatQA04
import Derived.Test.YtpdacbiiaglodaaGreatQA08
import Derived.LoopNIn
namespace Go.Proofs.YtpdacbiiaglodaaGreat
set_option maxRecDepth 100000
open Go.RowKit Go.Lib
attribute [local go_sem] Oper.semAt_some

theorem neq_nilDecomps (w : World) : (binOp .neq 56 (.func (.func 55) #[] #[]) .nilFunc).run Tryz.prog w = .ok (.bool true) w := by kernel_rfl

/-- The decompositions of what nobody loaded: none is told. -/
theorem ndec1_tells (n n0 ib : Nat) (w : World) :
    TellsO (α := Dec) Fence.wide n Tryz.prog 55 #[] dEnc (fun _ _ _ => False) none n0 ib (fun xs _ => xs = []) (fun _ _ => False) w := by
  intro l J Jx W hkx hn0 hJ hJx hY h0
  refine callsIn_of_wp Tryz.func55 rfl trivial ?_ rfl
  simp only [Tryz.ntmps55, List.size_toArray, List.length_cons, List.length_nil, Nat.reduceAdd, Nat.reduceSub, Array.replicate_succ, Array.replicate_zero, List.push_toArray, List.append_toArray, List.nil_append, List.cons_append]
  gi_wp2
  go_end0
  exact ⟨⟨_, rfl⟩, h0⟩

theorem nDecomp_none' (p : Value) (r : Int) (w : World) (hm : Calls Tryz.prog 48 #[p] w fun e w' => e = .returned (.bool false) ∧ w = w') :
    Calls Tryz.prog 14 #[p, .int .i32 r] w fun e w' => ∃ b, e = .returned (.slice (some ⟨b, 0, none⟩) 1 1) ∧ w'.cell? ⟨b, 0, none⟩ = some (.int .i32 r) ∧ w.grownBy w' none := by
  go_enter Tryz.func14, Tryz.ntmps14
  go_wp2_with (go_at_call 48; refine hm.mono ?_; rintro e w' ⟨rfl, rfl⟩)
  go_ret
  exact ⟨w.heap.size, rfl, by have := World.alloc_heap_new w (.cells #[.int .i32 r] 21); simp only [World.cell?, this]; rfl, World.grownBy_alloc w _ none⟩
theorem nStarter_none (p : Value) (r : Int) (w : World) (hm : Calls Tryz.prog 48 #[p] w fun e w' => e = .returned (.bool false) ∧ w = w') :
    Calls Tryz.prog 16 #[p, .int .i32 r] w fun e w' => e = .returned (.bool true) ∧ w.grownBy w' none :=
  nStarter_of p r 0 w ((nClass_none p r w hm).mono fun _ _ ⟨h1, h2⟩ => ⟨h1, h2 ▸ World.grownBy.refl w none⟩)

set_option maxHeartbeats 8000000 in
theorem normsSmall_in (r : Int) (w : World) : CallsIn Fence.wide 8 Tryz.prog 3 #[.int .i32 r] w fun e w' => e = .returned (.bool true) ∧ Below w.heap.size w w' := by
  have hA := fun w => nawake_any w
  have hRS := fun w => refSmall_any w
  have hRB := fun vc vd w h => refBuild_ok vc vd smallC smallD w h small_good
  have hS := fun w => Small_any w
  rw [show smallB = frame (payload smallC smallD) from rfl] at hS
  generalize frame (payload smallC smallD) = SB at hS hRB
  generalize smallC = sc at hRS hRB
  generalize smallD = sd at hRS hRB
  refine callsIn_of_wp_marks Tryz.func3 rfl trivial ?_ rfl
  simp only [Tryz.ntmps3, List.size_toArray, List.length_cons, List.length_nil, Nat.reduceAdd, Nat.reduceSub, Array.replicate_succ, Array.replicate_zero, List.push_toArray, List.append_toArray, List.nil_append, List.cons_append]
  gi_wp2_with (first
    | (refine ⟨trivial, ?_⟩; gi_at_call 10; refine (callsIn_wide.2 (hA _)).mono ?_; rintro e w1 ⟨rfl, hg1⟩)
    | (refine ⟨trivial, ?_⟩; gi_at_call 11; refine (callsIn_wide.2 (hRS _)).mono ?_; rintro e w2 ⟨vc, vd, rfl, hT, hg2⟩)
    | (refine ⟨trivial, ?_⟩; gi_at_call 12; refine (callsIn_wide.2 (hRB _ _ _ hT)).mono ?_; rintro e w3 ⟨v3, rfl, hr3, hg3⟩))
  have hBx : Boxed w3 w.heap.size 4 (.bool false) := (((Boxed.new w 4 (.bool false)).kept hg1 (by simp)).kept hg2 (by simp)).kept hg3 (by simp)
  have hc3 : ∀ W, w3.grownBy W none → (convert 27 9 v3).run Tryz.prog W = .ok (.string ⟨SB.toArray⟩) W := fun W hg => conv_of (hr3.new hg)
  have gd := gdrew (World.grownBy.refl w3 none)
  obtain ⟨a3, c3, rfl⟩ := hr3.form
  have hgw3 : w.grownBy w3 none := (((World.grownBy_alloc w _ none).trans hg1).trans hg2).trans hg3
  clear hA hRS hRB hT hg1 hg2 hg3
  apply wpIn_noPanic
  refine wpIn_region_held (S := fun W => w3.grownBy W none ∧ (convert 27 9 (.slice a3 SB.length c3)).run Tryz.prog W = .ok (.string ⟨SB.toArray⟩) W) (by kernel_rfl) ⟨gd, hc3 _ gd⟩ (fun hS0 => ?_)
  refine wpAnyHIn_take (i := 0) (oi := ⟨some 24, _, _, _, _, _⟩) (v := ?_) rfl (by kernel_rfl) (by kernel_rfl) (by kernel_rfl) (by kernel_rfl) (fun _ _ _ h => h) (fun _ => rfl) (Or.inl ⟨by rfl, ?_⟩) (by assumption) ?_
  rotate_left
  · (intro w hSw; (try dsimp only at hSw); go_simp; try with_reducible rfl)
  try simp only [Act.put, List.setIfInBounds_toArray, List.set_cons_zero, List.set_cons_succ]
  refine wpAnyHIn_take (i := 1) (oi := ⟨some 25, _, _, _, _, _⟩) (v := ?_) rfl (by kernel_rfl) (by kernel_rfl) (by kernel_rfl) (by kernel_rfl) (fun _ _ _ h => h) (fun _ => rfl) (Or.inl ⟨by rfl, ?_⟩) (by assumption) ?_
  rotate_left
  · (intro w hSw; (try dsimp only at hSw); go_simp; try with_reducible rfl)
  try simp only [Act.put, List.setIfInBounds_toArray, List.set_cons_zero, List.set_cons_succ]
  refine wpAnyHIn_take (i := 2) (oi := ⟨some 26, _, _, _, _, _⟩) (v := ?_) rfl (by kernel_rfl) (by kernel_rfl) (by kernel_rfl) (by kernel_rfl) (fun _ _ _ h => h) (fun _ => rfl) (Or.inl ⟨by rfl, ?_⟩) (by assumption) ?_
  rotate_left
  · (intro w hSw; (try dsimp only at hSw); go_simp; try with_reducible rfl)
  try simp only [Act.put, List.setIfInBounds_toArray, List.set_cons_zero, List.set_cons_succ]
  refine wpAnyHIn_take (i := 5) (oi := ⟨some 29, _, _, _, _, _⟩) (v := ?_) rfl (by kernel_rfl) (by kernel_rfl) (by kernel_rfl) (by kernel_rfl) (fun _ _ _ h => h) (fun _ => rfl) (Or.inl ⟨by rfl, ?_⟩) (by assumption) ?_
  rotate_left
  · (intro w hSw; (try dsimp only at hSw); go_simp; try with_reducible rfl)
  try simp only [Act.put, List.setIfInBounds_toArray, List.set_cons_zero, List.set_cons_succ]
  refine wpAnyHIn_take (i := 6) (oi := ⟨some 30, _, _, _, _, _⟩) (v := ?_) rfl (by kernel_rfl) (by kernel_rfl) (by kernel_rfl) (by kernel_rfl) (fun _ _ _ h => h) (fun _ => rfl) (Or.inl ⟨by rfl, ?_⟩) (by assumption) ?_
  rotate_left
  · (intro w hSw; (try dsimp only at hSw); go_simp; try with_reducible rfl)
  try simp only [Act.put, List.setIfInBounds_toArray, List.set_cons_zero, List.set_cons_succ]
  refine wpAnyHIn_next (i := 3) (by kernel_rfl) rfl (by rfl) (fun K hK => ?_)
  go_simp
  refine ⟨trivial, (callsIn_wide.2 (hS _)).mono ?_⟩
  rintro e w4 ⟨v4, rfl, ho4, hg4⟩
  have hg4' := gd.trans hg4
  have hc4 := conv_of ho4.reads
  obtain ⟨a4, c4, rfl⟩ := ho4.reads.form
  refine hK.out _ _ ⟨hg4', hc3 _ hg4'⟩ (fun hS1 => ?_)
  clear hK
  refine wpAnyHIn_next (i := 4) (by kernel_rfl) rfl (by rfl) (fun K hK => ?_)
  go_simp
  refine hK.out _ _ hS1 (fun hS2 => ?_)
  clear hK
  refine wpAnyHIn_take (i := 7) (oi := ⟨some 31, _, _, _, _, _⟩) (v := ?_) rfl (by kernel_rfl) (by kernel_rfl) (by kernel_rfl) (by kernel_rfl) (fun _ _ _ h => h) (fun _ => rfl) (Or.inl ⟨by rfl, ?_⟩) (by assumption) ?_
  rotate_left
  · (intro w hSw; (try dsimp only at hSw); go_simp; try with_reducible rfl)
  try simp only [Act.put, List.setIfInBounds_toArray, List.set_cons_zero, List.set_cons_succ]
  refine wpAnyHIn_take (i := 8) (oi := ⟨some 32, _, _, _, _, _⟩) (v := ?_) rfl (by kernel_rfl) (by kernel_rfl) (by kernel_rfl) (by kernel_rfl) (fun _ _ _ h => h) (fun _ => rfl) (Or.inl ⟨by rfl, ?_⟩) (by assumption) ?_
  rotate_left
  · (intro w hSw; (try dsimp only at hSw); go_simp; try with_reducible rfl)
  try simp only [Act.put, List.setIfInBounds_toArray, List.set_cons_zero, List.set_cons_succ]
  refine wpAnyHIn_done (by kernel_rfl) ?_ _
  refine noPanic_normal ?_
  have hBx4 := hBx.kept hg4' (by simp)
  have hgw4 := hgw3.trans hg4'
  clear hc4 hc3 hS hS0 hS1 hS2 ho4 hr3
  gi_wp2_with fail
  obtain ⟨V, hV⟩ : ∃ V, V = (w4.alloc (.cells #[.bool false, .slice none 0 0, .slice none 0 0, .int .u32 0, .int .i32 0, .int .u32 0, .map none] 48)).alloc (.cells #[.pointer none, .pointer (some ⟨w4.heap.size, 0, none⟩)] 31) := ⟨_, rfl⟩
  have hgV : w4.grownBy V none := by rw [hV]; exact galloc (World.grownBy_alloc w4 _ none) _
  have hBV := hBx4.kept hgV (by simp)
  have hnew : V.heap[w4.heap.size + 1]? = some (.cells #[.pointer none, .pointer (some ⟨w4.heap.size, 0, none⟩)] 31) := by
    rw [hV]
    have := World.alloc_heap_new (w4.alloc (.cells #[.bool false, .slice none 0 0, .slice none 0 0, .int .u32 0, .int .i32 0, .int .u32 0, .map none] 48)) (.cells #[.pointer none, .pointer (some ⟨w4.heap.size, 0, none⟩)] 31)
    rwa [World.size_alloc] at this
  have hnrm : V.heap[w4.heap.size]? = some (.cells #[.bool false, .slice none 0 0, .slice none 0 0, .int .u32 0, .int .i32 0, .int .u32 0, .map none] 48) := by
    rw [hV]
    exact ((World.grownBy_alloc _ _ none).block w4.heap.size (by simp) (by simp)).trans (World.alloc_heap_new w4 _)
  have s0 : V.cell? ⟨w4.heap.size + 1, 0, none⟩ = some (.pointer none) := by simp only [World.cell?, hnew]; rfl
  have s1 : V.cell? ⟨w4.heap.size + 1, 1, none⟩ = some (.pointer (some ⟨w4.heap.size, 0, none⟩)) := by simp only [World.cell?, hnew]; rfl
  have hm0 := fun W (_ : V.grownBy W none) => nIsMade_nil W
  have hm1 := fun W (h : V.grownBy W none) => nIsMade w4.heap.size false W (h.cell (show V.cell? ⟨w4.heap.size, 0, none⟩ = some (.bool false) by simp only [World.cell?, hnrm]; rfl) (by simp))
  have hnf := neq_nilDecomps
  rw [← hV]
  clear hV hnew hnrm
  refine wpIn_loop_rounds 3 ?_
  rw [roundsIn_succ]
  have gV0 := World.grownBy.refl V none
  gi_wp2_with (first
    | (refine ⟨trivial, ?_⟩; gi_at_call 14; refine (callsIn_wide.2 (nDecomp_none' _ 97 _ (hm0 _ gV0))).mono ?_; rintro e w5a ⟨b5a, rfl, c5a, hg5a⟩; have gV5a := World.grownBy.trans gV0 hg5a)
    | (refine ⟨trivial, ?_⟩; gi_at_call 15; refine (callsIn_wide.2 (nClass_none _ r _ (hm0 _ gV5a))).mono ?_; rintro e w5' ⟨rfl, rfl⟩)
    | (refine ⟨trivial, ?_⟩; gi_at_call 16; refine (callsIn_wide.2 (nStarter_none _ r _ (hm0 _ gV5a))).mono ?_; rintro e w6a ⟨rfl, hg6a⟩; have c6a := hg6a.cell c5a (by simp); have gV6a := gV5a.trans hg6a)
    | (refine ⟨trivial, ?_⟩; gi_at_call 17; refine (callsIn_wide.2 (nClasses_none _ _ (hm0 _ gV6a))).mono ?_; rintro e w6' ⟨rfl, rfl⟩)
    | (refine ⟨trivial, ?_⟩; gi_at_call 18; refine (callsIn_wide.2 (nDecomps_none _ _ (hm0 _ gV6a))).mono ?_; rintro e w6' ⟨rfl, rfl⟩))
  refine range_tells4 (a := _) (w := w6a) (α := Dec) rfl (by omega) (gf := 55) (lb := #[]) rfl trivial (enters_of Tryz.func55 (by kernel_rfl) rfl)
    (ndec1_tells _ w6a.heap.size 0 w6a) (by simp) (fun _ => rfl) (fun _ _ _ _ _ _ h _ _ _ => h)
    (fun _ W => V.grownBy W none ∧ w6a.heap.size ≤ W.heap.size) (fun _ _ _ => False) ?hIa (fun _ _ _ _ _ h _ _ => h.elim) ⟨gV6a, Nat.le_refl _⟩
    (fun _ _ _ => True) (fun _ _ _ _ h _ => h) (fun _ _ _ _ _ _ h _ _ _ => h) ?assigna (fun _ _ _ _ _ _ h _ _ => h.elim) ?donea (fun _ _ _ _ _ _ _ h _ _ => h.elim)
  case hIa =>
    rintro _ A B k ⟨h1, h2⟩ hg' hk
    rcases hk with rfl | ⟨q, rfl, hq, _⟩
    · exact ⟨h1.trans hg', Nat.le_trans h2 hg'.size⟩
    · exact ⟨gnew h1 hg' (fun r e => by cases e; left; exact Nat.le_trans gV6a.size hq), Nat.le_trans h2 hg'.size⟩
  case assigna =>
    intro l x W K hK
    gi_wp2_with fail
    exact hK _ _ (World.grownBy.refl W none) trivial
  rintro Da xsa Wda Xa hDa - ⟨gXa, hXa⟩ - hMa
  have t1 := gXa.cell s1 (by simp)
  gi_wp2_with fail
  rw [roundsIn_succ]
  gi_wp2_with (first
    | (refine ⟨trivial, ?_⟩; gi_at_call 14; refine (callsIn_wide.2 (nDecomp_none' _ 97 _ (hm1 _ gXa))).mono ?_; rintro e w5b ⟨b5b, rfl, c5b, hg5b⟩; have gV5b := World.grownBy.trans gXa hg5b)
    | (refine ⟨trivial, ?_⟩; gi_at_call 15; refine (callsIn_wide.2 (nClass_none _ r _ (hm1 _ gV5b))).mono ?_; rintro e w5' ⟨rfl, rfl⟩)
    | (refine ⟨trivial, ?_⟩; gi_at_call 16; refine (callsIn_wide.2 (nStarter_none _ r _ (hm1 _ gV5b))).mono ?_; rintro e w6b ⟨rfl, hg6b⟩; have c6b := hg6b.cell c5b (by simp); have gV6b := gV5b.trans hg6b)
    | (refine ⟨trivial, ?_⟩; gi_at_call 17; refine (callsIn_wide.2 (nClasses_none _ _ (hm1 _ gV6b))).mono ?_; rintro e w6' ⟨rfl, rfl⟩)
    | (refine ⟨trivial, ?_⟩; gi_at_call 18; refine (callsIn_wide.2 (nDecomps_none _ _ (hm1 _ gV6b))).mono ?_; rintro e w6' ⟨rfl, rfl⟩))
  have hlDa := (Array.getElem?_eq_some_iff.1 hMa).1
  have hMa6 : w6b.heap[Da]? = some (.deferred (some [])) := (hg6b.block Da (Nat.lt_of_lt_of_le hlDa hg5b.size) (by simp)).trans ((hg5b.block Da hlDa (by simp)).trans hMa)
  have hDa6 : Da < w6b.heap.size := (Array.getElem?_eq_some_iff.1 hMa6).1
  refine range_tells4 (a := _) (w := w6b) (α := Dec) rfl (by omega) (gf := 55) (lb := #[]) rfl trivial (enters_of Tryz.func55 (by kernel_rfl) rfl)
    (ndec1_tells _ w6b.heap.size 0 w6b) (by simp) (fun _ => rfl) (fun _ _ _ _ _ _ h _ _ _ => h)
    (fun _ W => V.grownBy W none ∧ w6b.heap.size ≤ W.heap.size ∧ W.heap[Da]? = some (.deferred (some []))) (fun _ _ _ => False) ?hIb (fun _ _ _ _ _ h _ _ => h.elim) ⟨gV6b, Nat.le_refl _, hMa6⟩
    (fun _ _ _ => True) (fun _ _ _ _ h _ => h) (fun _ _ _ _ _ _ h _ _ _ => h) ?assignb (fun _ _ _ _ _ _ h _ _ => h.elim) ?doneb (fun _ _ _ _ _ _ _ h _ _ => h.elim)
  case hIb =>
    rintro _ A B k ⟨h1, h2, h3⟩ hg' hk
    have hlt := (Array.getElem?_eq_some_iff.1 h3).1
    rcases hk with rfl | ⟨q, rfl, hq, _⟩
    · exact ⟨h1.trans hg', Nat.le_trans h2 hg'.size, (hg'.block Da hlt (by simp)).trans h3⟩
    · exact ⟨gnew h1 hg' (fun r e => by cases e; left; exact Nat.le_trans gV6b.size hq), Nat.le_trans h2 hg'.size, (hg'.block Da hlt (by simp; omega)).trans h3⟩
  case assignb =>
    intro l x W K hK
    gi_wp2_with fail
    exact hK _ _ (World.grownBy.refl W none) trivial
  rintro Db xsb Wdb Xb hDb - ⟨gXb, hXb, hMab⟩ - hMb
  gi_wp2_with fail
  rw [roundsIn_succ]
  have hBb := hBV.kept gXb (by simp)
  have rc := hBb.cell
  have rf := hBb.frozen
  have hwV := hBV.lt
  have hVs := gV6a.size
  have hbX := gbelow (hgw4.trans (hgV.trans gXb)) (Nat.le_refl w.heap.size) (by simp)
  clear gXb gXa gV6a gV6b gV5a gV5b hg5a hg5b hg6a hg6b hm0 hm1 t1 s0 s1
  gi_wp2_with fail
  have hDD : Da ≠ Db := by omega
  have x2 := (KeepsOthers.setCell Xb ⟨w.heap.size, 0, none⟩ (.bool true)).same Db _ hMb rfl
  have x1 := (KeepsOthers.setCell Xb ⟨w.heap.size, 0, none⟩ (.bool true)).same Da _ hMab rfl
  have hBr := hBb.set (.bool true)
  have hbr := hbX.setCell (p := ⟨w.heap.size, 0, none⟩) (Nat.le_refl _) (.bool true)
  generalize Xb.setCell ⟨w.heap.size, 0, none⟩ (.bool true) = W10 at x1 x2 hBr hbr ⊢
  refine ⟨by simp, .inl ⟨_, _, rfl, run_takeDeferred x2, ?_⟩⟩
  have x3 : (W10.putObj Db (.deferred none)).heap[Da]? = some (.deferred (some [])) := (World.putObj_heap_other hDD).trans x1
  refine ⟨by simp, .inl ⟨_, _, rfl, run_takeDeferred x3, ?_⟩⟩
  have hwD : w.heap.size ≠ Da := by omega
  have hwD2 : w.heap.size ≠ Db := by omega
  have hB11 : Boxed ((W10.putObj Db (.deferred none)).putObj Da (.deferred none)) w.heap.size 4 (.bool true) := (World.putObj_heap_other hwD).trans ((World.putObj_heap_other hwD2).trans hBr)
  have hb11 : Below w.heap.size w ((W10.putObj Db (.deferred none)).putObj Da (.deferred none)) :=
    (hbr.trans (gbelow (grownBy_putObj' W10 Db _) hbr.size (by simp; omega))).trans (gbelow (grownBy_putObj' _ Da _) (by simpa [World.putObj] using hbr.size) (by simp; omega))
  have hc11 := hB11.cell
  clear hB11 hBr hbr x1 x2 x3
  generalize (W10.putObj Db (.deferred none)).putObj Da (.deferred none) = W11 at hc11 hb11 ⊢
  simp [LeavesInM, LeavesIn, results, Tryz.results3, go_sem, hc11]
  exact hb11

theorem NormsSmall_walk (w : World) (r : Int) (_h : (Lit.int .i32 r).wf = true) : Calls Tryz.prog 3 #[.int .i32 r] w fun e w' => e = .returned (.bool true) ∧ Below w.heap.size w w' := callsIn_wide.1 (normsSmall_in r w)
end Go.Proofs.YtpdacbiiaglodaaGreat
