/-
  LAYER 7 (weight): Ranges of the ranges of ideographs; THE LAW WeightUnified, walked.
-/
import Derived.Test.YtjdpnklnhiigpaaWAwake
namespace Go.Proofs.Ytjdpnklnhiigpaa
set_option maxRecDepth 100000
open Go.RowKit Go.Lib
attribute [local go_sem] Oper.semAt_some

set_option maxHeartbeats 2000000 in
theorem baseMayBe_uni (f t b : Int) (wh : Bool) (w : World) (h : (f = 13312 ∧ t = 19893 ∧ b = 64384 ∧ wh = false) ∨ (f = 19968 ∧ t = 40917 ∧ b = 64320 ∧ wh = false) ∨ (f = 94208 ∧ t = 100332 ∧ b = 64256 ∧ wh = true) ∨ (f = 131072 ∧ t = 173782 ∧ b = 64384 ∧ wh = false)) :
    Calls Try.prog 30 #[.agg #[.int .i32 f, .int .i32 t, .int .i64 b, .bool wh]] w fun e w' => e = .returned (.bool true) ∧ w.grownBy w' none := by
  rcases h with ⟨rfl, rfl, rfl, rfl⟩ | ⟨rfl, rfl, rfl, rfl⟩ | ⟨rfl, rfl, rfl, rfl⟩ | ⟨rfl, rfl, rfl, rfl⟩
  all_goals
    go_enter Try.func30, Try.ntmps30
    go_wp2
    go_ret
    exact ⟨rfl, World.grownBy_alloc w _ none⟩

set_option maxHeartbeats 4000000 in
theorem ranges_uni (g : Nat) (w : World) (hU : UniAt w g) :
    Calls Try.prog 18 #[.slice (some ⟨g, 0, none⟩) 4 4] w fun e w' => e = .returned (.int .i64 0) ∧ w.grownBy w' none := by
  have B0 := fun w => baseMayBe_uni 13312 19893 64384 false w (by simp)
  have B1 := fun w => baseMayBe_uni 19968 40917 64320 false w (by simp)
  have B2 := fun w => baseMayBe_uni 94208 100332 64256 true w (by simp)
  have B3 := fun w => baseMayBe_uni 131072 173782 64384 false w (by simp)
  go_enter Try.func18, Try.ntmps18
  go_wp2
  go_loopw [3, 5, 11] (fun vl _ vi wr => ∃ k : Nat, k ≤ 4 ∧ vi = .int .i64 (k : Int) ∧ Hid (w.grownBy wr none) ∧ ((k = 0 ∧ vl = .int .i32 0) ∨ (k = 1 ∧ vl = .int .i32 19894) ∨ (k = 2 ∧ vl = .int .i32 40918) ∨ (k = 3 ∧ vl = .int .i32 100333) ∨ (k = 4 ∧ vl = .int .i32 173783))) (fun _ _ vi _ => 4 - (RowKit.intOf vi).toNat)
  case atStart => exact ⟨0, by omega, rfl, Lib.hid (World.grownBy.refl _ _), by simp⟩
  case round =>
    obtain ⟨k, hk, rfl, hg, hv⟩ := hrel
    have hUw := hU.kept hg.out (by simp)
    rcases hv with ⟨rfl, rfl⟩ | ⟨rfl, rfl⟩ | ⟨rfl, rfl⟩ | ⟨rfl, rfl⟩ | ⟨rfl, rfl⟩
    · have c0 := hUw.cell (i := 0) (v := .int .i32 13312) rfl
      have c1 := hUw.cell (i := 1) (v := .int .i32 19893) rfl
      have c2 := hUw.cell (i := 2) (v := .int .i64 64384) rfl
      have c3 := hUw.cell (i := 3) (v := .bool false) rfl
      go_wp2_with (go_at_call 30; refine (B0 _).mono ?_; rintro e w2 ⟨rfl, g2⟩; have hI : ImpAt w2 wr.heap.size 13312 19893 64384 false := ImpAt.kept (World.alloc_heap_new wr _) g2 (by simp); have i1 := hI.c1; clear hI)
      exact ⟨⟨1, by omega, rfl, Lib.hid (hg.out.trans ((World.grownBy_alloc wr _ none).trans g2)), by simp⟩, by simp [RowKit.intOf]⟩
    · have c0 := hUw.cell (i := 4) (v := .int .i32 19968) rfl
      have c1 := hUw.cell (i := 5) (v := .int .i32 40917) rfl
      have c2 := hUw.cell (i := 6) (v := .int .i64 64320) rfl
      have c3 := hUw.cell (i := 7) (v := .bool false) rfl
      go_wp2_with (go_at_call 30; refine (B1 _).mono ?_; rintro e w2 ⟨rfl, g2⟩; have hI : ImpAt w2 wr.heap.size 19968 40917 64320 false := ImpAt.kept (World.alloc_heap_new wr _) g2 (by simp); have i1 := hI.c1; clear hI)
      exact ⟨⟨2, by omega, rfl, Lib.hid (hg.out.trans ((World.grownBy_alloc wr _ none).trans g2)), by simp⟩, by simp [RowKit.intOf]⟩
    · have c0 := hUw.cell (i := 8) (v := .int .i32 94208) rfl
      have c1 := hUw.cell (i := 9) (v := .int .i32 100332) rfl
      have c2 := hUw.cell (i := 10) (v := .int .i64 64256) rfl
      have c3 := hUw.cell (i := 11) (v := .bool true) rfl
      go_wp2_with (go_at_call 30; refine (B2 _).mono ?_; rintro e w2 ⟨rfl, g2⟩; have hI : ImpAt w2 wr.heap.size 94208 100332 64256 true := ImpAt.kept (World.alloc_heap_new wr _) g2 (by simp); have i1 := hI.c1; clear hI)
      exact ⟨⟨3, by omega, rfl, Lib.hid (hg.out.trans ((World.grownBy_alloc wr _ none).trans g2)), by simp⟩, by simp [RowKit.intOf]⟩
    · have c0 := hUw.cell (i := 12) (v := .int .i32 131072) rfl
      have c1 := hUw.cell (i := 13) (v := .int .i32 173782) rfl
      have c2 := hUw.cell (i := 14) (v := .int .i64 64384) rfl
      have c3 := hUw.cell (i := 15) (v := .bool false) rfl
      go_wp2_with (go_at_call 30; refine (B3 _).mono ?_; rintro e w2 ⟨rfl, g2⟩; have hI : ImpAt w2 wr.heap.size 131072 173782 64384 false := ImpAt.kept (World.alloc_heap_new wr _) g2 (by simp); have i1 := hI.c1; clear hI)
      exact ⟨⟨4, by omega, rfl, Lib.hid (hg.out.trans ((World.grownBy_alloc wr _ none).trans g2)), by simp⟩, by simp [RowKit.intOf]⟩
    · go_wp2
      go_ret
      exact ⟨rfl, hg.out⟩

theorem rem4 (i : Int) : ∃ r : Nat, r < 4 ∧ Int.tmod (Int.tmod i 4 + 4) 4 = (r : Int) ∧ -4 < Int.tmod i 4 ∧ Int.tmod i 4 < 4 := by
  have h1 := Int.tmod_lt_of_pos i (show (0 : Int) < 4 by decide)
  have h2 : -4 < Int.tmod i 4 := by
    have := Int.tmod_lt_of_pos (-i) (show (0 : Int) < 4 by decide)
    rw [Int.neg_tmod] at this
    omega
  refine ⟨(Int.tmod (Int.tmod i 4 + 4) 4).toNat, ?_, ?_, h2, h1⟩
  all_goals
    have h3 := Int.tmod_lt_of_pos (Int.tmod i 4 + 4) (show (0 : Int) < 4 by decide)
    have h4 : 0 ≤ Int.tmod (Int.tmod i 4 + 4) 4 := Int.tmod_nonneg _ (by omega)
    omega

set_option maxHeartbeats 4000000 in
theorem WeightUnified_walk (w : World) (i : Int) (_hw : (Lit.int .i64 i).wf = true) : Calls Try.prog 5 #[.int .i64 i] w fun e w' => e = .returned (.bool true) ∧ Below w.heap.size w w' := by
  obtain ⟨r, hr, hrr, hr1, hr2⟩ := rem4 i
  have hw0 : wrap64 (Int.tmod i 4 + 4) = Int.tmod i 4 + 4 := by unfold wrap64; omega
  obtain ⟨m, hm⟩ : ∃ m, m = Int.tmod i 4 + 4 := ⟨_, rfl⟩
  have hwr : wrap64 (Int.tmod i 4 + 4) = m := by rw [hw0, hm]
  clear hw0
  rw [← hm] at hrr
  clear hm
  clear hr1 hr2
  go_enter Try.func5, Try.ntmps5
  go_upto_region 6 with (first
    | (go_at_call 6; refine (wawake_any _).mono ?_; rintro e w1 ⟨rfl, g1⟩)
    | (go_at_call 17; refine (unified_any _).mono ?_; rintro e w2 ⟨rfl, hU, g2⟩)
    | (go_at_call 18; refine (ranges_uni _ _ hU).mono ?_; rintro e w3 ⟨rfl, g3⟩))
  have hU3 := hU.kept g3 (by simp)
  have hfr : ∀ o, w3.frozen? ⟨w1.heap.size, o, none⟩ = false := fun o => by simp [World.frozen?, show _ = _ from hU3]
  have G3 := (g1.trans g2).trans g3
  have B3 : ∀ o v, Below w.heap.size w (w3.setCell ⟨w1.heap.size, o, none⟩ v) := fun o v => (belowg' G3).setCell (p := ⟨w1.heap.size, o, none⟩) g1.size v
  have key : r = 0 ∨ r = 1 ∨ r = 2 ∨ r = 3 := by omega
  rcases key with rfl | rfl | rfl | rfl
  · have hrr : Int.tmod m 4 = 0 := hrr
    have c := hU3.cell (i := 2) (v := .int .i64 64384) rfl
    have f := hfr 2
    have b := B3 2 (.int .i64 7)
    clear hU hU3 hfr B3
    go_upto_region 7 with fail
    generalize w3.setCell ⟨w1.heap.size, 2, none⟩ (.int .i64 7) = X at b ⊢
    clear c f hrr hwr
    go_wp2_with (go_at_call 17; refine (unified_any _).mono ?_; rintro e w5 ⟨rfl, hU, g5⟩; have c0 := hU.cell (i := 0) (v := .int .i32 13312) rfl; have c1 := hU.cell (i := 1) (v := .int .i32 19893) rfl; have c2 := hU.cell (i := 2) (v := .int .i64 64384) rfl; have c3 := hU.cell (i := 3) (v := .bool false) rfl; have c4 := hU.cell (i := 4) (v := .int .i32 19968) rfl; have c5 := hU.cell (i := 5) (v := .int .i32 40917) rfl; have c6 := hU.cell (i := 6) (v := .int .i64 64320) rfl; have c7 := hU.cell (i := 7) (v := .bool false) rfl; have c8 := hU.cell (i := 8) (v := .int .i32 94208) rfl; have c9 := hU.cell (i := 9) (v := .int .i32 100332) rfl; have c10 := hU.cell (i := 10) (v := .int .i64 64256) rfl; have c11 := hU.cell (i := 11) (v := .bool true) rfl; have c12 := hU.cell (i := 12) (v := .int .i32 131072) rfl; have c13 := hU.cell (i := 13) (v := .int .i32 173782) rfl; have c14 := hU.cell (i := 14) (v := .int .i64 64384) rfl; have c15 := hU.cell (i := 15) (v := .bool false) rfl)
    go_ret
    exact ⟨rfl, b.trans ((belowg' g5).mono b.size)⟩
  · have hrr : Int.tmod m 4 = 1 := hrr
    have c := hU3.cell (i := 6) (v := .int .i64 64320) rfl
    have f := hfr 6
    have b := B3 6 (.int .i64 7)
    clear hU hU3 hfr B3
    go_upto_region 7 with fail
    generalize w3.setCell ⟨w1.heap.size, 6, none⟩ (.int .i64 7) = X at b ⊢
    clear c f hrr hwr
    go_wp2_with (go_at_call 17; refine (unified_any _).mono ?_; rintro e w5 ⟨rfl, hU, g5⟩; have c0 := hU.cell (i := 0) (v := .int .i32 13312) rfl; have c1 := hU.cell (i := 1) (v := .int .i32 19893) rfl; have c2 := hU.cell (i := 2) (v := .int .i64 64384) rfl; have c3 := hU.cell (i := 3) (v := .bool false) rfl; have c4 := hU.cell (i := 4) (v := .int .i32 19968) rfl; have c5 := hU.cell (i := 5) (v := .int .i32 40917) rfl; have c6 := hU.cell (i := 6) (v := .int .i64 64320) rfl; have c7 := hU.cell (i := 7) (v := .bool false) rfl; have c8 := hU.cell (i := 8) (v := .int .i32 94208) rfl; have c9 := hU.cell (i := 9) (v := .int .i32 100332) rfl; have c10 := hU.cell (i := 10) (v := .int .i64 64256) rfl; have c11 := hU.cell (i := 11) (v := .bool true) rfl; have c12 := hU.cell (i := 12) (v := .int .i32 131072) rfl; have c13 := hU.cell (i := 13) (v := .int .i32 173782) rfl; have c14 := hU.cell (i := 14) (v := .int .i64 64384) rfl; have c15 := hU.cell (i := 15) (v := .bool false) rfl)
    go_ret
    exact ⟨rfl, b.trans ((belowg' g5).mono b.size)⟩
  · have hrr : Int.tmod m 4 = 2 := hrr
    have c := hU3.cell (i := 10) (v := .int .i64 64256) rfl
    have f := hfr 10
    have b := B3 10 (.int .i64 7)
    clear hU hU3 hfr B3
    go_upto_region 7 with fail
    generalize w3.setCell ⟨w1.heap.size, 10, none⟩ (.int .i64 7) = X at b ⊢
    clear c f hrr hwr
    go_wp2_with (go_at_call 17; refine (unified_any _).mono ?_; rintro e w5 ⟨rfl, hU, g5⟩; have c0 := hU.cell (i := 0) (v := .int .i32 13312) rfl; have c1 := hU.cell (i := 1) (v := .int .i32 19893) rfl; have c2 := hU.cell (i := 2) (v := .int .i64 64384) rfl; have c3 := hU.cell (i := 3) (v := .bool false) rfl; have c4 := hU.cell (i := 4) (v := .int .i32 19968) rfl; have c5 := hU.cell (i := 5) (v := .int .i32 40917) rfl; have c6 := hU.cell (i := 6) (v := .int .i64 64320) rfl; have c7 := hU.cell (i := 7) (v := .bool false) rfl; have c8 := hU.cell (i := 8) (v := .int .i32 94208) rfl; have c9 := hU.cell (i := 9) (v := .int .i32 100332) rfl; have c10 := hU.cell (i := 10) (v := .int .i64 64256) rfl; have c11 := hU.cell (i := 11) (v := .bool true) rfl; have c12 := hU.cell (i := 12) (v := .int .i32 131072) rfl; have c13 := hU.cell (i := 13) (v := .int .i32 173782) rfl; have c14 := hU.cell (i := 14) (v := .int .i64 64384) rfl; have c15 := hU.cell (i := 15) (v := .bool false) rfl)
    go_ret
    exact ⟨rfl, b.trans ((belowg' g5).mono b.size)⟩
  · have hrr : Int.tmod m 4 = 3 := hrr
    have c := hU3.cell (i := 14) (v := .int .i64 64384) rfl
    have f := hfr 14
    have b := B3 14 (.int .i64 7)
    clear hU hU3 hfr B3
    go_upto_region 7 with fail
    generalize w3.setCell ⟨w1.heap.size, 14, none⟩ (.int .i64 7) = X at b ⊢
    clear c f hrr hwr
    go_wp2_with (go_at_call 17; refine (unified_any _).mono ?_; rintro e w5 ⟨rfl, hU, g5⟩; have c0 := hU.cell (i := 0) (v := .int .i32 13312) rfl; have c1 := hU.cell (i := 1) (v := .int .i32 19893) rfl; have c2 := hU.cell (i := 2) (v := .int .i64 64384) rfl; have c3 := hU.cell (i := 3) (v := .bool false) rfl; have c4 := hU.cell (i := 4) (v := .int .i32 19968) rfl; have c5 := hU.cell (i := 5) (v := .int .i32 40917) rfl; have c6 := hU.cell (i := 6) (v := .int .i64 64320) rfl; have c7 := hU.cell (i := 7) (v := .bool false) rfl; have c8 := hU.cell (i := 8) (v := .int .i32 94208) rfl; have c9 := hU.cell (i := 9) (v := .int .i32 100332) rfl; have c10 := hU.cell (i := 10) (v := .int .i64 64256) rfl; have c11 := hU.cell (i := 11) (v := .bool true) rfl; have c12 := hU.cell (i := 12) (v := .int .i32 131072) rfl; have c13 := hU.cell (i := 13) (v := .int .i32 173782) rfl; have c14 := hU.cell (i := 14) (v := .int .i64 64384) rfl; have c15 := hU.cell (i := 15) (v := .bool false) rfl)
    go_ret
    exact ⟨rfl, b.trans ((belowg' g5).mono b.size)⟩
end Go.Proofs.Ytjdpnklnhiigpaa
