/-
  LAYER 4 (utf): UtfEach.
-/
import Derived.Test.YtmpipgjdnpgemaaUEachI
import Derived.Test.YtmpipgjdnpgemaaUAwake
import Derived.Test.YtmpipgjdnpgemaaURef1
import Derived.Test.YtmpipgjdnpgemaaQuietR
import Derived.RangeFuncBound
namespace Go.Proofs.Ytmpipgjdnpgemaa
set_option maxRecDepth 100000
open Go.RowKit Go.Lib
attribute [local go_sem] Oper.semAt_some

theorem eq_nilFunc (w : World) (p : Option Addr) : (binOp .eql 50 (.func (.func 42) #[] #[.pointer p]) .nilFunc).run Try.prog w = .ok (.bool false) w := by rfl

set_option maxHeartbeats 8000000 in
theorem each_law (s : ByteArray) (w : World) (hs : s.size ≤ 3000) :
    CallsIn Fence.wide 8 Try.prog 5 #[.string s] w fun e w' => e = .returned (.bool true) ∧ Below w.heap.size w w' := by
  obtain ⟨W0, hW0⟩ : ∃ W0, W0 = (w.alloc (.cells #[.string s] 9)).alloc (.cells #[.bool false] 4) := ⟨_, rfl⟩
  have hg0 : w.grownBy W0 none := by rw [hW0]; exact galloc (World.grownBy_alloc w _ none) _
  have hS0 : Boxed W0 w.heap.size 9 (.string s) := by rw [hW0]; exact (Boxed.new w _ _).alloc _
  have hR0 : Boxed W0 (w.heap.size + 1) 4 (.bool false) := by
    rw [hW0]
    have := Boxed.new (w.alloc (.cells #[.string s] 9)) 4 (.bool false)
    rwa [World.size_alloc] at this
  replace hW0 := Lib.hid hW0
  have hnf := eq_nilFunc
  refine callsIn_of_wp_marks Try.func5 rfl trivial ?_ rfl
  simp only [Try.ntmps5, List.size_toArray, List.length_cons, List.length_nil, Nat.reduceAdd, Nat.reduceSub, Array.replicate_succ, Array.replicate_zero, List.push_toArray, List.append_toArray, List.nil_append, List.cons_append]
  gi_wp2_with fail
  rw [← hW0.out]
  gi_wp2_with (first
    | (refine ⟨trivial, ?_⟩; gi_at_call 8; refine (callsIn_wide.2 (awake_any _)).mono ?_; rintro e w1 ⟨rfl, hb1⟩; have hg1 : W0.grownBy w1 none := belowg hb1 _; have hS1 := hS0.kept hg1 (by simp); have hR1 := hR0.kept hg1 (by simp); have hc1 := hS1.cell; have hgw1 := hg0.trans hg1)
    | (refine ⟨trivial, ?_⟩; gi_at_call 25; refine (callsIn_wide.2 (Each_any s _)).mono ?_; rintro e w2 ⟨rfl, hE2, hg2⟩; have hS2 := hS1.kept hg2 (by simp); have hR2 := hR1.kept hg2 (by simp); have hgw2 := hgw1.trans hg2))
  have hz1 : w.heap.size + 1 < w1.heap.size := hR1.lt
  have hz2 : w1.heap.size < w2.heap.size := hE2.lt
  have hb2 : Below w.heap.size w w2 := belowg' hgw2
  clear hS0 hR0 hS1 hR1 hc1 hg0 hg1 hg2 hgw1 hgw2 hW0 hb1
  have hTell := each1_tells 4 w1.heap.size (w2.heap.size + 2) w2.heap.size w2.heap.size s w2 hE2 (by omega) (by omega)
  refine range_tells (a := _) (w := w2) (α := Told) rfl (by omega) (gf := 42) (lb := #[.pointer (some ⟨w1.heap.size, 0, none⟩)]) rfl trivial (enters_of Try.func42 (by kernel_rfl) rfl)
    hTell (by omega) (fun _ => rfl) (fun _ _ _ _ _ _ h _ _ _ => h) (fun _ W => KeptX w2.heap.size w2.heap.size w2 W ∧ Below w.heap.size w W) (fun c _ W => c = .exit 0 ∧ KeptX w2.heap.size w2.heap.size w2 W ∧ Below w.heap.size w W)
    (fun s A B k h hg hk => ⟨h.1.trans (KeptX.grown hg h.1.1 (.inr (by omega))), h.2.trans (gbelow hg h.2.size (fun r e => by cases e; omega))⟩) (fun c s A B k h hg hk => ⟨h.1, h.2.1.trans (KeptX.grown hg h.2.1.1 (.inr (by omega))), h.2.2.trans (gbelow hg h.2.2.size (fun r e => by cases e; omega))⟩) ⟨KeptX.refl _, hb2⟩ ?a1 ?assign ?body ?done ?stop
  case assign =>
    intro l x W K hK
    gi_wp2
    exact hK
  case body =>
    intro l pre x W hI _ _
    gi_wp2
    exact ⟨KeepsOthers.refl _, KeptX.refl _, rfl, hI⟩
  case done =>
    rintro D xs Wd W15 hD _ ⟨hk15, hb15⟩ _ hM
    clear hTell hb2
    have hDl := lt_of_block hM
    have hE15 : Boxed W15 w1.heap.size 9 (.string s) := (hk15.2 _ (by omega) (by omega)).trans hE2
    have hS15 : Boxed W15 w.heap.size 9 (.string s) := (hk15.2 _ (by omega) (by omega)).trans hS2
    have hR15 : Boxed W15 (w.heap.size + 1) 4 (.bool false) := (hk15.2 _ (by omega) (by omega)).trans hR2
    have hs15 := hk15.1
    clear hk15
    obtain ⟨W16, hW16⟩ : ∃ W16, W16 = W15.alloc (.cells #[.int .i64 0] 3) := ⟨_, rfl⟩
    have hBi : Boxed W16 W15.heap.size 3 (.int .i64 0) := by rw [hW16]; exact Boxed.new W15 _ _
    have g16 : W15.grownBy W16 none := by rw [hW16]; exact World.grownBy_alloc W15 _ none
    have hsi := hBi.lt
    have hE16 := hE15.kept g16 (by simp)
    have hS16 := hS15.kept g16 (by simp)
    have hR16 := hR15.kept g16 (by simp)
    have hM16 : W16.heap[D]? = some (.deferred (some [])) := (g16.block D hDl (by simp)).trans hM
    have hb16 := hb15.trans (gbelow g16 hb15.size (by simp))
    replace hW16 := Lib.hid hW16
    clear hE15 hS15 hR15 hM hb15 g16
    gi_wp2_with fail
    rw [← hW16.out]
    have hTell2 := each1_tells 4 w1.heap.size (W16.heap.size + 2) W16.heap.size W15.heap.size s W16 hE16 (by omega) (by omega)
    refine range_tells (a := _) (w := W16) (α := Told) rfl (by omega) (gf := 42) (lb := #[.pointer (some ⟨w1.heap.size, 0, none⟩)]) rfl trivial (enters_of Try.func42 (by kernel_rfl) rfl)
      hTell2 (by omega) (fun _ => rfl) (fun _ _ _ _ _ _ h _ _ _ => h)
      (fun pre W => Boxed W W15.heap.size 3 (.int .i64 (wsum pre : Int)) ∧ pre = (pls s.data.toList).take pre.length ∧ KeptX W16.heap.size W15.heap.size W16 W ∧ Below w.heap.size w W) (fun _ _ _ => False)
      (fun pre A B k h hg hk => ⟨h.1.kept hg (by simp; omega), h.2.1, h.2.2.1.trans (KeptX.grown hg h.2.2.1.1 (.inr (by omega))), h.2.2.2.trans (gbelow hg h.2.2.2.size (fun r e => by cases e; omega))⟩)
      (fun _ _ _ _ _ h _ _ => h.elim) ⟨hBi, rfl, KeptX.refl _, hb16⟩ ?a2 ?assign2 ?body2 ?done2 ?stop2
    case assign2 =>
      intro l x W K hK
      dsimp only [tEnc]
      gi_wp2
      exact hK
    case body2 =>
      rintro l pre ⟨k, r, n⟩ W ⟨hBw, hpre, hK2, hbw⟩ hget hsz
      obtain ⟨hk, hdk⟩ := pls_at hget
      rw [← hpre] at hk
      have hnx := take_next hpre hget
      have hws : wsum (pre ++ [((k, r, n) : Told)]) = k + n := by rw [wsum_append, ← hk]; simp [wsum]
      rw [← hk] at hBw
      have hds := dec_some hdk
      simp only [List.length_drop] at hds
      have hsl : s.data.toList.length = s.size := by simp
      have hkl : k + n ≤ s.size := by omega
      have hN := fun w => refNext_any s k w (by omega) (by omega)
      rw [hdk, nextEnd] at hN
      have hSb : Boxed W w.heap.size 9 (.string s) := (hK2.2 _ (by omega) (by omega)).trans hS16
      have hRb : Boxed W (w.heap.size + 1) 4 (.bool false) := (hK2.2 _ (by omega) (by omega)).trans hR16
      have r1 := hSb.cell
      have r2 := hBw.cell
      replace hget := Lib.hid hget
      replace hnx := Lib.hid hnx
      replace hws := Lib.hid hws
      replace hpre := Lib.hid hpre
      clear hk hdk hds hsl hSb hRb hE16 hS16 hR16 hTell2 hBi hb16
      have fin : ∀ W5, W.grownBy W5 none → Boxed W5 W15.heap.size 3 (.int .i64 (k : Int)) ∧ W5.cell? ⟨W15.heap.size, 0, none⟩ = some (.int .i64 (k : Int)) ∧ W5.frozen? ⟨W15.heap.size, 0, none⟩ = false := fun W5 h =>
        have q := hBw.kept h (by simp)
        ⟨q, q.cell, q.frozen⟩
      replace fin := Lib.hid fin
      have hBw' := Lib.hid hBw
      have hK2' := Lib.hid hK2
      have hbw' := Lib.hid hbw
      clear hBw hK2 hbw
      gi_wp2_with (refine ⟨trivial, ?_⟩; gi_at_call 15; refine (callsIn_wide.2 (hN _)).mono ?_; rintro e W5 ⟨rfl, hg5⟩; have q1 := (fin.out W5 hg5).2.1; have q2 := (fin.out W5 hg5).2.2)
      have gs := gset (gbut hg5 (some W15.heap.size)) 0 (.int .i64 ((k : Int) + (n : Int)))
      refine ⟨?_, KeptX.grown gs hsz (.inl rfl), ?_, hnx.out, hK2'.out.trans (KeptX.grown gs hK2'.out.1 (.inl rfl)), hbw'.out.trans (gbelow gs hbw'.out.size (by simp; omega))⟩
      · refine KeepsOthers.of_grownBy gs ?_
        rintro j o hj ho
        cases hj
        rw [show W.heap[W15.heap.size]? = _ from hBw'.out] at ho
        cases ho
        rfl
      · rw [hws.out]
        exact ((fin.out W5 hg5).1.set _)
    case stop2 =>
      rintro D2 c pre W W' _ _ h _
      exact h.elim
    case done2 =>
      rintro D2 xs W W17 hD2 hS ⟨hBi17, hpre17, hK17, hb17⟩ hg17 hM2
      have hxl : wsum xs = tot s.data.toList := by rw [show xs = pls s.data.toList from hS]; exact pls_sum _
      rw [hxl] at hBi17
      have hTl := tot_length s.data.toList
      have hen := end_none _ s.data.toList (Nat.le_refl _)
      have hsl : s.data.toList.length = s.size := by simp
      obtain ⟨T, hT⟩ : ∃ T, T = tot s.data.toList := ⟨_, rfl⟩
      rw [← hT] at hBi17 hTl hen
      have hS17 : Boxed W17 w.heap.size 9 (.string s) := (hK17.2 _ (by omega) (by omega)).trans hS16
      have hR17 : Boxed W17 (w.heap.size + 1) 4 (.bool false) := (hK17.2 _ (by omega) (by omega)).trans hR16
      have hM1 : W17.heap[D]? = some (.deferred (some [])) := (hK17.2 D (by omega) (by omega)).trans hM16
      have r1 := hS17.cell
      have r2 := hBi17.cell
      have hDD : D ≠ D2 := by omega
      have hwD : w.heap.size + 1 ≠ D := by omega
      have hwD2 : w.heap.size + 1 ≠ D2 := by omega
      have hNx : ∀ wx, Calls Try.prog 15 #[.string s, .int .i64 (T : Int)] wx fun e w' => (∃ x : Int, x ≠ 0 ∧ e = .returned (.tuple #[.int .i32 0, .int .i64 0, .int .i64 x])) ∧ wx.grownBy w' none := by
        intro wx
        by_cases hlt : T < s.size
        · have h := refNext_any s T wx (by omega) hlt
          rw [hen, nextEnd] at h
          exact h.mono fun e w' ⟨h1, h2⟩ => ⟨⟨40, by decide, h1⟩, h2⟩
        · exact (refNext_range s (T : Int) wx (by omega) (.inr (by omega))).mono fun e w' ⟨h1, h2⟩ => ⟨⟨1, by decide, h1⟩, h2 ▸ World.grownBy.refl wx none⟩
      have keep : ∀ W5, W17.grownBy W5 none → Boxed W5 (w.heap.size + 1) 4 (.bool false) ∧ Below w.heap.size w W5 ∧ W5.heap[D2]? = some (.deferred (some [])) ∧ W5.heap[D]? = some (.deferred (some [])) := fun W5 h =>
        ⟨hR17.kept h (by simp), hb17.trans (gbelow h hb17.size (by simp)), (h.block D2 (lt_of_block hM2) (by simp)).trans hM2, (h.block D (lt_of_block hM1) (by simp)).trans hM1⟩
      replace keep := Lib.hid keep
      replace hT := Lib.hid hT
      clear hBi17 hS17 hR17 hM1 hM2 hK17 hb17 hg17 hpre17 hxl hen hTell2 hE16 hS16 hR16 hBi hb16 hS
      gi_wp2_with (refine ⟨trivial, ?_⟩; gi_at_call 15; refine (callsIn_wide.2 (hNx _)).mono ?_; rintro e W5 ⟨⟨x, hx, rfl⟩, hg5⟩; have hxb : (x != 0) = true := (by simpa using hx); have kR := (keep.out W5 hg5).1.cell; have kF := (keep.out W5 hg5).1.frozen)
      obtain ⟨hR5, hb5, m2, m1⟩ := keep.out W5 hg5
      have hbr := hb5.setCell (p := ⟨w.heap.size + 1, 0, none⟩) (by show _ ≤ w.heap.size + 1; omega) (.bool true)
      have hBr := hR5.set (.bool true)
      have x2 := (KeepsOthers.setCell W5 ⟨w.heap.size + 1, 0, none⟩ (.bool true)).same D2 _ m2 rfl
      have x1 := (KeepsOthers.setCell W5 ⟨w.heap.size + 1, 0, none⟩ (.bool true)).same D _ m1 rfl
      clear hx hxb hR5 hb5 m1 m2 kR kF
      generalize W5.setCell ⟨w.heap.size + 1, 0, none⟩ (.bool true) = W18 at x1 x2 hBr hbr ⊢
      refine ⟨by simp, .inl ⟨_, _, rfl, run_takeDeferred x2, ?_⟩⟩
      have x3 : (W18.putObj D2 (.deferred none)).heap[D]? = some (.deferred (some [])) := (World.putObj_heap_other hDD).trans x1
      refine ⟨by simp, .inl ⟨_, _, rfl, run_takeDeferred x3, ?_⟩⟩
      have hB19 : Boxed ((W18.putObj D2 (.deferred none)).putObj D (.deferred none)) (w.heap.size + 1) 4 (.bool true) := (World.putObj_heap_other hwD).trans ((World.putObj_heap_other hwD2).trans hBr)
      have hb19 : Below w.heap.size w ((W18.putObj D2 (.deferred none)).putObj D (.deferred none)) :=
        (hbr.trans (gbelow (grownBy_putObj' W18 D2 _) hbr.size (by simp; omega))).trans (gbelow (grownBy_putObj' _ D _) (by simpa [World.putObj] using hbr.size) (by simp; omega))
      have hc19 := hB19.cell
      clear hB19 hBr hbr x1 x2 x3
      generalize (W18.putObj D2 (.deferred none)).putObj D (.deferred none) = W19 at hc19 hb19 ⊢
      simp [LeavesInM, LeavesIn, results, Try.results5, go_sem, hc19]
      exact hb19
  case stop =>
    rintro D c pre Wd W15 hD _ ⟨rfl, hk15, hb15⟩ _ hM
    clear hTell hb2
    have hDl := lt_of_block hM
    have hE15 : Boxed W15 w1.heap.size 9 (.string s) := (hk15.2 _ (by omega) (by omega)).trans hE2
    have hS15 : Boxed W15 w.heap.size 9 (.string s) := (hk15.2 _ (by omega) (by omega)).trans hS2
    have hR15 : Boxed W15 (w.heap.size + 1) 4 (.bool false) := (hk15.2 _ (by omega) (by omega)).trans hR2
    have hs15 := hk15.1
    clear hk15
    obtain ⟨W16, hW16⟩ : ∃ W16, W16 = W15.alloc (.cells #[.int .i64 0] 3) := ⟨_, rfl⟩
    have hBi : Boxed W16 W15.heap.size 3 (.int .i64 0) := by rw [hW16]; exact Boxed.new W15 _ _
    have g16 : W15.grownBy W16 none := by rw [hW16]; exact World.grownBy_alloc W15 _ none
    have hsi := hBi.lt
    have hE16 := hE15.kept g16 (by simp)
    have hS16 := hS15.kept g16 (by simp)
    have hR16 := hR15.kept g16 (by simp)
    have hM16 : W16.heap[D]? = some (.deferred (some [])) := (g16.block D hDl (by simp)).trans hM
    have hb16 := hb15.trans (gbelow g16 hb15.size (by simp))
    replace hW16 := Lib.hid hW16
    clear hE15 hS15 hR15 hM hb15 g16
    gi_wp2_with fail
    rw [← hW16.out]
    have hTell2 := each1_tells 4 w1.heap.size (W16.heap.size + 2) W16.heap.size W15.heap.size s W16 hE16 (by omega) (by omega)
    refine range_tells (a := _) (w := W16) (α := Told) rfl (by omega) (gf := 42) (lb := #[.pointer (some ⟨w1.heap.size, 0, none⟩)]) rfl trivial (enters_of Try.func42 (by kernel_rfl) rfl)
      hTell2 (by omega) (fun _ => rfl) (fun _ _ _ _ _ _ h _ _ _ => h)
      (fun pre W => Boxed W W15.heap.size 3 (.int .i64 (wsum pre : Int)) ∧ pre = (pls s.data.toList).take pre.length ∧ KeptX W16.heap.size W15.heap.size W16 W ∧ Below w.heap.size w W) (fun _ _ _ => False)
      (fun pre A B k h hg hk => ⟨h.1.kept hg (by simp; omega), h.2.1, h.2.2.1.trans (KeptX.grown hg h.2.2.1.1 (.inr (by omega))), h.2.2.2.trans (gbelow hg h.2.2.2.size (fun r e => by cases e; omega))⟩)
      (fun _ _ _ _ _ h _ _ => h.elim) ⟨hBi, rfl, KeptX.refl _, hb16⟩ ?a3 ?assign3 ?body3 ?done3 ?stop3
    case assign3 =>
      intro l x W K hK
      dsimp only [tEnc]
      gi_wp2
      exact hK
    case body3 =>
      rintro l pre ⟨k, r, n⟩ W ⟨hBw, hpre, hK2, hbw⟩ hget hsz
      obtain ⟨hk, hdk⟩ := pls_at hget
      rw [← hpre] at hk
      have hnx := take_next hpre hget
      have hws : wsum (pre ++ [((k, r, n) : Told)]) = k + n := by rw [wsum_append, ← hk]; simp [wsum]
      rw [← hk] at hBw
      have hds := dec_some hdk
      simp only [List.length_drop] at hds
      have hsl : s.data.toList.length = s.size := by simp
      have hkl : k + n ≤ s.size := by omega
      have hN := fun w => refNext_any s k w (by omega) (by omega)
      rw [hdk, nextEnd] at hN
      have hSb : Boxed W w.heap.size 9 (.string s) := (hK2.2 _ (by omega) (by omega)).trans hS16
      have hRb : Boxed W (w.heap.size + 1) 4 (.bool false) := (hK2.2 _ (by omega) (by omega)).trans hR16
      have r1 := hSb.cell
      have r2 := hBw.cell
      replace hget := Lib.hid hget
      replace hnx := Lib.hid hnx
      replace hws := Lib.hid hws
      replace hpre := Lib.hid hpre
      clear hk hdk hds hsl hSb hRb hE16 hS16 hR16 hTell2 hBi hb16
      have fin : ∀ W5, W.grownBy W5 none → Boxed W5 W15.heap.size 3 (.int .i64 (k : Int)) ∧ W5.cell? ⟨W15.heap.size, 0, none⟩ = some (.int .i64 (k : Int)) ∧ W5.frozen? ⟨W15.heap.size, 0, none⟩ = false := fun W5 h =>
        have q := hBw.kept h (by simp)
        ⟨q, q.cell, q.frozen⟩
      replace fin := Lib.hid fin
      have hBw' := Lib.hid hBw
      have hK2' := Lib.hid hK2
      have hbw' := Lib.hid hbw
      clear hBw hK2 hbw
      gi_wp2_with (refine ⟨trivial, ?_⟩; gi_at_call 15; refine (callsIn_wide.2 (hN _)).mono ?_; rintro e W5 ⟨rfl, hg5⟩; have q1 := (fin.out W5 hg5).2.1; have q2 := (fin.out W5 hg5).2.2)
      have gs := gset (gbut hg5 (some W15.heap.size)) 0 (.int .i64 ((k : Int) + (n : Int)))
      refine ⟨?_, KeptX.grown gs hsz (.inl rfl), ?_, hnx.out, hK2'.out.trans (KeptX.grown gs hK2'.out.1 (.inl rfl)), hbw'.out.trans (gbelow gs hbw'.out.size (by simp; omega))⟩
      · refine KeepsOthers.of_grownBy gs ?_
        rintro j o hj ho
        cases hj
        rw [show W.heap[W15.heap.size]? = _ from hBw'.out] at ho
        cases ho
        rfl
      · rw [hws.out]
        exact ((fin.out W5 hg5).1.set _)
    case stop3 =>
      rintro D2 c pre W W' _ _ h _
      exact h.elim
    case done3 =>
      rintro D2 xs W W17 hD2 hS ⟨hBi17, hpre17, hK17, hb17⟩ hg17 hM2
      have hxl : wsum xs = tot s.data.toList := by rw [show xs = pls s.data.toList from hS]; exact pls_sum _
      rw [hxl] at hBi17
      have hTl := tot_length s.data.toList
      have hen := end_none _ s.data.toList (Nat.le_refl _)
      have hsl : s.data.toList.length = s.size := by simp
      obtain ⟨T, hT⟩ : ∃ T, T = tot s.data.toList := ⟨_, rfl⟩
      rw [← hT] at hBi17 hTl hen
      have hS17 : Boxed W17 w.heap.size 9 (.string s) := (hK17.2 _ (by omega) (by omega)).trans hS16
      have hR17 : Boxed W17 (w.heap.size + 1) 4 (.bool false) := (hK17.2 _ (by omega) (by omega)).trans hR16
      have hM1 : W17.heap[D]? = some (.deferred (some [])) := (hK17.2 D (by omega) (by omega)).trans hM16
      have r1 := hS17.cell
      have r2 := hBi17.cell
      have hDD : D ≠ D2 := by omega
      have hwD : w.heap.size + 1 ≠ D := by omega
      have hwD2 : w.heap.size + 1 ≠ D2 := by omega
      have hNx : ∀ wx, Calls Try.prog 15 #[.string s, .int .i64 (T : Int)] wx fun e w' => (∃ x : Int, x ≠ 0 ∧ e = .returned (.tuple #[.int .i32 0, .int .i64 0, .int .i64 x])) ∧ wx.grownBy w' none := by
        intro wx
        by_cases hlt : T < s.size
        · have h := refNext_any s T wx (by omega) hlt
          rw [hen, nextEnd] at h
          exact h.mono fun e w' ⟨h1, h2⟩ => ⟨⟨40, by decide, h1⟩, h2⟩
        · exact (refNext_range s (T : Int) wx (by omega) (.inr (by omega))).mono fun e w' ⟨h1, h2⟩ => ⟨⟨1, by decide, h1⟩, h2 ▸ World.grownBy.refl wx none⟩
      have keep : ∀ W5, W17.grownBy W5 none → Boxed W5 (w.heap.size + 1) 4 (.bool false) ∧ Below w.heap.size w W5 ∧ W5.heap[D2]? = some (.deferred (some [])) ∧ W5.heap[D]? = some (.deferred (some [])) := fun W5 h =>
        ⟨hR17.kept h (by simp), hb17.trans (gbelow h hb17.size (by simp)), (h.block D2 (lt_of_block hM2) (by simp)).trans hM2, (h.block D (lt_of_block hM1) (by simp)).trans hM1⟩
      replace keep := Lib.hid keep
      replace hT := Lib.hid hT
      clear hBi17 hS17 hR17 hM1 hM2 hK17 hb17 hg17 hpre17 hxl hen hTell2 hE16 hS16 hR16 hBi hb16 hS
      gi_wp2_with (refine ⟨trivial, ?_⟩; gi_at_call 15; refine (callsIn_wide.2 (hNx _)).mono ?_; rintro e W5 ⟨⟨x, hx, rfl⟩, hg5⟩; have hxb : (x != 0) = true := (by simpa using hx); have kR := (keep.out W5 hg5).1.cell; have kF := (keep.out W5 hg5).1.frozen)
      obtain ⟨hR5, hb5, m2, m1⟩ := keep.out W5 hg5
      have hbr := hb5.setCell (p := ⟨w.heap.size + 1, 0, none⟩) (by show _ ≤ w.heap.size + 1; omega) (.bool true)
      have hBr := hR5.set (.bool true)
      have x2 := (KeepsOthers.setCell W5 ⟨w.heap.size + 1, 0, none⟩ (.bool true)).same D2 _ m2 rfl
      have x1 := (KeepsOthers.setCell W5 ⟨w.heap.size + 1, 0, none⟩ (.bool true)).same D _ m1 rfl
      clear hx hxb hR5 hb5 m1 m2 kR kF
      generalize W5.setCell ⟨w.heap.size + 1, 0, none⟩ (.bool true) = W18 at x1 x2 hBr hbr ⊢
      refine ⟨by simp, .inl ⟨_, _, rfl, run_takeDeferred x2, ?_⟩⟩
      have x3 : (W18.putObj D2 (.deferred none)).heap[D]? = some (.deferred (some [])) := (World.putObj_heap_other hDD).trans x1
      refine ⟨by simp, .inl ⟨_, _, rfl, run_takeDeferred x3, ?_⟩⟩
      have hB19 : Boxed ((W18.putObj D2 (.deferred none)).putObj D (.deferred none)) (w.heap.size + 1) 4 (.bool true) := (World.putObj_heap_other hwD).trans ((World.putObj_heap_other hwD2).trans hBr)
      have hb19 : Below w.heap.size w ((W18.putObj D2 (.deferred none)).putObj D (.deferred none)) :=
        (hbr.trans (gbelow (grownBy_putObj' W18 D2 _) hbr.size (by simp; omega))).trans (gbelow (grownBy_putObj' _ D _) (by simpa [World.putObj] using hbr.size) (by simp; omega))
      have hc19 := hB19.cell
      clear hB19 hBr hbr x1 x2 x3
      generalize (W18.putObj D2 (.deferred none)).putObj D (.deferred none) = W19 at hc19 hb19 ⊢
      simp [LeavesInM, LeavesIn, results, Try.results5, go_sem, hc19]
      exact hb19

set_option maxHeartbeats 4000000 in
theorem each_big (s : ByteArray) (w : World) (hs : 3000 < s.size) (h1 : s.size ≤ 140737488355328) :
    CallsIn Fence.wide 8 Try.prog 5 #[.string s] w fun e w' => e = .returned (.bool true) ∧ Below w.heap.size w w' := by
  obtain ⟨W0, hW0⟩ : ∃ W0, W0 = (w.alloc (.cells #[.string s] 9)).alloc (.cells #[.bool false] 4) := ⟨_, rfl⟩
  have hg0 : w.grownBy W0 none := by rw [hW0]; exact galloc (World.grownBy_alloc w _ none) _
  have hS0 : Boxed W0 w.heap.size 9 (.string s) := by rw [hW0]; exact (Boxed.new w _ _).alloc _
  have hR0 : Boxed W0 (w.heap.size + 1) 4 (.bool false) := by
    rw [hW0]
    have := Boxed.new (w.alloc (.cells #[.string s] 9)) 4 (.bool false)
    rwa [World.size_alloc] at this
  replace hW0 := Lib.hid hW0
  refine callsIn_of_wp_marks Try.func5 rfl trivial ?_ rfl
  simp only [Try.ntmps5, List.size_toArray, List.length_cons, List.length_nil, Nat.reduceAdd, Nat.reduceSub, Array.replicate_succ, Array.replicate_zero, List.push_toArray, List.append_toArray, List.nil_append, List.cons_append]
  gi_wp2_with fail
  rw [← hW0.out]
  gi_wp2_with (refine ⟨trivial, ?_⟩; gi_at_call 8; refine (callsIn_wide.2 (awake_any _)).mono ?_; rintro e w1 ⟨rfl, hb1⟩; have hg1 : W0.grownBy w1 none := belowg hb1 _; have hS1 := hS0.kept hg1 (by simp); have hR1 := hR0.kept hg1 (by simp); have hc1 := hS1.cell; have rc := hR1.cell; have rf := hR1.frozen)
  have hBr := hR1.set (.bool true)
  have hbr := (belowg' (hg0.trans hg1)).setCell (p := ⟨w.heap.size + 1, 0, none⟩) (by show _ ≤ w.heap.size + 1; omega) (.bool true)
  have hc11 := hBr.cell
  clear hBr
  generalize w1.setCell ⟨w.heap.size + 1, 0, none⟩ (.bool true) = W11 at hc11 hbr ⊢
  simp [bodyPostM, LeavesInM, LeavesIn, results, Try.results5, go_sem, hc11]
  exact hbr

theorem UtfEach_walk (w : World) (s : ByteArray) (h1 : s.size ≤ 140737488351232) :
    Calls Try.prog 5 #[.string s] w fun e w' => e = .returned (.bool true) ∧ Below w.heap.size w w' := by
  by_cases h : s.size ≤ 3000
  · exact callsIn_wide.1 (each_law s w h)
  · exact callsIn_wide.1 (each_big s w (by omega) (by omega))
end Go.Proofs.Ytmpipgjdnpgemaa
