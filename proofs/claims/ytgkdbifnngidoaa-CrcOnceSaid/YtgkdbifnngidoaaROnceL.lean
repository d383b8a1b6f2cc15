/-
  LAYER 3 (crc): CrcOnce: a table is made when it is first asked for, and once; one that nobody made tells nothing.
-/
import Derived.Test.YtgkdbifnngidoaaREach
namespace Go.Proofs.Ytgkdbifnngidoaa
set_option maxRecDepth 100000
open Go.RowKit Go.Lib
attribute [local go_sem] Oper.semAt_some

theorem lt_of_block_cell {w : World} {b o : Nat} {v : Value} (h : w.cell? ⟨b, o, none⟩ = some v) : b < w.heap.size := World.block_lt_of_cell? w _ h

theorem neq_nilFunc (w : World) : (binOp .neq 61 (.func (.func 96) #[] #[]) .nilFunc).run Try.prog w = .ok (.bool true) w := by kernel_rfl

set_option maxHeartbeats 8000000 in
theorem once_law (a : Option Addr) (l c : Nat) (bs : List UInt8) (times : Int) (w : World) (hr : Reads w (.slice a l c) bs) (hl : bs.length ≤ 2000) :
    CallsIn Fence.wide 8 Try.prog 12 #[.slice a l c, .int .i64 times] w fun e w' => e = .returned (.bool true) ∧ Below w.heap.size w w' := by
  obtain ⟨rfl, hc, hm⟩ := hr.slice
  obtain ⟨i0, hi, hz0, hz1, hz2⟩ := info_parts infoU8
  refine callsIn_of_wp_marks Try.func12 rfl trivial ?_ rfl
  simp only [Try.ntmps12, List.size_toArray, List.length_cons, List.length_nil, Nat.reduceAdd, Nat.reduceSub, Array.replicate_succ, Array.replicate_zero, List.push_toArray, List.append_toArray, List.nil_append, List.cons_append]
  gi_wp2_with (first
    | (refine ⟨trivial, ?_⟩; gi_at_call 50; refine (callsIn_wide.2 (crcAwake _)).mono ?_; rintro e w1 ⟨rfl, hg1⟩)
    | (refine ⟨trivial, ?_⟩; gi_at_call 51; refine (callsIn_wide.2 (crcNew_any w1)).mono ?_; rintro e w2 ⟨t, rfl, ht, hT2, hg2⟩; replace hT2 : Tbl w2 t false := hT2; have cM := Made_any t false w2 hT2; rw [if_neg (by decide)] at cM)
    | (refine ⟨trivial, ?_⟩; gi_at_call 65; refine (callsIn_wide.2 cM).mono ?_; rintro e w3 ⟨rfl, rfl⟩))
  have hgw : w.grownBy w2 none := ((World.grownBy_alloc w _ none).trans hg1).trans hg2
  have k0 : (w.alloc (.cells #[.bool false] 4)).cell? ⟨w.heap.size, 0, none⟩ = some (.bool false) := by simp [go_sem]
  have kf : (w.alloc (.cells #[.bool false] 4)).frozen? ⟨w.heap.size, 0, none⟩ = false := by simp [go_sem]
  have hBx : Boxed w2 w.heap.size 4 (.bool false) := ((Boxed.new w 4 (.bool false)).kept hg1 (by simp)).kept hg2 (by simp)
  have hwt : w.heap.size < t := by have := hg1.size; simp at this; omega
  have hb2 := gbelow hgw (Nat.le_refl w.heap.size) (by simp)
  obtain ⟨z, hz, hz5⟩ : ∃ z, times.tmod 5 = z ∧ z < 5 := ⟨_, rfl, Int.tmod_lt_of_pos times (by decide)⟩
  clear k0 kf cM hgw hg1 hg2 ht
  gi_loopw [6] (fun v W => ∃ k : Nat, v = .int .i64 (k : Int) ∧ k ≤ 5 ∧ Tbl W t (decide (0 < k)) ∧ Boxed W w.heap.size 4 (.bool false) ∧ Below w.heap.size w W) (fun v _ => 5 - (RowKit.intOf v).toNat)
  case atStart => exact ⟨0, rfl, by omega, hT2, hBx, hb2⟩
  case round =>
    clear hT2 hBx hb2
    obtain ⟨k, rfl, hk, hT, hBx, hb⟩ := hrel
    by_cases hkz : (k : Int) < z
    · have ho1 : Owns (wr.alloc (.cells #[.int .u8 1] 5)) wr.heap.size 5 (.slice (some ⟨wr.heap.size, 0, none⟩) 1 1) [1] := owns_block (bs := [1]) (Nat.le_refl _) (heap_alloc_new wr _) (by decide) rfl
      have htl := hT.lt
      have hw8 := hBx.lt
      have hra := hr.all hb
      obtain ⟨G, hG⟩ : ∃ G, G = [1] ++ bs := ⟨_, rfl⟩
      have hG0 : decide (0 < G.length) = true := by rw [hG]; simp
      replace hG := Lib.hid hG
      gi_wp2_with (first
        | (gi_at_builtin; refine wpListIn_append_bytes _ rfl _ _ 23 rfl wr.heap.size 5 i0 Try.underlying23 hi hz0 hz1 hz2 (.slice (some ⟨wr.heap.size, 0, none⟩) 1 1) [1] rfl ho1 _ bs rfl (hra.new (World.grownBy_alloc wr _ none)) (by simp; omega) (by simp) ?_; intro v3 w3 ho3 hg3; have hg13 : wr.grownBy w3 none := gnew (World.grownBy_alloc wr _ none) hg3 (by simp [Value.ownBlock]); have hT3 := hT.new hg13; rw [← hG.out] at ho3; obtain ⟨a3, c3, rfl⟩ := ho3.reads.form; have cS := Sum_any t _ a3 _ c3 G w3 hT3 ho3.reads (ho3.off htl); rw [hG0, Bool.or_true] at cS; replace hBx := hBx.kept hg13 (by simp); have hb3 := hb.trans (gbelow hg13 hb.size (by simp)))
        | (refine ⟨trivial, ?_⟩; gi_at_call 52; refine (callsIn_wide.2 cS).mono ?_; rintro e w4 ⟨rfl, hg4, hT4⟩; have cM := Made_any t true w4 hT4; rw [if_pos rfl] at cM; replace hBx := hBx.kept hg4 (by simp; omega); have hb4 := hb3.trans (gbelow hg4 hb3.size (by simp; omega)))
        | (refine ⟨trivial, ?_⟩; gi_at_call 65; refine (callsIn_wide.2 cM).mono ?_; rintro e w5 ⟨rfl, rfl⟩))
      exact ⟨⟨k + 1, by go_num, by omega, by simpa using hT4, hBx, hb4⟩, by simp [RowKit.intOf]; omega⟩
    · have hw8 := hBx.lt
      clear hT hz5 hk
      have q0 : Try.zeroCells108[0]? = some (.bool false) := by
        have h := zeroTab_head
        simp only [Prod.mk.injEq] at h
        exact h.2.1
      obtain ⟨Z, hZ⟩ : ∃ Z, Z = Try.zeroCells108 := ⟨_, rfl⟩
      rw [← hZ] at q0
      gi_wp2_with fail
      rw [← hZ]
      obtain ⟨u, hu⟩ : ∃ u, u = wr.heap.size := ⟨_, rfl⟩
      obtain ⟨W0, hW0⟩ : ∃ W0, W0 = (wr.alloc (.cells Z 108)).alloc (.cells #[.pointer none, .pointer (some ⟨wr.heap.size, 0, none⟩)] 78) := ⟨_, rfl⟩
      have hg0 : wr.grownBy W0 none := by rw [hW0]; exact galloc (World.grownBy_alloc wr _ none) _
      have m0 : W0.cell? ⟨u, 0, none⟩ = some (.bool false) := by rw [hW0, hu]; simp [go_sem, q0]
      have e0 : W0.cell? ⟨u + 1, 0, none⟩ = some (.pointer none) := by rw [hW0, hu]; simp [go_sem]
      have e1 : W0.cell? ⟨u + 1, 1, none⟩ = some (.pointer (some ⟨u, 0, none⟩)) := by rw [hW0, hu]; simp [go_sem]
      have hB0 := hBx.kept hg0 (by simp)
      have hb0 := hb.trans (gbelow hg0 hb.size (by simp))
      rw [← hW0, ← hu]
      clear hW0 hZ q0 hBx hb hg0 hu
      have hu0 : u + 1 < W0.heap.size := lt_of_block_cell e1
      refine wpIn_loop_rounds 3 ?_
      rw [roundsIn_succ]
      have nm : ∀ W', Calls Try.prog 98 #[.pointer none] W' fun e w2 => e = .returned (.bool false) ∧ W' = w2 := crcIsMade_nil
      have hra0 := hr.all hb0
      have hnf := neq_nilFunc
      gi_wp2_with (first
        | (refine ⟨trivial, ?_⟩; gi_at_call 59; refine (callsIn_wide.2 (Frame_none _ _ _ (nm _))).mono ?_; rintro e w5 ⟨rfl, rfl⟩)
        | (refine ⟨trivial, ?_⟩; gi_at_call 61; refine (callsIn_wide.2 (Unframe_none _ _ _ (nm _))).mono ?_; rintro e w5 ⟨rfl, rfl⟩)
        | (refine ⟨trivial, ?_⟩; gi_at_call 52; refine (callsIn_wide.2 (Sum_none _ _ _ (nm _))).mono ?_; rintro e w5 ⟨rfl, rfl⟩)
        | (refine ⟨trivial, ?_⟩; gi_at_call 54; refine (callsIn_wide.2 (Extend_none _ _ _ _ (nm _))).mono ?_; rintro e w5 ⟨rfl, rfl⟩)
        | (refine ⟨trivial, ?_⟩; gi_at_call 65; refine (callsIn_wide.2 (Made_none _ _ (nm _))).mono ?_; rintro e w5 ⟨rfl, rfl⟩)
        | (refine ⟨trivial, ?_⟩; gi_at_call 64; refine (callsIn_wide.2 (Each_none none a bs.length c _ (fun w' _ => nm w'))).mono ?_; rintro e w6 ⟨rfl, hg6⟩))
      have hu6 : u + 1 < w6.heap.size := Nat.lt_of_lt_of_le hu0 hg6.size
      have m6 := hg6.cell m0 (by simp)
      have e6 := hg6.cell e1 (by simp)
      have hB6 := hB0.kept hg6 (by simp)
      have hb6 := hb0.trans (gbelow hg6 hb0.size (by simp))
      have hb6s : w.heap.size < w6.heap.size := hB6.lt
      clear hg6 m0 e0 e1 hB0 hb0 hra0
      refine wpIn_rangeFunc_ownF rfl (by omega) (gf := 96) (lb := #[]) rfl trivial (enters_of Try.func96 (by kernel_rfl) rfl)
        (each1_stops Fence.wide _ trivial rfl w6) belowK_t (belowK_b (Nat.le_refl _)) (Below.refl _ _) (fun _ => rfl) (fun _ W => Below w6.heap.size w6 W) (fun _ _ _ => False)
        (ownFrom_below (Nat.le_refl _) (Nat.le_refl _)) (fun _ _ _ _ _ hs _ _ => hs) (Below.refl _ _) ?a1 ?assign ?body ?done ?stop
      case assign =>
        intro l x W K hK
        gi_wp2
        exact hK
      case body =>
        intro l pre x W _ hlen
        exact absurd hlen (Nat.not_lt_zero _)
      case stop =>
        rintro D c pre W _ _ h _
        exact h.elim
      case done =>
        rintro D ys W7 hD rfl hB hK
        have m7 := (hB.cell (p := ⟨u, 0, none⟩) (by show u < _; omega)).trans m6
        have e7 := (hB.cell (p := ⟨u + 1, 1, none⟩) hu6).trans e6
        have hB7 : Boxed W7 w.heap.size 4 (.bool false) := (hB.block _ hB6.lt).trans hB6
        have hb7 := hb6.trans (hB.mono hb6.size)
        have hu7 : u + 1 < W7.heap.size := Nat.lt_of_lt_of_le hu6 hB.size
        have hra7 := hr.all hb7
        have um : ∀ W', W7.grownBy W' none → Calls Try.prog 98 #[.pointer (some ⟨u, 0, none⟩)] W' fun e w2 => e = .returned (.bool false) ∧ W' = w2 := fun W' hg => crcIsMade u false W' (hg.cell m7 (by simp))
        have um0 := um W7 (World.grownBy.refl _ _)
        clear hB m6 e6 hB6 hb6
        gi_wp2_with fail
        rw [roundsIn_succ]
        gi_wp2_with (first
          | (refine ⟨trivial, ?_⟩; gi_at_call 59; refine (callsIn_wide.2 (Frame_none _ _ _ um0)).mono ?_; rintro e w5 ⟨rfl, rfl⟩)
          | (refine ⟨trivial, ?_⟩; gi_at_call 61; refine (callsIn_wide.2 (Unframe_none _ _ _ um0)).mono ?_; rintro e w5 ⟨rfl, rfl⟩)
          | (refine ⟨trivial, ?_⟩; gi_at_call 52; refine (callsIn_wide.2 (Sum_none _ _ _ um0)).mono ?_; rintro e w5 ⟨rfl, rfl⟩)
          | (refine ⟨trivial, ?_⟩; gi_at_call 54; refine (callsIn_wide.2 (Extend_none _ _ _ _ um0)).mono ?_; rintro e w5 ⟨rfl, rfl⟩)
          | (refine ⟨trivial, ?_⟩; gi_at_call 65; refine (callsIn_wide.2 (Made_none _ _ um0)).mono ?_; rintro e w5 ⟨rfl, rfl⟩)
          | (refine ⟨trivial, ?_⟩; gi_at_call 64; refine (callsIn_wide.2 (Each_none _ a bs.length c _ um)).mono ?_; rintro e w8 ⟨rfl, hg8⟩))
        have hB8 := hB7.kept hg8 (by simp)
        have hb8 := hb7.trans (gbelow hg8 hb7.size (by simp))
        have hK8 : w8.heap[D]? = some (.deferred (some [])) := (hg8.block D (lt_of_block hK) (by simp)).trans hK
        have hDl := lt_of_block hK8
        clear hg8 m7 e7 hB7 hb7 hra7 um um0 hK
        refine wpIn_rangeFunc_ownF rfl (by omega) (gf := 96) (lb := #[]) rfl trivial (enters_of Try.func96 (by kernel_rfl) rfl)
          (each1_stops Fence.wide _ trivial rfl w8) belowK_t (belowK_b (Nat.le_refl _)) (Below.refl _ _) (fun _ => rfl) (fun _ W => Below w8.heap.size w8 W) (fun _ _ _ => False)
          (ownFrom_below (Nat.le_refl _) (Nat.le_refl _)) (fun _ _ _ _ _ hs _ _ => hs) (Below.refl _ _) ?a2 ?assign2 ?body2 ?done2 ?stop2
        case assign2 =>
          intro l x W K hK
          gi_wp2
          exact hK
        case body2 =>
          intro l pre x W _ hlen
          exact absurd hlen (Nat.not_lt_zero _)
        case stop2 =>
          rintro D c pre W _ _ h _
          exact h.elim
        case done2 =>
          rintro D2 ys W9 hD2 rfl hB hK2
          have hB9 : Boxed W9 w.heap.size 4 (.bool false) := (hB.block _ hB8.lt).trans hB8
          have hb9 := hb8.trans (hB.mono hb8.size)
          have hK9 : W9.heap[D]? = some (.deferred (some [])) := (hB.block D hDl).trans hK8
          have hw9 := hB8.lt
          have rc := hB9.cell
          have rf := hB9.frozen
          clear hB hB8 hb8 hK8
          gi_wp2_with fail
          rw [roundsIn_succ]
          gi_wp2
          have hDD : D ≠ D2 := by omega
          have x2 := (KeepsOthers.setCell W9 ⟨w.heap.size, 0, none⟩ (.bool true)).same D2 _ hK2 rfl
          have x1 := (KeepsOthers.setCell W9 ⟨w.heap.size, 0, none⟩ (.bool true)).same D _ hK9 rfl
          have hBr := hB9.set (.bool true)
          have hbr := hb9.setCell (p := ⟨w.heap.size, 0, none⟩) (Nat.le_refl _) (.bool true)
          generalize W9.setCell ⟨w.heap.size, 0, none⟩ (.bool true) = W10 at x1 x2 hBr hbr ⊢
          refine ⟨by simp, .inl ⟨_, _, rfl, run_takeDeferred x2, ?_⟩⟩
          have x3 : (W10.putObj D2 (.deferred none)).heap[D]? = some (.deferred (some [])) := (World.putObj_heap_other hDD).trans x1
          refine ⟨by simp, .inl ⟨_, _, rfl, run_takeDeferred x3, ?_⟩⟩
          have hwD : w.heap.size ≠ D := by have := hb6s; omega
          have hwD2 : w.heap.size ≠ D2 := by omega
          have hB11 : Boxed ((W10.putObj D2 (.deferred none)).putObj D (.deferred none)) w.heap.size 4 (.bool true) := (World.putObj_heap_other hwD).trans ((World.putObj_heap_other hwD2).trans hBr)
          have hb11 : Below w.heap.size w ((W10.putObj D2 (.deferred none)).putObj D (.deferred none)) :=
            (hbr.trans (gbelow (grownBy_putObj' W10 D2 _) hbr.size (by simp; omega))).trans (gbelow (grownBy_putObj' _ D _) (by simpa [World.putObj] using hbr.size) (by simp; omega))
          have hc11 := hB11.cell
          clear hB11 hBr hbr x1 x2 x3
          generalize (W10.putObj D2 (.deferred none)).putObj D (.deferred none) = W11 at hc11 hb11 ⊢
          simp [LeavesInM, LeavesIn, results, Try.results12, go_sem, hc11]
          exact hb11

set_option maxHeartbeats 4000000 in
theorem once_big (a : Option Addr) (l c : Nat) (times : Int) (w : World) (hl : 2000 < l) :
    CallsIn Fence.wide 8 Try.prog 12 #[.slice a l c, .int .i64 times] w fun e w' => e = .returned (.bool true) ∧ Below w.heap.size w w' := by
  refine callsIn_of_wp_marks Try.func12 rfl trivial ?_ rfl
  simp only [Try.ntmps12, List.size_toArray, List.length_cons, List.length_nil, Nat.reduceAdd, Nat.reduceSub, Array.replicate_succ, Array.replicate_zero, List.push_toArray, List.append_toArray, List.nil_append, List.cons_append]
  gi_wp2_with (refine ⟨trivial, ?_⟩; gi_at_call 50; refine (callsIn_wide.2 (crcAwake _)).mono ?_; rintro e w1 ⟨rfl, hg1⟩; have hBx : Boxed w1 w.heap.size 4 (.bool false) := (Boxed.new w 4 (.bool false)).kept hg1 (by simp); have rc := hBx.cell; have rf := hBx.frozen)
  have hBr := hBx.set (.bool true)
  have hbr := (gbelow ((World.grownBy_alloc w _ none).trans hg1) (Nat.le_refl w.heap.size) (by simp)).setCell (p := ⟨w.heap.size, 0, none⟩) (Nat.le_refl _) (.bool true)
  have hc11 := hBr.cell
  clear hBr hBx
  generalize w1.setCell ⟨w.heap.size, 0, none⟩ (.bool true) = W11 at hc11 hbr ⊢
  simp [bodyPostM, LeavesInM, LeavesIn, results, Try.results12, go_sem, hc11]
  exact hbr

theorem CrcOnce_walk (w : World) (a : Option Addr) (l c : Nat) (bs : List UInt8) (hr : Reads w (.slice a l c) bs) (times : Int) (_h : (Lit.int .i64 times).wf = true) :
    Calls Try.prog 12 #[.slice a l c, .int .i64 times] w fun e w' => e = .returned (.bool true) ∧ Below w.heap.size w w' := by
  have hs := hr.slice.1
  by_cases h : l ≤ 2000
  · exact callsIn_wide.1 (once_law a l c bs times w hr (by omega))
  · exact callsIn_wide.1 (once_big a l c times w (by omega))
end Go.Proofs.Ytgkdbifnngidoaa
