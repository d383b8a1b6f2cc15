/-
  LAYER 5 (norms): the reference's Check, of data that may be.
-/
import Derived.Test.YtpdacbiiaglodaaGreatQG27
import Derived.Test.YtpdacbiiaglodaaGreatQG13
import Derived.Deep.QuietTactic
import Derived.BigQuiet
import Derived.LoopTactic
namespace Go.Proofs.YtpdacbiiaglodaaGreat
set_option maxRecDepth 100000
open Go.RowKit Go.Lib

/-- A class in a block. -/
def C3 (w : World) (b : Nat) (x : Cls) : Prop := w.heap[b]? = some (.cells #[.int .i32 x.1, .int .i32 x.2.1, .int .i64 x.2.2] 104)
theorem C3.c0 {w : World} {b : Nat} {x : Cls} (h : C3 w b x) : w.cell? ⟨b, 0, none⟩ = some (.int .i32 x.1) := by simp [World.cell?, show _ = _ from h]
theorem C3.c1 {w : World} {b : Nat} {x : Cls} (h : C3 w b x) : w.cell? ⟨b, 1, none⟩ = some (.int .i32 x.2.1) := by simp [World.cell?, show _ = _ from h]
theorem C3.c2 {w : World} {b : Nat} {x : Cls} (h : C3 w b x) : w.cell? ⟨b, 2, none⟩ = some (.int .i64 x.2.2) := by simp [World.cell?, show _ = _ from h]
theorem C3.new (w : World) (x : Cls) : C3 (w.alloc (.cells #[.int .i32 x.1, .int .i32 x.2.1, .int .i64 x.2.2] 104)) w.heap.size x := World.alloc_heap_new w _

theorem stp_self {d : List Dec} (hr : (d.map (·.1)).Pairwise (· < ·)) {x : Dec} (hx : x ∈ d) : stp d x.1 = some x := by
  induction d with
  | nil => cases hx
  | cons y t ih =>
    rw [List.map_cons, List.pairwise_cons] at hr
    unfold stp
    by_cases e : y.1 = x.1
    · rw [List.find?_cons_of_pos (by simpa using e)]
      rcases List.mem_cons.1 hx with rfl | hx
      · rfl
      · have := hr.1 x.1 (List.mem_map.2 ⟨x, hx, rfl⟩)
        omega
    · rw [List.find?_cons_of_neg (by simpa using e)]
      rcases List.mem_cons.1 hx with rfl | hx
      · exact absurd rfl e
      · exact ih hr.2 hx

set_option maxHeartbeats 16000000 in
theorem refCheck_ok (vc vd : Value) (c : List Cls) (d : List Dec) (w : World) (hT : Dat w vc vd c d) (hgd : good c d = true) :
    Calls Tryz.prog 42 #[vc, vd] w fun e w' => e = .returned (.int .i64 0) ∧ w.grownBy w' none := by
  obtain ⟨g1, g2, g3, g4⟩ := good_parts hgd
  obtain ⟨hTc, hTd⟩ := hT
  obtain ⟨a, cp, rfl, hc, hm⟩ := hTd.form
  obtain ⟨ac, cc, rfl, hcc, hmc⟩ := hTc.form
  unfold maxLen at hm hmc
  have n1 : decide ((4000 : Int) < (c.length : Int)) = false := by simp; omega
  have n2 : decide ((8000 : Int) < (d.length : Int)) = false := by simp; omega
  replace hTc := Lib.hid hTc
  replace hTd := Lib.hid hTd
  replace g3 := Lib.hid g3
  replace g4 := Lib.hid g4
  clear hgd
  go_enter Tryz.func42, Tryz.ntmps42
  go_wp2
  go_loopw [23] (fun vi wr => ∃ (i : Nat) (L : Int), vi = .int .i64 (i : Int) ∧ i ≤ c.length ∧ Hid (clsOk L (c.drop i) = true) ∧ Hid (0 < i → ∃ y, c[i - 1]? = some y ∧ L = y.2.1 + 1) ∧ w.grownBy wr none) (fun vi _ => c.length - (RowKit.intOf vi).toNat)
  case atStart => exact ⟨0, 0, rfl, Nat.zero_le _, Lib.hid g3.out, Lib.hid (fun h => absurd h (Nat.lt_irrefl 0)), World.grownBy.refl w none⟩
  case round =>
    obtain ⟨i, L, rfl, hi, hL, hP, hg⟩ := hrel
    by_cases hlt : i < c.length
    · obtain ⟨x, hx⟩ : ∃ x, c[i] = x := ⟨_, rfl⟩
      obtain ⟨b, off, rfl, c1, c2, c3⟩ := (hTc.out.all hg).get hlt
      rw [hx] at c1 c2 c3
      have hLo := hL.out
      rw [List.drop_eq_getElem_cons hlt, hx, clsOk, Bool.and_eq_true] at hLo
      have hL2 := Lib.hid hLo.2
      have h3 := hLo.1
      simp only [clOk, Bool.and_eq_true, decide_eq_true_eq] at h3
      obtain ⟨⟨⟨⟨⟨s1, s2⟩, s3⟩, s4⟩, s5⟩, s6⟩ := h3
      have S1 := fun w => scal_lecternref05.Scalar x.1 w
      have S2 := fun w => scal_lecternref05.Scalar x.2.1 w
      rw [s1] at S1
      rw [s2] at S2
      have e1 : decide (x.2.1 < x.1) = false := by simp; omega
      have e2 : decide (x.2.2 < 1) = false := by simp; omega
      have e3 : decide (254 < x.2.2) = false := by simp; omega
      have hN := C3.new wr x
      have k0 := hN.c0
      have k1 := hN.c1
      have k2 := hN.c2
      have hP2 : Hid (0 < i + 1 → ∃ y, c[i + 1 - 1]? = some y ∧ x.2.1 + 1 = y.2.1 + 1) := Lib.hid (fun _ => ⟨x, by simp [hx, List.getElem?_eq_getElem hlt], rfl⟩)
      by_cases hi0 : 0 < i
      · obtain ⟨y, hy, rfl⟩ := hP.out hi0
        have e4 : decide ((0 : Int) < (i : Int)) = true := by simpa using hi0
        have e5 : decide (x.1 ≤ y.2.1) = false := by simp; omega
        have hlt2 : i - 1 < c.length := by omega
        obtain ⟨b', off', hbb, _, z2, _⟩ := (hTc.out.all (hg.trans (World.grownBy_alloc wr (.cells #[.int .i32 x.1, .int .i32 x.2.1, .int .i64 x.2.2] 104) none))).get hlt2
        cases hbb
        have hy' : c[i - 1] = y := by
          rw [List.getElem?_eq_getElem hlt2] at hy
          exact Option.some.inj hy
        rw [hy'] at z2
        have hw1 : IntKind.i64.wrap ((i : Int) - 1) = ((i - 1 : Nat) : Int) := by rw [IntKind.wrap_i64]; omega
        clear hL hLo s1 s2 hx hy hy' hP
        go_wp2
        go_quiet (first
          | (go_at_call_of 79 (Value.int IntKind.i32 x.1); exact Calls.quiet_of_same ((S1 _).mono fun e w' ⟨q1, q2⟩ => ⟨q1, q2.symm⟩))
          | (go_at_call_of 79 (Value.int IntKind.i32 x.2.1); exact Calls.quiet_of_same ((S2 _).mono fun e w' ⟨q1, q2⟩ => ⟨q1, q2.symm⟩)))
        go_wp2
        exact ⟨⟨i + 1, x.2.1 + 1, by go_num, by omega, hL2, hP2, gdrewN (galloc hg _) _⟩, by simp [RowKit.intOf]; omega⟩
      · have e4 : decide ((0 : Int) < (i : Int)) = false := by simp; omega
        clear hL hLo s1 s2 hx hP
        go_wp2
        go_quiet (first
          | (go_at_call_of 79 (Value.int IntKind.i32 x.1); exact Calls.quiet_of_same ((S1 _).mono fun e w' ⟨q1, q2⟩ => ⟨q1, q2.symm⟩))
          | (go_at_call_of 79 (Value.int IntKind.i32 x.2.1); exact Calls.quiet_of_same ((S2 _).mono fun e w' ⟨q1, q2⟩ => ⟨q1, q2.symm⟩)))
        go_wp2
        exact ⟨⟨i + 1, x.2.1 + 1, by go_num, by omega, hL2, hP2, gdrewN (galloc hg _) _⟩, by simp [RowKit.intOf]; omega⟩
    · obtain rfl : i = c.length := by omega
      clear hL hlt hP hi
      go_wp2
      go_loopw [73] (fun vi wr => ∃ (i : Nat) (L : Int), vi = .int .i64 (i : Int) ∧ i ≤ d.length ∧ Hid (decsOk c d L (d.drop i) = true) ∧ Hid (0 < i → ∃ y, d[i - 1]? = some y ∧ L = y.1 + 1) ∧ w.grownBy wr none) (fun vi _ => d.length - (RowKit.intOf vi).toNat)
      case atStart => exact ⟨0, 0, rfl, Nat.zero_le _, Lib.hid g4.out, Lib.hid (fun h => absurd h (Nat.lt_irrefl 0)), hg⟩
      case round =>
        clear hg
        obtain ⟨i, L, rfl, hi, hL, hP, hg⟩ := hrel
        by_cases hlt : i < d.length
        · obtain ⟨x, hx⟩ : ∃ x, d[i] = x := ⟨_, rfl⟩
          obtain ⟨b, off, rfl, c1, c2, c3⟩ := (hTd.out.all hg).get hlt
          rw [hx] at c1 c2 c3
          have hLo := hL.out
          rw [List.drop_eq_getElem_cons hlt, hx, decsOk, Bool.and_eq_true] at hLo
          have hL2 := Lib.hid hLo.2
          have h3 := hLo.1
          simp only [decOk, codesOk, Bool.and_eq_true, decide_eq_true_eq, Bool.not_eq_true', decide_eq_false_iff_not] at h3
          obtain ⟨⟨⟨s0, ⟨⟨⟨⟨⟨⟨s1, s2⟩, s3⟩, s4⟩, s5⟩, s6⟩, s7⟩⟩, _⟩, _⟩ := h3
          have S1 := fun w => scal_lecternref05.Scalar x.1 w
          have S2 := fun w => scal_lecternref05.Scalar x.2.1 w
          have S3 := fun w => scal_lecternref05.Scalar x.2.2 w
          have S4 := fun w => jamo_lecternref05.told x.1 w
          rw [s1] at S1
          rw [s4] at S2
          rw [s6] at S3
          rw [s3] at S4
          have e1 : (x.2.1 == 0) = false := by simpa using s5
          have hN := D3.new wr x
          have k0 := hN.c0
          have k1 := hN.c1
          have k2 := hN.c2
          have hP2 : Hid (0 < i + 1 → ∃ y, d[i + 1 - 1]? = some y ∧ x.1 + 1 = y.1 + 1) := Lib.hid (fun _ => ⟨x, by simp [hx, List.getElem?_eq_getElem hlt], rfl⟩)
          have prev : 0 < i → ∃ y : Dec, decide (x.1 ≤ y.1) = false ∧ (wr.alloc (.cells #[.int .i32 x.1, .int .i32 x.2.1, .int .i32 x.2.2] 106)).cell? ⟨b, off + (i - 1) * 3, none⟩ = some (.int .i32 y.1) := by
            intro hi0
            obtain ⟨y, hy, rfl⟩ := hP.out hi0
            have hlt2 : i - 1 < d.length := by omega
            obtain ⟨b', off', hbb, z1, _, _⟩ := (hTd.out.all (hg.trans (World.grownBy_alloc wr (.cells #[.int .i32 x.1, .int .i32 x.2.1, .int .i32 x.2.2] 106) none))).get hlt2
            cases hbb
            rw [List.getElem?_eq_getElem hlt2] at hy
            rw [Option.some.inj hy] at z1
            exact ⟨y, by simp; omega, z1⟩
          have hw1 : 0 < i → IntKind.i64.wrap ((i : Int) - 1) = ((i - 1 : Nat) : Int) := fun _ => by rw [IntKind.wrap_i64]; omega
          simp only [syl, decide_eq_false_iff_not] at s2
          have hcase : (decide (44032 ≤ x.1) = false) ∨ (decide (44032 ≤ x.1) = true ∧ decide (x.1 ≤ 55203) = false) := by
            by_cases h : 44032 ≤ x.1
            · right; simp; omega
            · left; simpa using h
          clear hL hLo s0 s1 s2 s3 s4 s5 s6 s7 hx hP hN
          by_cases hi0 : 0 < i
          · have e4 : decide ((0 : Int) < (i : Int)) = true := by simpa using hi0
            obtain ⟨y, e5, z2⟩ := prev hi0
            have hw := hw1 hi0
            clear prev hw1
            rcases hcase with e6 | ⟨e6, e7⟩
            all_goals
            go_wp2
            go_quiet (first
              | (go_at_call_of 79 (Value.int IntKind.i32 x.1); exact Calls.quiet_of_same ((S1 _).mono fun e w' ⟨q1, q2⟩ => ⟨q1, q2.symm⟩))
              | (go_at_call_of 79 (Value.int IntKind.i32 x.2.1); exact Calls.quiet_of_same ((S2 _).mono fun e w' ⟨q1, q2⟩ => ⟨q1, q2.symm⟩))
              | (go_at_call_of 79 (Value.int IntKind.i32 x.2.2); exact Calls.quiet_of_same ((S3 _).mono fun e w' ⟨q1, q2⟩ => ⟨q1, q2.symm⟩))
              | (go_at_call_of 80 (Value.int IntKind.i32 x.1); exact Calls.quiet_of_same ((S4 _).mono fun e w' ⟨q1, q2⟩ => ⟨q1, q2.symm⟩)))
            go_wp2
            exact ⟨⟨i + 1, x.1 + 1, by go_num, by omega, hL2, hP2, gdrewN (galloc hg _) _⟩, by simp [RowKit.intOf]; omega⟩
          · have e4 : decide ((0 : Int) < (i : Int)) = false := by simp; omega
            clear prev hw1
            rcases hcase with e6 | ⟨e6, e7⟩
            all_goals
            go_wp2
            go_quiet (first
              | (go_at_call_of 79 (Value.int IntKind.i32 x.1); exact Calls.quiet_of_same ((S1 _).mono fun e w' ⟨q1, q2⟩ => ⟨q1, q2.symm⟩))
              | (go_at_call_of 79 (Value.int IntKind.i32 x.2.1); exact Calls.quiet_of_same ((S2 _).mono fun e w' ⟨q1, q2⟩ => ⟨q1, q2.symm⟩))
              | (go_at_call_of 79 (Value.int IntKind.i32 x.2.2); exact Calls.quiet_of_same ((S3 _).mono fun e w' ⟨q1, q2⟩ => ⟨q1, q2.symm⟩))
              | (go_at_call_of 80 (Value.int IntKind.i32 x.1); exact Calls.quiet_of_same ((S4 _).mono fun e w' ⟨q1, q2⟩ => ⟨q1, q2.symm⟩)))
            go_wp2
            exact ⟨⟨i + 1, x.1 + 1, by go_num, by omega, hL2, hP2, gdrewN (galloc hg _) _⟩, by simp [RowKit.intOf]; omega⟩
        · obtain rfl : i = d.length := by omega
          clear hL hlt hP hi
          have hrise := decsOk_rise g4.out
          have hsyl : ∀ y ∈ d, syl y.1 = false := fun y hy => by
            have := decsOk_mem g4.out y hy
            simp only [decOk, codesOk, Bool.and_eq_true, Bool.not_eq_true'] at this
            exact this.1.1.2.1.1.1.1.1.2
          have hmb : ∀ y ∈ d, mb d 4 y = true := fun y hy => by
            have := decsOk_mem g4.out y hy
            simp only [decOk, Bool.and_eq_true] at this
            exact this.1.2.2
          have hDeep := fun (x : Dec) (hx : x ∈ d) W (hgW : w.grownBy W none) => refDeep_ok (.slice a d.length cp) d hsyl 4 x.1 W (Nat.le_refl _) (hTd.out.all hgW) (fun y hy => hmb y (by unfold stp at hy; exact List.mem_of_find?_eq_some hy))
          have hStep := fun r W (hgW : w.grownBy W none) => refStep_any (.slice a d.length cp) d r W (hTd.out.all hgW)
          have hCl := fun r W (hgW : w.grownBy W none) => refClass_any (.slice ac c.length cc) c r W (hTc.out.all hgW)
          go_wp2
          go_loopw [132] (fun vi wr => ∃ (i : Nat), vi = .int .i64 (i : Int) ∧ i ≤ d.length ∧ w.grownBy wr none) (fun vi _ => d.length - (RowKit.intOf vi).toNat)
          case atStart => exact ⟨0, rfl, Nat.zero_le _, hg⟩
          case round =>
            clear hg
            obtain ⟨i, rfl, hi, hg⟩ := hrel
            by_cases hlt : i < d.length
            · obtain ⟨x, hx⟩ : ∃ x, d[i] = x := ⟨_, rfl⟩
              have hmem : x ∈ d := hx ▸ List.getElem_mem hlt
              obtain ⟨b, off, rfl, c1, c2, c3⟩ := (hTd.out.all hg).get hlt
              rw [hx] at c1 c2 c3
              have hok := decsOk_mem g4.out x hmem
              simp only [decOk, codesOk, Bool.and_eq_true, Bool.not_eq_true'] at hok
              obtain ⟨⟨⟨_, ⟨_, hsB⟩⟩, ⟨hbO, hmx⟩⟩, hbg⟩ := hok
              have hD := hDeep x hmem
              have hval : dval d 4 x.1 = whl d 4 x := by unfold dval; rw [stp_self hrise hmem]
              rw [hval] at hD
              obtain ⟨h0, tl, htl⟩ := List.exists_cons_of_ne_nil (mb_whl (d := d) (n := 4) (x := x) hmx 0).2
              rw [htl] at hD
              have htll : tl.length ≤ 10 := by have := whl_length d 4 x; rw [htl] at this; simp at this; omega
              unfold begins at hbg
              rw [htl, List.headD_cons] at hbg
              have hN := D3.new wr x
              have ga := galloc hg (.cells #[.int .i32 x.1, .int .i32 x.2.1, .int .i32 x.2.2] 106)
              have k0 := hN.c0
              have k2 := hN.c2
              have hH := fun w => refHangul_none x.2.2 w hsB
              have hcell : ∀ W, (wr.alloc (.cells #[.int .i32 x.1, .int .i32 x.2.1, .int .i32 x.2.2] 106)).grownBy W none → W.cell? ⟨wr.heap.size, 0, none⟩ = some (.int .i32 x.1) ∧ W.cell? ⟨wr.heap.size, 2, none⟩ = some (.int .i32 x.2.2) := fun W h => ⟨(hN.kept h (by simp)).c0, (hN.kept h (by simp)).c2⟩
              have hC1 := hCl x.1
              have hC2 := hCl h0
              replace hN := Lib.hid hN
              clear hDeep hval htl hx hmx hmb hsyl
              have hyb : (clsOf c x.1 != 0) = false ∨ ((clsOf c x.1 != 0) = true ∧ (clsOf c h0 == 0) = false) := by
                simp only [Bool.or_eq_true, decide_eq_true_eq, Bool.not_eq_true', decide_eq_false_iff_not] at hbg
                by_cases h : clsOf c x.1 = 0
                · left; simp [h]
                · right; exact ⟨by simpa using h, by simpa using hbg.resolve_left h⟩
              clear hbg
              by_cases hb : x.2.2 = 0
              · have hzb : (x.2.2 != 0) = false := by rw [hb]; rfl
                replace hb := Lib.hid hb
                clear hStep hH hbO
                rcases hyb with hy1 | ⟨hy1, hy2⟩
                all_goals
                  go_wp2_with (first
                    | (go_at_call 83; refine (hD _ ga).mono ?_; rintro e w2 ⟨v2, rfl, ho2, hg2⟩; have gd2 := ga.trans hg2; obtain ⟨bb, cap, rfl, hcap, hmx, hhd⟩ := Rn.head (.inl ho2); unfold maxLen at hmx; obtain ⟨z0, z2⟩ := hcell _ hg2)
                    | (go_at_call_of 76 (Value.int IntKind.i32 x.1); refine (hC1 _ gd2).mono ?_; rintro e w3 ⟨rfl, hg3⟩; have gd3 := gd2.trans hg3; have hhd3 := hg3.cell hhd (by simp))
                    | (go_at_call_of 76 (Value.int IntKind.i32 h0); refine (hC2 _ gd3).mono ?_; rintro e w4 ⟨rfl, hg4⟩; have gd4 := gd3.trans hg4))
                · exact ⟨⟨i + 1, by go_num, by omega, gd3⟩, by simp [RowKit.intOf]; omega⟩
                · exact ⟨⟨i + 1, by go_num, by omega, gd4⟩, by simp [RowKit.intOf]; omega⟩
              · have hzb : (x.2.2 != 0) = true := by simpa using hb
                have hs : stp d x.2.2 = none := by
                  simp only [bOk, Bool.or_eq_true, decide_eq_true_eq, Option.isNone_iff_eq_none] at hbO
                  exact hbO.resolve_left hb
                have hSt := fun W hgW => hStep x.2.2 W hgW
                simp only [hs] at hSt
                replace hb := Lib.hid hb
                replace hs := Lib.hid hs
                clear hStep hbO
                rcases hyb with hy1 | ⟨hy1, hy2⟩
                all_goals
                  go_wp2_with (first
                    | (go_at_call 81; refine (hSt _ ga).mono ?_; rintro e w1 ⟨⟨_, rfl⟩ | ⟨j, y, _, h, _⟩, hg1⟩; rotate_left; cases h; have gd1 := ga.trans hg1; obtain ⟨y0, y2⟩ := hcell _ hg1)
                    | (go_at_call 82; refine (hH _).mono ?_; rintro e w1' ⟨rfl, rfl⟩)
                    | (go_at_call 83; refine (hD _ gd1).mono ?_; rintro e w2 ⟨v2, rfl, ho2, hg2⟩; have gd2 := gd1.trans hg2; obtain ⟨bb, cap, rfl, hcap, hmx, hhd⟩ := Rn.head (.inl ho2); unfold maxLen at hmx; obtain ⟨z0, z2⟩ := hcell _ (hg1.trans hg2))
                    | (go_at_call_of 76 (Value.int IntKind.i32 x.1); refine (hC1 _ gd2).mono ?_; rintro e w3 ⟨rfl, hg3⟩; have gd3 := gd2.trans hg3; have hhd3 := hg3.cell hhd (by simp))
                    | (go_at_call_of 76 (Value.int IntKind.i32 h0); refine (hC2 _ gd3).mono ?_; rintro e w4 ⟨rfl, hg4⟩; have gd4 := gd3.trans hg4))
                · exact ⟨⟨i + 1, by go_num, by omega, gd3⟩, by simp [RowKit.intOf]; omega⟩
                · exact ⟨⟨i + 1, by go_num, by omega, gd4⟩, by simp [RowKit.intOf]; omega⟩
            · obtain rfl : i = d.length := by omega
              clear hDeep hStep hCl
              go_wp2
              go_ret
              exact ⟨rfl, hg⟩
end Go.Proofs.YtpdacbiiaglodaaGreat
