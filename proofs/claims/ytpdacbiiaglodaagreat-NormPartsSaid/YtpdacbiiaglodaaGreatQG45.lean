/-
  LAYER 5 (norms): the reference's Check, of data whose decompositions may not be, one with another.
-/
import Derived.Test.YtpdacbiiaglodaaGreatQG43
import Derived.Test.YtpdacbiiaglodaaGreatQG44
namespace Go.Proofs.YtpdacbiiaglodaaGreat
set_option maxRecDepth 100000
open Go.RowKit Go.Lib

/-- What Check's third loop asks. -/
def ok3 (c : List Cls) (d : List Dec) (x : Dec) : Bool := (decide (x.2.2 = 0) || ((stp d x.2.2).isNone && !syl x.2.2)) && mb d 4 x && begins c d x
theorem decs1_mem : ∀ {l : List Dec} {L : Int}, decs1 L l = true → ∀ x ∈ l, cod1 x = true ∧ L ≤ x.1
  | [], _, _, x, hx => by cases hx
  | y :: t, L, h, x, hx => by
    rw [decs1, Bool.and_eq_true, Bool.and_eq_true, decide_eq_true_eq] at h
    rcases List.mem_cons.1 hx with rfl | hx
    · exact ⟨h.1.2, h.1.1⟩
    · have := decs1_mem h.2 x hx
      exact ⟨this.1, by omega⟩
theorem decs1_rise : ∀ {l : List Dec} {L : Int}, decs1 L l = true → (l.map (·.1)).Pairwise (· < ·)
  | [], _, _ => List.Pairwise.nil
  | y :: t, L, h => by
    rw [decs1, Bool.and_eq_true] at h
    rw [List.map_cons, List.pairwise_cons]
    refine ⟨fun z hz => ?_, decs1_rise h.2⟩
    obtain ⟨q, hq, rfl⟩ := List.mem_map.1 hz
    have := (decs1_mem h.2 q hq).2
    omega

set_option maxHeartbeats 16000000 in
theorem refCheck_end (vc vd : Value) (c : List Cls) (d : List Dec) (w : World) (hT : Dat w vc vd c d) (g1 : c.length ≤ 4000) (g2 : d.length ≤ 8000) (g3 : clsOk 0 c = true) (g4 : decs1 0 d = true) (g5 : d.all (ok3 c d) = false) :
    Calls Tryz.prog 42 #[vc, vd] w fun e w' => e = .returned (.int .i64 52) ∧ w.grownBy w' none := by
  obtain ⟨hTc, hTd⟩ := hT
  obtain ⟨a, cp, rfl, hc, hm⟩ := hTd.form
  obtain ⟨ac, cc, rfl, hcc, hmc⟩ := hTc.form
  unfold maxLen at hm hmc
  have n1 : decide ((4000 : Int) < (c.length : Int)) = false := by simp; omega
  have n2 : decide ((8000 : Int) < (d.length : Int)) = false := by simp; omega
  replace hTc := Lib.hid hTc
  replace hTd := Lib.hid hTd
  replace g3 := Lib.hid g3
  replace g4 := Lib.hid g4
  replace g5 := Lib.hid g5
  go_enter Tryz.func42, Tryz.ntmps42
  go_wp2
  go_loopw [23] (fun vi wr => ∃ (i : Nat) (L : Int), vi = .int .i64 (i : Int) ∧ i ≤ c.length ∧ Hid (clsOk L (c.drop i) = true) ∧ Hid (0 < i → ∃ y, c[i - 1]? = some y ∧ L = y.2.1 + 1) ∧ w.grownBy wr none) (fun vi _ => c.length - (RowKit.intOf vi).toNat)
  case atStart => exact ⟨0, 0, rfl, Nat.zero_le _, Lib.hid g3.out, Lib.hid (fun h => absurd h (Nat.lt_irrefl 0)), World.grownBy.refl w none⟩
  case round =>
    obtain ⟨i, L, rfl, hi, hL, hP, hg⟩ := hrel
    by_cases hlt : i < c.length
    · obtain ⟨x, hx⟩ : ∃ x, c[i] = x := ⟨_, rfl⟩
      obtain ⟨b, off, rfl, c1, c2, c3⟩ := (hTc.out.all hg).get hlt
      rw [hx] at c1 c2 c3
      have hLo := hL.out
      rw [List.drop_eq_getElem_cons hlt, hx, clsOk, Bool.and_eq_true] at hLo
      have hL2 := Lib.hid hLo.2
      have h3 := hLo.1
      simp only [clOk, Bool.and_eq_true, decide_eq_true_eq] at h3
      obtain ⟨⟨⟨⟨⟨s1, s2⟩, s3⟩, s4⟩, s5⟩, s6⟩ := h3
      have S1 := fun w => scal_lecternref05.Scalar x.1 w
      have S2 := fun w => scal_lecternref05.Scalar x.2.1 w
      rw [s1] at S1
      rw [s2] at S2
      have e1 : decide (x.2.1 < x.1) = false := by simp; omega
      have e2 : decide (x.2.2 < 1) = false := by simp; omega
      have e3 : decide (254 < x.2.2) = false := by simp; omega
      have hN := C3.new wr x
      have k0 := hN.c0
      have k1 := hN.c1
      have k2 := hN.c2
      have hP2 : Hid (0 < i + 1 → ∃ y, c[i + 1 - 1]? = some y ∧ x.2.1 + 1 = y.2.1 + 1) := Lib.hid (fun _ => ⟨x, by simp [hx, List.getElem?_eq_getElem hlt], rfl⟩)
      by_cases hi0 : 0 < i
      · obtain ⟨y, hy, rfl⟩ := hP.out hi0
        have e4 : decide ((0 : Int) < (i : Int)) = true := by simpa using hi0
        have e5 : decide (x.1 ≤ y.2.1) = false := by simp; omega
        have hlt2 : i - 1 < c.length := by omega
        obtain ⟨b', off', hbb, _, z2, _⟩ := (hTc.out.all (hg.trans (World.grownBy_alloc wr (.cells #[.int .i32 x.1, .int .i32 x.2.1, .int .i64 x.2.2] 104) none))).get hlt2
        cases hbb
        have hy' : c[i - 1] = y := by
          rw [List.getElem?_eq_getElem hlt2] at hy
          exact Option.some.inj hy
        rw [hy'] at z2
        have hw1 : IntKind.i64.wrap ((i : Int) - 1) = ((i - 1 : Nat) : Int) := by rw [IntKind.wrap_i64]; omega
        clear hL hLo s1 s2 hx hy hy' hP
        go_wp2
        go_quiet (first
          | (go_at_call_of 79 (Value.int IntKind.i32 x.1); exact Calls.quiet_of_same ((S1 _).mono fun e w' ⟨q1, q2⟩ => ⟨q1, q2.symm⟩))
          | (go_at_call_of 79 (Value.int IntKind.i32 x.2.1); exact Calls.quiet_of_same ((S2 _).mono fun e w' ⟨q1, q2⟩ => ⟨q1, q2.symm⟩)))
        go_wp2
        exact ⟨⟨i + 1, x.2.1 + 1, by go_num, by omega, hL2, hP2, gdrewN (galloc hg _) _⟩, by simp [RowKit.intOf]; omega⟩
      · have e4 : decide ((0 : Int) < (i : Int)) = false := by simp; omega
        clear hL hLo s1 s2 hx hP
        go_wp2
        go_quiet (first
          | (go_at_call_of 79 (Value.int IntKind.i32 x.1); exact Calls.quiet_of_same ((S1 _).mono fun e w' ⟨q1, q2⟩ => ⟨q1, q2.symm⟩))
          | (go_at_call_of 79 (Value.int IntKind.i32 x.2.1); exact Calls.quiet_of_same ((S2 _).mono fun e w' ⟨q1, q2⟩ => ⟨q1, q2.symm⟩)))
        go_wp2
        exact ⟨⟨i + 1, x.2.1 + 1, by go_num, by omega, hL2, hP2, gdrewN (galloc hg _) _⟩, by simp [RowKit.intOf]; omega⟩
    · obtain rfl : i = c.length := by omega
      clear hL hlt hP hi
      go_wp2
      go_loopw [73] (fun vi wr => ∃ (i : Nat) (L : Int), vi = .int .i64 (i : Int) ∧ i ≤ d.length ∧ Hid (decs1 L (d.drop i) = true) ∧ Hid (0 < i → ∃ y, d[i - 1]? = some y ∧ L = y.1 + 1) ∧ w.grownBy wr none) (fun vi _ => d.length - (RowKit.intOf vi).toNat)
      case atStart => exact ⟨0, 0, rfl, Nat.zero_le _, Lib.hid g4.out, Lib.hid (fun h => absurd h (Nat.lt_irrefl 0)), hg⟩
      case round =>
        clear hg
        obtain ⟨i, L, rfl, hi, hL, hP, hg⟩ := hrel
        by_cases hlt : i < d.length
        · obtain ⟨x, hx⟩ : ∃ x, d[i] = x := ⟨_, rfl⟩
          obtain ⟨b, off, rfl, c1, c2, c3⟩ := (hTd.out.all hg).get hlt
          rw [hx] at c1 c2 c3
          have hLo := hL.out
          rw [List.drop_eq_getElem_cons hlt, hx, decs1, Bool.and_eq_true] at hLo
          have hL2 := Lib.hid hLo.2
          have h3 := hLo.1
          simp only [cod1, Bool.and_eq_true, decide_eq_true_eq, Bool.not_eq_true', decide_eq_false_iff_not] at h3
          obtain ⟨s0, ⟨⟨⟨⟨⟨s1, s4⟩, s6⟩, s5⟩, s2⟩, s3⟩⟩ := h3
          have S1 := fun w => scal_lecternref05.Scalar x.1 w
          have S2 := fun w => scal_lecternref05.Scalar x.2.1 w
          have S3 := fun w => scal_lecternref05.Scalar x.2.2 w
          have S4 := fun w => jamo_lecternref05.told x.1 w
          rw [s1] at S1
          rw [s4] at S2
          rw [s6] at S3
          rw [s3] at S4
          have e1 : (x.2.1 == 0) = false := by simpa using s5
          have hN := D3.new wr x
          have k0 := hN.c0
          have k1 := hN.c1
          have k2 := hN.c2
          have hP2 : Hid (0 < i + 1 → ∃ y, d[i + 1 - 1]? = some y ∧ x.1 + 1 = y.1 + 1) := Lib.hid (fun _ => ⟨x, by simp [hx, List.getElem?_eq_getElem hlt], rfl⟩)
          have prev : 0 < i → ∃ y : Dec, decide (x.1 ≤ y.1) = false ∧ (wr.alloc (.cells #[.int .i32 x.1, .int .i32 x.2.1, .int .i32 x.2.2] 106)).cell? ⟨b, off + (i - 1) * 3, none⟩ = some (.int .i32 y.1) := by
            intro hi0
            obtain ⟨y, hy, rfl⟩ := hP.out hi0
            have hlt2 : i - 1 < d.length := by omega
            obtain ⟨b', off', hbb, z1, _, _⟩ := (hTd.out.all (hg.trans (World.grownBy_alloc wr (.cells #[.int .i32 x.1, .int .i32 x.2.1, .int .i32 x.2.2] 106) none))).get hlt2
            cases hbb
            rw [List.getElem?_eq_getElem hlt2] at hy
            rw [Option.some.inj hy] at z1
            exact ⟨y, by simp; omega, z1⟩
          have hw1 : 0 < i → IntKind.i64.wrap ((i : Int) - 1) = ((i - 1 : Nat) : Int) := fun _ => by rw [IntKind.wrap_i64]; omega
          simp only [syl, decide_eq_false_iff_not] at s2
          have hcase : (decide (44032 ≤ x.1) = false) ∨ (decide (44032 ≤ x.1) = true ∧ decide (x.1 ≤ 55203) = false) := by
            by_cases h : 44032 ≤ x.1
            · right; simp; omega
            · left; simpa using h
          clear hL hLo s0 s1 s2 s3 s4 s5 s6 hx hP hN
          by_cases hi0 : 0 < i
          · have e4 : decide ((0 : Int) < (i : Int)) = true := by simpa using hi0
            obtain ⟨y, e5, z2⟩ := prev hi0
            have hw := hw1 hi0
            clear prev hw1
            rcases hcase with e6 | ⟨e6, e7⟩
            all_goals
            go_wp2
            go_quiet (first
              | (go_at_call_of 79 (Value.int IntKind.i32 x.1); exact Calls.quiet_of_same ((S1 _).mono fun e w' ⟨q1, q2⟩ => ⟨q1, q2.symm⟩))
              | (go_at_call_of 79 (Value.int IntKind.i32 x.2.1); exact Calls.quiet_of_same ((S2 _).mono fun e w' ⟨q1, q2⟩ => ⟨q1, q2.symm⟩))
              | (go_at_call_of 79 (Value.int IntKind.i32 x.2.2); exact Calls.quiet_of_same ((S3 _).mono fun e w' ⟨q1, q2⟩ => ⟨q1, q2.symm⟩))
              | (go_at_call_of 80 (Value.int IntKind.i32 x.1); exact Calls.quiet_of_same ((S4 _).mono fun e w' ⟨q1, q2⟩ => ⟨q1, q2.symm⟩)))
            go_wp2
            exact ⟨⟨i + 1, x.1 + 1, by go_num, by omega, hL2, hP2, gdrewN (galloc hg _) _⟩, by simp [RowKit.intOf]; omega⟩
          · have e4 : decide ((0 : Int) < (i : Int)) = false := by simp; omega
            clear prev hw1
            rcases hcase with e6 | ⟨e6, e7⟩
            all_goals
            go_wp2
            go_quiet (first
              | (go_at_call_of 79 (Value.int IntKind.i32 x.1); exact Calls.quiet_of_same ((S1 _).mono fun e w' ⟨q1, q2⟩ => ⟨q1, q2.symm⟩))
              | (go_at_call_of 79 (Value.int IntKind.i32 x.2.1); exact Calls.quiet_of_same ((S2 _).mono fun e w' ⟨q1, q2⟩ => ⟨q1, q2.symm⟩))
              | (go_at_call_of 79 (Value.int IntKind.i32 x.2.2); exact Calls.quiet_of_same ((S3 _).mono fun e w' ⟨q1, q2⟩ => ⟨q1, q2.symm⟩))
              | (go_at_call_of 80 (Value.int IntKind.i32 x.1); exact Calls.quiet_of_same ((S4 _).mono fun e w' ⟨q1, q2⟩ => ⟨q1, q2.symm⟩)))
            go_wp2
            exact ⟨⟨i + 1, x.1 + 1, by go_num, by omega, hL2, hP2, gdrewN (galloc hg _) _⟩, by simp [RowKit.intOf]; omega⟩
        · obtain rfl : i = d.length := by omega
          clear hL hlt hP hi
          have hrise := decs1_rise g4.out
          have hsyl : ∀ y ∈ d, syl y.1 = false := fun y hy => by
            have := (decs1_mem g4.out y hy).1
            simp only [cod1, Bool.and_eq_true, Bool.not_eq_true'] at this
            exact this.1.2
          have hDeep := fun (x : Dec) (hx : x ∈ d) (hs : stp d x.1 = some x) (hmx : mb d 4 x = true) W (hgW : w.grownBy W none) => refDeep_ok (.slice a d.length cp) d hsyl 4 x.1 W (Nat.le_refl _) (hTd.out.all hgW) (fun y hy => by rw [hs] at hy; cases hy; exact hmx)
          have hDeepB := fun (x : Dec) (hx : x ∈ d) (hs : stp d x.1 = some x) (hmx : mb d 4 x = false) W (hgW : w.grownBy W none) => refDeep_bad (.slice a d.length cp) d hsyl 4 x.1 x W (Nat.le_refl _) (hTd.out.all hgW) hs hmx
          have hStep := fun r W (hgW : w.grownBy W none) => refStep_any (.slice a d.length cp) d r W (hTd.out.all hgW)
          have hCl := fun r W (hgW : w.grownBy W none) => refClass_any (.slice ac c.length cc) c r W (hTc.out.all hgW)
          go_wp2
          go_loopw [132] (fun vi wr => ∃ (i : Nat), vi = .int .i64 (i : Int) ∧ i ≤ d.length ∧ Hid ((d.drop i).all (ok3 c d) = false) ∧ w.grownBy wr none) (fun vi _ => d.length - (RowKit.intOf vi).toNat)
          case atStart => exact ⟨0, rfl, Nat.zero_le _, Lib.hid g5.out, hg⟩
          case round =>
            clear hg
            obtain ⟨i, rfl, hi, hL, hg⟩ := hrel
            by_cases hlt : i < d.length
            · obtain ⟨x, hx⟩ : ∃ x, d[i] = x := ⟨_, rfl⟩
              have hmem : x ∈ d := hx ▸ List.getElem_mem hlt
              obtain ⟨b, off, rfl, c1, c2, c3⟩ := (hTd.out.all hg).get hlt
              rw [hx] at c1 c2 c3
              have hLo := hL.out
              rw [List.drop_eq_getElem_cons hlt, hx, List.all_cons] at hLo
              have hself := stp_self hrise hmem
              have hD' := hDeep x hmem hself
              have hDB := hDeepB x hmem hself
              have hval : dval d 4 x.1 = whl d 4 x := by unfold dval; rw [hself]
              rw [hval] at hD'
              have hN := D3.new wr x
              have ga := galloc hg (.cells #[.int .i32 x.1, .int .i32 x.2.1, .int .i32 x.2.2] 106)
              have k0 := hN.c0
              have k2 := hN.c2
              have hcell : ∀ W, (wr.alloc (.cells #[.int .i32 x.1, .int .i32 x.2.1, .int .i32 x.2.2] 106)).grownBy W none → W.cell? ⟨wr.heap.size, 0, none⟩ = some (.int .i32 x.1) ∧ W.cell? ⟨wr.heap.size, 2, none⟩ = some (.int .i32 x.2.2) := fun W h => ⟨(hN.kept h (by simp)).c0, (hN.kept h (by simp)).c2⟩
              replace hN := Lib.hid hN
              have hSt := fun W hgW => hStep x.2.2 W hgW
              have hC1 := hCl x.1
              have hHs := fun w h => refHangul_syl x.2.2 w h
              have hHn := fun w h => refHangul_none x.2.2 w h
              clear hDeep hDeepB hval hself hx hsyl hStep hL
              -- the second part
              have second : (x.2.2 = 0) ∨ (x.2.2 ≠ 0 ∧ ∃ y, stp d x.2.2 = some y) ∨ (x.2.2 ≠ 0 ∧ stp d x.2.2 = none ∧ syl x.2.2 = true) ∨ (x.2.2 ≠ 0 ∧ stp d x.2.2 = none ∧ syl x.2.2 = false) := by
                by_cases h0 : x.2.2 = 0
                · exact .inl h0
                · cases stp d x.2.2 with
                  | some y => exact .inr (.inl ⟨h0, y, rfl⟩)
                  | none =>
                    cases syl x.2.2 with
                    | true => exact .inr (.inr (.inl ⟨h0, rfl, rfl⟩))
                    | false => exact .inr (.inr (.inr ⟨h0, rfl, rfl⟩))
              have third : mb d 4 x = false ∨ (mb d 4 x = true ∧ ∃ h0 tl, whl d 4 x = h0 :: tl ∧ tl.length ≤ 10 ∧ (((clsOf c x.1 != 0) = true ∧ (clsOf c h0 == 0) = true) ∨ (begins c d x = true ∧ ((clsOf c x.1 != 0) = false ∨ ((clsOf c x.1 != 0) = true ∧ (clsOf c h0 == 0) = false))))) := by
                cases hmx : mb d 4 x with
                | false => exact .inl rfl
                | true =>
                  right
                  obtain ⟨h0, tl, htl⟩ := List.exists_cons_of_ne_nil (mb_whl (d := d) (n := 4) (x := x) hmx 0).2
                  refine ⟨rfl, h0, tl, htl, by have := whl_length d 4 x; rw [htl] at this; simp at this; omega, ?_⟩
                  unfold begins
                  rw [htl, List.headD_cons]
                  by_cases p1 : clsOf c x.1 = 0
                  · right; simp [p1]
                  · by_cases p2 : clsOf c h0 = 0
                    · left; simp [p1, p2]
                    · right; simp [p1, p2]

              rcases second with hb | ⟨hb, y, hs⟩ | ⟨hb, hs, hsB⟩ | ⟨hb, hs, hsB⟩
              · have hzb : (x.2.2 != 0) = false := by rw [hb]; rfl
                rw [ok3, show decide (x.2.2 = 0) = true by simpa using hb, Bool.true_or, Bool.true_and] at hLo
                replace hb := Lib.hid hb
                clear hSt hHs hHn
                rcases third with hm0 | ⟨hm0, h0, tl, htl, htll, ⟨hy1, hy2⟩ | ⟨hbg, hyb⟩⟩
                · have hDb := hDB hm0
                  clear hD' hDB hC1 hLo
                  go_wp2_with (first
                    | (go_at_call 83; refine (hDb _ ga).mono ?_; rintro e w2 ⟨v2, rfl, _, hg2⟩; have gd2 := ga.trans hg2))
                  go_ret
                  exact ⟨rfl, gd2⟩
                · have hD := hD' hm0
                  rw [htl] at hD
                  have hC2 := hCl h0
                  replace htl := Lib.hid htl
                  clear hD' hDB hLo hCl
                  go_wp2_with (first
                    | (go_at_call 83; refine (hD _ ga).mono ?_; rintro e w2 ⟨v2, rfl, ho2, hg2⟩; have gd2 := ga.trans hg2; obtain ⟨bb, cap, rfl, hcap, hmx, hhd⟩ := Rn.head (.inl ho2); unfold maxLen at hmx; obtain ⟨z0, z2⟩ := hcell _ hg2)
                    | (go_at_call_of 76 (Value.int IntKind.i32 x.1); refine (hC1 _ gd2).mono ?_; rintro e w3 ⟨rfl, hg3⟩; have gd3 := gd2.trans hg3; have hhd3 := hg3.cell hhd (by simp))
                    | (go_at_call_of 76 (Value.int IntKind.i32 h0); refine (hC2 _ gd3).mono ?_; rintro e w4 ⟨rfl, hg4⟩; have gd4 := gd3.trans hg4))
                  go_ret
                  exact ⟨rfl, gd4⟩
                · have hD := hD' hm0
                  rw [htl] at hD
                  have hC2 := hCl h0
                  replace htl := Lib.hid htl
                  rw [hm0, hbg, Bool.true_and, Bool.true_and] at hLo
                  replace hLo := Lib.hid hLo
                  have hL2 := hLo
                  clear hD' hDB hLo hCl hbg
                  rcases hyb with hy1 | ⟨hy1, hy2⟩
                  all_goals
                    go_wp2_with (first
                      | (go_at_call 83; refine (hD _ ga).mono ?_; rintro e w2 ⟨v2, rfl, ho2, hg2⟩; have gd2 := ga.trans hg2; obtain ⟨bb, cap, rfl, hcap, hmx, hhd⟩ := Rn.head (.inl ho2); unfold maxLen at hmx; obtain ⟨z0, z2⟩ := hcell _ hg2)
                      | (go_at_call_of 76 (Value.int IntKind.i32 x.1); refine (hC1 _ gd2).mono ?_; rintro e w3 ⟨rfl, hg3⟩; have gd3 := gd2.trans hg3; have hhd3 := hg3.cell hhd (by simp))
                      | (go_at_call_of 76 (Value.int IntKind.i32 h0); refine (hC2 _ gd3).mono ?_; rintro e w4 ⟨rfl, hg4⟩; have gd4 := gd3.trans hg4))
                  · exact ⟨⟨i + 1, by go_num, by omega, hL2, gd3⟩, by simp [RowKit.intOf]; omega⟩
                  · exact ⟨⟨i + 1, by go_num, by omega, hL2, gd4⟩, by simp [RowKit.intOf]; omega⟩
              · have hzb : (x.2.2 != 0) = true := by simpa using hb
                simp only [hs] at hSt
                replace hb := Lib.hid hb
                replace hs := Lib.hid hs
                clear third hHs hHn hD' hDB hC1 hCl hLo
                go_wp2_with (first
                  | (go_at_call 81; refine (hSt _ ga).mono ?_; rintro e w1 ⟨⟨h, _⟩ | ⟨j, y', hgy, h, rfl⟩, hg1⟩; cases h; have gd1 := ga.trans hg1; obtain ⟨y0, y2⟩ := hcell _ hg1))
                go_ret
                exact ⟨rfl, gd1⟩
              · have hzb : (x.2.2 != 0) = true := by simpa using hb
                simp only [hs] at hSt
                have hH := fun w => hHs w hsB
                replace hb := Lib.hid hb
                replace hs := Lib.hid hs
                have hp := hang_pos x.2.2
                generalize rCells (hang x.2.2) = xs at hH
                generalize (hang x.2.2).length = n at hH hp
                have dn : decide ((0 : Int) < (n : Int)) = true := by simpa using hp
                clear third hHs hHn hD' hDB hC1 hCl hLo hsB
                go_wp2_with (first
                  | (go_at_call 81; refine (hSt _ ga).mono ?_; rintro e w1 ⟨⟨_, rfl⟩ | ⟨j, y, _, h, _⟩, hg1⟩; rotate_left; cases h; have gd1 := ga.trans hg1; obtain ⟨y0, y2⟩ := hcell _ hg1)
                  | (go_at_call 82; refine (hH _).mono ?_; rintro e w2 ⟨v2, rfl, hown, hg2⟩; have gd2 := gd1.trans hg2; obtain ⟨q1, ⟨rfl, q2⟩ | ⟨g, cap, cur, rfl, q4, q5⟩⟩ := hown; first | (exfalso; omega) | skip))
                go_ret
                exact ⟨rfl, gd2⟩
              · have hzb : (x.2.2 != 0) = true := by simpa using hb
                have hH := fun w => hHn w hsB
                rw [ok3, show ((stp d x.2.2).isNone && !syl x.2.2) = true by rw [hs, hsB]; rfl, Bool.or_true, Bool.true_and] at hLo
                simp only [hs] at hSt
                replace hb := Lib.hid hb
                replace hs := Lib.hid hs
                clear hHs hHn hsB
                rcases third with hm0 | ⟨hm0, h0, tl, htl, htll, ⟨hy1, hy2⟩ | ⟨hbg, hyb⟩⟩
                · have hDb := hDB hm0
                  clear hD' hDB hC1 hLo
                  go_wp2_with (first
                    | (go_at_call 81; refine (hSt _ ga).mono ?_; rintro e w1 ⟨⟨_, rfl⟩ | ⟨j, y, _, h, _⟩, hg1⟩; rotate_left; cases h; have gd1 := ga.trans hg1; obtain ⟨y0, y2⟩ := hcell _ hg1)
                    | (go_at_call 82; refine (hH _).mono ?_; rintro e w1' ⟨rfl, rfl⟩)
                    | (go_at_call 83; refine (hDb _ gd1).mono ?_; rintro e w2 ⟨v2, rfl, _, hg2⟩; have gd2 := gd1.trans hg2))
                  go_ret
                  exact ⟨rfl, gd2⟩
                · have hD := hD' hm0
                  rw [htl] at hD
                  have hC2 := hCl h0
                  replace htl := Lib.hid htl
                  clear hD' hDB hLo hCl
                  go_wp2_with (first
                    | (go_at_call 81; refine (hSt _ ga).mono ?_; rintro e w1 ⟨⟨_, rfl⟩ | ⟨j, y, _, h, _⟩, hg1⟩; rotate_left; cases h; have gd1 := ga.trans hg1; obtain ⟨y0, y2⟩ := hcell _ hg1)
                    | (go_at_call 82; refine (hH _).mono ?_; rintro e w1' ⟨rfl, rfl⟩)
                    | (go_at_call 83; refine (hD _ gd1).mono ?_; rintro e w2 ⟨v2, rfl, ho2, hg2⟩; have gd2 := gd1.trans hg2; obtain ⟨bb, cap, rfl, hcap, hmx, hhd⟩ := Rn.head (.inl ho2); unfold maxLen at hmx; obtain ⟨z0, z2⟩ := hcell _ (hg1.trans hg2))
                    | (go_at_call_of 76 (Value.int IntKind.i32 x.1); refine (hC1 _ gd2).mono ?_; rintro e w3 ⟨rfl, hg3⟩; have gd3 := gd2.trans hg3; have hhd3 := hg3.cell hhd (by simp))
                    | (go_at_call_of 76 (Value.int IntKind.i32 h0); refine (hC2 _ gd3).mono ?_; rintro e w4 ⟨rfl, hg4⟩; have gd4 := gd3.trans hg4))
                  go_ret
                  exact ⟨rfl, gd4⟩
                · have hD := hD' hm0
                  rw [htl] at hD
                  have hC2 := hCl h0
                  replace htl := Lib.hid htl
                  rw [hm0, hbg, Bool.true_and, Bool.true_and] at hLo
                  replace hLo := Lib.hid hLo
                  have hL2 := hLo
                  clear hD' hDB hLo hCl hbg
                  rcases hyb with hy1 | ⟨hy1, hy2⟩
                  all_goals
                    go_wp2_with (first
                      | (go_at_call 81; refine (hSt _ ga).mono ?_; rintro e w1 ⟨⟨_, rfl⟩ | ⟨j, y, _, h, _⟩, hg1⟩; rotate_left; cases h; have gd1 := ga.trans hg1; obtain ⟨y0, y2⟩ := hcell _ hg1)
                      | (go_at_call 82; refine (hH _).mono ?_; rintro e w1' ⟨rfl, rfl⟩)
                      | (go_at_call 83; refine (hD _ gd1).mono ?_; rintro e w2 ⟨v2, rfl, ho2, hg2⟩; have gd2 := gd1.trans hg2; obtain ⟨bb, cap, rfl, hcap, hmx, hhd⟩ := Rn.head (.inl ho2); unfold maxLen at hmx; obtain ⟨z0, z2⟩ := hcell _ (hg1.trans hg2))
                      | (go_at_call_of 76 (Value.int IntKind.i32 x.1); refine (hC1 _ gd2).mono ?_; rintro e w3 ⟨rfl, hg3⟩; have gd3 := gd2.trans hg3; have hhd3 := hg3.cell hhd (by simp))
                      | (go_at_call_of 76 (Value.int IntKind.i32 h0); refine (hC2 _ gd3).mono ?_; rintro e w4 ⟨rfl, hg4⟩; have gd4 := gd3.trans hg4))
                  · exact ⟨⟨i + 1, by go_num, by omega, hL2, gd3⟩, by simp [RowKit.intOf]; omega⟩
                  · exact ⟨⟨i + 1, by go_num, by omega, hL2, gd4⟩, by simp [RowKit.intOf]; omega⟩
            · have hLo := hL.out
              rw [List.drop_eq_nil_of_le (by omega), List.all_nil] at hLo
              cases hLo
end Go.Proofs.YtpdacbiiaglodaaGreat
