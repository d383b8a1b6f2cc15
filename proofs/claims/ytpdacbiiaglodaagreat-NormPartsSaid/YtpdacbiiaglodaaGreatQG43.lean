/-
  LAYER 5 (norms): the reference's Check, of data whose decompositions may not be, each for itself.
-/
import Derived.Test.YtpdacbiiaglodaaGreatQG28
namespace Go.Proofs.YtpdacbiiaglodaaGreat
set_option maxRecDepth 100000
open Go.RowKit Go.Lib

/-- What Check's second loop asks. -/
def cod1 (x : Dec) : Bool := scal x.1 && scal x.2.1 && scal x.2.2 && !decide (x.2.1 = 0) && !syl x.1 && !jamo x.1
def decs1 : Int → List Dec → Bool
  | _, [] => true
  | L, x :: t => decide (L ≤ x.1) && cod1 x && decs1 (x.1 + 1) t

set_option maxHeartbeats 16000000 in
theorem refCheck_dec (vc vd : Value) (c : List Cls) (d : List Dec) (w : World) (hT : Dat w vc vd c d) (g1 : c.length ≤ 4000) (g2 : d.length ≤ 8000) (g3 : clsOk 0 c = true) (g4 : decs1 0 d = false) :
    Calls Tryz.prog 42 #[vc, vd] w fun e w' => e = .returned (.int .i64 52) ∧ w.grownBy w' none := by
  obtain ⟨hTc, hTd⟩ := hT
  obtain ⟨a, cp, rfl, hc, hm⟩ := hTd.form
  obtain ⟨ac, cc, rfl, hcc, hmc⟩ := hTc.form
  unfold maxLen at hm hmc
  have n1 : decide ((4000 : Int) < (c.length : Int)) = false := by simp; omega
  have n2 : decide ((8000 : Int) < (d.length : Int)) = false := by simp; omega
  replace hTc := Lib.hid hTc
  replace hTd := Lib.hid hTd
  replace g3 := Lib.hid g3
  replace g4 := Lib.hid g4
  go_enter Tryz.func42, Tryz.ntmps42
  go_wp2
  go_loopw [23] (fun vi wr => ∃ (i : Nat) (L : Int), vi = .int .i64 (i : Int) ∧ i ≤ c.length ∧ Hid (clsOk L (c.drop i) = true) ∧ Hid (0 < i → ∃ y, c[i - 1]? = some y ∧ L = y.2.1 + 1) ∧ w.grownBy wr none) (fun vi _ => c.length - (RowKit.intOf vi).toNat)
  case atStart => exact ⟨0, 0, rfl, Nat.zero_le _, Lib.hid g3.out, Lib.hid (fun h => absurd h (Nat.lt_irrefl 0)), World.grownBy.refl w none⟩
  case round =>
    obtain ⟨i, L, rfl, hi, hL, hP, hg⟩ := hrel
    by_cases hlt : i < c.length
    · obtain ⟨x, hx⟩ : ∃ x, c[i] = x := ⟨_, rfl⟩
      obtain ⟨b, off, rfl, c1, c2, c3⟩ := (hTc.out.all hg).get hlt
      rw [hx] at c1 c2 c3
      have hLo := hL.out
      rw [List.drop_eq_getElem_cons hlt, hx, clsOk, Bool.and_eq_true] at hLo
      have hL2 := Lib.hid hLo.2
      have h3 := hLo.1
      simp only [clOk, Bool.and_eq_true, decide_eq_true_eq] at h3
      obtain ⟨⟨⟨⟨⟨s1, s2⟩, s3⟩, s4⟩, s5⟩, s6⟩ := h3
      have S1 := fun w => scal_lecternref05.Scalar x.1 w
      have S2 := fun w => scal_lecternref05.Scalar x.2.1 w
      rw [s1] at S1
      rw [s2] at S2
      have e1 : decide (x.2.1 < x.1) = false := by simp; omega
      have e2 : decide (x.2.2 < 1) = false := by simp; omega
      have e3 : decide (254 < x.2.2) = false := by simp; omega
      have hN := C3.new wr x
      have k0 := hN.c0
      have k1 := hN.c1
      have k2 := hN.c2
      have hP2 : Hid (0 < i + 1 → ∃ y, c[i + 1 - 1]? = some y ∧ x.2.1 + 1 = y.2.1 + 1) := Lib.hid (fun _ => ⟨x, by simp [hx, List.getElem?_eq_getElem hlt], rfl⟩)
      by_cases hi0 : 0 < i
      · obtain ⟨y, hy, rfl⟩ := hP.out hi0
        have e4 : decide ((0 : Int) < (i : Int)) = true := by simpa using hi0
        have e5 : decide (x.1 ≤ y.2.1) = false := by simp; omega
        have hlt2 : i - 1 < c.length := by omega
        obtain ⟨b', off', hbb, _, z2, _⟩ := (hTc.out.all (hg.trans (World.grownBy_alloc wr (.cells #[.int .i32 x.1, .int .i32 x.2.1, .int .i64 x.2.2] 104) none))).get hlt2
        cases hbb
        have hy' : c[i - 1] = y := by
          rw [List.getElem?_eq_getElem hlt2] at hy
          exact Option.some.inj hy
        rw [hy'] at z2
        have hw1 : IntKind.i64.wrap ((i : Int) - 1) = ((i - 1 : Nat) : Int) := by rw [IntKind.wrap_i64]; omega
        clear hL hLo s1 s2 hx hy hy' hP
        go_wp2
        go_quiet (first
          | (go_at_call_of 79 (Value.int IntKind.i32 x.1); exact Calls.quiet_of_same ((S1 _).mono fun e w' ⟨q1, q2⟩ => ⟨q1, q2.symm⟩))
          | (go_at_call_of 79 (Value.int IntKind.i32 x.2.1); exact Calls.quiet_of_same ((S2 _).mono fun e w' ⟨q1, q2⟩ => ⟨q1, q2.symm⟩)))
        go_wp2
        exact ⟨⟨i + 1, x.2.1 + 1, by go_num, by omega, hL2, hP2, gdrewN (galloc hg _) _⟩, by simp [RowKit.intOf]; omega⟩
      · have e4 : decide ((0 : Int) < (i : Int)) = false := by simp; omega
        clear hL hLo s1 s2 hx hP
        go_wp2
        go_quiet (first
          | (go_at_call_of 79 (Value.int IntKind.i32 x.1); exact Calls.quiet_of_same ((S1 _).mono fun e w' ⟨q1, q2⟩ => ⟨q1, q2.symm⟩))
          | (go_at_call_of 79 (Value.int IntKind.i32 x.2.1); exact Calls.quiet_of_same ((S2 _).mono fun e w' ⟨q1, q2⟩ => ⟨q1, q2.symm⟩)))
        go_wp2
        exact ⟨⟨i + 1, x.2.1 + 1, by go_num, by omega, hL2, hP2, gdrewN (galloc hg _) _⟩, by simp [RowKit.intOf]; omega⟩
    · obtain rfl : i = c.length := by omega
      clear hL hlt hP hi
      go_wp2
      go_loopw [73] (fun vi wr => ∃ (i : Nat) (L : Int), vi = .int .i64 (i : Int) ∧ i ≤ d.length ∧ Hid (decs1 L (d.drop i) = false) ∧ Hid (0 < i → ∃ y, d[i - 1]? = some y ∧ L = y.1 + 1) ∧ Hid (i = 0 → L = 0) ∧ w.grownBy wr none) (fun vi _ => d.length - (RowKit.intOf vi).toNat)
      case atStart => exact ⟨0, 0, rfl, Nat.zero_le _, Lib.hid g4.out, Lib.hid (fun h => absurd h (Nat.lt_irrefl 0)), Lib.hid (fun _ => rfl), hg⟩
      case round =>
        clear hg
        obtain ⟨i, L, rfl, hi, hL, hP, hZ, hg⟩ := hrel
        by_cases hlt : i < d.length
        · obtain ⟨x, hx⟩ : ∃ x, d[i] = x := ⟨_, rfl⟩
          obtain ⟨b, off, rfl, c1, c2, c3⟩ := (hTd.out.all hg).get hlt
          rw [hx] at c1 c2 c3
          have hLo := hL.out
          rw [List.drop_eq_getElem_cons hlt, hx, decs1] at hLo
          have S1 := fun w => scal_lecternref05.Scalar x.1 w
          have S2 := fun w => scal_lecternref05.Scalar x.2.1 w
          have S3 := fun w => scal_lecternref05.Scalar x.2.2 w
          have S4 := fun w => jamo_lecternref05.told x.1 w
          have hN := D3.new wr x
          have k0 := hN.c0
          have k1 := hN.c1
          have k2 := hN.c2
          have hP2 : Hid (0 < i + 1 → ∃ y, d[i + 1 - 1]? = some y ∧ x.1 + 1 = y.1 + 1) := Lib.hid (fun _ => ⟨x, by simp [hx, List.getElem?_eq_getElem hlt], rfl⟩)
          have hZ2 : Hid (i + 1 = 0 → x.1 + 1 = 0) := Lib.hid (fun h => by omega)
          have prev : 0 < i → ∃ y : Dec, L = y.1 + 1 ∧ (wr.alloc (.cells #[.int .i32 x.1, .int .i32 x.2.1, .int .i32 x.2.2] 106)).cell? ⟨b, off + (i - 1) * 3, none⟩ = some (.int .i32 y.1) := by
            intro hi0
            obtain ⟨y, hy, e⟩ := hP.out hi0
            have hlt2 : i - 1 < d.length := by omega
            obtain ⟨b', off', hbb, z1, _, _⟩ := (hTd.out.all (hg.trans (World.grownBy_alloc wr (.cells #[.int .i32 x.1, .int .i32 x.2.1, .int .i32 x.2.2] 106) none))).get hlt2
            cases hbb
            rw [List.getElem?_eq_getElem hlt2] at hy
            rw [Option.some.inj hy] at z1
            exact ⟨y, e, z1⟩
          have hw1 : 0 < i → IntKind.i64.wrap ((i : Int) - 1) = ((i - 1 : Nat) : Int) := fun _ => by rw [IntKind.wrap_i64]; omega
          have hpos : scal x.1 = true → 0 ≤ x.1 := fun h => by simp [scal] at h; omega
          obtain ⟨b1, h1⟩ : ∃ b, b = scal x.1 := ⟨_, rfl⟩
          obtain ⟨b2, h2⟩ : ∃ b, b = scal x.2.1 := ⟨_, rfl⟩
          obtain ⟨b3, h3⟩ : ∃ b, b = scal x.2.2 := ⟨_, rfl⟩
          obtain ⟨b4, h4⟩ : ∃ b, b = (x.2.1 == 0) := ⟨_, rfl⟩
          obtain ⟨b7, h7⟩ : ∃ b, b = jamo x.1 := ⟨_, rfl⟩
          have hsy : (syl x.1 = false ∧ (decide (44032 ≤ x.1) = false ∨ (decide (44032 ≤ x.1) = true ∧ decide (x.1 ≤ 55203) = false))) ∨ (syl x.1 = true ∧ decide (44032 ≤ x.1) = true ∧ decide (x.1 ≤ 55203) = true) := by
            by_cases p1 : 44032 ≤ x.1
            · by_cases p2 : x.1 ≤ 55203
              · right; simp [syl, p1, p2]
              · left; exact ⟨by simp [syl]; omega, .inr ⟨by simpa using p1, by simpa using p2⟩⟩
            · left; exact ⟨by simp [syl]; omega, .inl (by simpa using p1)⟩
          rw [cod1, ← h1, ← h2, ← h3, ← h7, show decide (x.2.1 = 0) = b4 by rw [h4]; rfl] at hLo
          rw [← h1] at S1 hpos
          rw [← h2] at S2
          rw [← h3] at S3
          rw [← h7] at S4
          clear hL hx hP hN h1 h2 h3 h7
          have finish : ∀ (q : Bool), True := fun _ => trivial
          clear finish
          cases b1 with
          | false =>
            clear hpos prev hw1 hZ hZ2 hP2 hLo hsy h4
            go_wp2
            go_quiet (first
              | (go_at_call_of 79 (Value.int IntKind.i32 x.1); exact Calls.quiet_of_same ((S1 _).mono fun e w' ⟨q1, q2⟩ => ⟨q1, q2.symm⟩))
              | (go_at_call_of 79 (Value.int IntKind.i32 x.2.1); exact Calls.quiet_of_same ((S2 _).mono fun e w' ⟨q1, q2⟩ => ⟨q1, q2.symm⟩))
              | (go_at_call_of 79 (Value.int IntKind.i32 x.2.2); exact Calls.quiet_of_same ((S3 _).mono fun e w' ⟨q1, q2⟩ => ⟨q1, q2.symm⟩))
              | (go_at_call_of 80 (Value.int IntKind.i32 x.1); exact Calls.quiet_of_same ((S4 _).mono fun e w' ⟨q1, q2⟩ => ⟨q1, q2.symm⟩)))
            go_wp2
            go_ret
            exact ⟨rfl, gdrewN (galloc hg _) _⟩
          | true =>
          cases b2 with
          | false =>
            clear hpos prev hw1 hZ hZ2 hP2 hLo hsy h4
            go_wp2
            go_quiet (first
              | (go_at_call_of 79 (Value.int IntKind.i32 x.1); exact Calls.quiet_of_same ((S1 _).mono fun e w' ⟨q1, q2⟩ => ⟨q1, q2.symm⟩))
              | (go_at_call_of 79 (Value.int IntKind.i32 x.2.1); exact Calls.quiet_of_same ((S2 _).mono fun e w' ⟨q1, q2⟩ => ⟨q1, q2.symm⟩))
              | (go_at_call_of 79 (Value.int IntKind.i32 x.2.2); exact Calls.quiet_of_same ((S3 _).mono fun e w' ⟨q1, q2⟩ => ⟨q1, q2.symm⟩))
              | (go_at_call_of 80 (Value.int IntKind.i32 x.1); exact Calls.quiet_of_same ((S4 _).mono fun e w' ⟨q1, q2⟩ => ⟨q1, q2.symm⟩)))
            go_wp2
            go_ret
            exact ⟨rfl, gdrewN (galloc hg _) _⟩
          | true =>
          cases b3 with
          | false =>
            clear hpos prev hw1 hZ hZ2 hP2 hLo hsy h4
            go_wp2
            go_quiet (first
              | (go_at_call_of 79 (Value.int IntKind.i32 x.1); exact Calls.quiet_of_same ((S1 _).mono fun e w' ⟨q1, q2⟩ => ⟨q1, q2.symm⟩))
              | (go_at_call_of 79 (Value.int IntKind.i32 x.2.1); exact Calls.quiet_of_same ((S2 _).mono fun e w' ⟨q1, q2⟩ => ⟨q1, q2.symm⟩))
              | (go_at_call_of 79 (Value.int IntKind.i32 x.2.2); exact Calls.quiet_of_same ((S3 _).mono fun e w' ⟨q1, q2⟩ => ⟨q1, q2.symm⟩))
              | (go_at_call_of 80 (Value.int IntKind.i32 x.1); exact Calls.quiet_of_same ((S4 _).mono fun e w' ⟨q1, q2⟩ => ⟨q1, q2.symm⟩)))
            go_wp2
            go_ret
            exact ⟨rfl, gdrewN (galloc hg _) _⟩
          | true =>
          cases b4 with
          | true =>
            replace h4 := h4.symm
            clear hpos prev hw1 hZ hZ2 hP2 hLo hsy
            go_wp2
            go_quiet (first
              | (go_at_call_of 79 (Value.int IntKind.i32 x.1); exact Calls.quiet_of_same ((S1 _).mono fun e w' ⟨q1, q2⟩ => ⟨q1, q2.symm⟩))
              | (go_at_call_of 79 (Value.int IntKind.i32 x.2.1); exact Calls.quiet_of_same ((S2 _).mono fun e w' ⟨q1, q2⟩ => ⟨q1, q2.symm⟩))
              | (go_at_call_of 79 (Value.int IntKind.i32 x.2.2); exact Calls.quiet_of_same ((S3 _).mono fun e w' ⟨q1, q2⟩ => ⟨q1, q2.symm⟩))
              | (go_at_call_of 80 (Value.int IntKind.i32 x.1); exact Calls.quiet_of_same ((S4 _).mono fun e w' ⟨q1, q2⟩ => ⟨q1, q2.symm⟩)))
            go_wp2
            go_ret
            exact ⟨rfl, gdrewN (galloc hg _) _⟩
          | false =>
          replace h4 := h4.symm
          rcases hsy with ⟨hs0, hcase⟩ | ⟨hs0, e6, e7⟩
          rotate_left
          · clear hpos prev hw1 hZ hZ2 hP2 hLo hs0
            go_wp2
            go_quiet (first
              | (go_at_call_of 79 (Value.int IntKind.i32 x.1); exact Calls.quiet_of_same ((S1 _).mono fun e w' ⟨q1, q2⟩ => ⟨q1, q2.symm⟩))
              | (go_at_call_of 79 (Value.int IntKind.i32 x.2.1); exact Calls.quiet_of_same ((S2 _).mono fun e w' ⟨q1, q2⟩ => ⟨q1, q2.symm⟩))
              | (go_at_call_of 79 (Value.int IntKind.i32 x.2.2); exact Calls.quiet_of_same ((S3 _).mono fun e w' ⟨q1, q2⟩ => ⟨q1, q2.symm⟩))
              | (go_at_call_of 80 (Value.int IntKind.i32 x.1); exact Calls.quiet_of_same ((S4 _).mono fun e w' ⟨q1, q2⟩ => ⟨q1, q2.symm⟩)))
            go_wp2
            go_ret
            exact ⟨rfl, gdrewN (galloc hg _) _⟩
          rw [hs0] at hLo
          clear hs0
          cases b7 with
          | true =>
            clear hpos prev hw1 hZ hZ2 hP2 hLo
            rcases hcase with e6 | ⟨e6, e7⟩
            all_goals
              go_wp2
              go_quiet (first
                | (go_at_call_of 79 (Value.int IntKind.i32 x.1); exact Calls.quiet_of_same ((S1 _).mono fun e w' ⟨q1, q2⟩ => ⟨q1, q2.symm⟩))
                | (go_at_call_of 79 (Value.int IntKind.i32 x.2.1); exact Calls.quiet_of_same ((S2 _).mono fun e w' ⟨q1, q2⟩ => ⟨q1, q2.symm⟩))
                | (go_at_call_of 79 (Value.int IntKind.i32 x.2.2); exact Calls.quiet_of_same ((S3 _).mono fun e w' ⟨q1, q2⟩ => ⟨q1, q2.symm⟩))
                | (go_at_call_of 80 (Value.int IntKind.i32 x.1); exact Calls.quiet_of_same ((S4 _).mono fun e w' ⟨q1, q2⟩ => ⟨q1, q2.symm⟩)))
              go_wp2
              go_ret
              exact ⟨rfl, gdrewN (galloc hg _) _⟩
          | false =>
          by_cases q6 : x.1 < L
          · have hi0 : 0 < i := by
              rcases Nat.eq_zero_or_pos i with h | h
              · have := hZ.out h
                have := hpos rfl
                omega
              · exact h
            obtain ⟨y, rfl, z2⟩ := prev hi0
            have hw := hw1 hi0
            have e4 : decide ((0 : Int) < (i : Int)) = true := by simpa using hi0
            have e5 : decide (x.1 ≤ y.1) = true := by simp; omega
            clear hpos prev hw1 hZ hZ2 hP2 hLo q6
            rcases hcase with e6 | ⟨e6, e7⟩
            all_goals
              go_wp2
              go_quiet (first
                | (go_at_call_of 79 (Value.int IntKind.i32 x.1); exact Calls.quiet_of_same ((S1 _).mono fun e w' ⟨q1, q2⟩ => ⟨q1, q2.symm⟩))
                | (go_at_call_of 79 (Value.int IntKind.i32 x.2.1); exact Calls.quiet_of_same ((S2 _).mono fun e w' ⟨q1, q2⟩ => ⟨q1, q2.symm⟩))
                | (go_at_call_of 79 (Value.int IntKind.i32 x.2.2); exact Calls.quiet_of_same ((S3 _).mono fun e w' ⟨q1, q2⟩ => ⟨q1, q2.symm⟩))
                | (go_at_call_of 80 (Value.int IntKind.i32 x.1); exact Calls.quiet_of_same ((S4 _).mono fun e w' ⟨q1, q2⟩ => ⟨q1, q2.symm⟩)))
              go_wp2
              go_ret
              exact ⟨rfl, gdrewN (galloc hg _) _⟩
          · have hL2 : Hid (decs1 (x.1 + 1) (d.drop (i + 1)) = false) := Lib.hid (by
              have r3 : decide (L ≤ x.1) = true := by simp; omega
              simpa [r3] using hLo)
            clear hLo hpos hZ
            by_cases hi0 : 0 < i
            · obtain ⟨y, rfl, z2⟩ := prev hi0
              have hw := hw1 hi0
              have e4 : decide ((0 : Int) < (i : Int)) = true := by simpa using hi0
              have e5 : decide (x.1 ≤ y.1) = false := by simp; omega
              clear prev hw1 q6
              rcases hcase with e6 | ⟨e6, e7⟩
              all_goals
                go_wp2
                go_quiet (first
                  | (go_at_call_of 79 (Value.int IntKind.i32 x.1); exact Calls.quiet_of_same ((S1 _).mono fun e w' ⟨q1, q2⟩ => ⟨q1, q2.symm⟩))
                  | (go_at_call_of 79 (Value.int IntKind.i32 x.2.1); exact Calls.quiet_of_same ((S2 _).mono fun e w' ⟨q1, q2⟩ => ⟨q1, q2.symm⟩))
                  | (go_at_call_of 79 (Value.int IntKind.i32 x.2.2); exact Calls.quiet_of_same ((S3 _).mono fun e w' ⟨q1, q2⟩ => ⟨q1, q2.symm⟩))
                  | (go_at_call_of 80 (Value.int IntKind.i32 x.1); exact Calls.quiet_of_same ((S4 _).mono fun e w' ⟨q1, q2⟩ => ⟨q1, q2.symm⟩)))
                go_wp2
                exact ⟨⟨i + 1, x.1 + 1, by go_num, by omega, hL2, hP2, hZ2, gdrewN (galloc hg _) _⟩, by simp [RowKit.intOf]; omega⟩
            · have e4 : decide ((0 : Int) < (i : Int)) = false := by simp; omega
              clear prev hw1 q6
              rcases hcase with e6 | ⟨e6, e7⟩
              all_goals
                go_wp2
                go_quiet (first
                  | (go_at_call_of 79 (Value.int IntKind.i32 x.1); exact Calls.quiet_of_same ((S1 _).mono fun e w' ⟨q1, q2⟩ => ⟨q1, q2.symm⟩))
                  | (go_at_call_of 79 (Value.int IntKind.i32 x.2.1); exact Calls.quiet_of_same ((S2 _).mono fun e w' ⟨q1, q2⟩ => ⟨q1, q2.symm⟩))
                  | (go_at_call_of 79 (Value.int IntKind.i32 x.2.2); exact Calls.quiet_of_same ((S3 _).mono fun e w' ⟨q1, q2⟩ => ⟨q1, q2.symm⟩))
                  | (go_at_call_of 80 (Value.int IntKind.i32 x.1); exact Calls.quiet_of_same ((S4 _).mono fun e w' ⟨q1, q2⟩ => ⟨q1, q2.symm⟩)))
                go_wp2
                exact ⟨⟨i + 1, x.1 + 1, by go_num, by omega, hL2, hP2, hZ2, gdrewN (galloc hg _) _⟩, by simp [RowKit.intOf]; omega⟩
        · have hLo := hL.out
          rw [List.drop_eq_nil_of_le (by omega), decs1] at hLo
          cases hLo
end Go.Proofs.YtpdacbiiaglodaaGreat
