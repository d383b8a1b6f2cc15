/-
  LAYER 5 (norms): the reference's Check, of data that may not be: too long, or a class that may not be.
-/
import Derived.Test.YtpdacbiiaglodaaGreatQG28
namespace Go.Proofs.YtpdacbiiaglodaaGreat
set_option maxRecDepth 100000
open Go.RowKit Go.Lib

theorem refCheck_long (vc vd : Value) (c : List Cls) (d : List Dec) (w : World) (hT : Dat w vc vd c d) (h : 4000 < c.length ∨ 8000 < d.length) :
    Calls Tryz.prog 42 #[vc, vd] w fun e w' => e = .returned (.int .i64 2) ∧ w.grownBy w' none := by
  obtain ⟨hTc, hTd⟩ := hT
  obtain ⟨a, cp, rfl, hc, hm⟩ := hTd.form
  obtain ⟨ac, cc, rfl, hcc, hmc⟩ := hTc.form
  clear hTc hTd
  by_cases h1 : 4000 < c.length
  · have n1 : decide ((4000 : Int) < (c.length : Int)) = true := by simp; omega
    clear h h1
    go_enter Tryz.func42, Tryz.ntmps42
    go_wp2
    go_ret
    exact ⟨rfl, World.grownBy.refl w none⟩
  · have n1 : decide ((4000 : Int) < (c.length : Int)) = false := by simp; omega
    have n2 : decide ((8000 : Int) < (d.length : Int)) = true := by simp; omega
    clear h h1
    go_enter Tryz.func42, Tryz.ntmps42
    go_wp2
    go_ret
    exact ⟨rfl, World.grownBy.refl w none⟩

set_option maxHeartbeats 16000000 in
theorem refCheck_cls (vc vd : Value) (c : List Cls) (d : List Dec) (w : World) (hT : Dat w vc vd c d) (g1 : c.length ≤ 4000) (g2 : d.length ≤ 8000) (g3 : clsOk 0 c = false) :
    Calls Tryz.prog 42 #[vc, vd] w fun e w' => e = .returned (.int .i64 51) ∧ w.grownBy w' none := by
  obtain ⟨hTc, hTd⟩ := hT
  obtain ⟨a, cp, rfl, hc, hm⟩ := hTd.form
  obtain ⟨ac, cc, rfl, hcc, hmc⟩ := hTc.form
  unfold maxLen at hm hmc
  have n1 : decide ((4000 : Int) < (c.length : Int)) = false := by simp; omega
  have n2 : decide ((8000 : Int) < (d.length : Int)) = false := by simp; omega
  replace hTc := Lib.hid hTc
  replace g3 := Lib.hid g3
  clear hTd
  go_enter Tryz.func42, Tryz.ntmps42
  go_wp2
  go_loopw [23] (fun vi wr => ∃ (i : Nat) (L : Int), vi = .int .i64 (i : Int) ∧ i ≤ c.length ∧ Hid (clsOk L (c.drop i) = false) ∧ Hid (0 < i → ∃ y, c[i - 1]? = some y ∧ L = y.2.1 + 1) ∧ Hid (i = 0 → L = 0) ∧ w.grownBy wr none) (fun vi _ => c.length - (RowKit.intOf vi).toNat)
  case atStart => exact ⟨0, 0, rfl, Nat.zero_le _, Lib.hid g3.out, Lib.hid (fun h => absurd h (Nat.lt_irrefl 0)), Lib.hid (fun _ => rfl), World.grownBy.refl w none⟩
  case round =>
    obtain ⟨i, L, rfl, hi, hL, hP, hZ, hg⟩ := hrel
    by_cases hlt : i < c.length
    · obtain ⟨x, hx⟩ : ∃ x, c[i] = x := ⟨_, rfl⟩
      obtain ⟨b, off, rfl, c1, c2, c3⟩ := (hTc.out.all hg).get hlt
      rw [hx] at c1 c2 c3
      have hLo := hL.out
      rw [List.drop_eq_getElem_cons hlt, hx, clsOk] at hLo
      have S1 := fun w => scal_lecternref05.Scalar x.1 w
      have S2 := fun w => scal_lecternref05.Scalar x.2.1 w
      have hN := C3.new wr x
      have k0 := hN.c0
      have k1 := hN.c1
      have k2 := hN.c2
      have hP2 : Hid (0 < i + 1 → ∃ y, c[i + 1 - 1]? = some y ∧ x.2.1 + 1 = y.2.1 + 1) := Lib.hid (fun _ => ⟨x, by simp [hx, List.getElem?_eq_getElem hlt], rfl⟩)
      have hZ2 : Hid (i + 1 = 0 → x.2.1 + 1 = 0) := Lib.hid (fun h => by omega)
      have prev : 0 < i → ∃ y : Cls, L = y.2.1 + 1 ∧ (wr.alloc (.cells #[.int .i32 x.1, .int .i32 x.2.1, .int .i64 x.2.2] 104)).cell? ⟨b, off + (i - 1) * 3 + 1, none⟩ = some (.int .i32 y.2.1) := by
        intro hi0
        obtain ⟨y, hy, e⟩ := hP.out hi0
        have hlt2 : i - 1 < c.length := by omega
        obtain ⟨b', off', hbb, _, z2, _⟩ := (hTc.out.all (hg.trans (World.grownBy_alloc wr (.cells #[.int .i32 x.1, .int .i32 x.2.1, .int .i64 x.2.2] 104) none))).get hlt2
        cases hbb
        rw [List.getElem?_eq_getElem hlt2] at hy
        rw [Option.some.inj hy] at z2
        exact ⟨y, e, z2⟩
      have hw1 : 0 < i → IntKind.i64.wrap ((i : Int) - 1) = ((i - 1 : Nat) : Int) := fun _ => by rw [IntKind.wrap_i64]; omega
      -- what is found out, in its order
      have cases7 : (scal x.1 = false) ∨ (scal x.1 = true ∧ scal x.2.1 = false) ∨ (scal x.1 = true ∧ scal x.2.1 = true ∧ decide (x.2.1 < x.1) = true) ∨ (scal x.1 = true ∧ scal x.2.1 = true ∧ decide (x.2.1 < x.1) = false ∧ decide (x.2.2 < 1) = true) ∨ (scal x.1 = true ∧ scal x.2.1 = true ∧ decide (x.2.1 < x.1) = false ∧ decide (x.2.2 < 1) = false ∧ decide (254 < x.2.2) = true) ∨
          (scal x.1 = true ∧ scal x.2.1 = true ∧ decide (x.2.1 < x.1) = false ∧ decide (x.2.2 < 1) = false ∧ decide (254 < x.2.2) = false ∧ x.1 < L) ∨ (scal x.1 = true ∧ scal x.2.1 = true ∧ decide (x.2.1 < x.1) = false ∧ decide (x.2.2 < 1) = false ∧ decide (254 < x.2.2) = false ∧ L ≤ x.1 ∧ clsOk (x.2.1 + 1) (c.drop (i + 1)) = false) := by
        simp only [decide_eq_true_eq, decide_eq_false_iff_not]
        cases hs1 : scal x.1 with
        | false => left; rfl
        | true =>
          cases hs2 : scal x.2.1 with
          | false => right; left; exact ⟨rfl, rfl⟩
          | true =>
            rw [clOk, hs1, hs2] at hLo
            by_cases q3 : x.2.1 < x.1
            · right; right; left; exact ⟨rfl, rfl, q3⟩
            by_cases q4 : x.2.2 < 1
            · right; right; right; left; exact ⟨rfl, rfl, q3, q4⟩
            by_cases q5 : 254 < x.2.2
            · right; right; right; right; left; exact ⟨rfl, rfl, q3, q4, q5⟩
            by_cases q6 : x.1 < L
            · right; right; right; right; right; left; exact ⟨rfl, rfl, q3, q4, q5, q6⟩
            · right; right; right; right; right; right
              refine ⟨rfl, rfl, q3, q4, q5, by omega, ?_⟩
              have r3 : decide (L ≤ x.1) = true := by simp; omega
              have r4 : decide (x.1 ≤ x.2.1) = true := by simp; omega
              have r5 : decide (1 ≤ x.2.2) = true := by simp; omega
              have r6 : decide (x.2.2 ≤ 254) = true := by simp; omega
              simpa [r3, r4, r5, r6] using hLo
      clear hL hLo hx hP hN
      have hpos : scal x.1 = true → 0 ≤ x.1 := fun h => by simp [scal] at h; omega
      rcases cases7 with s1 | ⟨s1, s2⟩ | ⟨s1, s2, e1⟩ | ⟨s1, s2, e1, e2⟩ | ⟨s1, s2, e1, e2, e3⟩ | ⟨s1, s2, e1, e2, e3, s3⟩ | ⟨s1, s2, e1, e2, e3, s3, hL2⟩
      · rw [s1] at S1
        clear hpos prev hw1 hZ hZ2 hP2 s1
        go_wp2
        go_quiet (first
          | (go_at_call_of 79 (Value.int IntKind.i32 x.1); exact Calls.quiet_of_same ((S1 _).mono fun e w' ⟨q1, q2⟩ => ⟨q1, q2.symm⟩))
          | (go_at_call_of 79 (Value.int IntKind.i32 x.2.1); exact Calls.quiet_of_same ((S2 _).mono fun e w' ⟨q1, q2⟩ => ⟨q1, q2.symm⟩)))
        go_wp2
        go_ret
        exact ⟨rfl, gdrewN (galloc hg _) _⟩
      · rw [s1] at S1
        rw [s2] at S2
        clear hpos prev hw1 hZ hZ2 hP2 s1 s2
        go_wp2
        go_quiet (first
          | (go_at_call_of 79 (Value.int IntKind.i32 x.1); exact Calls.quiet_of_same ((S1 _).mono fun e w' ⟨q1, q2⟩ => ⟨q1, q2.symm⟩))
          | (go_at_call_of 79 (Value.int IntKind.i32 x.2.1); exact Calls.quiet_of_same ((S2 _).mono fun e w' ⟨q1, q2⟩ => ⟨q1, q2.symm⟩)))
        go_wp2
        go_ret
        exact ⟨rfl, gdrewN (galloc hg _) _⟩
      · rw [s1] at S1
        rw [s2] at S2
        clear hpos prev hw1 hZ hZ2 hP2 s1 s2
        go_wp2
        go_quiet (first
          | (go_at_call_of 79 (Value.int IntKind.i32 x.1); exact Calls.quiet_of_same ((S1 _).mono fun e w' ⟨q1, q2⟩ => ⟨q1, q2.symm⟩))
          | (go_at_call_of 79 (Value.int IntKind.i32 x.2.1); exact Calls.quiet_of_same ((S2 _).mono fun e w' ⟨q1, q2⟩ => ⟨q1, q2.symm⟩)))
        go_wp2
        go_ret
        exact ⟨rfl, gdrewN (galloc hg _) _⟩
      · rw [s1] at S1
        rw [s2] at S2
        clear hpos prev hw1 hZ hZ2 hP2 s1 s2
        go_wp2
        go_quiet (first
          | (go_at_call_of 79 (Value.int IntKind.i32 x.1); exact Calls.quiet_of_same ((S1 _).mono fun e w' ⟨q1, q2⟩ => ⟨q1, q2.symm⟩))
          | (go_at_call_of 79 (Value.int IntKind.i32 x.2.1); exact Calls.quiet_of_same ((S2 _).mono fun e w' ⟨q1, q2⟩ => ⟨q1, q2.symm⟩)))
        go_wp2
        go_ret
        exact ⟨rfl, gdrewN (galloc hg _) _⟩
      · rw [s1] at S1
        rw [s2] at S2
        clear hpos prev hw1 hZ hZ2 hP2 s1 s2
        go_wp2
        go_quiet (first
          | (go_at_call_of 79 (Value.int IntKind.i32 x.1); exact Calls.quiet_of_same ((S1 _).mono fun e w' ⟨q1, q2⟩ => ⟨q1, q2.symm⟩))
          | (go_at_call_of 79 (Value.int IntKind.i32 x.2.1); exact Calls.quiet_of_same ((S2 _).mono fun e w' ⟨q1, q2⟩ => ⟨q1, q2.symm⟩)))
        go_wp2
        go_ret
        exact ⟨rfl, gdrewN (galloc hg _) _⟩
      · rw [s1] at S1
        rw [s2] at S2
        have hi0 : 0 < i := by
          rcases Nat.eq_zero_or_pos i with h | h
          · have := hZ.out h
            have := hpos s1
            omega
          · exact h
        obtain ⟨y, rfl, z2⟩ := prev hi0
        have hw := hw1 hi0
        have e4 : decide ((0 : Int) < (i : Int)) = true := by simpa using hi0
        have e5 : decide (x.1 ≤ y.2.1) = true := by simp; omega
        clear hpos prev hw1 hZ hZ2 hP2 s1 s2 s3
        go_wp2
        go_quiet (first
          | (go_at_call_of 79 (Value.int IntKind.i32 x.1); exact Calls.quiet_of_same ((S1 _).mono fun e w' ⟨q1, q2⟩ => ⟨q1, q2.symm⟩))
          | (go_at_call_of 79 (Value.int IntKind.i32 x.2.1); exact Calls.quiet_of_same ((S2 _).mono fun e w' ⟨q1, q2⟩ => ⟨q1, q2.symm⟩)))
        go_wp2
        go_ret
        exact ⟨rfl, gdrewN (galloc hg _) _⟩
      · rw [s1] at S1
        rw [s2] at S2
        replace hL2 := Lib.hid hL2
        by_cases hi0 : 0 < i
        · obtain ⟨y, rfl, z2⟩ := prev hi0
          have hw := hw1 hi0
          have e4 : decide ((0 : Int) < (i : Int)) = true := by simpa using hi0
          have e5 : decide (x.1 ≤ y.2.1) = false := by simp; omega
          clear hpos prev hw1 hZ s1 s2 s3
          go_wp2
          go_quiet (first
            | (go_at_call_of 79 (Value.int IntKind.i32 x.1); exact Calls.quiet_of_same ((S1 _).mono fun e w' ⟨q1, q2⟩ => ⟨q1, q2.symm⟩))
            | (go_at_call_of 79 (Value.int IntKind.i32 x.2.1); exact Calls.quiet_of_same ((S2 _).mono fun e w' ⟨q1, q2⟩ => ⟨q1, q2.symm⟩)))
          go_wp2
          exact ⟨⟨i + 1, x.2.1 + 1, by go_num, by omega, hL2, hP2, hZ2, gdrewN (galloc hg _) _⟩, by simp [RowKit.intOf]; omega⟩
        · have e4 : decide ((0 : Int) < (i : Int)) = false := by simp; omega
          clear hpos prev hw1 hZ s1 s2 s3
          go_wp2
          go_quiet (first
            | (go_at_call_of 79 (Value.int IntKind.i32 x.1); exact Calls.quiet_of_same ((S1 _).mono fun e w' ⟨q1, q2⟩ => ⟨q1, q2.symm⟩))
            | (go_at_call_of 79 (Value.int IntKind.i32 x.2.1); exact Calls.quiet_of_same ((S2 _).mono fun e w' ⟨q1, q2⟩ => ⟨q1, q2.symm⟩)))
          go_wp2
          exact ⟨⟨i + 1, x.2.1 + 1, by go_num, by omega, hL2, hP2, hZ2, gdrewN (galloc hg _) _⟩, by simp [RowKit.intOf]; omega⟩
    · have hLo := hL.out
      rw [List.drop_eq_nil_of_le (by omega), clsOk] at hLo
      cases hLo
end Go.Proofs.YtpdacbiiaglodaaGreat
