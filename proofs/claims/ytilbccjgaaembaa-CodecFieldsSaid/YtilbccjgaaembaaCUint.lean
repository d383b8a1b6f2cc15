/-
  LAYER 2 (codec): nextUint.
-/
import Derived.Test.YtilbccjgaaembaaCPure
import Derived.Test.YtilbccjgaaembaaCLeaf
import Derived.Lib.VarintBits
namespace Go.Proofs.Ytilbccjgaaembaa
set_option maxRecDepth 100000
open Go.RowKit Go.Lib

set_option maxHeartbeats 1000000 in
set_option maxRecDepth 20000 in
theorem nextUint_ok (r : Nat) (a : Option Addr) (len cap : Nat) (bs : List UInt8) (pos : Nat) (er : Int) (n m : Nat) (w : World) (hR : Rd w r (.slice a len cap) pos er) (hr : Reads w (.slice a len cap) bs) (hs : pos ≤ bs.length) (hrd : rd 0 0 (bs.drop pos) = .ok (n, m)) :
    Calls Try.prog 72 #[.pointer (some ⟨r, 0, none⟩)] w fun e w' => e = .returned (.int .u64 (n : Int)) ∧ w.grownBy w' (some r) ∧ Rd w' r (.slice a len cap) (pos + m) er := by
  obtain ⟨rfl, hc, hm⟩ := hr.slice
  have hrd' := Lib.hid hrd; clear hrd
  go_enter Try.func72, Try.ntmps72
  go_wp2
  go_loopw [3, 4] (fun vn vi wr => ∃ i acc : Nat, vi = .int .i64 (i : Int) ∧ vn = .int .u64 (acc : Int) ∧ i ≤ 9 ∧ acc < 2 ^ (7 * i) ∧ Hid (rd i acc (bs.drop (pos + i)) = .ok (n, m)) ∧ pos + i ≤ bs.length ∧ w.grownBy wr (some r) ∧ Rd wr r (.slice a bs.length cap) (pos + i) er ∧ Reads wr (.slice a bs.length cap) bs) (fun _ vi _ => 10 - (intOf vi).toNat)
  case atStart => exact ⟨0, 0, rfl, rfl, by omega, by decide, hrd', by omega, World.grownBy.refl _ _, hR, hr⟩
  case round =>
    obtain ⟨i, acc, rfl, rfl, hi, hacc, hrd, hle, hg, hR1, hr1⟩ := hrel
    have hrd1 := hrd.out; clear hrd
    by_cases hlt : pos + i < bs.length
    · have hdrop : bs.drop (pos + i) = bs[pos + i] :: bs.drop (pos + i + 1) := List.drop_eq_getElem_cons (by omega)
      rw [hdrop] at hrd1
      have hnext := next_ok r 1 a bs.length cap bs (pos + i) er wr hR1 hr1 (by omega)
      rw [hdrop] at hnext
      generalize bs[pos + i] = c at hrd1 hnext
      simp only [List.take_succ_cons, List.take_zero] at hnext
      clear hdrop
      have hb := c.toNat_lt
      by_cases hbad : (i = 9 ∧ 1 < c.toNat) ∨ (0 < i ∧ c.toNat = 0)
      · rw [rd, if_pos hbad] at hrd1; cases hrd1
      · rw [rd, if_neg hbad] at hrd1
        have hA := Lib.hid hacc
        have hH := hrd1
        clear hrd1
        have hHid := Lib.hid hH; clear hH
        have hBad := Lib.hid hbad
        by_cases hi9 : i = 9
        · subst hi9
          have hc1 : c.toNat ≤ 1 := by omega
          have hz : ((c.toNat : Int) == 0) = false := by rw [beq_eq_false_iff_ne]; omega
          clear hbad hacc
          go_wp2_with (go_at_call 90; refine hnext.mono ?_; rintro e w1 ⟨v, rfl, hg1, hR2, hrv, -⟩)
          obtain ⟨b, off, cap', rfl, hcell⟩ := hrv.one
          go_wp2
          go_simp
          go_wp2
          have hH := hHid.out
          rw [if_pos (by omega)] at hH
          have hv := orv (c := c.toNat) (P := 9223372036854775808) (by decide) hi hA.out hb (by omega)
          rw [Nat.mod_eq_of_lt (show c.toNat < 128 by omega)] at hv
          simp only [Except.ok.injEq, Prod.mk.injEq] at hH
          obtain ⟨rfl, rfl⟩ := hH
          go_ret
          exact ⟨congrArg (fun x => Ending.returned (Value.int .u64 x)) hv, hg.trans hg1, hR2⟩
        · by_cases hi0 : i = 0
          · subst hi0
            clear hbad hacc
            go_wp2_with (go_at_call 90; refine hnext.mono ?_; rintro e w1 ⟨v, rfl, hg1, hR2, hrv, -⟩)
            obtain ⟨b, off, cap', rfl, hcell⟩ := hrv.one
            go_wp2
            go_simp
            go_wp2
            all_goals
              have hv := orv (c := c.toNat) (P := 1) (by decide) hi hA.out hb (by omega)
              rw [Int.mul_one] at hv
              have hH := hHid.out
            · have hlt : (c.toNat : Int) < 128 := by assumption
              rw [if_pos (by omega)] at hH
              rw [Nat.mod_eq_of_lt (show c.toNat < 128 by omega)] at hv
              simp only [Except.ok.injEq, Prod.mk.injEq] at hH
              obtain ⟨rfl, rfl⟩ := hH
              go_ret
              exact ⟨congrArg (fun x => Ending.returned (Value.int .u64 x)) hv, hg.trans hg1, hR2⟩
            · have hlt : 128 ≤ (c.toNat : Int) := by assumption
              rw [if_neg (by omega)] at hH
              exact ⟨⟨1, _, rfl, congrArg (Value.int .u64) hv, by omega, (rd_fits hi hA.out (Nat.mod_lt _ (by decide)) (by omega)).2 (by omega), hH, by omega, hg.trans hg1, hR2, hR1.carry hr1 hg1⟩, by simp [intOf]⟩
          · have hi8 : i ≤ 8 := by omega
            have hn9 : ((i : Int) == 9) = false := by rw [beq_eq_false_iff_ne]; omega
            have hi1 : 1 ≤ i := by omega
            have hz : ((c.toNat : Int) == 0) = false := by rw [beq_eq_false_iff_ne]; omega
            clear hacc hbad hi9 hi0
            go_wp2_with (go_at_call 90; refine hnext.mono ?_; rintro e w1 ⟨v, rfl, hg1, hR2, hrv, -⟩)
            obtain ⟨b, off, cap', rfl, hcell⟩ := hrv.one
            go_wp2
            go_simp
            go_wp2
            all_goals
              have hv := orv (c := c.toNat) (P := 2 ^ (7 * i)) (by simp) hi hA.out hb (by omega)
              have hH := hHid.out
            · have hlt : (c.toNat : Int) < 128 := by assumption
              rw [if_pos (by omega)] at hH
              rw [Nat.mod_eq_of_lt (show c.toNat < 128 by omega)] at hv
              simp only [Except.ok.injEq, Prod.mk.injEq] at hH
              obtain ⟨rfl, rfl⟩ := hH
              go_ret
              exact ⟨congrArg (fun x => Ending.returned (Value.int .u64 x)) hv, hg.trans hg1, hR2⟩
            · have hlt : 128 ≤ (c.toNat : Int) := by assumption
              rw [if_neg (by omega)] at hH
              exact ⟨⟨i + 1, _, by go_num, congrArg (Value.int .u64) hv, by omega, (rd_fits hi hA.out (Nat.mod_lt _ (by decide)) (by omega)).2 (by omega), hH, by omega, hg.trans hg1, hR2, hR1.carry hr1 hg1⟩, by simp [intOf]; omega⟩
    · rw [List.drop_eq_nil_of_le (by omega), rd] at hrd1
      cases hrd1

set_option maxHeartbeats 1000000 in
set_option maxRecDepth 20000 in
theorem nextUint_bad (r : Nat) (a : Option Addr) (len cap : Nat) (bs : List UInt8) (pos : Nat) (er : Int) (x : Int) (w : World) (hR : Rd w r (.slice a len cap) pos er) (hr : Reads w (.slice a len cap) bs) (hs : pos ≤ bs.length) (hrd : rd 0 0 (bs.drop pos) = .error x) :
    Calls Try.prog 72 #[.pointer (some ⟨r, 0, none⟩)] w fun e w' => ∃ p, e = .panicked [{ v := .iface 131 (.int .i64 x), recovered := false }] ∧ w.grownBy w' (some r) ∧ Rd w' r (.slice a len cap) p er := by
  obtain ⟨rfl, hc, hm⟩ := hr.slice
  have hrd' := Lib.hid hrd; clear hrd
  go_enter Try.func72, Try.ntmps72
  go_wp2
  go_loopw [3, 4] (fun vn vi wr => ∃ i acc : Nat, vi = .int .i64 (i : Int) ∧ vn = .int .u64 (acc : Int) ∧ i ≤ 9 ∧ acc < 2 ^ (7 * i) ∧ Hid (rd i acc (bs.drop (pos + i)) = .error x) ∧ pos + i ≤ bs.length ∧ w.grownBy wr (some r) ∧ Rd wr r (.slice a bs.length cap) (pos + i) er ∧ Reads wr (.slice a bs.length cap) bs) (fun _ vi _ => 10 - (intOf vi).toNat)
  case atStart => exact ⟨0, 0, rfl, rfl, by omega, by decide, hrd', by omega, World.grownBy.refl _ _, hR, hr⟩
  case round =>
    obtain ⟨i, acc, rfl, rfl, hi, hacc, hrd, hle, hg, hR1, hr1⟩ := hrel
    have hrd1 := hrd.out; clear hrd
    by_cases hlt : pos + i < bs.length
    · have hdrop : bs.drop (pos + i) = bs[pos + i] :: bs.drop (pos + i + 1) := List.drop_eq_getElem_cons (by omega)
      rw [hdrop] at hrd1
      have hnext := next_ok r 1 a bs.length cap bs (pos + i) er wr hR1 hr1 (by omega)
      rw [hdrop] at hnext
      generalize bs[pos + i] = c at hrd1 hnext
      simp only [List.take_succ_cons, List.take_zero] at hnext
      clear hdrop
      have hb := c.toNat_lt
      by_cases hbad : (i = 9 ∧ 1 < c.toNat) ∨ (0 < i ∧ c.toNat = 0)
      · rw [rd, if_pos hbad] at hrd1
        simp only [Except.error.injEq] at hrd1
        subst hrd1
        by_cases h9 : i = 9 ∧ 1 < c.toNat
        · obtain ⟨rfl, h1⟩ := h9
          have h1' : 1 < (c.toNat : Int) := by omega
          clear hbad hacc
          go_wp2_with (go_at_call 90; refine hnext.mono ?_; rintro e w1 ⟨v, rfl, hg1, hR2, hrv, -⟩)
          obtain ⟨b, off, cap', rfl, hcell⟩ := hrv.one
          go_wp2
          go_simp
          go_wp2
          exact ⟨rfl, _, rfl, hg.trans hg1, hR2⟩
        · have h0 : 0 < i ∧ c.toNat = 0 := by omega
          obtain ⟨hi1, h0⟩ := h0
          have hi1' : (0 : Int) < (i : Int) := by omega
          have hz : ((c.toNat : Int) == 0) = true := by rw [beq_iff_eq]; omega
          have hz1 : decide (1 < (c.toNat : Int)) = false := by rw [decide_eq_false_iff_not]; omega
          clear hbad hacc h9
          have h0' := Lib.hid h0
          clear h0
          go_wp2_with (go_at_call 90; refine hnext.mono ?_; rintro e w1 ⟨v, rfl, hg1, hR2, hrv, -⟩)
          obtain ⟨b, off, cap', rfl, hcell⟩ := hrv.one
          go_wp2
          go_simp
          go_wp2
          all_goals first | exact ⟨rfl, _, rfl, hg.trans hg1, hR2⟩ | (exfalso; have := h0'.out; simp_all; done)
      · rw [rd, if_neg hbad] at hrd1
        have hA := Lib.hid hacc
        have hH := hrd1
        clear hrd1
        have hHid := Lib.hid hH
        have hBad := Lib.hid hbad
        have h128 : ¬ c.toNat < 128 := fun hx => by rw [if_pos hx] at hH; cases hH
        have h128' : 128 ≤ (c.toNat : Int) := by omega
        clear hH
        have hi8 : i ≤ 8 := by omega
        by_cases hi0 : i = 0
        · subst hi0
          clear hbad hacc h128
          go_wp2_with (go_at_call 90; refine hnext.mono ?_; rintro e w1 ⟨v, rfl, hg1, hR2, hrv, -⟩)
          obtain ⟨b, off, cap', rfl, hcell⟩ := hrv.one
          go_wp2
          go_simp
          go_wp2
          have hv := orv (c := c.toNat) (P := 1) (by decide) hi hA.out hb (by omega)
          rw [Int.mul_one] at hv
          have hH := hHid.out
          rw [if_neg (by omega)] at hH
          exact ⟨⟨1, _, rfl, congrArg (Value.int .u64) hv, by omega, (rd_fits hi hA.out (Nat.mod_lt _ (by decide)) (by omega)).2 (by omega), hH, by omega, hg.trans hg1, hR2, hR1.carry hr1 hg1⟩, by simp [intOf]⟩
        · have hn9 : ((i : Int) == 9) = false := by rw [beq_eq_false_iff_ne]; omega
          have hi1 : 1 ≤ i := by omega
          have hz : ((c.toNat : Int) == 0) = false := by rw [beq_eq_false_iff_ne]; omega
          clear hacc hbad hi0 h128
          go_wp2_with (go_at_call 90; refine hnext.mono ?_; rintro e w1 ⟨v, rfl, hg1, hR2, hrv, -⟩)
          obtain ⟨b, off, cap', rfl, hcell⟩ := hrv.one
          go_wp2
          go_simp
          go_wp2
          have hv := orv (c := c.toNat) (P := 2 ^ (7 * i)) (by simp) hi hA.out hb (by omega)
          have hH := hHid.out
          rw [if_neg (by omega)] at hH
          exact ⟨⟨i + 1, _, by go_num, congrArg (Value.int .u64) hv, by omega, (rd_fits hi hA.out (Nat.mod_lt _ (by decide)) (by omega)).2 (by omega), hH, by omega, hg.trans hg1, hR2, hR1.carry hr1 hg1⟩, by simp [intOf]; omega⟩
    · rw [List.drop_eq_nil_of_le (by omega), rd] at hrd1
      simp only [Except.error.injEq] at hrd1
      subst hrd1
      clear hacc
      go_wp2_with (go_at_call 90; refine (next_short r 1 a bs.length cap (pos + i) er wr (by omega) hR1 hle (by omega) (by omega)).mono ?_; rintro e w1 ⟨rfl, k, rfl⟩)
      go_wp2
      exact ⟨rfl, _, rfl, gdrewN hg _, hR1.drewN _⟩
end Go.Proofs.Ytilbccjgaaembaa
