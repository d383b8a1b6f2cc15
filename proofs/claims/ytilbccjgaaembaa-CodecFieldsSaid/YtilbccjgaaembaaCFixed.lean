/-
  LAYER 2 (codec): Fixed, nextFixed, ReadFixed, the reader's Fixed.
-/
import Derived.Test.YtilbccjgaaembaaCInt
namespace Go.Proofs.Ytilbccjgaaembaa
set_option maxRecDepth 100000
open Go.RowKit Go.Lib

set_option maxHeartbeats 1000000 in
theorem isWide_any (x : Int) (w : World) : Calls Try.prog 68 #[.int .i64 x] w fun e w' => e = .returned (.bool (decide (1 ≤ x ∧ x ≤ 8))) ∧ w = w' := by
  by_cases h1 : 1 ≤ x
  · by_cases h2 : x ≤ 8
    · rw [decide_eq_true ⟨h1, h2⟩]
      go_enter Try.func68, Try.ntmps68
      go_wp2
      go_ret
      exact ⟨rfl, rfl⟩
    · rw [decide_eq_false (by omega)]
      go_enter Try.func68, Try.ntmps68
      go_wp2
      go_ret
      exact ⟨rfl, rfl⟩
  · rw [decide_eq_false (by omega)]
    go_enter Try.func68, Try.ntmps68
    go_wp2
    go_ret
    exact ⟨rfl, rfl⟩

set_option maxHeartbeats 1000000 in
theorem nextFixed_range (r : Nat) (x : Int) (w : World) (hx : ¬ (1 ≤ x ∧ x ≤ 8)) :
    Calls Try.prog 76 #[.pointer (some ⟨r, 0, none⟩), .int .i64 x] w fun e w' => e = .panicked [{ v := .iface 131 (.int .i64 1), recovered := false }] ∧ w = w' := by
  have hw := isWide_any x
  rw [decide_eq_false hx] at hw
  go_enter Try.func76, Try.ntmps76
  go_wp2_with (go_at_call 68; refine (hw _).mono ?_; rintro e w' ⟨rfl, rfl⟩)
  exact ⟨rfl, rfl, rfl⟩

set_option maxHeartbeats 1000000 in
theorem nextFixed_short (r : Nat) (k : Nat) (a : Option Addr) (len cap : Nat) (pos : Nat) (er : Int) (w : World) (hk : 1 ≤ k ∧ k ≤ 8) (hR : Rd w r (.slice a len cap) pos er) (hp : pos ≤ len) (hlen : len ≤ maxLen) (hs : len < pos + k) :
    Calls Try.prog 76 #[.pointer (some ⟨r, 0, none⟩), .int .i64 (k : Int)] w fun e w' => e = .panicked [{ v := .iface 131 (.int .i64 20), recovered := false }] ∧ ∃ q, w' = w.drewN q := by
  have hw := isWide_any (k : Int)
  rw [decide_eq_true (by omega)] at hw
  go_enter Try.func76, Try.ntmps76
  go_wp2_with (first | (go_at_call 68; refine (hw _).mono ?_; rintro e w' ⟨rfl, rfl⟩) | (go_at_call 90; refine (next_short r k a len cap pos er w (by omega) hR hp hlen (by omega)).mono ?_; rintro e w' ⟨rfl, q, rfl⟩))
  exact ⟨rfl, rfl, q, rfl⟩

set_option maxHeartbeats 1000000 in
set_option maxRecDepth 20000 in
theorem nextFixed_ok (r : Nat) (k : Nat) (a : Option Addr) (len cap : Nat) (bs : List UInt8) (pos : Nat) (er : Int) (w : World) (hk : 1 ≤ k ∧ k ≤ 8) (hR : Rd w r (.slice a len cap) pos er) (hr : Reads w (.slice a len cap) bs) (hs : pos + k ≤ bs.length) :
    Calls Try.prog 76 #[.pointer (some ⟨r, 0, none⟩), .int .i64 (k : Int)] w fun e w' => e = .returned (.int .u64 ((leNat ((bs.drop pos).take k) : Nat) : Int)) ∧ w.grownBy w' (some r) ∧ Rd w' r (.slice a len cap) (pos + k) er := by
  have hw := isWide_any (k : Int)
  rw [decide_eq_true (by omega)] at hw
  have hl : ((bs.drop pos).take k).length = k := by simp; omega
  have hnext := next_ok r k a len cap bs pos er w hR hr hs
  generalize (bs.drop pos).take k = cs at hl hnext
  subst hl
  go_enter Try.func76, Try.ntmps76
  go_wp2_with (first | (go_at_call 68; refine (hw _).mono ?_; rintro e w' ⟨rfl, rfl⟩))
  refine hnext.mono ?_
  rintro e w1 ⟨v, rfl, hg1, hR1, hrv, -⟩
  rcases hrv with ⟨_, rfl⟩ | ⟨b, off, cp, rfl, h1, h2, hcell⟩
  · exfalso; simp at hk
  unfold maxLen at h2
  have hC := Lib.hid hcell
  clear hcell
  go_wp2
  go_loop [5, 16] (fun vn vi => ∃ i : Nat, i ≤ cs.length ∧ vi = .int .i64 (i : Int) ∧ vn = .int .u64 ((leNat (cs.take i) : Nat) : Int)) (fun _ vi => cs.length - (RowKit.intOf vi).toNat)
  case atStart => exact ⟨0, Nat.zero_le _, rfl, rfl⟩
  case round =>
    obtain ⟨i, hi, rfl, rfl⟩ := hrel
    by_cases hlt : i < cs.length
    · have hcell := hC.out i _ (List.getElem?_eq_getElem hlt)
      have hsn := leNat_snoc (cs.take i) cs[i]
      rw [← List.take_succ_eq_append_getElem hlt, List.length_take, Nat.min_eq_left (by omega)] at hsn
      have hlt2 := leNat_lt (cs.take i)
      rw [List.length_take, Nat.min_eq_left (by omega)] at hlt2
      have ho := or8 (by omega) hlt2 cs[i].toNat_lt
      have hO := Lib.hid ho
      have hS := Lib.hid hsn
      have hi8 : i ≤ 7 := by omega
      have hb := cs[i].toNat_lt
      generalize cs[i].toNat = c at hcell hO hS hb
      clear ho hsn hlt2
      go_wp2
      refine ⟨⟨i + 1, by omega, by go_num, ?_⟩, by simp [RowKit.intOf]; omega⟩
      rw [hS.out]
      have h := hO.out.1
      simp only [Int.natCast_pow, Int.cast_ofNat_Int] at h
      exact congrArg (Value.int .u64) h
    · have hi2 : i = cs.length := by omega
      subst hi2
      rw [List.take_length]
      go_wp2
      go_ret
      exact ⟨rfl, hg1, hR1⟩
end Go.Proofs.Ytilbccjgaaembaa
