/-
  LAYER 2 (codec): CodecShort: of two numbers the varint of the lesser one is not longer, and none is longer than it must be.
-/
import Derived.Test.YtmpeodjpaihndaaCShort
namespace Go.Proofs.Ytmpeodjpaihndaa
open Go.RowKit Go.Lib

set_option maxHeartbeats 2000000 in
set_option maxRecDepth 100000 in
theorem short_le (a b : Nat) (ha : a < 18446744073709551616) (hb : b < 18446744073709551616) (hab : a ≤ b) (w : World) :
    Calls Try.prog 8 #[.int .u64 (a : Int), .int .u64 (b : Int)] w fun e w' => e = .returned (.bool true) ∧ Below w.heap.size w w' := by
  have hm := ulen_mono b a (by omega)
  have hu := ulen_le (x := b) (by omega)
  go_enter Try.func8, Try.ntmps8
  go_wp2_with (go_at_call 9; refine (awake_any _).mono ?_; rintro e w1 ⟨rfl, hg1⟩)
  refine (Uint_any a (by omega) w1).mono ?_
  rintro e w2 ⟨v2, rfl, ho2, hg2⟩
  obtain ⟨a2, c2, rfl⟩ := ho2.reads.form
  go_wp2_with fail
  refine (Uint_any b (by omega) w2).mono ?_
  rintro e w3 ⟨v3, rfl, ho3, hg3⟩
  obtain ⟨a3, c3, rfl⟩ := ho3.reads.form
  have hB : Below w.heap.size w w3 := gbelow ((hg1.trans hg2).trans hg3) (Nat.le_refl _) (by simp)
  go_wp2
  go_loopw [7, 8] (fun vn vc wr => ∃ n c : Nat, vn = .int .i64 (n : Int) ∧ vc = .int .u64 (c : Int) ∧ c ≤ b ∧ 1 ≤ n ∧ n ≤ 10 ∧ Hid (ulen b + 1 = n + ulen c) ∧ w3 = wr) (fun _ vc _ => (RowKit.intOf vc).toNat)
  case atStart => exact ⟨1, b, rfl, rfl, Nat.le_refl _, by omega, by omega, Nat.add_comm _ _, by first | rfl | trivial⟩
  case round =>
    obtain ⟨n, c, rfl, rfl, hc, hn1, hn, hH, rfl⟩ := hrel
    by_cases h128 : 128 ≤ c
    · have h1 := hH.out
      have h2 := ulen_big h128
      have h3 := ulen_pos (c / 128)
      have hn9 : n ≤ 9 := by omega
      have hN : Hid (ulen b + 1 = (n + 1) + ulen (c / 128)) := by show _ = _; omega
      clear h1 h2 h3
      go_wp2
      exact ⟨⟨n + 1, c / 128, by go_num, by go_num, by omega, by omega, by omega, hN, by first | rfl | trivial⟩, by simp [RowKit.intOf]; omega⟩
    · have h1 := hH.out
      rw [ulen_small (x := c) (by omega)] at h1
      have hlen : (Lib.uvarint b).length = n := by unfold ulen at h1; omega
      have hle : (Lib.uvarint a).length ≤ (Lib.uvarint b).length := hm
      have hq : (((Lib.uvarint b).length : Int) == (n : Int)) = true := by rw [beq_iff_eq]; omega
      clear h1 hlen hm hu
      go_wp2
      go_ret
      exact ⟨rfl, hB⟩
set_option maxHeartbeats 2000000 in
set_option maxRecDepth 100000 in
theorem short_gt (a b : Nat) (ha : a < 18446744073709551616) (hb : b < 18446744073709551616) (hab : b < a) (w : World) :
    Calls Try.prog 8 #[.int .u64 (a : Int), .int .u64 (b : Int)] w fun e w' => e = .returned (.bool true) ∧ Below w.heap.size w w' := by
  have hm := ulen_mono a b (by omega)
  have hu := ulen_le (x := a) (by omega)
  go_enter Try.func8, Try.ntmps8
  go_wp2_with (go_at_call 9; refine (awake_any _).mono ?_; rintro e w1 ⟨rfl, hg1⟩)
  refine (Uint_any b (by omega) w1).mono ?_
  rintro e w2 ⟨v2, rfl, ho2, hg2⟩
  obtain ⟨a2, c2, rfl⟩ := ho2.reads.form
  go_wp2_with fail
  refine (Uint_any a (by omega) w2).mono ?_
  rintro e w3 ⟨v3, rfl, ho3, hg3⟩
  obtain ⟨a3, c3, rfl⟩ := ho3.reads.form
  have hB : Below w.heap.size w w3 := gbelow ((hg1.trans hg2).trans hg3) (Nat.le_refl _) (by simp)
  go_wp2
  go_loopw [7, 8] (fun vn vc wr => ∃ n c : Nat, vn = .int .i64 (n : Int) ∧ vc = .int .u64 (c : Int) ∧ c ≤ a ∧ 1 ≤ n ∧ n ≤ 10 ∧ Hid (ulen a + 1 = n + ulen c) ∧ w3 = wr) (fun _ vc _ => (RowKit.intOf vc).toNat)
  case atStart => exact ⟨1, a, rfl, rfl, Nat.le_refl _, by omega, by omega, Nat.add_comm _ _, by first | rfl | trivial⟩
  case round =>
    obtain ⟨n, c, rfl, rfl, hc, hn1, hn, hH, rfl⟩ := hrel
    by_cases h128 : 128 ≤ c
    · have h1 := hH.out
      have h2 := ulen_big h128
      have h3 := ulen_pos (c / 128)
      have hn9 : n ≤ 9 := by omega
      have hN : Hid (ulen a + 1 = (n + 1) + ulen (c / 128)) := by show _ = _; omega
      clear h1 h2 h3
      go_wp2
      exact ⟨⟨n + 1, c / 128, by go_num, by go_num, by omega, by omega, by omega, hN, by first | rfl | trivial⟩, by simp [RowKit.intOf]; omega⟩
    · have h1 := hH.out
      rw [ulen_small (x := c) (by omega)] at h1
      have hlen : (Lib.uvarint a).length = n := by unfold ulen at h1; omega
      have hle : (Lib.uvarint b).length ≤ (Lib.uvarint a).length := hm
      have hq : (((Lib.uvarint a).length : Int) == (n : Int)) = true := by rw [beq_iff_eq]; omega
      clear h1 hlen hm hu
      go_wp2
      go_ret
      exact ⟨rfl, hB⟩
end Go.Proofs.Ytmpeodjpaihndaa
