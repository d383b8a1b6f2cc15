/-
  LAYER 2 (codec): the reference's readers.
-/
import Derived.Test.YtilbccjgaaembaaCStr
import Derived.Test.YtilbccjgaaembaaCFixR
namespace Go.Proofs.Ytilbccjgaaembaa
set_option maxRecDepth 100000
open Go.RowKit Go.Lib

def uOf : Except Int (Nat × Nat) → Nat × Nat × Int
  | .ok (n, m) => (n, m, 0)
  | .error x => (0, 0, x)
theorem orw {i acc c : Nat} (hi : i ≤ 9) (hacc : acc < 2 ^ (7 * i)) (h9 : i = 9 → c % 128 ≤ 1) :
    bits .or .u64 (acc : Int) (IntKind.u64.wrap ((c : Int) % 128 * 2 ^ (7 * i))) = ((acc + c % 128 * 2 ^ (7 * i) : Nat) : Int) := by
  have hf := (rd_fits hi hacc (Nat.mod_lt c (by decide)) h9).1
  have e0 : (c : Int) % 128 * 2 ^ (7 * i) = ((c % 128 * 2 ^ (7 * i) : Nat) : Int) := by simp
  rw [e0, u64_wrap_id ((c % 128 * 2 ^ (7 * i) : Nat) : Int) (by omega) (by omega)]
  have hacc' : ((acc : Nat) : Int) < 2 ^ (7 * i) := by exact_mod_cast hacc
  have := bits_join_low .u64 64 (by decide) wraps_u64 (7 * i) (acc : Int) ((c % 128 * 2 ^ (7 * i) : Nat) : Int) (by omega) hacc' (by omega) (by omega) (by
    rw [show ((2 : Int) ^ (7 * i)) = ((2 ^ (7 * i) : Nat) : Int) from by simp, ← Int.natCast_emod, Nat.mul_mod_left]; rfl) (by omega)
  rw [this]
  omega
theorem Reads.at {w : World} {a : Option Addr} {l c : Nat} {bs : List UInt8} (h : Reads w (.slice a l c) bs) {i : Nat} (hi : i < bs.length) : ∃ b off, a = some ⟨b, off, none⟩ ∧ w.cell? ⟨b, off + i, none⟩ = some (.int .u8 (bs[i].toNat : Int)) := by
  rcases h with ⟨_, rfl⟩ | ⟨b, off, cap, hv, _, _, hc⟩
  · simp at hi
  · simp only [Value.slice.injEq] at hv
    exact ⟨b, off, hv.1, hc i _ (List.getElem?_eq_getElem hi)⟩
theorem uRes_eq (bs : List UInt8) : uRes bs = uOf (rd 0 0 bs) := by unfold uRes uOf; rfl

set_option maxHeartbeats 1000000 in
set_option maxRecDepth 20000 in
theorem refReadUint_any (a : Option Addr) (l c : Nat) (bs : List UInt8) (n m : Nat) (x : Int) (w : World) (hr : Reads w (.slice a l c) bs) (h : uRes bs = (n, m, x)) :
    Calls Try.prog 22 #[.slice a l c] w fun e w' => e = .returned (.tuple #[.int .u64 (n : Int), .int .i64 (m : Int), .int .i64 x]) ∧ w = w' := by
  obtain ⟨rfl, hc, hm⟩ := hr.slice
  rw [uRes_eq] at h
  have hH := Lib.hid h
  clear h
  go_enter Try.func22, Try.ntmps22
  go_wp2
  go_loopw [5, 6] (fun vn vi wr => ∃ i acc : Nat, vi = .int .i64 (i : Int) ∧ vn = .int .u64 (acc : Int) ∧ i ≤ 9 ∧ Hid (acc < 2 ^ (7 * i)) ∧ Hid (uOf (rd i acc (bs.drop i)) = (n, m, x)) ∧ i ≤ bs.length ∧ w = wr) (fun _ vi _ => 10 - (RowKit.intOf vi).toNat)
  case atStart => exact ⟨0, 0, rfl, rfl, by omega, Lib.hid (by decide), hH, by omega, rfl⟩
  case round =>
    obtain ⟨i, acc, rfl, rfl, hi, hA, hrd, hle, rfl⟩ := hrel
    have hrd1 := hrd.out; clear hrd
    by_cases hlt : i < bs.length
    · obtain ⟨b, off, rfl, hcell⟩ := hr.at hlt
      have hdrop : bs.drop i = bs[i] :: bs.drop (i + 1) := List.drop_eq_getElem_cons hlt
      rw [hdrop] at hrd1
      generalize bs[i] = c at hrd1 hcell
      clear hdrop
      have hb := c.toNat_lt
      rw [rd] at hrd1
      have hX := Lib.hid hrd1
      clear hrd1
      by_cases h9 : i = 9
      · subst h9
        have h10' : ((9 : Int) == 10) = false := by decide
        by_cases h1 : 1 < c.toNat
        · have h1' : 1 < (c.toNat : Int) := by omega
          have hY := hX.out
          rw [if_pos (by omega)] at hY
          simp only [uOf, Prod.mk.injEq] at hY
          obtain ⟨rfl, rfl, rfl⟩ := hY
          clear hX
          go_wp2
          go_ret3
          exact ⟨rfl, rfl⟩
        · have h1' : (c.toNat : Int) ≤ 1 := by omega
          by_cases h0 : c.toNat = 0
          · have h0' : ((c.toNat : Int) == 0) = true := by rw [beq_iff_eq]; omega
            have hlt' : (c.toNat : Int) < 128 := by omega
            have hd1 : decide (1 < (c.toNat : Int)) = false := by rw [decide_eq_false_iff_not]; omega
            have hY := hX.out
            rw [if_pos (by omega)] at hY
            simp only [uOf, Prod.mk.injEq] at hY
            obtain ⟨rfl, rfl, rfl⟩ := hY
            have h0H := Lib.hid h0
            clear h0 h1 hX
            go_wp2
            all_goals go_ret3
            all_goals exact ⟨rfl, rfl⟩
          · have h0' : ((c.toNat : Int) == 0) = false := by rw [beq_eq_false_iff_ne]; omega
            have hlt' : (c.toNat : Int) < 128 := by omega
            have hd1 : decide (1 < (c.toNat : Int)) = false := by rw [decide_eq_false_iff_not]; omega
            have hY := hX.out
            rw [if_neg (by omega), if_pos (by omega)] at hY
            simp only [uOf, Prod.mk.injEq] at hY
            obtain ⟨rfl, rfl, rfl⟩ := hY
            have hv := orw (c := c.toNat) (i := 9) (by omega) hA.out (by omega)
            rw [Nat.mod_eq_of_lt (show c.toNat < 128 by omega), show ((2 : Int) ^ (7 * 9)) = 9223372036854775808 by decide, u64_wrap_id _ (by omega) (by omega)] at hv
            have hV := Lib.hid hv
            clear h1 hX hv
            go_wp2
            go_ret3
            exact ⟨congrArg (fun z => Ending.returned (Value.tuple #[.int .u64 z, .int .i64 10, .int .i64 0])) hV.out, rfl⟩
      · have h9' : ((i : Int) == 9) = false := by rw [beq_eq_false_iff_ne]; omega
        have h10' : ((i : Int) == 10) = false := by rw [beq_eq_false_iff_ne]; omega
        have hV := Lib.hid (orw (c := c.toNat) hi hA.out (by omega))
        have hF := Lib.hid (rd_fits (c := c.toNat % 128) hi hA.out (Nat.mod_lt _ (by decide)) (by omega))
        go_wp2
        · go_ret3
          have hY := hX.out
          rw [if_pos (by omega)] at hY
          simp only [uOf, Prod.mk.injEq] at hY
          obtain ⟨rfl, rfl, rfl⟩ := hY
          exact ⟨rfl, rfl⟩
        · go_ret3
          have hY := hX.out
          obtain rfl : i = 0 := by omega
          have hA1 := hA.out
          obtain rfl : acc = 0 := by simpa using hA1
          rw [if_neg (by omega), if_pos (by omega)] at hY
          simp only [uOf, Prod.mk.injEq] at hY
          obtain ⟨rfl, rfl, rfl⟩ := hY
          have hz' : (c.toNat : Int) = 0 := by omega
          refine ⟨?_, rfl⟩
          simp
          rw [hz']
          rfl
        · go_ret3
          have hY := hX.out
          rw [if_neg (by omega), if_pos (by omega)] at hY
          simp only [uOf, Prod.mk.injEq] at hY
          obtain ⟨rfl, rfl, rfl⟩ := hY
          have hv := hV.out
          rw [Nat.mod_eq_of_lt (show c.toNat < 128 by omega)] at hv
          refine ⟨congrArg (fun z => Ending.returned (Value.tuple #[.int .u64 z, .int .i64 ((i : Int) + 1), .int .i64 0])) hv, rfl⟩
        · have hY := hX.out
          rw [if_neg (by omega), if_neg (by omega)] at hY
          exact ⟨⟨i + 1, _, by go_num, congrArg (Value.int .u64) hV.out, by omega, Lib.hid (hF.out.2 (by omega)), Lib.hid hY, by omega, by first | rfl | trivial⟩, by simp [RowKit.intOf]; omega⟩
    · have hl : i = bs.length := by omega
      subst hl
      rw [List.drop_length, rd] at hrd1
      simp only [uOf, Prod.mk.injEq] at hrd1
      obtain ⟨rfl, rfl, rfl⟩ := hrd1
      go_wp2
      go_ret3
      exact ⟨rfl, rfl⟩

theorem uRes_lt {bs : List UInt8} {n m : Nat} {x : Int} (h : uRes bs = (n, m, x)) : n < 18446744073709551616 := by
  rcases uRes_cases h with ⟨_, h⟩ | ⟨_, rfl, _⟩
  · exact (rd_lt bs 0 0 n m (by omega) (by decide) h).1
  · omega

set_option maxHeartbeats 1000000 in
theorem refReadInt_any (a : Option Addr) (l c : Nat) (bs : List UInt8) (n m : Nat) (x : Int) (w : World) (hr : Reads w (.slice a l c) bs) (h : uRes bs = (n, m, x)) :
    Calls Try.prog 23 #[.slice a l c] w fun e w' => e = .returned (.tuple #[.int .i64 (iOf n x), .int .i64 (m : Int), .int .i64 x]) ∧ w = w' := by
  have hu := refReadUint_any a l c bs n m x w hr h
  have hn := uRes_lt h
  rcases uRes_cases h with ⟨rfl, _⟩ | ⟨hx, rfl, rfl, _⟩
  · rw [show iOf n 0 = unzig n from rfl]
    by_cases h2 : n % 2 = 1
    · have hz : unzig n = -1 - ((n / 2 : Nat) : Int) := by unfold unzig; rw [if_pos h2]
      have hq : (((n : Int) % 2) == 0) = false := by rw [beq_eq_false_iff_ne]; omega
      have hZ := Lib.hid hz
      clear hz h2 h
      go_enter Try.func23, Try.ntmps23
      go_wp2_with (go_at_call 22; refine hu.mono ?_; rintro e w' ⟨rfl, rfl⟩)
      go_ret3
      refine ⟨?_, rfl⟩
      rw [hZ.out]
      exact congrArg (fun z => Ending.returned (Value.tuple #[.int .i64 z, .int .i64 (m : Int), .int .i64 0])) (by omega)
    · have hz : unzig n = ((n / 2 : Nat) : Int) := by unfold unzig; rw [if_neg h2]
      have hq : (((n : Int) % 2) == 0) = true := by rw [beq_iff_eq]; omega
      have hZ := Lib.hid hz
      clear hz h2 h
      go_enter Try.func23, Try.ntmps23
      go_wp2_with (go_at_call 22; refine hu.mono ?_; rintro e w' ⟨rfl, rfl⟩)
      go_ret3
      refine ⟨?_, rfl⟩
      rw [hZ.out]
      exact congrArg (fun z => Ending.returned (Value.tuple #[.int .i64 z, .int .i64 (m : Int), .int .i64 0])) (by omega)
  · rw [show iOf 0 x = 0 from if_neg hx]
    have hx0 : (x != 0) = true := by simpa using hx
    clear hx h
    go_enter Try.func23, Try.ntmps23
    go_wp2_with (go_at_call 22; refine hu.mono ?_; rintro e w' ⟨rfl, rfl⟩)
    go_ret3
    exact ⟨rfl, rfl⟩

theorem leNat_drop (bs : List UInt8) (k j : Nat) (hk : k ≤ bs.length) (hj : j < k) : leNat ((bs.take k).drop j) = bs[j].toNat + 256 * leNat ((bs.take k).drop (j + 1)) := by
  have hl : j < (bs.take k).length := by simp; omega
  rw [List.drop_eq_getElem_cons hl]
  simp [leNat]
theorem leNat_drop_lt (bs : List UInt8) (k j : Nat) (hk : k ≤ bs.length) (h8 : k ≤ 8) (hj : j < k) : leNat ((bs.take k).drop (j + 1)) < 72057594037927936 := by
  have h := leNat_lt ((bs.take k).drop (j + 1))
  have hl : ((bs.take k).drop (j + 1)).length = k - (j + 1) := by simp; omega
  rw [hl] at h
  have := Nat.pow_le_pow_right (n := 2) (by decide) (show 8 * (k - (j + 1)) ≤ 56 by omega)
  have e : (2 : Nat) ^ 56 = 72057594037927936 := by decide
  omega

set_option maxHeartbeats 1000000 in
theorem refReadFixed_any (a : Option Addr) (l c : Nat) (bs : List UInt8) (x : Int) (n m : Nat) (er : Int) (w : World) (hr : Reads w (.slice a l c) bs) (h : xRes bs x = (n, m, er)) :
    Calls Try.prog 25 #[.slice a l c, .int .i64 x] w fun e w' => e = .returned (.tuple #[.int .u64 (n : Int), .int .i64 (m : Int), .int .i64 er]) ∧ w = w' := by
  obtain ⟨rfl, hc, hm⟩ := hr.slice
  unfold maxLen at hm
  unfold xRes at h
  split at h
  · rename_i hx
    obtain ⟨k, rfl⟩ := Int.eq_ofNat_of_zero_le (show 0 ≤ x by omega)
    rw [Int.toNat_natCast] at h
    split at h
    · rename_i hsh
      simp only [Prod.mk.injEq] at h
      obtain ⟨rfl, rfl, rfl⟩ := h
      go_enter Try.func25, Try.ntmps25
      go_wp2
      go_ret3
      exact ⟨rfl, rfl⟩
    · rename_i hsh
      simp only [Prod.mk.injEq] at h
      obtain ⟨rfl, rfl, rfl⟩ := h
      go_enter Try.func25, Try.ntmps25
      go_wp2
      go_loopw [7, 8] (fun vn vi wr => ∃ j : Nat, j ≤ k ∧ vi = .int .i64 ((j : Int) - 1) ∧ vn = .int .u64 ((leNat ((bs.take k).drop j) : Nat) : Int) ∧ w = wr) (fun _ vi _ => (RowKit.intOf vi + 1).toNat)
      case atStart => exact ⟨k, Nat.le_refl _, rfl, by simp [leNat], rfl⟩
      case round =>
        obtain ⟨j, hj, rfl, rfl, rfl⟩ := hrel
        by_cases h0 : 0 < j
        · obtain ⟨i, rfl⟩ : ∃ i, j = i + 1 := ⟨j - 1, by omega⟩
          have e1 : ((i + 1 : Nat) : Int) - 1 = (i : Int) := by omega
          rw [e1]
          obtain ⟨b, off, rfl, hcell⟩ := hr.at (show i < bs.length by omega)
          have hS := Lib.hid (leNat_drop bs k i (by omega) (by omega))
          have hlt := leNat_drop_lt bs k i (by omega) (by omega) (by omega)
          have hb := bs[i].toNat_lt
          generalize leNat ((bs.take k).drop (i + 1)) = z at hlt hS
          generalize bs[i].toNat = y at hcell hS hb
          go_wp2
          refine ⟨⟨i, by omega, by go_num, ?_, by first | rfl | trivial⟩, by simp [RowKit.intOf]⟩
          rw [hS.out]
          go_num
        · obtain rfl : j = 0 := by omega
          rw [List.drop_zero]
          go_wp2
          go_ret3
          exact ⟨rfl, rfl⟩
  · rename_i hx
    simp only [Prod.mk.injEq] at h
    obtain ⟨rfl, rfl, rfl⟩ := h
    by_cases h1 : 1 ≤ x
    · have h8 : 8 < x := by omega
      clear hx
      go_enter Try.func25, Try.ntmps25
      go_wp2
      go_ret3
      exact ⟨rfl, rfl⟩
    · have h8 : x < 1 := by omega
      clear hx
      go_enter Try.func25, Try.ntmps25
      go_wp2
      go_ret3
      exact ⟨rfl, rfl⟩
end Go.Proofs.Ytilbccjgaaembaa
