/-
  LAYER 2 (codec): Fixed, and the reference's.
-/
import Derived.Test.YtilbccjgaaembaaCRefW
namespace Go.Proofs.Ytilbccjgaaembaa
set_option maxRecDepth 100000
open Go.RowKit Go.Lib

theorem reads_lit' (w : World) (e : TypeId) (bs : List UInt8) (hm : bs.length ≤ maxLen) : Reads (w.alloc (.cells (byteCells bs).toArray e)) (.slice (some ⟨w.heap.size, 0, none⟩) bs.length bs.length) bs :=
  (owns_block (B := 0) (Nat.zero_le _) (heap_alloc_new w _) hm rfl).reads
theorem leB_byte (n k : Nat) : (n / 2 ^ (8 * k) % 256).toUInt8.toNat = n / 2 ^ (8 * k) % 256 := toUInt8_toNat (by omega)

set_option maxHeartbeats 1000000 in
theorem Fixed_range (n : Nat) (x : Int) (w : World) (hx : ¬ (1 ≤ x ∧ x ≤ 8)) :
    Calls Try.prog 16 #[.int .u64 (n : Int), .int .i64 x] w fun e w' => e = .returned (.tuple #[.slice none 0 0, .int .i64 1]) ∧ w = w' := by
  have hw := isWide_any x
  rw [decide_eq_false hx] at hw
  go_enter Try.func16, Try.ntmps16
  go_wp2_with (go_at_call 68; refine (hw _).mono ?_; rintro e w' ⟨rfl, rfl⟩)
  go_ret2
  exact ⟨rfl, rfl⟩

set_option maxHeartbeats 1000000 in
theorem Fixed_big (n k : Nat) (w : World) (hn : n < 18446744073709551616) (hk : 1 ≤ k ∧ k ≤ 8) (hb : 2 ^ (8 * k) ≤ n) :
    Calls Try.prog 16 #[.int .u64 (n : Int), .int .i64 (k : Int)] w fun e w' => e = .returned (.tuple #[.slice none 0 0, .int .i64 1]) ∧ w = w' := by
  have hw := isWide_any (k : Int)
  rw [decide_eq_true (by omega)] at hw
  have hc := fun w => (Try.bits_Len64 (n : Int) w (by omega) (by omega)).mono (R' := fun e w' => e = .returned (.int .i64 (Lib.bitLen (n : Int).toNat)) ∧ w = w') fun e w' h => ⟨h.1, h.2.symm⟩
  simp only [Int.toNat_natCast] at hc
  have h1 := bitLen_le_iff n (8 * k) hn (by omega)
  have h2 := bitLen_le n
  generalize Lib.bitLen n = q at hc h1 h2
  have hq : 8 * (k : Int) < (q : Int) := by omega
  have hN := Lib.hid hn
  clear h1 hb hn
  go_enter Try.func16, Try.ntmps16
  go_wp2_with (first | (go_at_call 68; refine (hw _).mono ?_; rintro e w' ⟨rfl, rfl⟩) | (go_at_call 69; refine (hc _).mono ?_; rintro e w' ⟨rfl, rfl⟩))
  go_ret2
  exact ⟨rfl, rfl⟩

set_option maxHeartbeats 2000000 in
set_option maxRecDepth 100000 in
theorem Fixed_ok (n k : Nat) (w : World) (hn : n < 18446744073709551616) (hk : 1 ≤ k ∧ k ≤ 8) (hb : n < 2 ^ (8 * k)) :
    Calls Try.prog 16 #[.int .u64 (n : Int), .int .i64 (k : Int)] w fun e w' => ∃ v, e = .returned (.tuple #[v, .int .i64 0]) ∧ Owns w' w.heap.size 5 v (leB n k) ∧ w.grownBy w' none := by
  obtain ⟨i0, hi, hz0, hz1, hz2⟩ := info_parts infoU8
  have hw := isWide_any (k : Int)
  rw [decide_eq_true (by omega)] at hw
  have hc := fun w => (Try.bits_Len64 (n : Int) w (by omega) (by omega)).mono (R' := fun e w' => e = .returned (.int .i64 (Lib.bitLen (n : Int).toNat)) ∧ w = w') fun e w' h => ⟨h.1, h.2.symm⟩
  simp only [Int.toNat_natCast] at hc
  have h1 := bitLen_le_iff n (8 * k) hn (by omega)
  have h2 := bitLen_le n
  generalize Lib.bitLen n = q at hc h1 h2
  have hq : (q : Int) ≤ 8 * (k : Int) := by omega
  have hN := Lib.hid hn
  clear h1 hb hn
  go_enter Try.func16, Try.ntmps16
  go_wp2_with (first | (go_at_call 68; refine (hw _).mono ?_; rintro e w' ⟨rfl, rfl⟩) | (go_at_call 69; refine (hc _).mono ?_; rintro e w' ⟨rfl, rfl⟩) | (at_make; refine wpList_make_full _ rfl _ _ 23 rfl w.heap.size 5 i0 (.int .u8 0) 1 Try.underlying23 hi hz0 hz1 .i64 .i64 _ _ k rfl rfl rfl rfl (by rw [hz2]; omega) (by unfold maxLen; omega) (Nat.le_refl _) ?_; intro w0 hown0 hgrow0))
  have hown : w0.ownsRow w.heap.size 5 1 (.slice (some ⟨w.heap.size, 0, none⟩) k k) k (byteCells (leB n 0) ++ List.replicate (k - 0) (.int .u8 0)) := by
    have e : (madeCells (Value.int .u8 0).cells (k * 1)).toList = List.replicate k (Value.int .u8 0) := by simp [Value.cells, toList_madeCells_one]
    rw [e] at hown0
    simpa [leB, byteCells] using hown0
  clear hown0
  have hb0 : Below w.heap.size w w0 := gbelow hgrow0 (Nat.le_refl _) (by simp)
  clear hgrow0
  go_loopw [7, 22] (fun v7 vi wr => ∃ i : Nat, i ≤ k ∧ vi = .int .i64 (i : Int) ∧ wr.ownsRow w.heap.size 5 1 (.slice (some ⟨w.heap.size, 0, none⟩) k k) k (byteCells (leB n i) ++ List.replicate (k - i) (.int .u8 0)) ∧ Below w.heap.size w wr) (fun _ vi _ => k - (RowKit.intOf vi).toNat)
  case atStart => exact ⟨0, Nat.zero_le _, rfl, hown, hb0⟩
  case round =>
    obtain ⟨i, hi', rfl, hown1, hb1⟩ := hrel
    by_cases hlt : i < k
    · have hcell := hown1.cellAt i (by omega)
      have hlen : (byteCells (leB n i)).length = i := by rw [byteCells_len, leB_length]
      rw [List.getElem?_append_right (by omega), hlen, Nat.sub_self, List.getElem?_replicate, if_pos (by omega)] at hcell
      have hfr := hown1.frozenAt i
      have hst := hown1.stored i (.int .u8 ((n / 2 ^ (8 * i) % 256 : Nat) : Int))
      have hset : (byteCells (leB n i) ++ List.replicate (k - i) (Value.int .u8 0)).set i (.int .u8 ((n / 2 ^ (8 * i) % 256 : Nat) : Int)) = byteCells (leB n (i + 1)) ++ List.replicate (k - (i + 1)) (.int .u8 0) := by
        rw [List.set_append_right _ _ (by omega), hlen, Nat.sub_self, show k - i = (k - (i + 1)) + 1 by omega, List.replicate_succ, List.set_cons_zero, leB, byteCells_append, List.append_assoc]
        simp [byteCells]
      rw [hset] at hst
      have hS := Lib.hid hst
      have hi8 : i ≤ 7 := by omega
      clear hst hset hlen
      go_wp2
      have hv : ((n / 2 ^ (8 * i) % 256 : Nat) : Int) = (n : Int) / 2 ^ (8 * i) % 256 := by simp
      have h := hS.out
      rw [hv] at h
      exact ⟨⟨i + 1, by omega, by go_num, h.1, hb1.setCell (Nat.le_refl _) _⟩, by simp [RowKit.intOf]; omega⟩
    · have hik : i = k := by omega
      subst hik
      have hown2 : Owns wr w.heap.size 5 (.slice (some ⟨w.heap.size, 0, none⟩) i i) (leB n i) := by
        unfold Owns; rw [leB_length]; simpa using hown1
      clear hown1
      go_wp2
      go_ret2
      exact ⟨_, rfl, hown2, belowg hb1 _⟩

/-! ### The reference's -/
set_option maxHeartbeats 1000000 in
theorem refFixed_range (n : Nat) (x : Int) (w : World) (hx : ¬ (1 ≤ x ∧ x ≤ 8)) :
    Calls Try.prog 17 #[.int .u64 (n : Int), .int .i64 x] w fun e w' => e = .returned (.tuple #[.slice none 0 0, .int .i64 1]) ∧ w = w' := by
  by_cases h1 : x < 1
  · go_enter Try.func17, Try.ntmps17
    go_wp2
    go_ret2
    exact ⟨rfl, rfl⟩
  · have h8 : 8 < x := by omega
    clear hx
    go_enter Try.func17, Try.ntmps17
    go_wp2
    go_ret2
    exact ⟨rfl, rfl⟩

theorem div_pow_zero (n k : Nat) (hb : n < 2 ^ (8 * k)) : (n : Int) / 2 ^ (8 * k) = 0 := by
  have : ((n / 2 ^ (8 * k) : Nat) : Int) = 0 := by rw [Nat.div_eq_of_lt hb]; rfl
  simpa using this
theorem div_pow_pos (n k : Nat) (hb : 2 ^ (8 * k) ≤ n) : (n : Int) / 2 ^ (8 * k) ≠ 0 := by
  have h1 : 1 ≤ n / 2 ^ (8 * k) := Nat.div_pos hb (Nat.two_pow_pos _)
  have : ((n / 2 ^ (8 * k) : Nat) : Int) ≠ 0 := by omega
  simpa using this

set_option maxHeartbeats 1000000 in
theorem refFixed_big (n k : Nat) (w : World) (hn : n < 18446744073709551616) (hk : 1 ≤ k ∧ k ≤ 8) (hb : 2 ^ (8 * k) ≤ n) :
    Calls Try.prog 17 #[.int .u64 (n : Int), .int .i64 (k : Int)] w fun e w' => e = .returned (.tuple #[.slice none 0 0, .int .i64 1]) ∧ w = w' := by
  have hk8 : k < 8 := by
    rcases Nat.lt_or_ge k 8 with h | h
    · exact h
    · obtain rfl : k = 8 := by omega
      have e : (2 : Nat) ^ (8 * 8) = 18446744073709551616 := by decide
      omega
  have hd := div_pow_pos n k hb
  have hd2 : ((n : Int) / 2 ^ (8 * k) != 0) = true := by simpa using hd
  have hN := Lib.hid hn
  clear hb hd hn
  go_enter Try.func17, Try.ntmps17
  go_wp2
  go_ret2
  exact ⟨rfl, rfl⟩

set_option maxHeartbeats 2000000 in
set_option maxRecDepth 100000 in
theorem refFixed_ok (n k : Nat) (w : World) (hn : n < 18446744073709551616) (hk : 1 ≤ k ∧ k ≤ 8) (hb : n < 2 ^ (8 * k)) :
    Calls Try.prog 17 #[.int .u64 (n : Int), .int .i64 (k : Int)] w fun e w' => ∃ v, e = .returned (.tuple #[v, .int .i64 0]) ∧ Owns w' w.heap.size 5 v (leB n k) ∧ w.grownBy w' none := by
  obtain ⟨i0, hi, hz0, hz1, hz2⟩ := info_parts infoU8
  have hd := div_pow_zero n k hb
  have hd2 : ((n : Int) / 2 ^ (8 * k) != 0) = false := by simp [hd]
  have hN := Lib.hid hn
  clear hb hd hn
  rcases Nat.lt_or_ge k 8 with hk8 | hk8
  all_goals
    go_enter Try.func17, Try.ntmps17
    go_wp2
    go_loopw [0, 6, 7] (fun vn vb vi wr => ∃ i : Nat, i ≤ k ∧ vi = .int .i64 (i : Int) ∧ vn = .int .u64 ((n / 2 ^ (8 * i) : Nat) : Int) ∧ Owns wr w.heap.size 5 vb (leB n i) ∧ Below w.heap.size w wr) (fun _ _ vi _ => k - (RowKit.intOf vi).toNat)
    case atStart => exact ⟨0, Nat.zero_le _, rfl, by simp, World.ownsRow_nil _ _ _ _, Below.refl _ _⟩
    case round =>
      obtain ⟨i, hi', rfl, rfl, hown1, hb1⟩ := hrel
      have hll := leB_length n i
      by_cases hlt : i < k
      · obtain ⟨q, hq⟩ : ∃ q, q = n / 2 ^ (8 * i) := ⟨_, rfl⟩
        have hq2 : n / 2 ^ (8 * (i + 1)) = q / 256 := by rw [hq, Nat.mul_add, Nat.pow_add, ← Nat.div_div_eq_div_mul]
        have hleB : leB n (i + 1) = leB n i ++ [(q % 256).toUInt8] := by rw [leB, ← hq]
        have hqn : q < 18446744073709551616 := by rw [hq]; exact Nat.lt_of_le_of_lt (Nat.div_le_self _ _) hN.out
        rw [← hq]
        have hQ := Lib.hid hq
        have hQ2 := Lib.hid hq2
        have hL := Lib.hid hleB
        clear hq hq2 hleB
        have hsz := hb1.size
        have hone : Reads (wr.alloc (.cells #[.int .u8 ((q : Int) % 256)] 5)) (.slice (some ⟨wr.heap.size, 0, none⟩) 1 1) [(q % 256).toUInt8] := by
          have := reads_lit' wr 5 [(q % 256).toUInt8] (by simp [maxLen])
          simpa [byteCells, toUInt8_toNat (show q % 256 < 256 by omega)] using this
        go_wp2_with (at_builtin; refine wpList_append_bytes _ rfl _ _ 23 rfl w.heap.size 5 i0 Try.underlying23 hi hz0 hz1 hz2 _ (leB n i) rfl (hown1.new (World.grownBy_alloc _ _ _)) _ [(q % 256).toUInt8] rfl hone ?c1 ?c2 ?_)
        case c1 => simp only [List.length_singleton]; omega
        case c2 => simp; omega
        intro v4 w4 ho4 hg4
        go_wp2
        refine ⟨⟨i + 1, by omega, by go_num, ?_, ?_, (hb1.alloc hsz _).grown hg4 (by simp; omega) (fun r hr => (hown1.lt r hr).1)⟩, by simp [RowKit.intOf]; omega⟩
        · rw [hQ2.out]; go_num
        · rw [hL.out]; exact ho4
      · have hik : i = k := by omega
        subst hik
        go_wp2
        go_ret2
        exact ⟨_, rfl, hown1, belowg hb1 _⟩
end Go.Proofs.Ytilbccjgaaembaa
