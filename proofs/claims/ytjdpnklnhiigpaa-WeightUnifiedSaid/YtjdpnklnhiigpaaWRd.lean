/-
  LAYER 7 (weight): four digits read: read, and the reference's number.
-/
import Derived.Test.YtjdpnklnhiigpaaWHex
namespace Go.Proofs.Ytjdpnklnhiigpaa
set_option maxRecDepth 100000
open Go.RowKit Go.Lib
attribute [local go_sem] Oper.semAt_some

/-- The byte of a text at a place. -/
def bAt (s : ByteArray) (k : Nat) : UInt8 := (s[k]?).getD 0
theorem run_index_at {P : Program} (w : World) (t : TypeId) (s : ByteArray) (k : Nat) (h : P.underlying t = some .string) (h1 : k < s.size) :
    (Instr.index t (.string s) (.int .i64 (k : Int))).run P w = .ok (.int .u8 ((bAt s k).toNat : Int)) w := by
  have hi : 0 ≤ (k : Int) ∧ (k : Int) < (s.size : Int) := by omega
  rw [run_index_string w t s .i64 k h, dif_pos hi]
  simp only [bAt, Int.toNat_natCast, ByteArray.getElem?_lt' _ _ h1, Option.getD_some]
/-- What n digits from i on come to. -/
def rdS (s : ByteArray) (i : Nat) : Nat → Nat
  | 0 => 0
  | n + 1 => rdS s i n * 16 + dv (bAt s (i + n))
def okS (s : ByteArray) (i : Nat) : Nat → Bool
  | 0 => true
  | n + 1 => okS s i n && isDig (bAt s (i + n))
theorem rdS_lt (s : ByteArray) (i : Nat) : ∀ n, rdS s i n < 16 ^ n
  | 0 => by simp [rdS]
  | n + 1 => by
    have h := rdS_lt s i n
    have := (hx_dv (bAt s (i + n))).2
    rw [Nat.pow_succ]
    show rdS s i n * 16 + _ < _
    omega
theorem rdS_4 (s : ByteArray) (i n : Nat) (h : n ≤ 4) : rdS s i n < 65536 := Nat.lt_of_lt_of_le (rdS_lt s i n) (Nat.pow_le_pow_right (n := 16) (by decide) h)
theorem rdS_3 (s : ByteArray) (i n : Nat) (h : n ≤ 3) : rdS s i n < 4096 := Nat.lt_of_lt_of_le (rdS_lt s i n) (Nat.pow_le_pow_right (n := 16) (by decide) h)

theorem or_digit (a d : Nat) (ha : a < 4096) (hd : d < 16) : bits .or .i64 ((a : Int) * 16) (d : Int) = ((a * 16 + d : Nat) : Int) := by
  have := bits_join .i64 32 (by decide) (fun n h1 h2 => IntWalk.i64_in n (by omega)) 4 ((a : Int) * 16) (d : Int) (by omega) (by omega) (by omega) (by omega) (by omega) (by omega)
  rw [this]; omega

set_option maxHeartbeats 2000000 in
theorem read_any (s : ByteArray) (h : 4 ≤ s.size) (w : World) : Calls Try.prog 28 #[.string s] w fun e w' => e = .returned (.int .i64 (rdS s 0 4 : Int)) ∧ w.grownBy w' none := by
  go_enter Try.func28, Try.ntmps28
  go_wp2
  go_loopw [3, 4, 5] (fun va _ vi wr => ∃ (k acc : Nat), k ≤ 4 ∧ vi = .int .i64 (k : Int) ∧ va = .int .i64 (acc : Int) ∧ Hid (acc = rdS s 0 k) ∧ w.grownBy wr none) (fun _ _ vi _ => 4 - (RowKit.intOf vi).toNat)
  case atStart => exact ⟨0, 0, by omega, rfl, rfl, Lib.hid rfl, World.grownBy.refl _ _⟩
  case round =>
    obtain ⟨k, acc, hk, rfl, rfl, ha, hg⟩ := hrel
    by_cases hlt : k < 4
    · have hx := fun w t h2 => run_index_at (P := Try.prog) w t s k h2 (by omega)
      have hacc : acc < 4096 := by rw [ha.out]; exact rdS_3 s 0 k (by omega)
      obtain ⟨c, hc⟩ : ∃ c, c = bAt s k := ⟨_, rfl⟩
      rw [← hc] at hx
      have hd := (hx_dv c).2
      have ho := or_digit acc (dv c) hacc hd
      have hn : Hid (acc * 16 + dv c = rdS s 0 (k + 1)) := Lib.hid (by rw [ha.out, hc]; simp [rdS])
      have hD := fun w => digit_any c w
      obtain ⟨d, hd2⟩ : ∃ d, d = dv c := ⟨_, rfl⟩
      rw [← hd2] at hd ho hn hD
      replace hc := Lib.hid hc
      clear ha hd2
      go_wp2_with (go_at_call 34; refine (hD _).mono ?_; rintro e w2 ⟨rfl, hg2⟩)
      exact ⟨⟨k + 1, acc * 16 + d, by omega, by go_num, rfl, hn, hg.trans hg2⟩, by simp [RowKit.intOf]; omega⟩
    · obtain rfl : k = 4 := by omega
      go_wp2
      go_ret
      exact ⟨by rw [← ha.out]; simp, hg⟩

theorem okS_split (s : ByteArray) (i : Nat) (h : okS s i 4 = false) : ∃ k, k < 4 ∧ okS s i k = true ∧ isDig (bAt s (i + k)) = false := by
  cases h0 : isDig (bAt s (i + 0))
  · exact ⟨0, by omega, rfl, h0⟩
  cases h1 : isDig (bAt s (i + 1))
  · exact ⟨1, by omega, by simp [okS] at h0 ⊢; exact h0, h1⟩
  cases h2 : isDig (bAt s (i + 2))
  · exact ⟨2, by omega, by simp [okS] at h0 h1 ⊢; exact ⟨h0, h1⟩, h2⟩
  cases h3 : isDig (bAt s (i + 3))
  · exact ⟨3, by omega, by simp [okS] at h0 h1 h2 ⊢; exact ⟨⟨h0, h1⟩, h2⟩, h3⟩
  simp [okS] at h h0 h1 h2 h3
  simp [h0, h1, h2, h3] at h

set_option maxHeartbeats 4000000 in
theorem number_any (s : ByteArray) (i : Nat) (h : i + 4 ≤ s.size) (hs : s.size < 4611686018427387904) (w : World) : Calls Try.prog 29 #[.string s, .int .i64 (i : Int)] w fun e w' =>
    e = .returned (.tuple (if okS s i 4 = true then #[.int .i64 (rdS s i 4 : Int), .bool true] else #[.int .i64 0, .bool false])) ∧ w = w' := by
  obtain ⟨T, hT⟩ : ∃ T, T = (if okS s i 4 = true then #[.int .i64 (rdS s i 4 : Int), .bool true] else #[.int .i64 0, .bool false] : Array Value) := ⟨_, rfl⟩
  rw [← hT]
  replace hT := Lib.hid hT
  go_enter Try.func29, Try.ntmps29
  go_wp2
  go_loopw [6, 7, 8] (fun va vi _ wr => ∃ (k acc : Nat), k ≤ 4 ∧ vi = .int .i64 ((i + k : Nat) : Int) ∧ va = .int .i64 (acc : Int) ∧ Hid (acc = rdS s i k) ∧ Hid (okS s i k = true) ∧ Hid (wr = w)) (fun _ vi _ _ => i + 4 - (RowKit.intOf vi).toNat)
  case atStart => exact ⟨0, 0, by omega, rfl, rfl, Lib.hid rfl, Lib.hid rfl, Lib.hid rfl⟩
  case round =>
    obtain ⟨k, acc, hk, rfl, rfl, ha, ho, hw⟩ := hrel
    obtain rfl := hw.out
    clear hw
    obtain ⟨j, hj⟩ : ∃ j, j = i + k := ⟨_, rfl⟩
    rw [← hj]
    by_cases hlt : k < 4
    · have hx := fun w t h2 => run_index_at (P := Try.prog) w t s j h2 (by omega)
      have hacc : acc < 4096 := by rw [ha.out]; exact rdS_3 s i k (by omega)
      obtain ⟨c, hc⟩ : ∃ c, c = bAt s j := ⟨_, rfl⟩
      rw [← hc] at hx
      have hc2 : c = bAt s (i + k) := by rw [hc, hj]
      have hn : Hid (rdS s i (k + 1) = acc * 16 + dv c) := Lib.hid (by rw [ha.out, hc2]; simp [rdS])
      have hok : Hid (okS s i (k + 1) = isDig c) := Lib.hid (by simp [okS, ho.out, hc2])
      have hno : Hid (isDig c = false → okS s i 4 = false) := Lib.hid (by
        intro hd
        rw [hc2] at hd
        have key : k = 0 ∨ k = 1 ∨ k = 2 ∨ k = 3 := by omega
        rcases key with rfl | rfl | rfl | rfl <;> simp [okS] at hd ⊢ <;> simp [hd])
      have hcl := c.toNat_lt
      obtain ⟨C, hC⟩ : ∃ C : Nat, C = c.toNat := ⟨_, rfl⟩
      rw [← hC] at hx hcl
      have hdv : Hid (dv c = if 48 ≤ C ∧ C ≤ 57 then C - 48 else if 65 ≤ C ∧ C ≤ 70 then C - 55 else 0) := Lib.hid (by rw [hC]; rfl)
      have hdg : Hid (isDig c = ((decide (48 ≤ C) && decide (C ≤ 57)) || (decide (65 ≤ C) && decide (C ≤ 70)))) := Lib.hid (by rw [hC]; rfl)
      clear hc hc2 ha ho hC
      have hj2 : i ≤ j ∧ j < i + 4 := by omega
      replace hj := Lib.hid hj
      have key : (48 ≤ C ∧ C ≤ 57) ∨ (65 ≤ C ∧ C ≤ 70) ∨ C < 48 ∨ (57 < C ∧ C < 65) ∨ 70 < C := by omega
      rcases key with ⟨k1, k2⟩ | ⟨k1, k2⟩ | k1 | ⟨k1, k2⟩ | k1
      · have hv : dv c = C - 48 := by rw [hdv.out, if_pos ⟨k1, k2⟩]
        have hd1 : isDig c = true := by rw [hdg.out]; simp [k1, k2]
        have e1 : ((acc * 16 + dv c : Nat) : Int) = 16 * (acc : Int) + (C : Int) - 48 := by rw [hv]; omega
        rw [hd1] at hok
        replace e1 := Lib.hid e1
        clear hv hd1 hdv hdg hno hT
        go_wp2
        refine ⟨⟨k + 1, acc * 16 + dv c, by omega, ?_, ?_, Lib.hid hn.out.symm, Lib.hid hok.out, Lib.hid (by trivial)⟩, ?_⟩
        · congr 1; have := hj.out; omega
        · rw [e1.out]
        · simp [RowKit.intOf]; omega
      · have hv : dv c = C - 55 := by rw [hdv.out, if_neg (by omega), if_pos ⟨k1, k2⟩]
        have hd1 : isDig c = true := by rw [hdg.out]; simp [k1, k2]
        have e1 : ((acc * 16 + dv c : Nat) : Int) = 16 * (acc : Int) + (C : Int) - 65 + 10 := by rw [hv]; omega
        rw [hd1] at hok
        replace e1 := Lib.hid e1
        have k3 : 57 < C := by omega
        clear hv hd1 hdv hdg hno hT
        go_wp2
        refine ⟨⟨k + 1, acc * 16 + dv c, by omega, ?_, ?_, Lib.hid hn.out.symm, Lib.hid hok.out, Lib.hid (by trivial)⟩, ?_⟩
        · congr 1; have := hj.out; omega
        · rw [e1.out]
        · simp [RowKit.intOf]; omega
      all_goals
        have hd1 : isDig c = false := by rw [hdg.out]; simp; omega
        have hf := hno.out hd1
        rw [hf] at hT
        simp only [Bool.false_eq_true, if_false] at hT
        clear hd1 hdv hdg hno hf hok hn
        go_wp2
        go_ret2
        exact ⟨by rw [hT.out]; first | rfl | simp, rfl⟩
    · obtain rfl : k = 4 := by omega
      have ho := ho.out
      have ha := ha.out
      rw [ho, ← ha] at hT
      simp only [if_true] at hT
      clear ho ha
      replace hj := Lib.hid hj
      have hj2 : i + 4 ≤ j ∧ j ≤ i + 4 := by have := hj.out; omega
      go_wp2
      go_ret2
      exact ⟨by rw [hT.out]; first | rfl | simp, rfl⟩
end Go.Proofs.Ytjdpnklnhiigpaa
