/-
  LAYER 3 (crc): bursts: the plain mathematics.
-/
import Derived.Test.YtilbccjgaaembaaRUnfP
namespace Go.Proofs.Ytilbccjgaaembaa
set_option maxRecDepth 100000
open Go.RowKit Go.Lib

/-- Four bytes, the first the least. -/
def four (a b c d : Nat) : Nat := a ^^^ (256 * b) ^^^ (65536 * c) ^^^ (16777216 * d)
theorem byt_four (s a b c d : Nat) : byt (byt (byt (byt s a) b) c) d = rnds 32 (s ^^^ four a b c d) := by
  have h : ∀ k z x, rnds 8 (rnds k z ^^^ x) = rnds (k + 8) (z ^^^ 2 ^ k * x) := by
    intro k z x
    rw [rnds_add, rnds_xor k, rnds_pow]
  have e1 : byt s a = rnds 8 (s ^^^ a) := rfl
  have e2 : byt (byt s a) b = rnds 16 (s ^^^ a ^^^ 256 * b) := by rw [e1]; exact h 8 _ _
  have e3 : byt (byt (byt s a) b) c = rnds 24 (s ^^^ a ^^^ 256 * b ^^^ 65536 * c) := by rw [e2]; exact h 16 _ _
  have e4 : byt (byt (byt (byt s a) b) c) d = rnds 32 (s ^^^ a ^^^ 256 * b ^^^ 65536 * c ^^^ 16777216 * d) := by rw [e3]; exact h 24 _ _
  rw [e4, four]
  congr 1
  simp only [Nat.xor_assoc]
theorem four_eq {a b c d : Nat} (ha : a < 256) (hb : b < 256) (hc : c < 256) (_hd : d < 256) : four a b c d = a + 256 * b + 65536 * c + 16777216 * d := by
  have or1 : ∀ k x y, x < 2 ^ k → x ^^^ (2 ^ k * y) = x + 2 ^ k * y := by
    intro k x y hx
    apply Nat.eq_of_testBit_eq
    intro i
    rw [Nat.testBit_xor, Nat.add_comm, Nat.testBit_two_pow_mul_add _ hx, Nat.testBit_two_pow_mul]
    by_cases h : i < k
    · simp [h, show ¬ k ≤ i by omega]
    · have : x.testBit i = false := Nat.testBit_lt_two_pow (Nat.lt_of_lt_of_le hx (Nat.pow_le_pow_right (by decide) (by omega)))
      simp [h, show k ≤ i by omega, this]
  unfold four
  rw [show 256 * b = 2 ^ 8 * b from rfl, or1 8 a b (by omega), show 65536 * c = 2 ^ 16 * c from rfl, or1 16 _ c (by omega), show 16777216 * d = 2 ^ 24 * d from rfl, or1 24 _ d (by omega)]
theorem four_inj {a b c d a' b' c' d' : Nat} (ha : a < 256) (hb : b < 256) (hc : c < 256) (hd : d < 256) (ha' : a' < 256) (hb' : b' < 256) (hc' : c' < 256) (hd' : d' < 256) (h : four a b c d = four a' b' c' d') : a = a' ∧ b = b' ∧ c = c' ∧ d = d' := by
  rw [four_eq ha hb hc hd, four_eq ha' hb' hc' hd'] at h
  omega
theorem four_lt {a b c d : Nat} (ha : a < 256) (hb : b < 256) (hc : c < 256) (hd : d < 256) : four a b c d < 4294967296 := by
  rw [four_eq ha hb hc hd]; omega

theorem u8_xor_cancel {a y : UInt8} (h : (a ^^^ y).toNat = a.toNat) : y = 0 := by
  have h1 : a ^^^ y = a := UInt8.toNat_inj.1 h
  have h2 : a ^^^ (a ^^^ y) = a ^^^ a := by rw [h1]
  rwa [← UInt8.xor_assoc, UInt8.xor_self, UInt8.zero_xor] at h2

theorem bytes_four (s : Nat) (a b c d : UInt8) : bytes s [a, b, c, d] = rnds 32 (s ^^^ four a.toNat b.toNat c.toNat d.toNat) := byt_four s a.toNat b.toNat c.toNat d.toNat

/-- Sums of lists that differ within four bytes side by side differ. -/
theorem burst (P S : List UInt8) (a b c d y0 y1 y2 y3 : UInt8) (hy : ¬ (y0 = 0 ∧ y1 = 0 ∧ y2 = 0 ∧ y3 = 0)) : sum (P ++ [a ^^^ y0, b ^^^ y1, c ^^^ y2, d ^^^ y3] ++ S) ≠ sum (P ++ [a, b, c, d] ++ S) := by
  intro h
  unfold sum ext at h
  have l0 := not32_lt 0
  have h1 : bytes (not32 0) (P ++ [a ^^^ y0, b ^^^ y1, c ^^^ y2, d ^^^ y3] ++ S) = bytes (not32 0) (P ++ [a, b, c, d] ++ S) := by
    have q1 := bytes_lt (P ++ [a ^^^ y0, b ^^^ y1, c ^^^ y2, d ^^^ y3] ++ S) l0
    have q2 := bytes_lt (P ++ [a, b, c, d] ++ S) l0
    have := congrArg not32 h
    rwa [not32_not32 q1, not32_not32 q2] at this
  rw [bytes_append, bytes_append, bytes_append, bytes_append] at h1
  have h2 := bytes_inj S (bytes_lt _ (bytes_lt _ l0)) (bytes_lt _ (bytes_lt _ l0)) h1
  have lp := bytes_lt P l0
  rw [bytes_four, bytes_four] at h2
  generalize bytes (not32 0) P = z at h2 lp
  have h3 := rnds_inj 32 (Nat.xor_lt_two_pow (n := 32) lp (four_lt (UInt8.toNat_lt _) (UInt8.toNat_lt _) (UInt8.toNat_lt _) (UInt8.toNat_lt _))) (Nat.xor_lt_two_pow (n := 32) lp (four_lt (UInt8.toNat_lt _) (UInt8.toNat_lt _) (UInt8.toNat_lt _) (UInt8.toNat_lt _))) h2
  have h4 := congrArg (z ^^^ ·) h3
  simp only [← Nat.xor_assoc, Nat.xor_self, Nat.zero_xor] at h4
  obtain ⟨e0, e1, e2, e3⟩ := four_inj (UInt8.toNat_lt _) (UInt8.toNat_lt _) (UInt8.toNat_lt _) (UInt8.toNat_lt _) (UInt8.toNat_lt _) (UInt8.toNat_lt _) (UInt8.toNat_lt _) (UInt8.toNat_lt _) h4
  exact hy ⟨u8_xor_cancel e0, u8_xor_cancel e1, u8_xor_cancel e2, u8_xor_cancel e3⟩

/-- A frame in which one byte is another does not tell the same payload. -/
theorem unf_bit (bs : List UInt8) (i : Nat) (u : UInt8) (hi : i < (frame bs).length) (hu : u ≠ (frame bs)[i]) (k : Nat) : unf ((frame bs).set i u) ≠ (bs, k, 0) := by
  intro h
  obtain ⟨h1, h2, h3, h4⟩ := unf_ok h
  have h5 : ((frame bs).set i u).take k = (frame bs).set i u := List.take_of_length_le (by rw [List.length_set, h4]; exact Nat.le_refl _)
  rw [h5] at h1
  have h6 := congrArg (fun l => l[i]?) h1
  simp only [List.getElem?_eq_getElem hi, List.getElem?_set_self hi, Option.some.injEq] at h6
  exact hu h6.symm
end Go.Proofs.Ytilbccjgaaembaa
