/-
  LAYER 3 (crc): what bytes are as a frame: the plain mathematics.
-/
import Derived.Test.YtilbccjgaaembaaRFrame
import Derived.Test.YtilbccjgaaembaaCStr
import Derived.Test.YtilbccjgaaembaaCBack
import Derived.Test.YtilbccjgaaembaaCFixR
namespace Go.Proofs.Ytilbccjgaaembaa
set_option maxRecDepth 100000
open Go.RowKit Go.Lib

theorem leB_succ (n : Nat) : ∀ k, leB n (k + 1) = (n % 256).toUInt8 :: leB (n / 256) k
  | 0 => by simp [leB]
  | k + 1 => by
    rw [leB, leB_succ n k, leB, List.cons_append]
    congr 3
    rw [Nat.div_div_eq_div_mul, show 8 * (k + 1) = 8 + 8 * k by omega, Nat.pow_add]
theorem leNat_leB : ∀ (k n : Nat), leNat (leB n k) = n % 2 ^ (8 * k)
  | 0, n => by simp [leB, leNat, Nat.mod_one]
  | k + 1, n => by
    rw [leB_succ, leNat, leNat_leB k, toUInt8_toNat (by omega), show 8 * (k + 1) = 8 + 8 * k by omega, Nat.pow_add, show (2 : Nat) ^ 8 = 256 from rfl, Nat.mod_mul]
theorem leB_leNat : ∀ (l : List UInt8), leB (leNat l) l.length = l
  | [] => rfl
  | c :: l => by
    have hc := c.toNat_lt
    rw [List.length_cons, leB_succ, leNat, show (c.toNat + 256 * leNat l) % 256 = c.toNat by omega, show (c.toNat + 256 * leNat l) / 256 = leNat l by omega, leB_leNat l, u8_self]

/-- The payload, the sum that it should have, masked, and where the frame ends. -/
def sp (bs : List UInt8) : Option (List UInt8 × Nat × Nat) :=
  match rd 0 0 bs with
  | .error _ => none
  | .ok (n, m) => if n ≤ 16777216 ∧ m + 4 + n ≤ bs.length then some ((bs.drop (m + 4)).take n, leNat ((bs.drop m).take 4), m + 4 + n) else none
def unf (bs : List UInt8) : List UInt8 × Nat × Int :=
  match sp bs with
  | none => ([], 0, 30)
  | some (p, f, k) => if mask (sum p) = f then (p, k, 0) else ([], 0, 31)

theorem frame_length (p : List UInt8) : (frame p).length = (Lib.uvarint p.length).length + 4 + p.length := by unfold frame; simp [leB_length]; omega
theorem unf_frame (p more : List UInt8) (hp : p.length ≤ 16777216) : unf (frame p ++ more) = (p, (frame p).length, 0) := by
  have hrd : rd 0 0 (frame p ++ more) = .ok (p.length, (Lib.uvarint p.length).length) := by
    unfold frame
    rw [List.append_assoc, List.append_assoc]
    exact back_uint p.length (by omega) _
  have hl := frame_length p
  have e1 : (frame p ++ more).drop (Lib.uvarint p.length).length = leB (mask (sum p)) 4 ++ (p ++ more) := by
    unfold frame
    rw [List.append_assoc, List.append_assoc, List.drop_left, ]
  have e2 : (frame p ++ more).drop ((Lib.uvarint p.length).length + 4) = p ++ more := by
    rw [← List.drop_drop, e1, List.drop_left' (leB_length _ 4)]
  have hsp : sp (frame p ++ more) = some (p, mask (sum p), (frame p).length) := by
    unfold sp
    rw [hrd]
    simp only
    rw [if_pos ⟨hp, by rw [List.length_append, hl]; omega⟩, e1, e2, List.take_left, List.take_left' (leB_length _ 4), leNat_leB, Nat.mod_eq_of_lt (by have := mask_lt (sum p); simpa using this), hl]
  unfold unf
  rw [hsp]
  simp
theorem sp_some {bs p : List UInt8} {f k : Nat} (h : sp bs = some (p, f, k)) : ∃ n m, rd 0 0 bs = .ok (n, m) ∧ n ≤ 16777216 ∧ m + 4 + n ≤ bs.length ∧ p = (bs.drop (m + 4)).take n ∧ f = leNat ((bs.drop m).take 4) ∧ k = m + 4 + n ∧ p.length = n := by
  unfold sp at h
  split at h
  · cases h
  · rename_i n m hrd
    split at h
    · rename_i hc
      simp only [Option.some.injEq, Prod.mk.injEq] at h
      obtain ⟨rfl, rfl, rfl⟩ := h
      exact ⟨n, m, hrd, hc.1, hc.2, rfl, rfl, rfl, by simp; omega⟩
    · cases h
theorem unf_ok {bs p : List UInt8} {k : Nat} (h : unf bs = (p, k, 0)) : frame p = bs.take k ∧ k ≤ bs.length ∧ p.length ≤ 16777216 ∧ k = (frame p).length := by
  unfold unf at h
  split at h
  · simp at h
  · rename_i p' f k' hsp
    split at h
    · rename_i hm
      simp only [Prod.mk.injEq, and_true] at h
      obtain ⟨rfl, rfl⟩ := h
      obtain ⟨n, m, hrd, h1, h2, h3, h4, h5, h6⟩ := sp_some hsp
      obtain ⟨q1, q2, q3⟩ := once_uint hrd
      have e4 : leB f 4 = (bs.drop m).take 4 := by
        have hl : ((bs.drop m).take 4).length = 4 := by simp; omega
        have := leB_leNat ((bs.drop m).take 4)
        rw [hl] at this
        rw [h4, this]
      have hfr : frame p' = bs.take k' := by
        unfold frame
        rw [hm, e4, h6, q1, h5, h3]
        rw [show m + 4 + n = m + (4 + n) by omega, List.take_add, List.take_add, List.append_assoc, List.drop_drop]
      refine ⟨hfr, by omega, by omega, ?_⟩
      rw [hfr, List.length_take]
      omega
    · simp at h
end Go.Proofs.Ytilbccjgaaembaa
