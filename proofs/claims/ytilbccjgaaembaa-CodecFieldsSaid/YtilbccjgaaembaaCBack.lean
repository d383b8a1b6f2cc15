/-
  PLAIN MATHEMATICS FOR LAYER 2 (codec): what was written is read, whatever follows; a beginning is refused; what is read is written again as just these bytes.
-/
import Derived.Test.YtilbccjgaaembaaCPure
namespace Go.Proofs.Ytilbccjgaaembaa
set_option maxRecDepth 100000
open Go.Lib

theorem u8_big {c : UInt8} (h : 128 ≤ c.toNat) : (c.toNat % 128 + 128).toUInt8 = c := by
  have := c.toNat_lt
  rw [show c.toNat % 128 + 128 = c.toNat by omega]
  simp
theorem u8_self (c : UInt8) : c.toNat.toUInt8 = c := by simp

theorem rd_once : ∀ (bs : List UInt8) (i acc n m : Nat), rd i acc bs = .ok (n, m) → ∃ q k, n = acc + q * 2 ^ (7 * i) ∧ m = i + k ∧ 1 ≤ k ∧ k ≤ bs.length ∧ Lib.uvarint q = bs.take k ∧ (0 < i → 1 ≤ q)
  | [], i, acc, n, m, h => by simp [rd] at h
  | c :: r, i, acc, n, m, h => by
    rw [rd] at h
    split at h
    · cases h
    · rename_i hb
      split at h
      · rename_i h128
        simp only [Except.ok.injEq, Prod.mk.injEq] at h
        obtain ⟨rfl, rfl⟩ := h
        refine ⟨c.toNat, 1, rfl, rfl, Nat.le_refl _, by simp, ?_, fun hi => by omega⟩
        rw [uvarint_small h128, u8_self]
        rfl
      · rename_i h128
        obtain ⟨q, k, rfl, rfl, hk, hkl, hu, hq⟩ := rd_once r _ _ _ _ h
        have hq1 := hq (by omega)
        refine ⟨c.toNat % 128 + 128 * q, k + 1, ?_, by omega, by omega, by simp only [List.length_cons]; omega, ?_, fun _ => by omega⟩
        · rw [pow7_succ, Nat.add_mul, Nat.add_assoc]
          congr 2
          rw [Nat.mul_comm (2 ^ (7 * i)) 128, ← Nat.mul_assoc, Nat.mul_comm q 128]
        · rw [uvarint_big (by omega), show (c.toNat % 128 + 128 * q) % 128 = c.toNat % 128 by omega, show (c.toNat % 128 + 128 * q) / 128 = q by omega, u8_big (by omega), hu]
          rfl

theorem once_uint {bs : List UInt8} {n m : Nat} (h : rd 0 0 bs = .ok (n, m)) : Lib.uvarint n = bs.take m ∧ m ≤ bs.length ∧ n < 18446744073709551616 := by
  obtain ⟨q, k, h1, h2, _, h4, h5, _⟩ := rd_once bs 0 0 n m h
  have := rd_lt bs 0 0 n m (by omega) (by decide) h
  simp only [Nat.mul_zero, Nat.pow_zero, Nat.mul_one, Nat.zero_add] at h1 h2
  subst h1; subst h2
  exact ⟨h5, h4, this.1⟩

theorem pow7_pos (i : Nat) : 1 ≤ 2 ^ (7 * i) := Nat.one_le_two_pow

theorem small_at9 {i acc q : Nat} (h : acc + q * 2 ^ (7 * i) < 18446744073709551616) (h9 : i = 9) : q ≤ 1 := by
  subst h9
  have e : (2 : Nat) ^ (7 * 9) = 9223372036854775808 := by decide
  rw [e] at h
  omega

theorem rd_back (more : List UInt8) : ∀ (q i acc : Nat), i ≤ 9 → acc + q * 2 ^ (7 * i) < 18446744073709551616 → (0 < i → 1 ≤ q) → rd i acc (Lib.uvarint q ++ more) = .ok (acc + q * 2 ^ (7 * i), i + ulen q) := by
  intro q
  induction q using Nat.strongRecOn with
  | _ q ih =>
    intro i acc hi hlt hq
    by_cases h : q < 128
    · rw [uvarint_small h, List.singleton_append, rd, toUInt8_toNat (by omega), if_neg, if_pos h, ulen_small h]
      rintro (⟨h9, h1⟩ | ⟨h0, h1⟩)
      · have := small_at9 hlt h9; omega
      · have := hq h0; omega
    · have hi8 : i ≤ 8 := by
        rcases Nat.lt_or_ge i 9 with h9 | h9
        · omega
        · have := small_at9 hlt (by omega); omega
      have hb : q % 128 + 128 < 256 := by omega
      rw [uvarint_big (by omega), List.cons_append, rd, toUInt8_toNat hb, if_neg (by omega), if_neg (by omega)]
      have e : acc + (q % 128 + 128) % 128 * 2 ^ (7 * i) + q / 128 * 2 ^ (7 * (i + 1)) = acc + q * 2 ^ (7 * i) := by
        rw [pow7_succ, show (q % 128 + 128) % 128 = q % 128 by omega, Nat.add_assoc]
        congr 1
        rw [Nat.mul_comm (2 ^ (7 * i)) 128, ← Nat.mul_assoc, ← Nat.add_mul]
        congr 1
        omega
      rw [ih (q / 128) (by omega) (i + 1) _ (by omega) (by rw [e]; exact hlt) (fun _ => by omega), e, ulen_big (x := q) (by omega)]
      congr 2
      omega

theorem back_uint (n : Nat) (hn : n < 18446744073709551616) (more : List UInt8) : rd 0 0 (Lib.uvarint n ++ more) = .ok (n, ulen n) := by
  have := rd_back more n 0 0 (by omega) (by simpa using hn) (fun h => by omega)
  simpa using this

theorem rd_short : ∀ (q x i acc : Nat), i ≤ 9 → acc + q * 2 ^ (7 * i) < 18446744073709551616 → (0 < i → 1 ≤ q) → x < ulen q → rd i acc ((Lib.uvarint q).take x) = .error 20 := by
  intro q
  induction q using Nat.strongRecOn with
  | _ q ih =>
    intro x i acc hi hlt hq hx
    by_cases h : q < 128
    · rw [ulen_small h] at hx
      obtain rfl : x = 0 := by omega
      simp [rd]
    · cases x with
      | zero => simp [rd]
      | succ x =>
        have hi8 : i ≤ 8 := by
          rcases Nat.lt_or_ge i 9 with h9 | h9
          · omega
          · have := small_at9 hlt (by omega); omega
        rw [ulen_big (by omega)] at hx
        have hb : q % 128 + 128 < 256 := by omega
        rw [uvarint_big (by omega), List.take_succ_cons, rd, toUInt8_toNat hb, if_neg (by omega), if_neg (by omega)]
        have e : acc + (q % 128 + 128) % 128 * 2 ^ (7 * i) + q / 128 * 2 ^ (7 * (i + 1)) = acc + q * 2 ^ (7 * i) := by
          rw [pow7_succ, show (q % 128 + 128) % 128 = q % 128 by omega, Nat.add_assoc]
          congr 1
          rw [Nat.mul_comm (2 ^ (7 * i)) 128, ← Nat.mul_assoc, ← Nat.add_mul]
          congr 1
          omega
        exact ih (q / 128) (by omega) x (i + 1) _ (by omega) (by rw [e]; exact hlt) (fun _ => by omega) (by omega)

theorem short_uint (n : Nat) (hn : n < 18446744073709551616) (x : Nat) (hx : x < ulen n) : rd 0 0 ((Lib.uvarint n).take x) = .error 20 :=
  rd_short n x 0 0 (by omega) (by simpa using hn) (fun h => by omega) hx

/-! ### Fields -/
theorem once_field {bs f : List UInt8} {m : Nat} (h : rdField bs = .ok (f, m)) : field f = bs.take m ∧ m ≤ bs.length ∧ f.length ≤ 1048576 := by
  have hl := rdField_lt h
  unfold rdField at h
  split at h
  · cases h
  rename_i n k h'
  have h2 := rdLen_lt h'
  split at h
  · cases h
  rename_i hle
  simp only [Except.ok.injEq, Prod.mk.injEq] at h
  obtain ⟨hf, rfl⟩ := h
  have ho := once_uint h2.2.2.2
  have hn : f.length = n := by rw [← hf]; simp; omega
  refine ⟨?_, hl.2.2.1, hl.1⟩
  rw [field, hn, ho.1, ← hf, ← List.take_add]

theorem once_many : ∀ (k : Nat) (bs : List UInt8) (L : List (List UInt8)) (m : Nat), rdMany k bs = .ok (L, m) → (L.map field).flatten = bs.take m ∧ ∀ f ∈ L, f.length ≤ 1048576
  | 0, bs, L, m, h => by simp [rdMany] at h; obtain ⟨rfl, rfl⟩ := h; simp
  | k + 1, bs, L, m, h => by
    rw [rdMany] at h
    split at h
    · cases h
    rename_i f m1 h1
    split at h
    · cases h
    rename_i l m2 h2
    simp only [Except.ok.injEq, Prod.mk.injEq] at h
    obtain ⟨rfl, rfl⟩ := h
    have ho := once_field h1
    have ih := once_many k _ _ _ h2
    refine ⟨?_, ?_⟩
    · rw [List.map_cons, List.flatten_cons, ho.1, ih.1, ← List.take_add]
    · intro g hg
      rcases List.mem_cons.1 hg with rfl | hg
      · exact ho.2.2
      · exact ih.2 g hg

theorem once_fields {bs : List UInt8} {L : List (List UInt8)} {m : Nat} (h : rdFields bs = .ok (L, m)) : fields L = bs.take m ∧ m ≤ bs.length ∧ L.length ≤ 65536 ∧ ∀ f ∈ L, f.length ≤ 1048576 := by
  unfold rdFields at h
  split at h
  · cases h
  rename_i n k h'
  have h2 := rdLen_lt h'
  split at h
  · cases h
  rename_i l m' hm
  simp only [Except.ok.injEq, Prod.mk.injEq] at h
  obtain ⟨rfl, rfl⟩ := h
  have hl := rdMany_lt _ _ _ _ hm
  have ho := once_many _ _ _ _ hm
  simp only [List.length_drop] at hl
  refine ⟨?_, by omega, by omega, ho.2⟩
  rw [fields, hl.1, (once_uint h2.2.2.2).1, ho.1, ← List.take_add]

theorem back_field (f more : List UInt8) (hf : f.length ≤ 1048576) : rdField (field f ++ more) = .ok (f, (field f).length) := by
  have h := back_uint f.length (by omega) (f ++ more)
  unfold rdField rdLen
  rw [field, List.append_assoc, h]
  simp only
  rw [if_neg (by omega)]
  simp only
  have hl : (Lib.uvarint f.length).length = ulen f.length := rfl
  rw [if_neg (by simp only [List.length_append, hl]; omega)]
  congr 2
  · rw [List.drop_left' hl, List.take_left' rfl]
  · rw [List.length_append, hl]

theorem back_many (more : List UInt8) : ∀ (L : List (List UInt8)), (∀ f ∈ L, f.length ≤ 1048576) → rdMany L.length ((L.map field).flatten ++ more) = .ok (L, (L.map field).flatten.length)
  | [], _ => by simp [rdMany]
  | f :: L, h => by
    have ih := back_many more L (fun g hg => h g (by simp [hg]))
    rw [List.length_cons, rdMany, List.map_cons, List.flatten_cons, List.append_assoc, back_field f _ (h f (by simp))]
    simp only
    rw [List.drop_left' rfl, ih]
    simp

theorem back_fields (L : List (List UInt8)) (more : List UInt8) (hL : L.length ≤ 65536) (h : ∀ f ∈ L, f.length ≤ 1048576) : rdFields (fields L ++ more) = .ok (L, (fields L).length) := by
  have hu := back_uint L.length (by omega) ((L.map field).flatten ++ more)
  unfold rdFields rdLen
  rw [fields, List.append_assoc, hu]
  simp only
  rw [if_neg (by omega)]
  simp only
  have hl : (Lib.uvarint L.length).length = ulen L.length := rfl
  rw [List.drop_left' hl, back_many more L h]
  simp only [List.length_append]
  rfl
end Go.Proofs.Ytilbccjgaaembaa
