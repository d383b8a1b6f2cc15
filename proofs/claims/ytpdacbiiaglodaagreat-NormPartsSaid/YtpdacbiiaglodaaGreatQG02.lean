/-
  PLAIN MATHEMATICS FOR LAYER 2 (codec): what reading and writing numbers and fields comes to, on lists of bytes. No program, no world.
-/
import Derived.Lib.Varint
import Derived.Lib.VarintMem
import Derived.Laws.BitsLemmas
import Derived.Lib.EndianBits
import Derived.Lib.VarintBits
import Derived.Laws.Closers25b
import Derived.Lib.BitFns
namespace Go.Proofs.YtpdacbiiaglodaaGreat
set_option maxRecDepth 100000
open Go.Lib

/-- Reading a varint: i bytes are read, acc is gathered. -/
def rd (i acc : Nat) : List UInt8 → Except Int (Nat × Nat)
  | [] => .error 20
  | c :: r => if (i = 9 ∧ 1 < c.toNat) ∨ (0 < i ∧ c.toNat = 0) then .error 21
      else if c.toNat < 128 then .ok (acc + c.toNat * 2 ^ (7 * i), i + 1)
      else rd (i + 1) (acc + c.toNat % 128 * 2 ^ (7 * i)) r

theorem pow7_split (i : Nat) (h : i ≤ 9) : 2 ^ (7 * i) * 2 ^ (63 - 7 * i) = 2 ^ 63 := by
  rw [← Nat.pow_add]; congr 1; omega

theorem pow7_succ (i : Nat) : 2 ^ (7 * (i + 1)) = 2 ^ (7 * i) * 128 := by
  rw [Nat.mul_add, Nat.pow_add]

/-- What one byte adds stays a uint64, and is beyond what was gathered. -/
theorem rd_fits {i acc c : Nat} (hi : i ≤ 9) (hacc : acc < 2 ^ (7 * i)) (hc : c < 128) (h9 : i = 9 → c ≤ 1) : acc + c * 2 ^ (7 * i) < 18446744073709551616 ∧ (i ≤ 8 → acc + c * 2 ^ (7 * i) < 2 ^ (7 * (i + 1))) := by
  have hs : acc + c * 2 ^ (7 * i) < 2 ^ (7 * i) * (c + 1) := by rw [Nat.mul_add, Nat.mul_comm c]; omega
  by_cases h : i = 9
  · subst h
    have := h9 rfl
    have e : (2 : Nat) ^ (7 * 9) = 9223372036854775808 := by decide
    rw [e] at hacc ⊢
    exact ⟨by omega, fun h => by omega⟩
  · have h2 : 2 ^ (7 * i) * (c + 1) ≤ 2 ^ (7 * i) * 128 := Nat.mul_le_mul_left _ (by omega)
    rw [← pow7_succ] at h2
    have h3 : 2 ^ (7 * (i + 1)) ≤ 2 ^ 63 := Nat.pow_le_pow_right (by decide) (by omega)
    have e : (2 : Nat) ^ 63 = 9223372036854775808 := by decide
    exact ⟨by omega, fun _ => by omega⟩

/-- 'n |= uint64(c&0x7f) << (7*i)', as a sum. -/
theorem orv {i acc c : Nat} {P : Int} (hP : P = ((2 ^ (7 * i) : Nat) : Int)) (hi : i ≤ 9) (hacc : acc < 2 ^ (7 * i)) (hc : c < 256) (h9 : i = 9 → c % 128 ≤ 1) :
    bits .or .u64 (acc : Int) (IntKind.u64.wrap (IntKind.u64.wrap (bits .and .u8 (c : Int) 127) * P)) = ((acc + c % 128 * 2 ^ (7 * i) : Nat) : Int) := by
  subst hP
  have hf := (rd_fits hi hacc (Nat.mod_lt c (by decide)) h9).1
  have e1 : bits .and .u8 (c : Int) 127 = ((c % 128 : Nat) : Int) := by rw [u8_and127 _ (by omega) (by omega)]; omega
  rw [e1, u64_wrap_id ((c % 128 : Nat) : Int) (by omega) (by omega), ← Int.natCast_mul, u64_wrap_id ((c % 128 * 2 ^ (7 * i) : Nat) : Int) (by omega) (by omega)]
  have hacc' : ((acc : Nat) : Int) < 2 ^ (7 * i) := by exact_mod_cast hacc
  have := bits_join_low .u64 64 (by decide) wraps_u64 (7 * i) (acc : Int) ((c % 128 * 2 ^ (7 * i) : Nat) : Int) (by omega) hacc' (by omega) (by omega) (by
    rw [show ((2 : Int) ^ (7 * i)) = ((2 ^ (7 * i) : Nat) : Int) from by simp, ← Int.natCast_emod, Nat.mul_mod_left]; rfl) (by omega)
  rw [this]
  omega

/-- How many bytes x's varint has. -/
def ulen (x : Nat) : Nat := (Lib.uvarint x).length
theorem ulen_small {x : Nat} (h : x < 128) : ulen x = 1 := by rw [ulen, uvarint_small h]; rfl
theorem ulen_big {x : Nat} (h : 128 ≤ x) : ulen x = ulen (x / 128) + 1 := by rw [ulen, uvarint_big h, List.length_cons]; rfl
theorem ulen_pos (x : Nat) : 1 ≤ ulen x := uvarint_pos x
theorem ulen_le {x : Nat} (h : x < 18446744073709551616) : ulen x ≤ 10 := uvarint_length64 h

theorem bitLenAux_le : ∀ f x, bitLenAux f x ≤ f
  | 0, x => by simp [bitLenAux]
  | f + 1, x => by
    simp only [bitLenAux]
    split
    · omega
    · have := bitLenAux_le f (x / 2); omega
theorem bitLen_le (x : Nat) : bitLen x ≤ 64 := bitLenAux_le 64 x
theorem bitLen_odd (z : Nat) (h0 : z ≠ 0) (h : z < 2 ^ 64) : bitLen (2 * (z / 2) + 1) = bitLen z := by
  rw [bitLen_half z h0 h, bitLen_half (2 * (z / 2) + 1) (by omega) (by omega)]
  congr 2
  omega
theorem len7 : ∀ n : Fin 128, (bitLen (2 * (n.val / 2) + 1) + 6) / 7 = 1 := by decide +kernel
theorem ulen_bits (x : Nat) (hx : x < 18446744073709551616) : (bitLen (2 * (x / 2) + 1) + 6) / 7 = ulen x := by
  induction x using Nat.strongRecOn with
  | _ x ih =>
    by_cases h : x < 128
    · rw [ulen_small h]
      exact len7 ⟨x, h⟩
    · rw [ulen_big (by omega), bitLen_shift 7 _ (by omega) (by omega), ← ih (x / 128) (by omega) (by omega), bitLen_odd (x / 128) (by omega) (by omega)]
      rw [show (2 * (x / 2) + 1) / 2 ^ 7 = x / 128 by omega]
      omega

/-- A field's bytes; a list of fields. -/
def field (f : List UInt8) : List UInt8 := Lib.uvarint f.length ++ f
def fields (L : List (List UInt8)) : List UInt8 := Lib.uvarint L.length ++ (L.map field).flatten
/-- How long what was gone over is as fields. -/
def flen (L : List (List UInt8)) : Nat := (L.map fun f => ulen f.length + f.length).sum
theorem flen_le (L : List (List UInt8)) (h : ∀ f ∈ L, f.length ≤ 1048576) : flen L ≤ L.length * 1048586 := by
  induction L with
  | nil => simp [flen]
  | cons f L ih =>
    have h1 := ih (fun g hg => h g (by simp [hg]))
    have h2 := h f (by simp)
    have h3 := ulen_le (x := f.length) (by omega)
    simp only [flen, List.map_cons, List.sum_cons, List.length_cons] at *
    omega
theorem flen_snoc (L : List (List UInt8)) (f : List UInt8) : flen (L ++ [f]) = flen L + (ulen f.length + f.length) := by simp [flen]
theorem fields_len (L : List (List UInt8)) : (L.map field).flatten.length = flen L := by
  induction L with
  | nil => rfl
  | cons f L ih => simp only [List.map_cons, List.flatten_cons, List.length_append, ih, flen, List.sum_cons, field, ulen]

theorem ulen_mono : ∀ (b a : Nat), a ≤ b → ulen a ≤ ulen b := by
  intro b
  induction b using Nat.strongRecOn with
  | _ b ih =>
    intro a h
    by_cases ha : a < 128
    · rw [ulen_small ha]; exact ulen_pos b
    · rw [ulen_big (by omega), ulen_big (x := b) (by omega)]
      have := ih (b / 128) (by omega) (a / 128) (by omega)
      omega

/-- A fixed number, the lowest byte first; and back. -/
def leB (n : Nat) : Nat → List UInt8
  | 0 => []
  | k + 1 => leB n k ++ [(n / 2 ^ (8 * k) % 256).toUInt8]
def leNat : List UInt8 → Nat
  | [] => 0
  | c :: r => c.toNat + 256 * leNat r
theorem leB_length (n : Nat) : ∀ k, (leB n k).length = k
  | 0 => rfl
  | k + 1 => by simp [leB, leB_length n k]
theorem leNat_snoc : ∀ (l : List UInt8) (c : UInt8), leNat (l ++ [c]) = leNat l + c.toNat * 2 ^ (8 * l.length)
  | [], c => by simp [leNat]
  | d :: l, c => by
    simp only [List.cons_append, leNat, leNat_snoc l c, List.length_cons, Nat.mul_add, Nat.pow_add]
    rw [Nat.mul_left_comm 256 c.toNat, ← Nat.add_assoc]
    congr 2
    rw [Nat.mul_comm 256]
theorem leNat_lt : ∀ (l : List UInt8), leNat l < 2 ^ (8 * l.length)
  | [] => by decide
  | d :: l => by
    have := leNat_lt l
    have hd := d.toNat_lt
    simp only [leNat, List.length_cons, Nat.mul_add, Nat.pow_add]
    have e : (2 : Nat) ^ (8 * 1) = 256 := by decide
    rw [e]
    omega
/-- How long a number is in bits. -/
theorem bitLen_le_iff (n k : Nat) (hn : n < 18446744073709551616) (hk : k ≤ 64) : Lib.bitLen n ≤ k ↔ n < 2 ^ k := by
  induction k generalizing n with
  | zero =>
    by_cases h : n = 0
    · subst h; simp [Lib.bitLen, Lib.bitLenAux]
    · have := bitLen_half n h (by omega)
      simp; omega
  | succ k ih =>
    by_cases h : n = 0
    · subst h; simp [Lib.bitLen, Lib.bitLenAux, Nat.two_pow_pos]
    · rw [bitLen_half n h (by omega), Nat.pow_succ]
      have := ih (n / 2) (by omega) (by omega)
      omega
theorem or8 {k acc c : Nat} (hk : k < 8) (hacc : acc < 2 ^ (8 * k)) (hc : c < 256) :
    bits .or .u64 (acc : Int) (IntKind.u64.wrap ((c : Int) * ((2 ^ (8 * k) : Nat) : Int))) = ((acc + c * 2 ^ (8 * k) : Nat) : Int) ∧ acc + c * 2 ^ (8 * k) < 18446744073709551616 := by
  have h1 : 2 ^ (8 * (k + 1)) ≤ 2 ^ 64 := Nat.pow_le_pow_right (by decide) (by omega)
  have e : 2 ^ (8 * (k + 1)) = 2 ^ (8 * k) * 256 := by rw [Nat.mul_add, Nat.pow_add]
  have h2 : c * 2 ^ (8 * k) ≤ 255 * 2 ^ (8 * k) := Nat.mul_le_mul_right _ (by omega)
  have hlt : acc + c * 2 ^ (8 * k) < 18446744073709551616 := by
    have e64 : (2 : Nat) ^ 64 = 18446744073709551616 := by decide
    omega
  rw [← Int.natCast_mul, u64_wrap_id ((c * 2 ^ (8 * k) : Nat) : Int) (by omega) (by omega)]
  have hacc' : ((acc : Nat) : Int) < 2 ^ (8 * k) := by exact_mod_cast hacc
  have := bits_join_low .u64 64 (by decide) wraps_u64 (8 * k) (acc : Int) ((c * 2 ^ (8 * k) : Nat) : Int) (by omega) hacc' (by omega) (by omega) (by
    rw [show ((2 : Int) ^ (8 * k)) = ((2 ^ (8 * k) : Nat) : Int) from by simp, ← Int.natCast_emod, Nat.mul_mod_left]; rfl) (by omega)
  rw [this]
  exact ⟨by omega, hlt⟩

/-- A length or a count, not above most. -/
def rdLen (most : Nat) (bs : List UInt8) : Except Int (Nat × Nat) :=
  match rd 0 0 bs with
  | .error x => .error x
  | .ok (n, m) => if most < n then .error 2 else .ok (n, m)
/-- A field: its bytes, and how many bytes it took. -/
def rdField (bs : List UInt8) : Except Int (List UInt8 × Nat) :=
  match rdLen 1048576 bs with
  | .error x => .error x
  | .ok (n, m) => if bs.length < m + n then .error 20 else .ok ((bs.drop m).take n, m + n)
/-- k fields, one behind the other. -/
def rdMany : Nat → List UInt8 → Except Int (List (List UInt8) × Nat)
  | 0, _ => .ok ([], 0)
  | k + 1, bs =>
    match rdField bs with
    | .error x => .error x
    | .ok (f, m) =>
      match rdMany k (bs.drop m) with
      | .error x => .error x
      | .ok (l, m') => .ok (f :: l, m + m')
def rdFields (bs : List UInt8) : Except Int (List (List UInt8) × Nat) :=
  match rdLen 65536 bs with
  | .error x => .error x
  | .ok (n, m) =>
    match rdMany n (bs.drop m) with
    | .error x => .error x
    | .ok (l, m') => .ok (l, m + m')

theorem rd_lt : ∀ (bs : List UInt8) (i acc n m : Nat), i ≤ 9 → acc < 2 ^ (7 * i) → rd i acc bs = .ok (n, m) → n < 18446744073709551616 ∧ i < m ∧ m ≤ i + bs.length
  | [], i, acc, n, m, hi, ha, h => by simp [rd] at h
  | c :: r, i, acc, n, m, hi, ha, h => by
    rw [rd] at h
    split at h
    · cases h
    · rename_i hb
      split at h
      · rename_i h128
        simp only [Except.ok.injEq, Prod.mk.injEq] at h
        obtain ⟨rfl, rfl⟩ := h
        have := (rd_fits hi ha h128 (by omega)).1
        simp only [List.length_cons]
        exact ⟨this, by omega, by omega⟩
      · rename_i h128
        have := (rd_fits hi ha (Nat.mod_lt c.toNat (by decide)) (by omega)).2 (by omega)
        have ih := rd_lt r (i + 1) _ n m (by omega) this h
        simp only [List.length_cons]
        omega
theorem rdLen_lt {most : Nat} {bs : List UInt8} {n m : Nat} (h : rdLen most bs = .ok (n, m)) : n ≤ most ∧ 1 ≤ m ∧ m ≤ bs.length ∧ rd 0 0 bs = .ok (n, m) := by
  unfold rdLen at h
  split at h
  · cases h
  · rename_i n' m' h'
    split at h
    · cases h
    · simp only [Except.ok.injEq, Prod.mk.injEq] at h
      obtain ⟨rfl, rfl⟩ := h
      have := rd_lt bs 0 0 n' m' (by omega) (by decide) h'
      exact ⟨by omega, by omega, by omega, h'⟩
theorem rdField_lt {bs f : List UInt8} {m : Nat} (h : rdField bs = .ok (f, m)) : f.length ≤ 1048576 ∧ 1 ≤ m ∧ m ≤ bs.length ∧ f.length < m := by
  unfold rdField at h
  split at h
  · cases h
  · rename_i n' m' h'
    have h2 := rdLen_lt h'
    split at h
    · cases h
    · simp only [Except.ok.injEq, Prod.mk.injEq] at h
      obtain ⟨rfl, rfl⟩ := h
      simp only [List.length_take, List.length_drop]
      omega
theorem rdMany_lt : ∀ (k : Nat) (bs : List UInt8) (l : List (List UInt8)) (m : Nat), rdMany k bs = .ok (l, m) → l.length = k ∧ m ≤ bs.length ∧ k ≤ m
  | 0, bs, l, m, h => by simp [rdMany] at h; obtain ⟨rfl, rfl⟩ := h; simp
  | k + 1, bs, l, m, h => by
    rw [rdMany] at h
    split at h
    · cases h
    · rename_i f m1 h1
      split at h
      · cases h
      · rename_i l' m2 h2
        simp only [Except.ok.injEq, Prod.mk.injEq] at h
        obtain ⟨rfl, rfl⟩ := h
        have := rdField_lt h1
        have ih := rdMany_lt k _ _ _ h2
        simp only [List.length_drop, List.length_cons] at *
        omega
end Go.Proofs.YtpdacbiiaglodaaGreat
