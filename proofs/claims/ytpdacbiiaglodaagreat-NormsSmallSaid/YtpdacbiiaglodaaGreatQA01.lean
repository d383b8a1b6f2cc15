/-
  PLAIN MATHEMATICS FOR LAYER 2 (codec): what reading and writing numbers and fields comes to, on lists of bytes. No program, no world.
-/
import Derived.Lib.Varint
import Derived.Lib.VarintMem
import Derived.Laws.BitsLemmas
import Derived.Lib.EndianBits
import Derived.Lib.VarintBits
import Derived.Laws.Closers25b
import Derived.Lib.BitFns
import Derived.WalkKit
import Derived.OneCell
import Derived.Deep.Draws
import Derived.Maps.AppendAt
import Derived.Lib.UnsafeStr
import Derived.Lib.Hide
import Derived.Test.YtpdacbiiaglodaaGreatRows
import Derived.WalkSpells
import Derived.WalkLawsBesides
import Derived.BigQuiet
import Derived.Deep.QuietTactic
namespace Go.Proofs.YtpdacbiiaglodaaGreat
set_option maxRecDepth 100000
open Go.Lib

/-- Reading a varint: i bytes are read, acc is gathered. -/
def rd (i acc : Nat) : List UInt8 → Except Int (Nat × Nat)
  | [] => .error 20
  | c :: r => if (i = 9 ∧ 1 < c.toNat) ∨ (0 < i ∧ c.toNat = 0) then .error 21
      else if c.toNat < 128 then .ok (acc + c.toNat * 2 ^ (7 * i), i + 1)
      else rd (i + 1) (acc + c.toNat % 128 * 2 ^ (7 * i)) r

theorem pow7_split (i : Nat) (h : i ≤ 9) : 2 ^ (7 * i) * 2 ^ (63 - 7 * i) = 2 ^ 63 := by
  rw [← Nat.pow_add]; congr 1; omega

theorem pow7_succ (i : Nat) : 2 ^ (7 * (i + 1)) = 2 ^ (7 * i) * 128 := by
  rw [Nat.mul_add, Nat.pow_add]

/-- What one byte adds stays a uint64, and is beyond what was gathered. -/
theorem rd_fits {i acc c : Nat} (hi : i ≤ 9) (hacc : acc < 2 ^ (7 * i)) (hc : c < 128) (h9 : i = 9 → c ≤ 1) : acc + c * 2 ^ (7 * i) < 18446744073709551616 ∧ (i ≤ 8 → acc + c * 2 ^ (7 * i) < 2 ^ (7 * (i + 1))) := by
  have hs : acc + c * 2 ^ (7 * i) < 2 ^ (7 * i) * (c + 1) := by rw [Nat.mul_add, Nat.mul_comm c]; omega
  by_cases h : i = 9
  · subst h
    have := h9 rfl
    have e : (2 : Nat) ^ (7 * 9) = 9223372036854775808 := by decide
    rw [e] at hacc ⊢
    exact ⟨by omega, fun h => by omega⟩
  · have h2 : 2 ^ (7 * i) * (c + 1) ≤ 2 ^ (7 * i) * 128 := Nat.mul_le_mul_left _ (by omega)
    rw [← pow7_succ] at h2
    have h3 : 2 ^ (7 * (i + 1)) ≤ 2 ^ 63 := Nat.pow_le_pow_right (by decide) (by omega)
    have e : (2 : Nat) ^ 63 = 9223372036854775808 := by decide
    exact ⟨by omega, fun _ => by omega⟩

/-- 'n |= uint64(c&0x7f) << (7*i)', as a sum. -/
theorem orv {i acc c : Nat} {P : Int} (hP : P = ((2 ^ (7 * i) : Nat) : Int)) (hi : i ≤ 9) (hacc : acc < 2 ^ (7 * i)) (hc : c < 256) (h9 : i = 9 → c % 128 ≤ 1) :
    bits .or .u64 (acc : Int) (IntKind.u64.wrap (IntKind.u64.wrap (bits .and .u8 (c : Int) 127) * P)) = ((acc + c % 128 * 2 ^ (7 * i) : Nat) : Int) := by
  subst hP
  have hf := (rd_fits hi hacc (Nat.mod_lt c (by decide)) h9).1
  have e1 : bits .and .u8 (c : Int) 127 = ((c % 128 : Nat) : Int) := by rw [u8_and127 _ (by omega) (by omega)]; omega
  rw [e1, u64_wrap_id ((c % 128 : Nat) : Int) (by omega) (by omega), ← Int.natCast_mul, u64_wrap_id ((c % 128 * 2 ^ (7 * i) : Nat) : Int) (by omega) (by omega)]
  have hacc' : ((acc : Nat) : Int) < 2 ^ (7 * i) := by exact_mod_cast hacc
  have := bits_join_low .u64 64 (by decide) wraps_u64 (7 * i) (acc : Int) ((c % 128 * 2 ^ (7 * i) : Nat) : Int) (by omega) hacc' (by omega) (by omega) (by
    rw [show ((2 : Int) ^ (7 * i)) = ((2 ^ (7 * i) : Nat) : Int) from by simp, ← Int.natCast_emod, Nat.mul_mod_left]; rfl) (by omega)
  rw [this]
  omega

/-- How many bytes x's varint has. -/
def ulen (x : Nat) : Nat := (Lib.uvarint x).length
theorem ulen_small {x : Nat} (h : x < 128) : ulen x = 1 := by rw [ulen, uvarint_small h]; rfl
theorem ulen_big {x : Nat} (h : 128 ≤ x) : ulen x = ulen (x / 128) + 1 := by rw [ulen, uvarint_big h, List.length_cons]; rfl
theorem ulen_pos (x : Nat) : 1 ≤ ulen x := uvarint_pos x
theorem ulen_le {x : Nat} (h : x < 18446744073709551616) : ulen x ≤ 10 := uvarint_length64 h

theorem bitLenAux_le : ∀ f x, bitLenAux f x ≤ f
  | 0, x => by simp [bitLenAux]
  | f + 1, x => by
    simp only [bitLenAux]
    split
    · omega
    · have := bitLenAux_le f (x / 2); omega
theorem bitLen_le (x : Nat) : bitLen x ≤ 64 := bitLenAux_le 64 x
theorem bitLen_odd (z : Nat) (h0 : z ≠ 0) (h : z < 2 ^ 64) : bitLen (2 * (z / 2) + 1) = bitLen z := by
  rw [bitLen_half z h0 h, bitLen_half (2 * (z / 2) + 1) (by omega) (by omega)]
  congr 2
  omega
theorem len7 : ∀ n : Fin 128, (bitLen (2 * (n.val / 2) + 1) + 6) / 7 = 1 := by decide +kernel
theorem ulen_bits (x : Nat) (hx : x < 18446744073709551616) : (bitLen (2 * (x / 2) + 1) + 6) / 7 = ulen x := by
  induction x using Nat.strongRecOn with
  | _ x ih =>
    by_cases h : x < 128
    · rw [ulen_small h]
      exact len7 ⟨x, h⟩
    · rw [ulen_big (by omega), bitLen_shift 7 _ (by omega) (by omega), ← ih (x / 128) (by omega) (by omega), bitLen_odd (x / 128) (by omega) (by omega)]
      rw [show (2 * (x / 2) + 1) / 2 ^ 7 = x / 128 by omega]
      omega

/-- A field's bytes; a list of fields. -/
def field (f : List UInt8) : List UInt8 := Lib.uvarint f.length ++ f
def fields (L : List (List UInt8)) : List UInt8 := Lib.uvarint L.length ++ (L.map field).flatten
/-- How long what was gone over is as fields. -/
def flen (L : List (List UInt8)) : Nat := (L.map fun f => ulen f.length + f.length).sum
theorem flen_le (L : List (List UInt8)) (h : ∀ f ∈ L, f.length ≤ 1048576) : flen L ≤ L.length * 1048586 := by
  induction L with
  | nil => simp [flen]
  | cons f L ih =>
    have h1 := ih (fun g hg => h g (by simp [hg]))
    have h2 := h f (by simp)
    have h3 := ulen_le (x := f.length) (by omega)
    simp only [flen, List.map_cons, List.sum_cons, List.length_cons] at *
    omega
theorem flen_snoc (L : List (List UInt8)) (f : List UInt8) : flen (L ++ [f]) = flen L + (ulen f.length + f.length) := by simp [flen]
theorem fields_len (L : List (List UInt8)) : (L.map field).flatten.length = flen L := by
  induction L with
  | nil => rfl
  | cons f L ih => simp only [List.map_cons, List.flatten_cons, List.length_append, ih, flen, List.sum_cons, field, ulen]

theorem ulen_mono : ∀ (b a : Nat), a ≤ b → ulen a ≤ ulen b := by
  intro b
  induction b using Nat.strongRecOn with
  | _ b ih =>
    intro a h
    by_cases ha : a < 128
    · rw [ulen_small ha]; exact ulen_pos b
    · rw [ulen_big (by omega), ulen_big (x := b) (by omega)]
      have := ih (b / 128) (by omega) (a / 128) (by omega)
      omega

/-- A fixed number, the lowest byte first; and back. -/
def leB (n : Nat) : Nat → List UInt8
  | 0 => []
  | k + 1 => leB n k ++ [(n / 2 ^ (8 * k) % 256).toUInt8]
def leNat : List UInt8 → Nat
  | [] => 0
  | c :: r => c.toNat + 256 * leNat r
theorem leB_length (n : Nat) : ∀ k, (leB n k).length = k
  | 0 => rfl
  | k + 1 => by simp [leB, leB_length n k]
theorem leNat_snoc : ∀ (l : List UInt8) (c : UInt8), leNat (l ++ [c]) = leNat l + c.toNat * 2 ^ (8 * l.length)
  | [], c => by simp [leNat]
  | d :: l, c => by
    simp only [List.cons_append, leNat, leNat_snoc l c, List.length_cons, Nat.mul_add, Nat.pow_add]
    rw [Nat.mul_left_comm 256 c.toNat, ← Nat.add_assoc]
    congr 2
    rw [Nat.mul_comm 256]
theorem leNat_lt : ∀ (l : List UInt8), leNat l < 2 ^ (8 * l.length)
  | [] => by decide
  | d :: l => by
    have := leNat_lt l
    have hd := d.toNat_lt
    simp only [leNat, List.length_cons, Nat.mul_add, Nat.pow_add]
    have e : (2 : Nat) ^ (8 * 1) = 256 := by decide
    rw [e]
    omega
/-- How long a number is in bits. -/
theorem bitLen_le_iff (n k : Nat) (hn : n < 18446744073709551616) (hk : k ≤ 64) : Lib.bitLen n ≤ k ↔ n < 2 ^ k := by
  induction k generalizing n with
  | zero =>
    by_cases h : n = 0
    · subst h; simp [Lib.bitLen, Lib.bitLenAux]
    · have := bitLen_half n h (by omega)
      simp; omega
  | succ k ih =>
    by_cases h : n = 0
    · subst h; simp [Lib.bitLen, Lib.bitLenAux, Nat.two_pow_pos]
    · rw [bitLen_half n h (by omega), Nat.pow_succ]
      have := ih (n / 2) (by omega) (by omega)
      omega
theorem or8 {k acc c : Nat} (hk : k < 8) (hacc : acc < 2 ^ (8 * k)) (hc : c < 256) :
    bits .or .u64 (acc : Int) (IntKind.u64.wrap ((c : Int) * ((2 ^ (8 * k) : Nat) : Int))) = ((acc + c * 2 ^ (8 * k) : Nat) : Int) ∧ acc + c * 2 ^ (8 * k) < 18446744073709551616 := by
  have h1 : 2 ^ (8 * (k + 1)) ≤ 2 ^ 64 := Nat.pow_le_pow_right (by decide) (by omega)
  have e : 2 ^ (8 * (k + 1)) = 2 ^ (8 * k) * 256 := by rw [Nat.mul_add, Nat.pow_add]
  have h2 : c * 2 ^ (8 * k) ≤ 255 * 2 ^ (8 * k) := Nat.mul_le_mul_right _ (by omega)
  have hlt : acc + c * 2 ^ (8 * k) < 18446744073709551616 := by
    have e64 : (2 : Nat) ^ 64 = 18446744073709551616 := by decide
    omega
  rw [← Int.natCast_mul, u64_wrap_id ((c * 2 ^ (8 * k) : Nat) : Int) (by omega) (by omega)]
  have hacc' : ((acc : Nat) : Int) < 2 ^ (8 * k) := by exact_mod_cast hacc
  have := bits_join_low .u64 64 (by decide) wraps_u64 (8 * k) (acc : Int) ((c * 2 ^ (8 * k) : Nat) : Int) (by omega) hacc' (by omega) (by omega) (by
    rw [show ((2 : Int) ^ (8 * k)) = ((2 ^ (8 * k) : Nat) : Int) from by simp, ← Int.natCast_emod, Nat.mul_mod_left]; rfl) (by omega)
  rw [this]
  exact ⟨by omega, hlt⟩

/-- A length or a count, not above most. -/
def rdLen (most : Nat) (bs : List UInt8) : Except Int (Nat × Nat) :=
  match rd 0 0 bs with
  | .error x => .error x
  | .ok (n, m) => if most < n then .error 2 else .ok (n, m)
/-- A field: its bytes, and how many bytes it took. -/
def rdField (bs : List UInt8) : Except Int (List UInt8 × Nat) :=
  match rdLen 1048576 bs with
  | .error x => .error x
  | .ok (n, m) => if bs.length < m + n then .error 20 else .ok ((bs.drop m).take n, m + n)
/-- k fields, one behind the other. -/
def rdMany : Nat → List UInt8 → Except Int (List (List UInt8) × Nat)
  | 0, _ => .ok ([], 0)
  | k + 1, bs =>
    match rdField bs with
    | .error x => .error x
    | .ok (f, m) =>
      match rdMany k (bs.drop m) with
      | .error x => .error x
      | .ok (l, m') => .ok (f :: l, m + m')
def rdFields (bs : List UInt8) : Except Int (List (List UInt8) × Nat) :=
  match rdLen 65536 bs with
  | .error x => .error x
  | .ok (n, m) =>
    match rdMany n (bs.drop m) with
    | .error x => .error x
    | .ok (l, m') => .ok (l, m + m')

theorem rd_lt : ∀ (bs : List UInt8) (i acc n m : Nat), i ≤ 9 → acc < 2 ^ (7 * i) → rd i acc bs = .ok (n, m) → n < 18446744073709551616 ∧ i < m ∧ m ≤ i + bs.length
  | [], i, acc, n, m, hi, ha, h => by simp [rd] at h
  | c :: r, i, acc, n, m, hi, ha, h => by
    rw [rd] at h
    split at h
    · cases h
    · rename_i hb
      split at h
      · rename_i h128
        simp only [Except.ok.injEq, Prod.mk.injEq] at h
        obtain ⟨rfl, rfl⟩ := h
        have := (rd_fits hi ha h128 (by omega)).1
        simp only [List.length_cons]
        exact ⟨this, by omega, by omega⟩
      · rename_i h128
        have := (rd_fits hi ha (Nat.mod_lt c.toNat (by decide)) (by omega)).2 (by omega)
        have ih := rd_lt r (i + 1) _ n m (by omega) this h
        simp only [List.length_cons]
        omega
theorem rdLen_lt {most : Nat} {bs : List UInt8} {n m : Nat} (h : rdLen most bs = .ok (n, m)) : n ≤ most ∧ 1 ≤ m ∧ m ≤ bs.length ∧ rd 0 0 bs = .ok (n, m) := by
  unfold rdLen at h
  split at h
  · cases h
  · rename_i n' m' h'
    split at h
    · cases h
    · simp only [Except.ok.injEq, Prod.mk.injEq] at h
      obtain ⟨rfl, rfl⟩ := h
      have := rd_lt bs 0 0 n' m' (by omega) (by decide) h'
      exact ⟨by omega, by omega, by omega, h'⟩
theorem rdField_lt {bs f : List UInt8} {m : Nat} (h : rdField bs = .ok (f, m)) : f.length ≤ 1048576 ∧ 1 ≤ m ∧ m ≤ bs.length ∧ f.length < m := by
  unfold rdField at h
  split at h
  · cases h
  · rename_i n' m' h'
    have h2 := rdLen_lt h'
    split at h
    · cases h
    · simp only [Except.ok.injEq, Prod.mk.injEq] at h
      obtain ⟨rfl, rfl⟩ := h
      simp only [List.length_take, List.length_drop]
      omega
theorem rdMany_lt : ∀ (k : Nat) (bs : List UInt8) (l : List (List UInt8)) (m : Nat), rdMany k bs = .ok (l, m) → l.length = k ∧ m ≤ bs.length ∧ k ≤ m
  | 0, bs, l, m, h => by simp [rdMany] at h; obtain ⟨rfl, rfl⟩ := h; simp
  | k + 1, bs, l, m, h => by
    rw [rdMany] at h
    split at h
    · cases h
    · rename_i f m1 h1
      split at h
      · cases h
      · rename_i l' m2 h2
        simp only [Except.ok.injEq, Prod.mk.injEq] at h
        obtain ⟨rfl, rfl⟩ := h
        have := rdField_lt h1
        have ih := rdMany_lt k _ _ _ h2
        simp only [List.length_drop, List.length_cons] at *
        omega
end Go.Proofs.YtpdacbiiaglodaaGreat

/-
  PLAIN WORDS FOR LAYER 2 (codec): what a slice of bytes reads as; what a call owns; the block of four cells that a reader is; what only one block's turn keeps. No program is named here.
-/
namespace Go.Proofs.YtpdacbiiaglodaaGreat
set_option maxRecDepth 100000
open Go.RowKit Go.Lib

/-- A slice of bytes reads as bs: it is nil and bs is empty, or it leads to a row whose first cells are bs. -/
def Reads (w : World) (v : Value) (bs : List UInt8) : Prop :=
  (v = .slice none 0 0 ∧ bs = []) ∨
  ∃ b off cap, v = .slice (some ⟨b, off, none⟩) bs.length cap ∧ bs.length ≤ cap ∧ cap ≤ maxLen ∧
    ∀ i u, bs[i]? = some u → w.cell? ⟨b, off + i, none⟩ = some (.int .u8 (u.toNat : Int))

/-- The call owns the bytes bs: they lie in a block from B on, from its first cell on. -/
def Owns (w : World) (B : Nat) (e : TypeId) (v : Value) (bs : List UInt8) : Prop := w.ownsRow B e 1 v bs.length (byteCells bs)

theorem byteCells_get {bs : List UInt8} {i : Nat} : (byteCells bs)[i]? = (bs[i]?).map fun u => Value.int .u8 (u.toNat : Int) := by
  simp [byteCells]

theorem Owns.reads {w : World} {B : Nat} {e : TypeId} {v : Value} {bs : List UInt8} (h : Owns w B e v bs) : Reads w v bs := by
  have h0 := h
  obtain ⟨_, ⟨rfl, hn⟩ | ⟨g, cap, cur, rfl, hB, hg, hn, hc, hs, ht⟩⟩ := h
  · exact .inl ⟨rfl, List.length_eq_zero_iff.1 hn⟩
  · refine .inr ⟨g, 0, cap, rfl, hn, hc, fun i u hu => ?_⟩
    have hi : i < bs.length := (List.getElem?_eq_some_iff.1 hu).1
    rw [Nat.zero_add, World.ownsRow.cellAt h0 i (by omega), byteCells_get, hu]
    rfl

theorem Owns.lt {w : World} {B : Nat} {e : TypeId} {v : Value} {bs : List UInt8} (h : Owns w B e v bs) : ∀ k, v.ownBlock = some k → B ≤ k ∧ k < w.heap.size := World.ownsRow.lt h

theorem Owns.kept {w w' : World} {B : Nat} {e : TypeId} {v : Value} {bs : List UInt8} {row : Option Nat} (h : Owns w B e v bs) (hg : w.grownBy w' row) (hne : v.ownBlock = none ∨ v.ownBlock ≠ row) : Owns w' B e v bs :=
  World.ownsRow.kept h hg hne

theorem Owns.mono {w : World} {B B' : Nat} {e : TypeId} {v : Value} {bs : List UInt8} (h : Owns w B e v bs) (hB : B' ≤ B) : Owns w B' e v bs := by
  obtain ⟨h1, h2 | ⟨g, cap, cur, hv, hb, r⟩⟩ := h
  · exact ⟨h1, .inl h2⟩
  · exact ⟨h1, .inr ⟨g, cap, cur, hv, by omega, r⟩⟩

/-- What a slice reads as is kept where its block is. -/
theorem Reads.kept {w w' : World} {v : Value} {bs : List UInt8} {row : Option Nat} (h : Reads w v bs) (hg : w.grownBy w' row) (hne : v.ownBlock = none ∨ v.ownBlock ≠ row) : Reads w' v bs := by
  rcases h with h | ⟨b, off, cap, rfl, h1, h2, hc⟩
  · exact .inl h
  · refine .inr ⟨b, off, cap, rfl, h1, h2, fun i u hu => ?_⟩
    exact hg.cell (hc i u hu) (by simpa [Value.ownBlock] using hne)

theorem Reads.below {w w' : World} {B : Nat} {v : Value} {bs : List UInt8} (h : Reads w v bs) (hb : Below B w w') (hlt : bs ≠ [] → ∀ k, v.ownBlock = some k → k < B) : Reads w' v bs := by
  rcases h with h | ⟨b, off, cap, rfl, h1, h2, hc⟩
  · exact .inl h
  · refine .inr ⟨b, off, cap, rfl, h1, h2, fun i u hu => ?_⟩
    have hn : bs ≠ [] := by rintro rfl; simp at hu
    exact (hb.cell (p := ⟨b, off + i, none⟩) (hlt hn b rfl)).trans (hc i u hu)

/-- All that a world had is there in the next one (the blocks of the first are in the second as they were). -/
theorem Reads.all {w w' : World} {v : Value} {bs : List UInt8} (h : Reads w v bs) (hb : Below w.heap.size w w') : Reads w' v bs := by
  rcases h with h | ⟨b, off, cap, rfl, h1, h2, hc⟩
  · exact .inl h
  · refine .inr ⟨b, off, cap, rfl, h1, h2, fun i u hu => ?_⟩
    have := hc i u hu
    have hl : b < w.heap.size := World.block_lt_of_cell? w _ this
    exact (hb.cell (p := ⟨b, off + i, none⟩) hl).trans this

/-- A step that turns a block which is new since 'a'. -/
theorem gnew {a b c : World} {row row' : Option Nat} (h : a.grownBy b row) (k : b.grownBy c row') (hn : ∀ r, row' = some r → a.heap.size ≤ r ∨ row = some r) : a.grownBy c row :=
  ⟨k.os.trans h.os, k.tape.trans h.tape, k.output.trans h.output, Nat.le_trans h.size k.size, fun i hi hne => by
    refine (k.block i (Nat.lt_of_lt_of_le hi h.size) ?_).trans (h.block i hi hne)
    intro e
    rcases hn i e.symm with h | h
    · omega
    · exact hne h.symm⟩
theorem gdrewN {a b : World} {row : Option Nat} (h : a.grownBy b row) (n : Nat) : a.grownBy (b.drewN n) row :=
  ⟨h.os, h.tape, h.output, h.size, h.block⟩
theorem gdrew {a b : World} {row : Option Nat} (h : a.grownBy b row) : a.grownBy b.drew row :=
  ⟨h.os, h.tape, h.output, h.size, h.block⟩
theorem gset {a b : World} {r : Nat} (h : a.grownBy b (some r)) (o : Nat) (u : Value) : a.grownBy (b.setCell ⟨r, o, none⟩ u) (some r) :=
  h.trans ⟨rfl, rfl, rfl, by simp [World.setCell], fun k _ hne => Below.heap_setCell _ _ _ _ (fun e => hne (by simp [e]))⟩
theorem galloc {a b : World} {row : Option Nat} (h : a.grownBy b row) (o : Obj) : a.grownBy (b.alloc o) row := h.trans (World.grownBy_alloc b o row)
theorem gbelow {a b : World} {row : Option Nat} {B : Nat} (h : a.grownBy b row) (hB : B ≤ a.heap.size) (hr : ∀ r, row = some r → B ≤ r) : Below B a b :=
  ⟨h.os, h.tape, h.output, h.size, fun k hk => h.block k (by omega) (fun e => by have := hr k e.symm; omega)⟩
theorem belowg_drew {a b : World} (h : a.drew.grownBy b none) : Below a.heap.size a b := ⟨h.os, h.tape, h.output, h.size, fun k hk => h.block k hk (by simp)⟩
theorem belowg' {a b : World} (h : a.grownBy b none) : Below a.heap.size a b := ⟨h.os, h.tape, h.output, h.size, fun k hk => h.block k hk (by simp)⟩
theorem belowg {a b : World} (h : Below a.heap.size a b) (row : Option Nat) : a.grownBy b row :=
  ⟨h.os, h.tape, h.output, h.size, fun k hk _ => h.block k hk⟩

/-- A reader's block: made, its bytes, how far, its error. -/
def Rd (w : World) (r : Nat) (vb : Value) (pos : Nat) (err : Int) : Prop :=
  w.heap[r]? = some (.cells #[.bool true, vb, .int .i64 (pos : Int), .int .i64 err] 214 (0, 0))

section
variable {w : World} {r : Nat} {vb : Value} {pos : Nat} {er : Int}
theorem Rd.made (h : Rd w r vb pos er) : w.cell? ⟨r, 0, none⟩ = some (.bool true) := by simp [World.cell?, show _ = _ from h]
theorem Rd.bytes (h : Rd w r vb pos er) : w.cell? ⟨r, 1, none⟩ = some vb := by simp [World.cell?, show _ = _ from h]
theorem Rd.at (h : Rd w r vb pos er) : w.cell? ⟨r, 2, none⟩ = some (.int .i64 (pos : Int)) := by simp [World.cell?, show _ = _ from h]
theorem Rd.err (h : Rd w r vb pos er) : w.cell? ⟨r, 3, none⟩ = some (.int .i64 er) := by simp [World.cell?, show _ = _ from h]
theorem Rd.free (h : Rd w r vb pos er) (o : Nat) : w.frozen? ⟨r, o, none⟩ = false := by simp [World.frozen?, show _ = _ from h]
theorem Rd.lt (h : Rd w r vb pos er) : r < w.heap.size := lt_of_block h
theorem Rd.setAt (h : Rd w r vb pos er) (pos' : Nat) : Rd (w.setCell ⟨r, 2, none⟩ (.int .i64 (pos' : Int))) r vb pos' er :=
  heap_setCell_same w r 2 _ _ _ h
theorem Rd.setErr (h : Rd w r vb pos er) (err' : Int) : Rd (w.setCell ⟨r, 3, none⟩ (.int .i64 err')) r vb pos err' :=
  heap_setCell_same w r 3 _ _ _ h
theorem Rd.kept {w' : World} {row : Option Nat} (h : Rd w r vb pos er) (hg : w.grownBy w' row) (hne : row ≠ some r) : Rd w' r vb pos er :=
  (hg.block r h.lt (fun e => hne e.symm)).trans h
theorem Rd.drewN (h : Rd w r vb pos er) (n : Nat) : Rd (w.drewN n) r vb pos er := h
/-- The reader's own block is not that of its bytes. -/
theorem Rd.apart {bs : List UInt8} (h : Rd w r vb pos er) (hb : Reads w vb bs) : vb.ownBlock ≠ some r ∨ bs = [] := by
  rcases hb with ⟨_, rfl⟩ | ⟨b, off, cap, rfl, _, _, hc⟩
  · exact .inr rfl
  · by_cases e : bs = []
    · exact .inr e
    · left
      intro hb'
      simp [Value.ownBlock] at hb'
      subst hb'
      obtain ⟨u, l, rfl⟩ := List.exists_cons_of_ne_nil e
      have := hc 0 u rfl
      simp only [World.cell?, show _ = _ from h] at this
      simp only [Nat.add_zero] at this
      rcases off with _ | _ | _ | _ | off <;> simp at this
end

theorem Reads.slice {w : World} {a : Option Addr} {l c : Nat} {bs : List UInt8} (h : Reads w (.slice a l c) bs) : l = bs.length ∧ l ≤ c ∧ c ≤ maxLen := by
  rcases h with ⟨h, rfl⟩ | ⟨b, off, cap, h, h1, h2, _⟩
  · simp at h
    obtain ⟨rfl, rfl, rfl⟩ := h
    simp
  · simp at h
    obtain ⟨rfl, rfl, rfl⟩ := h
    exact ⟨rfl, h1, h2⟩
theorem Reads.form {w : World} {v : Value} {bs : List UInt8} (h : Reads w v bs) : ∃ a cap, v = .slice a bs.length cap := by
  rcases h with ⟨rfl, rfl⟩ | ⟨b, off, cap, rfl, _⟩
  · exact ⟨none, 0, rfl⟩
  · exact ⟨_, _, rfl⟩

/-- A piece of a slice, as the model cuts it. -/
theorem Reads.cut {w : World} {a : Option Addr} {l c : Nat} {bs : List UInt8} (h : Reads w (.slice a l c) bs) (p n : Nat) (hp : p + n ≤ bs.length) :
    Reads w (.slice (a.map fun x => x.add p) n (c - p)) ((bs.drop p).take n) := by
  have hl : ((bs.drop p).take n).length = n := by simp; omega
  rcases h with ⟨h, rfl⟩ | ⟨b, off, cap, h, h1, h2, hc⟩
  · simp at h hp
    obtain ⟨rfl, rfl, rfl⟩ := h
    obtain ⟨rfl, rfl⟩ := hp
    exact .inl ⟨rfl, rfl⟩
  · simp at h
    obtain ⟨rfl, rfl, rfl⟩ := h
    refine .inr ⟨b, off + p, c - p, ?_, by omega, by omega, fun i u hu => ?_⟩
    · rw [hl]
      simp [Addr.add]
    · have := hc (p + i) u (by
        rw [List.getElem?_take] at hu
        split at hu
        · rwa [List.getElem?_drop] at hu
        · cases hu)
      rwa [← Nat.add_assoc] at this
/-- Where the cut lies at the end of all room, the model leaves the address. -/
theorem Reads.nothing {w : World} {a : Option Addr} {l c : Nat} {bs : List UInt8} (h : Reads w (.slice a l c) bs) : Reads w (.slice a 0 0) [] := by
  rcases h with ⟨h, rfl⟩ | ⟨b, off, cap, h, h1, h2, hc⟩
  · simp at h
    obtain ⟨rfl, rfl, rfl⟩ := h
    exact .inl ⟨rfl, rfl⟩
  · simp at h
    obtain ⟨rfl, rfl, rfl⟩ := h
    exact .inr ⟨b, off, 0, rfl, by simp, by simp, fun i u hu => by simp at hu⟩
theorem Reads.one {w : World} {v : Value} {u : UInt8} (h : Reads w v [u]) : ∃ b off cap, v = .slice (some ⟨b, off, none⟩) 1 cap ∧ w.cell? ⟨b, off, none⟩ = some (.int .u8 (u.toNat : Int)) := by
  rcases h with ⟨_, h⟩ | ⟨b, off, cap, rfl, _, _, hc⟩
  · cases h
  · exact ⟨b, off, cap, rfl, hc 0 u rfl⟩

/-- The reader's bytes are kept where its own block alone is turned. -/
theorem Rd.carry {w w' : World} {r : Nat} {vb : Value} {pos : Nat} {er : Int} {bs : List UInt8} (h : Rd w r vb pos er) (hb : Reads w vb bs) (hg : w.grownBy w' (some r)) : Reads w' vb bs := by
  rcases h.apart hb with e | rfl
  · exact hb.kept hg (.inr e)
  · rcases hb with ⟨hh, _⟩ | ⟨b, off, c, hh, h1, h2, _⟩
    · exact .inl ⟨hh, rfl⟩
    · exact .inr ⟨b, off, c, hh, h1, h2, fun i u hu => by simp at hu⟩

/-- New blocks alone: what was read is read. -/
theorem Reads.new {w w' : World} {v : Value} {bs : List UInt8} (h : Reads w v bs) (hg : w.grownBy w' none) : Reads w' v bs :=
  h.kept hg (by cases v.ownBlock <;> simp)
theorem Owns.new {w w' : World} {B : Nat} {e : TypeId} {v : Value} {bs : List UInt8} (h : Owns w B e v bs) (hg : w.grownBy w' none) : Owns w' B e v bs :=
  h.kept hg (by cases v.ownBlock <;> simp)
theorem Rd.new {w w' : World} {r : Nat} {vb : Value} {pos : Nat} {er : Int} (h : Rd w r vb pos er) (hg : w.grownBy w' none) : Rd w' r vb pos er := h.kept hg (by simp)
/-- A reader that lies in a block of its own, over bytes that were there. -/
theorem rd_made (v : Value) (w : World) : Rd (w.alloc (.cells #[.bool true, v, .int .i64 0, .int .i64 0] 214)) w.heap.size v 0 0 := by
  unfold Rd; simpa using heap_alloc_new w _

/-- A slice whose elements take one cell each: its elements' values. -/
def Row (w : World) (v : Value) (vs : List Value) : Prop :=
  (v = .slice none 0 0 ∧ vs = []) ∨
  ∃ b off cap, v = .slice (some ⟨b, off, none⟩) vs.length cap ∧ vs.length ≤ cap ∧ cap ≤ maxLen ∧
    ∀ i u, vs[i]? = some u → w.cell? ⟨b, off + i, none⟩ = some u

/-- A slice of slices of bytes reads as the lists L. -/
def ReadsL (w : World) (v : Value) (L : List (List UInt8)) : Prop :=
  ∃ vs : List Value, vs.length = L.length ∧ Row w v vs ∧ ∀ (i : Nat) (x : Value) (f : List UInt8), vs[i]? = some x → L[i]? = some f → Reads w x f

theorem Row.all {w w' : World} {v : Value} {vs : List Value} (h : Row w v vs) (hb : Below w.heap.size w w') : Row w' v vs := by
  rcases h with h | ⟨b, off, cap, rfl, h1, h2, hc⟩
  · exact .inl h
  · refine .inr ⟨b, off, cap, rfl, h1, h2, fun i u hu => ?_⟩
    have := hc i u hu
    have hl : b < w.heap.size := World.block_lt_of_cell? w _ this
    exact (hb.cell (p := ⟨b, off + i, none⟩) hl).trans this
theorem ReadsL.all {w w' : World} {v : Value} {L : List (List UInt8)} (h : ReadsL w v L) (hb : Below w.heap.size w w') : ReadsL w' v L := by
  obtain ⟨vs, h1, h2, h3⟩ := h
  exact ⟨vs, h1, h2.all hb, fun i x f hx hf => (h3 i x f hx hf).all hb⟩
theorem Reads.lt {w : World} {v : Value} {bs : List UInt8} (h : Reads w v bs) (hn : bs ≠ []) : ∀ k, v.ownBlock = some k → k < w.heap.size := by
  rcases h with ⟨rfl, rfl⟩ | ⟨b, off, cap, rfl, _, _, hc⟩
  · exact absurd rfl hn
  · intro k hk
    simp [Value.ownBlock] at hk
    subst hk
    obtain ⟨u, l, rfl⟩ := List.exists_cons_of_ne_nil hn
    exact World.block_lt_of_cell? w _ (hc 0 u rfl)
end Go.Proofs.YtpdacbiiaglodaaGreat

/-
  LAYER 2 (codec): LEAVES: isMade, Err, over, next.
-/
namespace Go.Proofs.YtpdacbiiaglodaaGreat
set_option maxRecDepth 100000
open Go.RowKit Go.Lib

set_option maxHeartbeats 400000 in
theorem isMade_rd (r : Nat) (vb : Value) (pos : Nat) (err : Int) (w : World) (h : Rd w r vb pos err) :
    Calls Tryz.prog 178 #[.pointer (some ⟨r, 0, none⟩)] w fun e w' => e = .returned (.bool true) ∧ w = w' := by
  have h0 := h.made
  go_enter Tryz.func178, Tryz.ntmps178
  go_wp2
  go_ret
  exact ⟨rfl, rfl⟩

set_option maxHeartbeats 400000 in
theorem err_rd (r : Nat) (vb : Value) (pos : Nat) (err : Int) (w : World) (h : Rd w r vb pos err) :
    Calls Tryz.prog 152 #[.pointer (some ⟨r, 0, none⟩)] w fun e w' => e = .returned (.int .i64 err) ∧ w = w' := by
  have h3 := h.err
  go_enter Tryz.func152, Tryz.ntmps152
  go_wp2_with (go_at_call 178; refine (isMade_rd _ _ _ _ _ h).mono ?_; rintro e w' ⟨rfl, rfl⟩)
  go_ret
  exact ⟨rfl, rfl⟩

set_option maxHeartbeats 400000 in
theorem over_any (a : Option Addr) (l c : Nat) (w : World) :
    Calls Tryz.prog 144 #[.slice a l c] w fun e w' => e = .returned (.pointer (some ⟨w.heap.size, 0, none⟩)) ∧ w' = w.alloc (.cells #[.bool true, .slice a l c, .int .i64 0, .int .i64 0] 214) := by
  go_enter Tryz.func144, Tryz.ntmps144
  go_wp2
  go_ret
  exact ⟨rfl, rfl⟩

set_option maxHeartbeats 400000 in
theorem next_neg (r : Nat) (n : Int) (w : World) (hn : n < 0) :
    Calls Tryz.prog 148 #[.pointer (some ⟨r, 0, none⟩), .int .i64 n] w fun e w' => e = .panicked [{ v := .iface 228 (.int .i64 1), recovered := false }] ∧ w = w' := by
  go_enter Tryz.func148, Tryz.ntmps148
  go_wp2
  exact ⟨rfl, rfl, rfl⟩

set_option maxHeartbeats 400000 in
theorem next_short (r : Nat) (n : Int) (a : Option Addr) (len cap : Nat) (pos : Nat) (er : Int) (w : World) (hn : 0 ≤ n) (h : Rd w r (.slice a len cap) pos er) (hp : pos ≤ len) (hlen : len ≤ maxLen) (hs : (len : Int) - pos < n) :
    Calls Tryz.prog 148 #[.pointer (some ⟨r, 0, none⟩), .int .i64 n] w fun e w' => e = .panicked [{ v := .iface 228 (.int .i64 20), recovered := false }] ∧ ∃ k, w' = w.drewN k := by
  unfold maxLen at hlen
  have h1 := h.bytes
  have h2 := h.at
  go_enter Tryz.func148, Tryz.ntmps148
  go_wp2
  go_quiet (fail)
  go_wp2
  exact ⟨rfl, rfl, ⟨_, rfl⟩⟩

set_option maxHeartbeats 400000 in
theorem next_ok (r : Nat) (n : Nat) (a : Option Addr) (len cap : Nat) (bs : List UInt8) (pos : Nat) (er : Int) (w : World) (hR : Rd w r (.slice a len cap) pos er) (hr : Reads w (.slice a len cap) bs) (hs : pos + n ≤ bs.length) :
    Calls Tryz.prog 148 #[.pointer (some ⟨r, 0, none⟩), .int .i64 (n : Int)] w fun e w' => ∃ v, e = .returned v ∧ w.grownBy w' (some r) ∧ Rd w' r (.slice a len cap) (pos + n) er ∧ Reads w' v ((bs.drop pos).take n) ∧ (v.ownBlock = a.map (·.block)) := by
  obtain ⟨rfl, hc, hm⟩ := hr.slice
  unfold maxLen at hm
  have h1 := hR.bytes
  have h2 := hR.at
  have hf := hR.free 2
  go_enter Tryz.func148, Tryz.ntmps148
  go_wp2
  go_quiet (fail)
  go_wp2
  go_quiet (fail)
  go_wp2
  all_goals
    go_ret
    rename_i e1 k1 e2
    have hh := (hR.drewN k1).setAt (pos + n)
    have hg : w.grownBy (((w.drewN k1).setCell ⟨r, 2, none⟩ (.int .i64 ((pos + n : Nat) : Int))).drewN nq) (some r) := gdrewN (gset (gdrewN (World.grownBy.refl w _) _) _ _) _
    have hk : Reads (((w.drewN k1).setCell ⟨r, 2, none⟩ (.int .i64 ((pos + n : Nat) : Int))).drewN nq) (.slice a bs.length cap) bs := hR.carry hr hg
  · subst h
    obtain rfl : n = 0 := by omega
    exact ⟨.slice a 0 0, rfl, hg, hh, by simpa using hk.nothing, by cases a <;> rfl⟩
  · exact ⟨.slice (a.map fun x => x.add pos) n (cap - pos), rfl, hg, hh, hk.cut pos n hs, by cases a <;> simp [Value.ownBlock, Addr.add]; split <;> rfl⟩
end Go.Proofs.YtpdacbiiaglodaaGreat

/-
  LAYER 2 (codec): nextUint.
-/
namespace Go.Proofs.YtpdacbiiaglodaaGreat
set_option maxRecDepth 100000
open Go.RowKit Go.Lib

set_option maxHeartbeats 1000000 in
set_option maxRecDepth 20000 in
theorem nextUint_ok (r : Nat) (a : Option Addr) (len cap : Nat) (bs : List UInt8) (pos : Nat) (er : Int) (n m : Nat) (w : World) (hR : Rd w r (.slice a len cap) pos er) (hr : Reads w (.slice a len cap) bs) (hs : pos ≤ bs.length) (hrd : rd 0 0 (bs.drop pos) = .ok (n, m)) :
    Calls Tryz.prog 197 #[.pointer (some ⟨r, 0, none⟩)] w fun e w' => e = .returned (.int .u64 (n : Int)) ∧ w.grownBy w' (some r) ∧ Rd w' r (.slice a len cap) (pos + m) er := by
  obtain ⟨rfl, hc, hm⟩ := hr.slice
  have hrd' := Lib.hid hrd; clear hrd
  go_enter Tryz.func197, Tryz.ntmps197
  go_wp2
  go_loopw [3, 4] (fun vn vi wr => ∃ i acc : Nat, vi = .int .i64 (i : Int) ∧ vn = .int .u64 (acc : Int) ∧ i ≤ 9 ∧ acc < 2 ^ (7 * i) ∧ Hid (rd i acc (bs.drop (pos + i)) = .ok (n, m)) ∧ pos + i ≤ bs.length ∧ w.grownBy wr (some r) ∧ Rd wr r (.slice a bs.length cap) (pos + i) er ∧ Reads wr (.slice a bs.length cap) bs) (fun _ vi _ => 10 - (intOf vi).toNat)
  case atStart => exact ⟨0, 0, rfl, rfl, by omega, by decide, hrd', by omega, World.grownBy.refl _ _, hR, hr⟩
  case round =>
    obtain ⟨i, acc, rfl, rfl, hi, hacc, hrd, hle, hg, hR1, hr1⟩ := hrel
    have hrd1 := hrd.out; clear hrd
    by_cases hlt : pos + i < bs.length
    · have hdrop : bs.drop (pos + i) = bs[pos + i] :: bs.drop (pos + i + 1) := List.drop_eq_getElem_cons (by omega)
      rw [hdrop] at hrd1
      have hnext := next_ok r 1 a bs.length cap bs (pos + i) er wr hR1 hr1 (by omega)
      rw [hdrop] at hnext
      generalize bs[pos + i] = c at hrd1 hnext
      simp only [List.take_succ_cons, List.take_zero] at hnext
      clear hdrop
      have hb := c.toNat_lt
      by_cases hbad : (i = 9 ∧ 1 < c.toNat) ∨ (0 < i ∧ c.toNat = 0)
      · rw [rd, if_pos hbad] at hrd1; cases hrd1
      · rw [rd, if_neg hbad] at hrd1
        have hA := Lib.hid hacc
        have hH := hrd1
        clear hrd1
        have hHid := Lib.hid hH; clear hH
        have hBad := Lib.hid hbad
        by_cases hi9 : i = 9
        · subst hi9
          have hc1 : c.toNat ≤ 1 := by omega
          have hz : ((c.toNat : Int) == 0) = false := by rw [beq_eq_false_iff_ne]; omega
          clear hbad hacc
          go_wp2_with (go_at_call 148; refine hnext.mono ?_; rintro e w1 ⟨v, rfl, hg1, hR2, hrv, -⟩)
          obtain ⟨b, off, cap', rfl, hcell⟩ := hrv.one
          go_wp2
          go_simp
          go_wp2
          have hH := hHid.out
          rw [if_pos (by omega)] at hH
          have hv := orv (c := c.toNat) (P := 9223372036854775808) (by decide) hi hA.out hb (by omega)
          rw [Nat.mod_eq_of_lt (show c.toNat < 128 by omega)] at hv
          simp only [Except.ok.injEq, Prod.mk.injEq] at hH
          obtain ⟨rfl, rfl⟩ := hH
          go_ret
          exact ⟨congrArg (fun x => Ending.returned (Value.int .u64 x)) hv, hg.trans hg1, hR2⟩
        · by_cases hi0 : i = 0
          · subst hi0
            clear hbad hacc
            go_wp2_with (go_at_call 148; refine hnext.mono ?_; rintro e w1 ⟨v, rfl, hg1, hR2, hrv, -⟩)
            obtain ⟨b, off, cap', rfl, hcell⟩ := hrv.one
            go_wp2
            go_simp
            go_wp2
            all_goals
              have hv := orv (c := c.toNat) (P := 1) (by decide) hi hA.out hb (by omega)
              rw [Int.mul_one] at hv
              have hH := hHid.out
            · have hlt : (c.toNat : Int) < 128 := by assumption
              rw [if_pos (by omega)] at hH
              rw [Nat.mod_eq_of_lt (show c.toNat < 128 by omega)] at hv
              simp only [Except.ok.injEq, Prod.mk.injEq] at hH
              obtain ⟨rfl, rfl⟩ := hH
              go_ret
              exact ⟨congrArg (fun x => Ending.returned (Value.int .u64 x)) hv, hg.trans hg1, hR2⟩
            · have hlt : 128 ≤ (c.toNat : Int) := by assumption
              rw [if_neg (by omega)] at hH
              exact ⟨⟨1, _, rfl, congrArg (Value.int .u64) hv, by omega, (rd_fits hi hA.out (Nat.mod_lt _ (by decide)) (by omega)).2 (by omega), hH, by omega, hg.trans hg1, hR2, hR1.carry hr1 hg1⟩, by simp [intOf]⟩
          · have hi8 : i ≤ 8 := by omega
            have hn9 : ((i : Int) == 9) = false := by rw [beq_eq_false_iff_ne]; omega
            have hi1 : 1 ≤ i := by omega
            have hz : ((c.toNat : Int) == 0) = false := by rw [beq_eq_false_iff_ne]; omega
            clear hacc hbad hi9 hi0
            go_wp2_with (go_at_call 148; refine hnext.mono ?_; rintro e w1 ⟨v, rfl, hg1, hR2, hrv, -⟩)
            obtain ⟨b, off, cap', rfl, hcell⟩ := hrv.one
            go_wp2
            go_simp
            go_wp2
            all_goals
              have hv := orv (c := c.toNat) (P := 2 ^ (7 * i)) (by simp) hi hA.out hb (by omega)
              have hH := hHid.out
            · have hlt : (c.toNat : Int) < 128 := by assumption
              rw [if_pos (by omega)] at hH
              rw [Nat.mod_eq_of_lt (show c.toNat < 128 by omega)] at hv
              simp only [Except.ok.injEq, Prod.mk.injEq] at hH
              obtain ⟨rfl, rfl⟩ := hH
              go_ret
              exact ⟨congrArg (fun x => Ending.returned (Value.int .u64 x)) hv, hg.trans hg1, hR2⟩
            · have hlt : 128 ≤ (c.toNat : Int) := by assumption
              rw [if_neg (by omega)] at hH
              exact ⟨⟨i + 1, _, by go_num, congrArg (Value.int .u64) hv, by omega, (rd_fits hi hA.out (Nat.mod_lt _ (by decide)) (by omega)).2 (by omega), hH, by omega, hg.trans hg1, hR2, hR1.carry hr1 hg1⟩, by simp [intOf]; omega⟩
    · rw [List.drop_eq_nil_of_le (by omega), rd] at hrd1
      cases hrd1

set_option maxHeartbeats 1000000 in
set_option maxRecDepth 20000 in
theorem nextUint_bad (r : Nat) (a : Option Addr) (len cap : Nat) (bs : List UInt8) (pos : Nat) (er : Int) (x : Int) (w : World) (hR : Rd w r (.slice a len cap) pos er) (hr : Reads w (.slice a len cap) bs) (hs : pos ≤ bs.length) (hrd : rd 0 0 (bs.drop pos) = .error x) :
    Calls Tryz.prog 197 #[.pointer (some ⟨r, 0, none⟩)] w fun e w' => ∃ p, e = .panicked [{ v := .iface 228 (.int .i64 x), recovered := false }] ∧ w.grownBy w' (some r) ∧ Rd w' r (.slice a len cap) p er := by
  obtain ⟨rfl, hc, hm⟩ := hr.slice
  have hrd' := Lib.hid hrd; clear hrd
  go_enter Tryz.func197, Tryz.ntmps197
  go_wp2
  go_loopw [3, 4] (fun vn vi wr => ∃ i acc : Nat, vi = .int .i64 (i : Int) ∧ vn = .int .u64 (acc : Int) ∧ i ≤ 9 ∧ acc < 2 ^ (7 * i) ∧ Hid (rd i acc (bs.drop (pos + i)) = .error x) ∧ pos + i ≤ bs.length ∧ w.grownBy wr (some r) ∧ Rd wr r (.slice a bs.length cap) (pos + i) er ∧ Reads wr (.slice a bs.length cap) bs) (fun _ vi _ => 10 - (intOf vi).toNat)
  case atStart => exact ⟨0, 0, rfl, rfl, by omega, by decide, hrd', by omega, World.grownBy.refl _ _, hR, hr⟩
  case round =>
    obtain ⟨i, acc, rfl, rfl, hi, hacc, hrd, hle, hg, hR1, hr1⟩ := hrel
    have hrd1 := hrd.out; clear hrd
    by_cases hlt : pos + i < bs.length
    · have hdrop : bs.drop (pos + i) = bs[pos + i] :: bs.drop (pos + i + 1) := List.drop_eq_getElem_cons (by omega)
      rw [hdrop] at hrd1
      have hnext := next_ok r 1 a bs.length cap bs (pos + i) er wr hR1 hr1 (by omega)
      rw [hdrop] at hnext
      generalize bs[pos + i] = c at hrd1 hnext
      simp only [List.take_succ_cons, List.take_zero] at hnext
      clear hdrop
      have hb := c.toNat_lt
      by_cases hbad : (i = 9 ∧ 1 < c.toNat) ∨ (0 < i ∧ c.toNat = 0)
      · rw [rd, if_pos hbad] at hrd1
        simp only [Except.error.injEq] at hrd1
        subst hrd1
        by_cases h9 : i = 9 ∧ 1 < c.toNat
        · obtain ⟨rfl, h1⟩ := h9
          have h1' : 1 < (c.toNat : Int) := by omega
          clear hbad hacc
          go_wp2_with (go_at_call 148; refine hnext.mono ?_; rintro e w1 ⟨v, rfl, hg1, hR2, hrv, -⟩)
          obtain ⟨b, off, cap', rfl, hcell⟩ := hrv.one
          go_wp2
          go_simp
          go_wp2
          exact ⟨rfl, _, rfl, hg.trans hg1, hR2⟩
        · have h0 : 0 < i ∧ c.toNat = 0 := by omega
          obtain ⟨hi1, h0⟩ := h0
          have hi1' : (0 : Int) < (i : Int) := by omega
          have hz : ((c.toNat : Int) == 0) = true := by rw [beq_iff_eq]; omega
          have hz1 : decide (1 < (c.toNat : Int)) = false := by rw [decide_eq_false_iff_not]; omega
          clear hbad hacc h9
          have h0' := Lib.hid h0
          clear h0
          go_wp2_with (go_at_call 148; refine hnext.mono ?_; rintro e w1 ⟨v, rfl, hg1, hR2, hrv, -⟩)
          obtain ⟨b, off, cap', rfl, hcell⟩ := hrv.one
          go_wp2
          go_simp
          go_wp2
          all_goals first | exact ⟨rfl, _, rfl, hg.trans hg1, hR2⟩ | (exfalso; have := h0'.out; simp_all; done)
      · rw [rd, if_neg hbad] at hrd1
        have hA := Lib.hid hacc
        have hH := hrd1
        clear hrd1
        have hHid := Lib.hid hH
        have hBad := Lib.hid hbad
        have h128 : ¬ c.toNat < 128 := fun hx => by rw [if_pos hx] at hH; cases hH
        have h128' : 128 ≤ (c.toNat : Int) := by omega
        clear hH
        have hi8 : i ≤ 8 := by omega
        by_cases hi0 : i = 0
        · subst hi0
          clear hbad hacc h128
          go_wp2_with (go_at_call 148; refine hnext.mono ?_; rintro e w1 ⟨v, rfl, hg1, hR2, hrv, -⟩)
          obtain ⟨b, off, cap', rfl, hcell⟩ := hrv.one
          go_wp2
          go_simp
          go_wp2
          have hv := orv (c := c.toNat) (P := 1) (by decide) hi hA.out hb (by omega)
          rw [Int.mul_one] at hv
          have hH := hHid.out
          rw [if_neg (by omega)] at hH
          exact ⟨⟨1, _, rfl, congrArg (Value.int .u64) hv, by omega, (rd_fits hi hA.out (Nat.mod_lt _ (by decide)) (by omega)).2 (by omega), hH, by omega, hg.trans hg1, hR2, hR1.carry hr1 hg1⟩, by simp [intOf]⟩
        · have hn9 : ((i : Int) == 9) = false := by rw [beq_eq_false_iff_ne]; omega
          have hi1 : 1 ≤ i := by omega
          have hz : ((c.toNat : Int) == 0) = false := by rw [beq_eq_false_iff_ne]; omega
          clear hacc hbad hi0 h128
          go_wp2_with (go_at_call 148; refine hnext.mono ?_; rintro e w1 ⟨v, rfl, hg1, hR2, hrv, -⟩)
          obtain ⟨b, off, cap', rfl, hcell⟩ := hrv.one
          go_wp2
          go_simp
          go_wp2
          have hv := orv (c := c.toNat) (P := 2 ^ (7 * i)) (by simp) hi hA.out hb (by omega)
          have hH := hHid.out
          rw [if_neg (by omega)] at hH
          exact ⟨⟨i + 1, _, by go_num, congrArg (Value.int .u64) hv, by omega, (rd_fits hi hA.out (Nat.mod_lt _ (by decide)) (by omega)).2 (by omega), hH, by omega, hg.trans hg1, hR2, hR1.carry hr1 hg1⟩, by simp [intOf]; omega⟩
    · rw [List.drop_eq_nil_of_le (by omega), rd] at hrd1
      simp only [Except.error.injEq] at hrd1
      subst hrd1
      clear hacc
      go_wp2_with (go_at_call 148; refine (next_short r 1 a bs.length cap (pos + i) er wr (by omega) hR1 hle (by omega) (by omega)).mono ?_; rintro e w1 ⟨rfl, k, rfl⟩)
      go_wp2
      exact ⟨rfl, _, rfl, gdrewN hg _, hR1.drewN _⟩
end Go.Proofs.YtpdacbiiaglodaaGreat
