/-
  PLAIN WORDS FOR LAYER 2 (codec): what a slice of bytes reads as; what a call owns; the block of four cells that a reader is; what only one block's turn keeps. No program is named here.
-/
import Derived.WalkKit
import Derived.OneCell
import Derived.Deep.Draws
import Derived.Maps.AppendAt
import Derived.Lib.Varint
import Derived.Lib.VarintMem
import Derived.Lib.UnsafeStr
import Derived.Lib.Hide
import Derived.Test.YtpdacbiiaglodaaGreatQE01
import Derived.Laws.BitsLemmas
import Derived.RangeFuncNested
import Derived.RangeFuncLeaves
import Derived.RangeFuncCalls
namespace Go.Proofs.YtpdacbiiaglodaaGreat
set_option maxRecDepth 100000
open Go.RowKit Go.Lib

/-- A slice of bytes reads as bs: it is nil and bs is empty, or it leads to a row whose first cells are bs. -/
def Reads (w : World) (v : Value) (bs : List UInt8) : Prop :=
  (v = .slice none 0 0 ∧ bs = []) ∨
  ∃ b off cap, v = .slice (some ⟨b, off, none⟩) bs.length cap ∧ bs.length ≤ cap ∧ cap ≤ maxLen ∧
    ∀ i u, bs[i]? = some u → w.cell? ⟨b, off + i, none⟩ = some (.int .u8 (u.toNat : Int))

/-- The call owns the bytes bs: they lie in a block from B on, from its first cell on. -/
def Owns (w : World) (B : Nat) (e : TypeId) (v : Value) (bs : List UInt8) : Prop := w.ownsRow B e 1 v bs.length (byteCells bs)

theorem byteCells_get {bs : List UInt8} {i : Nat} : (byteCells bs)[i]? = (bs[i]?).map fun u => Value.int .u8 (u.toNat : Int) := by
  simp [byteCells]

theorem Owns.reads {w : World} {B : Nat} {e : TypeId} {v : Value} {bs : List UInt8} (h : Owns w B e v bs) : Reads w v bs := by
  have h0 := h
  obtain ⟨_, ⟨rfl, hn⟩ | ⟨g, cap, cur, rfl, hB, hg, hn, hc, hs, ht⟩⟩ := h
  · exact .inl ⟨rfl, List.length_eq_zero_iff.1 hn⟩
  · refine .inr ⟨g, 0, cap, rfl, hn, hc, fun i u hu => ?_⟩
    have hi : i < bs.length := (List.getElem?_eq_some_iff.1 hu).1
    rw [Nat.zero_add, World.ownsRow.cellAt h0 i (by omega), byteCells_get, hu]
    rfl

theorem Owns.lt {w : World} {B : Nat} {e : TypeId} {v : Value} {bs : List UInt8} (h : Owns w B e v bs) : ∀ k, v.ownBlock = some k → B ≤ k ∧ k < w.heap.size := World.ownsRow.lt h

theorem Owns.kept {w w' : World} {B : Nat} {e : TypeId} {v : Value} {bs : List UInt8} {row : Option Nat} (h : Owns w B e v bs) (hg : w.grownBy w' row) (hne : v.ownBlock = none ∨ v.ownBlock ≠ row) : Owns w' B e v bs :=
  World.ownsRow.kept h hg hne

theorem Owns.mono {w : World} {B B' : Nat} {e : TypeId} {v : Value} {bs : List UInt8} (h : Owns w B e v bs) (hB : B' ≤ B) : Owns w B' e v bs := by
  obtain ⟨h1, h2 | ⟨g, cap, cur, hv, hb, r⟩⟩ := h
  · exact ⟨h1, .inl h2⟩
  · exact ⟨h1, .inr ⟨g, cap, cur, hv, by omega, r⟩⟩

/-- What a slice reads as is kept where its block is. -/
theorem Reads.kept {w w' : World} {v : Value} {bs : List UInt8} {row : Option Nat} (h : Reads w v bs) (hg : w.grownBy w' row) (hne : v.ownBlock = none ∨ v.ownBlock ≠ row) : Reads w' v bs := by
  rcases h with h | ⟨b, off, cap, rfl, h1, h2, hc⟩
  · exact .inl h
  · refine .inr ⟨b, off, cap, rfl, h1, h2, fun i u hu => ?_⟩
    exact hg.cell (hc i u hu) (by simpa [Value.ownBlock] using hne)

theorem Reads.below {w w' : World} {B : Nat} {v : Value} {bs : List UInt8} (h : Reads w v bs) (hb : Below B w w') (hlt : bs ≠ [] → ∀ k, v.ownBlock = some k → k < B) : Reads w' v bs := by
  rcases h with h | ⟨b, off, cap, rfl, h1, h2, hc⟩
  · exact .inl h
  · refine .inr ⟨b, off, cap, rfl, h1, h2, fun i u hu => ?_⟩
    have hn : bs ≠ [] := by rintro rfl; simp at hu
    exact (hb.cell (p := ⟨b, off + i, none⟩) (hlt hn b rfl)).trans (hc i u hu)

/-- All that a world had is there in the next one (the blocks of the first are in the second as they were). -/
theorem Reads.all {w w' : World} {v : Value} {bs : List UInt8} (h : Reads w v bs) (hb : Below w.heap.size w w') : Reads w' v bs := by
  rcases h with h | ⟨b, off, cap, rfl, h1, h2, hc⟩
  · exact .inl h
  · refine .inr ⟨b, off, cap, rfl, h1, h2, fun i u hu => ?_⟩
    have := hc i u hu
    have hl : b < w.heap.size := World.block_lt_of_cell? w _ this
    exact (hb.cell (p := ⟨b, off + i, none⟩) hl).trans this

/-- A step that turns a block which is new since 'a'. -/
theorem gnew {a b c : World} {row row' : Option Nat} (h : a.grownBy b row) (k : b.grownBy c row') (hn : ∀ r, row' = some r → a.heap.size ≤ r ∨ row = some r) : a.grownBy c row :=
  ⟨k.os.trans h.os, k.tape.trans h.tape, k.output.trans h.output, Nat.le_trans h.size k.size, fun i hi hne => by
    refine (k.block i (Nat.lt_of_lt_of_le hi h.size) ?_).trans (h.block i hi hne)
    intro e
    rcases hn i e.symm with h | h
    · omega
    · exact hne h.symm⟩
theorem gdrewN {a b : World} {row : Option Nat} (h : a.grownBy b row) (n : Nat) : a.grownBy (b.drewN n) row :=
  ⟨h.os, h.tape, h.output, h.size, h.block⟩
theorem gdrew {a b : World} {row : Option Nat} (h : a.grownBy b row) : a.grownBy b.drew row :=
  ⟨h.os, h.tape, h.output, h.size, h.block⟩
theorem gset {a b : World} {r : Nat} (h : a.grownBy b (some r)) (o : Nat) (u : Value) : a.grownBy (b.setCell ⟨r, o, none⟩ u) (some r) :=
  h.trans ⟨rfl, rfl, rfl, by simp [World.setCell], fun k _ hne => Below.heap_setCell _ _ _ _ (fun e => hne (by simp [e]))⟩
theorem galloc {a b : World} {row : Option Nat} (h : a.grownBy b row) (o : Obj) : a.grownBy (b.alloc o) row := h.trans (World.grownBy_alloc b o row)
theorem gbelow {a b : World} {row : Option Nat} {B : Nat} (h : a.grownBy b row) (hB : B ≤ a.heap.size) (hr : ∀ r, row = some r → B ≤ r) : Below B a b :=
  ⟨h.os, h.tape, h.output, h.size, fun k hk => h.block k (by omega) (fun e => by have := hr k e.symm; omega)⟩
theorem belowg_drew {a b : World} (h : a.drew.grownBy b none) : Below a.heap.size a b := ⟨h.os, h.tape, h.output, h.size, fun k hk => h.block k hk (by simp)⟩
theorem belowg' {a b : World} (h : a.grownBy b none) : Below a.heap.size a b := ⟨h.os, h.tape, h.output, h.size, fun k hk => h.block k hk (by simp)⟩
theorem belowg {a b : World} (h : Below a.heap.size a b) (row : Option Nat) : a.grownBy b row :=
  ⟨h.os, h.tape, h.output, h.size, fun k hk _ => h.block k hk⟩

/-- A reader's block: made, its bytes, how far, its error. -/
def Rd (w : World) (r : Nat) (vb : Value) (pos : Nat) (err : Int) : Prop :=
  w.heap[r]? = some (.cells #[.bool true, vb, .int .i64 (pos : Int), .int .i64 err] 214 (0, 0))

section
variable {w : World} {r : Nat} {vb : Value} {pos : Nat} {er : Int}
theorem Rd.made (h : Rd w r vb pos er) : w.cell? ⟨r, 0, none⟩ = some (.bool true) := by simp [World.cell?, show _ = _ from h]
theorem Rd.bytes (h : Rd w r vb pos er) : w.cell? ⟨r, 1, none⟩ = some vb := by simp [World.cell?, show _ = _ from h]
theorem Rd.at (h : Rd w r vb pos er) : w.cell? ⟨r, 2, none⟩ = some (.int .i64 (pos : Int)) := by simp [World.cell?, show _ = _ from h]
theorem Rd.err (h : Rd w r vb pos er) : w.cell? ⟨r, 3, none⟩ = some (.int .i64 er) := by simp [World.cell?, show _ = _ from h]
theorem Rd.free (h : Rd w r vb pos er) (o : Nat) : w.frozen? ⟨r, o, none⟩ = false := by simp [World.frozen?, show _ = _ from h]
theorem Rd.lt (h : Rd w r vb pos er) : r < w.heap.size := lt_of_block h
theorem Rd.setAt (h : Rd w r vb pos er) (pos' : Nat) : Rd (w.setCell ⟨r, 2, none⟩ (.int .i64 (pos' : Int))) r vb pos' er :=
  heap_setCell_same w r 2 _ _ _ h
theorem Rd.setErr (h : Rd w r vb pos er) (err' : Int) : Rd (w.setCell ⟨r, 3, none⟩ (.int .i64 err')) r vb pos err' :=
  heap_setCell_same w r 3 _ _ _ h
theorem Rd.kept {w' : World} {row : Option Nat} (h : Rd w r vb pos er) (hg : w.grownBy w' row) (hne : row ≠ some r) : Rd w' r vb pos er :=
  (hg.block r h.lt (fun e => hne e.symm)).trans h
theorem Rd.drewN (h : Rd w r vb pos er) (n : Nat) : Rd (w.drewN n) r vb pos er := h
/-- The reader's own block is not that of its bytes. -/
theorem Rd.apart {bs : List UInt8} (h : Rd w r vb pos er) (hb : Reads w vb bs) : vb.ownBlock ≠ some r ∨ bs = [] := by
  rcases hb with ⟨_, rfl⟩ | ⟨b, off, cap, rfl, _, _, hc⟩
  · exact .inr rfl
  · by_cases e : bs = []
    · exact .inr e
    · left
      intro hb'
      simp [Value.ownBlock] at hb'
      subst hb'
      obtain ⟨u, l, rfl⟩ := List.exists_cons_of_ne_nil e
      have := hc 0 u rfl
      simp only [World.cell?, show _ = _ from h] at this
      simp only [Nat.add_zero] at this
      rcases off with _ | _ | _ | _ | off <;> simp at this
end

theorem Reads.slice {w : World} {a : Option Addr} {l c : Nat} {bs : List UInt8} (h : Reads w (.slice a l c) bs) : l = bs.length ∧ l ≤ c ∧ c ≤ maxLen := by
  rcases h with ⟨h, rfl⟩ | ⟨b, off, cap, h, h1, h2, _⟩
  · simp at h
    obtain ⟨rfl, rfl, rfl⟩ := h
    simp
  · simp at h
    obtain ⟨rfl, rfl, rfl⟩ := h
    exact ⟨rfl, h1, h2⟩
theorem Reads.form {w : World} {v : Value} {bs : List UInt8} (h : Reads w v bs) : ∃ a cap, v = .slice a bs.length cap := by
  rcases h with ⟨rfl, rfl⟩ | ⟨b, off, cap, rfl, _⟩
  · exact ⟨none, 0, rfl⟩
  · exact ⟨_, _, rfl⟩

/-- A piece of a slice, as the model cuts it. -/
theorem Reads.cut {w : World} {a : Option Addr} {l c : Nat} {bs : List UInt8} (h : Reads w (.slice a l c) bs) (p n : Nat) (hp : p + n ≤ bs.length) :
    Reads w (.slice (a.map fun x => x.add p) n (c - p)) ((bs.drop p).take n) := by
  have hl : ((bs.drop p).take n).length = n := by simp; omega
  rcases h with ⟨h, rfl⟩ | ⟨b, off, cap, h, h1, h2, hc⟩
  · simp at h hp
    obtain ⟨rfl, rfl, rfl⟩ := h
    obtain ⟨rfl, rfl⟩ := hp
    exact .inl ⟨rfl, rfl⟩
  · simp at h
    obtain ⟨rfl, rfl, rfl⟩ := h
    refine .inr ⟨b, off + p, c - p, ?_, by omega, by omega, fun i u hu => ?_⟩
    · rw [hl]
      simp [Addr.add]
    · have := hc (p + i) u (by
        rw [List.getElem?_take] at hu
        split at hu
        · rwa [List.getElem?_drop] at hu
        · cases hu)
      rwa [← Nat.add_assoc] at this
/-- Where the cut lies at the end of all room, the model leaves the address. -/
theorem Reads.nothing {w : World} {a : Option Addr} {l c : Nat} {bs : List UInt8} (h : Reads w (.slice a l c) bs) : Reads w (.slice a 0 0) [] := by
  rcases h with ⟨h, rfl⟩ | ⟨b, off, cap, h, h1, h2, hc⟩
  · simp at h
    obtain ⟨rfl, rfl, rfl⟩ := h
    exact .inl ⟨rfl, rfl⟩
  · simp at h
    obtain ⟨rfl, rfl, rfl⟩ := h
    exact .inr ⟨b, off, 0, rfl, by simp, by simp, fun i u hu => by simp at hu⟩
theorem Reads.one {w : World} {v : Value} {u : UInt8} (h : Reads w v [u]) : ∃ b off cap, v = .slice (some ⟨b, off, none⟩) 1 cap ∧ w.cell? ⟨b, off, none⟩ = some (.int .u8 (u.toNat : Int)) := by
  rcases h with ⟨_, h⟩ | ⟨b, off, cap, rfl, _, _, hc⟩
  · cases h
  · exact ⟨b, off, cap, rfl, hc 0 u rfl⟩

/-- The reader's bytes are kept where its own block alone is turned. -/
theorem Rd.carry {w w' : World} {r : Nat} {vb : Value} {pos : Nat} {er : Int} {bs : List UInt8} (h : Rd w r vb pos er) (hb : Reads w vb bs) (hg : w.grownBy w' (some r)) : Reads w' vb bs := by
  rcases h.apart hb with e | rfl
  · exact hb.kept hg (.inr e)
  · rcases hb with ⟨hh, _⟩ | ⟨b, off, c, hh, h1, h2, _⟩
    · exact .inl ⟨hh, rfl⟩
    · exact .inr ⟨b, off, c, hh, h1, h2, fun i u hu => by simp at hu⟩

/-- New blocks alone: what was read is read. -/
theorem Reads.new {w w' : World} {v : Value} {bs : List UInt8} (h : Reads w v bs) (hg : w.grownBy w' none) : Reads w' v bs :=
  h.kept hg (by cases v.ownBlock <;> simp)
theorem Owns.new {w w' : World} {B : Nat} {e : TypeId} {v : Value} {bs : List UInt8} (h : Owns w B e v bs) (hg : w.grownBy w' none) : Owns w' B e v bs :=
  h.kept hg (by cases v.ownBlock <;> simp)
theorem Rd.new {w w' : World} {r : Nat} {vb : Value} {pos : Nat} {er : Int} (h : Rd w r vb pos er) (hg : w.grownBy w' none) : Rd w' r vb pos er := h.kept hg (by simp)
/-- A reader that lies in a block of its own, over bytes that were there. -/
theorem rd_made (v : Value) (w : World) : Rd (w.alloc (.cells #[.bool true, v, .int .i64 0, .int .i64 0] 214)) w.heap.size v 0 0 := by
  unfold Rd; simpa using heap_alloc_new w _

/-- A slice whose elements take one cell each: its elements' values. -/
def Row (w : World) (v : Value) (vs : List Value) : Prop :=
  (v = .slice none 0 0 ∧ vs = []) ∨
  ∃ b off cap, v = .slice (some ⟨b, off, none⟩) vs.length cap ∧ vs.length ≤ cap ∧ cap ≤ maxLen ∧
    ∀ i u, vs[i]? = some u → w.cell? ⟨b, off + i, none⟩ = some u

/-- A slice of slices of bytes reads as the lists L. -/
def ReadsL (w : World) (v : Value) (L : List (List UInt8)) : Prop :=
  ∃ vs : List Value, vs.length = L.length ∧ Row w v vs ∧ ∀ (i : Nat) (x : Value) (f : List UInt8), vs[i]? = some x → L[i]? = some f → Reads w x f

theorem Row.all {w w' : World} {v : Value} {vs : List Value} (h : Row w v vs) (hb : Below w.heap.size w w') : Row w' v vs := by
  rcases h with h | ⟨b, off, cap, rfl, h1, h2, hc⟩
  · exact .inl h
  · refine .inr ⟨b, off, cap, rfl, h1, h2, fun i u hu => ?_⟩
    have := hc i u hu
    have hl : b < w.heap.size := World.block_lt_of_cell? w _ this
    exact (hb.cell (p := ⟨b, off + i, none⟩) hl).trans this
theorem ReadsL.all {w w' : World} {v : Value} {L : List (List UInt8)} (h : ReadsL w v L) (hb : Below w.heap.size w w') : ReadsL w' v L := by
  obtain ⟨vs, h1, h2, h3⟩ := h
  exact ⟨vs, h1, h2.all hb, fun i x f hx hf => (h3 i x f hx hf).all hb⟩
theorem Reads.lt {w : World} {v : Value} {bs : List UInt8} (h : Reads w v bs) (hn : bs ≠ []) : ∀ k, v.ownBlock = some k → k < w.heap.size := by
  rcases h with ⟨rfl, rfl⟩ | ⟨b, off, cap, rfl, _, _, hc⟩
  · exact absurd rfl hn
  · intro k hk
    simp [Value.ownBlock] at hk
    subst hk
    obtain ⟨u, l, rfl⟩ := List.exists_cons_of_ne_nil hn
    exact World.block_lt_of_cell? w _ (hc 0 u rfl)
end Go.Proofs.YtpdacbiiaglodaaGreat

/-
  PLAIN MATHEMATICS FOR LAYER 2 (codec): what was written is read, whatever follows; a beginning is refused; what is read is written again as just these bytes.
-/
namespace Go.Proofs.YtpdacbiiaglodaaGreat
set_option maxRecDepth 100000
open Go.Lib

theorem u8_big {c : UInt8} (h : 128 ≤ c.toNat) : (c.toNat % 128 + 128).toUInt8 = c := by
  have := c.toNat_lt
  rw [show c.toNat % 128 + 128 = c.toNat by omega]
  simp
theorem u8_self (c : UInt8) : c.toNat.toUInt8 = c := by simp

theorem rd_once : ∀ (bs : List UInt8) (i acc n m : Nat), rd i acc bs = .ok (n, m) → ∃ q k, n = acc + q * 2 ^ (7 * i) ∧ m = i + k ∧ 1 ≤ k ∧ k ≤ bs.length ∧ Lib.uvarint q = bs.take k ∧ (0 < i → 1 ≤ q)
  | [], i, acc, n, m, h => by simp [rd] at h
  | c :: r, i, acc, n, m, h => by
    rw [rd] at h
    split at h
    · cases h
    · rename_i hb
      split at h
      · rename_i h128
        simp only [Except.ok.injEq, Prod.mk.injEq] at h
        obtain ⟨rfl, rfl⟩ := h
        refine ⟨c.toNat, 1, rfl, rfl, Nat.le_refl _, by simp, ?_, fun hi => by omega⟩
        rw [uvarint_small h128, u8_self]
        rfl
      · rename_i h128
        obtain ⟨q, k, rfl, rfl, hk, hkl, hu, hq⟩ := rd_once r _ _ _ _ h
        have hq1 := hq (by omega)
        refine ⟨c.toNat % 128 + 128 * q, k + 1, ?_, by omega, by omega, by simp only [List.length_cons]; omega, ?_, fun _ => by omega⟩
        · rw [pow7_succ, Nat.add_mul, Nat.add_assoc]
          congr 2
          rw [Nat.mul_comm (2 ^ (7 * i)) 128, ← Nat.mul_assoc, Nat.mul_comm q 128]
        · rw [uvarint_big (by omega), show (c.toNat % 128 + 128 * q) % 128 = c.toNat % 128 by omega, show (c.toNat % 128 + 128 * q) / 128 = q by omega, u8_big (by omega), hu]
          rfl

theorem once_uint {bs : List UInt8} {n m : Nat} (h : rd 0 0 bs = .ok (n, m)) : Lib.uvarint n = bs.take m ∧ m ≤ bs.length ∧ n < 18446744073709551616 := by
  obtain ⟨q, k, h1, h2, _, h4, h5, _⟩ := rd_once bs 0 0 n m h
  have := rd_lt bs 0 0 n m (by omega) (by decide) h
  simp only [Nat.mul_zero, Nat.pow_zero, Nat.mul_one, Nat.zero_add] at h1 h2
  subst h1; subst h2
  exact ⟨h5, h4, this.1⟩

theorem pow7_pos (i : Nat) : 1 ≤ 2 ^ (7 * i) := Nat.one_le_two_pow

theorem small_at9 {i acc q : Nat} (h : acc + q * 2 ^ (7 * i) < 18446744073709551616) (h9 : i = 9) : q ≤ 1 := by
  subst h9
  have e : (2 : Nat) ^ (7 * 9) = 9223372036854775808 := by decide
  rw [e] at h
  omega

theorem rd_back (more : List UInt8) : ∀ (q i acc : Nat), i ≤ 9 → acc + q * 2 ^ (7 * i) < 18446744073709551616 → (0 < i → 1 ≤ q) → rd i acc (Lib.uvarint q ++ more) = .ok (acc + q * 2 ^ (7 * i), i + ulen q) := by
  intro q
  induction q using Nat.strongRecOn with
  | _ q ih =>
    intro i acc hi hlt hq
    by_cases h : q < 128
    · rw [uvarint_small h, List.singleton_append, rd, toUInt8_toNat (by omega), if_neg, if_pos h, ulen_small h]
      rintro (⟨h9, h1⟩ | ⟨h0, h1⟩)
      · have := small_at9 hlt h9; omega
      · have := hq h0; omega
    · have hi8 : i ≤ 8 := by
        rcases Nat.lt_or_ge i 9 with h9 | h9
        · omega
        · have := small_at9 hlt (by omega); omega
      have hb : q % 128 + 128 < 256 := by omega
      rw [uvarint_big (by omega), List.cons_append, rd, toUInt8_toNat hb, if_neg (by omega), if_neg (by omega)]
      have e : acc + (q % 128 + 128) % 128 * 2 ^ (7 * i) + q / 128 * 2 ^ (7 * (i + 1)) = acc + q * 2 ^ (7 * i) := by
        rw [pow7_succ, show (q % 128 + 128) % 128 = q % 128 by omega, Nat.add_assoc]
        congr 1
        rw [Nat.mul_comm (2 ^ (7 * i)) 128, ← Nat.mul_assoc, ← Nat.add_mul]
        congr 1
        omega
      rw [ih (q / 128) (by omega) (i + 1) _ (by omega) (by rw [e]; exact hlt) (fun _ => by omega), e, ulen_big (x := q) (by omega)]
      congr 2
      omega

theorem back_uint (n : Nat) (hn : n < 18446744073709551616) (more : List UInt8) : rd 0 0 (Lib.uvarint n ++ more) = .ok (n, ulen n) := by
  have := rd_back more n 0 0 (by omega) (by simpa using hn) (fun h => by omega)
  simpa using this

theorem rd_short : ∀ (q x i acc : Nat), i ≤ 9 → acc + q * 2 ^ (7 * i) < 18446744073709551616 → (0 < i → 1 ≤ q) → x < ulen q → rd i acc ((Lib.uvarint q).take x) = .error 20 := by
  intro q
  induction q using Nat.strongRecOn with
  | _ q ih =>
    intro x i acc hi hlt hq hx
    by_cases h : q < 128
    · rw [ulen_small h] at hx
      obtain rfl : x = 0 := by omega
      simp [rd]
    · cases x with
      | zero => simp [rd]
      | succ x =>
        have hi8 : i ≤ 8 := by
          rcases Nat.lt_or_ge i 9 with h9 | h9
          · omega
          · have := small_at9 hlt (by omega); omega
        rw [ulen_big (by omega)] at hx
        have hb : q % 128 + 128 < 256 := by omega
        rw [uvarint_big (by omega), List.take_succ_cons, rd, toUInt8_toNat hb, if_neg (by omega), if_neg (by omega)]
        have e : acc + (q % 128 + 128) % 128 * 2 ^ (7 * i) + q / 128 * 2 ^ (7 * (i + 1)) = acc + q * 2 ^ (7 * i) := by
          rw [pow7_succ, show (q % 128 + 128) % 128 = q % 128 by omega, Nat.add_assoc]
          congr 1
          rw [Nat.mul_comm (2 ^ (7 * i)) 128, ← Nat.mul_assoc, ← Nat.add_mul]
          congr 1
          omega
        exact ih (q / 128) (by omega) x (i + 1) _ (by omega) (by rw [e]; exact hlt) (fun _ => by omega) (by omega)

theorem short_uint (n : Nat) (hn : n < 18446744073709551616) (x : Nat) (hx : x < ulen n) : rd 0 0 ((Lib.uvarint n).take x) = .error 20 :=
  rd_short n x 0 0 (by omega) (by simpa using hn) (fun h => by omega) hx

/-! ### Fields -/
theorem once_field {bs f : List UInt8} {m : Nat} (h : rdField bs = .ok (f, m)) : field f = bs.take m ∧ m ≤ bs.length ∧ f.length ≤ 1048576 := by
  have hl := rdField_lt h
  unfold rdField at h
  split at h
  · cases h
  rename_i n k h'
  have h2 := rdLen_lt h'
  split at h
  · cases h
  rename_i hle
  simp only [Except.ok.injEq, Prod.mk.injEq] at h
  obtain ⟨hf, rfl⟩ := h
  have ho := once_uint h2.2.2.2
  have hn : f.length = n := by rw [← hf]; simp; omega
  refine ⟨?_, hl.2.2.1, hl.1⟩
  rw [field, hn, ho.1, ← hf, ← List.take_add]

theorem once_many : ∀ (k : Nat) (bs : List UInt8) (L : List (List UInt8)) (m : Nat), rdMany k bs = .ok (L, m) → (L.map field).flatten = bs.take m ∧ ∀ f ∈ L, f.length ≤ 1048576
  | 0, bs, L, m, h => by simp [rdMany] at h; obtain ⟨rfl, rfl⟩ := h; simp
  | k + 1, bs, L, m, h => by
    rw [rdMany] at h
    split at h
    · cases h
    rename_i f m1 h1
    split at h
    · cases h
    rename_i l m2 h2
    simp only [Except.ok.injEq, Prod.mk.injEq] at h
    obtain ⟨rfl, rfl⟩ := h
    have ho := once_field h1
    have ih := once_many k _ _ _ h2
    refine ⟨?_, ?_⟩
    · rw [List.map_cons, List.flatten_cons, ho.1, ih.1, ← List.take_add]
    · intro g hg
      rcases List.mem_cons.1 hg with rfl | hg
      · exact ho.2.2
      · exact ih.2 g hg

theorem once_fields {bs : List UInt8} {L : List (List UInt8)} {m : Nat} (h : rdFields bs = .ok (L, m)) : fields L = bs.take m ∧ m ≤ bs.length ∧ L.length ≤ 65536 ∧ ∀ f ∈ L, f.length ≤ 1048576 := by
  unfold rdFields at h
  split at h
  · cases h
  rename_i n k h'
  have h2 := rdLen_lt h'
  split at h
  · cases h
  rename_i l m' hm
  simp only [Except.ok.injEq, Prod.mk.injEq] at h
  obtain ⟨rfl, rfl⟩ := h
  have hl := rdMany_lt _ _ _ _ hm
  have ho := once_many _ _ _ _ hm
  simp only [List.length_drop] at hl
  refine ⟨?_, by omega, by omega, ho.2⟩
  rw [fields, hl.1, (once_uint h2.2.2.2).1, ho.1, ← List.take_add]

theorem back_field (f more : List UInt8) (hf : f.length ≤ 1048576) : rdField (field f ++ more) = .ok (f, (field f).length) := by
  have h := back_uint f.length (by omega) (f ++ more)
  unfold rdField rdLen
  rw [field, List.append_assoc, h]
  simp only
  rw [if_neg (by omega)]
  simp only
  have hl : (Lib.uvarint f.length).length = ulen f.length := rfl
  rw [if_neg (by simp only [List.length_append, hl]; omega)]
  congr 2
  · rw [List.drop_left' hl, List.take_left' rfl]
  · rw [List.length_append, hl]

theorem back_many (more : List UInt8) : ∀ (L : List (List UInt8)), (∀ f ∈ L, f.length ≤ 1048576) → rdMany L.length ((L.map field).flatten ++ more) = .ok (L, (L.map field).flatten.length)
  | [], _ => by simp [rdMany]
  | f :: L, h => by
    have ih := back_many more L (fun g hg => h g (by simp [hg]))
    rw [List.length_cons, rdMany, List.map_cons, List.flatten_cons, List.append_assoc, back_field f _ (h f (by simp))]
    simp only
    rw [List.drop_left' rfl, ih]
    simp

theorem back_fields (L : List (List UInt8)) (more : List UInt8) (hL : L.length ≤ 65536) (h : ∀ f ∈ L, f.length ≤ 1048576) : rdFields (fields L ++ more) = .ok (L, (fields L).length) := by
  have hu := back_uint L.length (by omega) ((L.map field).flatten ++ more)
  unfold rdFields rdLen
  rw [fields, List.append_assoc, hu]
  simp only
  rw [if_neg (by omega)]
  simp only
  have hl : (Lib.uvarint L.length).length = ulen L.length := rfl
  rw [List.drop_left' hl, back_many more L h]
  simp only [List.length_append]
  rfl
end Go.Proofs.YtpdacbiiaglodaaGreat

/-
  LAYER 5 (norms), plain: code points, Hangul, classes, decompositions, and what data may be. No program, no world.
-/
namespace Go.Proofs.YtpdacbiiaglodaaGreat
set_option maxRecDepth 100000

/-- from, to, class · code, a, b. -/
abbrev Cls := Int × Int × Int
abbrev Dec := Int × Int × Int

def scal (r : Int) : Bool := decide (0 ≤ r ∧ r < 55296 ∨ 57343 < r ∧ r ≤ 1114111)
def syl (r : Int) : Bool := decide (44032 ≤ r ∧ r ≤ 55203)
def jamo (r : Int) : Bool := decide (4352 ≤ r ∧ r ≤ 4370 ∨ 4449 ≤ r ∧ r ≤ 4469 ∨ 4519 < r ∧ r ≤ 4546)
/-- What a Hangul syllable comes to. -/
def hang (r : Int) : List Int :=
  let s := r - 44032
  [4352 + s / 588, 4449 + s % 588 / 28] ++ (if s % 28 = 0 then [] else [4519 + s % 28])
def byR (r : Int) : List Int := if syl r = true then hang r else [r]
theorem byR_ne (r : Int) : byR r ≠ [] := by unfold byR hang; split <;> simp

/-- The class of a code point: of the first range that has it. -/
def clsOf : List Cls → Int → Int
  | [], _ => 0
  | c :: t, r => if c.1 ≤ r ∧ r ≤ c.2.1 then c.2.2 else clsOf t r
/-- One range may be, behind a place. -/
def clOk (least : Int) (c : Cls) : Bool := scal c.1 && scal c.2.1 && decide (least ≤ c.1) && decide (c.1 ≤ c.2.1) && decide (1 ≤ c.2.2) && decide (c.2.2 ≤ 254)
def clsOk : Int → List Cls → Bool
  | _, [] => true
  | least, c :: t => clOk least c && clsOk (c.2.1 + 1) t

/-- A decomposition by one step. -/
def stp (d : List Dec) (r : Int) : Option Dec := d.find? fun x => decide (x.1 = r)
def codesOk (x : Dec) : Bool := scal x.1 && !syl x.1 && !jamo x.1 && scal x.2.1 && !decide (x.2.1 = 0) && scal x.2.2 && !syl x.2.2
/-- In so many steps it comes to the end. -/
def mb (d : List Dec) : Nat → Dec → Bool
  | 0, _ => false
  | n + 1, x => match stp d x.2.1 with
    | none => true
    | some y => mb d n y
def bOk (d : List Dec) (x : Dec) : Bool := decide (x.2.2 = 0) || (stp d x.2.2).isNone
/-- What a decomposition comes to, in so many steps. -/
def whl (d : List Dec) : Nat → Dec → List Int
  | 0, _ => []
  | n + 1, x => (match stp d x.2.1 with
    | none => byR x.2.1
    | some y => whl d n y) ++ (if x.2.2 = 0 then [] else [x.2.2])
def begins (c : List Cls) (d : List Dec) (x : Dec) : Bool := decide (clsOf c x.1 = 0) || !decide (clsOf c ((whl d 4 x).headD 0) = 0)
def decOk (c : List Cls) (d : List Dec) (least : Int) (x : Dec) : Bool := decide (least ≤ x.1) && codesOk x && (bOk d x && mb d 4 x) && begins c d x
def decsOk (c : List Cls) (d : List Dec) : Int → List Dec → Bool
  | _, [] => true
  | least, x :: t => decOk c d least x && decsOk c d (x.1 + 1) t
/-- Data that may be. -/
def good (c : List Cls) (d : List Dec) : Bool := decide (c.length ≤ 4000) && decide (d.length ≤ 8000) && clsOk 0 c && decsOk c d 0 d

theorem mb_whl {d : List Dec} : ∀ {n : Nat} {x : Dec}, mb d n x = true → ∀ k, whl d (n + k) x = whl d n x ∧ whl d n x ≠ []
  | 0, _, h, _ => by simp [mb] at h
  | n + 1, x, h, k => by
    rw [show n + 1 + k = (n + k) + 1 by omega, whl, whl]
    rw [mb] at h
    cases hs : stp d x.2.1 with
    | none => exact ⟨rfl, by simp [byR_ne]⟩
    | some y =>
      rw [hs] at h
      have := mb_whl h k
      simp only
      rw [this.1]
      exact ⟨rfl, by simp [this.2]⟩

theorem decsOk_mem {c : List Cls} {d : List Dec} : ∀ {l : List Dec} {least : Int}, decsOk c d least l = true → ∀ x ∈ l, decOk c d least x = true
  | [], _, _, x, hx => by cases hx
  | y :: t, least, h, x, hx => by
    rw [decsOk, Bool.and_eq_true] at h
    rcases List.mem_cons.1 hx with rfl | hx
    · exact h.1
    · have h2 := decsOk_mem h.2 x hx
      have h1 := h.1
      simp only [decOk, Bool.and_eq_true, decide_eq_true_eq] at h1 h2 ⊢
      exact ⟨⟨⟨by omega, h2.1.1.2⟩, h2.1.2⟩, h2.2⟩
/-- Codes rise. -/
theorem decsOk_rise {c : List Cls} {d : List Dec} : ∀ {l : List Dec} {least : Int}, decsOk c d least l = true → (l.map (·.1)).Pairwise (· < ·)
  | [], _, _ => List.Pairwise.nil
  | y :: t, least, h => by
    rw [decsOk, Bool.and_eq_true] at h
    refine List.Pairwise.cons (fun a ha => ?_) (decsOk_rise h.2)
    obtain ⟨x, hx, rfl⟩ := List.mem_map.1 ha
    have := decsOk_mem h.2 x hx
    simp only [decOk, Bool.and_eq_true, decide_eq_true_eq] at this
    show y.1 < x.1
    omega
end Go.Proofs.YtpdacbiiaglodaaGreat

/-
  A RANGE OVER A FUNCTION WHOSE ITERATOR HAS A STATE OF ITS OWN, AND TELLS OF WHAT IT HANDS OVER: one law for the caller. No program is named here.
  The iterator turns block r alone (and lays new blocks); the body keeps each elder block but its own, ib; of what is handed over, 'Ok' holds in the world of the call.
-/
namespace Go.Proofs.YtpdacbiiaglodaaGreat
set_option maxRecDepth 100000
open Go.RowKit

/-- What a round leaves of the elder blocks: all but block ib. -/
def KeptX (n0 ib : Nat) (A B : World) : Prop := A.heap.size ≤ B.heap.size ∧ ∀ k, k < n0 → k ≠ ib → B.heap[k]? = A.heap[k]?
theorem KeptX.refl {n0 ib : Nat} (A : World) : KeptX n0 ib A A := ⟨Nat.le_refl _, fun _ _ _ => rfl⟩
theorem KeptX.trans {n0 ib : Nat} {A B C : World} (h : KeptX n0 ib A B) (k : KeptX n0 ib B C) : KeptX n0 ib A C := ⟨Nat.le_trans h.1 k.1, fun i h1 h2 => (k.2 i h1 h2).trans (h.2 i h1 h2)⟩
theorem KeptX.grown {n0 ib q : Nat} {A B : World} (h : A.grownBy B (some q)) (hn : n0 ≤ A.heap.size) (hq : q = ib ∨ n0 ≤ q) : KeptX n0 ib A B :=
  ⟨h.size, fun k h1 h2 => h.block k (by omega) (fun e => by cases e; omega)⟩

/-- What an iterator promises: called with yield, it calls yield at what it tells, as long as rounds go on; its own steps turn block r alone. -/
def TellsO {α : Type} (F : Fence) (n : Nat) (P : Program) (g : Nat) (lb : Array Value) (encs : α → Array Value) (Ok : List α → α → World → Prop) (r : Option Nat) (n0 ib : Nat) (S Sp : List α → World → Prop) (w : World) : Prop :=
  ∀ (l : Nat) (J Jx : List α → World → Prop) (W : World), KeptX n0 ib w W → n0 ≤ W.heap.size →
    (∀ s A B, J s A → A.grownBy B r → J s B) → (∀ s A B, Jx s A → A.grownBy B r → Jx s B) →
    (∀ pre x W1, J pre W1 → Ok pre x W1 → n0 ≤ W1.heap.size → YieldAt F (n - 1) P l (encs x) W1 fun e W' =>
      (e = .returned (.bool true) ∧ J (pre ++ [x]) W' ∧ KeptX n0 ib W1 W') ∨ (e = .returned (.bool false) ∧ Jx (pre ++ [x]) W' ∧ KeptX n0 ib W1 W')) →
    J [] W →
    CallsIn F n P g (#[.func (.yield l) #[] #[]] ++ lb) W fun e W' => (∃ v, e = .returned v) ∧ ((∃ xs, S xs W' ∧ J xs W') ∨ (∃ pre, Sp pre W' ∧ Jx pre W'))

def Tells {α : Type} (F : Fence) (n : Nat) (P : Program) (g : Nat) (lb : Array Value) (encs : α → Array Value) (Ok : List α → α → World → Prop) (r n0 ib : Nat) (S Sp : List α → World → Prop) (w : World) : Prop :=
  TellsO F n P g lb encs Ok (some r) n0 ib S Sp w

/-- How a round's body may be left. -/
def roundLeft {α : Type} (n0 ib : Nat) (I : List α → World → Prop) (Ix : Code → List α → World → Prop) (xs : List α) (W : World) : Exit → Act → World → Prop
  | .normal, _, W' => KeepsOthers W W' ∧ KeptX n0 ib W W' ∧ I xs W'
  | .ret, _, W' => KeepsOthers W W' ∧ KeptX n0 ib W W' ∧ Ix .ret xs W'
  | .exit i, _, W' => KeepsOthers W W' ∧ KeptX n0 ib W W' ∧ Ix (.exit i) xs W'
  | .goto i, _, W' => KeepsOthers W W' ∧ KeptX n0 ib W W' ∧ Ix (.goto i) xs W'
  | .panic _, _, _ => False
  | .outgrown, _, _ => False

theorem gbut {a c : World} (h : a.grownBy c none) (row : Option Nat) : a.grownBy c row := ⟨h.os, h.tape, h.output, h.size, fun i hi _ => h.block i hi (by simp)⟩
theorem putObj_grown (W : World) (l : Nat) (o : Obj) : W.grownBy (W.putObj l o) (some l) := grownBy_putObj' W l o

set_option maxHeartbeats 4000000 in
theorem range_tells3 {α : Type} {F : Fence} {n : Nat} {P : Program} {g : Operand} {ps : Array Tmp} {assign body : Code} {Q : Exit → Act → World → Prop} {a : Act} {w : World}
    (hro : F.round = none) (h1 : 1 ≤ n) {gf : Nat} {lb : Array Value} (hg : a.eval g = .func (.func gf) #[] lb) (hFg : F.fn gf) (eg : ∀ args w, (callFunc gf args).run P w = .ok (.enter gf args) w)
    {encs : α → Array Value} {Ok : List α → α → World → Prop} {r : Option Nat} {ib : Nat} {S Sp : List α → World → Prop}
    (hseq : TellsO F (n - 1) P gf lb encs Ok r w.heap.size ib S Sp w) (hrw : r ≠ some w.heap.size ∧ r ≠ some (w.heap.size + 1)) (hps : ∀ x, (encs x).size = ps.size)
    (hOk : ∀ pre x A B k o, Ok pre x A → A.grownBy B (some k) → A.heap[k]? = some o → o.isCells = false → Ok pre x B)
    (I : List α → World → Prop) (Ix : Code → List α → World → Prop)
    (hI : ∀ s A B k, I s A → A.grownBy B k → (k = r ∨ (∃ q, k = some q ∧ w.heap.size ≤ q ∧ ∀ o, A.heap[q]? = some o → o.isCells = false)) → I s B)
    (hIx : ∀ c s A B k, Ix c s A → A.grownBy B k → (k = r ∨ (∃ q, k = some q ∧ w.heap.size ≤ q ∧ ∀ o, A.heap[q]? = some o → o.isCells = false)) → Ix c s B)
    (h0 : I [] w) (a₁ : α → Act)
    (hassign : ∀ (l : Nat) (x : α) (W : World) (K : Act → World → Prop), K (a₁ x) W →
      assign.wpIn (F.inRound l) (n - 1 - 1) P (Exit.then K (fun _ _ _ => False)) { tmps := (ps.zip (encs x)).foldl (fun t (p, v) => t.setIfInBounds p v) a.tmps, defers := [] } W)
    (hbody : ∀ (l : Nat) (pre : List α) (x : α) (W : World), I pre W → Ok pre x W → w.heap.size ≤ W.heap.size → body.wpIn (F.inRound l) (n - 1 - 1) P (roundLeft w.heap.size ib I Ix (pre ++ [x]) W) (a₁ x) W)
    (hdone : ∀ (D : Nat) (xs : List α) (W W' : World), w.heap.size ≤ D → S xs W → I xs W' → W.grownBy W' (some (D + 1)) → W'.heap[D]? = some (.deferred (some [])) → Q .normal { a with defers := { target := .collected D, args := #[] } :: a.defers } W')
    (hstop : ∀ (D : Nat) (c : Code) (pre : List α) (W W' : World), w.heap.size ≤ D → Sp pre W → Ix c pre W' → W.grownBy W' (some (D + 1)) → W'.heap[D]? = some (.deferred (some [])) → c.wpIn F n P Q { a with defers := { target := .collected D, args := #[] } :: a.defers } W') :
    (Code.rangeFunc g ps assign body).wpIn F n P Q a w := by
  refine wpIn_rangeFunc fun fn hfn => ?_
  rw [hro]
  -- the loop's record, in each of its states
  let rec' : LoopState → Option Code → Loop := fun st pe => { state := st, pending := pe, fn, tmps := a.tmps, params := ps, assign, body, defers := w.heap.size }
  obtain ⟨R, hR⟩ : ∃ R, R = rec' := ⟨_, rfl⟩
  obtain ⟨D, hD⟩ : ∃ D, D = w.heap.size := ⟨_, rfl⟩
  obtain ⟨V, hV⟩ : ∃ V, V = (w.alloc (.deferred (some []))).alloc (.loop (R .ready none)) := ⟨_, rfl⟩
  have gV : w.grownBy V none := by rw [hV]; exact (World.grownBy_alloc w _ none).trans (World.grownBy_alloc _ _ none)
  have lV : V.heap[D + 1]? = some (.loop (R .ready none)) := by
    rw [hV, hD]
    have := World.alloc_heap_new (w.alloc (.deferred (some []))) (.loop (R .ready none))
    rwa [World.size_alloc] at this
  have dV : V.heap[D]? = some (.deferred (some [])) := by
    rw [hV, hD]
    exact ((World.grownBy_alloc (w.alloc (.deferred (some []))) (.loop (R .ready none)) none).block w.heap.size (by simp) (by simp)).trans (World.alloc_heap_new w _)
  have hrD : r ≠ some D ∧ r ≠ some (D + 1) := by rw [hD]; exact hrw
  have iV : I [] V := hI _ _ _ (some D) h0 (gbut gV _) (.inr ⟨D, rfl, by omega, fun o ho => by have := (Array.getElem?_eq_some_iff.1 ho).1; omega⟩)
  refine ⟨D + 1, [{ target := .collected D, args := #[] }], V, { target := .fn (.func gf) lb, args := #[.func (.yield (D + 1)) #[] #[]] }, V, gf, #[.func (.yield (D + 1)) #[] #[]] ++ lb, V, ?_, ?_, ?_, ?_, fun _ => h1, ?_⟩
  · rw [hV, hR, hD]; exact run_enterLoop_outer _ _ _ _ _
  · simp only [resolve, hg]
    simp [go_sem]
  · intro f' hf'; simp [Target.leads] at hf'; subst hf'; exact hFg
  · simp [invoke, go_sem, eg]
  · have keepD : ∀ {A B : World} {q : Option Nat} {o : Obj}, A.grownBy B q → q ≠ some D → A.heap[D]? = some o → B.heap[D]? = some o := fun h hq ho => (h.block D (Array.getElem?_eq_some_iff.1 ho).1 (fun e => hq e.symm)).trans ho
    have keepL : ∀ {A B : World} {q : Option Nat} {o : Obj}, A.grownBy B q → q ≠ some (D + 1) → A.heap[D + 1]? = some o → B.heap[D + 1]? = some o := fun h hq ho => (h.block (D + 1) (Array.getElem?_eq_some_iff.1 ho).1 (fun e => hq e.symm)).trans ho
    refine (hseq (D + 1) (fun pre W => I pre W ∧ W.heap[D + 1]? = some (.loop (R .ready none)) ∧ W.heap[D]? = some (.deferred (some [])))
      (fun pre W => ∃ c, Ix c pre W ∧ W.heap[D + 1]? = some (.loop (R .done (some c))) ∧ W.heap[D]? = some (.deferred (some []))) V
      (KeptX.grown (q := D) (gbut gV _) (Nat.le_refl _) (.inr (by omega))) gV.size ?_ ?_ ?_ ⟨iV, lV, dV⟩).mono ?_
    · rintro s A B ⟨h2, h3, h4⟩ hAB
      exact ⟨hI _ _ _ r h2 hAB (.inl rfl), keepL hAB hrD.2 h3, keepD hAB hrD.1 h4⟩
    · rintro s A B ⟨c, h2, h3, h4⟩ hAB
      exact ⟨c, hIx _ _ _ _ r h2 hAB (.inl rfl), keepL hAB hrD.2 h3, keepD hAB hrD.1 h4⟩
    · -- one round
      rintro pre x W ⟨h2, h3, h4⟩ hok hsz
      have hlt : D + 1 < W.heap.size := (Array.getElem?_eq_some_iff.1 h3).1
      have hy := run_yield (P := P) (args := encs x) h3 (by rw [hR]; exact hps x)
      rw [hR] at hy
      refine ⟨fn, _, assign, body, hy, roundIn_of_wpIn hfn (hassign _ x W _ ⟨_, run_beginRound h3 (by rw [hR]), ?_⟩)⟩
      obtain ⟨o2, ho2⟩ : ∃ o2 : Loop, o2 = { R .ready none with state := .busy } := ⟨_, rfl⟩
      rw [← ho2]
      have gU := putObj_grown W (D + 1) (.loop o2)
      have lU : (W.putObj (D + 1) (.loop o2)).heap[D + 1]? = some (.loop o2) := World.putObj_heap_same hlt
      have dU := keepD gU (by simp) h4
      have kU : KeptX w.heap.size ib W (W.putObj (D + 1) (.loop o2)) := KeptX.grown gU hsz (.inr (by omega))
      refine wpIn_mono (hbody _ pre x _ (hI _ _ _ _ h2 gU (.inr ⟨_, rfl, by omega, fun o ho => by rw [h3] at ho; cases ho; rfl⟩)) (hOk _ _ _ _ _ _ hok gU h3 rfl) (Nat.le_trans hsz gU.size)) ?_
      have fin : ∀ (jump : Option Code) (W3 : World), KeepsOthers (W.putObj (D + 1) (.loop o2)) W3 → KeptX w.heap.size ib (W.putObj (D + 1) (.loop o2)) W3 → ∃ W4, (Instr.endRound (D + 1) jump).run P W3 = .ok (.bool jump.isNone) W4 ∧ W3.grownBy W4 (some (D + 1)) ∧
          W4.heap[D + 1]? = some (.loop (R (if jump.isNone then .ready else .done) jump)) ∧ W4.heap[D]? = some (.deferred (some [])) ∧ KeptX w.heap.size ib W W4 ∧ (∀ o, W3.heap[D + 1]? = some o → o.isCells = false) := by
        intro jump W3 hk hx
        have l3 := hk.same _ _ lU rfl
        have d3 := hk.same _ _ dU rfl
        have hrun := run_endRound (P := P) jump l3
        have g4 := putObj_grown W3 (D + 1) (.loop (R (if jump.isNone then .ready else .done) jump))
        refine ⟨_, ?_, g4, World.putObj_heap_same (Array.getElem?_eq_some_iff.1 l3).1, keepD g4 (by simp) d3, (kU.trans hx).trans (KeptX.grown g4 (Nat.le_trans hsz (Nat.le_trans gU.size hx.1)) (.inr (by omega))), fun o ho => by rw [l3] at ho; cases ho; rfl⟩
        rw [hrun, ho2, hR]
      rintro e a3 W3 hp
      cases e with
      | normal =>
        obtain ⟨p1, p2, p3⟩ := hp
        obtain ⟨W4, q1, q2, q3, q4, q5, q6⟩ := fin none W3 p1 p2
        exact ⟨_, _, q1, .inl ⟨rfl, ⟨hI _ _ _ _ p3 q2 (.inr ⟨_, rfl, by omega, q6⟩), q3, q4⟩, q5⟩⟩
      | ret =>
        obtain ⟨p1, p2, p3⟩ := hp
        obtain ⟨W4, q1, q2, q3, q4, q5, q6⟩ := fin (some .ret) W3 p1 p2
        exact ⟨_, _, q1, .inr ⟨rfl, ⟨.ret, hIx _ _ _ _ _ p3 q2 (.inr ⟨_, rfl, by omega, q6⟩), q3, q4⟩, q5⟩⟩
      | exit i =>
        obtain ⟨p1, p2, p3⟩ := hp
        obtain ⟨W4, q1, q2, q3, q4, q5, q6⟩ := fin (some (.exit i)) W3 p1 p2
        exact ⟨_, _, q1, .inr ⟨rfl, ⟨.exit i, hIx _ _ _ _ _ p3 q2 (.inr ⟨_, rfl, by omega, q6⟩), q3, q4⟩, q5⟩⟩
      | goto i =>
        obtain ⟨p1, p2, p3⟩ := hp
        obtain ⟨W4, q1, q2, q3, q4, q5, q6⟩ := fin (some (.goto i)) W3 p1 p2
        exact ⟨_, _, q1, .inr ⟨rfl, ⟨.goto i, hIx _ _ _ _ _ p3 q2 (.inr ⟨_, rfl, by omega, q6⟩), q3, q4⟩, q5⟩⟩
      | panic ch => exact hp.elim
      | outgrown => exact hp.elim
    · -- behind the iterator
      rintro e W2 ⟨⟨v, rfl⟩, (⟨xs, hS, h2, h3, h4⟩ | ⟨pre, hS, c, h2, h3, h4⟩)⟩
      · have hrun := run_endLoop (P := P) h3 (by rw [hR]; simp [rec'])
        have g4 := putObj_grown W2 (D + 1) (.loop { R .ready none with state := .exhausted })
        refine ⟨none, _, by rw [hrun, hR], ?_⟩
        rw [← hR]
        exact hdone D xs W2 _ (by omega) hS (hI _ _ _ _ h2 g4 (.inr ⟨_, rfl, by omega, fun o ho => by rw [h3] at ho; cases ho; rfl⟩)) g4 (keepD g4 (by simp) h4)
      · have hrun := run_endLoop (P := P) h3 (by rw [hR]; simp [rec'])
        have g4 := putObj_grown W2 (D + 1) (.loop { R .done (some c) with state := .exhausted })
        refine ⟨some c, _, by rw [hrun, hR], ?_⟩
        rw [← hR]
        exact hstop D c pre W2 _ (by omega) hS (hIx _ _ _ _ _ h2 g4 (.inr ⟨_, rfl, by omega, fun o ho => by rw [h3] at ho; cases ho; rfl⟩)) g4 (keepD g4 (by simp) h4)

set_option maxHeartbeats 4000000 in
theorem range_tells {α : Type} {F : Fence} {n : Nat} {P : Program} {g : Operand} {ps : Array Tmp} {assign body : Code} {Q : Exit → Act → World → Prop} {a : Act} {w : World}
    (hro : F.round = none) (h1 : 1 ≤ n) {gf : Nat} {lb : Array Value} (hg : a.eval g = .func (.func gf) #[] lb) (hFg : F.fn gf) (eg : ∀ args w, (callFunc gf args).run P w = .ok (.enter gf args) w)
    {encs : α → Array Value} {Ok : List α → α → World → Prop} {r ib : Nat} {S Sp : List α → World → Prop}
    (hseq : Tells F (n - 1) P gf lb encs Ok r w.heap.size ib S Sp w) (hrw : r ≠ w.heap.size ∧ r ≠ w.heap.size + 1) (hps : ∀ x, (encs x).size = ps.size)
    (hOk : ∀ pre x A B k o, Ok pre x A → A.grownBy B (some k) → A.heap[k]? = some o → o.isCells = false → Ok pre x B)
    (I : List α → World → Prop) (Ix : Code → List α → World → Prop)
    (hI : ∀ s A B k, I s A → A.grownBy B (some k) → k = r ∨ w.heap.size ≤ k → I s B)
    (hIx : ∀ c s A B k, Ix c s A → A.grownBy B (some k) → k = r ∨ w.heap.size ≤ k → Ix c s B)
    (h0 : I [] w) (a₁ : α → Act)
    (hassign : ∀ (l : Nat) (x : α) (W : World) (K : Act → World → Prop), K (a₁ x) W →
      assign.wpIn (F.inRound l) (n - 1 - 1) P (Exit.then K (fun _ _ _ => False)) { tmps := (ps.zip (encs x)).foldl (fun t (p, v) => t.setIfInBounds p v) a.tmps, defers := [] } W)
    (hbody : ∀ (l : Nat) (pre : List α) (x : α) (W : World), I pre W → Ok pre x W → w.heap.size ≤ W.heap.size → body.wpIn (F.inRound l) (n - 1 - 1) P (roundLeft w.heap.size ib I Ix (pre ++ [x]) W) (a₁ x) W)
    (hdone : ∀ (D : Nat) (xs : List α) (W W' : World), w.heap.size ≤ D → S xs W → I xs W' → W.grownBy W' (some (D + 1)) → W'.heap[D]? = some (.deferred (some [])) → Q .normal { a with defers := { target := .collected D, args := #[] } :: a.defers } W')
    (hstop : ∀ (D : Nat) (c : Code) (pre : List α) (W W' : World), w.heap.size ≤ D → Sp pre W → Ix c pre W' → W.grownBy W' (some (D + 1)) → W'.heap[D]? = some (.deferred (some [])) → c.wpIn F n P Q { a with defers := { target := .collected D, args := #[] } :: a.defers } W') :
    (Code.rangeFunc g ps assign body).wpIn F n P Q a w := by
  exact range_tells3 hro h1 hg hFg eg hseq ⟨by simpa using hrw.1, by simpa using hrw.2⟩ hps hOk I Ix
    (fun s A B k h hg hk => hI s A B (k.getD r) h (by rcases hk with rfl | ⟨q, rfl, _⟩ <;> exact hg) (by rcases hk with rfl | ⟨q, rfl, hq, _⟩ <;> simp <;> omega))
    (fun c s A B k h hg hk => hIx c s A B (k.getD r) h (by rcases hk with rfl | ⟨q, rfl, _⟩ <;> exact hg) (by rcases hk with rfl | ⟨q, rfl, hq, _⟩ <;> simp <;> omega)) h0 a₁ hassign hbody hdone hstop

end Go.Proofs.YtpdacbiiaglodaaGreat
