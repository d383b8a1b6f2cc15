
/-
  PLAIN WORDS FOR LAYER 2 (codec): what a slice of bytes reads as; what a call owns; the block of four cells that a reader is; what only one block's turn keeps. No program is named here.
-/
import Derived.WalkKit
import Derived.OneCell
import Derived.Deep.Draws
import Derived.Maps.AppendAt
import Derived.Lib.Varint
import Derived.Lib.VarintMem
import Derived.Lib.UnsafeStr
import Derived.Lib.Hide
namespace Go.Proofs.Ytnnijcafnhhnoaa
set_option maxRecDepth 100000
open Go.RowKit Go.Lib

/-- A slice of bytes reads as bs: it is nil and bs is empty, or it leads to a row whose first cells are bs. -/
def Reads (w : World) (v : Value) (bs : List UInt8) : Prop :=
  (v = .slice none 0 0 ∧ bs = []) ∨
  ∃ b off cap, v = .slice (some ⟨b, off, none⟩) bs.length cap ∧ bs.length ≤ cap ∧ cap ≤ maxLen ∧
    ∀ i u, bs[i]? = some u → w.cell? ⟨b, off + i, none⟩ = some (.int .u8 (u.toNat : Int))

/-- The call owns the bytes bs: they lie in a block from B on, from its first cell on. -/
def Owns (w : World) (B : Nat) (e : TypeId) (v : Value) (bs : List UInt8) : Prop := w.ownsRow B e 1 v bs.length (byteCells bs)

theorem byteCells_get {bs : List UInt8} {i : Nat} : (byteCells bs)[i]? = (bs[i]?).map fun u => Value.int .u8 (u.toNat : Int) := by
  simp [byteCells]

theorem Owns.reads {w : World} {B : Nat} {e : TypeId} {v : Value} {bs : List UInt8} (h : Owns w B e v bs) : Reads w v bs := by
  have h0 := h
  obtain ⟨_, ⟨rfl, hn⟩ | ⟨g, cap, cur, rfl, hB, hg, hn, hc, hs, ht⟩⟩ := h
  · exact .inl ⟨rfl, List.length_eq_zero_iff.1 hn⟩
  · refine .inr ⟨g, 0, cap, rfl, hn, hc, fun i u hu => ?_⟩
    have hi : i < bs.length := (List.getElem?_eq_some_iff.1 hu).1
    rw [Nat.zero_add, World.ownsRow.cellAt h0 i (by omega), byteCells_get, hu]
    rfl

theorem Owns.lt {w : World} {B : Nat} {e : TypeId} {v : Value} {bs : List UInt8} (h : Owns w B e v bs) : ∀ k, v.ownBlock = some k → B ≤ k ∧ k < w.heap.size := World.ownsRow.lt h

theorem Owns.kept {w w' : World} {B : Nat} {e : TypeId} {v : Value} {bs : List UInt8} {row : Option Nat} (h : Owns w B e v bs) (hg : w.grownBy w' row) (hne : v.ownBlock = none ∨ v.ownBlock ≠ row) : Owns w' B e v bs :=
  World.ownsRow.kept h hg hne

theorem Owns.mono {w : World} {B B' : Nat} {e : TypeId} {v : Value} {bs : List UInt8} (h : Owns w B e v bs) (hB : B' ≤ B) : Owns w B' e v bs := by
  obtain ⟨h1, h2 | ⟨g, cap, cur, hv, hb, r⟩⟩ := h
  · exact ⟨h1, .inl h2⟩
  · exact ⟨h1, .inr ⟨g, cap, cur, hv, by omega, r⟩⟩

/-- What a slice reads as is kept where its block is. -/
theorem Reads.kept {w w' : World} {v : Value} {bs : List UInt8} {row : Option Nat} (h : Reads w v bs) (hg : w.grownBy w' row) (hne : v.ownBlock = none ∨ v.ownBlock ≠ row) : Reads w' v bs := by
  rcases h with h | ⟨b, off, cap, rfl, h1, h2, hc⟩
  · exact .inl h
  · refine .inr ⟨b, off, cap, rfl, h1, h2, fun i u hu => ?_⟩
    exact hg.cell (hc i u hu) (by simpa [Value.ownBlock] using hne)

theorem Reads.below {w w' : World} {B : Nat} {v : Value} {bs : List UInt8} (h : Reads w v bs) (hb : Below B w w') (hlt : bs ≠ [] → ∀ k, v.ownBlock = some k → k < B) : Reads w' v bs := by
  rcases h with h | ⟨b, off, cap, rfl, h1, h2, hc⟩
  · exact .inl h
  · refine .inr ⟨b, off, cap, rfl, h1, h2, fun i u hu => ?_⟩
    have hn : bs ≠ [] := by rintro rfl; simp at hu
    exact (hb.cell (p := ⟨b, off + i, none⟩) (hlt hn b rfl)).trans (hc i u hu)

/-- All that a world had is there in the next one (the blocks of the first are in the second as they were). -/
theorem Reads.all {w w' : World} {v : Value} {bs : List UInt8} (h : Reads w v bs) (hb : Below w.heap.size w w') : Reads w' v bs := by
  rcases h with h | ⟨b, off, cap, rfl, h1, h2, hc⟩
  · exact .inl h
  · refine .inr ⟨b, off, cap, rfl, h1, h2, fun i u hu => ?_⟩
    have := hc i u hu
    have hl : b < w.heap.size := World.block_lt_of_cell? w _ this
    exact (hb.cell (p := ⟨b, off + i, none⟩) hl).trans this

/-- A step that turns a block which is new since 'a'. -/
theorem gnew {a b c : World} {row row' : Option Nat} (h : a.grownBy b row) (k : b.grownBy c row') (hn : ∀ r, row' = some r → a.heap.size ≤ r ∨ row = some r) : a.grownBy c row :=
  ⟨k.os.trans h.os, k.tape.trans h.tape, k.output.trans h.output, Nat.le_trans h.size k.size, fun i hi hne => by
    refine (k.block i (Nat.lt_of_lt_of_le hi h.size) ?_).trans (h.block i hi hne)
    intro e
    rcases hn i e.symm with h | h
    · omega
    · exact hne h.symm⟩
theorem gdrewN {a b : World} {row : Option Nat} (h : a.grownBy b row) (n : Nat) : a.grownBy (b.drewN n) row :=
  ⟨h.os, h.tape, h.output, h.size, h.block⟩
theorem gdrew {a b : World} {row : Option Nat} (h : a.grownBy b row) : a.grownBy b.drew row :=
  ⟨h.os, h.tape, h.output, h.size, h.block⟩
theorem gset {a b : World} {r : Nat} (h : a.grownBy b (some r)) (o : Nat) (u : Value) : a.grownBy (b.setCell ⟨r, o, none⟩ u) (some r) :=
  h.trans ⟨rfl, rfl, rfl, by simp [World.setCell], fun k _ hne => Below.heap_setCell _ _ _ _ (fun e => hne (by simp [e]))⟩
theorem galloc {a b : World} {row : Option Nat} (h : a.grownBy b row) (o : Obj) : a.grownBy (b.alloc o) row := h.trans (World.grownBy_alloc b o row)
theorem gbelow {a b : World} {row : Option Nat} {B : Nat} (h : a.grownBy b row) (hB : B ≤ a.heap.size) (hr : ∀ r, row = some r → B ≤ r) : Below B a b :=
  ⟨h.os, h.tape, h.output, h.size, fun k hk => h.block k (by omega) (fun e => by have := hr k e.symm; omega)⟩
theorem belowg_drew {a b : World} (h : a.drew.grownBy b none) : Below a.heap.size a b := ⟨h.os, h.tape, h.output, h.size, fun k hk => h.block k hk (by simp)⟩
theorem belowg' {a b : World} (h : a.grownBy b none) : Below a.heap.size a b := ⟨h.os, h.tape, h.output, h.size, fun k hk => h.block k hk (by simp)⟩
theorem belowg {a b : World} (h : Below a.heap.size a b) (row : Option Nat) : a.grownBy b row :=
  ⟨h.os, h.tape, h.output, h.size, fun k hk _ => h.block k hk⟩

/-- A reader's block: made, its bytes, how far, its error. -/
def Rd (w : World) (r : Nat) (vb : Value) (pos : Nat) (err : Int) : Prop :=
  w.heap[r]? = some (.cells #[.bool true, vb, .int .i64 (pos : Int), .int .i64 err] 0 (0, 0))

section
variable {w : World} {r : Nat} {vb : Value} {pos : Nat} {er : Int}
theorem Rd.made (h : Rd w r vb pos er) : w.cell? ⟨r, 0, none⟩ = some (.bool true) := by simp [World.cell?, show _ = _ from h]
theorem Rd.bytes (h : Rd w r vb pos er) : w.cell? ⟨r, 1, none⟩ = some vb := by simp [World.cell?, show _ = _ from h]
theorem Rd.at (h : Rd w r vb pos er) : w.cell? ⟨r, 2, none⟩ = some (.int .i64 (pos : Int)) := by simp [World.cell?, show _ = _ from h]
theorem Rd.err (h : Rd w r vb pos er) : w.cell? ⟨r, 3, none⟩ = some (.int .i64 er) := by simp [World.cell?, show _ = _ from h]
theorem Rd.free (h : Rd w r vb pos er) (o : Nat) : w.frozen? ⟨r, o, none⟩ = false := by simp [World.frozen?, show _ = _ from h]
theorem Rd.lt (h : Rd w r vb pos er) : r < w.heap.size := lt_of_block h
theorem Rd.setAt (h : Rd w r vb pos er) (pos' : Nat) : Rd (w.setCell ⟨r, 2, none⟩ (.int .i64 (pos' : Int))) r vb pos' er :=
  heap_setCell_same w r 2 _ _ _ h
theorem Rd.setErr (h : Rd w r vb pos er) (err' : Int) : Rd (w.setCell ⟨r, 3, none⟩ (.int .i64 err')) r vb pos err' :=
  heap_setCell_same w r 3 _ _ _ h
theorem Rd.kept {w' : World} {row : Option Nat} (h : Rd w r vb pos er) (hg : w.grownBy w' row) (hne : row ≠ some r) : Rd w' r vb pos er :=
  (hg.block r h.lt (fun e => hne e.symm)).trans h
theorem Rd.drewN (h : Rd w r vb pos er) (n : Nat) : Rd (w.drewN n) r vb pos er := h
/-- The reader's own block is not that of its bytes. -/
theorem Rd.apart {bs : List UInt8} (h : Rd w r vb pos er) (hb : Reads w vb bs) : vb.ownBlock ≠ some r ∨ bs = [] := by
  rcases hb with ⟨_, rfl⟩ | ⟨b, off, cap, rfl, _, _, hc⟩
  · exact .inr rfl
  · by_cases e : bs = []
    · exact .inr e
    · left
      intro hb'
      simp [Value.ownBlock] at hb'
      subst hb'
      obtain ⟨u, l, rfl⟩ := List.exists_cons_of_ne_nil e
      have := hc 0 u rfl
      simp only [World.cell?, show _ = _ from h] at this
      simp only [Nat.add_zero] at this
      rcases off with _ | _ | _ | _ | off <;> simp at this
end

theorem Reads.slice {w : World} {a : Option Addr} {l c : Nat} {bs : List UInt8} (h : Reads w (.slice a l c) bs) : l = bs.length ∧ l ≤ c ∧ c ≤ maxLen := by
  rcases h with ⟨h, rfl⟩ | ⟨b, off, cap, h, h1, h2, _⟩
  · simp at h
    obtain ⟨rfl, rfl, rfl⟩ := h
    simp
  · simp at h
    obtain ⟨rfl, rfl, rfl⟩ := h
    exact ⟨rfl, h1, h2⟩
theorem Reads.form {w : World} {v : Value} {bs : List UInt8} (h : Reads w v bs) : ∃ a cap, v = .slice a bs.length cap := by
  rcases h with ⟨rfl, rfl⟩ | ⟨b, off, cap, rfl, _⟩
  · exact ⟨none, 0, rfl⟩
  · exact ⟨_, _, rfl⟩

/-- A piece of a slice, as the model cuts it. -/
theorem Reads.cut {w : World} {a : Option Addr} {l c : Nat} {bs : List UInt8} (h : Reads w (.slice a l c) bs) (p n : Nat) (hp : p + n ≤ bs.length) :
    Reads w (.slice (a.map fun x => x.add p) n (c - p)) ((bs.drop p).take n) := by
  have hl : ((bs.drop p).take n).length = n := by simp; omega
  rcases h with ⟨h, rfl⟩ | ⟨b, off, cap, h, h1, h2, hc⟩
  · simp at h hp
    obtain ⟨rfl, rfl, rfl⟩ := h
    obtain ⟨rfl, rfl⟩ := hp
    exact .inl ⟨rfl, rfl⟩
  · simp at h
    obtain ⟨rfl, rfl, rfl⟩ := h
    refine .inr ⟨b, off + p, c - p, ?_, by omega, by omega, fun i u hu => ?_⟩
    · rw [hl]
      simp [Addr.add]
    · have := hc (p + i) u (by
        rw [List.getElem?_take] at hu
        split at hu
        · rwa [List.getElem?_drop] at hu
        · cases hu)
      rwa [← Nat.add_assoc] at this
/-- Where the cut lies at the end of all room, the model leaves the address. -/
theorem Reads.nothing {w : World} {a : Option Addr} {l c : Nat} {bs : List UInt8} (h : Reads w (.slice a l c) bs) : Reads w (.slice a 0 0) [] := by
  rcases h with ⟨h, rfl⟩ | ⟨b, off, cap, h, h1, h2, hc⟩
  · simp at h
    obtain ⟨rfl, rfl, rfl⟩ := h
    exact .inl ⟨rfl, rfl⟩
  · simp at h
    obtain ⟨rfl, rfl, rfl⟩ := h
    exact .inr ⟨b, off, 0, rfl, by simp, by simp, fun i u hu => by simp at hu⟩
theorem Reads.one {w : World} {v : Value} {u : UInt8} (h : Reads w v [u]) : ∃ b off cap, v = .slice (some ⟨b, off, none⟩) 1 cap ∧ w.cell? ⟨b, off, none⟩ = some (.int .u8 (u.toNat : Int)) := by
  rcases h with ⟨_, h⟩ | ⟨b, off, cap, rfl, _, _, hc⟩
  · cases h
  · exact ⟨b, off, cap, rfl, hc 0 u rfl⟩

/-- The reader's bytes are kept where its own block alone is turned. -/
theorem Rd.carry {w w' : World} {r : Nat} {vb : Value} {pos : Nat} {er : Int} {bs : List UInt8} (h : Rd w r vb pos er) (hb : Reads w vb bs) (hg : w.grownBy w' (some r)) : Reads w' vb bs := by
  rcases h.apart hb with e | rfl
  · exact hb.kept hg (.inr e)
  · rcases hb with ⟨hh, _⟩ | ⟨b, off, c, hh, h1, h2, _⟩
    · exact .inl ⟨hh, rfl⟩
    · exact .inr ⟨b, off, c, hh, h1, h2, fun i u hu => by simp at hu⟩

/-- New blocks alone: what was read is read. -/
theorem Reads.new {w w' : World} {v : Value} {bs : List UInt8} (h : Reads w v bs) (hg : w.grownBy w' none) : Reads w' v bs :=
  h.kept hg (by cases v.ownBlock <;> simp)
theorem Owns.new {w w' : World} {B : Nat} {e : TypeId} {v : Value} {bs : List UInt8} (h : Owns w B e v bs) (hg : w.grownBy w' none) : Owns w' B e v bs :=
  h.kept hg (by cases v.ownBlock <;> simp)
theorem Rd.new {w w' : World} {r : Nat} {vb : Value} {pos : Nat} {er : Int} (h : Rd w r vb pos er) (hg : w.grownBy w' none) : Rd w' r vb pos er := h.kept hg (by simp)
/-- A reader that lies in a block of its own, over bytes that were there. -/
theorem rd_made (v : Value) (w : World) : Rd (w.alloc (.cells #[.bool true, v, .int .i64 0, .int .i64 0] 0)) w.heap.size v 0 0 := by
  unfold Rd; simpa using heap_alloc_new w _

/-- A slice whose elements take one cell each: its elements' values. -/
def Row (w : World) (v : Value) (vs : List Value) : Prop :=
  (v = .slice none 0 0 ∧ vs = []) ∨
  ∃ b off cap, v = .slice (some ⟨b, off, none⟩) vs.length cap ∧ vs.length ≤ cap ∧ cap ≤ maxLen ∧
    ∀ i u, vs[i]? = some u → w.cell? ⟨b, off + i, none⟩ = some u

/-- A slice of slices of bytes reads as the lists L. -/
def ReadsL (w : World) (v : Value) (L : List (List UInt8)) : Prop :=
  ∃ vs : List Value, vs.length = L.length ∧ Row w v vs ∧ ∀ (i : Nat) (x : Value) (f : List UInt8), vs[i]? = some x → L[i]? = some f → Reads w x f

theorem Row.all {w w' : World} {v : Value} {vs : List Value} (h : Row w v vs) (hb : Below w.heap.size w w') : Row w' v vs := by
  rcases h with h | ⟨b, off, cap, rfl, h1, h2, hc⟩
  · exact .inl h
  · refine .inr ⟨b, off, cap, rfl, h1, h2, fun i u hu => ?_⟩
    have := hc i u hu
    have hl : b < w.heap.size := World.block_lt_of_cell? w _ this
    exact (hb.cell (p := ⟨b, off + i, none⟩) hl).trans this
theorem ReadsL.all {w w' : World} {v : Value} {L : List (List UInt8)} (h : ReadsL w v L) (hb : Below w.heap.size w w') : ReadsL w' v L := by
  obtain ⟨vs, h1, h2, h3⟩ := h
  exact ⟨vs, h1, h2.all hb, fun i x f hx hf => (h3 i x f hx hf).all hb⟩
theorem Reads.lt {w : World} {v : Value} {bs : List UInt8} (h : Reads w v bs) (hn : bs ≠ []) : ∀ k, v.ownBlock = some k → k < w.heap.size := by
  rcases h with ⟨rfl, rfl⟩ | ⟨b, off, cap, rfl, _, _, hc⟩
  · exact absurd rfl hn
  · intro k hk
    simp [Value.ownBlock] at hk
    subst hk
    obtain ⟨u, l, rfl⟩ := List.exists_cons_of_ne_nil hn
    exact World.block_lt_of_cell? w _ (hc 0 u rfl)
end Go.Proofs.Ytnnijcafnhhnoaa
