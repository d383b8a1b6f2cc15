/-
  PLAIN WORDS FOR LAYER 2 (codec): what a slice of bytes reads as; what a call owns; the block of four cells that a reader is; what only one block's turn keeps. No program is named here.
-/
import Derived.WalkKit
import Derived.OneCell
import Derived.Deep.Draws
import Derived.Maps.AppendAt
import Derived.Lib.Varint
import Derived.Lib.VarintMem
import Derived.Lib.UnsafeStr
import Derived.Lib.Hide
import Derived.RangeFuncNested
import Derived.RangeFuncLeaves
import Derived.RangeFuncCalls
import Derived.Sort.BigQuietIn
import Derived.OwnWalkIn
import Derived.OrdersIn
import Derived.OrdersHeld
import Derived.RegionIn
import Derived.Deep.RegionHeld
namespace Go.Proofs.YtafcgjbafihniaaGreat
set_option maxRecDepth 100000
open Go.RowKit Go.Lib

/-- A slice of bytes reads as bs: it is nil and bs is empty, or it leads to a row whose first cells are bs. -/
def Reads (w : World) (v : Value) (bs : List UInt8) : Prop :=
  (v = .slice none 0 0 ∧ bs = []) ∨
  ∃ b off cap, v = .slice (some ⟨b, off, none⟩) bs.length cap ∧ bs.length ≤ cap ∧ cap ≤ maxLen ∧
    ∀ i u, bs[i]? = some u → w.cell? ⟨b, off + i, none⟩ = some (.int .u8 (u.toNat : Int))

/-- The call owns the bytes bs: they lie in a block from B on, from its first cell on. -/
def Owns (w : World) (B : Nat) (e : TypeId) (v : Value) (bs : List UInt8) : Prop := w.ownsRow B e 1 v bs.length (byteCells bs)

theorem byteCells_get {bs : List UInt8} {i : Nat} : (byteCells bs)[i]? = (bs[i]?).map fun u => Value.int .u8 (u.toNat : Int) := by
  simp [byteCells]

theorem Owns.reads {w : World} {B : Nat} {e : TypeId} {v : Value} {bs : List UInt8} (h : Owns w B e v bs) : Reads w v bs := by
  have h0 := h
  obtain ⟨_, ⟨rfl, hn⟩ | ⟨g, cap, cur, rfl, hB, hg, hn, hc, hs, ht⟩⟩ := h
  · exact .inl ⟨rfl, List.length_eq_zero_iff.1 hn⟩
  · refine .inr ⟨g, 0, cap, rfl, hn, hc, fun i u hu => ?_⟩
    have hi : i < bs.length := (List.getElem?_eq_some_iff.1 hu).1
    rw [Nat.zero_add, World.ownsRow.cellAt h0 i (by omega), byteCells_get, hu]
    rfl

theorem Owns.lt {w : World} {B : Nat} {e : TypeId} {v : Value} {bs : List UInt8} (h : Owns w B e v bs) : ∀ k, v.ownBlock = some k → B ≤ k ∧ k < w.heap.size := World.ownsRow.lt h

theorem Owns.kept {w w' : World} {B : Nat} {e : TypeId} {v : Value} {bs : List UInt8} {row : Option Nat} (h : Owns w B e v bs) (hg : w.grownBy w' row) (hne : v.ownBlock = none ∨ v.ownBlock ≠ row) : Owns w' B e v bs :=
  World.ownsRow.kept h hg hne

theorem Owns.mono {w : World} {B B' : Nat} {e : TypeId} {v : Value} {bs : List UInt8} (h : Owns w B e v bs) (hB : B' ≤ B) : Owns w B' e v bs := by
  obtain ⟨h1, h2 | ⟨g, cap, cur, hv, hb, r⟩⟩ := h
  · exact ⟨h1, .inl h2⟩
  · exact ⟨h1, .inr ⟨g, cap, cur, hv, by omega, r⟩⟩

/-- What a slice reads as is kept where its block is. -/
theorem Reads.kept {w w' : World} {v : Value} {bs : List UInt8} {row : Option Nat} (h : Reads w v bs) (hg : w.grownBy w' row) (hne : v.ownBlock = none ∨ v.ownBlock ≠ row) : Reads w' v bs := by
  rcases h with h | ⟨b, off, cap, rfl, h1, h2, hc⟩
  · exact .inl h
  · refine .inr ⟨b, off, cap, rfl, h1, h2, fun i u hu => ?_⟩
    exact hg.cell (hc i u hu) (by simpa [Value.ownBlock] using hne)

theorem Reads.below {w w' : World} {B : Nat} {v : Value} {bs : List UInt8} (h : Reads w v bs) (hb : Below B w w') (hlt : bs ≠ [] → ∀ k, v.ownBlock = some k → k < B) : Reads w' v bs := by
  rcases h with h | ⟨b, off, cap, rfl, h1, h2, hc⟩
  · exact .inl h
  · refine .inr ⟨b, off, cap, rfl, h1, h2, fun i u hu => ?_⟩
    have hn : bs ≠ [] := by rintro rfl; simp at hu
    exact (hb.cell (p := ⟨b, off + i, none⟩) (hlt hn b rfl)).trans (hc i u hu)

/-- All that a world had is there in the next one (the blocks of the first are in the second as they were). -/
theorem Reads.all {w w' : World} {v : Value} {bs : List UInt8} (h : Reads w v bs) (hb : Below w.heap.size w w') : Reads w' v bs := by
  rcases h with h | ⟨b, off, cap, rfl, h1, h2, hc⟩
  · exact .inl h
  · refine .inr ⟨b, off, cap, rfl, h1, h2, fun i u hu => ?_⟩
    have := hc i u hu
    have hl : b < w.heap.size := World.block_lt_of_cell? w _ this
    exact (hb.cell (p := ⟨b, off + i, none⟩) hl).trans this

/-- A step that turns a block which is new since 'a'. -/
theorem gnew {a b c : World} {row row' : Option Nat} (h : a.grownBy b row) (k : b.grownBy c row') (hn : ∀ r, row' = some r → a.heap.size ≤ r ∨ row = some r) : a.grownBy c row :=
  ⟨k.os.trans h.os, k.tape.trans h.tape, k.output.trans h.output, Nat.le_trans h.size k.size, fun i hi hne => by
    refine (k.block i (Nat.lt_of_lt_of_le hi h.size) ?_).trans (h.block i hi hne)
    intro e
    rcases hn i e.symm with h | h
    · omega
    · exact hne h.symm⟩
theorem gdrewN {a b : World} {row : Option Nat} (h : a.grownBy b row) (n : Nat) : a.grownBy (b.drewN n) row :=
  ⟨h.os, h.tape, h.output, h.size, h.block⟩
theorem gdrew {a b : World} {row : Option Nat} (h : a.grownBy b row) : a.grownBy b.drew row :=
  ⟨h.os, h.tape, h.output, h.size, h.block⟩
theorem gset {a b : World} {r : Nat} (h : a.grownBy b (some r)) (o : Nat) (u : Value) : a.grownBy (b.setCell ⟨r, o, none⟩ u) (some r) :=
  h.trans ⟨rfl, rfl, rfl, by simp [World.setCell], fun k _ hne => Below.heap_setCell _ _ _ _ (fun e => hne (by simp [e]))⟩
theorem galloc {a b : World} {row : Option Nat} (h : a.grownBy b row) (o : Obj) : a.grownBy (b.alloc o) row := h.trans (World.grownBy_alloc b o row)
theorem gbelow {a b : World} {row : Option Nat} {B : Nat} (h : a.grownBy b row) (hB : B ≤ a.heap.size) (hr : ∀ r, row = some r → B ≤ r) : Below B a b :=
  ⟨h.os, h.tape, h.output, h.size, fun k hk => h.block k (by omega) (fun e => by have := hr k e.symm; omega)⟩
theorem belowg_drew {a b : World} (h : a.drew.grownBy b none) : Below a.heap.size a b := ⟨h.os, h.tape, h.output, h.size, fun k hk => h.block k hk (by simp)⟩
theorem belowg' {a b : World} (h : a.grownBy b none) : Below a.heap.size a b := ⟨h.os, h.tape, h.output, h.size, fun k hk => h.block k hk (by simp)⟩
theorem belowg {a b : World} (h : Below a.heap.size a b) (row : Option Nat) : a.grownBy b row :=
  ⟨h.os, h.tape, h.output, h.size, fun k hk _ => h.block k hk⟩

/-- A reader's block: made, its bytes, how far, its error. -/
def Rd (w : World) (r : Nat) (vb : Value) (pos : Nat) (err : Int) : Prop :=
  w.heap[r]? = some (.cells #[.bool true, vb, .int .i64 (pos : Int), .int .i64 err] 0 (0, 0))

section
variable {w : World} {r : Nat} {vb : Value} {pos : Nat} {er : Int}
theorem Rd.made (h : Rd w r vb pos er) : w.cell? ⟨r, 0, none⟩ = some (.bool true) := by simp [World.cell?, show _ = _ from h]
theorem Rd.bytes (h : Rd w r vb pos er) : w.cell? ⟨r, 1, none⟩ = some vb := by simp [World.cell?, show _ = _ from h]
theorem Rd.at (h : Rd w r vb pos er) : w.cell? ⟨r, 2, none⟩ = some (.int .i64 (pos : Int)) := by simp [World.cell?, show _ = _ from h]
theorem Rd.err (h : Rd w r vb pos er) : w.cell? ⟨r, 3, none⟩ = some (.int .i64 er) := by simp [World.cell?, show _ = _ from h]
theorem Rd.free (h : Rd w r vb pos er) (o : Nat) : w.frozen? ⟨r, o, none⟩ = false := by simp [World.frozen?, show _ = _ from h]
theorem Rd.lt (h : Rd w r vb pos er) : r < w.heap.size := lt_of_block h
theorem Rd.setAt (h : Rd w r vb pos er) (pos' : Nat) : Rd (w.setCell ⟨r, 2, none⟩ (.int .i64 (pos' : Int))) r vb pos' er :=
  heap_setCell_same w r 2 _ _ _ h
theorem Rd.setErr (h : Rd w r vb pos er) (err' : Int) : Rd (w.setCell ⟨r, 3, none⟩ (.int .i64 err')) r vb pos err' :=
  heap_setCell_same w r 3 _ _ _ h
theorem Rd.kept {w' : World} {row : Option Nat} (h : Rd w r vb pos er) (hg : w.grownBy w' row) (hne : row ≠ some r) : Rd w' r vb pos er :=
  (hg.block r h.lt (fun e => hne e.symm)).trans h
theorem Rd.drewN (h : Rd w r vb pos er) (n : Nat) : Rd (w.drewN n) r vb pos er := h
/-- The reader's own block is not that of its bytes. -/
theorem Rd.apart {bs : List UInt8} (h : Rd w r vb pos er) (hb : Reads w vb bs) : vb.ownBlock ≠ some r ∨ bs = [] := by
  rcases hb with ⟨_, rfl⟩ | ⟨b, off, cap, rfl, _, _, hc⟩
  · exact .inr rfl
  · by_cases e : bs = []
    · exact .inr e
    · left
      intro hb'
      simp [Value.ownBlock] at hb'
      subst hb'
      obtain ⟨u, l, rfl⟩ := List.exists_cons_of_ne_nil e
      have := hc 0 u rfl
      simp only [World.cell?, show _ = _ from h] at this
      simp only [Nat.add_zero] at this
      rcases off with _ | _ | _ | _ | off <;> simp at this
end

theorem Reads.slice {w : World} {a : Option Addr} {l c : Nat} {bs : List UInt8} (h : Reads w (.slice a l c) bs) : l = bs.length ∧ l ≤ c ∧ c ≤ maxLen := by
  rcases h with ⟨h, rfl⟩ | ⟨b, off, cap, h, h1, h2, _⟩
  · simp at h
    obtain ⟨rfl, rfl, rfl⟩ := h
    simp
  · simp at h
    obtain ⟨rfl, rfl, rfl⟩ := h
    exact ⟨rfl, h1, h2⟩
theorem Reads.form {w : World} {v : Value} {bs : List UInt8} (h : Reads w v bs) : ∃ a cap, v = .slice a bs.length cap := by
  rcases h with ⟨rfl, rfl⟩ | ⟨b, off, cap, rfl, _⟩
  · exact ⟨none, 0, rfl⟩
  · exact ⟨_, _, rfl⟩

/-- A piece of a slice, as the model cuts it. -/
theorem Reads.cut {w : World} {a : Option Addr} {l c : Nat} {bs : List UInt8} (h : Reads w (.slice a l c) bs) (p n : Nat) (hp : p + n ≤ bs.length) :
    Reads w (.slice (a.map fun x => x.add p) n (c - p)) ((bs.drop p).take n) := by
  have hl : ((bs.drop p).take n).length = n := by simp; omega
  rcases h with ⟨h, rfl⟩ | ⟨b, off, cap, h, h1, h2, hc⟩
  · simp at h hp
    obtain ⟨rfl, rfl, rfl⟩ := h
    obtain ⟨rfl, rfl⟩ := hp
    exact .inl ⟨rfl, rfl⟩
  · simp at h
    obtain ⟨rfl, rfl, rfl⟩ := h
    refine .inr ⟨b, off + p, c - p, ?_, by omega, by omega, fun i u hu => ?_⟩
    · rw [hl]
      simp [Addr.add]
    · have := hc (p + i) u (by
        rw [List.getElem?_take] at hu
        split at hu
        · rwa [List.getElem?_drop] at hu
        · cases hu)
      rwa [← Nat.add_assoc] at this
/-- Where the cut lies at the end of all room, the model leaves the address. -/
theorem Reads.nothing {w : World} {a : Option Addr} {l c : Nat} {bs : List UInt8} (h : Reads w (.slice a l c) bs) : Reads w (.slice a 0 0) [] := by
  rcases h with ⟨h, rfl⟩ | ⟨b, off, cap, h, h1, h2, hc⟩
  · simp at h
    obtain ⟨rfl, rfl, rfl⟩ := h
    exact .inl ⟨rfl, rfl⟩
  · simp at h
    obtain ⟨rfl, rfl, rfl⟩ := h
    exact .inr ⟨b, off, 0, rfl, by simp, by simp, fun i u hu => by simp at hu⟩
theorem Reads.one {w : World} {v : Value} {u : UInt8} (h : Reads w v [u]) : ∃ b off cap, v = .slice (some ⟨b, off, none⟩) 1 cap ∧ w.cell? ⟨b, off, none⟩ = some (.int .u8 (u.toNat : Int)) := by
  rcases h with ⟨_, h⟩ | ⟨b, off, cap, rfl, _, _, hc⟩
  · cases h
  · exact ⟨b, off, cap, rfl, hc 0 u rfl⟩

/-- The reader's bytes are kept where its own block alone is turned. -/
theorem Rd.carry {w w' : World} {r : Nat} {vb : Value} {pos : Nat} {er : Int} {bs : List UInt8} (h : Rd w r vb pos er) (hb : Reads w vb bs) (hg : w.grownBy w' (some r)) : Reads w' vb bs := by
  rcases h.apart hb with e | rfl
  · exact hb.kept hg (.inr e)
  · rcases hb with ⟨hh, _⟩ | ⟨b, off, c, hh, h1, h2, _⟩
    · exact .inl ⟨hh, rfl⟩
    · exact .inr ⟨b, off, c, hh, h1, h2, fun i u hu => by simp at hu⟩

/-- New blocks alone: what was read is read. -/
theorem Reads.new {w w' : World} {v : Value} {bs : List UInt8} (h : Reads w v bs) (hg : w.grownBy w' none) : Reads w' v bs :=
  h.kept hg (by cases v.ownBlock <;> simp)
theorem Owns.new {w w' : World} {B : Nat} {e : TypeId} {v : Value} {bs : List UInt8} (h : Owns w B e v bs) (hg : w.grownBy w' none) : Owns w' B e v bs :=
  h.kept hg (by cases v.ownBlock <;> simp)
theorem Rd.new {w w' : World} {r : Nat} {vb : Value} {pos : Nat} {er : Int} (h : Rd w r vb pos er) (hg : w.grownBy w' none) : Rd w' r vb pos er := h.kept hg (by simp)
/-- A reader that lies in a block of its own, over bytes that were there. -/
theorem rd_made (v : Value) (w : World) : Rd (w.alloc (.cells #[.bool true, v, .int .i64 0, .int .i64 0] 0)) w.heap.size v 0 0 := by
  unfold Rd; simpa using heap_alloc_new w _

/-- A slice whose elements take one cell each: its elements' values. -/
def Row (w : World) (v : Value) (vs : List Value) : Prop :=
  (v = .slice none 0 0 ∧ vs = []) ∨
  ∃ b off cap, v = .slice (some ⟨b, off, none⟩) vs.length cap ∧ vs.length ≤ cap ∧ cap ≤ maxLen ∧
    ∀ i u, vs[i]? = some u → w.cell? ⟨b, off + i, none⟩ = some u

/-- A slice of slices of bytes reads as the lists L. -/
def ReadsL (w : World) (v : Value) (L : List (List UInt8)) : Prop :=
  ∃ vs : List Value, vs.length = L.length ∧ Row w v vs ∧ ∀ (i : Nat) (x : Value) (f : List UInt8), vs[i]? = some x → L[i]? = some f → Reads w x f

theorem Row.all {w w' : World} {v : Value} {vs : List Value} (h : Row w v vs) (hb : Below w.heap.size w w') : Row w' v vs := by
  rcases h with h | ⟨b, off, cap, rfl, h1, h2, hc⟩
  · exact .inl h
  · refine .inr ⟨b, off, cap, rfl, h1, h2, fun i u hu => ?_⟩
    have := hc i u hu
    have hl : b < w.heap.size := World.block_lt_of_cell? w _ this
    exact (hb.cell (p := ⟨b, off + i, none⟩) hl).trans this
theorem ReadsL.all {w w' : World} {v : Value} {L : List (List UInt8)} (h : ReadsL w v L) (hb : Below w.heap.size w w') : ReadsL w' v L := by
  obtain ⟨vs, h1, h2, h3⟩ := h
  exact ⟨vs, h1, h2.all hb, fun i x f hx hf => (h3 i x f hx hf).all hb⟩
theorem Reads.lt {w : World} {v : Value} {bs : List UInt8} (h : Reads w v bs) (hn : bs ≠ []) : ∀ k, v.ownBlock = some k → k < w.heap.size := by
  rcases h with ⟨rfl, rfl⟩ | ⟨b, off, cap, rfl, _, _, hc⟩
  · exact absurd rfl hn
  · intro k hk
    simp [Value.ownBlock] at hk
    subst hk
    obtain ⟨u, l, rfl⟩ := List.exists_cons_of_ne_nil hn
    exact World.block_lt_of_cell? w _ (hc 0 u rfl)
end Go.Proofs.YtafcgjbafihniaaGreat

/-
  A RANGE OVER A FUNCTION WHOSE ITERATOR HAS A STATE OF ITS OWN, AND TELLS OF WHAT IT HANDS OVER: one law for the caller. No program is named here.
  The iterator turns block r alone (and lays new blocks); the body keeps each elder block but its own, ib; of what is handed over, 'Ok' holds in the world of the call.
-/
namespace Go.Proofs.YtafcgjbafihniaaGreat
set_option maxRecDepth 100000
open Go.RowKit

/-- What a round leaves of the elder blocks: all but block ib. -/
def KeptX (n0 ib : Nat) (A B : World) : Prop := A.heap.size ≤ B.heap.size ∧ ∀ k, k < n0 → k ≠ ib → B.heap[k]? = A.heap[k]?
theorem KeptX.refl {n0 ib : Nat} (A : World) : KeptX n0 ib A A := ⟨Nat.le_refl _, fun _ _ _ => rfl⟩
theorem KeptX.trans {n0 ib : Nat} {A B C : World} (h : KeptX n0 ib A B) (k : KeptX n0 ib B C) : KeptX n0 ib A C := ⟨Nat.le_trans h.1 k.1, fun i h1 h2 => (k.2 i h1 h2).trans (h.2 i h1 h2)⟩
theorem KeptX.grown {n0 ib q : Nat} {A B : World} (h : A.grownBy B (some q)) (hn : n0 ≤ A.heap.size) (hq : q = ib ∨ n0 ≤ q) : KeptX n0 ib A B :=
  ⟨h.size, fun k h1 h2 => h.block k (by omega) (fun e => by cases e; omega)⟩

/-- What an iterator promises: called with yield, it calls yield at what it tells, as long as rounds go on; its own steps turn block r alone. -/
def TellsO {α : Type} (F : Fence) (n : Nat) (P : Program) (g : Nat) (lb : Array Value) (encs : α → Array Value) (Ok : List α → α → World → Prop) (r : Option Nat) (n0 ib : Nat) (S Sp : List α → World → Prop) (w : World) : Prop :=
  ∀ (l : Nat) (J Jx : List α → World → Prop) (W : World), KeptX n0 ib w W → n0 ≤ W.heap.size →
    (∀ s A B, J s A → A.grownBy B r → J s B) → (∀ s A B, Jx s A → A.grownBy B r → Jx s B) →
    (∀ pre x W1, J pre W1 → Ok pre x W1 → n0 ≤ W1.heap.size → YieldAt F (n - 1) P l (encs x) W1 fun e W' =>
      (e = .returned (.bool true) ∧ J (pre ++ [x]) W' ∧ KeptX n0 ib W1 W') ∨ (e = .returned (.bool false) ∧ Jx (pre ++ [x]) W' ∧ KeptX n0 ib W1 W')) →
    J [] W →
    CallsIn F n P g (#[.func (.yield l) #[] #[]] ++ lb) W fun e W' => (∃ v, e = .returned v) ∧ ((∃ xs, S xs W' ∧ J xs W') ∨ (∃ pre, Sp pre W' ∧ Jx pre W'))

def Tells {α : Type} (F : Fence) (n : Nat) (P : Program) (g : Nat) (lb : Array Value) (encs : α → Array Value) (Ok : List α → α → World → Prop) (r n0 ib : Nat) (S Sp : List α → World → Prop) (w : World) : Prop :=
  TellsO F n P g lb encs Ok (some r) n0 ib S Sp w

/-- How a round's body may be left. -/
def roundLeft {α : Type} (n0 ib : Nat) (I : List α → World → Prop) (Ix : Code → List α → World → Prop) (xs : List α) (W : World) : Exit → Act → World → Prop
  | .normal, _, W' => KeepsOthers W W' ∧ KeptX n0 ib W W' ∧ I xs W'
  | .ret, _, W' => KeepsOthers W W' ∧ KeptX n0 ib W W' ∧ Ix .ret xs W'
  | .exit i, _, W' => KeepsOthers W W' ∧ KeptX n0 ib W W' ∧ Ix (.exit i) xs W'
  | .goto i, _, W' => KeepsOthers W W' ∧ KeptX n0 ib W W' ∧ Ix (.goto i) xs W'
  | .panic _, _, _ => False
  | .outgrown, _, _ => False

theorem gbut {a c : World} (h : a.grownBy c none) (row : Option Nat) : a.grownBy c row := ⟨h.os, h.tape, h.output, h.size, fun i hi _ => h.block i hi (by simp)⟩
theorem putObj_grown (W : World) (l : Nat) (o : Obj) : W.grownBy (W.putObj l o) (some l) := grownBy_putObj' W l o

set_option maxHeartbeats 4000000 in
theorem range_tells3 {α : Type} {F : Fence} {n : Nat} {P : Program} {g : Operand} {ps : Array Tmp} {assign body : Code} {Q : Exit → Act → World → Prop} {a : Act} {w : World}
    (hro : F.round = none) (h1 : 1 ≤ n) {gf : Nat} {lb : Array Value} (hg : a.eval g = .func (.func gf) #[] lb) (hFg : F.fn gf) (eg : ∀ args w, (callFunc gf args).run P w = .ok (.enter gf args) w)
    {encs : α → Array Value} {Ok : List α → α → World → Prop} {r : Option Nat} {ib : Nat} {S Sp : List α → World → Prop}
    (hseq : TellsO F (n - 1) P gf lb encs Ok r w.heap.size ib S Sp w) (hrw : r ≠ some w.heap.size ∧ r ≠ some (w.heap.size + 1)) (hps : ∀ x, (encs x).size = ps.size)
    (hOk : ∀ pre x A B k o, Ok pre x A → A.grownBy B (some k) → A.heap[k]? = some o → o.isCells = false → Ok pre x B)
    (I : List α → World → Prop) (Ix : Code → List α → World → Prop)
    (hI : ∀ s A B k, I s A → A.grownBy B k → (k = r ∨ (∃ q, k = some q ∧ w.heap.size ≤ q ∧ ∀ o, A.heap[q]? = some o → o.isCells = false)) → I s B)
    (hIx : ∀ c s A B k, Ix c s A → A.grownBy B k → (k = r ∨ (∃ q, k = some q ∧ w.heap.size ≤ q ∧ ∀ o, A.heap[q]? = some o → o.isCells = false)) → Ix c s B)
    (h0 : I [] w) (a₁ : α → Act)
    (hassign : ∀ (l : Nat) (x : α) (W : World) (K : Act → World → Prop), K (a₁ x) W →
      assign.wpIn (F.inRound l) (n - 1 - 1) P (Exit.then K (fun _ _ _ => False)) { tmps := (ps.zip (encs x)).foldl (fun t (p, v) => t.setIfInBounds p v) a.tmps, defers := [] } W)
    (hbody : ∀ (l : Nat) (pre : List α) (x : α) (W : World), I pre W → Ok pre x W → w.heap.size ≤ W.heap.size → body.wpIn (F.inRound l) (n - 1 - 1) P (roundLeft w.heap.size ib I Ix (pre ++ [x]) W) (a₁ x) W)
    (hdone : ∀ (D : Nat) (xs : List α) (W W' : World), w.heap.size ≤ D → S xs W → I xs W' → W.grownBy W' (some (D + 1)) → W'.heap[D]? = some (.deferred (some [])) → Q .normal { a with defers := { target := .collected D, args := #[] } :: a.defers } W')
    (hstop : ∀ (D : Nat) (c : Code) (pre : List α) (W W' : World), w.heap.size ≤ D → Sp pre W → Ix c pre W' → W.grownBy W' (some (D + 1)) → W'.heap[D]? = some (.deferred (some [])) → c.wpIn F n P Q { a with defers := { target := .collected D, args := #[] } :: a.defers } W') :
    (Code.rangeFunc g ps assign body).wpIn F n P Q a w := by
  refine wpIn_rangeFunc fun fn hfn => ?_
  rw [hro]
  -- the loop's record, in each of its states
  let rec' : LoopState → Option Code → Loop := fun st pe => { state := st, pending := pe, fn, tmps := a.tmps, params := ps, assign, body, defers := w.heap.size }
  obtain ⟨R, hR⟩ : ∃ R, R = rec' := ⟨_, rfl⟩
  obtain ⟨D, hD⟩ : ∃ D, D = w.heap.size := ⟨_, rfl⟩
  obtain ⟨V, hV⟩ : ∃ V, V = (w.alloc (.deferred (some []))).alloc (.loop (R .ready none)) := ⟨_, rfl⟩
  have gV : w.grownBy V none := by rw [hV]; exact (World.grownBy_alloc w _ none).trans (World.grownBy_alloc _ _ none)
  have lV : V.heap[D + 1]? = some (.loop (R .ready none)) := by
    rw [hV, hD]
    have := World.alloc_heap_new (w.alloc (.deferred (some []))) (.loop (R .ready none))
    rwa [World.size_alloc] at this
  have dV : V.heap[D]? = some (.deferred (some [])) := by
    rw [hV, hD]
    exact ((World.grownBy_alloc (w.alloc (.deferred (some []))) (.loop (R .ready none)) none).block w.heap.size (by simp) (by simp)).trans (World.alloc_heap_new w _)
  have hrD : r ≠ some D ∧ r ≠ some (D + 1) := by rw [hD]; exact hrw
  have iV : I [] V := hI _ _ _ (some D) h0 (gbut gV _) (.inr ⟨D, rfl, by omega, fun o ho => by have := (Array.getElem?_eq_some_iff.1 ho).1; omega⟩)
  refine ⟨D + 1, [{ target := .collected D, args := #[] }], V, { target := .fn (.func gf) lb, args := #[.func (.yield (D + 1)) #[] #[]] }, V, gf, #[.func (.yield (D + 1)) #[] #[]] ++ lb, V, ?_, ?_, ?_, ?_, fun _ => h1, ?_⟩
  · rw [hV, hR, hD]; exact run_enterLoop_outer _ _ _ _ _
  · simp only [resolve, hg]
    simp [go_sem]
  · intro f' hf'; simp [Target.leads] at hf'; subst hf'; exact hFg
  · simp [invoke, go_sem, eg]
  · have keepD : ∀ {A B : World} {q : Option Nat} {o : Obj}, A.grownBy B q → q ≠ some D → A.heap[D]? = some o → B.heap[D]? = some o := fun h hq ho => (h.block D (Array.getElem?_eq_some_iff.1 ho).1 (fun e => hq e.symm)).trans ho
    have keepL : ∀ {A B : World} {q : Option Nat} {o : Obj}, A.grownBy B q → q ≠ some (D + 1) → A.heap[D + 1]? = some o → B.heap[D + 1]? = some o := fun h hq ho => (h.block (D + 1) (Array.getElem?_eq_some_iff.1 ho).1 (fun e => hq e.symm)).trans ho
    refine (hseq (D + 1) (fun pre W => I pre W ∧ W.heap[D + 1]? = some (.loop (R .ready none)) ∧ W.heap[D]? = some (.deferred (some [])))
      (fun pre W => ∃ c, Ix c pre W ∧ W.heap[D + 1]? = some (.loop (R .done (some c))) ∧ W.heap[D]? = some (.deferred (some []))) V
      (KeptX.grown (q := D) (gbut gV _) (Nat.le_refl _) (.inr (by omega))) gV.size ?_ ?_ ?_ ⟨iV, lV, dV⟩).mono ?_
    · rintro s A B ⟨h2, h3, h4⟩ hAB
      exact ⟨hI _ _ _ r h2 hAB (.inl rfl), keepL hAB hrD.2 h3, keepD hAB hrD.1 h4⟩
    · rintro s A B ⟨c, h2, h3, h4⟩ hAB
      exact ⟨c, hIx _ _ _ _ r h2 hAB (.inl rfl), keepL hAB hrD.2 h3, keepD hAB hrD.1 h4⟩
    · -- one round
      rintro pre x W ⟨h2, h3, h4⟩ hok hsz
      have hlt : D + 1 < W.heap.size := (Array.getElem?_eq_some_iff.1 h3).1
      have hy := run_yield (P := P) (args := encs x) h3 (by rw [hR]; exact hps x)
      rw [hR] at hy
      refine ⟨fn, _, assign, body, hy, roundIn_of_wpIn hfn (hassign _ x W _ ⟨_, run_beginRound h3 (by rw [hR]), ?_⟩)⟩
      obtain ⟨o2, ho2⟩ : ∃ o2 : Loop, o2 = { R .ready none with state := .busy } := ⟨_, rfl⟩
      rw [← ho2]
      have gU := putObj_grown W (D + 1) (.loop o2)
      have lU : (W.putObj (D + 1) (.loop o2)).heap[D + 1]? = some (.loop o2) := World.putObj_heap_same hlt
      have dU := keepD gU (by simp) h4
      have kU : KeptX w.heap.size ib W (W.putObj (D + 1) (.loop o2)) := KeptX.grown gU hsz (.inr (by omega))
      refine wpIn_mono (hbody _ pre x _ (hI _ _ _ _ h2 gU (.inr ⟨_, rfl, by omega, fun o ho => by rw [h3] at ho; cases ho; rfl⟩)) (hOk _ _ _ _ _ _ hok gU h3 rfl) (Nat.le_trans hsz gU.size)) ?_
      have fin : ∀ (jump : Option Code) (W3 : World), KeepsOthers (W.putObj (D + 1) (.loop o2)) W3 → KeptX w.heap.size ib (W.putObj (D + 1) (.loop o2)) W3 → ∃ W4, (Instr.endRound (D + 1) jump).run P W3 = .ok (.bool jump.isNone) W4 ∧ W3.grownBy W4 (some (D + 1)) ∧
          W4.heap[D + 1]? = some (.loop (R (if jump.isNone then .ready else .done) jump)) ∧ W4.heap[D]? = some (.deferred (some [])) ∧ KeptX w.heap.size ib W W4 ∧ (∀ o, W3.heap[D + 1]? = some o → o.isCells = false) := by
        intro jump W3 hk hx
        have l3 := hk.same _ _ lU rfl
        have d3 := hk.same _ _ dU rfl
        have hrun := run_endRound (P := P) jump l3
        have g4 := putObj_grown W3 (D + 1) (.loop (R (if jump.isNone then .ready else .done) jump))
        refine ⟨_, ?_, g4, World.putObj_heap_same (Array.getElem?_eq_some_iff.1 l3).1, keepD g4 (by simp) d3, (kU.trans hx).trans (KeptX.grown g4 (Nat.le_trans hsz (Nat.le_trans gU.size hx.1)) (.inr (by omega))), fun o ho => by rw [l3] at ho; cases ho; rfl⟩
        rw [hrun, ho2, hR]
      rintro e a3 W3 hp
      cases e with
      | normal =>
        obtain ⟨p1, p2, p3⟩ := hp
        obtain ⟨W4, q1, q2, q3, q4, q5, q6⟩ := fin none W3 p1 p2
        exact ⟨_, _, q1, .inl ⟨rfl, ⟨hI _ _ _ _ p3 q2 (.inr ⟨_, rfl, by omega, q6⟩), q3, q4⟩, q5⟩⟩
      | ret =>
        obtain ⟨p1, p2, p3⟩ := hp
        obtain ⟨W4, q1, q2, q3, q4, q5, q6⟩ := fin (some .ret) W3 p1 p2
        exact ⟨_, _, q1, .inr ⟨rfl, ⟨.ret, hIx _ _ _ _ _ p3 q2 (.inr ⟨_, rfl, by omega, q6⟩), q3, q4⟩, q5⟩⟩
      | exit i =>
        obtain ⟨p1, p2, p3⟩ := hp
        obtain ⟨W4, q1, q2, q3, q4, q5, q6⟩ := fin (some (.exit i)) W3 p1 p2
        exact ⟨_, _, q1, .inr ⟨rfl, ⟨.exit i, hIx _ _ _ _ _ p3 q2 (.inr ⟨_, rfl, by omega, q6⟩), q3, q4⟩, q5⟩⟩
      | goto i =>
        obtain ⟨p1, p2, p3⟩ := hp
        obtain ⟨W4, q1, q2, q3, q4, q5, q6⟩ := fin (some (.goto i)) W3 p1 p2
        exact ⟨_, _, q1, .inr ⟨rfl, ⟨.goto i, hIx _ _ _ _ _ p3 q2 (.inr ⟨_, rfl, by omega, q6⟩), q3, q4⟩, q5⟩⟩
      | panic ch => exact hp.elim
      | outgrown => exact hp.elim
    · -- behind the iterator
      rintro e W2 ⟨⟨v, rfl⟩, (⟨xs, hS, h2, h3, h4⟩ | ⟨pre, hS, c, h2, h3, h4⟩)⟩
      · have hrun := run_endLoop (P := P) h3 (by rw [hR]; simp [rec'])
        have g4 := putObj_grown W2 (D + 1) (.loop { R .ready none with state := .exhausted })
        refine ⟨none, _, by rw [hrun, hR], ?_⟩
        rw [← hR]
        exact hdone D xs W2 _ (by omega) hS (hI _ _ _ _ h2 g4 (.inr ⟨_, rfl, by omega, fun o ho => by rw [h3] at ho; cases ho; rfl⟩)) g4 (keepD g4 (by simp) h4)
      · have hrun := run_endLoop (P := P) h3 (by rw [hR]; simp [rec'])
        have g4 := putObj_grown W2 (D + 1) (.loop { R .done (some c) with state := .exhausted })
        refine ⟨some c, _, by rw [hrun, hR], ?_⟩
        rw [← hR]
        exact hstop D c pre W2 _ (by omega) hS (hIx _ _ _ _ _ h2 g4 (.inr ⟨_, rfl, by omega, fun o ho => by rw [h3] at ho; cases ho; rfl⟩)) g4 (keepD g4 (by simp) h4)

set_option maxHeartbeats 4000000 in
theorem range_tells {α : Type} {F : Fence} {n : Nat} {P : Program} {g : Operand} {ps : Array Tmp} {assign body : Code} {Q : Exit → Act → World → Prop} {a : Act} {w : World}
    (hro : F.round = none) (h1 : 1 ≤ n) {gf : Nat} {lb : Array Value} (hg : a.eval g = .func (.func gf) #[] lb) (hFg : F.fn gf) (eg : ∀ args w, (callFunc gf args).run P w = .ok (.enter gf args) w)
    {encs : α → Array Value} {Ok : List α → α → World → Prop} {r ib : Nat} {S Sp : List α → World → Prop}
    (hseq : Tells F (n - 1) P gf lb encs Ok r w.heap.size ib S Sp w) (hrw : r ≠ w.heap.size ∧ r ≠ w.heap.size + 1) (hps : ∀ x, (encs x).size = ps.size)
    (hOk : ∀ pre x A B k o, Ok pre x A → A.grownBy B (some k) → A.heap[k]? = some o → o.isCells = false → Ok pre x B)
    (I : List α → World → Prop) (Ix : Code → List α → World → Prop)
    (hI : ∀ s A B k, I s A → A.grownBy B (some k) → k = r ∨ w.heap.size ≤ k → I s B)
    (hIx : ∀ c s A B k, Ix c s A → A.grownBy B (some k) → k = r ∨ w.heap.size ≤ k → Ix c s B)
    (h0 : I [] w) (a₁ : α → Act)
    (hassign : ∀ (l : Nat) (x : α) (W : World) (K : Act → World → Prop), K (a₁ x) W →
      assign.wpIn (F.inRound l) (n - 1 - 1) P (Exit.then K (fun _ _ _ => False)) { tmps := (ps.zip (encs x)).foldl (fun t (p, v) => t.setIfInBounds p v) a.tmps, defers := [] } W)
    (hbody : ∀ (l : Nat) (pre : List α) (x : α) (W : World), I pre W → Ok pre x W → w.heap.size ≤ W.heap.size → body.wpIn (F.inRound l) (n - 1 - 1) P (roundLeft w.heap.size ib I Ix (pre ++ [x]) W) (a₁ x) W)
    (hdone : ∀ (D : Nat) (xs : List α) (W W' : World), w.heap.size ≤ D → S xs W → I xs W' → W.grownBy W' (some (D + 1)) → W'.heap[D]? = some (.deferred (some [])) → Q .normal { a with defers := { target := .collected D, args := #[] } :: a.defers } W')
    (hstop : ∀ (D : Nat) (c : Code) (pre : List α) (W W' : World), w.heap.size ≤ D → Sp pre W → Ix c pre W' → W.grownBy W' (some (D + 1)) → W'.heap[D]? = some (.deferred (some [])) → c.wpIn F n P Q { a with defers := { target := .collected D, args := #[] } :: a.defers } W') :
    (Code.rangeFunc g ps assign body).wpIn F n P Q a w := by
  exact range_tells3 hro h1 hg hFg eg hseq ⟨by simpa using hrw.1, by simpa using hrw.2⟩ hps hOk I Ix
    (fun s A B k h hg hk => hI s A B (k.getD r) h (by rcases hk with rfl | ⟨q, rfl, _⟩ <;> exact hg) (by rcases hk with rfl | ⟨q, rfl, hq, _⟩ <;> simp <;> omega))
    (fun c s A B k h hg hk => hIx c s A B (k.getD r) h (by rcases hk with rfl | ⟨q, rfl, _⟩ <;> exact hg) (by rcases hk with rfl | ⟨q, rfl, hq, _⟩ <;> simp <;> omega)) h0 a₁ hassign hbody hdone hstop

end Go.Proofs.YtafcgjbafihniaaGreat

/-
  LAYER 1 (fs): A RANGE OVER A FUNCTION, THE MOST GENERAL LAW OF MINE: the iterator protects a set of blocks (Z), which it may make greater by what it lays itself; a round may turn whatever is not in it. No program is named here.
-/
namespace Go.Proofs.YtafcgjbafihniaaGreat
set_option maxRecDepth 100000
open Go.RowKit

/-- The blocks of Z lie as they were. -/
def ZK (Z : Nat → Prop) (A B : World) : Prop := A.heap.size ≤ B.heap.size ∧ ∀ k, k < A.heap.size → Z k → B.heap[k]? = A.heap[k]?
theorem ZK.refl (Z : Nat → Prop) (A : World) : ZK Z A A := ⟨Nat.le_refl _, fun _ _ _ => rfl⟩
theorem ZK.trans {Z : Nat → Prop} {A B C : World} (h : ZK Z A B) (g : ZK Z B C) : ZK Z A C := ⟨Nat.le_trans h.1 g.1, fun k h1 h2 => (g.2 k (Nat.lt_of_lt_of_le h1 h.1) h2).trans (h.2 k h1 h2)⟩
theorem ZK.less {Z Z' : Nat → Prop} {A B : World} (h : ZK Z A B) (hz : ∀ k, Z' k → Z k) : ZK Z' A B := ⟨h.1, fun k h1 h2 => h.2 k h1 (hz k h2)⟩
theorem ZK.of {Z : Nat → Prop} {A B : World} {q : Option Nat} (h : A.grownBy B q) (hq : ∀ k, q = some k → ¬ Z k) : ZK Z A B := ⟨h.size, fun k h1 h2 => h.block k h1 (fun e => hq k e.symm h2)⟩
theorem ZK.new {Z : Nat → Prop} {A B : World} {q : Option Nat} {n : Nat} (h : A.grownBy B q) (hq : ∀ k, q = some k → n ≤ k) (hz : ∀ k, Z k → k < n) : ZK Z A B := ZK.of h (fun k e hZ => by have := hq k e; have := hz k hZ; omega)

/-- A state that outlives the iterator's own steps: what it lays is protected from then on; of what lay it turns protected blocks from n0 on alone. -/
structure Tame {α : Type} (n0 : Nat) (J : (Nat → Prop) → List α → World → Prop) : Prop where
  more : ∀ Z Z' s A B, J Z s A → A.grownBy B none → (∀ k, Z k → Z' k) → (∀ k, Z' k → Z k ∨ A.heap.size ≤ k ∧ k < B.heap.size) → J Z' s B
  own : ∀ Z s A B q, J Z s A → Z q → n0 ≤ q → A.grownBy B (some q) → J Z s B

/-- What an iterator promises. -/
def TellsZ {α : Type} (F : Fence) (n : Nat) (P : Program) (g : Nat) (lb : Array Value) (encs : α → Array Value) (Ok : List α → α → World → Prop) (Z0 : Nat → Prop) (S Sp : List α → World → Prop) (w : World) : Prop :=
  ∀ (l : Nat) (J Jx : (Nat → Prop) → List α → World → Prop) (W : World) (Z : Nat → Prop), ZK Z0 w W → (∀ k, Z0 k → Z k) → (∀ k, Z k → k < W.heap.size) → (∀ k, Z0 k → k ≠ l) → l < W.heap.size → Tame W.heap.size J → Tame W.heap.size Jx →
    (∀ Z pre x W1, (∀ k, Z0 k → Z k) → (∀ k, Z k → k < W1.heap.size) → J Z pre W1 → Ok pre x W1 → YieldAt F (n - 1) P l (encs x) W1 fun e W' =>
      (e = .returned (.bool true) ∧ J Z (pre ++ [x]) W' ∧ ZK (fun k => Z k ∧ k ≠ l) W1 W') ∨ (e = .returned (.bool false) ∧ Jx Z (pre ++ [x]) W' ∧ ZK (fun k => Z k ∧ k ≠ l) W1 W')) →
    J Z [] W →
    CallsIn F n P g (#[.func (.yield l) #[] #[]] ++ lb) W fun e W' => (∃ v, e = .returned v) ∧ ∃ Z', (∀ k, Z k → Z' k) ∧ (∀ k, Z' k → k < W'.heap.size) ∧ ((∃ xs, S xs W' ∧ J Z' xs W') ∨ (∃ pre, Sp pre W' ∧ Jx Z' pre W'))

/-- How a round's body may be left. -/
def roundLeftZ {α : Type} (Z : Nat → Prop) (I : (Nat → Prop) → List α → World → Prop) (Ix : Code → (Nat → Prop) → List α → World → Prop) (xs : List α) (W : World) : Exit → Act → World → Prop
  | .normal, _, W' => ZK Z W W' ∧ I Z xs W'
  | .ret, _, W' => ZK Z W W' ∧ Ix .ret Z xs W'
  | .exit i, _, W' => ZK Z W W' ∧ Ix (.exit i) Z xs W'
  | .goto i, _, W' => ZK Z W W' ∧ Ix (.goto i) Z xs W'
  | .panic _, _, _ => False
  | .outgrown, _, _ => False

set_option maxHeartbeats 4000000 in
theorem range_tellsZ {α : Type} {F : Fence} {n : Nat} {P : Program} {g : Operand} {ps : Array Tmp} {assign body : Code} {Q : Exit → Act → World → Prop} {a : Act} {w : World}
    (hro : F.round = none) (h1 : 1 ≤ n) {gf : Nat} {lb : Array Value} (hg : a.eval g = .func (.func gf) #[] lb) (hFg : F.fn gf) (eg : ∀ args w, (callFunc gf args).run P w = .ok (.enter gf args) w)
    {encs : α → Array Value} {Ok : List α → α → World → Prop} {Z0 : Nat → Prop} {S Sp : List α → World → Prop}
    (hseq : TellsZ F (n - 1) P gf lb encs Ok Z0 S Sp w) (hz0 : ∀ k, Z0 k → k < w.heap.size) (hps : ∀ x, (encs x).size = ps.size)
    (hOk : ∀ pre x A B k o, Ok pre x A → A.grownBy B (some k) → A.heap[k]? = some o → o.isCells = false → Ok pre x B)
    (I : (Nat → Prop) → List α → World → Prop) (Ix : Code → (Nat → Prop) → List α → World → Prop) (hn : ∀ Z s A, I Z s A → w.heap.size ≤ A.heap.size)
    (hI : Tame w.heap.size I) (hIx : ∀ c, Tame w.heap.size (Ix c))
    (h0 : I Z0 [] w) (Ax : α → Act → World → Prop)
    (hOk0 : ∀ pre x A B, Ok pre x A → A.grownBy B none → Ok pre x B)
    (hAx : ∀ x a' A B k o, Ax x a' A → A.grownBy B (some k) → A.heap[k]? = some o → o.isCells = false → Ax x a' B)
    (hassign : ∀ (l : Nat) (x : α) (W : World) (K : Act → World → Prop), (∀ a' W', W.grownBy W' none → Ax x a' W' → K a' W') →
      assign.wpIn (F.inRound l) (n - 1 - 1) P (Exit.then K (fun _ _ _ => False)) { tmps := (ps.zip (encs x)).foldl (fun t (p, v) => t.setIfInBounds p v) a.tmps, defers := [] } W)
    (hbody : ∀ (l : Nat) (Z : Nat → Prop) (pre : List α) (x : α) (a' : Act) (W : World), (∀ k, Z0 k → Z k) → (∀ k, Z k → k < W.heap.size) → I Z pre W → Ok pre x W → Ax x a' W → w.heap.size ≤ W.heap.size → body.wpIn (F.inRound l) (n - 1 - 1) P (roundLeftZ Z I Ix (pre ++ [x]) W) a' W)
    (hdone : ∀ (D : Nat) (Z : Nat → Prop) (xs : List α) (W W' : World), w.heap.size ≤ D → Z D → (∀ k, Z0 k → Z k) → (∀ k, Z k → k < W'.heap.size) → S xs W → I Z xs W' → W.grownBy W' (some (D + 1)) → W'.heap[D]? = some (.deferred (some [])) → Q .normal { a with defers := { target := .collected D, args := #[] } :: a.defers } W')
    (hstop : ∀ (D : Nat) (c : Code) (Z : Nat → Prop) (pre : List α) (W W' : World), w.heap.size ≤ D → Z D → (∀ k, Z0 k → Z k) → (∀ k, Z k → k < W'.heap.size) → Sp pre W → Ix c Z pre W' → W.grownBy W' (some (D + 1)) → W'.heap[D]? = some (.deferred (some [])) → c.wpIn F n P Q { a with defers := { target := .collected D, args := #[] } :: a.defers } W') :
    (Code.rangeFunc g ps assign body).wpIn F n P Q a w := by
  refine wpIn_rangeFunc fun fn hfn => ?_
  rw [hro]
  -- the loop's record, in each of its states
  let rec' : LoopState → Option Code → Loop := fun st pe => { state := st, pending := pe, fn, tmps := a.tmps, params := ps, assign, body, defers := w.heap.size }
  obtain ⟨R, hR⟩ : ∃ R, R = rec' := ⟨_, rfl⟩
  obtain ⟨D, hD⟩ : ∃ D, D = w.heap.size := ⟨_, rfl⟩
  obtain ⟨U, hU⟩ : ∃ U, U = (w.alloc (.deferred (some []))).alloc (.loop (R .ready none)) := ⟨_, rfl⟩
  have gV : w.grownBy U none := by rw [hU]; exact (World.grownBy_alloc w _ none).trans (World.grownBy_alloc _ _ none)
  have lV : U.heap[D + 1]? = some (.loop (R .ready none)) := by
    rw [hU, hD]
    have := World.alloc_heap_new (w.alloc (.deferred (some []))) (.loop (R .ready none))
    rwa [World.size_alloc] at this
  have dV : U.heap[D]? = some (.deferred (some [])) := by
    rw [hU, hD]
    exact ((World.grownBy_alloc (w.alloc (.deferred (some []))) (.loop (R .ready none)) none).block w.heap.size (by simp) (by simp)).trans (World.alloc_heap_new w _)
  have hUs : U.heap.size = D + 2 := by rw [hU, hD]; simp
  obtain ⟨Zi, hZi⟩ : ∃ Zi : Nat → Prop, Zi = fun k => Z0 k ∨ k = D ∨ k = D + 1 := ⟨_, rfl⟩
  have hZ0i : ∀ k, Z0 k → Zi k := fun k h => by rw [hZi]; exact .inl h
  have hZD : Zi D := by rw [hZi]; exact .inr (.inl rfl)
  have hZL : Zi (D + 1) := by rw [hZi]; exact .inr (.inr rfl)
  have hZlt : ∀ k, Zi k → k < U.heap.size := fun k h => by
    rw [hZi] at h
    rcases h with h | rfl | rfl
    · have := hz0 k h; omega
    · omega
    · omega
  have iV : I Zi [] U := hI.more _ _ _ _ _ h0 gV hZ0i (fun k h => by
    rw [hZi] at h
    rcases h with h | rfl | rfl
    · exact .inl h
    · right; omega
    · right; omega)
  refine ⟨D + 1, [{ target := .collected D, args := #[] }], U, { target := .fn (.func gf) lb, args := #[.func (.yield (D + 1)) #[] #[]] }, U, gf, #[.func (.yield (D + 1)) #[] #[]] ++ lb, U, ?_, ?_, ?_, ?_, fun _ => h1, ?_⟩
  · rw [hU, hR, hD]; exact run_enterLoop_outer _ _ _ _ _
  · simp only [resolve, hg]
    simp [go_sem]
  · intro f' hf'; simp [Target.leads] at hf'; subst hf'; exact hFg
  · simp [invoke, go_sem, eg]
  · have keepD : ∀ {A B : World} {q : Option Nat} {o : Obj}, A.grownBy B q → q ≠ some D → A.heap[D]? = some o → B.heap[D]? = some o := fun h hq ho => (h.block D (Array.getElem?_eq_some_iff.1 ho).1 (fun e => hq e.symm)).trans ho
    have keepL : ∀ {A B : World} {q : Option Nat} {o : Obj}, A.grownBy B q → q ≠ some (D + 1) → A.heap[D + 1]? = some o → B.heap[D + 1]? = some o := fun h hq ho => (h.block (D + 1) (Array.getElem?_eq_some_iff.1 ho).1 (fun e => hq e.symm)).trans ho
    refine (hseq (D + 1) (fun Z pre W => I Z pre W ∧ Z D ∧ Z (D + 1) ∧ W.heap[D + 1]? = some (.loop (R .ready none)) ∧ W.heap[D]? = some (.deferred (some [])))
      (fun Z pre W => ∃ c, Ix c Z pre W ∧ Z D ∧ Z (D + 1) ∧ W.heap[D + 1]? = some (.loop (R .done (some c))) ∧ W.heap[D]? = some (.deferred (some []))) U Zi (ZK.of gV (by simp)) hZ0i hZlt (fun k h => by have := hz0 k h; omega) (by omega) ?_ ?_ ?_ ⟨iV, hZD, hZL, lV, dV⟩).mono ?_
    · constructor
      · rintro Z Z' s A B ⟨h2, z1, z2, h3, h4⟩ hAB hz hz'
        exact ⟨hI.more _ _ _ _ _ h2 hAB hz hz', hz _ z1, hz _ z2, keepL hAB (by simp) h3, keepD hAB (by simp) h4⟩
      · rintro Z s A B q ⟨h2, z1, z2, h3, h4⟩ hq hnq hAB
        exact ⟨hI.own _ _ _ _ _ h2 hq (by omega) hAB, z1, z2, keepL hAB (by simp; omega) h3, keepD hAB (by simp; omega) h4⟩
    · constructor
      · rintro Z Z' s A B ⟨c, h2, z1, z2, h3, h4⟩ hAB hz hz'
        exact ⟨c, (hIx c).more _ _ _ _ _ h2 hAB hz hz', hz _ z1, hz _ z2, keepL hAB (by simp) h3, keepD hAB (by simp) h4⟩
      · rintro Z s A B q ⟨c, h2, z1, z2, h3, h4⟩ hq hnq hAB
        exact ⟨c, (hIx c).own _ _ _ _ _ h2 hq (by omega) hAB, z1, z2, keepL hAB (by simp; omega) h3, keepD hAB (by simp; omega) h4⟩
    · -- one round
      rintro Z pre x W hz0Z hZl ⟨h2, z1, z2, h3, h4⟩ hok
      have hsz := hn _ _ _ h2
      have hlt : D + 1 < W.heap.size := (Array.getElem?_eq_some_iff.1 h3).1
      have hy := run_yield (P := P) (args := encs x) h3 (by rw [hR]; exact hps x)
      rw [hR] at hy
      refine ⟨fn, _, assign, body, hy, roundIn_of_wpIn hfn (hassign _ x W _ fun a' Wa gA hax => ?_)⟩
      have h2a : I Z pre Wa := hI.more _ _ _ _ _ h2 gA (fun _ h => h) (fun _ h => .inl h)
      have h3a := keepL gA (by simp) h3
      have h4a := keepD gA (by simp) h4
      have hsza := Nat.le_trans hsz gA.size
      have hoka := hOk0 _ _ _ _ hok gA
      have hlta : D + 1 < Wa.heap.size := (Array.getElem?_eq_some_iff.1 h3a).1
      refine ⟨_, run_beginRound h3a (by rw [hR]), ?_⟩
      obtain ⟨o2, ho2⟩ : ∃ o2 : Loop, o2 = { R .ready none with state := .busy } := ⟨_, rfl⟩
      rw [← ho2]
      have gU := putObj_grown Wa (D + 1) (.loop o2)
      have lU : (Wa.putObj (D + 1) (.loop o2)).heap[D + 1]? = some (.loop o2) := World.putObj_heap_same hlta
      have dU := keepD gU (by simp) h4a
      have sU : (Wa.putObj (D + 1) (.loop o2)).heap.size = Wa.heap.size := World.putObj_size
      refine wpIn_mono (hbody _ Z pre x a' _ hz0Z (fun k hk => by have := hZl k hk; have := gA.size; omega) (hI.own _ _ _ _ _ h2a z2 (by omega) gU) (hOk _ _ _ _ _ _ hoka gU h3a rfl) (hAx _ _ _ _ _ _ hax gU h3a rfl) (Nat.le_trans hsza gU.size)) ?_
      have fin : ∀ (jump : Option Code) (W3 : World), ZK Z (Wa.putObj (D + 1) (.loop o2)) W3 → ∃ W4, (Instr.endRound (D + 1) jump).run P W3 = .ok (.bool jump.isNone) W4 ∧ W3.grownBy W4 (some (D + 1)) ∧
          W4.heap[D + 1]? = some (.loop (R (if jump.isNone then .ready else .done) jump)) ∧ W4.heap[D]? = some (.deferred (some [])) ∧ ZK (fun k => Z k ∧ k ≠ D + 1) W W4 := by
        intro jump W3 hk
        have l3 := (hk.2 (D + 1) (by omega) z2).trans lU
        have d3 := (hk.2 D (by omega) z1).trans dU
        have hrun := run_endRound (P := P) jump l3
        have g4 := putObj_grown W3 (D + 1) (.loop (R (if jump.isNone then .ready else .done) jump))
        refine ⟨_, ?_, g4, World.putObj_heap_same (Array.getElem?_eq_some_iff.1 l3).1, keepD g4 (by simp) d3,
          (((ZK.of gA (by simp)).trans (ZK.of gU (fun k e hz => by cases e; exact hz.2 rfl))).trans (hk.less (fun k h => h.1))).trans (ZK.of g4 (fun k e hz => by cases e; exact hz.2 rfl))⟩
        rw [hrun, ho2, hR]
      rintro e a3 W3 hp
      cases e with
      | normal =>
        obtain ⟨p1, p3⟩ := hp
        obtain ⟨W4, q1, q2, q3, q4, q5⟩ := fin none W3 p1
        exact ⟨_, _, q1, .inl ⟨rfl, ⟨hI.own _ _ _ _ _ p3 z2 (by omega) q2, z1, z2, q3, q4⟩, q5⟩⟩
      | ret =>
        obtain ⟨p1, p3⟩ := hp
        obtain ⟨W4, q1, q2, q3, q4, q5⟩ := fin (some .ret) W3 p1
        exact ⟨_, _, q1, .inr ⟨rfl, ⟨.ret, (hIx _).own _ _ _ _ _ p3 z2 (by omega) q2, z1, z2, q3, q4⟩, q5⟩⟩
      | exit i =>
        obtain ⟨p1, p3⟩ := hp
        obtain ⟨W4, q1, q2, q3, q4, q5⟩ := fin (some (.exit i)) W3 p1
        exact ⟨_, _, q1, .inr ⟨rfl, ⟨.exit i, (hIx _).own _ _ _ _ _ p3 z2 (by omega) q2, z1, z2, q3, q4⟩, q5⟩⟩
      | goto i =>
        obtain ⟨p1, p3⟩ := hp
        obtain ⟨W4, q1, q2, q3, q4, q5⟩ := fin (some (.goto i)) W3 p1
        exact ⟨_, _, q1, .inr ⟨rfl, ⟨.goto i, (hIx _).own _ _ _ _ _ p3 z2 (by omega) q2, z1, z2, q3, q4⟩, q5⟩⟩
      | panic ch => exact hp.elim
      | outgrown => exact hp.elim
    · -- behind the iterator
      rintro e W2 ⟨⟨v, rfl⟩, Z', hzz, hzl, (⟨xs, hS, h2, z1, z2, h3, h4⟩ | ⟨pre, hS, c, h2, z1, z2, h3, h4⟩)⟩
      · have hrun := run_endLoop (P := P) h3 (by rw [hR]; simp [rec'])
        have g4 := putObj_grown W2 (D + 1) (.loop { R .ready none with state := .exhausted })
        refine ⟨none, _, by rw [hrun, hR], ?_⟩
        rw [← hR]
        exact hdone D Z' xs W2 _ (by omega) z1 (fun k h => hzz k (hZ0i k h)) (fun k h => Nat.lt_of_lt_of_le (hzl k h) g4.size) hS (hI.own _ _ _ _ _ h2 z2 (by omega) g4) g4 (keepD g4 (by simp) h4)
      · have hrun := run_endLoop (P := P) h3 (by rw [hR]; simp [rec'])
        have g4 := putObj_grown W2 (D + 1) (.loop { R .done (some c) with state := .exhausted })
        refine ⟨some c, _, by rw [hrun, hR], ?_⟩
        rw [← hR]
        exact hstop D c Z' pre W2 _ (by omega) z1 (fun k h => hzz k (hZ0i k h)) (fun k h => Nat.lt_of_lt_of_le (hzl k h) g4.size) hS ((hIx c).own _ _ _ _ _ h2 z2 (by omega) g4) g4 (keepD g4 (by simp) h4)
/-- The same where the loop's variables lie in no memory. -/
theorem range_tellsZ1 {α : Type} {F : Fence} {n : Nat} {P : Program} {g : Operand} {ps : Array Tmp} {assign body : Code} {Q : Exit → Act → World → Prop} {a : Act} {w : World}
    (hro : F.round = none) (h1 : 1 ≤ n) {gf : Nat} {lb : Array Value} (hg : a.eval g = .func (.func gf) #[] lb) (hFg : F.fn gf) (eg : ∀ args w, (callFunc gf args).run P w = .ok (.enter gf args) w)
    {encs : α → Array Value} {Ok : List α → α → World → Prop} {Z0 : Nat → Prop} {S Sp : List α → World → Prop}
    (hseq : TellsZ F (n - 1) P gf lb encs Ok Z0 S Sp w) (hz0 : ∀ k, Z0 k → k < w.heap.size) (hps : ∀ x, (encs x).size = ps.size)
    (hOk : ∀ pre x A B k o, Ok pre x A → A.grownBy B (some k) → A.heap[k]? = some o → o.isCells = false → Ok pre x B)
    (I : (Nat → Prop) → List α → World → Prop) (Ix : Code → (Nat → Prop) → List α → World → Prop) (hn : ∀ Z s A, I Z s A → w.heap.size ≤ A.heap.size)
    (hI : Tame w.heap.size I) (hIx : ∀ c, Tame w.heap.size (Ix c))
    (h0 : I Z0 [] w) (a₁ : α → Act) (hOk0 : ∀ pre x A B, Ok pre x A → A.grownBy B none → Ok pre x B)
    (hassign : ∀ (l : Nat) (x : α) (W : World) (K : Act → World → Prop), K (a₁ x) W →
      assign.wpIn (F.inRound l) (n - 1 - 1) P (Exit.then K (fun _ _ _ => False)) { tmps := (ps.zip (encs x)).foldl (fun t (p, v) => t.setIfInBounds p v) a.tmps, defers := [] } W)
    (hbody : ∀ (l : Nat) (Z : Nat → Prop) (pre : List α) (x : α) (W : World), (∀ k, Z0 k → Z k) → (∀ k, Z k → k < W.heap.size) → I Z pre W → Ok pre x W → w.heap.size ≤ W.heap.size → body.wpIn (F.inRound l) (n - 1 - 1) P (roundLeftZ Z I Ix (pre ++ [x]) W) (a₁ x) W)
    (hdone : ∀ (D : Nat) (Z : Nat → Prop) (xs : List α) (W W' : World), w.heap.size ≤ D → Z D → (∀ k, Z0 k → Z k) → (∀ k, Z k → k < W'.heap.size) → S xs W → I Z xs W' → W.grownBy W' (some (D + 1)) → W'.heap[D]? = some (.deferred (some [])) → Q .normal { a with defers := { target := .collected D, args := #[] } :: a.defers } W')
    (hstop : ∀ (D : Nat) (c : Code) (Z : Nat → Prop) (pre : List α) (W W' : World), w.heap.size ≤ D → Z D → (∀ k, Z0 k → Z k) → (∀ k, Z k → k < W'.heap.size) → Sp pre W → Ix c Z pre W' → W.grownBy W' (some (D + 1)) → W'.heap[D]? = some (.deferred (some [])) → c.wpIn F n P Q { a with defers := { target := .collected D, args := #[] } :: a.defers } W') :
    (Code.rangeFunc g ps assign body).wpIn F n P Q a w :=
  range_tellsZ hro h1 hg hFg eg hseq hz0 hps hOk I Ix hn hI hIx h0 (fun x a' _ => a' = a₁ x) hOk0 (fun _ _ _ _ _ _ h _ _ _ => h)
    (fun l x W K hK => hassign l x W K (hK _ _ (World.grownBy.refl _ _) rfl)) (fun l Z pre x a' W q1 q2 q3 q4 q5 q6 => by subst q5; exact hbody l Z pre x W q1 q2 q3 q4 q6) hdone hstop

end Go.Proofs.YtafcgjbafihniaaGreat

/-
  A QUIET REGION INSIDE A ROUND OF A RANGE OVER A FUNCTION: a region that draws its order and only reads is walked once, in the text's order, in any fence (with a round, too), if it defers nothing. No program is named here.
-/
namespace Go.Proofs.YtafcgjbafihniaaGreat
set_option maxRecDepth 100000
open Go.RowKit

section
variable {F : Fence} {n : Nat} {P : Program} {ops : Array Oper} {md : Region.Mode} {C : World → Prop}

/-- No operation defers. -/
def noDefer (l : List Oper) : Bool := l.all fun o => match o.op with | .defer _ => false | _ => true

theorem noDefer_at {o : Oper} (h : noDefer ops.toList = true) {i : Nat} (hi : ops[i]? = some o) : ∀ c, o.op ≠ .defer c := by
  intro c hc
  have hm : o ∈ ops.toList := by
    rw [Array.mem_toList_iff]
    exact Array.mem_of_getElem? hi
  have := List.all_eq_true.1 h o hm
  rw [hc] at this
  cases this

theorem wpIn_of_quiet_r {o : Oper} {a : Act} {K : Act → Prop} {K' : Act → World → Prop} {Q' : Exit → Act → World → Prop} {w : World} (hnd : ∀ c, o.op ≠ .defer c) (hw : C w) (h : ∀ a w', C w' → K a → K' a w')
    (ha : o.askedIn F P a C) (hh : o.quietIn F n P a C K) : o.wpIn F n P a w K' Q' := by
  obtain ⟨v, h1, h2⟩ := hh
  have h3 := h1 w hw
  unfold Oper.quietAtIn at h3
  unfold Oper.wpIn
  refine ⟨ha w hw, ?_⟩
  rw [Oper.semAt_plain F _ _ hnd]
  generalize (execOp a.eval o).run P w = r at *
  cases r with
  | ok x w' =>
    cases x <;> simp only [Oper.quietUponIn] at h3 <;> simp only [Oper.uponIn]
    case value u =>
      obtain ⟨e1, e2⟩ := h3
      rw [e1, e2]
      exact h _ _ hw h2
    case skip =>
      obtain ⟨e1, e2⟩ := h3
      rw [e1, ← e2]
      exact h _ _ hw h2
    case enter f args =>
      obtain ⟨e1, hd, hc⟩ := h3
      rw [e1]
      exact ⟨hd, hc.mono fun e w'' ⟨he, hw''⟩ => by subst he; exact h _ _ hw'' h2⟩
  | halt x w' => simp only [Oper.quietUponIn] at h3

theorem wpOpIn_of_qOpIn_r {i : Nat} {a : Act} {K : Act → Prop} {K' : Act → World → Prop} {Q' : Exit → Act → World → Prop} {w : World} (hnd : noDefer ops.toList = true) (hC : C w) (h : ∀ a w', C w' → K a → K' a w')
    (hh : qOpIn F n P ops C i K a) : wpOpIn F n P ops Q' i K' a w := by
  unfold qOpIn at hh
  unfold wpOpIn
  split
  · rename_i ho; simp only [ho] at hh; exact h _ _ hC hh
  · rename_i o ho
    simp only [ho] at hh
    obtain ⟨ha, hh⟩ := hh
    split
    · rename_i hw; simp only [hw, if_true] at hh; exact wpIn_of_quiet_r (noDefer_at hnd ho) hC h ha hh
    · rename_i hw; simp only [hw] at hh; exact ⟨ha w hC, h _ _ hC hh⟩

theorem wpAnyIn_of_quiet_r {Q : Act → Prop} {Q' : Exit → Act → World → Prop} (hnd : noDefer ops.toList = true) (hQ : ∀ a w, C w → Q a → Q' .normal a w) : ∀ (fuel : Nat) (listed : Array Bool) (a : Act) (w : World), C w →
    wpAnyQIn F n P md ops C Q fuel listed a → wpAnyIn F n P md ops Q' fuel listed a w
  | 0, _, _, _, hw, h => ⟨h.1, hQ _ _ hw h.2⟩
  | fuel + 1, _, _, _, hw, h => ⟨fun h0 => hQ _ _ hw (h.1 h0), fun i hi => wpOpIn_of_qOpIn_r hnd hw (fun a' w' hw' => wpAnyIn_of_quiet_r hnd hQ fuel _ a' w' hw') (h.2 i hi)⟩

theorem wpIn_region_quiet_r {id : Nat} {Q : Exit → Act → World → Prop} {a : Act} {w : World} {l : List Oper} (hnd : noDefer l = true) (hm : P.follows .mixedOrders = true) (hB : Region.lexB .any l.toArray = true)
    (h : wpQuietIn F n P l.toArray (fun w' => ∃ n, w' = w.drewN n) (fun a' => ∀ w', (∃ n, w' = w.drewN n) → Q .normal a' w') l a) : (Code.region id l.toArray true).wpIn F n P Q a w := by
  simp only [Region.lexB, Bool.and_eq_true] at hB
  refine wpIn_region_any hm (wpAnyIn_of_quiet_r (C := fun w' => ∃ n, w' = w.drewN n) (Q := fun a' => ∀ w', (∃ n, w' = w.drewN n) → Q .normal a' w') (by simpa using hnd) (fun _ w' hw' h => h w' hw') _ _ _ _ ⟨1, rfl⟩ ?_)
  have := wpAnyQIn_lex (F := F) (n := n) (C := fun w' => ∃ n, w' = w.drewN n) (md := .any) hB.1 l 0 (Array.replicate l.length false) a (by simp) (by simpa using hB.2) h
  simpa using this
end
end Go.Proofs.YtafcgjbafihniaaGreat

/-
  A REGION THAT DRAWS ITS ORDER, INSIDE A FENCE AND INSIDE A ROUND OF A RANGE OVER A FUNCTION, WHOSE READS ARE TAKEN FIRST: as 'wpAnyH' (the library's law for the walk without a fence), for 'wpIn', of operations that defer nothing. No program is named here.
-/
namespace Go.Proofs.YtafcgjbafihniaaGreat
set_option maxRecDepth 100000
open Go.RowKit

section
variable {F : Fence} {n : Nat} {P : Program} {ops : Array Oper} {Q : Exit → Act → World → Prop} {md : Region.Mode} {S : World → Prop}

/-- In every world that meets S the operation leaves v in its slot and turns nothing; it is about to call nothing. -/
def HeldAt (P : Program) (ops : Array Oper) (S : World → Prop) (o : Oper) (v : Value) (a : Act) : Prop := YieldsIf P ops S o v a ∧ ∀ w, o.about P w a.eval = none

theorem HeldAt.step {i : Nat} {o : Oper} {v : Value} {a : Act} (hi : ops[i]? = some o) (hnd : ∀ c, o.op ≠ .defer c) (hy : HeldAt P ops S o v a)
    {K : Act → World → Prop} {w : World} (hS : S w) (h : K (a.put o.dst v) w) : wpOpIn F n P ops Q i K a w := by
  have hab : ∀ f, o.about P w a.eval = some f → F.fn f := fun f hf => by rw [hy.2 w] at hf; cases hf
  unfold wpOpIn
  simp only [hi]
  rcases hy.1 with ⟨h1, h2⟩ | ⟨h1, rfl⟩
  · rw [if_pos h1]
    refine ⟨hab, ?_⟩
    rw [Oper.semAt_plain F _ _ hnd, h2 w hS]
    exact h
  · rw [if_neg (by simp [h1])]
    exact ⟨hab, h⟩

theorem HeldAt.other {o : Oper} {v : Value} {a a' : Act} (hy : HeldAt P ops S o v a) (he : execOp a'.eval o = execOp a.eval o)
    (hw : Region.wanted o (yielded ops a'.tmps) = Region.wanted o (yielded ops a.tmps)) (hb : ∀ w, o.about P w a'.eval = o.about P w a.eval) : HeldAt P ops S o v a' :=
  ⟨hy.1.of_same he hw, fun w => (hb w).trans (hy.2 w)⟩

/-- An operation apart from one that is held: it may come up first. -/
theorem wpOpIn_ahead {j : Nat} {oi oj : Oper} {v : Value} (hj : ops[j]? = some oj) (hnd : ∀ c, oj.op ≠ .defer c) (hap : oi.apart ops oj = true) (hsi : ∀ cs b, oi.op ≠ .select cs b) (hsj : ∀ cs b, oj.op ≠ .select cs b)
    (hQ : ∀ c a w, Q (.panic c) (a.put oi.dst v) w → Q (.panic c) a w) {K : Act → World → Prop} {a : Act} {w : World} (hy : HeldAt P ops S oi v a)
    (h : wpOpIn F n P ops Q j K (a.put oi.dst v) w) : wpOpIn F n P ops Q j (fun a' w' => HeldAt P ops S oi v a' ∧ K (a'.put oi.dst v) w') a w := by
  obtain ⟨k1, k2, k3⟩ := Oper.apart_spec hap
  have stays : ∀ (a : Act), HeldAt P ops S oi v a → ∀ u, HeldAt P ops S oi v (a.put oj.dst u) := fun a hy u => hy.other (execOp_put oi hsi a oj.dst u k3) (wanted_put oi a oj.dst u k3) (fun w => about_put oi w a oj.dst u k3)
  have turn : ∀ (a : Act) u, (a.put oj.dst u).put oi.dst v = (a.put oi.dst v).put oj.dst u := fun a u => (Act.put_comm a v u k2).symm
  have staysD : ∀ d, HeldAt P ops S oi v { a with defers := d :: a.defers } := fun d => hy.other rfl rfl (fun _ => rfl)
  unfold wpOpIn at h ⊢
  simp only [hj] at h ⊢
  rw [wanted_put oj a oi.dst v k1, about_put oj w a oi.dst v k1] at h
  by_cases hw : Region.wanted oj (yielded ops a.tmps) = true
  · rw [if_pos hw] at h ⊢
    obtain ⟨h0, h⟩ := h
    rw [about_put oj w a oi.dst v k1] at h0
    refine ⟨h0, ?_⟩
    rw [Oper.semAt_plain F _ _ hnd, execOp_put oj hsj a oi.dst v k1] at h
    rw [Oper.semAt_plain F _ _ hnd]
    cases hr : (execOp a.eval oj).run P w with
    | ok x w' =>
      rw [hr] at h
      cases x <;> simp only [Oper.uponIn] at h ⊢
      case value u => exact ⟨stays a hy u, by rw [turn]; exact h⟩
      case skip => exact ⟨stays a hy _, by rw [turn]; exact h⟩
      case defer d => exact ⟨(staysD d).other (execOp_put oi hsi _ oj.dst _ k3) (wanted_put oi _ oj.dst _ k3) (fun w => about_put oi w _ oj.dst _ k3), by rw [turn, ← Act.put_defers]; exact h⟩
      case enter f args =>
        refine ⟨h.1, h.2.mono fun e w'' he => ?_⟩
        cases e with
        | returned u => exact ⟨stays a hy u, by rw [turn]; exact he⟩
        | panicked c => exact hQ _ _ _ he
        | outgrown => exact he
      case row row args => exact ⟨h.1, h.2.mono fun u w'' he => ⟨stays a hy u, by rw [turn]; exact he⟩⟩
      case round l f tmps assign body =>
        refine ⟨h.1, h.2.mono fun e w'' he => ?_⟩
        cases e with
        | returned u => exact ⟨stays a hy u, by rw [turn]; exact he⟩
        | panicked c => exact hQ _ _ _ he
        | outgrown => exact he
    | halt x w' =>
      rw [hr] at h
      cases x <;> simp only [Oper.uponIn] at h ⊢
      case panic u => exact hQ _ _ _ h
  · rw [if_neg hw] at h ⊢
    exact ⟨h.1, stays a hy _, by rw [turn]; exact h.2⟩

/-- Whatever order is picked from here on; S is shown behind each operation that is carried out. -/
def wpAnyHIn (F : Fence) (n : Nat) (P : Program) (md : Region.Mode) (ops : Array Oper) (Q : Exit → Act → World → Prop) (S : World → Prop) : Nat → Array Bool → Act → World → Prop
  | 0, listed, a, w => Region.ready md ops listed = [] ∧ Q .normal a w
  | k + 1, listed, a, w => (Region.ready md ops listed = [] → Q .normal a w) ∧
    ∀ i ∈ Region.ready md ops listed, wpOpIn F n P ops Q i (fun a' w' => S w' ∧ wpAnyHIn F n P md ops Q S k (listed.setIfInBounds i true) a' w') a w

theorem wpAnyIn_of_held : ∀ (k : Nat) (listed : Array Bool) (a : Act) (w : World), wpAnyHIn F n P md ops Q S k listed a w → wpAnyIn F n P md ops Q k listed a w
  | 0, _, _, _, h => h
  | k + 1, _, _, _, h => ⟨h.1, fun i hi => wpOpIn_mono (fun a' w' h' => wpAnyIn_of_held k _ a' w' h'.2) (h.2 i hi)⟩

theorem wpAnyHIn_first {i : Nat} {oi : Oper} {v : Value} (hi : ops[i]? = some oi) (hnd : noDefer ops.toList = true) (hsel : ∀ (j : Nat) (o : Oper) cs b, ops[j]? = some o → o.op ≠ .select cs b)
    (hQ : ∀ c a w, Q (.panic c) (a.put oi.dst v) w → Q (.panic c) a w) :
    ∀ (k : Nat) (listed : Array Bool) (a : Act) (w : World),
      (∀ j oj, ops[j]? = some oj → j ≠ i → listed.getD j true = false → (∀ e ∈ oj.after, Region.binds md e = true → e.on ≠ i) → oi.apart ops oj = true) →
      i ∈ Region.ready md ops listed → HeldAt P ops S oi v a → S w →
      wpAnyHIn F n P md ops Q S k (listed.setIfInBounds i true) (a.put oi.dst v) w → wpAnyHIn F n P md ops Q S (k + 1) listed a w
  | k, listed, a, w, hfree, hr, hy, hS, H => by
    refine ⟨fun h => (by rw [h] at hr; cases hr), fun j hj => ?_⟩
    by_cases hji : j = i
    · subst hji
      exact hy.step hi (noDefer_at hnd hi) hS ⟨hS, H⟩
    · have hj2 := ready_mono hj hji
      cases k with
      | zero => rw [H.1] at hj2; cases hj2
      | succ k =>
        obtain ⟨hjun, oj, hoj, hall⟩ := mem_ready.1 hj
        have hnot : ∀ e ∈ oj.after, Region.binds md e = true → e.on ≠ i := fun e he hb heq => by
          have h1 := hall e he hb
          have h0 := (mem_ready.1 hr).1
          rw [heq] at h1
          rw [Array.getD_eq_getD_getElem?] at h0 h1
          cases hl : listed[i]? with
          | none => rw [hl] at h1; cases h1
          | some b => rw [hl] at h0 h1; simp at h0 h1; rw [h0] at h1; cases h1
        refine wpOpIn_mono (fun a' w' h3 => ⟨h3.2.1, ?_⟩) (wpOpIn_ahead hoj (noDefer_at hnd hoj) (hfree j oj hoj hji hjun hnot) (fun cs b => hsel i oi cs b hi) (fun cs b => hsel j oj cs b hoj) hQ hy (H.2 j hj2))
        refine wpAnyHIn_first hi hnd hsel hQ k (listed.setIfInBounds j true) a' w' (fun q oq hq hqi hun hno => hfree q oq hq hqi ?_ hno) (ready_mono hr (Ne.symm hji)) h3.1 h3.2.1 ?_
        · by_cases hjq : j = q
          · subst hjq; exact hjun
          · rwa [getD_set_ne true hjq] at hun
        · rw [Array.setIfInBounds_comm _ _ hji]
          exact h3.2.2

/-- Number i is taken first. -/
theorem wpAnyHIn_take {i : Nat} {oi : Oper} {v : Value} {k : Nat} {listed : Array Bool} {a : Act} {w : World} (hi : ops[i]? = some oi) (hnd : noDefer ops.toList = true) (hs : Region.noSelect ops = true) (hf : Region.free md ops listed i = true)
    (hr : (Region.ready md ops listed).contains i = true) (hQ : ∀ c a w, Q (.panic c) (a.put oi.dst v) w → Q (.panic c) a w) (hb : ∀ w, oi.about P w a.eval = none) (hy : YieldsIf P ops S oi v a) (hS : S w)
    (h : wpAnyHIn F n P md ops Q S k (listed.setIfInBounds i true) (a.put oi.dst v) w) : wpAnyHIn F n P md ops Q S (k + 1) listed a w :=
  wpAnyHIn_first hi hnd (Region.noSelect_spec hs) hQ k listed a w (Region.free_spec hi hf) (by simpa using hr) ⟨hy, hb⟩ hS h

/-- Number i alone may come up. -/
theorem wpAnyHIn_next {i : Nat} {o : Oper} {k : Nat} {listed : Array Bool} {a : Act} {w : World} (hr : Region.ready md ops listed = [i]) (ho : ops[i]? = some o) (hw : Region.wanted o (yielded ops a.tmps) = true)
    (h : ∀ K' : Act → World → Prop, Shut (∀ a w, S w → (S w → wpAnyHIn F n P md ops Q S k (listed.setIfInBounds i true) a w) → K' a w) → Oper.wpIn F n P o a w K' Q) : wpAnyHIn F n P md ops Q S (k + 1) listed a w := by
  refine ⟨fun h0 => (by rw [hr] at h0; cases h0), fun j hj => ?_⟩
  rw [hr] at hj
  obtain rfl : j = i := by simpa using hj
  unfold wpOpIn
  simp only [ho]
  rw [if_pos hw]
  exact h _ (fun a w hS hW => ⟨hS, hW hS⟩)
theorem wpAnyHIn_done {listed : Array Bool} {a : Act} {w : World} (hr : Region.ready md ops listed = []) (h : Q .normal a w) : ∀ k, wpAnyHIn F n P md ops Q S k listed a w
  | 0 => ⟨hr, h⟩
  | _ + 1 => ⟨fun _ => h, by rw [hr]; simp⟩
theorem wpIn_region_held {id : Nat} {a : Act} {w : World} (hm : P.follows .mixedOrders = true) (hS : S w.drew) (h : S w.drew → wpAnyHIn F n P .any ops Q S ops.size (Array.replicate ops.size false) a w.drew) : (Code.region id ops true).wpIn F n P Q a w :=
  wpIn_region_any hm (wpAnyIn_of_held _ _ _ _ (h hS))
end
end Go.Proofs.YtafcgjbafihniaaGreat
