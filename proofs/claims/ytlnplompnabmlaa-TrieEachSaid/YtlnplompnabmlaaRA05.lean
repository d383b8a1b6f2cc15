/-
  LAYER 9 (trie): slices in memory whose elements take k cells each; what keeps them; entries.
-/
import Derived.Test.YtlnplompnabmlaaRA01
import Derived.Test.YtlnplompnabmlaaRows
import Derived.MapKept
import Derived.WalkKit
import Derived.WalkLawsBesides
import Derived.WalkSpells
import Derived.BigQuiet
import Derived.Laws.Pointers
import Derived.Laws.LoneSync
import Derived.Deep.RegionWith
import Derived.ArgAppend
namespace Go.Proofs.Ytlnplompnabmlaa
set_option maxRecDepth 100000
open Go.RowKit Go.Lib

/-- Only blocks in P may have been turned (what is new lies behind). -/
def GP (P : Nat → Prop) (w w' : World) : Prop := w'.os = w.os ∧ w'.tape = w.tape ∧ w'.output = w.output ∧ w.heap.size ≤ w'.heap.size ∧ ∀ k, k < w.heap.size → ¬ P k → w'.heap[k]? = w.heap[k]?
theorem GP.refl (P : Nat → Prop) (w : World) : GP P w w := ⟨rfl, rfl, rfl, Nat.le_refl _, fun _ _ _ => rfl⟩
theorem GP.trans {P : Nat → Prop} {a b c : World} (h : GP P a b) (k : GP P b c) : GP P a c :=
  ⟨k.1.trans h.1, k.2.1.trans h.2.1, k.2.2.1.trans h.2.2.1, Nat.le_trans h.2.2.2.1 k.2.2.2.1, fun i hi hn => (k.2.2.2.2 i (Nat.lt_of_lt_of_le hi h.2.2.2.1) hn).trans (h.2.2.2.2 i hi hn)⟩
theorem GP.of {P : Nat → Prop} {a b : World} {r : Option Nat} (h : a.grownBy b r) (hr : ∀ k, r = some k → P k) : GP P a b :=
  ⟨h.os, h.tape, h.output, h.size, fun k hk hn => h.block k hk (fun e => hn (hr k e.symm))⟩
theorem GP.new {P : Nat → Prop} {a b : World} (h : a.grownBy b none) : GP P a b := GP.of h (by simp)
theorem GP.mono {P Q : Nat → Prop} {a b : World} (h : GP P a b) (hP : ∀ k, P k → Q k) : GP Q a b := ⟨h.1, h.2.1, h.2.2.1, h.2.2.2.1, fun k hk hn => h.2.2.2.2 k hk (fun e => hn (hP k e))⟩
/-- .. what lies behind a's end may be turned freely. -/
theorem GP.step {P Q : Nat → Prop} {a b c : World} (h : GP P a b) (k : GP Q b c) (hQ : ∀ i, Q i → P i ∨ a.heap.size ≤ i) : GP P a c :=
  ⟨k.1.trans h.1, k.2.1.trans h.2.1, k.2.2.1.trans h.2.2.1, Nat.le_trans h.2.2.2.1 k.2.2.2.1, fun i hi hn => (k.2.2.2.2 i (Nat.lt_of_lt_of_le hi h.2.2.2.1) (fun e => by rcases hQ i e with h | h; exact hn h; omega)).trans (h.2.2.2.2 i hi hn)⟩
theorem GP.grown {w w' : World} (h : GP (fun _ => False) w w') : w.grownBy w' none := ⟨h.1, h.2.1, h.2.2.1, h.2.2.2.1, fun k hk _ => h.2.2.2.2 k hk (fun e => e)⟩
theorem GP.below {P : Nat → Prop} {B : Nat} {w w' : World} (h : GP P w w') (hB : B ≤ w.heap.size) (hP : ∀ k, P k → B ≤ k) : Below B w w' :=
  ⟨h.1, h.2.1, h.2.2.1, h.2.2.2.1, fun k hk => h.2.2.2.2 k (by omega) (fun e => by have := hP k e; omega)⟩

/-- A slice of n elements of k cells each that reads as cs; the block where it is read is in P. -/
def SR (P : Nat → Prop) (k : Nat) (w : World) (v : Value) (n : Nat) (cs : List Value) : Prop :=
  cs.length = n * k ∧ ∃ a c, v = .slice a n c ∧ n ≤ c ∧ c ≤ maxLen ∧ (a = none → c = 0) ∧
    (n ≠ 0 → ∃ b off, a = some ⟨b, off, none⟩ ∧ P b ∧ b < w.heap.size ∧ ∀ i u, cs[i]? = some u → w.cell? ⟨b, off + i, none⟩ = some u)
/-- .. a slice whose elements lie in a block that holds nothing else. -/
def SO (P : Nat → Prop) (e : TypeId) (k : Nat) (w : World) (v : Value) (n : Nat) (cs : List Value) : Prop :=
  cs.length = n * k ∧ ∃ a c, v = .slice a n c ∧ n ≤ c ∧ c ≤ maxLen ∧ (a = none → c = 0) ∧
    (n ≠ 0 → ∃ b cur, a = some ⟨b, 0, none⟩ ∧ P b ∧ w.heap[b]? = some (.cells cur e (0, 0)) ∧ cur.toList.take (n * k) = cs)
section
variable {P Q : Nat → Prop} {e : TypeId} {k n : Nat} {w w' : World} {v : Value} {cs : List Value}
theorem SR.weak (h : SR P k w v n cs) (hQ : ∀ b, P b → Q b) : SR Q k w v n cs := by
  obtain ⟨h0, a, c, h1, h2, h3, h4, h5⟩ := h
  exact ⟨h0, a, c, h1, h2, h3, h4, fun hn => by obtain ⟨b, off, q1, q2, q3, q4⟩ := h5 hn; exact ⟨b, off, q1, hQ b q2, q3, q4⟩⟩
theorem SO.weak (h : SO P e k w v n cs) (hQ : ∀ b, P b → Q b) : SO Q e k w v n cs := by
  obtain ⟨h0, a, c, h1, h2, h3, h4, h5⟩ := h
  exact ⟨h0, a, c, h1, h2, h3, h4, fun hn => by obtain ⟨b, off, q1, q2, q3⟩ := h5 hn; exact ⟨b, off, q1, hQ b q2, q3⟩⟩
theorem SR.heap (h : SR P k w v n cs) (hk : ∀ b, P b → b < w.heap.size → w'.heap[b]? = w.heap[b]?) : SR P k w' v n cs := by
  obtain ⟨h0, a, c, h1, h2, h3, h4, h5⟩ := h
  refine ⟨h0, a, c, h1, h2, h3, h4, fun hn => ?_⟩
  obtain ⟨b, off, q1, q2, q3, q4⟩ := h5 hn
  have hb := hk b q2 q3
  refine ⟨b, off, q1, q2, ?_, fun i u hu => by rw [World.cell?_of_block (a := ⟨b, off + i, none⟩) hb]; exact q4 i u hu⟩
  rw [Array.getElem?_eq_getElem q3] at hb
  exact (Array.getElem?_eq_some_iff.1 hb).1
theorem SO.heap (h : SO P e k w v n cs) (hk : ∀ b cur, P b → w.heap[b]? = some (.cells cur e (0, 0)) → w'.heap[b]? = w.heap[b]?) : SO P e k w' v n cs := by
  obtain ⟨h0, a, c, h1, h2, h3, h4, h5⟩ := h
  refine ⟨h0, a, c, h1, h2, h3, h4, fun hn => ?_⟩
  obtain ⟨b, cur, q1, q2, q3, q4⟩ := h5 hn
  exact ⟨b, cur, q1, q2, (hk b cur q2 q3).trans q3, q4⟩
theorem SR.new (h : SR P k w v n cs) (hg : w.grownBy w' none) : SR P k w' v n cs := h.heap fun b _ hb => hg.block b hb (by simp)
theorem SO.new (h : SO P e k w v n cs) (hg : w.grownBy w' none) : SO P e k w' v n cs := h.heap fun b cur _ hb => hg.block b (lt_of_block hb) (by simp)
theorem SO.reads (h : SO P e k w v n cs) : SR P k w v n cs := by
  obtain ⟨h0, a, c, h1, h2, h3, h4, h5⟩ := h
  refine ⟨h0, a, c, h1, h2, h3, h4, fun hn => ?_⟩
  obtain ⟨b, cur, q1, q2, q3, q4⟩ := h5 hn
  refine ⟨b, 0, q1, q2, lt_of_block q3, fun i u hu => ?_⟩
  have hi : i < n * k := by rw [← h0]; exact (List.getElem?_eq_some_iff.1 hu).1
  rw [← q4, List.getElem?_take_of_lt hi] at hu
  have h6 : cur[i]? = some u := by simpa using hu
  rw [Nat.zero_add]
  simp only [World.cell?, q3]
  exact h6
theorem SR.nil (P : Nat → Prop) (k : Nat) (w : World) : SR P k w (.slice none 0 0) 0 [] := ⟨by simp, none, 0, rfl, Nat.le_refl _, Nat.zero_le _, fun _ => rfl, fun h => absurd rfl h⟩
theorem SO.nil (P : Nat → Prop) (e : TypeId) (k : Nat) (w : World) : SO P e k w (.slice none 0 0) 0 [] := ⟨by simp, none, 0, rfl, Nat.le_refl _, Nat.zero_le _, fun _ => rfl, fun h => absurd rfl h⟩
theorem SR.form (h : SR P k w v n cs) : ∃ a c, v = .slice a n c ∧ n ≤ c ∧ c ≤ maxLen := by
  obtain ⟨_, a, c, h1, h2, h3, _⟩ := h
  exact ⟨a, c, h1, h2, h3⟩
theorem SR.get {a : Option Addr} {c m : Nat} (h : SR P k w (.slice a m c) n cs) {i : Nat} (hi : i < n) :
    ∃ b off, a = some ⟨b, off, none⟩ ∧ P b ∧ ∀ j, j < k → ∃ u, cs[i * k + j]? = some u ∧ w.cell? ⟨b, off + (i * k + j), none⟩ = some u := by
  obtain ⟨h0, a', c', h1, h2, h3, h4, h5⟩ := h
  obtain ⟨rfl, rfl, rfl⟩ : a = a' ∧ m = n ∧ c = c' := by simpa using h1
  obtain ⟨b, off, q1, q2, q3, q4⟩ := h5 (by omega)
  refine ⟨b, off, q1, q2, fun j hj => ?_⟩
  have hl : i * k + j < cs.length := by
    rw [h0]
    have := Nat.mul_le_mul_right k (show i + 1 ≤ m by omega)
    rw [Nat.add_mul] at this
    omega
  exact ⟨cs[i * k + j], List.getElem?_eq_getElem hl, q4 _ _ (List.getElem?_eq_getElem hl)⟩
/-- A longer reading is a shorter one, too. -/
theorem SR.of_owns {B : Nat} (h : w.ownsRow B e k v n cs) (hP : ∀ b, B ≤ b → b < w.heap.size → P b) : SO P e k w v n cs := by
  obtain ⟨h0, ⟨rfl, rfl⟩ | ⟨g, cap, cur, rfl, hB, hgg, h1, h2, h3, h4⟩⟩ := h
  · simp at h0; subst h0; exact SO.nil _ _ _ _
  · exact ⟨h0, _, cap, rfl, h1, h2, (fun e => by cases e), fun _ => ⟨g, cur, rfl, hP g hB (lt_of_block hgg), hgg, h4⟩⟩
theorem SO.clip {a : Option Addr} {m c : Nat} (h : SO P e k w (.slice a m c) n cs) (h2 : n ≤ maxLen) (ha : a = none → n = 0) : SO P e k w (.slice a n n) n cs := by
  obtain ⟨h0, a', c', h1, h2', h3, h4, h5⟩ := h
  obtain ⟨rfl, rfl, rfl⟩ : a = a' ∧ m = n ∧ c = c' := by simpa using h1
  exact ⟨h0, a, m, rfl, Nat.le_refl _, h2, ha, h5⟩
end

/-- Code points, elements, as cells. -/
def rc (l : List Int) : List Value := l.map fun x => .int .i32 x
def ec (l : List El) : List Value := l.flatMap fun x => [.int .i64 x.p, .int .i64 x.s, .int .i64 x.t, .bool x.v]
theorem rc_len (l : List Int) : (rc l).length = l.length := by simp [rc]
theorem ec_len : ∀ l : List El, (ec l).length = l.length * 4
  | [] => rfl
  | x :: l => by
    have ih := ec_len l
    have e : ec (x :: l) = [.int .i64 x.p, .int .i64 x.s, .int .i64 x.t, .bool x.v] ++ ec l := rfl
    rw [e, List.length_append, ih]
    simp
    omega
theorem ec_at : ∀ (l : List El) (i : Nat) (x : El), l[i]? = some x → (ec l)[i * 4]? = some (.int .i64 x.p) ∧ (ec l)[i * 4 + 1]? = some (.int .i64 x.s) ∧ (ec l)[i * 4 + 2]? = some (.int .i64 x.t) ∧ (ec l)[i * 4 + 3]? = some (.bool x.v)
  | [], _, _, h => by simp at h
  | x :: l, 0, y, h => by
    simp at h
    subst h
    exact ⟨rfl, rfl, rfl, rfl⟩
  | x :: l, i + 1, y, h => by
    have ih := ec_at l i y (by simpa using h)
    have e : ec (x :: l) = .int .i64 x.p :: .int .i64 x.s :: .int .i64 x.t :: .bool x.v :: ec l := rfl
    rw [e, show (i + 1) * 4 = i * 4 + 1 + 1 + 1 + 1 by omega]
    simpa using ih
/-- Pairs of values as cells. -/
def pc (l : List (Value × Value)) : List Value := l.flatMap fun x => [x.1, x.2]
theorem pc_len : ∀ l : List (Value × Value), (pc l).length = l.length * 2
  | [] => rfl
  | x :: l => by
    have ih := pc_len l
    have e : pc (x :: l) = [x.1, x.2] ++ pc l := rfl
    rw [e, List.length_append, ih]
    simp
    omega
theorem pc_at : ∀ (l : List (Value × Value)) (i : Nat) (x : Value × Value), l[i]? = some x → (pc l)[i * 2]? = some x.1 ∧ (pc l)[i * 2 + 1]? = some x.2
  | [], _, _, h => by simp at h
  | x :: l, 0, y, h => by
    simp at h
    subst h
    exact ⟨rfl, rfl⟩
  | x :: l, i + 1, y, h => by
    have ih := pc_at l i y (by simpa using h)
    have e : pc (x :: l) = x.1 :: x.2 :: pc l := rfl
    rw [e, show (i + 1) * 2 = i * 2 + 1 + 1 by omega]
    simpa using ih
theorem pc_app (l m : List (Value × Value)) : pc (l ++ m) = pc l ++ pc m := by simp [pc]

/-- An entry: its code points, its elements. -/
structure Ent where
  codes : List Int
  els : List El
/-- Two values read as an entry's code points and elements, in blocks of P. -/
def EntR (P : Nat → Prop) (w : World) (vc ve : Value) (x : Ent) : Prop := SR P 1 w vc x.codes.length (rc x.codes) ∧ SR P 4 w ve x.els.length (ec x.els)
/-- A slice of entries reads as L. -/
def EntsR (P : Nat → Prop) (w : World) (v : Value) (L : List Ent) : Prop :=
  ∃ vs : List (Value × Value), vs.length = L.length ∧ SR P 2 w v L.length (pc vs) ∧ ∀ (i : Nat) (x : Ent) (p : Value × Value), L[i]? = some x → vs[i]? = some p → EntR P w p.1 p.2 x
theorem EntR.new {P : Nat → Prop} {w w' : World} {vc ve : Value} {x : Ent} (h : EntR P w vc ve x) (hg : w.grownBy w' none) : EntR P w' vc ve x := ⟨h.1.new hg, h.2.new hg⟩
theorem EntR.heap {P : Nat → Prop} {w w' : World} {vc ve : Value} {x : Ent} (h : EntR P w vc ve x) (hk : ∀ b, P b → b < w.heap.size → w'.heap[b]? = w.heap[b]?) : EntR P w' vc ve x := ⟨h.1.heap hk, h.2.heap hk⟩
theorem EntsR.heap {P : Nat → Prop} {w w' : World} {v : Value} {L : List Ent} (h : EntsR P w v L) (hk : ∀ b, P b → b < w.heap.size → w'.heap[b]? = w.heap[b]?) : EntsR P w' v L := by
  obtain ⟨vs, h1, h2, h3⟩ := h
  exact ⟨vs, h1, h2.heap hk, fun i x p q1 q2 => (h3 i x p q1 q2).heap hk⟩
theorem EntsR.new {P : Nat → Prop} {w w' : World} {v : Value} {L : List Ent} (h : EntsR P w v L) (hg : w.grownBy w' none) : EntsR P w' v L := h.heap fun b _ hb => hg.block b hb (by simp)
end Go.Proofs.Ytlnplompnabmlaa

/-
  LAYER 9 (trie): leaves: which code points may be, the counter, nodes.
-/
namespace Go.Proofs.Ytlnplompnabmlaa
set_option maxRecDepth 100000
open Go.RowKit Go.Lib
attribute [local go_sem] Oper.semAt_some

def scal (r : Int) : Bool := decide (0 ≤ r ∧ r < 55296 ∨ 57343 < r ∧ r ≤ 1114111)
set_option maxHeartbeats 1000000 in
theorem scal_utf (r : Int) (w : World) : Calls Try.prog 63 #[.int .i32 r] w fun e w' => e = .returned (.bool (scal r)) ∧ w = w' := by
  by_cases h1 : 0 ≤ r
  all_goals by_cases h2 : r < 55296
  all_goals by_cases h3 : 57343 < r
  all_goals by_cases h4 : r ≤ 1114111
  all_goals (try omega)
  all_goals
    go_enter Try.func63, Try.ntmps63
    go_wp2
  all_goals
    go_ret
    simp [scal, *]
set_option maxHeartbeats 1000000 in
theorem scal_ref (r : Int) (w : World) : Calls Try.prog 28 #[.int .i32 r] w fun e w' => e = .returned (.bool (scal r)) ∧ w = w' := by
  by_cases h1 : 0 ≤ r
  all_goals by_cases h2 : r < 55296
  all_goals by_cases h3 : 57343 < r
  all_goals by_cases h4 : r ≤ 1114111
  all_goals (try omega)
  all_goals
    go_enter Try.func28, Try.ntmps28
    go_wp2
  all_goals
    go_ret
    simp [scal, *]
theorem isNone_any (r : Int) (w : World) : Calls Try.prog 52 #[.int .i32 r] w fun e w' => e = .returned (.bool (!scal r)) ∧ w.grownBy w' none := by
  have hS := fun w => scal_utf r w
  generalize scal r = b at hS ⊢
  go_enter Try.func52, Try.ntmps52
  go_wp2_with (go_at_call 63; refine (hS _).mono ?_; rintro e w' ⟨rfl, rfl⟩)
  go_ret
  exact ⟨rfl, World.grownBy.refl _ _⟩

/-- A node in memory. -/
def NodeAt (w : World) (b : Nat) (nm : Int) (m : Option Nat) : Prop := w.heap[b]? = some (.cells #[.int .i64 nm, .map m] 80 (0, 0))
section
variable {w w' : World} {b : Nat} {nm : Int} {m : Option Nat}
theorem NodeAt.c0 (h : NodeAt w b nm m) : w.cell? ⟨b, 0, none⟩ = some (.int .i64 nm) := by simp [World.cell?, show _ = _ from h]
theorem NodeAt.c1 (h : NodeAt w b nm m) : w.cell? ⟨b, 1, none⟩ = some (.map m) := by simp [World.cell?, show _ = _ from h]
theorem NodeAt.free (h : NodeAt w b nm m) (o : Nat) : w.frozen? ⟨b, o, none⟩ = false := by simp [World.frozen?, show _ = _ from h]
theorem NodeAt.lt (h : NodeAt w b nm m) : b < w.heap.size := lt_of_block h
theorem NodeAt.s0 (h : NodeAt w b nm m) (x : Int) : NodeAt (w.setCell ⟨b, 0, none⟩ (.int .i64 x)) b x m := heap_setCell_same w b 0 _ _ _ h
theorem NodeAt.s1 (h : NodeAt w b nm m) (x : Option Nat) : NodeAt (w.setCell ⟨b, 1, none⟩ (.map x)) b nm x := heap_setCell_same w b 1 _ _ _ h
end
theorem newNode_any (w : World) : Calls Try.prog 26 #[] w fun e w' => e = .returned (.pointer (some ⟨w.heap.size, 0, none⟩)) ∧ NodeAt w' w.heap.size (-1) none ∧ w.grownBy w' none ∧ w'.heap.size = w.heap.size + 1 := by
  have h0 : NodeAt (w.alloc (.cells #[.int .i64 (-1), .map none] 80)) w.heap.size (-1) none := World.alloc_heap_new w _
  have h1 := World.grownBy_alloc w (.cells #[.int .i64 (-1), .map none] 80) none
  go_enter Try.func26, Try.ntmps26
  go_wp2
  go_ret
  exact ⟨rfl, h0, h1, by simp⟩
theorem ends_any (b : Nat) (nm : Int) (m : Option Nat) (w : World) (h : NodeAt w b nm m) : Calls Try.prog 33 #[.pointer (some ⟨b, 0, none⟩)] w fun e w' => e = .returned (.bool (nm != -1)) ∧ w = w' := by
  have c0 := h.c0
  clear h
  go_enter Try.func33, Try.ntmps33
  go_wp2
  go_ret
  exact ⟨rfl, rfl⟩

/-- A trie in memory: root, entries, the counter. -/
def TrAt (w : World) (t : Nat) (po : Option Addr) (ve : Value) (n : Int) : Prop := w.heap[t]? = some (.cells #[.pointer po, ve, .int .i64 n] 62 (0, 0))
section
variable {w w' : World} {t : Nat} {po : Option Addr} {ve : Value} {n : Int}
theorem TrAt.c0 (h : TrAt w t po ve n) : w.cell? ⟨t, 0, none⟩ = some (.pointer po) := by simp [World.cell?, show _ = _ from h]
theorem TrAt.c1 (h : TrAt w t po ve n) : w.cell? ⟨t, 1, none⟩ = some ve := by simp [World.cell?, show _ = _ from h]
theorem TrAt.c2 (h : TrAt w t po ve n) : w.cell? ⟨t, 2, none⟩ = some (.int .i64 n) := by simp [World.cell?, show _ = _ from h]
theorem TrAt.free (h : TrAt w t po ve n) (o : Nat) : w.frozen? ⟨t, o, none⟩ = false := by simp [World.frozen?, show _ = _ from h]
theorem TrAt.lt (h : TrAt w t po ve n) : t < w.heap.size := lt_of_block h
theorem TrAt.s1 (h : TrAt w t po ve n) (v : Value) : TrAt (w.setCell ⟨t, 1, none⟩ v) t po v n := heap_setCell_same w t 1 _ _ _ h
theorem TrAt.s2 (h : TrAt w t po ve n) (x : Int) : TrAt (w.setCell ⟨t, 2, none⟩ (.int .i64 x)) t po ve x := heap_setCell_same w t 2 _ _ _ h
end
theorem isMade_nil (w : World) : Calls Try.prog 30 #[.pointer none] w fun e w' => e = .returned (.bool false) ∧ w = w' := by
  go_enter Try.func30, Try.ntmps30
  go_wp2
  go_ret
  exact ⟨rfl, rfl⟩
theorem isMade_zero (t : Nat) (ve : Value) (n : Int) (w : World) (h : TrAt w t none ve n) : Calls Try.prog 30 #[.pointer (some ⟨t, 0, none⟩)] w fun e w' => e = .returned (.bool false) ∧ w = w' := by
  have c0 := h.c0
  clear h
  go_enter Try.func30, Try.ntmps30
  go_wp2
  go_ret
  exact ⟨rfl, rfl⟩
theorem isMade_made (t rt : Nat) (ve : Value) (n : Int) (w : World) (h : TrAt w t (some ⟨rt, 0, none⟩) ve n) : Calls Try.prog 30 #[.pointer (some ⟨t, 0, none⟩)] w fun e w' => e = .returned (.bool true) ∧ w = w' := by
  have c0 := h.c0
  clear h
  go_enter Try.func30, Try.ntmps30
  go_wp2
  go_ret
  exact ⟨rfl, rfl⟩

/-- Nobody made it. -/
def NonePtr (W : World) (po : Option Addr) : Prop := po = none ∨ ∃ z ve n, po = some ⟨z, 0, none⟩ ∧ TrAt W z none ve n
theorem isMade_nobody (po : Option Addr) (w : World) (h : NonePtr w po) : Calls Try.prog 30 #[.pointer po] w fun e w' => e = .returned (.bool false) ∧ w = w' := by
  rcases h with rfl | ⟨z, ve, n, rfl, h0⟩
  · exact isMade_nil w
  · exact isMade_zero z ve n w h0
theorem count_nobody (po : Option Addr) (w : World) (h : NonePtr w po) : Calls Try.prog 31 #[.pointer po] w fun e w' => e = .returned (.tuple #[]) ∧ w = w' := by
  have hm := isMade_nobody po w h
  clear h
  go_enter Try.func31, Try.ntmps31
  go_wp2_with (go_at_call 30; refine hm.mono ?_; rintro e w' ⟨rfl, rfl⟩)
  go_end0
  exact ⟨rfl, rfl⟩
theorem len_nobody (po : Option Addr) (w : World) (h : NonePtr w po) : Calls Try.prog 11 #[.pointer po] w fun e w' => e = .returned (.int .i64 0) ∧ w = w' := by
  have hm := isMade_nobody po w h
  clear h
  go_enter Try.func11, Try.ntmps11
  go_wp2_with (go_at_call 30; refine hm.mono ?_; rintro e w' ⟨rfl, rfl⟩)
  go_ret
  exact ⟨rfl, rfl⟩
theorem asked_nobody (po : Option Addr) (w : World) (h : NonePtr w po) : Calls Try.prog 15 #[.pointer po] w fun e w' => e = .returned (.int .i64 0) ∧ w = w' := by
  have hm := isMade_nobody po w h
  clear h
  go_enter Try.func15, Try.ntmps15
  go_wp2_with (go_at_call 30; refine hm.mono ?_; rintro e w' ⟨rfl, rfl⟩)
  go_ret
  exact ⟨rfl, rfl⟩

/-- The counter. -/
theorem add_any (t : Nat) (po : Option Addr) (ve : Value) (n : Int) (w : World) (h : TrAt w t po ve n) (h0 : 0 ≤ n) (h1 : n < 4611686018427387904) :
    Calls Try.prog 45 #[.pointer (some ⟨t, 2, none⟩), .int .i64 1] w fun e w' => e = .returned (.int .i64 (n + 1)) ∧ w' = w.setCell ⟨t, 2, none⟩ (.int .i64 (n + 1)) := by
  have c2 := h.c2
  have f2 := h.free 2
  have hr : (callFunc 56 #[.pointer (some ⟨t, 2, none⟩), .int .i64 1]).run Try.prog w = .ok (.value (.int .i64 (n + 1))) (w.setCell ⟨t, 2, none⟩ (.int .i64 (n + 1))) := by
    refine run_call_add Try.func56 (by kernel_rfl) (by kernel_rfl) (by kernel_rfl) .i64 (by kernel_rfl) c2 f2 ?_
    simp [Op.intArith, IntKind.wrap, go_sem]
    omega
  clear h
  go_enter Try.func45, Try.ntmps45
  go_wp2
  go_ret
  exact ⟨rfl, rfl⟩
end Go.Proofs.Ytlnplompnabmlaa

/-
  LAYER 9 (trie): copies of code points, of elements, of entries.
-/
namespace Go.Proofs.Ytlnplompnabmlaa
set_option maxRecDepth 100000
open Go.RowKit Go.Lib
attribute [local go_sem] Oper.semAt_some

theorem infoRune : (Try.prog.info? 21).map (fun i => (i.zero, i.size, i.bytes)) = some (some (.int .i32 0), 1, 4) := by kernel_rfl
theorem infoEl : (Try.prog.info? 66).map (fun i => (i.zero, i.size, i.bytes)) = some (some (.agg #[.int .i64 0, .int .i64 0, .int .i64 0, .bool false]), 4, 32) := by kernel_rfl
theorem infoEnt : (Try.prog.info? 35).map (fun i => (i.zero, i.size, i.bytes)) = some (some (.agg #[.slice none 0 0, .slice none 0 0]), 2, 48) := by kernel_rfl
theorem infoRune_parts : ∃ i0 : TypeInfo, Try.prog.info? 21 = some i0 ∧ i0.zero = some (.int .i32 0) ∧ i0.size = 1 ∧ i0.bytes = 4 := by
  have h := infoRune
  cases hi : Try.prog.info? 21 with
  | none => rw [hi] at h; cases h
  | some i =>
    rw [hi] at h
    simp only [Option.map_some, Option.some.injEq, Prod.mk.injEq] at h
    exact ⟨i, rfl, h.1, h.2.1, h.2.2⟩
theorem infoEl_parts : ∃ i0 : TypeInfo, Try.prog.info? 66 = some i0 ∧ i0.zero = some (.agg #[.int .i64 0, .int .i64 0, .int .i64 0, .bool false]) ∧ i0.size = 4 ∧ i0.bytes = 32 := by
  have h := infoEl
  cases hi : Try.prog.info? 66 with
  | none => rw [hi] at h; cases h
  | some i =>
    rw [hi] at h
    simp only [Option.map_some, Option.some.injEq, Prod.mk.injEq] at h
    exact ⟨i, rfl, h.1, h.2.1, h.2.2⟩
theorem infoEnt_parts : ∃ i0 : TypeInfo, Try.prog.info? 35 = some i0 ∧ i0.zero = some (.agg #[.slice none 0 0, .slice none 0 0]) ∧ i0.size = 2 ∧ i0.bytes = 48 := by
  have h := infoEnt
  cases hi : Try.prog.info? 35 with
  | none => rw [hi] at h; cases h
  | some i =>
    rw [hi] at h
    simp only [Option.map_some, Option.some.injEq, Prod.mk.injEq] at h
    exact ⟨i, rfl, h.1, h.2.1, h.2.2⟩
theorem rc_one {l : List Int} : ∀ u ∈ rc l, u.oneCell' = true := by
  intro u hu
  simp only [rc, List.mem_map] at hu
  obtain ⟨x, _, rfl⟩ := hu
  rfl
theorem ec_one {l : List El} : ∀ u ∈ ec l, u.oneCell' = true := by
  intro u hu
  simp only [ec, List.mem_flatMap, List.mem_cons, List.not_mem_nil, or_false] at hu
  obtain ⟨x, _, rfl | rfl | rfl | rfl⟩ := hu <;> rfl
theorem addr_add (b off j : Nat) : (⟨b, off, none⟩ : Addr).add j = ⟨b, off + j, none⟩ := by unfold Addr.add; split <;> simp_all

set_option maxHeartbeats 2000000 in
theorem clone_rc (P : Nat → Prop) (v : Value) (l : List Int) (w : World) (h : SR P 1 w v l.length (rc l)) (hlen : l.length < 1099511627776) :
    Calls Try.prog 67 #[v] w fun e w' => ∃ a c, e = .returned (.slice a l.length c) ∧ (a = none → c = 0) ∧ SO (fun b => w.heap.size ≤ b) 21 1 w' (.slice a l.length c) l.length (rc l) ∧ w.grownBy w' none := by
  obtain ⟨h00, a, cap, rfl, hc, hm, hnc, hcl⟩ := h
  clear h00
  cases a with
  | none =>
    have hl : l = [] := by
      by_cases hl : l.length = 0
      · exact List.length_eq_zero_iff.1 hl
      · obtain ⟨b, off, e, _⟩ := hcl hl; cases e
    subst hl
    obtain rfl := hnc rfl
    clear hnc hcl
    have q : ∀ (w : World), (binOp .eql 32 (.slice none 0 0) (.slice none 0 0)).run Try.prog w = .ok (.bool true) w := fun w => Lib.run_eql_slice_nil w _ _ none 0 0 0 0 Try.underlying32
    go_enter Try.func67, Try.ntmps67
    go_wp2
    go_ret
    exact ⟨none, 0, rfl, fun _ => rfl, SO.nil _ _ _ _, World.grownBy.refl _ _⟩
  | some x =>
    clear hnc
    have q : ∀ (w : World), (binOp .eql 32 (.slice (some x) l.length cap) (.slice none 0 0)).run Try.prog w = .ok (.bool false) w := fun w => Lib.run_eql_slice_nil w _ _ (some x) l.length cap 0 0 Try.underlying32
    by_cases hl : l = []
    · subst hl
      have q0 : ∀ (w : World), (binOp .eql 32 (.slice (some x) 0 cap) (.slice none 0 0)).run Try.prog w = .ok (.bool false) w := q
      clear q hcl
      go_enter Try.func67, Try.ntmps67
      go_wp2
      go_ret
      exact ⟨_, 0, rfl, fun _ => rfl, ⟨by simp [rc], _, 0, rfl, Nat.le_refl _, Nat.zero_le _, fun _ => rfl, fun h => absurd rfl h⟩, World.grownBy_alloc w _ none⟩
    · obtain ⟨b, off, e, _, hbl, hcell⟩ := hcl (by simpa using hl)
      cases e
      obtain ⟨i0, hi, hz0, hz1, hz2⟩ := infoRune_parts
      obtain ⟨n, hn⟩ : ∃ n, n = l.length := ⟨_, rfl⟩
      go_enter Try.func67, Try.ntmps67
      go_wp2_with (at_builtin; refine wpList_append_grows _ rfl _ _ 32 rfl 21 i0 (.int .i32 0) 1 4 Try.underlying32 hi hz0 hz1 hz2 rfl (by decide) (some ⟨w.heap.size, 0, none⟩) 0 0 [] rfl (fun h => by cases h) ?d0 ?d1 ⟨b, off, none⟩ l.length cap (rc l) rfl ?d7 ?d2 ?d3 ?d4 ?d5 ?d6 ?_)
      case d0 => rfl
      case d1 => intro b hb j u hu; simp at hu
      case d7 => rw [rc_len]; try omega
      case d2 =>
        intro j u hu
        have h4 := (World.grownBy_alloc w (.cells #[] 21) none).cell (hcell j u hu) (by simp)
        rw [addr_add]
        exact h4
      case d3 => exact rc_one
      case d4 =>
        have := List.length_pos_iff.2 hl
        omega
      case d5 => unfold maxLen; omega
      case d6 => omega
      intro v' w' hown hg
      clear hi hz0 hz1 hz2 q hcell hcl
      have hg2 := (World.grownBy_alloc w (.cells #[] 21) none).trans hg
      have ho2 := SR.of_owns (P := fun b => w.heap.size ≤ b) hown (fun b hb _ => by omega)
      have hfm : ∃ a c, v' = .slice a l.length c ∧ (a = none → c = 0) := by
        obtain ⟨_, a, c, q1, _, _, q2, _⟩ := ho2
        exact ⟨a, c, q1, q2⟩
      obtain ⟨a', c', rfl, hac⟩ := hfm
      clear hown hg
      go_wp2
      go_ret
      exact ⟨_, _, rfl, hac, ho2, hg2⟩
set_option maxHeartbeats 2000000 in
theorem clone_ec (P : Nat → Prop) (v : Value) (l : List El) (w : World) (h : SR P 4 w v l.length (ec l)) (hlen : l.length < 1099511627776) :
    Calls Try.prog 58 #[v] w fun e w' => ∃ a c, e = .returned (.slice a l.length c) ∧ (a = none → c = 0) ∧ SO (fun b => w.heap.size ≤ b) 66 4 w' (.slice a l.length c) l.length (ec l) ∧ w.grownBy w' none := by
  obtain ⟨h00, a, cap, rfl, hc, hm, hnc, hcl⟩ := h
  clear h00
  cases a with
  | none =>
    have hl : l = [] := by
      by_cases hl : l.length = 0
      · exact List.length_eq_zero_iff.1 hl
      · obtain ⟨b, off, e, _⟩ := hcl hl; cases e
    subst hl
    obtain rfl := hnc rfl
    clear hnc hcl
    have q : ∀ (w : World), (binOp .eql 33 (.slice none 0 0) (.slice none 0 0)).run Try.prog w = .ok (.bool true) w := fun w => Lib.run_eql_slice_nil w _ _ none 0 0 0 0 Try.underlying33
    go_enter Try.func58, Try.ntmps58
    go_wp2
    go_ret
    exact ⟨none, 0, rfl, fun _ => rfl, SO.nil _ _ _ _, World.grownBy.refl _ _⟩
  | some x =>
    clear hnc
    have q : ∀ (w : World), (binOp .eql 33 (.slice (some x) l.length cap) (.slice none 0 0)).run Try.prog w = .ok (.bool false) w := fun w => Lib.run_eql_slice_nil w _ _ (some x) l.length cap 0 0 Try.underlying33
    by_cases hl : l = []
    · subst hl
      have q0 : ∀ (w : World), (binOp .eql 33 (.slice (some x) 0 cap) (.slice none 0 0)).run Try.prog w = .ok (.bool false) w := q
      clear q hcl
      go_enter Try.func58, Try.ntmps58
      go_wp2
      go_ret
      exact ⟨_, 0, rfl, fun _ => rfl, ⟨by simp [ec], _, 0, rfl, Nat.le_refl _, Nat.zero_le _, fun _ => rfl, fun h => absurd rfl h⟩, World.grownBy_alloc w _ none⟩
    · obtain ⟨b, off, e, _, hbl, hcell⟩ := hcl (by simpa using hl)
      cases e
      obtain ⟨i0, hi, hz0, hz1, hz2⟩ := infoEl_parts
      obtain ⟨n, hn⟩ : ∃ n, n = l.length := ⟨_, rfl⟩
      go_enter Try.func58, Try.ntmps58
      go_wp2_with (at_builtin; refine wpList_append_grows _ rfl _ _ 33 rfl 66 i0 (.agg #[.int .i64 0, .int .i64 0, .int .i64 0, .bool false]) 4 32 Try.underlying33 hi hz0 hz1 hz2 rfl (by decide) (some ⟨w.heap.size, 0, none⟩) 0 0 [] rfl (fun h => by cases h) ?d0 ?d1 ⟨b, off, none⟩ l.length cap (ec l) rfl ?d7 ?d2 ?d3 ?d4 ?d5 ?d6 ?_)
      case d0 => rfl
      case d1 => intro b hb j u hu; simp at hu
      case d7 => rw [ec_len]; try omega
      case d2 =>
        intro j u hu
        have h4 := (World.grownBy_alloc w (.cells #[] 66) none).cell (hcell j u hu) (by simp)
        rw [addr_add]
        exact h4
      case d3 => exact ec_one
      case d4 =>
        have := List.length_pos_iff.2 hl
        omega
      case d5 => unfold maxLen; omega
      case d6 => omega
      intro v' w' hown hg
      clear hi hz0 hz1 hz2 q hcell hcl
      have hg2 := (World.grownBy_alloc w (.cells #[] 66) none).trans hg
      have ho2 := SR.of_owns (P := fun b => w.heap.size ≤ b) hown (fun b hb _ => by omega)
      have hfm : ∃ a c, v' = .slice a l.length c ∧ (a = none → c = 0) := by
        obtain ⟨_, a, c, q1, _, _, q2, _⟩ := ho2
        exact ⟨a, c, q1, q2⟩
      obtain ⟨a', c', rfl, hac⟩ := hfm
      clear hown hg
      go_wp2
      go_ret
      exact ⟨_, _, rfl, hac, ho2, hg2⟩
theorem clip_rc (n c : Nat) (a : Option Addr) (w : World) (h : n ≤ c ∧ c ≤ maxLen ∧ (a = none → c = 0)) :
    Calls Try.prog 66 #[.slice a n c] w fun e w' => e = .returned (.slice a n n) ∧ w = w' := by
  obtain ⟨h1, h2, h3⟩ := h
  cases a with
  | none =>
    obtain rfl := h3 rfl
    obtain rfl : n = 0 := by omega
    clear h3
    go_enter Try.func66, Try.ntmps66
    go_wp2
    go_ret
    exact ⟨rfl, rfl⟩
  | some x =>
    clear h3
    unfold maxLen at h2
    go_enter Try.func66, Try.ntmps66
    go_wp2
    go_ret
    exact ⟨rfl, rfl⟩
theorem copy_rc (P : Nat → Prop) (v : Value) (l : List Int) (w : World) (h : SR P 1 w v l.length (rc l)) (hlen : l.length < 1099511627776) :
    Calls Try.prog 55 #[v] w fun e w' => ∃ a, e = .returned (.slice a l.length l.length) ∧ SO (fun b => w.heap.size ≤ b) 21 1 w' (.slice a l.length l.length) l.length (rc l) ∧ w.grownBy w' none := by
  have hC := clone_rc P v l w h hlen
  have hP := fun a c W h => clip_rc l.length c a W h
  obtain ⟨_, a, cap, rfl, _⟩ := h
  obtain ⟨cs, hcs⟩ : ∃ cs, cs = rc l := ⟨_, rfl⟩
  rw [← hcs] at hC ⊢
  clear hcs
  generalize l.length = n at hC hP hlen
  go_enter Try.func55, Try.ntmps55
  go_wp2_with (first
    | (go_at_call 67; refine hC.mono ?_; rintro e w1 ⟨a1, c1, rfl, hac, ho1, hg1⟩)
    | (go_at_call 66; refine (hP _ _ _ (by obtain ⟨_, a', c', q1, q2, q3, q4, _⟩ := ho1; simp at q1; obtain ⟨rfl, rfl⟩ := q1; exact ⟨q2, q3, q4⟩)).mono ?_; rintro e w2 ⟨rfl, rfl⟩))
  go_ret
  exact ⟨_, rfl, ho1.clip (by unfold maxLen; omega) (fun e => by obtain ⟨_, a', c', q1, q2, q3, q4, _⟩ := ho1; simp at q1; obtain ⟨rfl, rfl⟩ := q1; have := q4 e; omega), hg1⟩
theorem clip_ec (n c : Nat) (a : Option Addr) (w : World) (h : n ≤ c ∧ c ≤ maxLen ∧ (a = none → c = 0)) :
    Calls Try.prog 57 #[.slice a n c] w fun e w' => e = .returned (.slice a n n) ∧ w = w' := by
  obtain ⟨h1, h2, h3⟩ := h
  cases a with
  | none =>
    obtain rfl := h3 rfl
    obtain rfl : n = 0 := by omega
    clear h3
    go_enter Try.func57, Try.ntmps57
    go_wp2
    go_ret
    exact ⟨rfl, rfl⟩
  | some x =>
    clear h3
    unfold maxLen at h2
    go_enter Try.func57, Try.ntmps57
    go_wp2
    go_ret
    exact ⟨rfl, rfl⟩
theorem copy_ec (P : Nat → Prop) (v : Value) (l : List El) (w : World) (h : SR P 4 w v l.length (ec l)) (hlen : l.length < 1099511627776) :
    Calls Try.prog 47 #[v] w fun e w' => ∃ a, e = .returned (.slice a l.length l.length) ∧ SO (fun b => w.heap.size ≤ b) 66 4 w' (.slice a l.length l.length) l.length (ec l) ∧ w.grownBy w' none := by
  have hC := clone_ec P v l w h hlen
  have hP := fun a c W h => clip_ec l.length c a W h
  obtain ⟨_, a, cap, rfl, _⟩ := h
  obtain ⟨cs, hcs⟩ : ∃ cs, cs = ec l := ⟨_, rfl⟩
  rw [← hcs] at hC ⊢
  clear hcs
  generalize l.length = n at hC hP hlen
  go_enter Try.func47, Try.ntmps47
  go_wp2_with (first
    | (go_at_call 58; refine hC.mono ?_; rintro e w1 ⟨a1, c1, rfl, hac, ho1, hg1⟩)
    | (go_at_call 57; refine (hP _ _ _ (by obtain ⟨_, a', c', q1, q2, q3, q4, _⟩ := ho1; simp at q1; obtain ⟨rfl, rfl⟩ := q1; exact ⟨q2, q3, q4⟩)).mono ?_; rintro e w2 ⟨rfl, rfl⟩))
  go_ret
  exact ⟨_, rfl, ho1.clip (by unfold maxLen; omega) (fun e => by obtain ⟨_, a', c', q1, q2, q3, q4, _⟩ := ho1; simp at q1; obtain ⟨rfl, rfl⟩ := q1; have := q4 e; omega), hg1⟩
end Go.Proofs.Ytlnplompnabmlaa

/-
  LAYER 7 (weight): leaves: which elements may be, levels.
-/
namespace Go.Proofs.Ytlnplompnabmlaa
set_option maxRecDepth 100000
open Go.RowKit Go.Lib
attribute [local go_sem] Oper.semAt_some

set_option maxHeartbeats 2000000 in
theorem level_any (x : El) (w : World) : Calls Try.prog 76 #[x.agg] w fun e w' => e = .returned (.int .i64 (elLevel x)) ∧ w.grownBy w' none := by
  obtain ⟨p, s, t, v⟩ := x
  obtain ⟨n, hn⟩ : ∃ n, n = elLevel ⟨p, s, t, v⟩ := ⟨_, rfl⟩
  rw [← hn]
  unfold El.agg
  dsimp only
  replace hn := Lib.hid hn
  by_cases hp : p = 0
  all_goals by_cases hs : s = 0
  all_goals by_cases ht : t = 0
  all_goals
    go_enter Try.func76, Try.ntmps76
    go_wp2
    go_ret
    exact ⟨by rw [hn.out]; simp [elLevel, *], World.grownBy_alloc w _ none⟩

set_option maxHeartbeats 4000000 in
theorem inLimits_any (x : El) (w : World) : Calls Try.prog 71 #[x.agg] w fun e w' => e = .returned (.bool (elLim x)) ∧ w.grownBy w' none := by
  obtain ⟨p, s, t, v⟩ := x
  obtain ⟨n, hn⟩ : ∃ n, n = elLim ⟨p, s, t, v⟩ := ⟨_, rfl⟩
  rw [← hn]
  unfold El.agg
  dsimp only
  replace hn := Lib.hid hn
  have key : p < 0 ∨ (0 ≤ p ∧ 64256 ≤ p) ∨ (0 ≤ p ∧ p < 64256 ∧ s < 0) ∨ (0 ≤ p ∧ p < 64256 ∧ 0 ≤ s ∧ 511 < s) ∨ (0 ≤ p ∧ p < 64256 ∧ 0 ≤ s ∧ s ≤ 511 ∧ t < 0) ∨ (0 ≤ p ∧ p < 64256 ∧ 0 ≤ s ∧ s ≤ 511 ∧ 0 ≤ t ∧ 63 < t) ∨ (0 ≤ p ∧ p < 64256 ∧ 0 ≤ s ∧ s ≤ 511 ∧ 0 ≤ t ∧ t ≤ 63) := by omega
  rcases key with h | ⟨h, h1⟩ | ⟨h, h1, h2⟩ | ⟨h, h1, h2, h3⟩ | ⟨h, h1, h2, h3, h4⟩ | ⟨h, h1, h2, h3, h4, h5⟩ | ⟨h, h1, h2, h3, h4, h5⟩
  all_goals
    go_enter Try.func71, Try.ntmps71
    go_wp2
    go_ret
    refine ⟨?_, World.grownBy_alloc w _ none⟩
    rw [hn.out]
    simp [elLim, *]
    try omega

end Go.Proofs.Ytlnplompnabmlaa
