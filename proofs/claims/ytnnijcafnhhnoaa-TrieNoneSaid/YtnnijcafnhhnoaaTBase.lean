/-
  LAYER 9 (trie): slices in memory whose elements take k cells each; what keeps them; entries.
-/
import Derived.Test.YtnnijcafnhhnoaaWPure
import Derived.Test.YtnnijcafnhhnoaaRows
import Derived.MapKept
namespace Go.Proofs.Ytnnijcafnhhnoaa
set_option maxRecDepth 100000
open Go.RowKit Go.Lib

/-- Only blocks in P may have been turned (what is new lies behind). -/
def GP (P : Nat → Prop) (w w' : World) : Prop := w'.os = w.os ∧ w'.tape = w.tape ∧ w'.output = w.output ∧ w.heap.size ≤ w'.heap.size ∧ ∀ k, k < w.heap.size → ¬ P k → w'.heap[k]? = w.heap[k]?
theorem GP.refl (P : Nat → Prop) (w : World) : GP P w w := ⟨rfl, rfl, rfl, Nat.le_refl _, fun _ _ _ => rfl⟩
theorem GP.trans {P : Nat → Prop} {a b c : World} (h : GP P a b) (k : GP P b c) : GP P a c :=
  ⟨k.1.trans h.1, k.2.1.trans h.2.1, k.2.2.1.trans h.2.2.1, Nat.le_trans h.2.2.2.1 k.2.2.2.1, fun i hi hn => (k.2.2.2.2 i (Nat.lt_of_lt_of_le hi h.2.2.2.1) hn).trans (h.2.2.2.2 i hi hn)⟩
theorem GP.of {P : Nat → Prop} {a b : World} {r : Option Nat} (h : a.grownBy b r) (hr : ∀ k, r = some k → P k) : GP P a b :=
  ⟨h.os, h.tape, h.output, h.size, fun k hk hn => h.block k hk (fun e => hn (hr k e.symm))⟩
theorem GP.new {P : Nat → Prop} {a b : World} (h : a.grownBy b none) : GP P a b := GP.of h (by simp)
theorem GP.mono {P Q : Nat → Prop} {a b : World} (h : GP P a b) (hP : ∀ k, P k → Q k) : GP Q a b := ⟨h.1, h.2.1, h.2.2.1, h.2.2.2.1, fun k hk hn => h.2.2.2.2 k hk (fun e => hn (hP k e))⟩
/-- .. what lies behind a's end may be turned freely. -/
theorem GP.step {P Q : Nat → Prop} {a b c : World} (h : GP P a b) (k : GP Q b c) (hQ : ∀ i, Q i → P i ∨ a.heap.size ≤ i) : GP P a c :=
  ⟨k.1.trans h.1, k.2.1.trans h.2.1, k.2.2.1.trans h.2.2.1, Nat.le_trans h.2.2.2.1 k.2.2.2.1, fun i hi hn => (k.2.2.2.2 i (Nat.lt_of_lt_of_le hi h.2.2.2.1) (fun e => by rcases hQ i e with h | h; exact hn h; omega)).trans (h.2.2.2.2 i hi hn)⟩
theorem GP.grown {w w' : World} (h : GP (fun _ => False) w w') : w.grownBy w' none := ⟨h.1, h.2.1, h.2.2.1, h.2.2.2.1, fun k hk _ => h.2.2.2.2 k hk (fun e => e)⟩
theorem GP.below {P : Nat → Prop} {B : Nat} {w w' : World} (h : GP P w w') (hB : B ≤ w.heap.size) (hP : ∀ k, P k → B ≤ k) : Below B w w' :=
  ⟨h.1, h.2.1, h.2.2.1, h.2.2.2.1, fun k hk => h.2.2.2.2 k (by omega) (fun e => by have := hP k e; omega)⟩

/-- A slice of n elements of k cells each that reads as cs; the block where it is read is in P. -/
def SR (P : Nat → Prop) (k : Nat) (w : World) (v : Value) (n : Nat) (cs : List Value) : Prop :=
  cs.length = n * k ∧ ∃ a c, v = .slice a n c ∧ n ≤ c ∧ c ≤ maxLen ∧ (a = none → c = 0) ∧
    (n ≠ 0 → ∃ b off, a = some ⟨b, off, none⟩ ∧ P b ∧ b < w.heap.size ∧ ∀ i u, cs[i]? = some u → w.cell? ⟨b, off + i, none⟩ = some u)
/-- .. a slice whose elements lie in a block that holds nothing else. -/
def SO (P : Nat → Prop) (e : TypeId) (k : Nat) (w : World) (v : Value) (n : Nat) (cs : List Value) : Prop :=
  cs.length = n * k ∧ ∃ a c, v = .slice a n c ∧ n ≤ c ∧ c ≤ maxLen ∧ (a = none → c = 0) ∧
    (n ≠ 0 → ∃ b cur, a = some ⟨b, 0, none⟩ ∧ P b ∧ w.heap[b]? = some (.cells cur e (0, 0)) ∧ cur.toList.take (n * k) = cs)
section
variable {P Q : Nat → Prop} {e : TypeId} {k n : Nat} {w w' : World} {v : Value} {cs : List Value}
theorem SR.weak (h : SR P k w v n cs) (hQ : ∀ b, P b → Q b) : SR Q k w v n cs := by
  obtain ⟨h0, a, c, h1, h2, h3, h4, h5⟩ := h
  exact ⟨h0, a, c, h1, h2, h3, h4, fun hn => by obtain ⟨b, off, q1, q2, q3, q4⟩ := h5 hn; exact ⟨b, off, q1, hQ b q2, q3, q4⟩⟩
theorem SO.weak (h : SO P e k w v n cs) (hQ : ∀ b, P b → Q b) : SO Q e k w v n cs := by
  obtain ⟨h0, a, c, h1, h2, h3, h4, h5⟩ := h
  exact ⟨h0, a, c, h1, h2, h3, h4, fun hn => by obtain ⟨b, off, q1, q2, q3⟩ := h5 hn; exact ⟨b, off, q1, hQ b q2, q3⟩⟩
theorem SR.heap (h : SR P k w v n cs) (hk : ∀ b, P b → b < w.heap.size → w'.heap[b]? = w.heap[b]?) : SR P k w' v n cs := by
  obtain ⟨h0, a, c, h1, h2, h3, h4, h5⟩ := h
  refine ⟨h0, a, c, h1, h2, h3, h4, fun hn => ?_⟩
  obtain ⟨b, off, q1, q2, q3, q4⟩ := h5 hn
  have hb := hk b q2 q3
  refine ⟨b, off, q1, q2, ?_, fun i u hu => by rw [World.cell?_of_block (a := ⟨b, off + i, none⟩) hb]; exact q4 i u hu⟩
  rw [Array.getElem?_eq_getElem q3] at hb
  exact (Array.getElem?_eq_some_iff.1 hb).1
theorem SO.heap (h : SO P e k w v n cs) (hk : ∀ b cur, P b → w.heap[b]? = some (.cells cur e (0, 0)) → w'.heap[b]? = w.heap[b]?) : SO P e k w' v n cs := by
  obtain ⟨h0, a, c, h1, h2, h3, h4, h5⟩ := h
  refine ⟨h0, a, c, h1, h2, h3, h4, fun hn => ?_⟩
  obtain ⟨b, cur, q1, q2, q3, q4⟩ := h5 hn
  exact ⟨b, cur, q1, q2, (hk b cur q2 q3).trans q3, q4⟩
theorem SR.new (h : SR P k w v n cs) (hg : w.grownBy w' none) : SR P k w' v n cs := h.heap fun b _ hb => hg.block b hb (by simp)
theorem SO.new (h : SO P e k w v n cs) (hg : w.grownBy w' none) : SO P e k w' v n cs := h.heap fun b cur _ hb => hg.block b (lt_of_block hb) (by simp)
theorem SO.reads (h : SO P e k w v n cs) : SR P k w v n cs := by
  obtain ⟨h0, a, c, h1, h2, h3, h4, h5⟩ := h
  refine ⟨h0, a, c, h1, h2, h3, h4, fun hn => ?_⟩
  obtain ⟨b, cur, q1, q2, q3, q4⟩ := h5 hn
  refine ⟨b, 0, q1, q2, lt_of_block q3, fun i u hu => ?_⟩
  have hi : i < n * k := by rw [← h0]; exact (List.getElem?_eq_some_iff.1 hu).1
  rw [← q4, List.getElem?_take_of_lt hi] at hu
  have h6 : cur[i]? = some u := by simpa using hu
  rw [Nat.zero_add]
  simp only [World.cell?, q3]
  exact h6
theorem SR.nil (P : Nat → Prop) (k : Nat) (w : World) : SR P k w (.slice none 0 0) 0 [] := ⟨by simp, none, 0, rfl, Nat.le_refl _, Nat.zero_le _, fun _ => rfl, fun h => absurd rfl h⟩
theorem SO.nil (P : Nat → Prop) (e : TypeId) (k : Nat) (w : World) : SO P e k w (.slice none 0 0) 0 [] := ⟨by simp, none, 0, rfl, Nat.le_refl _, Nat.zero_le _, fun _ => rfl, fun h => absurd rfl h⟩
theorem SR.form (h : SR P k w v n cs) : ∃ a c, v = .slice a n c ∧ n ≤ c ∧ c ≤ maxLen := by
  obtain ⟨_, a, c, h1, h2, h3, _⟩ := h
  exact ⟨a, c, h1, h2, h3⟩
theorem SR.get {a : Option Addr} {c m : Nat} (h : SR P k w (.slice a m c) n cs) {i : Nat} (hi : i < n) :
    ∃ b off, a = some ⟨b, off, none⟩ ∧ P b ∧ ∀ j, j < k → ∃ u, cs[i * k + j]? = some u ∧ w.cell? ⟨b, off + (i * k + j), none⟩ = some u := by
  obtain ⟨h0, a', c', h1, h2, h3, h4, h5⟩ := h
  obtain ⟨rfl, rfl, rfl⟩ : a = a' ∧ m = n ∧ c = c' := by simpa using h1
  obtain ⟨b, off, q1, q2, q3, q4⟩ := h5 (by omega)
  refine ⟨b, off, q1, q2, fun j hj => ?_⟩
  have hl : i * k + j < cs.length := by
    rw [h0]
    have := Nat.mul_le_mul_right k (show i + 1 ≤ m by omega)
    rw [Nat.add_mul] at this
    omega
  exact ⟨cs[i * k + j], List.getElem?_eq_getElem hl, q4 _ _ (List.getElem?_eq_getElem hl)⟩
/-- A longer reading is a shorter one, too. -/
theorem SR.of_owns {B : Nat} (h : w.ownsRow B e k v n cs) (hP : ∀ b, B ≤ b → b < w.heap.size → P b) : SO P e k w v n cs := by
  obtain ⟨h0, ⟨rfl, rfl⟩ | ⟨g, cap, cur, rfl, hB, hgg, h1, h2, h3, h4⟩⟩ := h
  · simp at h0; subst h0; exact SO.nil _ _ _ _
  · exact ⟨h0, _, cap, rfl, h1, h2, (fun e => by cases e), fun _ => ⟨g, cur, rfl, hP g hB (lt_of_block hgg), hgg, h4⟩⟩
theorem SO.clip {a : Option Addr} {m c : Nat} (h : SO P e k w (.slice a m c) n cs) (h2 : n ≤ maxLen) (ha : a = none → n = 0) : SO P e k w (.slice a n n) n cs := by
  obtain ⟨h0, a', c', h1, h2', h3, h4, h5⟩ := h
  obtain ⟨rfl, rfl, rfl⟩ : a = a' ∧ m = n ∧ c = c' := by simpa using h1
  exact ⟨h0, a, m, rfl, Nat.le_refl _, h2, ha, h5⟩
end

/-- Code points, elements, as cells. -/
def rc (l : List Int) : List Value := l.map fun x => .int .i32 x
def ec (l : List El) : List Value := l.flatMap fun x => [.int .i64 x.p, .int .i64 x.s, .int .i64 x.t, .bool x.v]
theorem rc_len (l : List Int) : (rc l).length = l.length := by simp [rc]
theorem ec_len : ∀ l : List El, (ec l).length = l.length * 4
  | [] => rfl
  | x :: l => by
    have ih := ec_len l
    have e : ec (x :: l) = [.int .i64 x.p, .int .i64 x.s, .int .i64 x.t, .bool x.v] ++ ec l := rfl
    rw [e, List.length_append, ih]
    simp
    omega
theorem ec_at : ∀ (l : List El) (i : Nat) (x : El), l[i]? = some x → (ec l)[i * 4]? = some (.int .i64 x.p) ∧ (ec l)[i * 4 + 1]? = some (.int .i64 x.s) ∧ (ec l)[i * 4 + 2]? = some (.int .i64 x.t) ∧ (ec l)[i * 4 + 3]? = some (.bool x.v)
  | [], _, _, h => by simp at h
  | x :: l, 0, y, h => by
    simp at h
    subst h
    exact ⟨rfl, rfl, rfl, rfl⟩
  | x :: l, i + 1, y, h => by
    have ih := ec_at l i y (by simpa using h)
    have e : ec (x :: l) = .int .i64 x.p :: .int .i64 x.s :: .int .i64 x.t :: .bool x.v :: ec l := rfl
    rw [e, show (i + 1) * 4 = i * 4 + 1 + 1 + 1 + 1 by omega]
    simpa using ih
/-- Pairs of values as cells. -/
def pc (l : List (Value × Value)) : List Value := l.flatMap fun x => [x.1, x.2]
theorem pc_len : ∀ l : List (Value × Value), (pc l).length = l.length * 2
  | [] => rfl
  | x :: l => by
    have ih := pc_len l
    have e : pc (x :: l) = [x.1, x.2] ++ pc l := rfl
    rw [e, List.length_append, ih]
    simp
    omega
theorem pc_at : ∀ (l : List (Value × Value)) (i : Nat) (x : Value × Value), l[i]? = some x → (pc l)[i * 2]? = some x.1 ∧ (pc l)[i * 2 + 1]? = some x.2
  | [], _, _, h => by simp at h
  | x :: l, 0, y, h => by
    simp at h
    subst h
    exact ⟨rfl, rfl⟩
  | x :: l, i + 1, y, h => by
    have ih := pc_at l i y (by simpa using h)
    have e : pc (x :: l) = x.1 :: x.2 :: pc l := rfl
    rw [e, show (i + 1) * 2 = i * 2 + 1 + 1 by omega]
    simpa using ih
theorem pc_app (l m : List (Value × Value)) : pc (l ++ m) = pc l ++ pc m := by simp [pc]

/-- An entry: its code points, its elements. -/
structure Ent where
  codes : List Int
  els : List El
/-- Two values read as an entry's code points and elements, in blocks of P. -/
def EntR (P : Nat → Prop) (w : World) (vc ve : Value) (x : Ent) : Prop := SR P 1 w vc x.codes.length (rc x.codes) ∧ SR P 4 w ve x.els.length (ec x.els)
/-- A slice of entries reads as L. -/
def EntsR (P : Nat → Prop) (w : World) (v : Value) (L : List Ent) : Prop :=
  ∃ vs : List (Value × Value), vs.length = L.length ∧ SR P 2 w v L.length (pc vs) ∧ ∀ (i : Nat) (x : Ent) (p : Value × Value), L[i]? = some x → vs[i]? = some p → EntR P w p.1 p.2 x
theorem EntR.new {P : Nat → Prop} {w w' : World} {vc ve : Value} {x : Ent} (h : EntR P w vc ve x) (hg : w.grownBy w' none) : EntR P w' vc ve x := ⟨h.1.new hg, h.2.new hg⟩
theorem EntR.heap {P : Nat → Prop} {w w' : World} {vc ve : Value} {x : Ent} (h : EntR P w vc ve x) (hk : ∀ b, P b → b < w.heap.size → w'.heap[b]? = w.heap[b]?) : EntR P w' vc ve x := ⟨h.1.heap hk, h.2.heap hk⟩
theorem EntsR.heap {P : Nat → Prop} {w w' : World} {v : Value} {L : List Ent} (h : EntsR P w v L) (hk : ∀ b, P b → b < w.heap.size → w'.heap[b]? = w.heap[b]?) : EntsR P w' v L := by
  obtain ⟨vs, h1, h2, h3⟩ := h
  exact ⟨vs, h1, h2.heap hk, fun i x p q1 q2 => (h3 i x p q1 q2).heap hk⟩
theorem EntsR.new {P : Nat → Prop} {w w' : World} {v : Value} {L : List Ent} (h : EntsR P w v L) (hg : w.grownBy w' none) : EntsR P w' v L := h.heap fun b _ hb => hg.block b hb (by simp)
end Go.Proofs.Ytnnijcafnhhnoaa
