/-
  LAYER 9 (trie): a whole trie in memory.
-/
import Derived.Test.YtnnijcafnhhnoaaTGrow
import Derived.Test.YtnnijcafnhhnoaaTCheck
import Derived.Test.YtnnijcafnhhnoaaTCount
import Derived.Maps.AppendAt
namespace Go.Proofs.Ytnnijcafnhhnoaa
set_option maxRecDepth 100000
open Go.RowKit Go.Lib
attribute [local go_sem] Oper.semAt_some

/-- An append whose run is known, as one operation. -/
theorem wp_app_run {P : Program} {o : Oper} {a : Act} {w : World} {K : Act → World → Prop} {Q : Exit → Act → World → Prop} (sl x : Operand) (t : TypeId) (ho : o.op = .call { callee := .builtin .append, args := #[sl, x], argTypes := #[t, t] })
    (v xv : Value) (hs : a.eval sl = v) (hx : a.eval x = xv) {v' : Value} {w' : World} (hrun : (Builtin.append_ #[t, t] o.type #[v, xv]).run P w = .ok v' w') (h : K (a.put o.dst v') w') : Oper.wp P o a w K Q := by
  unfold Oper.wp execOp
  simp only [ho, resolve, invoke, builtin, Sem.run_bind, Sem.run_pure, Result.andThen_ok, List.map_toArray, List.map_cons, List.map_nil, hs, hx, hrun]
  exact h
theorem rowForm {w : World} {B s n : Nat} {e : TypeId} {v : Value} {xs : List Value} (h : w.ownsRow B e s v n xs) : ∃ a c, v = .slice a n c := by
  obtain ⟨_, ⟨rfl, hn⟩ | ⟨g, cap, cur, rfl, _⟩⟩ := h
  · exact ⟨none, 0, by rw [hn]⟩
  · exact ⟨_, _, rfl⟩
theorem own_heap {w w' : World} {B s n : Nat} {e : TypeId} {v : Value} {xs : List Value} (h : w.ownsRow B e s v n xs) (hk : ∀ k cur, v.ownBlock = some k → w.heap[k]? = some (.cells cur e (0, 0)) → w'.heap[k]? = w.heap[k]?) : w'.ownsRow B e s v n xs := by
  obtain ⟨h0, h1 | ⟨g, cap, cur, rfl, q1, q2, q3⟩⟩ := h
  · exact ⟨h0, .inl h1⟩
  · exact ⟨h0, .inr ⟨g, cap, cur, rfl, q1, (hk g cur rfl q2).trans q2, q3⟩⟩
theorem own_cells {w : World} {B s n : Nat} {e : TypeId} {v : Value} {xs : List Value} (h : w.ownsRow B e s v n xs) {k : Nat} (hk : v.ownBlock = some k) : ∃ cur, w.heap[k]? = some (.cells cur e (0, 0)) := by
  obtain ⟨h0, ⟨rfl, _⟩ | ⟨g, cap, cur, rfl, q1, q2, q3⟩⟩ := h
  · cases hk
  · cases hk; exact ⟨cur, q2⟩

/-- The number that a path's node has: the place of the entry with just those code points. -/
def numOf (cs : List (List Int)) (p : List Int) : Int := match cs.findIdx? (fun q => decide (q = p)) with
  | some i => i
  | none => -1
def nmL (L : List Ent) : List Int → Int := numOf (L.map (·.codes))
theorem numOf_none {cs : List (List Int)} {p : List Int} : numOf cs p = -1 ↔ p ∉ cs := by
  unfold numOf
  cases h : cs.findIdx? (fun q => decide (q = p)) with
  | none =>
    rw [List.findIdx?_eq_none_iff] at h
    simp only [true_iff]
    intro hp
    have := h p hp
    simp at this
  | some i =>
    rw [List.findIdx?_eq_some_iff_getElem] at h
    obtain ⟨hi, h1, _⟩ := h
    have : p ∈ cs := by have := List.getElem_mem hi; simp at h1; rwa [h1] at this
    constructor
    · intro e; simp at e
    · intro e; exact absurd this e
theorem numOf_at {cs : List (List Int)} {p : List Int} (h : p ∈ cs) : ∃ i : Nat, numOf cs p = i ∧ i < cs.length ∧ cs[i]? = some p := by
  unfold numOf
  cases h2 : cs.findIdx? (fun q => decide (q = p)) with
  | none =>
    rw [List.findIdx?_eq_none_iff] at h2
    have := h2 p h
    simp at this
  | some i =>
    rw [List.findIdx?_eq_some_iff_getElem] at h2
    obtain ⟨hi, h1, _⟩ := h2
    refine ⟨i, rfl, hi, ?_⟩
    simp at h1
    rw [List.getElem?_eq_getElem hi, h1]
theorem numOf_push {cs : List (List Int)} {x : List Int} (h : x ∉ cs) : numOf (cs ++ [x]) = upd (numOf cs) x (cs.length : Int) := by
  funext p
  by_cases e : p = x
  · subst e
    rw [upd_same]
    unfold numOf
    have : (cs ++ [p]).findIdx? (fun q => decide (q = p)) = some cs.length := by
      rw [List.findIdx?_eq_some_iff_getElem]
      refine ⟨by simp, by simp, fun j hj => ?_⟩
      have hj2 : j < cs.length := hj
      rw [List.getElem_append_left hj2]
      have : cs[j] ≠ p := fun e => h (by rw [← e]; exact List.getElem_mem hj2)
      simpa using this
    rw [this]
  · rw [upd_other e]
    unfold numOf
    rw [List.findIdx?_append]
    cases cs.findIdx? (fun q => decide (q = p)) with
    | some i => rfl
    | none =>
      have : ¬ x = p := fun e2 => e e2.symm
      simp [this]

/-- The entries' own row: each with its own code points and elements. -/
def EntsO (Q : Nat → Prop) (w : World) (ve : Value) (L : List Ent) : Prop :=
  ∃ vs : List (Value × Value), vs.length = L.length ∧ w.ownsRow 0 35 2 ve L.length (pc vs) ∧ (∀ k, ve.ownBlock = some k → Q k) ∧
    ∀ (i : Nat) (x : Ent) (p : Value × Value), L[i]? = some x → vs[i]? = some p → SO Q 21 1 w p.1 x.codes.length (rc x.codes) ∧ SO Q 66 4 w p.2 x.els.length (ec x.els)
theorem EntsO.heap {Q : Nat → Prop} {w w' : World} {ve : Value} {L : List Ent} (h : EntsO Q w ve L) (hk : ∀ k cur e, Q k → (e = 35 ∨ e = 21 ∨ e = 66) → w.heap[k]? = some (.cells cur e (0, 0)) → w'.heap[k]? = w.heap[k]?) : EntsO Q w' ve L := by
  obtain ⟨vs, h1, h2, h3, h4⟩ := h
  exact ⟨vs, h1, own_heap h2 (fun k cur e hb => hk k cur _ (h3 k e) (.inl rfl) hb), h3, fun i x p q1 q2 => ⟨(h4 i x p q1 q2).1.heap (fun k cur hq hb => hk k cur _ hq (.inr (.inl rfl)) hb), (h4 i x p q1 q2).2.heap (fun k cur hq hb => hk k cur _ hq (.inr (.inr rfl)) hb)⟩⟩
theorem EntsO.new {Q : Nat → Prop} {w w' : World} {ve : Value} {L : List Ent} (h : EntsO Q w ve L) (hg : w.grownBy w' none) : EntsO Q w' ve L := h.heap fun k cur e _ _ hb => hg.block k (lt_of_block hb) (by simp)
theorem EntsO.nil (Q : Nat → Prop) (w : World) : EntsO Q w (.slice none 0 0) [] := ⟨[], rfl, World.ownsRow_nil _ _ _ _, by simp [Value.ownBlock], fun i x p h => by simp at h⟩

/-- One entry more. -/
theorem EntsO.push {Q : Nat → Prop} {w X : World} {ve c e : Value} {L : List Ent} {x : Ent} (h : EntsO Q w ve L) (hg : w.grownBy X none) (hQ : ∀ k, w.heap.size ≤ k → Q k)
    (h1 : SO (fun k => w.heap.size ≤ k) 21 1 X c x.codes.length (rc x.codes)) (h2 : SO (fun k => w.heap.size ≤ k) 66 4 X e x.els.length (ec x.els)) (hc1 : c.oneCell' = true) (he1 : e.oneCell' = true)
    {b : Nat} (hb : Two X b c e) (hlen : L.length < 1000000000) :
    ∃ v' w', (Builtin.append_ #[22, 22] 22 #[ve, .slice (some ⟨b, 0, none⟩) 1 1]).run Try.prog X = .ok v' w' ∧ EntsO Q w' v' (L ++ [x]) ∧ GP Q X w' ∧ (∃ a n c, v' = .slice a n c) ∧ (∀ k, k < X.heap.size → ve.ownBlock ≠ some k → w'.heap[k]? = X.heap[k]?) := by
  obtain ⟨i0, hi, hz0, hz1, hz2⟩ := infoEnt_parts
  have hX := h.new hg
  obtain ⟨vs, q1, q2, q3, q4⟩ := hX
  obtain ⟨v', w', hrun, h5, h6, _, h7⟩ := run_append_own_at (P := Try.prog) X 0 22 22 35 i0 (.agg #[.slice none 0 0, .slice none 0 0]) 2 48 Try.underlying22 hi hz0 hz1 hz2 rfl (by decide) ve L.length (pc vs) q2 ⟨b, 0, none⟩ 1 1 [c, e] rfl (fun j u hj => by
      match j, hj with
      | 0, hj => simp at hj; subst hj; exact hb.c0
      | 1, hj => simp at hj; subst hj; exact hb.c1) (fun u hu => by simp at hu; rcases hu with rfl | rfl <;> assumption) (by unfold maxLen; omega) (by omega) (Nat.zero_le _)
  have e1 : pc (vs ++ [(c, e)]) = pc vs ++ [c, e] := by rw [pc_app]; rfl
  have hblk : ∀ k, k < X.heap.size → (∀ cur, X.heap[k]? ≠ some (.cells cur 35 (0, 0))) → w'.heap[k]? = X.heap[k]? := fun k hk hne => h6.block k hk (fun e2 => by
    obtain ⟨cur, hcur⟩ := own_cells q2 e2.symm
    exact hne cur hcur)
  have hI : ∀ (k : Nat) (cur : Array Value), X.heap[k]? = some (.cells cur 21 (0, 0)) → w'.heap[k]? = X.heap[k]? := fun k cur hk => hblk k (lt_of_block hk) (fun c2 e2 => by rw [hk] at e2; simp at e2)
  have hE : ∀ (k : Nat) (cur : Array Value), X.heap[k]? = some (.cells cur 66 (0, 0)) → w'.heap[k]? = X.heap[k]? := fun k cur hk => hblk k (lt_of_block hk) (fun c2 e2 => by rw [hk] at e2; simp at e2)
  refine ⟨v', w', hrun, ⟨vs ++ [(c, e)], by simp [q1], ?_, ?_, ?_⟩, GP.of h6 (fun k e2 => q3 k e2), ?_, fun k hk hne => ?_⟩
  · rw [e1, List.length_append]
    exact h5
  · intro k hk
    rcases h7 with e2 | e2
    · exact q3 k (by rw [← e2]; exact hk)
    · rw [hk] at e2
      cases e2
      exact hQ _ hg.size
  · intro i y p hi hp
    by_cases hlt : i < L.length
    · rw [List.getElem?_append_left hlt] at hi
      rw [List.getElem?_append_left (by omega)] at hp
      exact ⟨(q4 i y p hi hp).1.heap (fun k cur _ hk => hI k cur hk), (q4 i y p hi hp).2.heap (fun k cur _ hk => hE k cur hk)⟩
    · have hil : i = L.length := by
        have := (List.getElem?_eq_some_iff.1 hi).1
        simp at this
        omega
      subst hil
      rw [List.getElem?_append_right (Nat.le_refl _)] at hi
      rw [List.getElem?_append_right (by omega), q1] at hp
      simp at hi hp
      subst hi hp
      exact ⟨(h1.weak hQ).heap (fun k cur _ hk => hI k cur hk), (h2.weak hQ).heap (fun k cur _ hk => hE k cur hk)⟩
  · obtain ⟨a, c, e2⟩ := rowForm h5
    exact ⟨a, _, c, e2⟩
  · exact h6.block k hk (fun e2 => hne e2.symm)

/-- A trie in memory that holds L, asked n times; its blocks are in Q. -/
structure TrieAt (Q : Nat → Prop) (w : World) (t : Nat) (L : List Ent) (n : Int) (rt : Nat) (ve : Value) (nd mp : List Int → Option Nat) : Prop where
  tr : TrAt w t (some ⟨rt, 0, none⟩) ve n
  tq : Q t
  root : nd [] = some rt
  tree : TreeM Q w nd mp (nmL L)
  dom : ∀ p, nd p ≠ none ↔ p = [] ∨ ∃ x ∈ L, p <+: x.codes
  ents : EntsO Q w ve L
section
variable {Q : Nat → Prop} {w w' : World} {t : Nat} {L : List Ent} {n : Int} {rt : Nat} {ve : Value} {nd mp : List Int → Option Nat}
theorem TrieAt.heap (h : TrieAt Q w t L n rt ve nd mp) (hk : ∀ k, Q k → k < w.heap.size → w'.heap[k]? = w.heap[k]?) : TrieAt Q w' t L n rt ve nd mp :=
  { tr := (hk t h.tq h.tr.lt).trans h.tr
    tq := h.tq
    root := h.root
    tree := h.tree.heap (fun k hi => hk k (h.tree.q hi) (h.tree.lt hi))
    dom := h.dom
    ents := h.ents.heap (fun k _ _ hq _ hb => hk k hq (lt_of_block hb)) }
theorem TrieAt.new (h : TrieAt Q w t L n rt ve nd mp) (hg : w.grownBy w' none) : TrieAt Q w' t L n rt ve nd mp := h.heap fun k _ hk => hg.block k hk (by simp)
/-- Only the trie's own block is turned. -/
theorem TrieAt.own (h : TrieAt Q w t L n rt ve nd mp) (hk : ∀ k, k ≠ t → k < w.heap.size → w'.heap[k]? = w.heap[k]?) {m : Int} (ht : TrAt w' t (some ⟨rt, 0, none⟩) ve m) : TrieAt Q w' t L m rt ve nd mp :=
  { tr := ht
    tq := h.tq
    root := h.root
    tree := h.tree.heap (fun k hi => hk k (fun e => by subst e; exact h.tree.cells h.tr (by decide) hi) (h.tree.lt hi))
    dom := h.dom
    ents := h.ents.heap (fun k cur e _ he hb => hk k (fun e2 => by
      subst e2
      have := h.tr
      unfold TrAt at this
      rw [hb] at this
      simp at this
      rcases he with rfl | rfl | rfl <;> simp at this) (lt_of_block hb)) }
theorem TrieAt.counted (h : TrieAt Q w t L n rt ve nd mp) (m : Int) : TrieAt Q (w.setCell ⟨t, 2, none⟩ (.int .i64 m)) t L m rt ve nd mp :=
  h.own (fun k hk _ => Below.heap_setCell _ _ _ _ (fun e => hk (by simpa using e))) (h.tr.s2 m)
end
end Go.Proofs.Ytnnijcafnhhnoaa
