/-
  LAYER 9 (trie): which entries may be: check.
-/
import Derived.Test.YtlnplompnabmlaaRA06
import Derived.Test.YtlnplompnabmlaaRA05
import Derived.Test.YtlnplompnabmlaaRA07
import Derived.Maps.AppendAt
namespace Go.Proofs.Ytlnplompnabmlaa
set_option maxRecDepth 100000
open Go.RowKit Go.Lib
attribute [local go_sem] Oper.semAt_some

/-- Why an entry may not be; 0: it may. -/
def entErr (x : Ent) : Int := if x.codes.length = 0 ∨ 8 < x.codes.length ∨ x.codes.all scal = false then 90 else if 16 < x.els.length then 2 else if x.els.all elOk = false then 70 else 0

set_option maxHeartbeats 4000000 in
theorem tcheck_any (P : Nat → Prop) (vc ve : Value) (x : Ent) (w : World) (h : EntR P w vc ve x) :
    Calls Try.prog 42 #[.agg #[vc, ve]] w fun e w' => e = .returned (.int .i64 (entErr x)) ∧ w.grownBy w' none := by
  have gA := World.grownBy_alloc w (.cells #[vc, ve] 35) none
  have eA : Two (w.alloc (.cells #[vc, ve] 35)) w.heap.size vc ve := World.alloc_heap_new w _
  have hR := fun (h1 : x.codes.length < 1099511627776) w' (g : w.grownBy w' none) => contains_rc P vc x.codes w' (h.1.new g) h1
  have hE := fun (h2 : x.els.length < 1099511627776) w' (g : w.grownBy w' none) => contains_ec P ve x.els w' (h.2.new g) h2
  obtain ⟨a, c, rfl, hc, hm⟩ := h.1.form
  obtain ⟨b, d, rfl, hd, hm2⟩ := h.2.form
  obtain ⟨r, hr⟩ : ∃ r, r = entErr x := ⟨_, rfl⟩
  rw [← hr]
  unfold entErr at hr
  clear h
  generalize x.codes.length = n at hR gA eA hr hc ⊢
  generalize x.els.length = m at hE gA eA hr hd ⊢
  generalize x.codes.all scal = bc at hR hr
  generalize x.els.all elOk = be at hE hr
  have c0 := eA.c0
  have c1 := eA.c1
  have q1 := fun w' (g : (w.alloc (.cells #[.slice a n c, .slice b m d] 35)).grownBy w' none) => (eA.new g).c1
  unfold maxLen at hm hm2
  obtain ⟨W, hW⟩ : ∃ W, W = w.alloc (.cells #[.slice a n c, .slice b m d] 35) := ⟨_, rfl⟩
  rw [← hW] at gA c0 c1 q1
  clear eA
  by_cases k0 : n = 0
  · subst k0
    obtain rfl : r = 90 := by rw [hr]; simp
    clear hr hR hE q1
    go_enter Try.func42, Try.ntmps42
    go_wp2_with fail
    rw [← hW]
    clear hW
    go_wp2
    go_ret
    exact ⟨rfl, gA⟩
  have k0b : ((n : Int) == 0) = false := by simp; omega
  by_cases k1 : 8 < n
  · obtain rfl : r = 90 := by rw [hr]; simp [k1]
    clear hr hR hE q1
    go_enter Try.func42, Try.ntmps42
    go_wp2_with fail
    rw [← hW]
    clear hW
    go_wp2
    go_ret
    exact ⟨rfl, gA⟩
  have k1b : decide (8 < (n : Int)) = false := by simp; omega
  cases bc with
  | false =>
    obtain rfl : r = 90 := by rw [hr]; simp
    clear hr hE q1
    go_enter Try.func42, Try.ntmps42
    go_wp2_with fail
    rw [← hW]
    clear hW
    go_wp2_with (go_at_call 51; refine (hR (by omega) _ gA).mono ?_; rintro e w1 ⟨rfl, g1⟩)
    go_ret
    exact ⟨rfl, gA.trans g1⟩
  | true =>
    rw [if_neg (by simp; omega)] at hr
    by_cases k2 : 16 < m
    · obtain rfl : r = 2 := by rw [hr, if_pos k2]
      clear hr hE
      go_enter Try.func42, Try.ntmps42
      go_wp2_with fail
      rw [← hW]
      clear hW
      go_wp2_with (go_at_call 51; refine (hR (by omega) _ gA).mono ?_; rintro e w1 ⟨rfl, g1⟩; have d1 := q1 _ g1)
      go_ret
      exact ⟨rfl, gA.trans g1⟩
    rw [if_neg k2] at hr
    cases be
    all_goals
      simp at hr
      subst hr
      go_enter Try.func42, Try.ntmps42
      go_wp2_with fail
      rw [← hW]
      clear hW
      go_wp2_with first
        | (go_at_call 51; refine (hR (by omega) _ gA).mono ?_; rintro e w1 ⟨rfl, g1⟩; have d1 := q1 _ g1)
        | (go_at_call 53; refine (hE (by omega) _ (gA.trans g1)).mono ?_; rintro e w2 ⟨rfl, g2⟩)
      go_ret
      exact ⟨rfl, (gA.trans g1).trans g2⟩
theorem ent_fine {x : Ent} (h : entErr x = 0) : 1 ≤ x.codes.length ∧ x.codes.length ≤ 8 ∧ x.codes.all scal = true ∧ x.els.length ≤ 16 ∧ x.els.all elOk = true := by
  unfold entErr at h
  split at h
  · cases h
  · rename_i h1
    split at h
    · cases h
    · rename_i h2
      split at h
      · cases h
      · rename_i h3
        refine ⟨?_, ?_, ?_, by omega, by simpa using h3⟩
        · have : ¬ x.codes.length = 0 := fun e => h1 (.inl e)
          omega
        · have : ¬ 8 < x.codes.length := fun e => h1 (.inr (.inl e))
          omega
        · have : ¬ x.codes.all scal = false := fun e => h1 (.inr (.inr e))
          simpa using this
end Go.Proofs.Ytlnplompnabmlaa

/-
  LAYER 9 (trie): the counter of a trie that New made; how many entries.
-/
namespace Go.Proofs.Ytlnplompnabmlaa
set_option maxRecDepth 100000
open Go.RowKit Go.Lib
attribute [local go_sem] Oper.semAt_some

theorem load_any (t : Nat) (po : Option Addr) (ve : Value) (n : Int) (w : World) (h : TrAt w t po ve n) :
    Calls Try.prog 37 #[.pointer (some ⟨t, 2, none⟩)] w fun e w' => e = .returned (.int .i64 n) ∧ w = w' := by
  have c2 := h.c2
  have hr : (callFunc 48 #[.pointer (some ⟨t, 2, none⟩)]).run Try.prog w = .ok (.value (.int .i64 n)) w :=
    run_call_load Try.func48 (by kernel_rfl) (by kernel_rfl) (by kernel_rfl) .i64 (by kernel_rfl) c2
  clear h
  go_enter Try.func37, Try.ntmps37
  go_wp2
  go_ret
  exact ⟨rfl, rfl⟩
theorem count_made (t rt : Nat) (ve : Value) (n : Int) (w : World) (h : TrAt w t (some ⟨rt, 0, none⟩) ve n) (h0 : 0 ≤ n) (h1 : n < 4611686018427387904) :
    Calls Try.prog 31 #[.pointer (some ⟨t, 0, none⟩)] w fun e w' => e = .returned (.tuple #[]) ∧ w' = w.setCell ⟨t, 2, none⟩ (.int .i64 (n + 1)) := by
  have hm := isMade_made t rt ve n w h
  have hA := add_any t _ ve n w h h0 h1
  clear h
  go_enter Try.func31, Try.ntmps31
  go_wp2_with (first
    | (go_at_call 30; refine hm.mono ?_; rintro e w' ⟨rfl, rfl⟩)
    | (go_at_call 45; refine hA.mono ?_; rintro e w' ⟨rfl, rfl⟩))
  go_end0
  exact ⟨rfl, rfl⟩
theorem len_made (t rt : Nat) (a : Option Addr) (l c : Nat) (n : Int) (w : World) (h : TrAt w t (some ⟨rt, 0, none⟩) (.slice a l c) n) :
    Calls Try.prog 11 #[.pointer (some ⟨t, 0, none⟩)] w fun e w' => e = .returned (.int .i64 (l : Int)) ∧ w = w' := by
  have hm := isMade_made t rt _ n w h
  have c1 := h.c1
  clear h
  go_enter Try.func11, Try.ntmps11
  go_wp2_with (go_at_call 30; refine hm.mono ?_; rintro e w' ⟨rfl, rfl⟩)
  go_ret
  exact ⟨rfl, rfl⟩
theorem asked_made (t rt : Nat) (ve : Value) (n : Int) (w : World) (h : TrAt w t (some ⟨rt, 0, none⟩) ve n) :
    Calls Try.prog 15 #[.pointer (some ⟨t, 0, none⟩)] w fun e w' => e = .returned (.int .i64 n) ∧ w = w' := by
  have hm := isMade_made t rt ve n w h
  have hL := load_any t _ ve n w h
  clear h
  go_enter Try.func15, Try.ntmps15
  go_wp2_with (first
    | (go_at_call 30; refine hm.mono ?_; rintro e w' ⟨rfl, rfl⟩)
    | (go_at_call 37; refine hL.mono ?_; rintro e w' ⟨rfl, rfl⟩))
  go_ret
  exact ⟨rfl, rfl⟩
end Go.Proofs.Ytlnplompnabmlaa

/-
  LAYER 9 (trie): a whole trie in memory.
-/
namespace Go.Proofs.Ytlnplompnabmlaa
set_option maxRecDepth 100000
open Go.RowKit Go.Lib
attribute [local go_sem] Oper.semAt_some

/-- An append whose run is known, as one operation. -/
theorem wp_app_run {P : Program} {o : Oper} {a : Act} {w : World} {K : Act → World → Prop} {Q : Exit → Act → World → Prop} (sl x : Operand) (t : TypeId) (ho : o.op = .call { callee := .builtin .append, args := #[sl, x], argTypes := #[t, t] })
    (v xv : Value) (hs : a.eval sl = v) (hx : a.eval x = xv) {v' : Value} {w' : World} (hrun : (Builtin.append_ #[t, t] o.type #[v, xv]).run P w = .ok v' w') (h : K (a.put o.dst v') w') : Oper.wp P o a w K Q := by
  unfold Oper.wp execOp
  simp only [ho, resolve, invoke, builtin, Sem.run_bind, Sem.run_pure, Result.andThen_ok, List.map_toArray, List.map_cons, List.map_nil, hs, hx, hrun]
  exact h
theorem rowForm {w : World} {B s n : Nat} {e : TypeId} {v : Value} {xs : List Value} (h : w.ownsRow B e s v n xs) : ∃ a c, v = .slice a n c := by
  obtain ⟨_, ⟨rfl, hn⟩ | ⟨g, cap, cur, rfl, _⟩⟩ := h
  · exact ⟨none, 0, by rw [hn]⟩
  · exact ⟨_, _, rfl⟩
theorem own_heap {w w' : World} {B s n : Nat} {e : TypeId} {v : Value} {xs : List Value} (h : w.ownsRow B e s v n xs) (hk : ∀ k cur, v.ownBlock = some k → w.heap[k]? = some (.cells cur e (0, 0)) → w'.heap[k]? = w.heap[k]?) : w'.ownsRow B e s v n xs := by
  obtain ⟨h0, h1 | ⟨g, cap, cur, rfl, q1, q2, q3⟩⟩ := h
  · exact ⟨h0, .inl h1⟩
  · exact ⟨h0, .inr ⟨g, cap, cur, rfl, q1, (hk g cur rfl q2).trans q2, q3⟩⟩
theorem own_cells {w : World} {B s n : Nat} {e : TypeId} {v : Value} {xs : List Value} (h : w.ownsRow B e s v n xs) {k : Nat} (hk : v.ownBlock = some k) : ∃ cur, w.heap[k]? = some (.cells cur e (0, 0)) := by
  obtain ⟨h0, ⟨rfl, _⟩ | ⟨g, cap, cur, rfl, q1, q2, q3⟩⟩ := h
  · cases hk
  · cases hk; exact ⟨cur, q2⟩

/-- The number that a path's node has: the place of the entry with just those code points. -/
def numOf (cs : List (List Int)) (p : List Int) : Int := match cs.findIdx? (fun q => decide (q = p)) with
  | some i => i
  | none => -1
def nmL (L : List Ent) : List Int → Int := numOf (L.map (·.codes))
theorem numOf_none {cs : List (List Int)} {p : List Int} : numOf cs p = -1 ↔ p ∉ cs := by
  unfold numOf
  cases h : cs.findIdx? (fun q => decide (q = p)) with
  | none =>
    rw [List.findIdx?_eq_none_iff] at h
    simp only [true_iff]
    intro hp
    have := h p hp
    simp at this
  | some i =>
    rw [List.findIdx?_eq_some_iff_getElem] at h
    obtain ⟨hi, h1, _⟩ := h
    have : p ∈ cs := by have := List.getElem_mem hi; simp at h1; rwa [h1] at this
    constructor
    · intro e; simp at e
    · intro e; exact absurd this e
theorem numOf_at {cs : List (List Int)} {p : List Int} (h : p ∈ cs) : ∃ i : Nat, numOf cs p = i ∧ i < cs.length ∧ cs[i]? = some p := by
  unfold numOf
  cases h2 : cs.findIdx? (fun q => decide (q = p)) with
  | none =>
    rw [List.findIdx?_eq_none_iff] at h2
    have := h2 p h
    simp at this
  | some i =>
    rw [List.findIdx?_eq_some_iff_getElem] at h2
    obtain ⟨hi, h1, _⟩ := h2
    refine ⟨i, rfl, hi, ?_⟩
    simp at h1
    rw [List.getElem?_eq_getElem hi, h1]
theorem numOf_push {cs : List (List Int)} {x : List Int} (h : x ∉ cs) : numOf (cs ++ [x]) = upd (numOf cs) x (cs.length : Int) := by
  funext p
  by_cases e : p = x
  · subst e
    rw [upd_same]
    unfold numOf
    have : (cs ++ [p]).findIdx? (fun q => decide (q = p)) = some cs.length := by
      rw [List.findIdx?_eq_some_iff_getElem]
      refine ⟨by simp, by simp, fun j hj => ?_⟩
      have hj2 : j < cs.length := hj
      rw [List.getElem_append_left hj2]
      have : cs[j] ≠ p := fun e => h (by rw [← e]; exact List.getElem_mem hj2)
      simpa using this
    rw [this]
  · rw [upd_other e]
    unfold numOf
    rw [List.findIdx?_append]
    cases cs.findIdx? (fun q => decide (q = p)) with
    | some i => rfl
    | none =>
      have : ¬ x = p := fun e2 => e e2.symm
      simp [this]

/-- The entries' own row: each with its own code points and elements. -/
def EntsO (Q : Nat → Prop) (w : World) (ve : Value) (L : List Ent) : Prop :=
  ∃ vs : List (Value × Value), vs.length = L.length ∧ w.ownsRow 0 35 2 ve L.length (pc vs) ∧ (∀ k, ve.ownBlock = some k → Q k) ∧
    ∀ (i : Nat) (x : Ent) (p : Value × Value), L[i]? = some x → vs[i]? = some p → SO Q 21 1 w p.1 x.codes.length (rc x.codes) ∧ SO Q 66 4 w p.2 x.els.length (ec x.els)
theorem EntsO.heap {Q : Nat → Prop} {w w' : World} {ve : Value} {L : List Ent} (h : EntsO Q w ve L) (hk : ∀ k cur e, Q k → (e = 35 ∨ e = 21 ∨ e = 66) → w.heap[k]? = some (.cells cur e (0, 0)) → w'.heap[k]? = w.heap[k]?) : EntsO Q w' ve L := by
  obtain ⟨vs, h1, h2, h3, h4⟩ := h
  exact ⟨vs, h1, own_heap h2 (fun k cur e hb => hk k cur _ (h3 k e) (.inl rfl) hb), h3, fun i x p q1 q2 => ⟨(h4 i x p q1 q2).1.heap (fun k cur hq hb => hk k cur _ hq (.inr (.inl rfl)) hb), (h4 i x p q1 q2).2.heap (fun k cur hq hb => hk k cur _ hq (.inr (.inr rfl)) hb)⟩⟩
theorem EntsO.new {Q : Nat → Prop} {w w' : World} {ve : Value} {L : List Ent} (h : EntsO Q w ve L) (hg : w.grownBy w' none) : EntsO Q w' ve L := h.heap fun k cur e _ _ hb => hg.block k (lt_of_block hb) (by simp)
theorem EntsO.nil (Q : Nat → Prop) (w : World) : EntsO Q w (.slice none 0 0) [] := ⟨[], rfl, World.ownsRow_nil _ _ _ _, by simp [Value.ownBlock], fun i x p h => by simp at h⟩

/-- One entry more. -/
theorem EntsO.push {Q : Nat → Prop} {w X : World} {ve c e : Value} {L : List Ent} {x : Ent} (h : EntsO Q w ve L) (hg : w.grownBy X none) (hQ : ∀ k, w.heap.size ≤ k → Q k)
    (h1 : SO (fun k => w.heap.size ≤ k) 21 1 X c x.codes.length (rc x.codes)) (h2 : SO (fun k => w.heap.size ≤ k) 66 4 X e x.els.length (ec x.els)) (hc1 : c.oneCell' = true) (he1 : e.oneCell' = true)
    {b : Nat} (hb : Two X b c e) (hlen : L.length < 1000000000) :
    ∃ v' w', (Builtin.append_ #[22, 22] 22 #[ve, .slice (some ⟨b, 0, none⟩) 1 1]).run Try.prog X = .ok v' w' ∧ EntsO Q w' v' (L ++ [x]) ∧ GP Q X w' ∧ (∃ a n c, v' = .slice a n c) ∧ (∀ k, k < X.heap.size → ve.ownBlock ≠ some k → w'.heap[k]? = X.heap[k]?) := by
  obtain ⟨i0, hi, hz0, hz1, hz2⟩ := infoEnt_parts
  have hX := h.new hg
  obtain ⟨vs, q1, q2, q3, q4⟩ := hX
  obtain ⟨v', w', hrun, h5, h6, _, h7⟩ := run_append_own_at (P := Try.prog) X 0 22 22 35 i0 (.agg #[.slice none 0 0, .slice none 0 0]) 2 48 Try.underlying22 hi hz0 hz1 hz2 rfl (by decide) ve L.length (pc vs) q2 ⟨b, 0, none⟩ 1 1 [c, e] rfl (fun j u hj => by
      match j, hj with
      | 0, hj => simp at hj; subst hj; exact hb.c0
      | 1, hj => simp at hj; subst hj; exact hb.c1) (fun u hu => by simp at hu; rcases hu with rfl | rfl <;> assumption) (by unfold maxLen; omega) (by omega) (Nat.zero_le _)
  have e1 : pc (vs ++ [(c, e)]) = pc vs ++ [c, e] := by rw [pc_app]; rfl
  have hblk : ∀ k, k < X.heap.size → (∀ cur, X.heap[k]? ≠ some (.cells cur 35 (0, 0))) → w'.heap[k]? = X.heap[k]? := fun k hk hne => h6.block k hk (fun e2 => by
    obtain ⟨cur, hcur⟩ := own_cells q2 e2.symm
    exact hne cur hcur)
  have hI : ∀ (k : Nat) (cur : Array Value), X.heap[k]? = some (.cells cur 21 (0, 0)) → w'.heap[k]? = X.heap[k]? := fun k cur hk => hblk k (lt_of_block hk) (fun c2 e2 => by rw [hk] at e2; simp at e2)
  have hE : ∀ (k : Nat) (cur : Array Value), X.heap[k]? = some (.cells cur 66 (0, 0)) → w'.heap[k]? = X.heap[k]? := fun k cur hk => hblk k (lt_of_block hk) (fun c2 e2 => by rw [hk] at e2; simp at e2)
  refine ⟨v', w', hrun, ⟨vs ++ [(c, e)], by simp [q1], ?_, ?_, ?_⟩, GP.of h6 (fun k e2 => q3 k e2), ?_, fun k hk hne => ?_⟩
  · rw [e1, List.length_append]
    exact h5
  · intro k hk
    rcases h7 with e2 | e2
    · exact q3 k (by rw [← e2]; exact hk)
    · rw [hk] at e2
      cases e2
      exact hQ _ hg.size
  · intro i y p hi hp
    by_cases hlt : i < L.length
    · rw [List.getElem?_append_left hlt] at hi
      rw [List.getElem?_append_left (by omega)] at hp
      exact ⟨(q4 i y p hi hp).1.heap (fun k cur _ hk => hI k cur hk), (q4 i y p hi hp).2.heap (fun k cur _ hk => hE k cur hk)⟩
    · have hil : i = L.length := by
        have := (List.getElem?_eq_some_iff.1 hi).1
        simp at this
        omega
      subst hil
      rw [List.getElem?_append_right (Nat.le_refl _)] at hi
      rw [List.getElem?_append_right (by omega), q1] at hp
      simp at hi hp
      subst hi hp
      exact ⟨(h1.weak hQ).heap (fun k cur _ hk => hI k cur hk), (h2.weak hQ).heap (fun k cur _ hk => hE k cur hk)⟩
  · obtain ⟨a, c, e2⟩ := rowForm h5
    exact ⟨a, _, c, e2⟩
  · exact h6.block k hk (fun e2 => hne e2.symm)

/-- A trie in memory that holds L, asked n times; its blocks are in Q. -/
structure TrieAt (Q : Nat → Prop) (w : World) (t : Nat) (L : List Ent) (n : Int) (rt : Nat) (ve : Value) (nd mp : List Int → Option Nat) : Prop where
  tr : TrAt w t (some ⟨rt, 0, none⟩) ve n
  tq : Q t
  root : nd [] = some rt
  tree : TreeM Q w nd mp (nmL L)
  dom : ∀ p, nd p ≠ none ↔ p = [] ∨ ∃ x ∈ L, p <+: x.codes
  ents : EntsO Q w ve L
section
variable {Q : Nat → Prop} {w w' : World} {t : Nat} {L : List Ent} {n : Int} {rt : Nat} {ve : Value} {nd mp : List Int → Option Nat}
theorem TrieAt.heap (h : TrieAt Q w t L n rt ve nd mp) (hk : ∀ k, Q k → k < w.heap.size → w'.heap[k]? = w.heap[k]?) : TrieAt Q w' t L n rt ve nd mp :=
  { tr := (hk t h.tq h.tr.lt).trans h.tr
    tq := h.tq
    root := h.root
    tree := h.tree.heap (fun k hi => hk k (h.tree.q hi) (h.tree.lt hi))
    dom := h.dom
    ents := h.ents.heap (fun k _ _ hq _ hb => hk k hq (lt_of_block hb)) }
theorem TrieAt.new (h : TrieAt Q w t L n rt ve nd mp) (hg : w.grownBy w' none) : TrieAt Q w' t L n rt ve nd mp := h.heap fun k _ hk => hg.block k hk (by simp)
/-- Only the trie's own block is turned. -/
theorem TrieAt.own (h : TrieAt Q w t L n rt ve nd mp) (hk : ∀ k, k ≠ t → k < w.heap.size → w'.heap[k]? = w.heap[k]?) {m : Int} (ht : TrAt w' t (some ⟨rt, 0, none⟩) ve m) : TrieAt Q w' t L m rt ve nd mp :=
  { tr := ht
    tq := h.tq
    root := h.root
    tree := h.tree.heap (fun k hi => hk k (fun e => by subst e; exact h.tree.cells h.tr (by decide) hi) (h.tree.lt hi))
    dom := h.dom
    ents := h.ents.heap (fun k cur e _ he hb => hk k (fun e2 => by
      subst e2
      have := h.tr
      unfold TrAt at this
      rw [hb] at this
      simp at this
      rcases he with rfl | rfl | rfl <;> simp at this) (lt_of_block hb)) }
theorem TrieAt.counted (h : TrieAt Q w t L n rt ve nd mp) (m : Int) : TrieAt Q (w.setCell ⟨t, 2, none⟩ (.int .i64 m)) t L m rt ve nd mp :=
  h.own (fun k hk _ => Below.heap_setCell _ _ _ _ (fun e => hk (by simpa using e))) (h.tr.s2 m)
end
end Go.Proofs.Ytlnplompnabmlaa

/-
  LAYER 9 (trie): add: one entry more, or why not.
-/
namespace Go.Proofs.Ytlnplompnabmlaa
set_option maxRecDepth 100000
open Go.RowKit Go.Lib
attribute [local go_sem] Oper.semAt_some

/-- Why an entry may not be added; 0: it may. -/
def addErr (L : List Ent) (x : Ent) : Int := if entErr x ≠ 0 then entErr x else if x.codes ∈ L.map (·.codes) then 91 else 0

def AddQ (Q : Nat → Prop) (t : Nat) (L : List Ent) (n : Int) (x : Ent) (w w' : World) : Prop :=
  GP Q w w' ∧ (addErr L x = 0 → ∃ rt ve nd mp, TrieAt Q w' t (L ++ [x]) n rt ve nd mp)

theorem add_fin {Q : Nat → Prop} {w V w4 : World} {t q : Nat} {L : List Ent} {x : Ent} {n : Int} {rt : Nat} {ve vc ve0 ca cb : Value} {nd mp : List Int → Option Nat} (hw : GP Q w V) (hT : TrAt V t (some ⟨rt, 0, none⟩) ve n) (tq : Q t) (e3 : Two V q vc ve0)
    (hEn : EntsO Q V ve L) (hTr : TreeM Q V nd mp (nmL (L ++ [x]))) (hroot : nd [] = some rt) (hdom : ∀ p, nd p ≠ none ↔ p = [] ∨ ∃ y ∈ L ++ [x], p <+: y.codes) (hvq : ve.ownBlock ≠ some q) (hQ : ∀ k, V.heap.size ≤ k → Q k)
    (g4 : V.grownBy w4 none) (o1 : SO (fun k => V.heap.size ≤ k) 21 1 w4 ca x.codes.length (rc x.codes)) (o2 : SO (fun k => V.heap.size ≤ k) 66 4 w4 cb x.els.length (ec x.els)) (hL : L.length < 1000000) (hc1 : ca.oneCell' = true) (he1 : cb.oneCell' = true) :
    ∃ a' n' c' w5, (Builtin.append_ #[22, 22] 22 #[ve, .slice (some ⟨w4.heap.size, 0, none⟩) 1 1]).run Try.prog (w4.alloc (.cells #[ca, cb] 35)) = .ok (.slice a' n' c') w5 ∧ TrAt w5 t (some ⟨rt, 0, none⟩) ve n ∧ Two w5 q vc ve0 ∧
      Two (w5.setCell ⟨t, 1, none⟩ (.slice a' n' c')) q vc ve0 ∧ GP Q w (w5.setCell ⟨t, 1, none⟩ (.slice a' n' c')) ∧ TrieAt Q (w5.setCell ⟨t, 1, none⟩ (.slice a' n' c')) t (L ++ [x]) n rt (.slice a' n' c') nd mp := by
  have gX := g4.trans (World.grownBy_alloc w4 (.cells #[ca, cb] 35) none)
  have gA := World.grownBy_alloc w4 (.cells #[ca, cb] 35) none
  have hb : Two (w4.alloc (.cells #[ca, cb] 35)) w4.heap.size ca cb := World.alloc_heap_new w4 _
  obtain ⟨v', w5, hrun, h5, h6, ⟨a', n', c', rfl⟩, h7⟩ := hEn.push gX hQ (o1.new gA) (o2.new gA) hc1 he1 hb (by omega)
  have hvt : ve.ownBlock ≠ some t := fun e => by
    obtain ⟨vs, _, h2, _⟩ := hEn
    obtain ⟨cur, hcur⟩ := own_cells h2 e
    have := hT
    unfold TrAt at this
    rw [hcur] at this
    simp at this
  have hk : ∀ k, k < V.heap.size → ve.ownBlock ≠ some k → w5.heap[k]? = V.heap[k]? := fun k hk hne => (h7 k (Nat.lt_of_lt_of_le hk gX.size) hne).trans (gX.block k hk (by simp))
  have hT5 : TrAt w5 t (some ⟨rt, 0, none⟩) ve n := (hk t hT.lt hvt).trans hT
  have e5 : Two w5 q vc ve0 := (hk q e3.lt hvq).trans e3
  have hs : ∀ k, k ≠ t → (w5.setCell ⟨t, 1, none⟩ (.slice a' n' c')).heap[k]? = w5.heap[k]? := fun k hk => Below.heap_setCell _ _ _ _ (fun e => hk (by simpa using e))
  have hqt : q ≠ t := fun e => by
    subst e
    have h8 := e3
    unfold Two at h8
    rw [show V.heap[q]? = _ from hT] at h8
    simp at h8
  have gS : GP Q w5 (w5.setCell ⟨t, 1, none⟩ (.slice a' n' c')) := GP.of (gset (World.grownBy.refl w5 (some t)) 1 (.slice a' n' c')) (fun k e => by cases e; exact tq)
  refine ⟨a', n', c', w5, hrun, hT5, e5, (hs q hqt).trans e5, ((hw.trans (GP.new gX)).trans h6).trans gS, ?_⟩
  have hin : ∀ k, InT nd mp k → ve.ownBlock ≠ some k ∧ k ≠ t := fun k hin => ⟨fun e => by
    obtain ⟨vs, _, h2, _⟩ := hEn
    obtain ⟨cur, hcur⟩ := own_cells h2 e
    exact hTr.cells hcur (by decide) hin, fun e => by subst e; exact hTr.cells hT (by decide) hin⟩
  exact {
    tr := hT5.s1 _
    tq := tq
    root := hroot
    tree := hTr.heap (fun k hi => (hs k (hin k hi).2).trans (hk k (hTr.lt hi) (hin k hi).1))
    dom := hdom
    ents := h5.heap (fun k cur e _ he hb => hs k (fun e2 => by
      subst e2
      have h8 := hT5
      unfold TrAt at h8
      rw [hb] at h8
      simp at h8
      rcases he with rfl | rfl | rfl <;> simp at h8)) }

set_option maxHeartbeats 8000000 in
theorem add_entry (P Q : Nat → Prop) (vc ve0 : Value) (x : Ent) (t : Nat) (L : List Ent) (n : Int) (rt : Nat) (ve : Value) (nd mp : List Int → Option Nat) (w : World) (h : TrieAt Q w t L n rt ve nd mp) (hx : EntR P w vc ve0 x)
    (hP : ∀ k, P k → ¬ Q k) (hQ : ∀ k, w.heap.size ≤ k → Q k) (hL : L.length < 1000000) :
    Calls Try.prog 27 #[.pointer (some ⟨t, 0, none⟩), .agg #[vc, ve0]] w fun e w' => e = .returned (.int .i64 (addErr L x)) ∧ AddQ Q t L n x w w' := by
  have gA := World.grownBy_alloc w (.cells #[vc, ve0] 35) none
  have sA : (w.alloc (.cells #[vc, ve0] 35)).heap.size = w.heap.size + 1 := by simp
  have eA : Two (w.alloc (.cells #[vc, ve0] 35)) w.heap.size vc ve0 := World.alloc_heap_new w _
  obtain ⟨W, hW⟩ : ∃ W, W = w.alloc (.cells #[vc, ve0] 35) := ⟨_, rfl⟩
  rw [← hW] at gA sA eA
  have hC := tcheck_any P vc ve0 x W (hx.new gA)
  have c0 := eA.c0
  have c1 := eA.c1
  by_cases he : entErr x = 0
  · rw [he] at hC
    obtain ⟨r, hr⟩ : ∃ r, r = addErr L x := ⟨_, rfl⟩
    rw [← hr]
    replace hr := Lib.hid hr
    go_enter Try.func27, Try.ntmps27
    go_wp2_with fail
    rw [← hW]
    clear hW
    go_wp2_with (go_at_call 42; refine hC.mono ?_; rintro e w1 ⟨rfl, g1⟩)
    clear hC
    obtain ⟨V, hV⟩ : ∃ V, V = w1.drew := ⟨_, rfl⟩
    have gV : W.grownBy V none := by rw [hV]; exact gdrew g1
    have gwV := gA.trans gV
    have eV := eA.new gV
    have HV := h.new gwV
    have hxV := hx.1.new gwV
    have b0 := HV.tr.c0
    have b1 := eV.c0
    refine wp_region_held_drew (S := fun w' => w'.cell? ⟨t, 0, none⟩ = some (.pointer (some ⟨rt, 0, none⟩)) ∧ w'.cell? ⟨w.heap.size, 0, none⟩ = some vc) (by kernel_rfl) (by rw [← hV]; exact ⟨b0, b1⟩) (fun hS0 => ?_)
    rw [← hV] at hS0 ⊢
    clear hV g1
    refine wpAnyH_take (i := 0) (oi := ⟨some 12, _, _, _, _, _⟩) (v := ?_) rfl (by kernel_rfl) (by kernel_rfl) (by kernel_rfl) (fun _ _ _ h => h) (Or.inl ⟨by rfl, ?_⟩) (by assumption) ?_
    rotate_left
    · (intro w hSw; (try dsimp only at hSw); go_simp; try with_reducible rfl)
    try simp only [Act.put, List.setIfInBounds_toArray, List.set_cons_zero, List.set_cons_succ]
    refine wpAnyH_take (i := 1) (oi := ⟨some 13, _, _, _, _, _⟩) (v := ?_) rfl (by kernel_rfl) (by kernel_rfl) (by kernel_rfl) (fun _ _ _ h => h) (Or.inl ⟨by rfl, ?_⟩) (by assumption) ?_
    rotate_left
    · (intro w hSw; (try dsimp only at hSw); go_simp; try with_reducible rfl)
    try simp only [Act.put, List.setIfInBounds_toArray, List.set_cons_zero, List.set_cons_succ]
    refine wpAnyH_take (i := 2) (oi := ⟨some 14, _, _, _, _, _⟩) (v := ?_) rfl (by kernel_rfl) (by kernel_rfl) (by kernel_rfl) (fun _ _ _ h => h) (Or.inl ⟨by rfl, ?_⟩) (by assumption) ?_
    rotate_left
    · (intro w hSw; (try dsimp only at hSw); go_simp; try with_reducible rfl)
    try simp only [Act.put, List.setIfInBounds_toArray, List.set_cons_zero, List.set_cons_succ]
    refine wpAnyH_take (i := 3) (oi := ⟨some 15, _, _, _, _, _⟩) (v := ?_) rfl (by kernel_rfl) (by kernel_rfl) (by kernel_rfl) (fun _ _ _ h => h) (Or.inl ⟨by rfl, ?_⟩) (by assumption) ?_
    rotate_left
    · (intro w hSw; (try dsimp only at hSw); go_simp; try with_reducible rfl)
    try simp only [Act.put, List.setIfInBounds_toArray, List.set_cons_zero, List.set_cons_succ]
    refine wpAnyH_take (i := 4) (oi := ⟨some 16, _, _, _, _, _⟩) (v := ?_) rfl (by kernel_rfl) (by kernel_rfl) (by kernel_rfl) (fun _ _ _ h => h) (Or.inl ⟨by rfl, ?_⟩) (by assumption) ?_
    rotate_left
    · (intro w hSw; (try dsimp only at hSw); go_simp; try with_reducible rfl)
    try simp only [Act.put, List.setIfInBounds_toArray, List.set_cons_zero, List.set_cons_succ]
    refine wpAnyH_take (i := 5) (oi := ⟨some 17, _, _, _, _, _⟩) (v := ?_) rfl (by kernel_rfl) (by kernel_rfl) (by kernel_rfl) (fun _ _ _ h => h) (Or.inl ⟨by rfl, ?_⟩) (by assumption) ?_
    rotate_left
    · (intro w hSw; (try dsimp only at hSw); go_simp; try with_reducible rfl)
    try simp only [Act.put, List.setIfInBounds_toArray, List.set_cons_zero, List.set_cons_succ]
    refine wpAnyH_ready (rs := [6]) (by kernel_rfl) (by simp) ?_
    refine AllReadyH.cons rfl (fun K hK => ?_) AllReadyH.nil
    go_simp
    refine (grow_any P Q vc x.codes rt nd mp (nmL L) V hxV hP (fun k hk => hQ k (Nat.le_trans gwV.size hk)) HV.tree HV.root).mono ?_
    rintro e w2 ⟨b, nd', mp', rfl, hb, hG⟩
    have hnt : ¬ InT nd mp t := HV.tree.cells HV.tr (by decide)
    have hnb : ¬ InT nd mp w.heap.size := HV.tree.cells eV (by decide)
    have t2 : TrAt w2 t (some ⟨rt, 0, none⟩) ve n := (hG.gp.2.2.2.2 t HV.tr.lt hnt).trans HV.tr
    have e2 : Two w2 w.heap.size vc ve0 := (hG.gp.2.2.2.2 _ eV.lt hnb).trans eV
    have hS2 : w2.cell? ⟨t, 0, none⟩ = some (.pointer (some ⟨rt, 0, none⟩)) ∧ w2.cell? ⟨w.heap.size, 0, none⟩ = some vc := ⟨t2.c0, e2.c0⟩
    refine hK.out _ _ hS2 (fun _ => ?_)
    clear hK
    refine wpAnyH_ready (rs := [7]) (by kernel_rfl) (by simp) ?_
    refine AllReadyH.cons rfl (fun K hK => ?_) AllReadyH.nil
    go_simp
    refine hK.out _ _ hS2 (fun _ => ?_)
    clear hK
    refine wpAnyH_done (by kernel_rfl) ?_ _
    have hN := (hG.tree.node _ _ hb).2
    have hEnd := ends_any b _ _ w2 hN
    have hgw2 : GP Q w w2 := (GP.new gwV).trans (hG.gp.mono (fun k hk => HV.tree.q hk))
    have hEn : EntsO Q w2 ve L := HV.ents.heap (fun k cur e hq hee hbk => hG.gp.2.2.2.2 k (lt_of_block hbk) (HV.tree.cells hbk (by rcases hee with rfl | rfl | rfl <;> decide)))
    by_cases htw : x.codes ∈ L.map (·.codes)
    · have hnm : (nmL L x.codes != -1) = true := by
        have := (not_congr (numOf_none (cs := L.map (·.codes)) (p := x.codes))).2 (by simpa using htw)
        simpa [nmL] using this
      rw [hnm] at hEnd
      obtain rfl : r = 91 := by rw [hr.out]; unfold addErr; rw [if_neg (by simpa using he), if_pos htw]
      have hfin : AddQ Q t L n x w w2 := ⟨hgw2, fun e => by rw [← hr.out] at e; cases e⟩
      replace hfin := Lib.hid hfin
      clear hN hG htw hnm
      go_wp2_with (go_at_call 33; refine hEnd.mono ?_; rintro e w3 ⟨rfl, rfl⟩)
      go_ret
      exact ⟨rfl, hfin.out⟩
    · have hnm : (nmL L x.codes != -1) = false := by
        have := (numOf_none (cs := L.map (·.codes)) (p := x.codes)).2 htw
        simp [nmL, this]
      have hnm1 : nmL L x.codes = -1 := numOf_none.2 htw
      rw [hnm] at hEnd
      obtain rfl : r = 0 := by rw [hr.out]; unfold addErr; rw [if_neg (by simpa using he), if_neg htw]
      have hve : ∃ a c, ve = .slice a L.length c := by obtain ⟨vs, _, h2, _⟩ := hEn; exact rowForm h2
      have hvq : ve.ownBlock ≠ some w.heap.size := fun e => by
        obtain ⟨vs, _, h2, _⟩ := h.ents
        obtain ⟨cur, hcur⟩ := own_cells h2 e
        have := lt_of_block hcur
        omega
      have hdom : ∀ p, nd' p ≠ none ↔ p = [] ∨ ∃ y ∈ L ++ [x], p <+: y.codes := fun p => by
        rw [hG.dom p, HV.dom p]
        simp only [List.mem_append, List.mem_singleton]
        constructor
        · rintro ((e | ⟨y, hy, e⟩) | e)
          · exact .inl e
          · exact .inr ⟨y, .inl hy, e⟩
          · exact .inr ⟨x, .inr rfl, e⟩
        · rintro (e | ⟨y, hy | rfl, e⟩)
          · exact .inl (.inl e)
          · exact .inl (.inr ⟨y, hy, e⟩)
          · exact .inr e
      have hroot : nd' [] = some rt := hG.ext _ _ HV.root
      have hnum := hG.tree.number hb (L.length : Int)
      have hnmE : upd (nmL L) x.codes (L.length : Int) = nmL (L ++ [x]) := by
        unfold nmL
        rw [List.map_append]
        have := numOf_push (cs := L.map (·.codes)) htw
        rw [List.length_map] at this
        exact this.symm
      rw [hnmE] at hnum
      have hbt : b ≠ t := fun e => by subst e; exact hG.tree.cells t2 (by decide) ⟨_, .inl hb⟩
      have hbq : b ≠ w.heap.size := fun e => by subst e; exact hG.tree.cells e2 (by decide) ⟨_, .inl hb⟩
      have hbQ : Q b := (hG.tree.node _ _ hb).1
      have n0 := hN.c0
      have nf := hN.free 0
      have t1 := t2.c1
      obtain ⟨ea, ec', rfl⟩ := hve
      obtain ⟨W3, hW3⟩ : ∃ W3, W3 = w2.setCell ⟨b, 0, none⟩ (.int .i64 (L.length : Int)) := ⟨_, rfl⟩
      have hs3 : ∀ k, k ≠ b → W3.heap[k]? = w2.heap[k]? := fun k hk => by rw [hW3]; exact Below.heap_setCell _ _ _ _ (fun e => hk (by simpa using e))
      have hsz3 : W3.heap.size = w2.heap.size := by rw [hW3]; simp
      have hgw3 : GP Q w W3 := by rw [hW3]; exact hgw2.trans (GP.of (gset (World.grownBy.refl w2 (some b)) 0 (.int .i64 (L.length : Int))) (fun k e => by cases e; exact hbQ))
      rw [← hW3] at hnum
      have t3 : TrAt W3 t (some ⟨rt, 0, none⟩) (.slice ea L.length ec') n := (hs3 t hbt.symm).trans t2
      have e3 : Two W3 w.heap.size vc ve0 := (hs3 _ hbq.symm).trans e2
      have hEn3 : EntsO Q W3 (.slice ea L.length ec') L := hEn.heap (fun k cur e hq hee hbk => hs3 k (fun e4 => by
        subst e4
        exact hG.tree.cells hbk (by rcases hee with rfl | rfl | rfl <;> decide) ⟨_, .inl hb⟩))
      have hx3 : EntR P W3 vc ve0 x := hx.heap (fun k hp hk => hgw3.2.2.2.2 k hk (hP k hp))
      have hQ3 : ∀ k, W3.heap.size ≤ k → Q k := fun k hk => hQ k (Nat.le_trans hgw3.2.2.2.1 hk)
      have hcop := fun V (g : W3.grownBy V none) => copied_any P vc ve0 x V (hx3.new g) (by have := ent_fine he; omega) (by have := ent_fine he; omega)
      have hnn : ((L.length : Int)) = (L.length : Int) := rfl
      have hadd := fun V (g : W3.grownBy V none) w4 ca cb => add_fin (w := w) (w4 := w4) (ca := ca) (cb := cb) (hgw3.trans (GP.new g)) (t3.s1 (.slice ea L.length ec') |> fun _ => (g.block t t3.lt (by simp)).trans t3) h.tq (e3.new g) (hEn3.new g) (hnum.new g) hroot hdom hvq (fun k hk => hQ3 k (Nat.le_trans g.size hk))
      replace hadd := Lib.hid hadd
      have hrz := Lib.hid hr.out
      clear hnum hEn3 hx3 hEn hG hxV HV hN hnm1 hnm htw hnmE hdom hnn eV e2 t2 hgw2 hgw3 hr
      go_wp2_with (go_at_call 33; refine hEnd.mono ?_; rintro e w3 ⟨rfl, rfl⟩)
      rw [← hW3]
      clear hEnd n0 nf t1 hW3 hs3 hsz3
      obtain ⟨V, hV⟩ : ∃ V, V = W3.drew := ⟨_, rfl⟩
      have gV : W3.grownBy V none := by rw [hV]; exact gdrew (World.grownBy.refl W3 none)
      have eV := e3.new gV
      have tV : TrAt V t (some ⟨rt, 0, none⟩) (.slice ea L.length ec') n := (gV.block t t3.lt (by simp)).trans t3
      have tc : ∀ X, V.grownBy X none → X.cell? ⟨t, 1, none⟩ = some (.slice ea L.length ec') := fun X g => TrAt.c1 ((g.block t tV.lt (by simp)).trans tV)
      have tcV := tc V (World.grownBy.refl V none)
      have hS : ∀ X, V.grownBy X none → X.cell? ⟨w.heap.size, 0, none⟩ = some vc ∧ X.cell? ⟨w.heap.size, 1, none⟩ = some ve0 := fun X g => ⟨(eV.new g).c0, (eV.new g).c1⟩
      have hcopV := hcop V gV
      have haddV := Lib.hid (hadd.out V gV)
      clear hcop hadd
      refine wp_region_held_drew (S := fun X => X.cell? ⟨w.heap.size, 0, none⟩ = some vc ∧ X.cell? ⟨w.heap.size, 1, none⟩ = some ve0) (by kernel_rfl) (by rw [← hV]; exact hS V (World.grownBy.refl V none)) (fun hS0 => ?_)
      rw [← hV] at hS0 ⊢
      clear hV gV t3 e3 tV
      refine wpAnyH_take (i := 0) (oi := ⟨some 29, _, _, _, _, _⟩) (v := ?_) rfl (by kernel_rfl) (by kernel_rfl) (by kernel_rfl) (fun _ _ _ h => h) (Or.inl ⟨by rfl, ?_⟩) (by assumption) ?_
      rotate_left
      · (intro w hSw; (try dsimp only at hSw); go_simp; try with_reducible rfl)
      try simp only [Act.put, List.setIfInBounds_toArray, List.set_cons_zero, List.set_cons_succ]
      refine wpAnyH_take (i := 1) (oi := ⟨some 30, _, _, _, _, _⟩) (v := ?_) rfl (by kernel_rfl) (by kernel_rfl) (by kernel_rfl) (fun _ _ _ h => h) (Or.inl ⟨by rfl, ?_⟩) (by assumption) ?_
      rotate_left
      · (intro w hSw; (try dsimp only at hSw); go_simp; try with_reducible rfl)
      try simp only [Act.put, List.setIfInBounds_toArray, List.set_cons_zero, List.set_cons_succ]
      refine wpAnyH_take (i := 2) (oi := ⟨some 31, _, _, _, _, _⟩) (v := ?_) rfl (by kernel_rfl) (by kernel_rfl) (by kernel_rfl) (fun _ _ _ h => h) (Or.inl ⟨by rfl, ?_⟩) (by assumption) ?_
      rotate_left
      · (intro w hSw; (try dsimp only at hSw); go_simp; try with_reducible rfl)
      try simp only [Act.put, List.setIfInBounds_toArray, List.set_cons_zero, List.set_cons_succ]
      refine wpAnyH_take (i := 3) (oi := ⟨some 32, _, _, _, _, _⟩) (v := ?_) rfl (by kernel_rfl) (by kernel_rfl) (by kernel_rfl) (fun _ _ _ h => h) (Or.inl ⟨by rfl, ?_⟩) (by assumption) ?_
      rotate_left
      · (intro w hSw; (try dsimp only at hSw); go_simp; try with_reducible rfl)
      try simp only [Act.put, List.setIfInBounds_toArray, List.set_cons_zero, List.set_cons_succ]
      refine wpAnyH_take (i := 5) (oi := ⟨some 34, _, _, _, _, _⟩) (v := ?_) rfl (by kernel_rfl) (by kernel_rfl) (by kernel_rfl) (fun _ _ _ h => h) (Or.inl ⟨by rfl, ?_⟩) (by assumption) ?_
      rotate_left
      · (intro w hSw; (try dsimp only at hSw); go_simp; try with_reducible rfl)
      try simp only [Act.put, List.setIfInBounds_toArray, List.set_cons_zero, List.set_cons_succ]
      refine wpAnyH_ready (rs := [4, 6]) (by kernel_rfl) (by simp) ?_
      refine AllReadyH.cons rfl (fun K hK => ?_) (AllReadyH.cons rfl (fun K hK => ?_) AllReadyH.nil)
      · go_simp
        refine hK.out _ _ hS0 (fun _ => ?_)
        clear hK
        refine wpAnyH_ready (rs := [6]) (by kernel_rfl) (by simp) ?_
        refine AllReadyH.cons rfl (fun K hK => ?_) AllReadyH.nil
        go_simp
        refine hcopV.mono ?_
        rintro e w4 ⟨ca, cb, rfl, o1, o2, g4⟩
        have hfin := haddV.out w4 _ _ g4 o1 o2 hL rfl rfl
        clear haddV hcopV o1 o2
        have gX := g4.trans (World.grownBy_alloc w4 (.cells #[.slice ca x.codes.length x.codes.length, .slice cb x.els.length x.els.length] 35) none)
        have hSX := hS _ gX
        have hS4 := hS _ g4
        have tc4 := tc _ g4
        have tcX := tc _ gX
        obtain ⟨a', n', c', w5, hrun, t5, e5, e6, gF, hF⟩ := hfin
        have hS5 : w5.cell? ⟨w.heap.size, 0, none⟩ = some vc ∧ w5.cell? ⟨w.heap.size, 1, none⟩ = some ve0 := ⟨e5.c0, e5.c1⟩
        have hS6 : (w5.setCell ⟨t, 1, none⟩ (.slice a' n' c')).cell? ⟨w.heap.size, 0, none⟩ = some vc ∧ (w5.setCell ⟨t, 1, none⟩ (.slice a' n' c')).cell? ⟨w.heap.size, 1, none⟩ = some ve0 := ⟨e6.c0, e6.c1⟩
        have p1 := t5.c1
        have p2 := t5.free 1
        refine hK.out _ _ hS4 (fun _ => ?_)
        clear hK
        refine wpAnyH_ready (rs := [7]) (by kernel_rfl) (by simp) ?_
        refine AllReadyH.cons rfl (fun K hK => ?_) AllReadyH.nil
        go_simp
        refine hK.out _ _ hSX (fun _ => ?_)
        clear hK
        refine wpAnyH_ready (rs := [8]) (by kernel_rfl) (by simp) ?_
        refine AllReadyH.cons rfl (fun K hK => ?_) AllReadyH.nil
        rw [if_pos (by rfl)]
        refine wp_app_run _ _ _ rfl _ _ rfl rfl hrun ?_
        refine hK.out _ _ hS5 (fun _ => ?_)
        clear hK
        refine wpAnyH_take (i := 9) (oi := ⟨some 38, _, _, _, _, _⟩) (v := ?_) rfl (by kernel_rfl) (by kernel_rfl) (by kernel_rfl) (fun _ _ _ h => h) (Or.inl ⟨by rfl, ?_⟩) (by assumption) ?_
        rotate_left
        · (intro w hSw; (try dsimp only at hSw); go_simp; try with_reducible rfl)
        try simp only [Act.put, List.setIfInBounds_toArray]
        refine wpAnyH_take (i := 10) (oi := ⟨some 39, _, _, _, _, _⟩) (v := ?_) rfl (by kernel_rfl) (by kernel_rfl) (by kernel_rfl) (fun _ _ _ h => h) (Or.inl ⟨by rfl, ?_⟩) (by assumption) ?_
        rotate_left
        · (intro w hSw; (try dsimp only at hSw); go_simp; try with_reducible rfl)
        try simp only [Act.put]
        refine wpAnyH_ready (rs := [11]) (by kernel_rfl) (by simp) ?_
        refine AllReadyH.cons rfl (fun K hK => ?_) AllReadyH.nil
        go_simp
        refine hK.out _ _ hS6 (fun _ => ?_)
        clear hK
        refine wpAnyH_done (by kernel_rfl) ?_ _
        go_wp2
        go_ret
        exact ⟨rfl, gF, fun _ => ⟨_, _, _, _, hF⟩⟩
      · go_simp
        refine hcopV.mono ?_
        rintro e w4 ⟨ca, cb, rfl, o1, o2, g4⟩
        have hfin := haddV.out w4 _ _ g4 o1 o2 hL rfl rfl
        clear haddV hcopV o1 o2
        have gX := g4.trans (World.grownBy_alloc w4 (.cells #[.slice ca x.codes.length x.codes.length, .slice cb x.els.length x.els.length] 35) none)
        have hSX := hS _ gX
        have hS4 := hS _ g4
        have tc4 := tc _ g4
        have tcX := tc _ gX
        obtain ⟨a', n', c', w5, hrun, t5, e5, e6, gF, hF⟩ := hfin
        have hS5 : w5.cell? ⟨w.heap.size, 0, none⟩ = some vc ∧ w5.cell? ⟨w.heap.size, 1, none⟩ = some ve0 := ⟨e5.c0, e5.c1⟩
        have hS6 : (w5.setCell ⟨t, 1, none⟩ (.slice a' n' c')).cell? ⟨w.heap.size, 0, none⟩ = some vc ∧ (w5.setCell ⟨t, 1, none⟩ (.slice a' n' c')).cell? ⟨w.heap.size, 1, none⟩ = some ve0 := ⟨e6.c0, e6.c1⟩
        have p1 := t5.c1
        have p2 := t5.free 1
        refine hK.out _ _ hS4 (fun _ => ?_)
        clear hK
        refine wpAnyH_ready (rs := [4, 7]) (by kernel_rfl) (by simp) ?_
        refine AllReadyH.cons rfl (fun K hK => ?_) (AllReadyH.cons rfl (fun K hK => ?_) AllReadyH.nil)
        · go_simp
          refine hK.out _ _ hS4 (fun _ => ?_)
          clear hK
          refine wpAnyH_ready (rs := [7]) (by kernel_rfl) (by simp) ?_
          refine AllReadyH.cons rfl (fun K hK => ?_) AllReadyH.nil
          go_simp
          refine hK.out _ _ hSX (fun _ => ?_)
          clear hK
          refine wpAnyH_ready (rs := [8]) (by kernel_rfl) (by simp) ?_
          refine AllReadyH.cons rfl (fun K hK => ?_) AllReadyH.nil
          rw [if_pos (by rfl)]
          refine wp_app_run _ _ _ rfl _ _ rfl rfl hrun ?_
          refine hK.out _ _ hS5 (fun _ => ?_)
          clear hK
          refine wpAnyH_take (i := 9) (oi := ⟨some 38, _, _, _, _, _⟩) (v := ?_) rfl (by kernel_rfl) (by kernel_rfl) (by kernel_rfl) (fun _ _ _ h => h) (Or.inl ⟨by rfl, ?_⟩) (by assumption) ?_
          rotate_left
          · (intro w hSw; (try dsimp only at hSw); go_simp; try with_reducible rfl)
          try simp only [Act.put, List.setIfInBounds_toArray]
          refine wpAnyH_take (i := 10) (oi := ⟨some 39, _, _, _, _, _⟩) (v := ?_) rfl (by kernel_rfl) (by kernel_rfl) (by kernel_rfl) (fun _ _ _ h => h) (Or.inl ⟨by rfl, ?_⟩) (by assumption) ?_
          rotate_left
          · (intro w hSw; (try dsimp only at hSw); go_simp; try with_reducible rfl)
          try simp only [Act.put]
          refine wpAnyH_ready (rs := [11]) (by kernel_rfl) (by simp) ?_
          refine AllReadyH.cons rfl (fun K hK => ?_) AllReadyH.nil
          go_simp
          refine hK.out _ _ hS6 (fun _ => ?_)
          clear hK
          refine wpAnyH_done (by kernel_rfl) ?_ _
          go_wp2
          go_ret
          exact ⟨rfl, gF, fun _ => ⟨_, _, _, _, hF⟩⟩
        · go_simp
          refine hK.out _ _ hSX (fun _ => ?_)
          clear hK
          refine wpAnyH_ready (rs := [4]) (by kernel_rfl) (by simp) ?_
          refine AllReadyH.cons rfl (fun K hK => ?_) AllReadyH.nil
          go_simp
          refine hK.out _ _ hSX (fun _ => ?_)
          clear hK
          refine wpAnyH_ready (rs := [8]) (by kernel_rfl) (by simp) ?_
          refine AllReadyH.cons rfl (fun K hK => ?_) AllReadyH.nil
          rw [if_pos (by rfl)]
          refine wp_app_run _ _ _ rfl _ _ rfl rfl hrun ?_
          refine hK.out _ _ hS5 (fun _ => ?_)
          clear hK
          refine wpAnyH_take (i := 9) (oi := ⟨some 38, _, _, _, _, _⟩) (v := ?_) rfl (by kernel_rfl) (by kernel_rfl) (by kernel_rfl) (fun _ _ _ h => h) (Or.inl ⟨by rfl, ?_⟩) (by assumption) ?_
          rotate_left
          · (intro w hSw; (try dsimp only at hSw); go_simp; try with_reducible rfl)
          try simp only [Act.put, List.setIfInBounds_toArray]
          refine wpAnyH_take (i := 10) (oi := ⟨some 39, _, _, _, _, _⟩) (v := ?_) rfl (by kernel_rfl) (by kernel_rfl) (by kernel_rfl) (fun _ _ _ h => h) (Or.inl ⟨by rfl, ?_⟩) (by assumption) ?_
          rotate_left
          · (intro w hSw; (try dsimp only at hSw); go_simp; try with_reducible rfl)
          try simp only [Act.put]
          refine wpAnyH_ready (rs := [11]) (by kernel_rfl) (by simp) ?_
          refine AllReadyH.cons rfl (fun K hK => ?_) AllReadyH.nil
          go_simp
          refine hK.out _ _ hS6 (fun _ => ?_)
          clear hK
          refine wpAnyH_done (by kernel_rfl) ?_ _
          go_wp2
          go_ret
          exact ⟨rfl, gF, fun _ => ⟨_, _, _, _, hF⟩⟩
  · obtain ⟨r, hr⟩ : ∃ r, r = entErr x := ⟨_, rfl⟩
    have ha : addErr L x = r := by unfold addErr; rw [if_pos he, hr]
    have hr0 : (r != 0) = true := by rw [hr]; simpa using he
    rw [← hr] at hC
    rw [ha]
    have hfin : ∀ w', W.grownBy w' none → AddQ Q t L n x w w' := fun w' g => ⟨GP.new (gA.trans g), fun e => by rw [ha] at e; rw [e] at hr0; cases hr0⟩
    replace hfin := Lib.hid hfin
    clear hr he ha
    go_enter Try.func27, Try.ntmps27
    go_wp2_with fail
    rw [← hW]
    clear hW
    go_wp2_with (go_at_call 42; refine hC.mono ?_; rintro e w1 ⟨rfl, g1⟩)
    go_ret
    exact ⟨rfl, hfin.out _ g1⟩
end Go.Proofs.Ytlnplompnabmlaa
