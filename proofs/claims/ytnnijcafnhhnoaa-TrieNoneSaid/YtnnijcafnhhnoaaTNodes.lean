/-
  LAYER 9 (trie): the tree of nodes in memory, by paths.
-/
import Derived.Test.YtnnijcafnhhnoaaTTree
namespace Go.Proofs.Ytnnijcafnhhnoaa
set_option maxRecDepth 100000
open Go.RowKit Go.Lib

def ptrV : Option Nat → Value
  | none => .pointer none
  | some b => .pointer (some ⟨b, 0, none⟩)
abbrev Kl := List (Int × Nat)
def klV (l : Kl) : List (Int × Value) := l.map fun x => (x.1, .pointer (some ⟨x.2, 0, none⟩))
def upd {α : Type} (f : List Int → α) (p : List Int) (v : α) : List Int → α := fun q => if q = p then v else f q
theorem upd_same {α : Type} (f : List Int → α) (p : List Int) (v : α) : upd f p v p = v := by simp [upd]
theorem upd_other {α : Type} {f : List Int → α} {p q : List Int} {v : α} (h : q ≠ p) : upd f p v q = f q := by simp [upd, h]

theorem look_kl : ∀ (kl : Kl) (r : Int) (o : Option Nat), (kl.map (·.1)).Nodup → (∀ b, (r, b) ∈ kl ↔ o = some b) → (look (klV kl) r).getD (.pointer none) = ptrV o
  | [], r, o, _, h => by
    cases o with
    | none => rfl
    | some b => have := (h b).2 rfl; simp at this
  | x :: kl, r, o, hn, h => by
    have e : klV (x :: kl) = (x.1, .pointer (some ⟨x.2, 0, none⟩)) :: klV kl := rfl
    rw [e, look_cons]
    rw [List.map_cons, List.nodup_cons] at hn
    by_cases hx : x.1 = r
    · rw [if_pos hx]
      have : o = some x.2 := (h x.2).1 (by rw [← hx]; simp)
      rw [this]
      rfl
    · rw [if_neg hx]
      refine look_kl kl r o hn.2 (fun b => ?_)
      rw [← h b]
      constructor
      · intro q; exact List.mem_cons_of_mem _ q
      · intro q
        rcases List.mem_cons.1 q with q | q
        · exact absurd (by rw [← q]) hx
        · exact q

/-- The tree in memory: nd: the node that a path leads to; mp: its map; nm: its number. -/
structure TreeM (Q : Nat → Prop) (w : World) (nd mp : List Int → Option Nat) (nm : List Int → Int) : Prop where
  node : ∀ p b, nd p = some b → Q b ∧ NodeAt w b (nm p) (mp p)
  inj : ∀ p q b, nd p = some b → nd q = some b → p = q
  nokid : ∀ p, mp p = none → ∀ r, nd (p ++ [r]) = none
  kids : ∀ p m, mp p = some m → Q m ∧ ∃ kl : Kl, Ents w m (klV kl) ∧ (kl.map (·.1)).Nodup ∧ ∀ r b, (r, b) ∈ kl ↔ nd (p ++ [r]) = some b
  minj : ∀ p q m, mp p = some m → mp q = some m → p = q
  up : ∀ p, nd p = none → mp p = none
  unn : ∀ p, nd p = none → nm p = -1

section
variable {Q : Nat → Prop} {w w' : World} {nd mp : List Int → Option Nat} {nm : List Int → Int}
theorem TreeM.lookup (h : TreeM Q w nd mp nm) (p : List Int) (r : Int) : (Instr.lookup 78 (.map (mp p)) (.int .i32 r) false).run Try.prog w = .ok (ptrV (nd (p ++ [r]))) w := by
  cases hm : mp p with
  | none =>
    rw [h.nokid p hm r]
    exact run_lookup_nil (z := .pointer none) Try.underlying78 Try.underlying21 (fun w => by kernel_rfl) r
  | some m =>
    obtain ⟨_, kl, h1, h2, h3⟩ := h.kids p m hm
    rw [run_lookup_ents (z := .pointer none) Try.underlying78 Try.underlying21 (fun w => by kernel_rfl) h1 r, look_kl kl r _ h2 (fun b => h3 r b)]
/-- The blocks of a tree. -/
def InT (nd mp : List Int → Option Nat) (k : Nat) : Prop := ∃ p, nd p = some k ∨ mp p = some k
theorem TreeM.heap (h : TreeM Q w nd mp nm) (hk : ∀ k, InT nd mp k → w'.heap[k]? = w.heap[k]?) : TreeM Q w' nd mp nm :=
  { node := fun p b e => ⟨(h.node p b e).1, (hk b ⟨p, .inl e⟩).trans (h.node p b e).2⟩
    inj := h.inj
    nokid := h.nokid
    kids := fun p m e => by
      obtain ⟨h0, kl, h1, h2, h3⟩ := h.kids p m e
      exact ⟨h0, kl, h1.heap (hk m ⟨p, .inr e⟩), h2, h3⟩
    minj := h.minj
    up := h.up
    unn := h.unn }
theorem TreeM.lt (h : TreeM Q w nd mp nm) {k : Nat} (hk : InT nd mp k) : k < w.heap.size := by
  obtain ⟨p, e | e⟩ := hk
  · exact (h.node p k e).2.lt
  · obtain ⟨_, kl, h1, _⟩ := h.kids p k e
    exact h1.lt
theorem TreeM.q (h : TreeM Q w nd mp nm) {k : Nat} (hk : InT nd mp k) : Q k := by
  obtain ⟨p, e | e⟩ := hk
  · exact (h.node p k e).1
  · exact (h.kids p k e).1
theorem TreeM.new (h : TreeM Q w nd mp nm) (hg : w.grownBy w' none) : TreeM Q w' nd mp nm := h.heap fun k hk => hg.block k (h.lt hk) (by simp)
/-- What is no node and no map lies elsewhere. -/
theorem TreeM.cells (h : TreeM Q w nd mp nm) {k : Nat} {cs : Array Value} {e : TypeId} {z : Nat × Nat} (hb : w.heap[k]? = some (.cells cs e z)) (he : e ≠ 80) : ¬ InT nd mp k := by
  rintro ⟨p, q | q⟩
  · have := (h.node p k q).2
    unfold NodeAt at this
    rw [hb] at this
    simp at this
    exact he this.2.1
  · obtain ⟨_, kl, ⟨es, c, h1, _⟩, _⟩ := h.kids p k q
    rw [hb] at h1
    cases h1
/-- A node is numbered. -/
theorem TreeM.number (h : TreeM Q w nd mp nm) {p : List Int} {b : Nat} (hp : nd p = some b) (x : Int) : TreeM Q (w.setCell ⟨b, 0, none⟩ (.int .i64 x)) nd mp (upd nm p x) := by
  have hN := (h.node p b hp).2
  have hoth : ∀ k, k ≠ b → (w.setCell ⟨b, 0, none⟩ (.int .i64 x)).heap[k]? = w.heap[k]? := fun k hk => Below.heap_setCell _ _ _ _ (fun e => hk (by simpa using e))
  exact {
    node := fun q c e => by
      by_cases hq : q = p
      · subst hq
        obtain rfl : b = c := by rw [hp] at e; cases e; rfl
        rw [upd_same]
        exact ⟨(h.node q b hp).1, hN.s0 x⟩
      · rw [upd_other hq]
        refine ⟨(h.node q c e).1, ?_⟩
        have hc : c ≠ b := fun e2 => hq (h.inj q p b (by rw [← e2]; exact e) hp)
        exact (hoth c hc).trans (h.node q c e).2
    inj := h.inj
    nokid := h.nokid
    kids := fun q m e => by
      obtain ⟨h0, kl, h1, h2, h3⟩ := h.kids q m e
      refine ⟨h0, kl, h1.heap (hoth m (fun e2 => ?_)), h2, h3⟩
      obtain ⟨es, c, hb, _⟩ := h1
      rw [e2, show w.heap[b]? = _ from hN] at hb
      cases hb
    minj := h.minj
    up := h.up
    unn := fun q e => by
      have hq : q ≠ p := fun e2 => by rw [e2, hp] at e; cases e
      rw [upd_other hq]
      exact h.unn q e }
/-- A node gets an empty map, in a new block. -/
theorem TreeM.addMap (h : TreeM Q w nd mp nm) {p : List Int} {b : Nat} (hp : nd p = some b) (hm : mp p = none) (hq : Q w.heap.size) :
    TreeM Q ((w.alloc (.map #[] 0)).setCell ⟨b, 1, none⟩ (.map (some w.heap.size))) nd (upd mp p (some w.heap.size)) nm := by
  have hN := (h.node p b hp).2
  have hbl := hN.lt
  have g1 := World.grownBy_alloc w (.map #[] 0) none
  have hN1 : NodeAt (w.alloc (.map #[] 0)) b (nm p) (mp p) := (g1.block b hbl (by simp)).trans hN
  have hM1 := Ents.made w
  have hoth1 : ∀ k, k ≠ b → ((w.alloc (.map #[] 0)).setCell ⟨b, 1, none⟩ (.map (some w.heap.size))).heap[k]? = (w.alloc (.map #[] 0)).heap[k]? := fun k hk => Below.heap_setCell _ _ _ _ (fun e => hk (by simpa using e))
  have hoth : ∀ k, k ≠ b → k < w.heap.size → ((w.alloc (.map #[] 0)).setCell ⟨b, 1, none⟩ (.map (some w.heap.size))).heap[k]? = w.heap[k]? := fun k hk hl => (hoth1 k hk).trans (g1.block k hl (by simp))
  exact {
    node := fun q c e => by
      by_cases hqp : q = p
      · subst hqp
        obtain rfl : b = c := by rw [hp] at e; cases e; rfl
        rw [upd_same]
        exact ⟨(h.node q b hp).1, hN1.s1 _⟩
      · rw [upd_other hqp]
        refine ⟨(h.node q c e).1, ?_⟩
        have hc : c ≠ b := fun e2 => hqp (h.inj q p b (by rw [← e2]; exact e) hp)
        exact (hoth c hc (h.node q c e).2.lt).trans (h.node q c e).2
    inj := h.inj
    nokid := fun q e r => by
      by_cases hqp : q = p
      · subst hqp; rw [upd_same] at e; cases e
      · rw [upd_other hqp] at e; exact h.nokid q e r
    kids := fun q m e => by
      by_cases hqp : q = p
      · subst hqp
        rw [upd_same] at e
        obtain rfl : w.heap.size = m := by cases e; rfl
        refine ⟨hq, [], hM1.heap (hoth1 _ (by omega)), List.nodup_nil, fun r c => ?_⟩
        rw [h.nokid q hm r]
        simp
      · rw [upd_other hqp] at e
        obtain ⟨h0, kl, h1, h2, h3⟩ := h.kids q m e
        refine ⟨h0, kl, h1.heap (hoth m (fun e2 => ?_) h1.lt), h2, h3⟩
        obtain ⟨es, c, hb, _⟩ := h1
        rw [e2, show w.heap[b]? = _ from hN] at hb
        cases hb
    minj := fun q r m e1 e2 => by
      by_cases hqp : q = p
      · by_cases hrp : r = p
        · rw [hqp, hrp]
        · rw [hqp, upd_same] at e1
          rw [upd_other hrp] at e2
          obtain rfl : w.heap.size = m := by cases e1; rfl
          have := h.lt (k := w.heap.size) ⟨r, .inr e2⟩
          omega
      · rw [upd_other hqp] at e1
        by_cases hrp : r = p
        · rw [hrp, upd_same] at e2
          obtain rfl : w.heap.size = m := by cases e2; rfl
          have := h.lt (k := w.heap.size) ⟨q, .inr e1⟩
          omega
        · rw [upd_other hrp] at e2
          exact h.minj q r m e1 e2
    up := fun q e => by
      have hqp : q ≠ p := fun e2 => by rw [e2, hp] at e; cases e
      rw [upd_other hqp]
      exact h.up q e
    unn := h.unn }
/-- A new node, as a kid of one that has a map. -/
theorem TreeM.addKid (h : TreeM Q w nd mp nm) {p : List Int} {b m : Nat} {r : Int} (hp : nd p = some b) (hm : mp p = some m) (hr : nd (p ++ [r]) = none) {c : Nat} {W : World} (hg : w.grownBy W none) (hc : w.heap.size ≤ c) (hN : NodeAt W c (-1) none) (hq : Q c) :
    ∃ W', (Instr.mapUpdate 78 (.map (some m)) (.int .i32 r) (.pointer (some ⟨c, 0, none⟩))).run Try.prog W = .ok () W' ∧ TreeM Q W' (upd nd (p ++ [r]) (some c)) mp nm ∧ W.grownBy W' (some m) := by
  have hT := h.new hg
  obtain ⟨q0, kl, q1, q2, q3⟩ := hT.kids p m hm
  have hnew : ∀ x ∈ klV kl, x.1 ≠ r := by
    intro x hx e
    obtain ⟨y, hy, rfl⟩ := List.mem_map.1 hx
    have := (q3 y.1 y.2).1 hy
    dsimp only at e
    rw [e, hr] at this
    cases this
  obtain ⟨W', hrun, h5, h6, _⟩ := run_update_ents (P := Try.prog) Try.underlying78 Try.underlying21 q1 r (.pointer (some ⟨c, 0, none⟩)) hnew
  have hoth : ∀ k, k < W.heap.size → k ≠ m → W'.heap[k]? = W.heap[k]? := fun k hk hne => h6.block k hk (fun e => hne (by cases e; rfl))
  have hcm : c ≠ m := fun e => by
    obtain ⟨es, cl, hb, _⟩ := q1
    rw [← e, show W.heap[c]? = _ from hN] at hb
    cases hb
  have hcl : ∀ k, InT nd mp k → k < w.heap.size := fun k hk => h.lt hk
  refine ⟨W', hrun, ?_, h6⟩
  have hnm : ∀ q d, nd q = some d → d ≠ m := fun q d e e2 => by
    obtain ⟨es, cl, hb, _⟩ := q1
    rw [← e2, show W.heap[d]? = _ from (hT.node q d e).2] at hb
    cases hb
  exact {
    node := fun q d e => by
      by_cases hqp : q = p ++ [r]
      · subst hqp
        rw [upd_same] at e
        obtain rfl : c = d := by cases e; rfl
        rw [h.unn _ hr, h.up _ hr]
        exact ⟨hq, (hoth c hN.lt hcm).trans hN⟩
      · rw [upd_other hqp] at e
        have := hT.node q d e
        exact ⟨this.1, (hoth d this.2.lt (hnm q d e)).trans this.2⟩
    inj := fun q s d e1 e2 => by
      by_cases hqp : q = p ++ [r]
      · by_cases hsp : s = p ++ [r]
        · rw [hqp, hsp]
        · rw [hqp, upd_same] at e1
          rw [upd_other hsp] at e2
          obtain rfl : c = d := by cases e1; rfl
          have := hcl c ⟨s, .inl e2⟩
          omega
      · rw [upd_other hqp] at e1
        by_cases hsp : s = p ++ [r]
        · rw [hsp, upd_same] at e2
          obtain rfl : c = d := by cases e2; rfl
          have := hcl c ⟨q, .inl e1⟩
          omega
        · rw [upd_other hsp] at e2
          exact h.inj q s d e1 e2
    nokid := fun q e s => by
      have hne : q ++ [s] ≠ p ++ [r] := fun e2 => by
        have := List.append_inj' e2 rfl
        rw [this.1, hm] at e
        cases e
      rw [upd_other hne]
      exact h.nokid q e s
    kids := fun q k e => by
      by_cases hqp : q = p
      · subst hqp
        obtain rfl : m = k := by rw [hm] at e; cases e; rfl
        refine ⟨q0, kl ++ [(r, c)], ?_, ?_, fun s d => ?_⟩
        · have : klV (kl ++ [(r, c)]) = klV kl ++ [(r, .pointer (some ⟨c, 0, none⟩))] := by simp [klV]
          rw [this]
          exact h5
        · rw [List.map_append, List.nodup_append]
          refine ⟨q2, by simp, fun a ha d hd e => ?_⟩
          simp at hd
          subst hd
          subst e
          obtain ⟨x, hx, rfl⟩ := List.mem_map.1 ha
          have := (q3 x.1 x.2).1 hx
          rw [hr] at this
          cases this
        · rw [List.mem_append]
          by_cases hs : s = r
          · subst hs
            rw [upd_same]
            constructor
            · rintro (hh | hh)
              · have := (q3 s d).1 hh
                rw [hr] at this
                cases this
              · simp at hh
                rw [hh]
            · intro hh
              cases hh
              right
              simp
          · have hne : q ++ [s] ≠ q ++ [r] := fun e2 => hs (by simpa using e2)
            rw [upd_other hne, ← q3 s d]
            constructor
            · rintro (hh | hh)
              · exact hh
              · simp at hh
                exact absurd hh.1 hs
            · exact .inl
      · obtain ⟨h0, kl2, h1, h2, h3⟩ := hT.kids q k e
        have hkm : k ≠ m := fun e2 => hqp (h.minj q p m (by rw [← e2]; exact e) hm)
        refine ⟨h0, kl2, h1.heap (hoth k h1.lt hkm), h2, fun s d => ?_⟩
        have hne : q ++ [s] ≠ p ++ [r] := fun e2 => hqp (List.append_inj' e2 rfl).1
        rw [upd_other hne]
        exact h3 s d
    minj := h.minj
    up := fun q e => by
      by_cases hqp : q = p ++ [r]
      · subst hqp; rw [upd_same] at e; cases e
      · rw [upd_other hqp] at e; exact h.up q e
    unn := fun q e => by
      by_cases hqp : q = p ++ [r]
      · subst hqp; rw [upd_same] at e; cases e
      · rw [upd_other hqp] at e; exact h.unn q e }
end
end Go.Proofs.Ytnnijcafnhhnoaa
