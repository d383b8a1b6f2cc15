/-
  LAYER 9 (trie): grow: the node that code points lead to, made if there was none.
-/
import Derived.Test.YtnnijcafnhhnoaaTNodes
import Derived.LoopTactic
namespace Go.Proofs.Ytnnijcafnhhnoaa
set_option maxRecDepth 100000
open Go.RowKit Go.Lib
attribute [local go_sem] Oper.semAt_some

theorem take_snoc {α : Type} {l : List α} {i : Nat} {u : α} (h : l[i]? = some u) : l.take (i + 1) = l.take i ++ [u] := by
  rw [List.take_add_one, h]
  rfl
theorem pre_snoc {p l : List Int} {r : Int} : p <+: l ++ [r] ↔ p = l ++ [r] ∨ p <+: l := List.prefix_concat_iff

/-- What a tree is grown to. -/
structure Grown (Q : Nat → Prop) (w : World) (nd mp : List Int → Option Nat) (nm : List Int → Int) (l : List Int) (wr : World) (nd' mp' : List Int → Option Nat) : Prop where
  tree : TreeM Q wr nd' mp' nm
  ext : ∀ p c, nd p = some c → nd' p = some c
  dom : ∀ p, nd' p ≠ none ↔ nd p ≠ none ∨ p <+: l
  gp : GP (InT nd mp) w wr
  new : ∀ k, InT nd' mp' k → InT nd mp k ∨ w.heap.size ≤ k

theorem Grown.refl {Q : Nat → Prop} {w : World} {nd mp : List Int → Option Nat} {nm : List Int → Int} (h : TreeM Q w nd mp nm) (h0 : nd [] ≠ none) : Grown Q w nd mp nm [] w nd mp :=
  ⟨h, fun _ _ e => e, fun p => ⟨.inl, fun e => by
    rcases e with e | e
    · exact e
    · rw [List.prefix_nil] at e
      subst e
      exact h0⟩, GP.refl _ _, fun _ e => .inl e⟩
/-- The way goes on along a node that is there. -/
theorem Grown.old {Q : Nat → Prop} {w wr : World} {nd mp nd' mp' : List Int → Option Nat} {nm : List Int → Int} {l : List Int} {r : Int} {c : Nat} (h : Grown Q w nd mp nm l wr nd' mp') (hc : nd' (l ++ [r]) = some c) : Grown Q w nd mp nm (l ++ [r]) wr nd' mp' :=
  { h with
    dom := fun p => by
      rw [pre_snoc, h.dom p]
      constructor
      · rintro (e | e)
        · exact .inl e
        · exact .inr (.inr e)
      · rintro (e | e | e)
        · exact .inl e
        · subst e
          exact (h.dom _).1 (by rw [hc]; simp)
        · exact .inr e }
/-- .. along a new one. -/
theorem Grown.kid {Q : Nat → Prop} {w wr W : World} {nd mp nd' mp' : List Int → Option Nat} {nm : List Int → Int} {l : List Int} {r : Int} {c m : Nat} (h : Grown Q w nd mp nm l wr nd' mp') (hr : nd' (l ++ [r]) = none) (hT : TreeM Q W (upd nd' (l ++ [r]) (some c)) mp' nm) (hc : w.heap.size ≤ c) (hg : GP (fun k => k = m) wr W) (hm : mp' l = some m) :
    Grown Q w nd mp nm (l ++ [r]) W (upd nd' (l ++ [r]) (some c)) mp' :=
  { tree := hT
    ext := fun p d e => by
      have := h.ext p d e
      rw [upd_other (fun e2 => by rw [e2, hr] at this; cases this)]
      exact this
    dom := fun p => by
      rw [pre_snoc]
      by_cases e : p = l ++ [r]
      · subst e; rw [upd_same]; simp
      · rw [upd_other e, h.dom p]
        constructor
        · rintro (q | q)
          · exact .inl q
          · exact .inr (.inr q)
        · rintro (q | q | q)
          · exact .inl q
          · exact absurd q e
          · exact .inr q
    gp := h.gp.step hg (fun k e => by subst e; exact h.new k ⟨l, .inr hm⟩)
    new := fun k ⟨p, e⟩ => by
      rcases e with e | e
      · by_cases q : p = l ++ [r]
        · subst q; rw [upd_same] at e; cases e; exact .inr hc
        · rw [upd_other q] at e; exact h.new k ⟨p, .inl e⟩
      · exact h.new k ⟨p, .inr e⟩ }
/-- A node gets a map. -/
theorem Grown.map {Q : Nat → Prop} {w wr : World} {nd mp nd' mp' : List Int → Option Nat} {nm : List Int → Int} {l : List Int} {b : Nat} (h : Grown Q w nd mp nm l wr nd' mp') (hp : nd' l = some b) (hm : mp' l = none) (hq : Q wr.heap.size) :
    Grown Q w nd mp nm l ((wr.alloc (.map #[] 0)).setCell ⟨b, 1, none⟩ (.map (some wr.heap.size))) nd' (upd mp' l (some wr.heap.size)) :=
  { h with
    tree := h.tree.addMap hp hm hq
    gp := by
      have g1 := GP.of (P := fun k => k = b) (gset (gbut' (r := some b) (World.grownBy_alloc wr (.map #[] 0) none)) 1 (.map (some wr.heap.size))) (fun k e => by cases e; rfl)
      exact h.gp.step g1 (fun k e => by subst e; exact h.new k ⟨l, .inl hp⟩)
    new := fun k ⟨p, e⟩ => by
      rcases e with e | e
      · exact h.new k ⟨p, .inl e⟩
      · by_cases q : p = l
        · subst q; rw [upd_same] at e; cases e; exact .inr h.gp.2.2.2.1
        · rw [upd_other q] at e; exact h.new k ⟨p, .inr e⟩ }

set_option maxHeartbeats 8000000 in
theorem grow_any (P Q : Nat → Prop) (v : Value) (l : List Int) (rt : Nat) (nd mp : List Int → Option Nat) (nm : List Int → Int) (w : World) (hv : SR P 1 w v l.length (rc l)) (hP : ∀ k, P k → ¬ Q k) (hQ : ∀ k, w.heap.size ≤ k → Q k)
    (hT : TreeM Q w nd mp nm) (hrt : nd [] = some rt) :
    Calls Try.prog 43 #[.pointer (some ⟨rt, 0, none⟩), v] w fun e w' => ∃ b nd' mp', e = .returned (.pointer (some ⟨b, 0, none⟩)) ∧ nd' l = some b ∧ Grown Q w nd mp nm l w' nd' mp' := by
  obtain ⟨a, c, rfl, hc, hm⟩ := hv.form
  unfold maxLen at hm
  have hG0 := Lib.hid (Grown.refl hT (by rw [hrt]; simp))
  have HT := Lib.hid hT
  replace hv := Lib.hid hv
  clear hT
  obtain ⟨n, hn⟩ : ∃ n, n = l.length := ⟨_, rfl⟩
  rw [← hn] at hc ⊢
  replace hn := Lib.hid hn
  go_enter Try.func43, Try.ntmps43
  go_wp2
  go_loopw [0, 6, 7, 10] (fun vn _ _ vi wr => ∃ (i b : Nat) (nd' mp' : List Int → Option Nat), vi = .int .i64 (i : Int) ∧ i ≤ n ∧ vn = .pointer (some ⟨b, 0, none⟩) ∧ Hid (nd' (l.take i) = some b) ∧ Hid (Grown Q w nd mp nm (l.take i) wr nd' mp')) (fun _ _ _ vi _ => n - (RowKit.intOf vi).toNat)
  case atStart => exact ⟨0, rt, nd, mp, rfl, Nat.zero_le _, rfl, Lib.hid (by simpa using hrt), by simpa using hG0⟩
  case round =>
    obtain ⟨i, b, nd', mp', rfl, hi, rfl, hb, hG⟩ := hrel
    by_cases hlt : i < n
    · have hltz : (i : Int) < (n : Int) := by omega
      obtain ⟨u, hu⟩ : ∃ u, l[i]? = some u := ⟨_, List.getElem?_eq_getElem (by have := hn.out; omega)⟩
      have hts := Lib.hid (take_snoc hu)
      have hrr : SR P 1 wr (.slice a l.length c) l.length (rc l) := hv.out.heap (fun k hk hl => hG.out.gp.2.2.2.2 k hl (fun e => hP k hk (HT.out.q e)))
      obtain ⟨ba, off, rfl, _, cu⟩ := rc_get hrr hu
      clear hrr hu
      have hN := (hG.out.tree.node _ _ hb.out).2
      have c1 := hN.c1
      have f1 := hN.free 1
      have hbl := hN.lt
      have hsz := hG.out.gp.2.2.2.1
      obtain ⟨o, ho⟩ : ∃ o, o = nd' (l.take i ++ [u]) := ⟨_, rfl⟩
      have hlk := hG.out.tree.lookup (l.take i) u
      rw [← ho] at hlk
      obtain ⟨mo, hmo⟩ : ∃ mo, mo = mp' (l.take i) := ⟨_, rfl⟩
      rw [← hmo] at hlk c1
      replace ho := Lib.hid ho
      replace hmo := Lib.hid hmo
      clear hN
      have qm := fun (w : World) (r : Option Nat) => run_eql_map_nil (P := Try.prog) w 78 _ _ r Try.underlying78
      cases mo with
      | none =>
        have hno := hG.out.tree.nokid _ hmo.out.symm u
        obtain rfl : o = none := ho.out.trans hno
        have hG1 := Lib.hid (hG.out.map hb.out hmo.out.symm (hQ _ hsz))
        have hlk1 := hG1.out.tree.lookup (l.take i) u
        rw [upd_same, hno] at hlk1
        unfold ptrV at hlk1
        have hb1 := hb
        have hN1 := (hG1.out.tree.node _ _ hb1.out).2
        rw [upd_same] at hN1
        have d1 := hN1.c1
        have hqs := hQ ((wr.alloc (.map #[] 0)).setCell ⟨b, 1, none⟩ (.map (some wr.heap.size))).heap.size (hG1.out.gp.2.2.2.1)
        have hs1 := hG1.out.gp.2.2.2.1
        have hno := Lib.hid hno
        clear hlk hN1 hmo
        have hsw := World.setCell_alloc_past (w := wr) (.map #[] 0) b 1 (.map (some wr.heap.size)) hbl
        rw [hsw] at hlk1 d1 hqs hs1 hG1
        replace hsw := Lib.hid hsw
        have f1a : (wr.alloc (.map #[] 0)).frozen? ⟨b, 1, none⟩ = false := by
          have := (hG.out.tree.node _ _ hb.out).2
          exact NodeAt.free (((World.grownBy_alloc wr (.map #[] 0) none).block b hbl (by simp)).trans this) 1
        have c1a : (wr.alloc (.map #[] 0)).cell? ⟨b, 1, none⟩ = some (.map none) := (World.grownBy_alloc wr (.map #[] 0) none).cell c1 (by simp)
        have hmk : ∀ (t : TypeId) (w : World), (Instr.makeMap t none).run Try.prog w = .ok (.map (some w.heap.size)) (w.alloc (.map #[] 0)) := fun _ _ => rfl
        go_wp2_with fail
        have hmm : Hid (upd mp' (l.take i) (some wr.heap.size) (l.take i) = some wr.heap.size) := Lib.hid (upd_same _ _ _)
        generalize upd mp' (l.take i) (some wr.heap.size) = mp1 at *
        generalize (wr.setCell ⟨b, 1, none⟩ (.map (some wr.heap.size))).alloc (.map #[] 0) = W1 at *
        refine (newNode_any _).mono ?_
        rintro e w1 ⟨rfl, hN1, g1, _⟩
        have c2 := g1.cell d1 (by simp)
        obtain ⟨W3, hup, hT3, g3⟩ := hG1.out.tree.addKid hb.out hmm.out hno.out g1 (Nat.le_refl _) hN1 hqs
        have hG3 : Hid (Grown Q w nd mp nm (l.take (i + 1)) W3 (upd nd' (l.take i ++ [u]) (some W1.heap.size)) mp1) := Lib.hid (by rw [hts.out]; exact hG1.out.kid hno.out hT3 hs1 ((GP.new g1).trans (GP.of g3 (fun k e => by cases e; rfl))) hmm.out)
        have hb3 : Hid (upd nd' (l.take i ++ [u]) (some W1.heap.size) (l.take (i + 1)) = some W1.heap.size) := Lib.hid (by rw [hts.out, upd_same])
        clear hT3 g3 hN1 g1 hG hb hG1 hlk1 d1 f1a c1a hsw
        go_wp2_with fail
        exact ⟨⟨i + 1, W1.heap.size, _, mp1, by go_num, by omega, rfl, hb3, hG3⟩, by simp [RowKit.intOf]; omega⟩
      | some m =>
        cases o with
        | some d =>
          unfold ptrV at hlk
          have hG3 : Hid (Grown Q w nd mp nm (l.take (i + 1)) wr nd' mp') := Lib.hid (by rw [hts.out]; exact hG.out.old ho.out.symm)
          have hb3 : Hid (nd' (l.take (i + 1)) = some d) := Lib.hid (by rw [hts.out]; exact ho.out.symm)
          clear hG hb
          go_wp2
          exact ⟨⟨i + 1, d, nd', mp', by go_num, by omega, rfl, hb3, hG3⟩, by simp [RowKit.intOf]; omega⟩
        | none =>
          unfold ptrV at hlk
          have hqs := hQ _ hsz
          go_wp2_with (go_at_call 26; refine (newNode_any _).mono ?_; rintro e w1 ⟨rfl, hN1, g1, _⟩; have c2 := g1.cell c1 (by simp); obtain ⟨W3, hup, hT3, g3⟩ := hG.out.tree.addKid hb.out hmo.out.symm ho.out.symm g1 (Nat.le_refl _) hN1 hqs; have hG3 : Hid (Grown Q w nd mp nm (l.take (i + 1)) W3 (upd nd' (l.take i ++ [u]) (some wr.heap.size)) mp') := Lib.hid (by rw [hts.out]; exact hG.out.kid ho.out.symm hT3 hsz ((GP.new g1).trans (GP.of g3 (fun k e => by cases e; rfl))) hmo.out.symm); clear hT3 g3 hN1 g1)
          have hb3 : Hid (upd nd' (l.take i ++ [u]) (some wr.heap.size) (l.take (i + 1)) = some wr.heap.size) := Lib.hid (by rw [hts.out, upd_same])
          clear hG hb
          exact ⟨⟨i + 1, wr.heap.size, _, mp', by go_num, by omega, rfl, hb3, hG3⟩, by simp [RowKit.intOf]; omega⟩
    · obtain rfl : n = i := by omega
      have hG2 : Hid (Grown Q w nd mp nm l wr nd' mp') := Lib.hid (by have := hG.out; rw [hn.out, List.take_length] at this; exact this)
      have hb2 : Hid (nd' l = some b) := Lib.hid (by have := hb.out; rw [hn.out, List.take_length] at this; exact this)
      clear hG hb
      go_wp2
      go_ret
      exact ⟨b, nd', mp', rfl, hb2.out, hG2.out⟩
end Go.Proofs.Ytnnijcafnhhnoaa
