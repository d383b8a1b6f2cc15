/-
  LAYER 9 (trie): New.
-/
import Derived.Test.YtlnplompnabmlaaRA08
import Derived.Test.YtlnplompnabmlaaRA01
import Derived.RangeFuncNested
import Derived.RangeFuncBound
import Derived.RangeFuncCalls
import Derived.RangeFuncLeaves
import Derived.Shelf.Abstract
import Derived.Shelf.RegionOpen
import Derived.WalkKit
import Derived.OwnWalkIn
import Derived.TacticsInMore
import Derived.LoopNIn
import Derived.LoopIn
namespace Go.Proofs.Ytlnplompnabmlaa
set_option maxRecDepth 100000
open Go.RowKit Go.Lib
attribute [local go_sem] Oper.semAt_some

/-- Where the first entry stands that may not be, and why. -/
def newRes : List Ent → List Ent → Nat × Int
  | _, [] => (0, 0)
  | done, x :: rest => if addErr done x = 0 then newRes (done ++ [x]) rest else (done.length, addErr done x)
/-- What New tells. -/
def newAll (L : List Ent) : Nat × Int := if 4000 < L.length then (0, 2) else newRes [] L

theorem pc_get {P : Nat → Prop} {w : World} {a : Option Addr} {m c : Nat} {vs : List (Value × Value)} {n : Nat} (h : SR P 2 w (.slice a m c) n (pc vs)) (hn : vs.length = n) {i : Nat} {p : Value × Value} (hp : vs[i]? = some p) : ∃ b off, a = some ⟨b, off, none⟩ ∧ P b ∧ w.cell? ⟨b, off + i * 2, none⟩ = some p.1 ∧ w.cell? ⟨b, off + i * 2 + 1, none⟩ = some p.2 := by
  obtain ⟨b, off, q1, q2, q3⟩ := h.get (i := i) (by rw [← hn]; exact (List.getElem?_eq_some_iff.1 hp).1)
  obtain ⟨e0, e1⟩ := pc_at vs i p hp
  obtain ⟨x0, h0, c0⟩ := q3 0 (by omega)
  obtain ⟨x1, h1, c1⟩ := q3 1 (by omega)
  rw [Nat.add_zero, e0] at h0
  rw [e1] at h1
  cases h0; cases h1
  exact ⟨b, off, q1, q2, by simpa using c0, by simpa [Nat.add_assoc] using c1⟩
theorem ents_get {P : Nat → Prop} {w : World} {a : Option Addr} {m c : Nat} {L : List Ent} (h : EntsR P w (.slice a m c) L) {i : Nat} {x : Ent} (hx : L[i]? = some x) : ∃ b off vc ve, a = some ⟨b, off, none⟩ ∧ P b ∧ w.cell? ⟨b, off + i * 2, none⟩ = some vc ∧ w.cell? ⟨b, off + i * 2 + 1, none⟩ = some ve ∧ EntR P w vc ve x := by
  obtain ⟨vs, h1, h2, h3⟩ := h
  have hi := (List.getElem?_eq_some_iff.1 hx).1
  obtain ⟨p, hp⟩ : ∃ p, vs[i]? = some p := ⟨_, List.getElem?_eq_getElem (by omega)⟩
  obtain ⟨b, off, q1, q2, q3, q4⟩ := pc_get h2 h1 hp
  exact ⟨b, off, p.1, p.2, q1, q2, q3, q4, h3 i x p hx hp⟩

theorem trie_start {Q : Nat → Prop} {w1 : World} {r : Nat} (hN : NodeAt w1 r (-1) none) (hr : Q r) (ht : Q w1.heap.size) : ∃ rt ve nd mp, TrieAt Q (w1.alloc (.cells #[.pointer (some ⟨r, 0, none⟩), .slice none 0 0, .int .i64 0] 62)) w1.heap.size [] 0 rt ve nd mp := by
  have g := World.grownBy_alloc w1 (.cells #[.pointer (some ⟨r, 0, none⟩), .slice none 0 0, .int .i64 0] 62) none
  have hT : TrAt (w1.alloc (.cells #[.pointer (some ⟨r, 0, none⟩), .slice none 0 0, .int .i64 0] 62)) w1.heap.size (some ⟨r, 0, none⟩) (.slice none 0 0) 0 := World.alloc_heap_new w1 _
  generalize w1.alloc (.cells #[.pointer (some ⟨r, 0, none⟩), .slice none 0 0, .int .i64 0] 62) = W at *
  refine ⟨r, .slice none 0 0, upd (fun _ => none) [] (some r), fun _ => none, ?_⟩
  have e0 : ∀ p, upd (fun _ => none) [] (some r) p = if p = [] then some r else none := fun p => rfl
  exact {
    tr := hT
    tq := ht
    root := upd_same _ _ _
    tree := {
      node := fun p b e => by
        rw [e0] at e
        by_cases hp : p = []
        · subst hp
          simp at e
          subst e
          exact ⟨hr, (g.block r hN.lt (by simp)).trans hN⟩
        · simp [hp] at e
      inj := fun p q b e1 e2 => by
        rw [e0] at e1 e2
        by_cases hp : p = []
        · by_cases hq : q = []
          · rw [hp, hq]
          · simp [hq] at e2
        · simp [hp] at e1
      nokid := fun p _ x => by rw [e0]; simp
      kids := fun p m e => by cases e
      minj := fun p q m e => by cases e
      up := fun p _ => rfl
      unn := fun p _ => rfl }
    dom := fun p => by
      rw [e0]
      by_cases hp : p = []
      · simp [hp]
      · simp [hp]
    ents := EntsO.nil _ _ }

def NewQ (w : World) (L : List Ent) (re : Int) (po : Option Addr) (w' : World) : Prop :=
  GP (fun k => w.heap.size ≤ k) w w' ∧ ((re = 0 ∧ ∃ t rt ve nd mp, po = some ⟨t, 0, none⟩ ∧ TrieAt (fun k => w.heap.size ≤ k) w' t L 0 rt ve nd mp) ∨ (re ≠ 0 ∧ po = none))

set_option maxHeartbeats 8000000 in
theorem new_any (v : Value) (L : List Ent) (w : World) (h : EntsR (fun k => k < w.heap.size) w v L) :
    Calls Try.prog 9 #[v] w fun e w' => ∃ po, e = .returned (.tuple #[.pointer po, .int .i64 ((newAll L).1 : Int), .int .i64 (newAll L).2]) ∧ NewQ w L (newAll L).2 po w' := by
  obtain ⟨a, c, rfl, hc, hm⟩ : ∃ a c, v = .slice a L.length c ∧ L.length ≤ c ∧ c ≤ maxLen := by obtain ⟨vs, _, h2, _⟩ := h; exact h2.form
  unfold maxLen at hm
  obtain ⟨ra, hra⟩ : ∃ r, r = (newAll L).1 := ⟨_, rfl⟩
  obtain ⟨re, hre⟩ : ∃ r, r = (newAll L).2 := ⟨_, rfl⟩
  rw [← hra, ← hre]
  replace h := Lib.hid h
  obtain ⟨n, hn⟩ : ∃ n, n = L.length := ⟨_, rfl⟩
  rw [← hn] at hc ⊢
  replace hn := Lib.hid hn
  by_cases hbig : 4000 < n
  · have e : newAll L = (0, 2) := by unfold newAll; rw [if_pos (by rw [← hn.out]; exact hbig)]
    rw [e] at hra hre
    dsimp only at hra hre
    subst hra hre
    clear e
    go_enter Try.func9, Try.ntmps9
    go_wp2
    go_ret3
    exact ⟨none, rfl, GP.refl _ _, .inr ⟨by decide, rfl⟩⟩
  · have e : newAll L = newRes [] L := by unfold newAll; rw [if_neg (by rw [← hn.out]; exact hbig)]
    rw [e] at hra hre
    replace hra := Lib.hid hra
    replace hre := Lib.hid hre
    clear e
    go_enter Try.func9, Try.ntmps9
    go_wp2_with (go_at_call 26; refine (newNode_any _).mono ?_; rintro e w1 ⟨rfl, hN1, g1, s1⟩; clear s1)
    have hT0 := trie_start (Q := fun k => w.heap.size ≤ k) hN1 (Nat.le_refl _) g1.size
    have gt := g1.trans (World.grownBy_alloc w1 (.cells #[.pointer (some ⟨w.heap.size, 0, none⟩), .slice none 0 0, .int .i64 0] 62) none)
    generalize w1.alloc (.cells #[.pointer (some ⟨w.heap.size, 0, none⟩), .slice none 0 0, .int .i64 0] 62) = W at *
    generalize w1.heap.size = t at *
    replace hT0 := Lib.hid hT0
    clear hN1 g1
    go_loopw [6, 7, 8, 17] (fun _ _ _ vi wr => ∃ i : Nat, vi = .int .i64 (i : Int) ∧ i ≤ n ∧ Hid (∃ rt ve nd mp, TrieAt (fun k => w.heap.size ≤ k) wr t (L.take i) 0 rt ve nd mp) ∧ Hid (GP (fun k => w.heap.size ≤ k) w wr) ∧ Hid ((ra, re) = newRes (L.take i) (L.drop i))) (fun _ _ _ vi _ => n - (RowKit.intOf vi).toNat)
    case atStart => exact ⟨0, rfl, Nat.zero_le _, by simpa using hT0, Lib.hid (GP.new gt), Lib.hid (by rw [hra.out, hre.out]; simp)⟩
    case round =>
      obtain ⟨i, rfl, hi, hT, hG, hR⟩ := hrel
      by_cases hlt : i < n
      · have hltz : (i : Int) < (n : Int) := by omega
        obtain ⟨x, hx⟩ : ∃ x, L[i]? = some x := ⟨_, List.getElem?_eq_getElem (by have := hn.out; omega)⟩
        have hdrop : L.drop i = x :: L.drop (i + 1) := by
          obtain ⟨hl, rfl⟩ := List.getElem?_eq_some_iff.1 hx
          exact List.drop_eq_getElem_cons hl
        have hts := Lib.hid (show L.take (i + 1) = L.take i ++ [x] by rw [List.take_add_one, hx]; rfl)
        have hR1 := hR.out
        rw [hdrop, newRes] at hR1
        have hgz := hG.out.2.2.2.1
        have hrr := h.out.heap (w' := wr) (fun k hk _ => hG.out.2.2.2.2 k hk (by omega))
        obtain ⟨b, off, vc, ve0, rfl, _, c0, c1, hE⟩ := ents_get (c := c) hrr hx
        obtain ⟨xa, xc, rfl, _⟩ := hE.1.form
        obtain ⟨ya, yc, rfl, _⟩ := hE.2.form
        obtain ⟨vc, hvc⟩ : ∃ vc, vc = Value.slice xa x.codes.length xc := ⟨_, rfl⟩
        obtain ⟨ve0, hve0⟩ : ∃ ve, ve = Value.slice ya x.els.length yc := ⟨_, rfl⟩
        rw [← hvc, ← hve0] at hE
        have gB := World.grownBy_alloc wr (.cells #[vc, ve0] 35) none
        have eB : Two (wr.alloc (.cells #[vc, ve0] 35)) wr.heap.size vc ve0 := World.alloc_heap_new wr _
        have hE1 := hE.new gB
        have hG1 := Lib.hid (hG.out.trans (GP.new gB))
        obtain ⟨rt, ve, nd, mp, hT1⟩ := hT.out
        have hT1 := hT1.new gB
        have hadd := add_entry (fun k => k < w.heap.size) (fun k => w.heap.size ≤ k) vc ve0 x t (L.take i) 0 rt ve nd mp _ hT1 hE1 (fun k h => by omega) (fun k hk => by have := gB.size; omega) (by rw [List.length_take]; omega)
        obtain ⟨ae, hae⟩ : ∃ ae, ae = addErr (L.take i) x := ⟨_, rfl⟩
        have d0 := eB.c0
        have d1 := eB.c1
        rw [hvc, hve0] at hadd d0 d1 hG1
        clear hvc hve0
        unfold AddQ at hadd
        rw [← hae] at hadd hR1
        replace hae := Lib.hid hae
        have hlti : (L.take i).length = i := by rw [List.length_take]; have := hn.out; omega
        rw [hlti] at hR1
        clear hx hdrop hrr hE hE1 hT hT1 eB hR hlti
        by_cases ha : ae = 0
        · subst ha
          rw [if_pos rfl] at hR1
          replace hR1 := Lib.hid hR1
          go_wp2_with (go_at_call 27; refine hadd.mono ?_; rintro e w2 ⟨rfl, g2, hT2⟩)
          have hT3 := Lib.hid (hT2 (by first | trivial | rfl))
          rw [← hts.out] at hT3
          have hG3 := Lib.hid (hG1.out.trans g2)
          have hR3 : Hid ((ra, re) = newRes (L.take (i + 1)) (L.drop (i + 1))) := Lib.hid (by rw [hts.out]; exact hR1.out)
          clear hT2
          exact ⟨⟨i + 1, by go_num, by omega, hT3, hG3, hR3⟩, by simp [RowKit.intOf]; omega⟩
        · rw [if_neg ha] at hR1
          obtain ⟨rfl, rfl⟩ : ra = i ∧ re = ae := by simpa using hR1
          have hnb : (re != 0) = true := by simpa using ha
          replace ha := Lib.hid ha
          clear hR1
          go_wp2_with (go_at_call 27; refine hadd.mono ?_; rintro e w2 ⟨rfl, g2, hT2⟩)
          go_ret3
          exact ⟨none, rfl, hG1.out.trans g2, .inr ⟨ha.out, rfl⟩⟩
      · obtain rfl : n = i := by omega
        have hR1 := hR.out
        rw [hn.out, List.drop_length, newRes] at hR1
        simp at hR1
        obtain ⟨rfl, rfl⟩ := hR1
        have hT1 := hT.out
        rw [hn.out, List.take_length] at hT1
        replace hT1 := Lib.hid hT1
        clear hT hR
        go_wp2
        go_ret3
        obtain ⟨rt, ve, nd, mp, hT2⟩ := hT1.out
        exact ⟨_, rfl, hG.out, .inl ⟨rfl, t, rt, ve, nd, mp, rfl, hT2⟩⟩
end Go.Proofs.Ytlnplompnabmlaa

/-
  LAYER 9 (trie): walk, with whatever is told of each node that it comes to.
-/
namespace Go.Proofs.Ytlnplompnabmlaa
set_option maxRecDepth 100000
open Go.RowKit Go.Lib
attribute [local go_sem] Oper.semAt_some

/-- What each node is handed to: a closure over two variables, in a state KS i when i nodes were handed over. -/
structure SeesOk (g : Nat) (pa pb : Value) (Q P : Nat → Prop) (t : Nat) (L : List Ent) (n : Int) (rt : Nat) (ve : Value) (nd mp : List Int → Option Nat) (v : Value) (l : List Int) (KS : Nat → World → Prop) : Prop where
  enter : ∀ args W, (callFunc g args).run Try.prog W = .ok (.enter g args) W
  call : ∀ i b W, KS i W → i ≤ l.length → nd (l.take i) = some b → Calls Try.prog g #[.int .i64 (i : Int), .pointer (some ⟨b, 0, none⟩), pa, pb] W fun e W' => e = .returned (.tuple #[]) ∧ KS (i + 1) W'
  at_ : ∀ i W, KS i W → TrieAt Q W t L n rt ve nd mp
  rd : ∀ i W, KS i W → SR P 1 W v l.length (rc l)

/-- How far the way along l goes: so many nodes. -/
def Far (nd : List Int → Option Nat) (l : List Int) (m : Nat) : Prop := m ≤ l.length + 1 ∧ (∀ j, j < m → nd (l.take j) ≠ none) ∧ (m ≤ l.length → nd (l.take m) = none)

set_option maxHeartbeats 8000000 in
theorem walk_any (g : Nat) (pa pb : Value) (Q P : Nat → Prop) (t : Nat) (L : List Ent) (n : Int) (rt : Nat) (ve : Value) (nd mp : List Int → Option Nat) (v : Value) (l : List Int) (KS : Nat → World → Prop) (N : SeesOk g pa pb Q P t L n rt ve nd mp v l KS) (w : World) (hK : KS 0 w) :
    Calls Try.prog 35 #[.pointer (some ⟨t, 0, none⟩), v, .func (.func g) #[] #[pa, pb]] w fun e w' => e = .returned (.tuple #[]) ∧ ∃ m, KS m w' ∧ Far nd l m := by
  have hT := N.at_ 0 w hK
  have hM := isMade_made t rt ve n w hT.tr
  have c0 := hT.tr.c0
  have hroot := hT.root
  obtain ⟨a, c, rfl, hc, hm⟩ := (N.rd 0 w hK).form
  unfold maxLen at hm
  have hent := N.enter
  have hc0 := N.call 0 rt w hK (Nat.zero_le _) (by simpa using hroot)
  obtain ⟨k, hk⟩ : ∃ k, k = l.length := ⟨_, rfl⟩
  rw [← hk] at hc ⊢
  replace hk := Lib.hid hk
  replace hroot := Lib.hid hroot
  clear hT
  have hzero : ((0 : Nat) : Int) = 0 := rfl
  rw [hzero] at hc0
  clear hzero
  go_enter Try.func35, Try.ntmps35
  go_wp2_with first
    | (go_at_call 30; refine hM.mono ?_; rintro e w' ⟨rfl, rfl⟩)
    | (refine hc0.mono ?_; clear hc0; rintro e w2 ⟨rfl, hK1⟩)
  have hF0 : Hid (∀ j, j ≤ 0 → nd (l.take j) ≠ none) := Lib.hid (fun j hj => by obtain rfl : j = 0 := (by omega); simp [hroot.out])
  go_loopw [6, 7, 8, 21] (fun vn _ _ vi wr => ∃ i b : Nat, vi = .int .i64 (i : Int) ∧ i ≤ k ∧ vn = .pointer (some ⟨b, 0, none⟩) ∧ Hid (nd (l.take i) = some b) ∧ Hid (KS (i + 1) wr) ∧ Hid (∀ j, j ≤ i → nd (l.take j) ≠ none)) (fun _ _ _ vi _ => k - (RowKit.intOf vi).toNat)
  case atStart => exact ⟨0, rt, rfl, Nat.zero_le _, rfl, Lib.hid (by simpa using hroot.out), Lib.hid (by simpa using hK1), hF0⟩
  case round =>
    obtain ⟨i, b, rfl, hi, rfl, hb, hKi, hF⟩ := hrel
    by_cases hlt : i < k
    · have hltz : (i : Int) < (k : Int) := by omega
      obtain ⟨u, hu⟩ : ∃ u, l[i]? = some u := ⟨_, List.getElem?_eq_getElem (by have := hk.out; omega)⟩
      have hts := Lib.hid (take_snoc hu)
      have hrr := N.rd _ _ hKi.out
      obtain ⟨ba, off, rfl, _, cu⟩ := rc_get hrr hu
      have hA := N.at_ _ _ hKi.out
      have hN := (hA.tree.node _ _ hb.out).2
      have c1 := hN.c1
      have hlk := hA.tree.lookup (l.take i) u
      obtain ⟨o, ho⟩ : ∃ o, o = nd (l.take i ++ [u]) := ⟨_, rfl⟩
      rw [← ho] at hlk
      replace ho := Lib.hid ho
      generalize mp (l.take i) = mo at c1 hlk
      clear hrr hu hA hN c0 hM
      cases o with
      | none =>
        unfold ptrV at hlk
        have hfar : Hid (Far nd l (i + 1)) := Lib.hid ⟨by have := hk.out; omega, fun j hj => hF.out j (by omega), fun _ => by rw [hts.out]; exact ho.out.symm⟩
        go_wp2_with fail
        refine bodyPost_ret (results_none rfl _ _ _) rfl ?_
        exact ⟨rfl, i + 1, hKi.out, hfar.out⟩
      | some d =>
        unfold ptrV at hlk
        have hcd := N.call (i + 1) d wr hKi.out (by have := hk.out; omega) (by rw [hts.out]; exact ho.out.symm)
        have hcast : ((i + 1 : Nat) : Int) = (i : Int) + 1 := by omega
        rw [hcast] at hcd
        clear hcast
        have hb2 : Hid (nd (l.take (i + 1)) = some d) := Lib.hid (by rw [hts.out]; exact ho.out.symm)
        have hF2 : Hid (∀ j, j ≤ i + 1 → nd (l.take j) ≠ none) := Lib.hid (fun j hj => by
          by_cases e : j ≤ i
          · exact hF.out j e
          · obtain rfl : j = i + 1 := by omega
            rw [hb2.out]; simp)
        go_wp2_with (refine hcd.mono ?_; clear hcd; rintro e w3 ⟨rfl, hK3⟩; replace hK3 := Lib.hid hK3)
        exact ⟨⟨i + 1, d, by go_num, by omega, rfl, hb2, hK3, hF2⟩, by simp [RowKit.intOf]; omega⟩
    · obtain rfl : k = i := by omega
      have hfar : Hid (Far nd l (k + 1)) := Lib.hid ⟨by have := hk.out; omega, fun j hj => hF.out j (by omega), fun h => by have := hk.out; omega⟩
      clear c0 hM
      go_wp2
      go_end0
      exact ⟨rfl, k + 1, hKi.out, hfar.out⟩
end Go.Proofs.Ytlnplompnabmlaa

/-
  LAYER 9 (trie): find; an entry's elements.
-/
namespace Go.Proofs.Ytlnplompnabmlaa
set_option maxRecDepth 100000
open Go.RowKit Go.Lib
attribute [local go_sem] Oper.semAt_some

theorem walk_nobody (po : Option Addr) (v fv : Value) (w : World) (h : NonePtr w po) :
    Calls Try.prog 35 #[.pointer po, v, fv] w fun e w' => e = .returned (.tuple #[]) ∧ w = w' := by
  have hm := isMade_nobody po w h
  clear h
  go_enter Try.func35, Try.ntmps35
  go_wp2_with (go_at_call 30; refine hm.mono ?_; rintro e w' ⟨rfl, rfl⟩)
  refine bodyPost_ret (results_none rfl _ _ _) rfl ?_
  exact ⟨rfl, rfl⟩

/-- One cell in a block of its own. -/
def Box (w : World) (b : Nat) (e : TypeId) (v : Value) : Prop := w.heap[b]? = some (.cells #[v] e (0, 0))
section
variable {w w' : World} {b : Nat} {e : TypeId} {v : Value}
theorem Box.c0 (h : Box w b e v) : w.cell? ⟨b, 0, none⟩ = some v := by simp [World.cell?, show _ = _ from h]
theorem Box.free (h : Box w b e v) (o : Nat) : w.frozen? ⟨b, o, none⟩ = false := by simp [World.frozen?, show _ = _ from h]
theorem Box.lt (h : Box w b e v) : b < w.heap.size := lt_of_block h
theorem Box.set (h : Box w b e v) (x : Value) : Box (w.setCell ⟨b, 0, none⟩ x) b e x := heap_setCell_same w b 0 _ _ _ h
theorem Box.kept {r : Option Nat} (h : Box w b e v) (hg : w.grownBy w' r) (hr : r ≠ some b) : Box w' b e v := (hg.block b h.lt (fun e => hr e.symm)).trans h
theorem Box.new (h : Box w b e v) (hg : w.grownBy w' none) : Box w' b e v := h.kept hg (by simp)
end

theorem NonePtr.new {w w' : World} {po : Option Addr} (h : NonePtr w po) (g : w.grownBy w' none) : NonePtr w' po :=
  h.imp id (fun ⟨z, ve, n, e, hz⟩ => ⟨z, ve, n, e, (g.block z hz.lt (by simp)).trans hz⟩)

set_option maxHeartbeats 1000000 in
theorem find_nobody (po : Option Addr) (v : Value) (w : World) (h : NonePtr w po) (hv : ∃ a n c, v = .slice a n c) :
    Calls Try.prog 32 #[.pointer po, v] w fun e w' => e = .returned (.pointer none) ∧ w.grownBy w' none := by
  obtain ⟨a, n, c, rfl⟩ := hv
  have g1 := World.grownBy_alloc w (.cells #[.slice a n c] 32) none
  have g2 := galloc g1 (.cells #[.pointer none] 55)
  have e1 : Box ((w.alloc (.cells #[.slice a n c] 32)).alloc (.cells #[.pointer none] 55)) w.heap.size 32 (.slice a n c) := ((World.grownBy_alloc (w.alloc (.cells #[.slice a n c] 32)) (.cells #[.pointer none] 55) none).block _ (by simp) (by simp)).trans (World.alloc_heap_new w _)
  have e2 : Box ((w.alloc (.cells #[.slice a n c] 32)).alloc (.cells #[.pointer none] 55)) (w.heap.size + 1) 55 (.pointer none) := by
    have := World.alloc_heap_new (w.alloc (.cells #[.slice a n c] 32)) (.cells #[.pointer none] 55)
    rw [World.size_alloc] at this
    exact this
  have hW := fun fv => walk_nobody po (.slice a n c) fv _ (h.new g2)
  have c1 := e1.c0
  have c2 := e2.c0
  clear e1 e2 h
  obtain ⟨W, hWd⟩ : ∃ W, W = (w.alloc (.cells #[.slice a n c] 32)).alloc (.cells #[.pointer none] 55) := ⟨_, rfl⟩
  rw [← hWd] at g2 hW c1 c2
  go_enter Try.func32, Try.ntmps32
  go_wp2_with fail
  rw [← hWd]
  clear hWd g1
  refine (hW _).mono ?_
  rintro e w' ⟨rfl, rfl⟩
  go_wp2
  go_ret
  exact ⟨rfl, g2⟩

/-- What a closure of find has found behind i nodes. -/
def foundV (nd : List Int → Option Nat) (l : List Int) (i : Nat) : Value := if i = l.length + 1 then ptrV (nd l) else .pointer none
def FindS (w : World) (v : Value) (Q P : Nat → Prop) (t : Nat) (L : List Ent) (n : Int) (rt : Nat) (ve : Value) (nd mp : List Int → Option Nat) (l : List Int) (b : Nat) (i : Nat) (W : World) : Prop :=
  TrieAt Q W t L n rt ve nd mp ∧ SR P 1 W v l.length (rc l) ∧ Box W b 32 v ∧ Box W (b + 1) 55 (foundV nd l i) ∧ w.grownBy W none ∧ i ≤ l.length + 1

set_option maxHeartbeats 2000000 in
theorem find_sees (w : World) (v : Value) (Q P : Nat → Prop) (t : Nat) (L : List Ent) (n : Int) (rt : Nat) (ve : Value) (nd mp : List Int → Option Nat) (l : List Int) (b : Nat) (hb : w.heap.size ≤ b) (h0 : TrieAt Q w t L n rt ve nd mp) (hv0 : SR P 1 w v l.length (rc l)) :
    SeesOk 46 (.pointer (some ⟨b, 0, none⟩)) (.pointer (some ⟨b + 1, 0, none⟩)) Q P t L n rt ve nd mp v l (FindS w v Q P t L n rt ve nd mp l b) where
  enter := fun args W => by kernel_rfl
  at_ := fun i W h => h.1
  rd := fun i W h => h.2.1
  call := fun i c W h hi hc => by
    obtain ⟨hT, hv, b1, b2, hg, _⟩ := h
    have hfin : ∀ x, x = foundV nd l (i + 1) → FindS w v Q P t L n rt ve nd mp l b (i + 1) (W.setCell ⟨b + 1, 0, none⟩ x) := fun x hx => by
      have g := gnew hg (gset (World.grownBy.refl W (some (b + 1))) 0 x) (fun r e => by simp at e; left; omega)
      exact ⟨h0.new g, hv0.new g, b1.kept (gset (World.grownBy.refl W (some (b + 1))) 0 x) (by simp), by rw [← hx]; exact b2.set x, g, by omega⟩
    have hkeep : i ≠ l.length → FindS w v Q P t L n rt ve nd mp l b (i + 1) W := fun hne => by
      refine ⟨hT, hv, b1, ?_, hg, by omega⟩
      have e : foundV nd l (i + 1) = foundV nd l i := by unfold foundV; rw [if_neg (by omega), if_neg (by omega)]
      rw [e]; exact b2
    have c1 := b1.c0
    have f2 := b2.free 0
    have c2 := b2.c0
    obtain ⟨a, cap, hve, _⟩ := hv.form
    rw [hve] at c1
    clear hve
    by_cases he : i = l.length
    · have hf2 := hfin (.pointer (some ⟨c, 0, none⟩)) (by unfold foundV; rw [if_pos (by omega)]; subst he; rw [List.take_length] at hc; rw [hc]; rfl)
      have hq : ((i : Int) == (l.length : Int)) = true := by simp [he]
      replace hf2 := Lib.hid hf2
      replace he := Lib.hid he
      clear hfin hkeep hT hv hv0 h0 b1 b2
      generalize foundV nd l i = fv at c2
      go_enter Try.func46, Try.ntmps46
      go_wp2
      go_end0
      exact ⟨rfl, hf2.out⟩
    · have hk := Lib.hid (hkeep he)
      have hq : ((i : Int) == (l.length : Int)) = false := by simp; omega
      clear hfin hkeep hT hv hv0 h0 b1 b2
      go_enter Try.func46, Try.ntmps46
      go_wp2
      go_end0
      exact ⟨rfl, hk.out⟩

theorem far_full {Q : Nat → Prop} {w : World} {t : Nat} {L : List Ent} {n : Int} {rt : Nat} {ve : Value} {nd mp : List Int → Option Nat} (h : TrieAt Q w t L n rt ve nd mp) {l : List Int} {m : Nat} (hf : Far nd l m) : foundV nd l m = ptrV (nd l) := by
  unfold foundV
  by_cases e : m = l.length + 1
  · rw [if_pos e]
  · rw [if_neg e]
    obtain ⟨h1, h2, h3⟩ := hf
    have h4 := h3 (by omega)
    cases hl : nd l with
    | none => rfl
    | some b =>
      exfalso
      have h5 := (h.dom l).1 (by rw [hl]; simp)
      have h6 : l.take m <+: l := List.take_prefix _ _
      refine (h.dom (l.take m)).2 ?_ h4
      rcases h5 with e | ⟨x, hx, hp⟩
      · left; rw [e]; simp
      · exact .inr ⟨x, hx, h6.trans hp⟩

set_option maxHeartbeats 2000000 in
theorem find_any (Q P : Nat → Prop) (t : Nat) (L : List Ent) (n : Int) (rt : Nat) (ve : Value) (nd mp : List Int → Option Nat) (v : Value) (l : List Int) (w : World) (h : TrieAt Q w t L n rt ve nd mp) (hv : SR P 1 w v l.length (rc l)) :
    Calls Try.prog 32 #[.pointer (some ⟨t, 0, none⟩), v] w fun e w' => e = .returned (ptrV (nd l)) ∧ w.grownBy w' none := by
  have hS := find_sees w v Q P t L n rt ve nd mp l w.heap.size (Nat.le_refl _) h hv
  have hv0 := hv
  obtain ⟨a, c, rfl, _⟩ := hv.form
  have g1 := World.grownBy_alloc w (.cells #[.slice a l.length c] 32) none
  have g2 := galloc g1 (.cells #[.pointer none] 55)
  have e1 : Box ((w.alloc (.cells #[.slice a l.length c] 32)).alloc (.cells #[.pointer none] 55)) w.heap.size 32 (.slice a l.length c) := ((World.grownBy_alloc (w.alloc (.cells #[.slice a l.length c] 32)) (.cells #[.pointer none] 55) none).block _ (by simp) (by simp)).trans (World.alloc_heap_new w _)
  have e2 : Box ((w.alloc (.cells #[.slice a l.length c] 32)).alloc (.cells #[.pointer none] 55)) (w.heap.size + 1) 55 (.pointer none) := by
    have := World.alloc_heap_new (w.alloc (.cells #[.slice a l.length c] 32)) (.cells #[.pointer none] 55)
    rw [World.size_alloc] at this
    exact this
  have hst : FindS w (.slice a l.length c) Q P t L n rt ve nd mp l w.heap.size 0 ((w.alloc (.cells #[.slice a l.length c] 32)).alloc (.cells #[.pointer none] 55)) :=
    ⟨h.new g2, hv.new g2, e1, by unfold foundV; rw [if_neg (by omega)]; exact e2, g2, by omega⟩
  have hW := walk_any _ _ _ Q P t L n rt ve nd mp _ l _ hS _ hst
  have c1 := e1.c0
  obtain ⟨po, hpo⟩ : ∃ po, ptrV (nd l) = .pointer po := by cases nd l <;> exact ⟨_, rfl⟩
  rw [hpo]
  replace hpo := Lib.hid hpo
  clear e1 e2 hst hv hv0 hS g1 g2
  obtain ⟨W, hWd⟩ : ∃ W, W = (w.alloc (.cells #[.slice a l.length c] 32)).alloc (.cells #[.pointer none] 55) := ⟨_, rfl⟩
  rw [← hWd] at hW c1
  go_enter Try.func32, Try.ntmps32
  go_wp2_with fail
  rw [← hWd]
  clear hWd
  refine hW.mono ?_
  rintro e w' ⟨rfl, m, ⟨q1, q2, q3, q4, q5, _⟩, hfar⟩
  rw [far_full q1 hfar, hpo.out] at q4
  have d := q4.c0
  clear hpo q4
  go_wp2
  go_ret
  exact ⟨rfl, q5⟩
end Go.Proofs.Ytlnplompnabmlaa

/-
  LAYER 9 (trie): the iterators of a trie that nobody made: they tell nothing.
-/
namespace Go.Proofs.Ytlnplompnabmlaa
set_option maxRecDepth 100000
open Go.RowKit Go.Lib
attribute [local go_sem] Oper.semAt_some

theorem Box.zk {Z : Nat → Prop} {A B : World} {b : Nat} {e : TypeId} {v : Value} (h : Box A b e v) (hk : ZK Z A B) (hz : Z b) : Box B b e v := (hk.2 b h.lt hz).trans h

/-- What is told of an entry: its number, its code points and elements in memory of their own. -/
structure Tl where
  i : Nat
  a : Option Addr
  n : Nat
  b : Option Addr
  m : Nat
def Tl.agg (x : Tl) : Value := .agg #[.slice x.a x.n x.n, .slice x.b x.m x.m]
def nEnc (x : Tl) : Array Value := #[.int .i64 (x.i : Int), .agg #[.slice x.a x.n x.n, .slice x.b x.m x.m]]
def eEnc (x : Tl) : Array Value := #[.agg #[.slice x.a x.n x.n, .slice x.b x.m x.m]]
def nNone (xs : List Tl) (_W : World) : Prop := xs = []

set_option maxHeartbeats 2000000 in
theorem from1_none (n q3 q2 : Nat) (Z0 : Nat → Prop) (w : World) (hb : Box w q3 55 (.pointer none)) (hz3 : Z0 q3) :
    TellsZ Fence.wide n Try.prog 49 #[.pointer (some ⟨q3, 0, none⟩), .pointer (some ⟨q2, 0, none⟩)] nEnc (fun _ _ _ => False) Z0 nNone (fun _ _ => False) w := by
  intro l J Jx W Z hzk hz0 hzl hzn hll hJ hJx hY h0
  have hbW := hb.zk hzk hz3
  have g1 := World.grownBy_alloc W (.cells #[.func (.yield l) #[] #[]] 89) none
  have c1 := (hbW.new g1).c0
  have hJ1 := Lib.hid (hJ.more Z Z [] _ _ h0 g1 (fun _ h => h) (fun _ h => .inl h))
  have hz1 : ∀ k, Z k → k < (W.alloc (.cells #[.func (.yield l) #[] #[]] 89)).heap.size := fun k h => Nat.lt_of_lt_of_le (hzl k h) g1.size
  replace hz1 := Lib.hid hz1
  clear hJ hJx hY h0 hzk hb g1 hzn
  refine callsIn_of_wp Try.func49 rfl trivial ?_ rfl
  simp only [Try.ntmps49, List.size_toArray, List.length_cons, List.length_nil, Nat.reduceAdd, Nat.reduceSub, Array.replicate_succ, Array.replicate_zero, List.push_toArray, List.append_toArray, List.nil_append, List.cons_append]
  gi_wp2
  refine bodyPost_ret (results_none rfl _ _ _) rfl ?_
  exact ⟨⟨_, rfl⟩, Z, fun _ h => h, hz1.out, .inl ⟨[], rfl, hJ1.out⟩⟩

set_option maxHeartbeats 4000000 in
theorem under1_none (n eb q3 q2 : Nat) (Z0 : Nat → Prop) (w : World) (he : Box w eb 46 (.func (.func 49) #[] #[.pointer (some ⟨q3, 0, none⟩), .pointer (some ⟨q2, 0, none⟩)])) (hb : Box w q3 55 (.pointer none)) (hz3 : Z0 q3) (hze : Z0 eb) :
    TellsZ Fence.wide (n + 5) Try.prog 40 #[.pointer (some ⟨eb, 0, none⟩)] eEnc (fun _ _ _ => False) Z0 nNone (fun _ _ => False) w := by
  intro l J Jx W Z hzk hz0 hzl hzn hll hJ hJx hY h0
  have hbW := hb.zk hzk hz3
  have heW := he.zk hzk hze
  have g1 := World.grownBy_alloc W (.cells #[.func (.yield l) #[] #[]] 82) none
  have c1 := (heW.new g1).c0
  have hb1 := hbW.new g1
  have hJ1 := Lib.hid (hJ.more Z Z [] _ _ h0 g1 (fun _ h => h) (fun _ h => .inl h))
  have hz1 : ∀ k, Z k → k < (W.alloc (.cells #[.func (.yield l) #[] #[]] 82)).heap.size := fun k h => Nat.lt_of_lt_of_le (hzl k h) g1.size
  have hs1 : W.heap.size ≤ (W.alloc (.cells #[.func (.yield l) #[] #[]] 82)).heap.size := g1.size
  have hZ3 := hz0 _ hz3
  clear hJx hY h0 hzk hb g1 hzn he heW hbW
  refine callsIn_of_wp_marks Try.func40 rfl trivial ?_ rfl
  simp only [Try.ntmps40, List.size_toArray, List.length_cons, List.length_nil, Nat.reduceAdd, Nat.reduceSub, Array.replicate_succ, Array.replicate_zero, List.push_toArray, List.append_toArray, List.nil_append, List.cons_append]
  gi_wp2_with fail
  generalize W.alloc (.cells #[.func (.yield l) #[] #[]] 82) = V at *
  refine range_tellsZ rfl (by omega) (gf := 49) (lb := #[.pointer (some ⟨q3, 0, none⟩), .pointer (some ⟨q2, 0, none⟩)]) rfl trivial (enters_of Try.func49 (by kernel_rfl) rfl)
    (from1_none _ q3 q2 Z V hb1 hZ3) hz1 (fun _ => rfl) (fun _ _ _ _ _ _ h _ _ _ => h) (fun Z' _ A => J Z' [] A ∧ V.heap.size ≤ A.heap.size) (fun _ _ _ _ => False) ?hn ?hI ?hIx ⟨hJ1.out, Nat.le_refl _⟩ (fun _ _ _ => True) (fun _ _ _ _ h _ => h) (fun _ _ _ _ _ _ _ _ _ _ => trivial) ?assign ?body ?done ?stop
  case hn => exact fun Z s A h => h.2
  case hI =>
    exact ⟨fun Z' Z'' s A B h g h1 h2 => ⟨hJ.more _ _ _ _ _ h.1 g h1 h2, Nat.le_trans h.2 g.size⟩, fun Z' s A B q h h1 h2 g => ⟨hJ.own _ _ _ _ q h.1 h1 (by omega) g, Nat.le_trans h.2 g.size⟩⟩
  case hIx => exact fun c => ⟨fun _ _ _ _ _ h _ _ _ => h.elim, fun _ _ _ _ _ h _ _ _ => h.elim⟩
  case assign =>
    intro l' x W' K hK
    unfold nEnc
    gi_wp2_with fail
    exact hK _ _ (World.grownBy_alloc W' _ none) trivial
  case body =>
    intro l' Z' pre x a' W' _ _ _ h
    exact h.elim
  case stop =>
    rintro D c Z' pre A B _ _ _ _ h
    exact h.elim
  case done =>
    rintro D Z' xs A B hD hZD hz' hzl' hS ⟨hj, hsz⟩ gD hM
    have gp := grownBy_putObj' B D (.deferred none)
    have hj2 := Lib.hid (hJ.own _ _ _ _ D hj hZD (by omega) gp)
    have hzz := Lib.hid hzl'
    have hz'' := Lib.hid hz'
    clear hj gp hJ hS gD hz' hzl' hJ1 hzl hz1 hz0
    gi_wp2_with fail
    refine ⟨by simp, .inl ⟨_, _, rfl, run_takeDeferred hM, ?_⟩⟩
    simp [LeavesInM, LeavesIn, results, Try.results40, go_sem]
    exact ⟨Z', hz''.out, hzz.out, [], rfl, hj2.out⟩
end Go.Proofs.Ytlnplompnabmlaa
