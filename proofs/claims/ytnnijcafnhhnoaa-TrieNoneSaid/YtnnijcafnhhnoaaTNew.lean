/-
  LAYER 9 (trie): New.
-/
import Derived.Test.YtnnijcafnhhnoaaTAdd
namespace Go.Proofs.Ytnnijcafnhhnoaa
set_option maxRecDepth 100000
open Go.RowKit Go.Lib
attribute [local go_sem] Oper.semAt_some

/-- Where the first entry stands that may not be, and why. -/
def newRes : List Ent → List Ent → Nat × Int
  | _, [] => (0, 0)
  | done, x :: rest => if addErr done x = 0 then newRes (done ++ [x]) rest else (done.length, addErr done x)
/-- What New tells. -/
def newAll (L : List Ent) : Nat × Int := if 4000 < L.length then (0, 2) else newRes [] L

theorem pc_get {P : Nat → Prop} {w : World} {a : Option Addr} {m c : Nat} {vs : List (Value × Value)} {n : Nat} (h : SR P 2 w (.slice a m c) n (pc vs)) (hn : vs.length = n) {i : Nat} {p : Value × Value} (hp : vs[i]? = some p) : ∃ b off, a = some ⟨b, off, none⟩ ∧ P b ∧ w.cell? ⟨b, off + i * 2, none⟩ = some p.1 ∧ w.cell? ⟨b, off + i * 2 + 1, none⟩ = some p.2 := by
  obtain ⟨b, off, q1, q2, q3⟩ := h.get (i := i) (by rw [← hn]; exact (List.getElem?_eq_some_iff.1 hp).1)
  obtain ⟨e0, e1⟩ := pc_at vs i p hp
  obtain ⟨x0, h0, c0⟩ := q3 0 (by omega)
  obtain ⟨x1, h1, c1⟩ := q3 1 (by omega)
  rw [Nat.add_zero, e0] at h0
  rw [e1] at h1
  cases h0; cases h1
  exact ⟨b, off, q1, q2, by simpa using c0, by simpa [Nat.add_assoc] using c1⟩
theorem ents_get {P : Nat → Prop} {w : World} {a : Option Addr} {m c : Nat} {L : List Ent} (h : EntsR P w (.slice a m c) L) {i : Nat} {x : Ent} (hx : L[i]? = some x) : ∃ b off vc ve, a = some ⟨b, off, none⟩ ∧ P b ∧ w.cell? ⟨b, off + i * 2, none⟩ = some vc ∧ w.cell? ⟨b, off + i * 2 + 1, none⟩ = some ve ∧ EntR P w vc ve x := by
  obtain ⟨vs, h1, h2, h3⟩ := h
  have hi := (List.getElem?_eq_some_iff.1 hx).1
  obtain ⟨p, hp⟩ : ∃ p, vs[i]? = some p := ⟨_, List.getElem?_eq_getElem (by omega)⟩
  obtain ⟨b, off, q1, q2, q3, q4⟩ := pc_get h2 h1 hp
  exact ⟨b, off, p.1, p.2, q1, q2, q3, q4, h3 i x p hx hp⟩

theorem trie_start {Q : Nat → Prop} {w1 : World} {r : Nat} (hN : NodeAt w1 r (-1) none) (hr : Q r) (ht : Q w1.heap.size) : ∃ rt ve nd mp, TrieAt Q (w1.alloc (.cells #[.pointer (some ⟨r, 0, none⟩), .slice none 0 0, .int .i64 0] 62)) w1.heap.size [] 0 rt ve nd mp := by
  have g := World.grownBy_alloc w1 (.cells #[.pointer (some ⟨r, 0, none⟩), .slice none 0 0, .int .i64 0] 62) none
  have hT : TrAt (w1.alloc (.cells #[.pointer (some ⟨r, 0, none⟩), .slice none 0 0, .int .i64 0] 62)) w1.heap.size (some ⟨r, 0, none⟩) (.slice none 0 0) 0 := World.alloc_heap_new w1 _
  generalize w1.alloc (.cells #[.pointer (some ⟨r, 0, none⟩), .slice none 0 0, .int .i64 0] 62) = W at *
  refine ⟨r, .slice none 0 0, upd (fun _ => none) [] (some r), fun _ => none, ?_⟩
  have e0 : ∀ p, upd (fun _ => none) [] (some r) p = if p = [] then some r else none := fun p => rfl
  exact {
    tr := hT
    tq := ht
    root := upd_same _ _ _
    tree := {
      node := fun p b e => by
        rw [e0] at e
        by_cases hp : p = []
        · subst hp
          simp at e
          subst e
          exact ⟨hr, (g.block r hN.lt (by simp)).trans hN⟩
        · simp [hp] at e
      inj := fun p q b e1 e2 => by
        rw [e0] at e1 e2
        by_cases hp : p = []
        · by_cases hq : q = []
          · rw [hp, hq]
          · simp [hq] at e2
        · simp [hp] at e1
      nokid := fun p _ x => by rw [e0]; simp
      kids := fun p m e => by cases e
      minj := fun p q m e => by cases e
      up := fun p _ => rfl
      unn := fun p _ => rfl }
    dom := fun p => by
      rw [e0]
      by_cases hp : p = []
      · simp [hp]
      · simp [hp]
    ents := EntsO.nil _ _ }

def NewQ (w : World) (L : List Ent) (re : Int) (po : Option Addr) (w' : World) : Prop :=
  GP (fun k => w.heap.size ≤ k) w w' ∧ ((re = 0 ∧ ∃ t rt ve nd mp, po = some ⟨t, 0, none⟩ ∧ TrieAt (fun k => w.heap.size ≤ k) w' t L 0 rt ve nd mp) ∨ (re ≠ 0 ∧ po = none))

set_option maxHeartbeats 8000000 in
theorem new_any (v : Value) (L : List Ent) (w : World) (h : EntsR (fun k => k < w.heap.size) w v L) :
    Calls Try.prog 9 #[v] w fun e w' => ∃ po, e = .returned (.tuple #[.pointer po, .int .i64 ((newAll L).1 : Int), .int .i64 (newAll L).2]) ∧ NewQ w L (newAll L).2 po w' := by
  obtain ⟨a, c, rfl, hc, hm⟩ : ∃ a c, v = .slice a L.length c ∧ L.length ≤ c ∧ c ≤ maxLen := by obtain ⟨vs, _, h2, _⟩ := h; exact h2.form
  unfold maxLen at hm
  obtain ⟨ra, hra⟩ : ∃ r, r = (newAll L).1 := ⟨_, rfl⟩
  obtain ⟨re, hre⟩ : ∃ r, r = (newAll L).2 := ⟨_, rfl⟩
  rw [← hra, ← hre]
  replace h := Lib.hid h
  obtain ⟨n, hn⟩ : ∃ n, n = L.length := ⟨_, rfl⟩
  rw [← hn] at hc ⊢
  replace hn := Lib.hid hn
  by_cases hbig : 4000 < n
  · have e : newAll L = (0, 2) := by unfold newAll; rw [if_pos (by rw [← hn.out]; exact hbig)]
    rw [e] at hra hre
    dsimp only at hra hre
    subst hra hre
    clear e
    go_enter Try.func9, Try.ntmps9
    go_wp2
    go_ret3
    exact ⟨none, rfl, GP.refl _ _, .inr ⟨by decide, rfl⟩⟩
  · have e : newAll L = newRes [] L := by unfold newAll; rw [if_neg (by rw [← hn.out]; exact hbig)]
    rw [e] at hra hre
    replace hra := Lib.hid hra
    replace hre := Lib.hid hre
    clear e
    go_enter Try.func9, Try.ntmps9
    go_wp2_with (go_at_call 26; refine (newNode_any _).mono ?_; rintro e w1 ⟨rfl, hN1, g1, s1⟩; clear s1)
    have hT0 := trie_start (Q := fun k => w.heap.size ≤ k) hN1 (Nat.le_refl _) g1.size
    have gt := g1.trans (World.grownBy_alloc w1 (.cells #[.pointer (some ⟨w.heap.size, 0, none⟩), .slice none 0 0, .int .i64 0] 62) none)
    generalize w1.alloc (.cells #[.pointer (some ⟨w.heap.size, 0, none⟩), .slice none 0 0, .int .i64 0] 62) = W at *
    generalize w1.heap.size = t at *
    replace hT0 := Lib.hid hT0
    clear hN1 g1
    go_loopw [6, 7, 8, 17] (fun _ _ _ vi wr => ∃ i : Nat, vi = .int .i64 (i : Int) ∧ i ≤ n ∧ Hid (∃ rt ve nd mp, TrieAt (fun k => w.heap.size ≤ k) wr t (L.take i) 0 rt ve nd mp) ∧ Hid (GP (fun k => w.heap.size ≤ k) w wr) ∧ Hid ((ra, re) = newRes (L.take i) (L.drop i))) (fun _ _ _ vi _ => n - (RowKit.intOf vi).toNat)
    case atStart => exact ⟨0, rfl, Nat.zero_le _, by simpa using hT0, Lib.hid (GP.new gt), Lib.hid (by rw [hra.out, hre.out]; simp)⟩
    case round =>
      obtain ⟨i, rfl, hi, hT, hG, hR⟩ := hrel
      by_cases hlt : i < n
      · have hltz : (i : Int) < (n : Int) := by omega
        obtain ⟨x, hx⟩ : ∃ x, L[i]? = some x := ⟨_, List.getElem?_eq_getElem (by have := hn.out; omega)⟩
        have hdrop : L.drop i = x :: L.drop (i + 1) := by
          obtain ⟨hl, rfl⟩ := List.getElem?_eq_some_iff.1 hx
          exact List.drop_eq_getElem_cons hl
        have hts := Lib.hid (show L.take (i + 1) = L.take i ++ [x] by rw [List.take_add_one, hx]; rfl)
        have hR1 := hR.out
        rw [hdrop, newRes] at hR1
        have hgz := hG.out.2.2.2.1
        have hrr := h.out.heap (w' := wr) (fun k hk _ => hG.out.2.2.2.2 k hk (by omega))
        obtain ⟨b, off, vc, ve0, rfl, _, c0, c1, hE⟩ := ents_get (c := c) hrr hx
        obtain ⟨xa, xc, rfl, _⟩ := hE.1.form
        obtain ⟨ya, yc, rfl, _⟩ := hE.2.form
        obtain ⟨vc, hvc⟩ : ∃ vc, vc = Value.slice xa x.codes.length xc := ⟨_, rfl⟩
        obtain ⟨ve0, hve0⟩ : ∃ ve, ve = Value.slice ya x.els.length yc := ⟨_, rfl⟩
        rw [← hvc, ← hve0] at hE
        have gB := World.grownBy_alloc wr (.cells #[vc, ve0] 35) none
        have eB : Two (wr.alloc (.cells #[vc, ve0] 35)) wr.heap.size vc ve0 := World.alloc_heap_new wr _
        have hE1 := hE.new gB
        have hG1 := Lib.hid (hG.out.trans (GP.new gB))
        obtain ⟨rt, ve, nd, mp, hT1⟩ := hT.out
        have hT1 := hT1.new gB
        have hadd := add_entry (fun k => k < w.heap.size) (fun k => w.heap.size ≤ k) vc ve0 x t (L.take i) 0 rt ve nd mp _ hT1 hE1 (fun k h => by omega) (fun k hk => by have := gB.size; omega) (by rw [List.length_take]; omega)
        obtain ⟨ae, hae⟩ : ∃ ae, ae = addErr (L.take i) x := ⟨_, rfl⟩
        have d0 := eB.c0
        have d1 := eB.c1
        rw [hvc, hve0] at hadd d0 d1 hG1
        clear hvc hve0
        unfold AddQ at hadd
        rw [← hae] at hadd hR1
        replace hae := Lib.hid hae
        have hlti : (L.take i).length = i := by rw [List.length_take]; have := hn.out; omega
        rw [hlti] at hR1
        clear hx hdrop hrr hE hE1 hT hT1 eB hR hlti
        by_cases ha : ae = 0
        · subst ha
          rw [if_pos rfl] at hR1
          replace hR1 := Lib.hid hR1
          go_wp2_with (go_at_call 27; refine hadd.mono ?_; rintro e w2 ⟨rfl, g2, hT2⟩)
          have hT3 := Lib.hid (hT2 (by first | trivial | rfl))
          rw [← hts.out] at hT3
          have hG3 := Lib.hid (hG1.out.trans g2)
          have hR3 : Hid ((ra, re) = newRes (L.take (i + 1)) (L.drop (i + 1))) := Lib.hid (by rw [hts.out]; exact hR1.out)
          clear hT2
          exact ⟨⟨i + 1, by go_num, by omega, hT3, hG3, hR3⟩, by simp [RowKit.intOf]; omega⟩
        · rw [if_neg ha] at hR1
          obtain ⟨rfl, rfl⟩ : ra = i ∧ re = ae := by simpa using hR1
          have hnb : (re != 0) = true := by simpa using ha
          replace ha := Lib.hid ha
          clear hR1
          go_wp2_with (go_at_call 27; refine hadd.mono ?_; rintro e w2 ⟨rfl, g2, hT2⟩)
          go_ret3
          exact ⟨none, rfl, hG1.out.trans g2, .inr ⟨ha.out, rfl⟩⟩
      · obtain rfl : n = i := by omega
        have hR1 := hR.out
        rw [hn.out, List.drop_length, newRes] at hR1
        simp at hR1
        obtain ⟨rfl, rfl⟩ := hR1
        have hT1 := hT.out
        rw [hn.out, List.take_length] at hT1
        replace hT1 := Lib.hid hT1
        clear hT hR
        go_wp2
        go_ret3
        obtain ⟨rt, ve, nd, mp, hT2⟩ := hT1.out
        exact ⟨_, rfl, hG.out, .inl ⟨rfl, t, rt, ve, nd, mp, rfl, hT2⟩⟩
end Go.Proofs.Ytnnijcafnhhnoaa
