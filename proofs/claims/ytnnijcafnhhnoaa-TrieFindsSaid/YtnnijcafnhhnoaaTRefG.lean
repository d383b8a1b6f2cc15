/-
  LAYER 9 (trie): the reference's Begins and Longest.
-/
import Derived.Test.YtnnijcafnhhnoaaTRefF
import Derived.Test.YtnnijcafnhhnoaaTLong
import Derived.Test.YtnnijcafnhhnoaaTMakesL
namespace Go.Proofs.Ytnnijcafnhhnoaa
set_option maxRecDepth 100000
open Go.RowKit Go.Lib
attribute [local go_sem] Oper.semAt_some

def morB (p : List Int) (x : Ent) : Bool := decide (p.length < x.codes.length) && decide (p <+: x.codes)
theorem mor_eq (L : List Ent) (p : List Int) : L.any (morB p) = moreThan L p := by
  unfold moreThan
  congr 1
  funext x
  unfold morB
  rw [← Bool.decide_and, decide_eq_decide]
  constructor
  · rintro ⟨h1, h2⟩
    exact ⟨h2, fun e => by rw [e] at h1; omega⟩
  · rintro ⟨h1, h2⟩
    refine ⟨?_, h1⟩
    have := h1.length_le
    by_cases e : p.length = x.codes.length
    · exact absurd (h1.eq_of_length e) h2
    · omega

set_option maxHeartbeats 4000000 in
theorem rbegins_any (P P' : Nat → Prop) (v vc : Value) (L : List Ent) (p : List Int) (w : World) (h : EntsR P w v L) (hp : SR P' 1 w vc p.length (rc p)) :
    Calls Try.prog 19 #[v, vc] w fun e w' => e = .returned (.bool (L.any (morB p))) ∧ w.grownBy w' none := by
  obtain ⟨a, c, rfl, hc, hm⟩ : ∃ a c, v = .slice a L.length c ∧ L.length ≤ c ∧ c ≤ maxLen := by obtain ⟨vs, _, h2, _⟩ := h; exact h2.form
  obtain ⟨pa, pc', hpe, hp1, hp2⟩ := hp.form
  unfold maxLen at hm hp2
  obtain ⟨o, ho⟩ : ∃ o, o = L.any (morB p) := ⟨_, rfl⟩
  rw [← ho]
  replace h := Lib.hid h
  obtain ⟨n, hn⟩ : ∃ n, n = L.length := ⟨_, rfl⟩
  rw [← hn] at hc ⊢
  obtain ⟨np, hnp⟩ : ∃ n, n = p.length := ⟨_, rfl⟩
  rw [← hnp] at hpe hp1
  subst hpe
  replace hp := Lib.hid hp
  replace hn := Lib.hid hn
  replace hnp := Lib.hid hnp
  replace ho := Lib.hid ho
  go_enter Try.func19, Try.ntmps19
  go_wp2_with fail
  go_loopw [6, 9] (fun _ vi wr => ∃ i : Nat, vi = .int .i64 (i : Int) ∧ i ≤ n ∧ Hid (o = (L.drop i).any (morB p)) ∧ Hid (w.grownBy wr none)) (fun _ vi _ => n - (RowKit.intOf vi).toNat)
  case atStart => exact ⟨0, rfl, Nat.zero_le _, Lib.hid (by simpa using ho.out), Lib.hid (World.grownBy.refl _ _)⟩
  case round =>
    obtain ⟨i, rfl, hi1, hO, hG⟩ := hrel
    by_cases hlt : i < n
    · have hltz : (i : Int) < (n : Int) := by omega
      obtain ⟨x, hx⟩ : ∃ x, L[i]? = some x := ⟨_, List.getElem?_eq_getElem (by have := hn.out; omega)⟩
      have hdrop : L.drop i = x :: L.drop (i + 1) := by
        obtain ⟨hl, rfl⟩ := List.getElem?_eq_some_iff.1 hx
        exact List.drop_eq_getElem_cons hl
      have hO1 := hO.out
      rw [hdrop, List.any_cons] at hO1
      obtain ⟨b, off, vc, ve, rfl, _, c0, c1, hE⟩ := ents_get (c := c) (h.out.new hG.out) hx
      obtain ⟨xa, xc, hvc, hxc1, hxc2⟩ := hE.1.form
      obtain ⟨ya, yc, hve, hyc1, hyc2⟩ := hE.2.form
      have gB := World.grownBy_alloc wr (.cells #[vc, ve] 35) none
      have eB : Two (wr.alloc (.cells #[vc, ve] 35)) wr.heap.size vc ve := World.alloc_heap_new wr _
      obtain ⟨V, hV⟩ : ∃ V, V = wr.alloc (.cells #[vc, ve] 35) := ⟨_, rfl⟩
      rw [← hV] at gB eB
      have hR := begins2_any P P' vc (.slice pa np pc') x.codes p V (hE.1.new gB) (hp.out.new (hG.out.trans gB))
      have hGV := Lib.hid (hG.out.trans gB)
      have d0 := eB.c0
      have d1 := eB.c1
      rw [hvc, hve] at hV
      rw [hvc] at c0 d0 hR
      rw [hve] at c1 d1
      rw [show morB p x = (decide (p.length < x.codes.length) && decide (p <+: x.codes)) from rfl, ← hnp.out] at hO1
      obtain ⟨nc, hnc⟩ : ∃ k, k = x.codes.length := ⟨_, rfl⟩
      rw [← hnc] at hV c0 d0 hR hO1 hxc1
      generalize decide (p <+: x.codes) = q at hR hO1
      unfold maxLen at hxc2
      clear hx hdrop hE gB eB hvc hve hO hnc
      by_cases hlp : np < nc
      · have hlb : decide ((np : Int) < (nc : Int)) = true := by simp; omega
        rw [decide_eq_true hlp] at hO1
        cases q with
        | true =>
          have hO2 : o = true := by simpa using hO1
          subst hO2
          clear hO1
          go_wp2_with fail
          rw [← hV]
          clear hV c0 c1
          go_wp2_with (go_at_call 38; refine hR.mono ?_; clear hR; rintro e w2 ⟨rfl, g2⟩)
          go_ret
          exact ⟨rfl, hGV.out.trans g2⟩
        | false =>
          have hO2 : Hid (o = (L.drop (i + 1)).any (morB p)) := Lib.hid (by simpa using hO1)
          clear hO1
          go_wp2_with fail
          rw [← hV]
          clear hV c0 c1
          go_wp2_with (go_at_call 38; refine hR.mono ?_; clear hR; rintro e w2 ⟨rfl, g2⟩; have hG2 := Lib.hid (hGV.out.trans g2))
          exact ⟨⟨i + 1, by go_num, by omega, hO2, hG2⟩, by simp [RowKit.intOf]; omega⟩
      · have hlb : decide ((np : Int) < (nc : Int)) = false := by simp; omega
        rw [decide_eq_false hlp] at hO1
        have hO2 : Hid (o = (L.drop (i + 1)).any (morB p)) := Lib.hid (by simpa using hO1)
        clear hO1 hR
        go_wp2_with fail
        rw [← hV]
        clear hV c0 c1
        go_wp2_with fail
        exact ⟨⟨i + 1, by go_num, by omega, hO2, hGV⟩, by simp [RowKit.intOf]; omega⟩
    · obtain rfl : n = i := by omega
      have hO1 := hO.out
      rw [hn.out, List.drop_length] at hO1
      have hO2 : o = false := hO1
      subst hO2
      clear hO1 hO
      go_wp2
      go_ret
      exact ⟨rfl, hG.out⟩

/-- The reference's longest: so far, and the rest. -/
def lgStep (p : List Int) (s : Nat × Option Ent) (x : Ent) : Nat × Option Ent := if x.codes <+: p ∧ s.1 < x.codes.length then (x.codes.length, some x) else s
def lg (p : List Int) (s : Nat × Option Ent) (L : List Ent) : Nat × Option Ent := L.foldl (lgStep p) s
/-- A value that reads as the elements of an entry, if there is one. -/
def OutR (P : Nat → Prop) (w : World) (v : Value) : Option Ent → Prop
  | none => v = .slice none 0 0
  | some x => SR P 4 w v x.els.length (ec x.els)
theorem OutR.new {P : Nat → Prop} {w w' : World} {v : Value} {o : Option Ent} (h : OutR P w v o) (hg : w.grownBy w' none) : OutR P w' v o := by
  cases o with
  | none => exact h
  | some x => exact SR.new h hg
theorem OutR.form {P : Nat → Prop} {w : World} {v : Value} {o : Option Ent} (h : OutR P w v o) : ∃ a n c, v = .slice a n c := by
  cases o with
  | none => exact ⟨_, _, _, h⟩
  | some x => obtain ⟨a, c, e, _⟩ := SR.form h; exact ⟨a, _, c, e⟩

def RLong (P : Nat → Prop) (s : Nat × Option Ent) (w : World) (e : Ending) (w' : World) : Prop := ∃ v, e = .returned (.tuple #[.int .i64 (s.1 : Int), v]) ∧ OutR P w' v s.2 ∧ w.grownBy w' none

set_option maxHeartbeats 8000000 in
theorem rlong_any (P P' : Nat → Prop) (v vc : Value) (L : List Ent) (p : List Int) (w : World) (h : EntsR P w v L) (hp : SR P' 1 w vc p.length (rc p)) :
    Calls Try.prog 17 #[v, vc] w (RLong P (lg p (0, none) L) w) := by
  obtain ⟨a, c, rfl, hc, hm⟩ : ∃ a c, v = .slice a L.length c ∧ L.length ≤ c ∧ c ≤ maxLen := by obtain ⟨vs, _, h2, _⟩ := h; exact h2.form
  obtain ⟨pa, pc', hpe, hp1, hp2⟩ := hp.form
  unfold maxLen at hm hp2
  obtain ⟨o, ho⟩ : ∃ o, o = lg p (0, none) L := ⟨_, rfl⟩
  rw [← ho]
  replace h := Lib.hid h
  obtain ⟨n, hn⟩ : ∃ n, n = L.length := ⟨_, rfl⟩
  rw [← hn] at hc ⊢
  obtain ⟨np, hnp⟩ : ∃ n, n = p.length := ⟨_, rfl⟩
  rw [← hnp] at hpe hp1
  subst hpe
  replace hp := Lib.hid hp
  replace hn := Lib.hid hn
  replace hnp := Lib.hid hnp
  replace ho := Lib.hid ho
  go_enter Try.func17, Try.ntmps17
  go_wp2_with fail
  go_loopw [6, 7, 9, 12] (fun v6 v7 _ vi wr => ∃ (i : Nat) (k : Nat) (s : Option Ent), vi = .int .i64 (i : Int) ∧ i ≤ n ∧ v6 = .int .i64 (k : Int) ∧ Hid (OutR P wr v7 s) ∧ Hid (o = lg p (k, s) (L.drop i)) ∧ Hid (w.grownBy wr none)) (fun _ _ _ vi _ => n - (RowKit.intOf vi).toNat)
  case atStart => exact ⟨0, 0, none, rfl, Nat.zero_le _, rfl, Lib.hid rfl, Lib.hid (by simpa using ho.out), Lib.hid (World.grownBy.refl _ _)⟩
  case round =>
    obtain ⟨i, k, s, rfl, hi1, rfl, hS, hO, hG⟩ := hrel
    by_cases hlt : i < n
    · have hltz : (i : Int) < (n : Int) := by omega
      obtain ⟨x, hx⟩ : ∃ x, L[i]? = some x := ⟨_, List.getElem?_eq_getElem (by have := hn.out; omega)⟩
      have hdrop : L.drop i = x :: L.drop (i + 1) := by
        obtain ⟨hl, rfl⟩ := List.getElem?_eq_some_iff.1 hx
        exact List.drop_eq_getElem_cons hl
      have hO1 := hO.out
      rw [hdrop, lg, List.foldl_cons, lgStep] at hO1
      obtain ⟨b, off, vc, ve, rfl, _, c0, c1, hE⟩ := ents_get (c := c) (h.out.new hG.out) hx
      obtain ⟨xa, xc, hvc, hxc1, hxc2⟩ := hE.1.form
      obtain ⟨ya, yc, hve, hyc1, hyc2⟩ := hE.2.form
      have gB := World.grownBy_alloc wr (.cells #[vc, ve] 35) none
      have eB : Two (wr.alloc (.cells #[vc, ve] 35)) wr.heap.size vc ve := World.alloc_heap_new wr _
      obtain ⟨V, hV⟩ : ∃ V, V = wr.alloc (.cells #[vc, ve] 35) := ⟨_, rfl⟩
      rw [← hV] at gB eB
      have hR := begins2_any P' P (.slice pa np pc') vc p x.codes V (hp.out.new (hG.out.trans gB)) (hE.1.new gB)
      have hE2 := Lib.hid (hE.2.new gB)
      have hGV := Lib.hid (hG.out.trans gB)
      have hSV := Lib.hid (hS.out.new gB)
      obtain ⟨sa, sn, sc, rfl⟩ := hS.out.form
      have hbx : ∀ w', V.grownBy w' none → w'.cell? ⟨wr.heap.size, 0, none⟩ = some vc ∧ w'.cell? ⟨wr.heap.size, 1, none⟩ = some ve := fun w' g => ⟨(eB.new g).c0, (eB.new g).c1⟩
      rw [hvc, hve] at hV hbx
      rw [hvc] at c0 hR
      rw [hve] at c1 hE2
      obtain ⟨nc, hnc⟩ : ∃ k, k = x.codes.length := ⟨_, rfl⟩
      rw [← hnc] at hV c0 hR hO1 hxc1
      simp only [← hnc] at hbx
      obtain ⟨d0, d1⟩ := hbx V (World.grownBy.refl _ _)
      replace hbx := Lib.hid hbx
      obtain ⟨q, hq⟩ : ∃ q, q = decide (x.codes <+: p) := ⟨_, rfl⟩
      rw [← hq] at hR
      have hiff : (x.codes <+: p) ↔ q = true := by rw [hq]; simp
      have fin0 : ¬ (q = true ∧ k < nc) → Hid (o = lg p (k, s) (L.drop (i + 1))) := fun hne => Lib.hid (by rw [if_neg (fun e => hne ⟨hiff.1 e.1, e.2⟩)] at hO1; exact hO1)
      have fin1 : q = true ∧ k < nc → Hid (o = lg p (nc, some x) (L.drop (i + 1))) := fun hne => Lib.hid (by rw [if_pos ⟨hiff.2 hne.1, hne.2⟩] at hO1; exact hO1)
      unfold maxLen at hxc2
      clear hO1 hx hdrop hE gB eB hvc hve hO hnc hq hiff hS
      cases q with
      | false =>
        have hO2 := fin0 (by simp)
        clear fin0 fin1
        go_wp2_with fail
        rw [← hV]
        clear hV c0 c1
        go_wp2_with (go_at_call 38; refine hR.mono ?_; clear hR; rintro e w2 ⟨rfl, g2⟩; have hG2 := Lib.hid (hGV.out.trans g2); have hS2 := Lib.hid (hSV.out.new g2))
        exact ⟨⟨i + 1, k, s, by go_num, by omega, rfl, hS2, hO2, hG2⟩, by simp [RowKit.intOf]; omega⟩
      | true =>
        by_cases hlk : k < nc
        · have hlb : decide ((k : Int) < (nc : Int)) = true := by simp; omega
          have hO2 := fin1 ⟨rfl, hlk⟩
          clear fin0 fin1
          go_wp2_with fail
          rw [← hV]
          clear hV c0 c1
          go_wp2_with (go_at_call 38; refine hR.mono ?_; clear hR d0 d1; rintro e w2 ⟨rfl, g2⟩; obtain ⟨d0, d1⟩ := hbx.out w2 g2; have hG2 := Lib.hid (hGV.out.trans g2); have hE3 := Lib.hid (hE2.out.new g2))
          go_quiet (fail)
          go_wp2_with fail
          exact ⟨⟨i + 1, nc, some x, by go_num, by omega, rfl, Lib.hid (hE3.out.new (gdrewN (World.grownBy.refl _ _) _)), hO2, Lib.hid (gdrewN hG2.out _)⟩, by simp [RowKit.intOf]; omega⟩
        · have hlb : decide ((k : Int) < (nc : Int)) = false := by simp; omega
          have hO2 := fin0 (by simp; omega)
          clear fin0 fin1
          go_wp2_with fail
          rw [← hV]
          clear hV c0 c1
          go_wp2_with (go_at_call 38; refine hR.mono ?_; clear hR d0 d1; rintro e w2 ⟨rfl, g2⟩; obtain ⟨d0, d1⟩ := hbx.out w2 g2; have hG2 := Lib.hid (hGV.out.trans g2); have hS2 := Lib.hid (hSV.out.new g2))
          exact ⟨⟨i + 1, k, s, by go_num, by omega, rfl, hS2, hO2, hG2⟩, by simp [RowKit.intOf]; omega⟩
    · obtain rfl : n = i := by omega
      have hO1 := hO.out
      rw [hn.out, List.drop_length] at hO1
      have hO2 : o = (k, s) := hO1
      subst hO2
      clear hO1 hO
      go_wp2
      go_ret2
      exact ⟨_, rfl, hS.out, hG.out⟩
end Go.Proofs.Ytnnijcafnhhnoaa
