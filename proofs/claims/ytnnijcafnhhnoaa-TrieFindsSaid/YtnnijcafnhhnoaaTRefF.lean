/-
  LAYER 9 (trie): the reference's begins, Get, Begins.
-/
import Derived.Test.YtnnijcafnhhnoaaTRunes
import Derived.Test.YtnnijcafnhhnoaaTTell
namespace Go.Proofs.Ytnnijcafnhhnoaa
set_option maxRecDepth 100000
open Go.RowKit Go.Lib
attribute [local go_sem] Oper.semAt_some

theorem SR.prefix {P : Nat → Prop} {w : World} {a : Option Addr} {m c : Nat} {l : List Int} (h : SR P 1 w (.slice a m c) l.length (rc l)) {k : Nat} (hk : k ≤ l.length) : SR P 1 w (.slice a k c) (l.take k).length (rc (l.take k)) := by
  obtain ⟨h0, a', c', h1, h2, h3, h4, h5⟩ := h
  obtain ⟨rfl, rfl, rfl⟩ : a = a' ∧ m = l.length ∧ c = c' := by simpa using h1
  have hl : (l.take k).length = k := by simp; omega
  refine ⟨by rw [rc_len]; omega, a, c, by rw [hl], by omega, h3, h4, fun hn => ?_⟩
  obtain ⟨b, off, q1, q2, q3, q4⟩ := h5 (by omega)
  refine ⟨b, off, q1, q2, q3, fun i u hu => q4 i u ?_⟩
  have hi : i < k := by have := (List.getElem?_eq_some_iff.1 hu).1; simp [rc] at this; omega
  simp only [rc, List.map_take, List.getElem?_take, if_pos hi] at hu
  exact hu
theorem pre_take {a b : List Int} : a.take b.length = b ↔ b <+: a := by
  rw [List.prefix_iff_eq_take]
  exact ⟨fun e => e.symm, fun e => e.symm⟩

set_option maxHeartbeats 4000000 in
theorem begins2_any (P P' : Nat → Prop) (va vb : Value) (a b : List Int) (w : World) (ha : SR P 1 w va a.length (rc a)) (hb : SR P' 1 w vb b.length (rc b)) :
    Calls Try.prog 38 #[va, vb] w fun e w' => e = .returned (.bool (decide (b <+: a))) ∧ w.grownBy w' none := by
  obtain ⟨x1, c1, rfl, hc1, hm1⟩ := ha.form
  obtain ⟨x2, c2, rfl, hc2, hm2⟩ := hb.form
  obtain ⟨q, hq⟩ : ∃ q, q = decide (b <+: a) := ⟨_, rfl⟩
  rw [← hq]
  unfold maxLen at hm1 hm2
  by_cases hl : b.length ≤ a.length
  · have hR := runes_any P P' _ _ _ b w (ha.prefix hl) hb
    have hqq : decide (a.take b.length = b) = q := by rw [hq]; exact decide_eq_decide.2 pre_take
    rw [hqq] at hR
    clear hq hqq ha hb
    generalize a.length = n at *
    generalize b.length = m at *
    have hlb : decide ((m : Int) ≤ (n : Int)) = true := by simp; omega
    go_enter Try.func38, Try.ntmps38
    go_wp2_with (go_at_call 25; refine hR.mono ?_; rintro e w' ⟨rfl, g⟩)
    go_ret
    exact ⟨by first | rfl | simp, g⟩
  · obtain rfl : q = false := by
      rw [hq]
      simp only [decide_eq_false_iff_not]
      intro h
      exact hl h.length_le
    clear hq ha hb
    generalize a.length = n at *
    generalize b.length = m at *
    have hlb : decide ((m : Int) ≤ (n : Int)) = false := by simp; omega
    go_enter Try.func38, Try.ntmps38
    go_wp2
    go_ret
    exact ⟨by first | rfl | simp, World.grownBy.refl _ _⟩

/-- What the reference's Get tells. -/
def RGet (P : Nat → Prop) (o : Option Ent) (w : World) (e : Ending) (w' : World) : Prop :=
  w.grownBy w' none ∧ ((o = none ∧ e = .returned (.tuple #[.slice none 0 0, .bool false])) ∨ ∃ x v, o = some x ∧ e = .returned (.tuple #[v, .bool true]) ∧ SR P 4 w' v x.els.length (ec x.els))
theorem findEnt_cons (x : Ent) (L : List Ent) (p : List Int) : findEnt (x :: L) p = if x.codes = p then some x else findEnt L p := by
  unfold findEnt
  by_cases h : x.codes = p
  · rw [if_pos h, List.find?_cons_of_pos (by simpa using h)]
  · rw [if_neg h, List.find?_cons_of_neg (by simpa using h)]

set_option maxHeartbeats 4000000 in
theorem rget_any (P P' : Nat → Prop) (v vc : Value) (L : List Ent) (p : List Int) (w : World) (h : EntsR P w v L) (hp : SR P' 1 w vc p.length (rc p)) :
    Calls Try.prog 16 #[v, vc] w (RGet P (findEnt L p) w) := by
  obtain ⟨a, c, rfl, hc, hm⟩ : ∃ a c, v = .slice a L.length c ∧ L.length ≤ c ∧ c ≤ maxLen := by obtain ⟨vs, _, h2, _⟩ := h; exact h2.form
  obtain ⟨pa, pc', hpe, hp1, hp2⟩ := hp.form
  unfold maxLen at hm hp2
  obtain ⟨o, ho⟩ : ∃ o, o = findEnt L p := ⟨_, rfl⟩
  rw [← ho]
  replace h := Lib.hid h
  replace hp := Lib.hid hp
  obtain ⟨n, hn⟩ : ∃ n, n = L.length := ⟨_, rfl⟩
  rw [← hn] at hc ⊢
  obtain ⟨np, hnp⟩ : ∃ n, n = p.length := ⟨_, rfl⟩
  rw [← hnp] at hpe hp1
  subst hpe
  replace hn := Lib.hid hn
  replace hnp := Lib.hid hnp
  replace ho := Lib.hid ho
  go_enter Try.func16, Try.ntmps16
  go_wp2_with fail
  go_loopw [7, 10] (fun _ vi wr => ∃ i : Nat, vi = .int .i64 (i : Int) ∧ i ≤ n ∧ Hid (o = findEnt (L.drop i) p) ∧ Hid (w.grownBy wr none)) (fun _ vi _ => n - (RowKit.intOf vi).toNat)
  case atStart => exact ⟨0, rfl, Nat.zero_le _, Lib.hid (by simpa using ho.out), Lib.hid (World.grownBy.refl _ _)⟩
  case round =>
    obtain ⟨i, rfl, hi1, hO, hG⟩ := hrel
    by_cases hlt : i < n
    · have hltz : (i : Int) < (n : Int) := by omega
      obtain ⟨x, hx⟩ : ∃ x, L[i]? = some x := ⟨_, List.getElem?_eq_getElem (by have := hn.out; omega)⟩
      have hdrop : L.drop i = x :: L.drop (i + 1) := by
        obtain ⟨hl, rfl⟩ := List.getElem?_eq_some_iff.1 hx
        exact List.drop_eq_getElem_cons hl
      have hO1 := hO.out
      rw [hdrop, findEnt_cons] at hO1
      obtain ⟨b, off, vc, ve, rfl, _, c0, c1, hE⟩ := ents_get (c := c) (h.out.new hG.out) hx
      obtain ⟨xa, xc, hvc, hxc1, hxc2⟩ := hE.1.form
      obtain ⟨ya, yc, hve, hyc1, hyc2⟩ := hE.2.form
      have gB := World.grownBy_alloc wr (.cells #[vc, ve] 35) none
      have eB : Two (wr.alloc (.cells #[vc, ve] 35)) wr.heap.size vc ve := World.alloc_heap_new wr _
      obtain ⟨V, hV⟩ : ∃ V, V = wr.alloc (.cells #[vc, ve] 35) := ⟨_, rfl⟩
      rw [← hV] at gB eB
      have hR := runes_any P P' vc (.slice pa np pc') x.codes p V (hE.1.new gB) (hp.out.new (hG.out.trans gB))
      have hE2 := Lib.hid (hE.2.new gB)
      have hGV := Lib.hid (hG.out.trans gB)
      have hbx : ∀ w', V.grownBy w' none → w'.cell? ⟨wr.heap.size, 0, none⟩ = some vc ∧ w'.cell? ⟨wr.heap.size, 1, none⟩ = some ve := fun w' g => ⟨(eB.new g).c0, (eB.new g).c1⟩
      rw [hvc, hve] at hV hbx
      rw [hvc] at c0 hR
      rw [hve] at c1 hE2
      obtain ⟨d0, d1⟩ := hbx V (World.grownBy.refl _ _)
      replace hbx := Lib.hid hbx
      clear hx hdrop hE gB eB hvc hve hO
      by_cases he : x.codes = p
      · rw [if_pos he] at hO1
        have hdq : decide (x.codes = p) = true := by simp [he]
        rw [hdq] at hR
        subst hO1
        clear he hdq
        go_wp2_with fail
        rw [← hV]
        clear hV c0 c1
        go_wp2_with (go_at_call 25; refine hR.mono ?_; clear hR d0 d1; rintro e w2 ⟨rfl, g2⟩; obtain ⟨d0, d1⟩ := hbx.out w2 g2)
        go_ret2
        exact ⟨hGV.out.trans g2, .inr ⟨x, _, rfl, rfl, hE2.out.new g2⟩⟩
      · rw [if_neg he] at hO1
        have hdq : decide (x.codes = p) = false := by simp [he]
        rw [hdq] at hR
        replace hO1 := Lib.hid hO1
        clear he hdq
        go_wp2_with fail
        rw [← hV]
        clear hV c0 c1
        go_wp2_with (go_at_call 25; refine hR.mono ?_; clear hR d0 d1; rintro e w2 ⟨rfl, g2⟩; have hG2 := Lib.hid (hGV.out.trans g2))
        exact ⟨⟨i + 1, by go_num, by omega, hO1, hG2⟩, by simp [RowKit.intOf]; omega⟩
    · obtain rfl : n = i := by omega
      have hO1 := hO.out
      rw [hn.out, List.drop_length] at hO1
      have hO2 : o = none := hO1
      subst hO2
      clear hO1 hO
      go_wp2
      go_ret2
      exact ⟨hG.out, .inl ⟨rfl, rfl⟩⟩
end Go.Proofs.Ytnnijcafnhhnoaa
