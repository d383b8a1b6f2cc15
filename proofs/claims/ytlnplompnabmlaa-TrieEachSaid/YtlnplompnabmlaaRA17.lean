/-
  LAYER 9 (trie): the references' comparisons of code points, of elements.
-/
import Derived.Test.YtlnplompnabmlaaRA06
import Derived.Deep.QuietTactic
import Derived.Laws.StructEq
import Derived.Test.YtlnplompnabmlaaRA12
import Derived.Test.YtlnplompnabmlaaRA16
import Derived.Laws.OwnMore
namespace Go.Proofs.Ytlnplompnabmlaa
set_option maxRecDepth 100000
open Go.RowKit Go.Lib
attribute [local go_sem] Oper.semAt_some

instance elDec : DecidableEq El := fun x y => decidable_of_iff (x.p = y.p ∧ x.s = y.s ∧ x.t = y.t ∧ x.v = y.v) ⟨fun ⟨h1, h2, h3, h4⟩ => by cases x; cases y; simp only at h1 h2 h3 h4; subst h1 h2 h3 h4; rfl, fun h => by subst h; exact ⟨rfl, rfl, rfl, rfl⟩⟩
theorem eq_of_take {α : Type} {a b : List α} (hl : a.length = b.length) (h : ∀ j, j < a.length → a[j]? = b[j]?) : a = b := by
  apply List.ext_getElem?
  intro j
  by_cases hj : j < a.length
  · exact h j hj
  · rw [List.getElem?_eq_none (by omega), List.getElem?_eq_none (by omega)]

set_option maxHeartbeats 4000000 in
theorem runes_any (P P' : Nat → Prop) (va vb : Value) (a b : List Int) (w : World) (ha : SR P 1 w va a.length (rc a)) (hb : SR P' 1 w vb b.length (rc b)) :
    Calls Try.prog 25 #[va, vb] w fun e w' => e = .returned (.bool (decide (a = b))) ∧ w.grownBy w' none := by
  obtain ⟨x1, c1, rfl, hc1, hm1⟩ := ha.form
  obtain ⟨x2, c2, rfl, hc2, hm2⟩ := hb.form
  obtain ⟨q, hq⟩ : ∃ q, q = decide (a = b) := ⟨_, rfl⟩
  rw [← hq]
  unfold maxLen at hm1 hm2
  by_cases hl : a.length = b.length
  · have hl1 : ((a.length : Int) != (b.length : Int)) = false := by simp [hl]
    have hlb : ((a.length : Int) == (b.length : Int)) = true := by simp [hl]
    replace hl := Lib.hid hl
    replace hq := Lib.hid hq
    replace ha := Lib.hid ha
    replace hb := Lib.hid hb
    obtain ⟨n, hn⟩ : ∃ n, n = a.length := ⟨_, rfl⟩
    obtain ⟨m, hmm⟩ : ∃ m, m = b.length := ⟨_, rfl⟩
    rw [← hn] at hc1 hl1 hlb ⊢
    rw [← hmm] at hc2 hl1 hlb ⊢
    replace hn := Lib.hid hn
    replace hmm := Lib.hid hmm
    have hnm : n ≤ m ∧ m ≤ n := by have := hl.out; have := hn.out; have := hmm.out; omega
    obtain ⟨hnm1, hnm2⟩ := hnm
    go_enter Try.func25, Try.ntmps25
    go_wp2
    go_loopw [5, 13] (fun _ vi wr => ∃ i : Nat, vi = .int .i64 (i : Int) ∧ i ≤ n ∧ Hid (∀ j, j < i → a[j]? = b[j]?) ∧ Hid (w.grownBy wr none)) (fun _ vi _ => n - (RowKit.intOf vi).toNat)
    case atStart => exact ⟨0, rfl, Nat.zero_le _, Lib.hid (fun j h => absurd h (by omega)), Lib.hid (World.grownBy.refl _ _)⟩
    case round =>
      obtain ⟨i, rfl, hi, hE, hG⟩ := hrel
      by_cases hlt : i < n
      · have hltz : (i : Int) < (n : Int) := by omega
        have hltz2 : (i : Int) < (m : Int) := by omega
        obtain ⟨u, hu⟩ : ∃ u, a[i]? = some u := ⟨_, List.getElem?_eq_getElem (by have := hn.out; omega)⟩
        obtain ⟨v, hv⟩ : ∃ v, b[i]? = some v := ⟨_, List.getElem?_eq_getElem (by have := hmm.out; omega)⟩
        obtain ⟨b1, o1, rfl, _, k1⟩ := rc_get (ha.out.new hG.out) hu
        obtain ⟨b2, o2, rfl, _, k2⟩ := rc_get (hb.out.new hG.out) hv
        by_cases he : u = v
        · have hE2 : Hid (∀ j, j < i + 1 → a[j]? = b[j]?) := Lib.hid (fun j hj => by
            by_cases e : j = i
            · subst e; rw [hu, hv, he]
            · exact hE.out j (by omega))
          have hb1 : (u != v) = false := by simp [he]
          clear hu hv he
          go_wp2_with fail
          go_quiet (fail)
          go_wp2_with fail
          have hG2 := fun nq => Lib.hid (gdrewN hG.out nq)
          exact ⟨⟨i + 1, by go_num, by omega, hE2, hG2 _⟩, by simp [RowKit.intOf]; omega⟩
        · have hb1 : (u != v) = true := by simpa using he
          obtain rfl : q = false := by
            rw [hq.out]
            simp only [decide_eq_false_iff_not]
            intro e
            rw [e, hv] at hu
            cases hu
            exact he rfl
          clear hu hv he
          go_wp2_with fail
          go_quiet (fail)
          go_wp2_with fail
          go_ret
          exact ⟨rfl, gdrewN hG.out _⟩
      · obtain rfl : n = i := by omega
        obtain rfl : q = true := by
          rw [hq.out]
          simp only [decide_eq_true_eq]
          exact eq_of_take hl.out (fun j hj => hE.out j (by have := hn.out; omega))
        go_wp2
        go_ret
        exact ⟨rfl, hG.out⟩
  · have hl1 : ((a.length : Int) != (b.length : Int)) = true := by simp; omega
    obtain rfl : q = false := by
      rw [hq]
      simp only [decide_eq_false_iff_not]
      intro e
      exact hl (by rw [e])
    clear hl hq ha hb
    generalize a.length = n at *
    generalize b.length = m at *
    go_enter Try.func25, Try.ntmps25
    go_wp2
    go_ret
    exact ⟨rfl, World.grownBy.refl _ _⟩
set_option maxHeartbeats 4000000 in
theorem same_any (P P' : Nat → Prop) (va vb : Value) (a b : List El) (w : World) (ha : SR P 4 w va a.length (ec a)) (hb : SR P' 4 w vb b.length (ec b)) :
    Calls Try.prog 14 #[va, vb] w fun e w' => e = .returned (.bool (decide (a = b))) ∧ w.grownBy w' none := by
  obtain ⟨x1, c1, rfl, hc1, hm1⟩ := ha.form
  obtain ⟨x2, c2, rfl, hc2, hm2⟩ := hb.form
  obtain ⟨q, hq⟩ : ∃ q, q = decide (a = b) := ⟨_, rfl⟩
  rw [← hq]
  unfold maxLen at hm1 hm2
  by_cases hl : a.length = b.length
  · have hl1 : ((a.length : Int) != (b.length : Int)) = false := by simp [hl]
    have hlb : ((a.length : Int) == (b.length : Int)) = true := by simp [hl]
    replace hl := Lib.hid hl
    replace hq := Lib.hid hq
    replace ha := Lib.hid ha
    replace hb := Lib.hid hb
    obtain ⟨n, hn⟩ : ∃ n, n = a.length := ⟨_, rfl⟩
    obtain ⟨m, hmm⟩ : ∃ m, m = b.length := ⟨_, rfl⟩
    rw [← hn] at hc1 hl1 hlb ⊢
    rw [← hmm] at hc2 hl1 hlb ⊢
    replace hn := Lib.hid hn
    replace hmm := Lib.hid hmm
    have hnm : n ≤ m ∧ m ≤ n := by have := hl.out; have := hn.out; have := hmm.out; omega
    obtain ⟨hnm1, hnm2⟩ := hnm
    go_enter Try.func14, Try.ntmps14
    go_wp2
    go_loopw [5, 13] (fun _ vi wr => ∃ i : Nat, vi = .int .i64 (i : Int) ∧ i ≤ n ∧ Hid (∀ j, j < i → a[j]? = b[j]?) ∧ Hid (w.grownBy wr none)) (fun _ vi _ => n - (RowKit.intOf vi).toNat)
    case atStart => exact ⟨0, rfl, Nat.zero_le _, Lib.hid (fun j h => absurd h (by omega)), Lib.hid (World.grownBy.refl _ _)⟩
    case round =>
      obtain ⟨i, rfl, hi, hE, hG⟩ := hrel
      by_cases hlt : i < n
      · have hltz : (i : Int) < (n : Int) := by omega
        have hltz2 : (i : Int) < (m : Int) := by omega
        obtain ⟨u, hu⟩ : ∃ u, a[i]? = some u := ⟨_, List.getElem?_eq_getElem (by have := hn.out; omega)⟩
        obtain ⟨v, hv⟩ : ∃ v, b[i]? = some v := ⟨_, List.getElem?_eq_getElem (by have := hmm.out; omega)⟩
        obtain ⟨b1, o1, rfl, _, k1, k2, k3, k4⟩ := ec_get (ha.out.new hG.out) hu
        obtain ⟨b2, o2, rfl, _, m1, m2, m3, m4⟩ := ec_get (hb.out.new hG.out) hv
        by_cases he : u = v
        · have hE2 : Hid (∀ j, j < i + 1 → a[j]? = b[j]?) := Lib.hid (fun j hj => by
            by_cases e : j = i
            · subst e; rw [hu, hv, he]
            · exact hE.out j (by omega))
          subst he
          clear hu hv
          obtain ⟨up, us, ut, uv⟩ := u
          dsimp only at k1 k2 k3 k4 m1 m2 m3 m4
          go_wp2_with fail
          go_quiet (fail)
          go_wp2_with fail
          have hG2 := fun nq => Lib.hid (gdrewN hG.out nq)
          exact ⟨⟨i + 1, by go_num, by omega, hE2, hG2 _⟩, by simp [RowKit.intOf]; omega⟩
        · obtain rfl : q = false := by
            rw [hq.out]
            simp only [decide_eq_false_iff_not]
            intro e
            rw [e, hv] at hu
            cases hu
            exact he rfl
          clear hu hv
          have key : ¬ u.p = v.p ∨ (u.p = v.p ∧ ¬ u.s = v.s) ∨ (u.p = v.p ∧ u.s = v.s ∧ ¬ u.t = v.t) ∨ (u.p = v.p ∧ u.s = v.s ∧ u.t = v.t ∧ ¬ u.v = v.v) := by
            by_cases e1 : u.p = v.p
            · by_cases e2 : u.s = v.s
              · by_cases e3 : u.t = v.t
                · by_cases e4 : u.v = v.v
                  · exact absurd (by obtain ⟨_, _, _, _⟩ := u; obtain ⟨_, _, _, _⟩ := v; simp at e1 e2 e3 e4; subst e1 e2 e3 e4; rfl) he
                  · exact .inr (.inr (.inr ⟨e1, e2, e3, e4⟩))
                · exact .inr (.inr (.inl ⟨e1, e2, e3⟩))
              · exact .inr (.inl ⟨e1, e2⟩)
            · exact .inl e1
          clear he
          obtain ⟨up, us, ut, uv⟩ := u
          obtain ⟨vp, vs, vt, vv⟩ := v
          dsimp only at k1 k2 k3 k4 m1 m2 m3 m4 key
          rcases key with h | ⟨rfl, h⟩ | ⟨rfl, rfl, h⟩ | ⟨rfl, rfl, rfl, h⟩
          all_goals
            go_wp2_with fail
            go_quiet (fail)
            go_wp2_with fail
            go_ret
            exact ⟨rfl, gdrewN hG.out _⟩
      · obtain rfl : n = i := by omega
        obtain rfl : q = true := by
          rw [hq.out]
          simp only [decide_eq_true_eq]
          exact eq_of_take hl.out (fun j hj => hE.out j (by have := hn.out; omega))
        go_wp2
        go_ret
        exact ⟨rfl, hG.out⟩
  · have hl1 : ((a.length : Int) != (b.length : Int)) = true := by simp; omega
    obtain rfl : q = false := by
      rw [hq]
      simp only [decide_eq_false_iff_not]
      intro e
      exact hl (by rw [e])
    clear hl hq ha hb
    generalize a.length = n at *
    generalize b.length = m at *
    go_enter Try.func14, Try.ntmps14
    go_wp2
    go_ret
    exact ⟨rfl, World.grownBy.refl _ _⟩
end Go.Proofs.Ytlnplompnabmlaa

/-
  LAYER 9 (trie): the reference's begins, Get, Begins.
-/
namespace Go.Proofs.Ytlnplompnabmlaa
set_option maxRecDepth 100000
open Go.RowKit Go.Lib
attribute [local go_sem] Oper.semAt_some

theorem SR.prefix {P : Nat → Prop} {w : World} {a : Option Addr} {m c : Nat} {l : List Int} (h : SR P 1 w (.slice a m c) l.length (rc l)) {k : Nat} (hk : k ≤ l.length) : SR P 1 w (.slice a k c) (l.take k).length (rc (l.take k)) := by
  obtain ⟨h0, a', c', h1, h2, h3, h4, h5⟩ := h
  obtain ⟨rfl, rfl, rfl⟩ : a = a' ∧ m = l.length ∧ c = c' := by simpa using h1
  have hl : (l.take k).length = k := by simp; omega
  refine ⟨by rw [rc_len]; omega, a, c, by rw [hl], by omega, h3, h4, fun hn => ?_⟩
  obtain ⟨b, off, q1, q2, q3, q4⟩ := h5 (by omega)
  refine ⟨b, off, q1, q2, q3, fun i u hu => q4 i u ?_⟩
  have hi : i < k := by have := (List.getElem?_eq_some_iff.1 hu).1; simp [rc] at this; omega
  simp only [rc, List.map_take, List.getElem?_take, if_pos hi] at hu
  exact hu
theorem pre_take {a b : List Int} : a.take b.length = b ↔ b <+: a := by
  rw [List.prefix_iff_eq_take]
  exact ⟨fun e => e.symm, fun e => e.symm⟩

set_option maxHeartbeats 4000000 in
theorem begins2_any (P P' : Nat → Prop) (va vb : Value) (a b : List Int) (w : World) (ha : SR P 1 w va a.length (rc a)) (hb : SR P' 1 w vb b.length (rc b)) :
    Calls Try.prog 38 #[va, vb] w fun e w' => e = .returned (.bool (decide (b <+: a))) ∧ w.grownBy w' none := by
  obtain ⟨x1, c1, rfl, hc1, hm1⟩ := ha.form
  obtain ⟨x2, c2, rfl, hc2, hm2⟩ := hb.form
  obtain ⟨q, hq⟩ : ∃ q, q = decide (b <+: a) := ⟨_, rfl⟩
  rw [← hq]
  unfold maxLen at hm1 hm2
  by_cases hl : b.length ≤ a.length
  · have hR := runes_any P P' _ _ _ b w (ha.prefix hl) hb
    have hqq : decide (a.take b.length = b) = q := by rw [hq]; exact decide_eq_decide.2 pre_take
    rw [hqq] at hR
    clear hq hqq ha hb
    generalize a.length = n at *
    generalize b.length = m at *
    have hlb : decide ((m : Int) ≤ (n : Int)) = true := by simp; omega
    go_enter Try.func38, Try.ntmps38
    go_wp2_with (go_at_call 25; refine hR.mono ?_; rintro e w' ⟨rfl, g⟩)
    go_ret
    exact ⟨by first | rfl | simp, g⟩
  · obtain rfl : q = false := by
      rw [hq]
      simp only [decide_eq_false_iff_not]
      intro h
      exact hl h.length_le
    clear hq ha hb
    generalize a.length = n at *
    generalize b.length = m at *
    have hlb : decide ((m : Int) ≤ (n : Int)) = false := by simp; omega
    go_enter Try.func38, Try.ntmps38
    go_wp2
    go_ret
    exact ⟨by first | rfl | simp, World.grownBy.refl _ _⟩

/-- What the reference's Get tells. -/
def RGet (P : Nat → Prop) (o : Option Ent) (w : World) (e : Ending) (w' : World) : Prop :=
  w.grownBy w' none ∧ ((o = none ∧ e = .returned (.tuple #[.slice none 0 0, .bool false])) ∨ ∃ x v, o = some x ∧ e = .returned (.tuple #[v, .bool true]) ∧ SR P 4 w' v x.els.length (ec x.els))
theorem findEnt_cons (x : Ent) (L : List Ent) (p : List Int) : findEnt (x :: L) p = if x.codes = p then some x else findEnt L p := by
  unfold findEnt
  by_cases h : x.codes = p
  · rw [if_pos h, List.find?_cons_of_pos (by simpa using h)]
  · rw [if_neg h, List.find?_cons_of_neg (by simpa using h)]

set_option maxHeartbeats 4000000 in
theorem rget_any (P P' : Nat → Prop) (v vc : Value) (L : List Ent) (p : List Int) (w : World) (h : EntsR P w v L) (hp : SR P' 1 w vc p.length (rc p)) :
    Calls Try.prog 16 #[v, vc] w (RGet P (findEnt L p) w) := by
  obtain ⟨a, c, rfl, hc, hm⟩ : ∃ a c, v = .slice a L.length c ∧ L.length ≤ c ∧ c ≤ maxLen := by obtain ⟨vs, _, h2, _⟩ := h; exact h2.form
  obtain ⟨pa, pc', hpe, hp1, hp2⟩ := hp.form
  unfold maxLen at hm hp2
  obtain ⟨o, ho⟩ : ∃ o, o = findEnt L p := ⟨_, rfl⟩
  rw [← ho]
  replace h := Lib.hid h
  replace hp := Lib.hid hp
  obtain ⟨n, hn⟩ : ∃ n, n = L.length := ⟨_, rfl⟩
  rw [← hn] at hc ⊢
  obtain ⟨np, hnp⟩ : ∃ n, n = p.length := ⟨_, rfl⟩
  rw [← hnp] at hpe hp1
  subst hpe
  replace hn := Lib.hid hn
  replace hnp := Lib.hid hnp
  replace ho := Lib.hid ho
  go_enter Try.func16, Try.ntmps16
  go_wp2_with fail
  go_loopw [7, 10] (fun _ vi wr => ∃ i : Nat, vi = .int .i64 (i : Int) ∧ i ≤ n ∧ Hid (o = findEnt (L.drop i) p) ∧ Hid (w.grownBy wr none)) (fun _ vi _ => n - (RowKit.intOf vi).toNat)
  case atStart => exact ⟨0, rfl, Nat.zero_le _, Lib.hid (by simpa using ho.out), Lib.hid (World.grownBy.refl _ _)⟩
  case round =>
    obtain ⟨i, rfl, hi1, hO, hG⟩ := hrel
    by_cases hlt : i < n
    · have hltz : (i : Int) < (n : Int) := by omega
      obtain ⟨x, hx⟩ : ∃ x, L[i]? = some x := ⟨_, List.getElem?_eq_getElem (by have := hn.out; omega)⟩
      have hdrop : L.drop i = x :: L.drop (i + 1) := by
        obtain ⟨hl, rfl⟩ := List.getElem?_eq_some_iff.1 hx
        exact List.drop_eq_getElem_cons hl
      have hO1 := hO.out
      rw [hdrop, findEnt_cons] at hO1
      obtain ⟨b, off, vc, ve, rfl, _, c0, c1, hE⟩ := ents_get (c := c) (h.out.new hG.out) hx
      obtain ⟨xa, xc, hvc, hxc1, hxc2⟩ := hE.1.form
      obtain ⟨ya, yc, hve, hyc1, hyc2⟩ := hE.2.form
      have gB := World.grownBy_alloc wr (.cells #[vc, ve] 35) none
      have eB : Two (wr.alloc (.cells #[vc, ve] 35)) wr.heap.size vc ve := World.alloc_heap_new wr _
      obtain ⟨V, hV⟩ : ∃ V, V = wr.alloc (.cells #[vc, ve] 35) := ⟨_, rfl⟩
      rw [← hV] at gB eB
      have hR := runes_any P P' vc (.slice pa np pc') x.codes p V (hE.1.new gB) (hp.out.new (hG.out.trans gB))
      have hE2 := Lib.hid (hE.2.new gB)
      have hGV := Lib.hid (hG.out.trans gB)
      have hbx : ∀ w', V.grownBy w' none → w'.cell? ⟨wr.heap.size, 0, none⟩ = some vc ∧ w'.cell? ⟨wr.heap.size, 1, none⟩ = some ve := fun w' g => ⟨(eB.new g).c0, (eB.new g).c1⟩
      rw [hvc, hve] at hV hbx
      rw [hvc] at c0 hR
      rw [hve] at c1 hE2
      obtain ⟨d0, d1⟩ := hbx V (World.grownBy.refl _ _)
      replace hbx := Lib.hid hbx
      clear hx hdrop hE gB eB hvc hve hO
      by_cases he : x.codes = p
      · rw [if_pos he] at hO1
        have hdq : decide (x.codes = p) = true := by simp [he]
        rw [hdq] at hR
        subst hO1
        clear he hdq
        go_wp2_with fail
        rw [← hV]
        clear hV c0 c1
        go_wp2_with (go_at_call 25; refine hR.mono ?_; clear hR d0 d1; rintro e w2 ⟨rfl, g2⟩; obtain ⟨d0, d1⟩ := hbx.out w2 g2)
        go_ret2
        exact ⟨hGV.out.trans g2, .inr ⟨x, _, rfl, rfl, hE2.out.new g2⟩⟩
      · rw [if_neg he] at hO1
        have hdq : decide (x.codes = p) = false := by simp [he]
        rw [hdq] at hR
        replace hO1 := Lib.hid hO1
        clear he hdq
        go_wp2_with fail
        rw [← hV]
        clear hV c0 c1
        go_wp2_with (go_at_call 25; refine hR.mono ?_; clear hR d0 d1; rintro e w2 ⟨rfl, g2⟩; have hG2 := Lib.hid (hGV.out.trans g2))
        exact ⟨⟨i + 1, by go_num, by omega, hO1, hG2⟩, by simp [RowKit.intOf]; omega⟩
    · obtain rfl : n = i := by omega
      have hO1 := hO.out
      rw [hn.out, List.drop_length] at hO1
      have hO2 : o = none := hO1
      subst hO2
      clear hO1 hO
      go_wp2
      go_ret2
      exact ⟨hG.out, .inl ⟨rfl, rfl⟩⟩
end Go.Proofs.Ytlnplompnabmlaa

/-
  LAYER 9 (trie): the reference's Less.
-/
namespace Go.Proofs.Ytlnplompnabmlaa
set_option maxRecDepth 100000
open Go.RowKit

theorem lessL_step {a b : List Int} {i : Nat} {x y : Int} (hx : a[i]? = some x) (hy : b[i]? = some y) : lessL (a.drop i) (b.drop i) = if x = y then lessL (a.drop (i + 1)) (b.drop (i + 1)) else decide (x < y) := by
  obtain ⟨h1, rfl⟩ := List.getElem?_eq_some_iff.1 hx
  obtain ⟨h2, rfl⟩ := List.getElem?_eq_some_iff.1 hy
  rw [List.drop_eq_getElem_cons h1, List.drop_eq_getElem_cons h2, lessL]
theorem lessL_long {a b : List Int} {i : Nat} (h1 : i < a.length) (h2 : b.length ≤ i) : lessL (a.drop i) (b.drop i) = false := by
  rw [List.drop_eq_getElem_cons h1, List.drop_eq_nil_of_le h2, lessL]
theorem lessL_short {a b : List Int} {i : Nat} (h1 : a.length = i) : lessL (a.drop i) (b.drop i) = decide (i < b.length) := by
  rw [List.drop_eq_nil_of_le (by omega)]
  by_cases h : i < b.length
  · rw [List.drop_eq_getElem_cons h, lessL]; simp [h]
  · rw [List.drop_eq_nil_of_le (by omega), lessL]; simp [h]

set_option maxHeartbeats 4000000 in
theorem rless_any (P P' : Nat → Prop) (va vb : Value) (a b : List Int) (w : World) (ha : SR P 1 w va a.length (rc a)) (hb : SR P' 1 w vb b.length (rc b)) :
    Calls Try.prog 41 #[va, vb] w fun e w' => e = .returned (.bool (lessL a b)) ∧ w.grownBy w' none := by
  obtain ⟨x1, c1, rfl, hc1, hm1⟩ := ha.form
  obtain ⟨x2, c2, rfl, hc2, hm2⟩ := hb.form
  unfold maxLen at hm1 hm2
  obtain ⟨r, hr⟩ : ∃ r, Hid (r = lessL a b) := ⟨_, rfl⟩
  rw [show lessL a b = r from hr.out.symm]
  obtain ⟨n, hn⟩ : ∃ n, n = a.length := ⟨_, rfl⟩
  obtain ⟨m, hm⟩ : ∃ m, m = b.length := ⟨_, rfl⟩
  have HA : Hid (SR P 1 w (.slice x1 a.length c1) a.length (rc a)) := ha
  have HB : Hid (SR P' 1 w (.slice x2 b.length c2) b.length (rc b)) := hb
  have HN : Hid (n = a.length ∧ m = b.length) := ⟨hn, hm⟩
  clear ha hb
  rw [← hn] at hc1 ⊢
  rw [← hm] at hc2 ⊢
  clear hn hm
  go_enter Try.func41, Try.ntmps41
  go_wp2_with fail
  go_loopw [8] (fun vi wr => ∃ i : Nat, vi = .int .i64 (i : Int) ∧ i ≤ n ∧ i ≤ m ∧ Hid (r = lessL (a.drop i) (b.drop i)) ∧ Hid (w.grownBy wr none)) (fun vi _ => n - (RowKit.intOf vi).toNat)
  case atStart => exact ⟨0, rfl, Nat.zero_le _, Nat.zero_le _, hr.out, World.grownBy.refl _ _⟩
  case round =>
    obtain ⟨i, rfl, hi1, hi2, hR, hG⟩ := hrel
    by_cases hlt : i < n
    · have hltz : (i : Int) < (n : Int) := by omega
      by_cases hlm : i < m
      · have hlmz : ¬ ((i : Int) ≥ (m : Int)) := by omega
        obtain ⟨x, hx⟩ : ∃ x, a[i]? = some x := ⟨_, List.getElem?_eq_getElem (by have := HN.out.1; omega)⟩
        obtain ⟨y, hy⟩ : ∃ y, b[i]? = some y := ⟨_, List.getElem?_eq_getElem (by have := HN.out.2; omega)⟩
        obtain ⟨g1, o1, e1, _, k1⟩ := rc_get (HA.out.new hG.out) hx
        obtain ⟨g2, o2, e2, _, k2⟩ := rc_get (HB.out.new hG.out) hy
        have hst := lessL_step hx hy
        subst e1 e2
        by_cases hxy : x = y
        · rw [if_pos hxy] at hst
          have HS : Hid (r = lessL (a.drop (i + 1)) (b.drop (i + 1))) := hR.out.trans hst
          clear hst hR hx hy
          subst hxy
          go_wp2_with fail
          go_quiet (fail)
          go_wp2_with fail
          exact ⟨⟨i + 1, by go_num, by omega, by omega, HS, gdrewN hG.out nq⟩, by simp [RowKit.intOf]; omega⟩
        · rw [if_neg hxy] at hst
          have HS : Hid (r = decide (x < y)) := hR.out.trans hst
          clear hst hR hx hy
          go_wp2_with fail
          go_quiet (fail)
          go_wp2_with fail
          generalize hwd : wr.drewN nq = wd
          have HG2 : Hid (w.grownBy wd none) := by rw [← hwd]; exact gdrewN hG.out nq
          have k3 : wd.cell? ⟨g1, o1 + i, none⟩ = some (.int .i32 x) := by rw [← hwd]; exact k1
          have k4 : wd.cell? ⟨g2, o2 + i, none⟩ = some (.int .i32 y) := by rw [← hwd]; exact k2
          clear hwd k1 k2
          go_quiet (fail)
          go_wp2_with fail
          go_ret
          exact ⟨by rw [HS.out]; rfl, gdrewN HG2.out nq⟩
      · have hlmz : (i : Int) ≥ (m : Int) := by omega
        have HS : Hid (r = false) := hR.out.trans (lessL_long (by have := HN.out.1; omega) (by have := HN.out.2; omega))
        clear hR
        go_wp2_with fail
        go_ret
        exact ⟨by rw [HS.out]; rfl, hG.out⟩
    · obtain rfl : n = i := by omega
      have HS : Hid (r = decide (n < m)) := hR.out.trans ((lessL_short HN.out.1.symm).trans (by rw [← HN.out.2]))
      clear hR
      go_wp2_with fail
      go_ret
      exact ⟨by rw [HS.out]; rfl, hG.out⟩
end Go.Proofs.Ytlnplompnabmlaa

/-
  LAYER 9 (trie): the order of entries by insertion, pure; a list of numbers in memory; kids and paths are few.
-/
namespace Go.Proofs.Ytlnplompnabmlaa
set_option maxRecDepth 100000
open Go.RowKit Go.Lib

theorem strict_put {c : Nat → List Int} {A B : List Nat} {i : Nat} (h : Strict c (A ++ B)) (hb : ∀ b ∈ B, lessL (c i) (c b) = true) (ha : ∀ y, A.getLast? = some y → lessL (c y) (c i) = true) : Strict c (A ++ i :: B) := by
  unfold Strict at h ⊢
  rw [List.pairwise_append] at h ⊢
  obtain ⟨h1, h2, h3⟩ := h
  refine ⟨h1, List.pairwise_cons.2 ⟨hb, h2⟩, fun a hA b hB => ?_⟩
  have hai : lessL (c a) (c i) = true := by
    rcases List.eq_nil_or_concat A with rfl | ⟨A', y, rfl⟩
    · cases hA
    · have hy := ha y (by simp)
      rw [List.concat_eq_append] at hA h1
      rcases List.mem_append.1 hA with h | h
      · exact lessL_trans _ _ _ ((List.pairwise_append.1 h1).2.2 a h y (by simp)) hy
      · have : a = y := by simpa using h
        rw [this]; exact hy
  rcases List.mem_cons.1 hB with rfl | hB
  · exact hai
  · exact h3 a hA b hB

/-- A list of numbers, in a row of its own. -/
def NumsO (w : World) (B : Nat) (v : Value) (O : List Nat) : Prop := w.ownsRow B 3 1 v O.length (O.map fun i : Nat => .int .i64 (i : Int))
theorem NumsO.form {w : World} {B : Nat} {v : Value} {O : List Nat} (h : NumsO w B v O) : ∃ a c, v = .slice a O.length c := rowForm h
theorem NumsO.kept {w w' : World} {B : Nat} {v : Value} {O : List Nat} {r : Option Nat} (h : NumsO w B v O) (g : w.grownBy w' r) (hr : v.ownBlock = none ∨ v.ownBlock ≠ r) : NumsO w' B v O := World.ownsRow.kept h g hr
theorem NumsO.new {w w' : World} {B : Nat} {v : Value} {O : List Nat} (h : NumsO w B v O) (g : w.grownBy w' none) : NumsO w' B v O := h.kept g (by cases v.ownBlock <;> simp)
theorem NumsO.at {w : World} {B : Nat} {a : Option Addr} {n c : Nat} {O : List Nat} (h : NumsO w B (.slice a n c) O) {k i : Nat} (hk : O[k]? = some i) : ∃ g, a = some ⟨g, 0, none⟩ ∧ B ≤ g ∧ g < w.heap.size ∧ n = O.length ∧ w.cell? ⟨g, k, none⟩ = some (.int .i64 (i : Int)) ∧ w.frozen? ⟨g, k, none⟩ = false := by
  have hl := (List.getElem?_eq_some_iff.1 hk).1
  have hr := h
  unfold NumsO at hr
  obtain ⟨h0, ⟨e, hz⟩ | ⟨g, cap, cur, e, q1, q2, q3⟩⟩ := h
  · omega
  · obtain ⟨rfl, rfl, rfl⟩ : a = some ⟨g, 0, none⟩ ∧ n = O.length ∧ c = cap := by simpa using e
    refine ⟨g, rfl, q1, lt_of_block q2, rfl, ?_, World.ownsRow.frozenAt hr k⟩
    rw [World.ownsRow.cellAt hr k (by omega)]
    simp [hk]
/-- Two neighbours change places. -/
theorem NumsO.swap {w : World} {B g c : Nat} {A C : List Nat} {x y : Nat} (h : NumsO w B (.slice (some ⟨g, 0, none⟩) (A ++ x :: y :: C).length c) (A ++ x :: y :: C)) :
    NumsO ((w.setCell ⟨g, A.length, none⟩ (.int .i64 (y : Int))).setCell ⟨g, A.length + 1, none⟩ (.int .i64 (x : Int))) B (.slice (some ⟨g, 0, none⟩) (A ++ x :: y :: C).length c) (A ++ y :: x :: C) := by
  unfold NumsO at h ⊢
  have h1 := (World.ownsRow.stored h A.length (.int .i64 (y : Int))).1
  have h2 := (World.ownsRow.stored h1 (A.length + 1) (.int .i64 (x : Int))).1
  have e : (((A ++ x :: y :: C).map fun i : Nat => Value.int .i64 (i : Int)).set A.length (.int .i64 (y : Int))).set (A.length + 1) (.int .i64 (x : Int)) = (A ++ y :: x :: C).map fun i : Nat => Value.int .i64 (i : Int) := by
    simp only [List.map_append, List.map_cons]
    rw [List.set_append_right (h := by simp), List.length_map, Nat.sub_self, List.set_cons_zero, List.set_append_right (h := by simp), List.length_map, show A.length + 1 - A.length = 1 by omega]
    rfl
  rw [e] at h2
  have el : (A ++ y :: x :: C).length = (A ++ x :: y :: C).length := by simp
  rw [el]
  exact h2

theorem nodup_len : ∀ (l m : List Int), l.Nodup → (∀ x ∈ l, x ∈ m) → l.length ≤ m.length
  | [], _, _, _ => Nat.zero_le _
  | x :: l, m, hn, h => by
    have hx := h x (by simp)
    have ih := nodup_len l (m.erase x) (List.nodup_cons.1 hn).2 (fun y hy => (List.mem_erase_of_ne (fun e => (List.nodup_cons.1 hn).1 (by rw [← e]; exact hy))).2 (h y (by simp [hy])))
    have hm : 0 < m.length := List.length_pos_of_mem hx
    rw [List.length_erase_of_mem hx] at ih
    rw [List.length_cons]
    omega
theorem kids_few {cs : List (List Int)} {nd : List Int → Option Nat} (hd : ∀ p, nd p ≠ none ↔ p = [] ∨ ∃ x ∈ cs, p <+: x) {p : List Int} {kl : Kl} (hk : KidsOf nd p kl) : kl.length ≤ cs.length := by
  have h := nodup_len (kl.map (·.1)) (cs.map fun x => (x[p.length]?).getD 0) hk.1 (fun r hr => by
    obtain ⟨⟨r', c⟩, hc, rfl⟩ := List.mem_map.1 hr
    have hne : nd (p ++ [r']) ≠ none := by rw [(hk.2 r' c).1 hc]; simp
    rcases (hd _).1 hne with e | ⟨x, hx, s, hs⟩
    · simp at e
    · refine List.mem_map.2 ⟨x, hx, ?_⟩
      rw [← hs, List.append_assoc, List.getElem?_append_right (Nat.le_refl _)]
      simp)
  simpa using h
theorem path_short {cs : List (List Int)} {nd : List Int → Option Nat} (hd : ∀ p, nd p ≠ none ↔ p = [] ∨ ∃ x ∈ cs, p <+: x) (h8 : ∀ x ∈ cs, x.length ≤ 8) {p : List Int} (hp : nd p ≠ none) : p.length ≤ 8 := by
  rcases (hd _).1 hp with rfl | ⟨x, hx, hs⟩
  · exact Nat.zero_le _
  · exact Nat.le_trans hs.length_le (h8 x hx)
/-- There is an order. -/
theorem order_ex {cs : List (List Int)} (hn : cs.Nodup) : ∀ n, n ≤ cs.length → ∃ O, Strict (codesAt cs) O ∧ ∀ i, i ∈ O ↔ i < n
  | 0, _ => ⟨[], List.Pairwise.nil, by simp⟩
  | n + 1, h => by
    obtain ⟨O, h1, h2⟩ := order_ex hn n (by omega)
    refine ⟨O.filter (fun i => lessL (codesAt cs i) (codesAt cs n)) ++ n :: O.filter (fun i => lessL (codesAt cs n) (codesAt cs i)), ?_, fun i => ?_⟩
    · unfold Strict
      rw [List.pairwise_append]
      refine ⟨List.Pairwise.filter _ h1, List.pairwise_cons.2 ⟨fun b hb => by simpa using (List.mem_filter.1 hb).2, List.Pairwise.filter _ h1⟩, fun a ha b hb => ?_⟩
      have ha' : lessL (codesAt cs a) (codesAt cs n) = true := by simpa using (List.mem_filter.1 ha).2
      rcases List.mem_cons.1 hb with rfl | hb
      · exact ha'
      · exact lessL_trans _ _ _ ha' (by simpa using (List.mem_filter.1 hb).2)
    · rw [List.mem_append, List.mem_cons, List.mem_filter, List.mem_filter, h2]
      constructor
      · rintro (h | h | h) <;> omega
      · intro hi
        by_cases e : i = n
        · exact .inr (.inl e)
        · have hne : codesAt cs i ≠ codesAt cs n := fun e2 => e (at_inj hn (by omega) (by omega) e2)
          rcases lessL_total _ _ hne with h | h
          · exact .inl ⟨by omega, h⟩
          · exact .inr (.inr ⟨by omega, h⟩)
theorem under_nil {c : Nat → List Int} {O : List Nat} : underL c O [] = O := by
  unfold underL
  rw [List.filter_eq_self]
  intro i _
  rfl
theorem numsU_mem {cs : List (List Int)} {O : List Nat} (hm : ∀ i, i ∈ O ↔ i < cs.length) {p : List Int} {m : Int} (h : m ∈ numsU cs O p) : ∃ i : Nat, m = i ∧ i < cs.length := by
  unfold numsU at h
  obtain ⟨i, hi, rfl⟩ := List.mem_map.1 h
  exact ⟨i, rfl, (hm i).1 (mem_under.1 hi).1⟩
end Go.Proofs.Ytlnplompnabmlaa
