/-
  LAYER 9 (trie): the references' comparisons of code points, of elements.
-/
import Derived.Test.YtnnijcafnhhnoaaTCheckA
import Derived.Deep.QuietTactic
import Derived.Laws.StructEq
namespace Go.Proofs.Ytnnijcafnhhnoaa
set_option maxRecDepth 100000
open Go.RowKit Go.Lib
attribute [local go_sem] Oper.semAt_some

instance elDec : DecidableEq El := fun x y => decidable_of_iff (x.p = y.p ∧ x.s = y.s ∧ x.t = y.t ∧ x.v = y.v) ⟨fun ⟨h1, h2, h3, h4⟩ => by cases x; cases y; simp only at h1 h2 h3 h4; subst h1 h2 h3 h4; rfl, fun h => by subst h; exact ⟨rfl, rfl, rfl, rfl⟩⟩
theorem eq_of_take {α : Type} {a b : List α} (hl : a.length = b.length) (h : ∀ j, j < a.length → a[j]? = b[j]?) : a = b := by
  apply List.ext_getElem?
  intro j
  by_cases hj : j < a.length
  · exact h j hj
  · rw [List.getElem?_eq_none (by omega), List.getElem?_eq_none (by omega)]

set_option maxHeartbeats 4000000 in
theorem runes_any (P P' : Nat → Prop) (va vb : Value) (a b : List Int) (w : World) (ha : SR P 1 w va a.length (rc a)) (hb : SR P' 1 w vb b.length (rc b)) :
    Calls Try.prog 25 #[va, vb] w fun e w' => e = .returned (.bool (decide (a = b))) ∧ w.grownBy w' none := by
  obtain ⟨x1, c1, rfl, hc1, hm1⟩ := ha.form
  obtain ⟨x2, c2, rfl, hc2, hm2⟩ := hb.form
  obtain ⟨q, hq⟩ : ∃ q, q = decide (a = b) := ⟨_, rfl⟩
  rw [← hq]
  unfold maxLen at hm1 hm2
  by_cases hl : a.length = b.length
  · have hl1 : ((a.length : Int) != (b.length : Int)) = false := by simp [hl]
    have hlb : ((a.length : Int) == (b.length : Int)) = true := by simp [hl]
    replace hl := Lib.hid hl
    replace hq := Lib.hid hq
    replace ha := Lib.hid ha
    replace hb := Lib.hid hb
    obtain ⟨n, hn⟩ : ∃ n, n = a.length := ⟨_, rfl⟩
    obtain ⟨m, hmm⟩ : ∃ m, m = b.length := ⟨_, rfl⟩
    rw [← hn] at hc1 hl1 hlb ⊢
    rw [← hmm] at hc2 hl1 hlb ⊢
    replace hn := Lib.hid hn
    replace hmm := Lib.hid hmm
    have hnm : n ≤ m ∧ m ≤ n := by have := hl.out; have := hn.out; have := hmm.out; omega
    obtain ⟨hnm1, hnm2⟩ := hnm
    go_enter Try.func25, Try.ntmps25
    go_wp2
    go_loopw [5, 13] (fun _ vi wr => ∃ i : Nat, vi = .int .i64 (i : Int) ∧ i ≤ n ∧ Hid (∀ j, j < i → a[j]? = b[j]?) ∧ Hid (w.grownBy wr none)) (fun _ vi _ => n - (RowKit.intOf vi).toNat)
    case atStart => exact ⟨0, rfl, Nat.zero_le _, Lib.hid (fun j h => absurd h (by omega)), Lib.hid (World.grownBy.refl _ _)⟩
    case round =>
      obtain ⟨i, rfl, hi, hE, hG⟩ := hrel
      by_cases hlt : i < n
      · have hltz : (i : Int) < (n : Int) := by omega
        have hltz2 : (i : Int) < (m : Int) := by omega
        obtain ⟨u, hu⟩ : ∃ u, a[i]? = some u := ⟨_, List.getElem?_eq_getElem (by have := hn.out; omega)⟩
        obtain ⟨v, hv⟩ : ∃ v, b[i]? = some v := ⟨_, List.getElem?_eq_getElem (by have := hmm.out; omega)⟩
        obtain ⟨b1, o1, rfl, _, k1⟩ := rc_get (ha.out.new hG.out) hu
        obtain ⟨b2, o2, rfl, _, k2⟩ := rc_get (hb.out.new hG.out) hv
        by_cases he : u = v
        · have hE2 : Hid (∀ j, j < i + 1 → a[j]? = b[j]?) := Lib.hid (fun j hj => by
            by_cases e : j = i
            · subst e; rw [hu, hv, he]
            · exact hE.out j (by omega))
          have hb1 : (u != v) = false := by simp [he]
          clear hu hv he
          go_wp2_with fail
          go_quiet (fail)
          go_wp2_with fail
          have hG2 := fun nq => Lib.hid (gdrewN hG.out nq)
          exact ⟨⟨i + 1, by go_num, by omega, hE2, hG2 _⟩, by simp [RowKit.intOf]; omega⟩
        · have hb1 : (u != v) = true := by simpa using he
          obtain rfl : q = false := by
            rw [hq.out]
            simp only [decide_eq_false_iff_not]
            intro e
            rw [e, hv] at hu
            cases hu
            exact he rfl
          clear hu hv he
          go_wp2_with fail
          go_quiet (fail)
          go_wp2_with fail
          go_ret
          exact ⟨rfl, gdrewN hG.out _⟩
      · obtain rfl : n = i := by omega
        obtain rfl : q = true := by
          rw [hq.out]
          simp only [decide_eq_true_eq]
          exact eq_of_take hl.out (fun j hj => hE.out j (by have := hn.out; omega))
        go_wp2
        go_ret
        exact ⟨rfl, hG.out⟩
  · have hl1 : ((a.length : Int) != (b.length : Int)) = true := by simp; omega
    obtain rfl : q = false := by
      rw [hq]
      simp only [decide_eq_false_iff_not]
      intro e
      exact hl (by rw [e])
    clear hl hq ha hb
    generalize a.length = n at *
    generalize b.length = m at *
    go_enter Try.func25, Try.ntmps25
    go_wp2
    go_ret
    exact ⟨rfl, World.grownBy.refl _ _⟩
set_option maxHeartbeats 4000000 in
theorem same_any (P P' : Nat → Prop) (va vb : Value) (a b : List El) (w : World) (ha : SR P 4 w va a.length (ec a)) (hb : SR P' 4 w vb b.length (ec b)) :
    Calls Try.prog 14 #[va, vb] w fun e w' => e = .returned (.bool (decide (a = b))) ∧ w.grownBy w' none := by
  obtain ⟨x1, c1, rfl, hc1, hm1⟩ := ha.form
  obtain ⟨x2, c2, rfl, hc2, hm2⟩ := hb.form
  obtain ⟨q, hq⟩ : ∃ q, q = decide (a = b) := ⟨_, rfl⟩
  rw [← hq]
  unfold maxLen at hm1 hm2
  by_cases hl : a.length = b.length
  · have hl1 : ((a.length : Int) != (b.length : Int)) = false := by simp [hl]
    have hlb : ((a.length : Int) == (b.length : Int)) = true := by simp [hl]
    replace hl := Lib.hid hl
    replace hq := Lib.hid hq
    replace ha := Lib.hid ha
    replace hb := Lib.hid hb
    obtain ⟨n, hn⟩ : ∃ n, n = a.length := ⟨_, rfl⟩
    obtain ⟨m, hmm⟩ : ∃ m, m = b.length := ⟨_, rfl⟩
    rw [← hn] at hc1 hl1 hlb ⊢
    rw [← hmm] at hc2 hl1 hlb ⊢
    replace hn := Lib.hid hn
    replace hmm := Lib.hid hmm
    have hnm : n ≤ m ∧ m ≤ n := by have := hl.out; have := hn.out; have := hmm.out; omega
    obtain ⟨hnm1, hnm2⟩ := hnm
    go_enter Try.func14, Try.ntmps14
    go_wp2
    go_loopw [5, 13] (fun _ vi wr => ∃ i : Nat, vi = .int .i64 (i : Int) ∧ i ≤ n ∧ Hid (∀ j, j < i → a[j]? = b[j]?) ∧ Hid (w.grownBy wr none)) (fun _ vi _ => n - (RowKit.intOf vi).toNat)
    case atStart => exact ⟨0, rfl, Nat.zero_le _, Lib.hid (fun j h => absurd h (by omega)), Lib.hid (World.grownBy.refl _ _)⟩
    case round =>
      obtain ⟨i, rfl, hi, hE, hG⟩ := hrel
      by_cases hlt : i < n
      · have hltz : (i : Int) < (n : Int) := by omega
        have hltz2 : (i : Int) < (m : Int) := by omega
        obtain ⟨u, hu⟩ : ∃ u, a[i]? = some u := ⟨_, List.getElem?_eq_getElem (by have := hn.out; omega)⟩
        obtain ⟨v, hv⟩ : ∃ v, b[i]? = some v := ⟨_, List.getElem?_eq_getElem (by have := hmm.out; omega)⟩
        obtain ⟨b1, o1, rfl, _, k1, k2, k3, k4⟩ := ec_get (ha.out.new hG.out) hu
        obtain ⟨b2, o2, rfl, _, m1, m2, m3, m4⟩ := ec_get (hb.out.new hG.out) hv
        by_cases he : u = v
        · have hE2 : Hid (∀ j, j < i + 1 → a[j]? = b[j]?) := Lib.hid (fun j hj => by
            by_cases e : j = i
            · subst e; rw [hu, hv, he]
            · exact hE.out j (by omega))
          subst he
          clear hu hv
          obtain ⟨up, us, ut, uv⟩ := u
          dsimp only at k1 k2 k3 k4 m1 m2 m3 m4
          go_wp2_with fail
          go_quiet (fail)
          go_wp2_with fail
          have hG2 := fun nq => Lib.hid (gdrewN hG.out nq)
          exact ⟨⟨i + 1, by go_num, by omega, hE2, hG2 _⟩, by simp [RowKit.intOf]; omega⟩
        · obtain rfl : q = false := by
            rw [hq.out]
            simp only [decide_eq_false_iff_not]
            intro e
            rw [e, hv] at hu
            cases hu
            exact he rfl
          clear hu hv
          have key : ¬ u.p = v.p ∨ (u.p = v.p ∧ ¬ u.s = v.s) ∨ (u.p = v.p ∧ u.s = v.s ∧ ¬ u.t = v.t) ∨ (u.p = v.p ∧ u.s = v.s ∧ u.t = v.t ∧ ¬ u.v = v.v) := by
            by_cases e1 : u.p = v.p
            · by_cases e2 : u.s = v.s
              · by_cases e3 : u.t = v.t
                · by_cases e4 : u.v = v.v
                  · exact absurd (by obtain ⟨_, _, _, _⟩ := u; obtain ⟨_, _, _, _⟩ := v; simp at e1 e2 e3 e4; subst e1 e2 e3 e4; rfl) he
                  · exact .inr (.inr (.inr ⟨e1, e2, e3, e4⟩))
                · exact .inr (.inr (.inl ⟨e1, e2, e3⟩))
              · exact .inr (.inl ⟨e1, e2⟩)
            · exact .inl e1
          clear he
          obtain ⟨up, us, ut, uv⟩ := u
          obtain ⟨vp, vs, vt, vv⟩ := v
          dsimp only at k1 k2 k3 k4 m1 m2 m3 m4 key
          rcases key with h | ⟨rfl, h⟩ | ⟨rfl, rfl, h⟩ | ⟨rfl, rfl, rfl, h⟩
          all_goals
            go_wp2_with fail
            go_quiet (fail)
            go_wp2_with fail
            go_ret
            exact ⟨rfl, gdrewN hG.out _⟩
      · obtain rfl : n = i := by omega
        obtain rfl : q = true := by
          rw [hq.out]
          simp only [decide_eq_true_eq]
          exact eq_of_take hl.out (fun j hj => hE.out j (by have := hn.out; omega))
        go_wp2
        go_ret
        exact ⟨rfl, hG.out⟩
  · have hl1 : ((a.length : Int) != (b.length : Int)) = true := by simp; omega
    obtain rfl : q = false := by
      rw [hq]
      simp only [decide_eq_false_iff_not]
      intro e
      exact hl (by rw [e])
    clear hl hq ha hb
    generalize a.length = n at *
    generalize b.length = m at *
    go_enter Try.func14, Try.ntmps14
    go_wp2
    go_ret
    exact ⟨rfl, World.grownBy.refl _ _⟩
end Go.Proofs.Ytnnijcafnhhnoaa
