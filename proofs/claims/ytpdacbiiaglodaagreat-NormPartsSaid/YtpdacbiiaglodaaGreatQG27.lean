/-
  LAYER 5 (norms): the reference's Hangul.
-/
import Derived.Test.YtpdacbiiaglodaaGreatQG11
import Derived.Test.YtpdacbiiaglodaaGreatQG13
import Derived.Test.YtpdacbiiaglodaaGreatQG12
namespace Go.Proofs.YtpdacbiiaglodaaGreat
set_option maxRecDepth 100000
open Go.RowKit Go.Lib

theorem refHangul_none (r : Int) (w : World) (hr : syl r = false) :
    Calls Tryz.prog 82 #[.int .i32 r] w fun e w' => e = .returned (.slice none 0 0) ∧ w = w' := by
  simp only [syl, decide_eq_false_iff_not] at hr
  by_cases h1 : r < 44032
  · have d1 : decide (r < 44032) = true := by simpa using h1
    clear hr h1
    go_enter Tryz.func82, Tryz.ntmps82
    go_wp2
    go_ret
    exact ⟨rfl, rfl⟩
  · have d1 : decide (r < 44032) = false := by simpa using h1
    have d2 : decide (55203 < r) = true := by simp; omega
    clear hr h1
    go_enter Tryz.func82, Tryz.ntmps82
    go_wp2
    go_ret
    exact ⟨rfl, rfl⟩

set_option maxHeartbeats 2000000 in
theorem refHangul_syl (r : Int) (w : World) (hr : syl r = true) :
    Calls Tryz.prog 82 #[.int .i32 r] w fun e w' => ∃ v, e = .returned v ∧ w'.ownsRow w.heap.size 21 1 v (hang r).length (rCells (hang r)) ∧ w.grownBy w' none := by
  simp only [syl, decide_eq_true_eq] at hr
  have d1 : decide (r < 44032) = false := by simp; omega
  have d2 : decide (55203 < r) = false := by simp; omega
  obtain ⟨i0, hi, hz0, hz1, hz2⟩ := infoRune_parts
  have hl : ∀ w : World, (w.alloc (.cells #[.int .i32 (4352 + (r - 44032) / 588), .int .i32 (4449 + (r - 44032) % 588 / 28)] 21)).ownsRow w.heap.size 21 1 (.slice (some ⟨w.heap.size, 0, none⟩) 2 2) 2 (rCells [4352 + (r - 44032) / 588, 4449 + (r - 44032) % 588 / 28]) :=
    fun w => own_lit (rCells [4352 + (r - 44032) / 588, 4449 + (r - 44032) % 588 / 28]) rfl rfl (by unfold maxLen; omega)
  by_cases ht : (r - 44032) % 28 = 0
  · rw [hang_none r ht]
    go_enter Tryz.func82, Tryz.ntmps82
    go_wp2
    go_ret
    exact ⟨_, rfl, hl w, World.grownBy_alloc w _ none⟩
  · rw [hang_some r ht]
    go_enter Tryz.func82, Tryz.ntmps82
    go_wp2_with (at_builtin; refine wpList_append_own _ rfl _ _ 50 rfl w.heap.size 21 i0 (.int .i32 0) 1 4 Tryz.underlying50 hi hz0 hz1 hz2 rfl (by decide) _ 2 _ rfl ((hl w).alloc _) ⟨w.heap.size + 1, 0, none⟩ 1 1 [.int .i32 (4519 + (r - 44032) % 28)] rfl rfl ?c1 ?c2 ?c3 ?c4 ?c5 ?_)
    case c1 =>
      intro j u hj
      match j, hj with
      | 0, hj =>
        simp at hj; subst hj
        have hn := World.alloc_heap_new (w.alloc (.cells #[.int .i32 (4352 + (r - 44032) / 588), .int .i32 (4449 + (r - 44032) % 588 / 28)] 21)) (.cells #[.int .i32 (4519 + (r - 44032) % 28)] 21)
        rw [World.size_alloc] at hn
        rw [show (⟨w.heap.size + 1, 0, none⟩ : Addr).add 0 = ⟨w.heap.size + 1, 0, none⟩ from rfl]
        simp only [World.cell?, hn]
        rfl
    case c2 => intro u hu; simp at hu; subst hu; rfl
    case c3 => unfold maxLen; omega
    case c4 => omega
    case c5 => simp; omega
    intro v' w1 hown hgrow _
    have hg : w.grownBy w1 none := gnew (galloc (galloc (World.grownBy.refl w none) _) _) hgrow (fun q e => .inl (by simp [Value.ownBlock] at e; omega))
    have ho : w1.ownsRow w.heap.size 21 1 v' 3 (rCells [4352 + (r - 44032) / 588, 4449 + (r - 44032) % 588 / 28, 4519 + (r - 44032) % 28]) := hown
    clear hown hgrow
    go_wp2
    go_ret
    exact ⟨_, rfl, ho, hg⟩
end Go.Proofs.YtpdacbiiaglodaaGreat

/-
  LAYER 5 (norms): the reference's step and Class.
-/
namespace Go.Proofs.YtpdacbiiaglodaaGreat
set_option maxRecDepth 100000
open Go.RowKit Go.Lib

theorem stp_take (d : List Dec) (r : Int) (i : Nat) (hi : i < d.length) (h : stp (d.take i) r = none) : stp (d.take (i + 1)) r = if (d[i]).1 = r then some d[i] else none := by
  rw [List.take_succ_eq_append_getElem hi]
  unfold stp at h ⊢
  rw [List.find?_append, h]
  by_cases e : (d[i]).1 = r <;> simp [e]
theorem stp_prefix (d : List Dec) (r : Int) (i : Nat) (x : Dec) (h : stp (d.take i) r = some x) : stp d r = some x := by
  have : d = d.take i ++ d.drop i := (List.take_append_drop i d).symm
  unfold stp at h ⊢
  rw [this, List.find?_append, h]
  rfl

set_option maxHeartbeats 4000000 in
theorem refStep_any (vd : Value) (d : List Dec) (r : Int) (w : World) (hT : Tri .i32 w vd d) :
    Calls Tryz.prog 81 #[vd, .int .i32 r] w fun e w' => ((stp d r = none ∧ e = .returned (.int .i64 (-1))) ∨ ∃ (i : Nat) (x : Dec), d[i]? = some x ∧ stp d r = some x ∧ e = .returned (.int .i64 (i : Int))) ∧ w.grownBy w' none := by
  obtain ⟨a, cp, rfl, hc, hm⟩ := hT.form
  unfold maxLen at hm
  go_enter Tryz.func81, Tryz.ntmps81
  go_wp2
  go_loopw [9] (fun vi wr => ∃ i : Nat, vi = .int .i64 (i : Int) ∧ i ≤ d.length ∧ Hid (stp (d.take i) r = none) ∧ w.grownBy wr none) (fun vi _ => d.length - (RowKit.intOf vi).toNat)
  case atStart => exact ⟨0, rfl, Nat.zero_le _, Lib.hid rfl, World.grownBy.refl w none⟩
  case round =>
    obtain ⟨i, rfl, hi, hst, hg⟩ := hrel
    by_cases hlt : i < d.length
    · obtain ⟨x, hx⟩ : ∃ x, d[i] = x := ⟨_, rfl⟩
      obtain ⟨b, off, rfl, c1, c2, c3⟩ := (hT.all hg).get hlt
      rw [hx] at c1 c2 c3
      have hnx := stp_take d r i hlt hst.out
      rw [hx] at hnx
      have hgx := List.getElem?_eq_getElem hlt
      rw [hx] at hgx
      clear hx
      by_cases he : x.1 = r
      · rw [if_pos he] at hnx
        have hb : (x.1 == r) = true := by simpa using he
        have hfin := stp_prefix d r (i + 1) x hnx
        replace hnx := Lib.hid hnx
        replace he := Lib.hid he
        replace hfin := Lib.hid hfin
        replace hgx := Lib.hid hgx
        go_wp2
        go_ret
        exact ⟨.inr ⟨i, x, hgx.out, hfin.out, rfl⟩, galloc hg _⟩
      · rw [if_neg he] at hnx
        have hb : (x.1 == r) = false := by simpa using he
        replace hnx := Lib.hid hnx
        replace he := Lib.hid he
        replace hgx := Lib.hid hgx
        go_wp2
        exact ⟨⟨i + 1, by go_num, by omega, hnx, galloc hg _⟩, by simp [RowKit.intOf]; omega⟩
    · obtain rfl : i = d.length := by omega
      rw [List.take_length] at hst
      go_wp2
      go_ret
      exact ⟨.inl ⟨hst.out, rfl⟩, hg⟩
theorem clsOf_take (c : List Cls) (r : Int) : ∀ (i : Nat) (hi : i < c.length), (∀ j (hj : j < i), ¬ ((c[j]'(by omega)).1 ≤ r ∧ r ≤ (c[j]'(by omega)).2.1)) → ((c[i]).1 ≤ r ∧ r ≤ (c[i]).2.1) → clsOf c r = (c[i]).2.2 := by
  induction c with
  | nil => intro i hi; simp at hi
  | cons y t ih =>
    intro i hi hall h
    rw [clsOf]
    cases i with
    | zero => rw [if_pos (by simpa using h)]; rfl
    | succ i =>
      rw [if_neg (by simpa using hall 0 (by omega))]
      simpa using ih i (by simpa using hi) (fun j hj => by simpa using hall (j + 1) (by omega)) (by simpa using h)
set_option maxHeartbeats 4000000 in
theorem refClass_any (vc : Value) (c : List Cls) (r : Int) (w : World) (hT : Tri .i64 w vc c) :
    Calls Tryz.prog 76 #[vc, .int .i32 r] w fun e w' => e = .returned (.int .i64 (clsOf c r)) ∧ w.grownBy w' none := by
  obtain ⟨a, cp, rfl, hc, hm⟩ := hT.form
  unfold maxLen at hm
  go_enter Tryz.func76, Tryz.ntmps76
  go_wp2
  go_loopw [9] (fun vi wr => ∃ i : Nat, vi = .int .i64 (i : Int) ∧ ∃ hi : i ≤ c.length, Hid (∀ j (hj : j < i), ¬ ((c[j]'(by omega)).1 ≤ r ∧ r ≤ (c[j]'(by omega)).2.1)) ∧ w.grownBy wr none) (fun vi _ => c.length - (RowKit.intOf vi).toNat)
  case atStart => exact ⟨0, rfl, Nat.zero_le _, Lib.hid (fun j hj => absurd hj (Nat.not_lt_zero j)), World.grownBy.refl w none⟩
  case round =>
    obtain ⟨i, rfl, hi, hst, hg⟩ := hrel
    by_cases hlt : i < c.length
    · have hfin := clsOf_take c r i hlt hst.out
      have hst2 : ¬ ((c[i]).1 ≤ r ∧ r ≤ (c[i]).2.1) → ∀ j (hj : j < i + 1), ¬ ((c[j]'(by omega)).1 ≤ r ∧ r ≤ (c[j]'(by omega)).2.1) := fun hn j hj => by
        by_cases hji : j = i
        · subst hji; exact hn
        · exact hst.out j (by omega)
      replace hst2 := Lib.hid hst2
      obtain ⟨x, hx⟩ : ∃ x, c[i] = x := ⟨_, rfl⟩
      obtain ⟨b, off, rfl, c1, c2, c3⟩ := (hT.all hg).get hlt
      rw [hx] at c1 c2 c3 hfin
      have hx' := Lib.hid hx
      clear hx
      by_cases h1 : x.1 ≤ r
      · have d1 : decide (x.1 ≤ r) = true := by simpa using h1
        by_cases h2 : r ≤ x.2.1
        · have d2 : decide (r ≤ x.2.1) = true := by simpa using h2
          replace hfin := Lib.hid (hfin ⟨h1, h2⟩)
          clear h1 h2
          go_wp2
          go_ret
          exact ⟨by rw [hfin.out]; rfl, galloc hg _⟩
        · have d2 : decide (r ≤ x.2.1) = false := by simpa using h2
          have hn := Lib.hid (hst2.out (by rw [hx'.out]; exact fun h => h2 h.2))
          clear h1 h2 hfin
          go_wp2
          exact ⟨⟨i + 1, by go_num, by omega, hn, galloc hg _⟩, by simp [RowKit.intOf]; omega⟩
      · have d1 : decide (x.1 ≤ r) = false := by simpa using h1
        have hn := Lib.hid (hst2.out (by rw [hx'.out]; exact fun h => h1 h.1))
        clear h1 hfin
        go_wp2
        exact ⟨⟨i + 1, by go_num, by omega, hn, galloc hg _⟩, by simp [RowKit.intOf]; omega⟩
    · obtain rfl : i = c.length := by omega
      have h0 := Lib.hid (clsOf_none (c := c) (r := r) (fun j hj => hst.out j hj))
      clear hst
      go_wp2
      go_ret
      exact ⟨by rw [h0.out]; rfl, hg⟩
end Go.Proofs.YtpdacbiiaglodaaGreat

/-
  LAYER 5 (norms): the reference's deep.
-/
namespace Go.Proofs.YtpdacbiiaglodaaGreat
set_option maxRecDepth 100000
open Go.RowKit Go.Lib

/-- What the reference's deep comes to, where it ends. -/
def dval (d : List Dec) (k : Nat) (r : Int) : List Int := match stp d r with
  | none => byR r
  | some x => whl d k x
theorem dval_length (d : List Dec) (k : Nat) (r : Int) : (dval d k r).length ≤ k + 3 := by
  unfold dval
  cases stp d r with
  | none => have := byR_length r; simp only; omega
  | some x => exact whl_length d k x
theorem dval_whl (d : List Dec) (k : Nat) (x : Dec) : whl d (k + 1) x = dval d k x.2.1 ++ (if x.2.2 = 0 then [] else [x.2.2]) := by
  rw [whl]; rfl

theorem hang_pos (r : Int) : 0 < (hang r).length := by unfold hang; simp

set_option maxHeartbeats 8000000 in
theorem refDeep_none (vd : Value) (d : List Dec) (m : Int) (r : Int) (w : World) (hT : Tri .i32 w vd d) (hs : stp d r = none) :
    Calls Tryz.prog 83 #[vd, .int .i32 r, .int .i64 m] w fun e w' => ∃ v, e = .returned (.tuple #[v, .bool true]) ∧ w'.ownsRow w.heap.size 21 1 v (byR r).length (rCells (byR r)) ∧ w.grownBy w' none := by
  unfold byR
  by_cases hr : syl r = true
  · rw [if_pos hr]
    have hH := refHangul_syl r w hr
    have hp := hang_pos r
    generalize rCells (hang r) = xs at hH ⊢
    generalize (hang r).length = n at hH hp ⊢
    have dn : decide ((0 : Int) < (n : Int)) = true := by simpa using hp
    clear hT hs hr
    go_enter Tryz.func83, Tryz.ntmps83
    go_wp2_with (go_at_call 82; refine hH.mono ?_; rintro e w1 ⟨v1, rfl, hown, hg1⟩; have hown2 := hown; obtain ⟨q1, ⟨rfl, q2⟩ | ⟨g, cap, cur, rfl, q4, q5⟩⟩ := hown; first | (exfalso; omega) | skip)
    go_ret2
    exact ⟨_, rfl, hown2, hg1⟩
  · rw [if_neg hr]
    rw [Bool.not_eq_true] at hr
    have hH := refHangul_none r w hr
    have hS := refStep_any vd d r w hT
    rw [hs] at hS
    obtain ⟨a, cp, rfl, hc, hm⟩ := hT.form
    clear hT hr
    go_enter Tryz.func83, Tryz.ntmps83
    go_wp2_with (first
      | (go_at_call 82; refine hH.mono ?_; rintro e w1 ⟨rfl, rfl⟩)
      | (go_at_call 81; refine hS.mono ?_; rintro e w1 ⟨⟨_, rfl⟩ | ⟨i, x, _, h, _⟩, hg1⟩; rotate_left; cases h))
    go_ret2
    exact ⟨_, rfl, ownLow (own_lit (n := 1) (rCells [r]) rfl rfl (by unfold maxLen; omega)) hg1.size, hg1.trans (World.grownBy_alloc _ _ none)⟩

set_option maxHeartbeats 8000000 in
theorem refDeep_some (vd : Value) (d : List Dec) (k : Nat) (r : Int) (x : Dec) (L : List Int) (w : World) (hk : k ≤ 4) (hL : L.length ≤ 10) (hT : Tri .i32 w vd d) (hs : stp d r = some x) (hsy : syl r = false)
    (ih : ∀ W, w.grownBy W none → Calls Tryz.prog 83 #[vd, .int .i32 x.2.1, .int .i64 (k : Int)] W fun e w' => ∃ v, e = .returned (.tuple #[v, .bool true]) ∧ w'.ownsRow W.heap.size 21 1 v L.length (rCells L) ∧ W.grownBy w' none) :
    Calls Tryz.prog 83 #[vd, .int .i32 r, .int .i64 ((k : Int) + 1)] w fun e w' => ∃ v, e = .returned (.tuple #[v, .bool true]) ∧ w'.ownsRow w.heap.size 21 1 v (L ++ (if x.2.2 = 0 then [] else [x.2.2])).length (rCells (L ++ (if x.2.2 = 0 then [] else [x.2.2]))) ∧ w.grownBy w' none := by
  have hH := refHangul_none r w hsy
  have hS := refStep_any vd d r w hT
  rw [hs] at hS
  obtain ⟨a, cp, rfl, hc, hm⟩ := hT.form
  unfold maxLen at hm
  obtain ⟨i0, hi, hz0, hz1, hz2⟩ := infoRune_parts
  have hk0 : ((k : Int) + 1 == 0) = false := by simp; omega
  have get : ∀ (i : Nat), d[i]? = some x → ∀ W, w.grownBy W none → ∃ b off, a = some ⟨b, off, none⟩ ∧ i < d.length ∧ W.cell? ⟨b, off + i * 3 + 1, none⟩ = some (.int .i32 x.2.1) ∧ W.cell? ⟨b, off + i * 3 + 2, none⟩ = some (.int .i32 x.2.2) := by
    intro i hi W hg
    have hlt := (List.getElem?_eq_some_iff.1 hi).1
    obtain ⟨b, off, e1, _, c2, c3⟩ := (hT.all hg).get hlt
    rw [List.getElem?_eq_getElem hlt] at hi
    cases hi
    exact ⟨b, off, e1, hlt, c2, c3⟩
  by_cases hb : x.2.2 = 0
  · have hzb : (x.2.2 != 0) = false := by rw [hb]; rfl
    rw [if_pos hb, List.append_nil]
    replace hb := Lib.hid hb
    go_enter Tryz.func83, Tryz.ntmps83
    go_wp2_with (first
      | (go_at_call 82; refine hH.mono ?_; rintro e w1 ⟨rfl, rfl⟩)
      | (go_at_call 81; refine hS.mono ?_; rintro e w1 ⟨⟨h, _⟩ | ⟨i, y, hgx, h, rfl⟩, hg1⟩; cases h; cases h; obtain ⟨b, off, rfl, hlt, z1, z2⟩ := get i hgx _ hg1)
      | (go_at_call 83; refine (ih _ hg1).mono ?_; rintro e w2 ⟨v2, rfl, ho2, hg2⟩; have z3 := hg2.cell z2 (by simp)))
    go_ret2
    exact ⟨_, rfl, ownLow ho2 hg1.size, hg1.trans hg2⟩
  · have hzb : (x.2.2 != 0) = true := by simpa using hb
    rw [if_neg hb]
    replace hb := Lib.hid hb
    go_enter Tryz.func83, Tryz.ntmps83
    go_wp2_with (first
      | (go_at_call 82; refine hH.mono ?_; rintro e w1 ⟨rfl, rfl⟩)
      | (go_at_call 81; refine hS.mono ?_; rintro e w1 ⟨⟨h, _⟩ | ⟨i, y, hgx, h, rfl⟩, hg1⟩; cases h; cases h; obtain ⟨b, off, rfl, hlt, z1, z2⟩ := get i hgx _ hg1)
      | (go_at_call 83; refine (ih _ hg1).mono ?_; rintro e w2 ⟨v2, rfl, ho2, hg2⟩; have z3 := hg2.cell z2 (by simp); have hgw := hg1.trans hg2)
      | (at_builtin; refine wpList_append_own _ rfl _ _ 50 rfl w.heap.size 21 i0 (.int .i32 0) 1 4 Tryz.underlying50 hi hz0 hz1 hz2 rfl (by decide) v2 L.length (rCells L) rfl ((ownLow ho2 hg1.size).alloc _) ⟨w2.heap.size, 0, none⟩ 1 1 [.int .i32 x.2.2] rfl rfl ?c1 ?c2 ?c3 ?c4 ?c5 ?_))
    case c1 =>
      intro j u hj
      match j, hj with
      | 0, hj => simp at hj; subst hj; simp [Addr.add]
    case c2 => intro u hu; simp at hu; subst hu; rfl
    case c3 => unfold maxLen; omega
    case c4 => omega
    case c5 => have := hgw.size; simp; omega
    intro v' w3 hown hgrow _
    have hob := World.ownsRow.lt ho2
    have hs1 := hg1.size
    have hg3 : w.grownBy w3 none := gnew (galloc hgw _) hgrow (fun q e => .inl (by have := (hob q e).1; omega))
    have hF : w3.ownsRow w.heap.size 21 1 v' (L ++ [x.2.2]).length (rCells (L ++ [x.2.2])) := by simpa [rCells, i32] using hown
    clear hown hgrow hob ih hS hH hT z1 z2 z3
    go_wp2
    go_ret2
    exact ⟨_, rfl, hF, hg3⟩

theorem refDeep_ok (vd : Value) (d : List Dec) (hsy : ∀ x ∈ d, syl x.1 = false) : ∀ (k : Nat) (r : Int) (w : World), k ≤ 4 → Tri .i32 w vd d → (∀ x, stp d r = some x → mb d k x = true) →
    Calls Tryz.prog 83 #[vd, .int .i32 r, .int .i64 (k : Int)] w fun e w' => ∃ v, e = .returned (.tuple #[v, .bool true]) ∧ w'.ownsRow w.heap.size 21 1 v (dval d k r).length (rCells (dval d k r)) ∧ w.grownBy w' none := by
  intro k
  induction k with
  | zero =>
    intro r w hk hT hmb
    cases hs : stp d r with
    | some x => have := hmb x hs; simp [mb] at this
    | none =>
      have hv : dval d 0 r = byR r := by unfold dval; rw [hs]
      rw [hv]
      exact refDeep_none vd d _ r w hT hs
  | succ k ih =>
    intro r w hk hT hmb
    cases hs : stp d r with
    | none =>
      have hv : dval d (k + 1) r = byR r := by unfold dval; rw [hs]
      rw [hv]
      exact refDeep_none vd d _ r w hT hs
    | some x =>
      have hv : dval d (k + 1) r = dval d k x.2.1 ++ (if x.2.2 = 0 then [] else [x.2.2]) := by
        rw [← dval_whl]
        conv => lhs; unfold dval
        rw [hs]
      have hm := hmb x hs
      have hx : x ∈ d := by unfold stp at hs; exact List.mem_of_find?_eq_some hs
      have hr : x.1 = r := by unfold stp at hs; simpa using List.find?_some hs
      rw [hv]
      refine refDeep_some vd d k r x (dval d k x.2.1) w (by omega) (by have := dval_length d k x.2.1; omega) hT hs (hr ▸ hsy x hx) (fun W hg => ih x.2.1 W (by omega) (hT.all hg) (fun y hy => ?_))
      rw [mb, hy] at hm
      exact hm
end Go.Proofs.YtpdacbiiaglodaaGreat
