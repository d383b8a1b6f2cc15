/-
  LAYER 5 (norms): the reference's deep where it does not come to an end.
-/
import Derived.Test.YtpdacbiiaglodaaGreatQG27
namespace Go.Proofs.YtpdacbiiaglodaaGreat
set_option maxRecDepth 100000
open Go.RowKit Go.Lib

set_option maxHeartbeats 8000000 in
theorem refDeep_zero (vd : Value) (d : List Dec) (r : Int) (x : Dec) (w : World) (hT : Tri .i32 w vd d) (hs : stp d r = some x) (hsy : syl r = false) :
    Calls Tryz.prog 83 #[vd, .int .i32 r, .int .i64 0] w fun e w' => e = .returned (.tuple #[.slice none 0 0, .bool false]) ∧ w.grownBy w' none := by
  have hH := refHangul_none r w hsy
  have hS := refStep_any vd d r w hT
  rw [hs] at hS
  obtain ⟨a, cp, rfl, hc, hm⟩ := hT.form
  clear hT
  go_enter Tryz.func83, Tryz.ntmps83
  go_wp2_with (first
    | (go_at_call 82; refine hH.mono ?_; rintro e w1 ⟨rfl, rfl⟩)
    | (go_at_call 81; refine hS.mono ?_; rintro e w1 ⟨⟨h, _⟩ | ⟨i, y, hgx, h, rfl⟩, hg1⟩; cases h; cases h))
  go_ret2
  exact ⟨rfl, hg1⟩

set_option maxHeartbeats 8000000 in
theorem refDeep_someF (vd : Value) (d : List Dec) (k : Nat) (r : Int) (x : Dec) (w : World) (hk : k ≤ 4) (hT : Tri .i32 w vd d) (hs : stp d r = some x) (hsy : syl r = false)
    (ih : ∀ W, w.grownBy W none → Calls Tryz.prog 83 #[vd, .int .i32 x.2.1, .int .i64 (k : Int)] W fun e w' => ∃ v, e = .returned (.tuple #[v, .bool false]) ∧ (∃ L : List Int, L.length ≤ k ∧ w'.ownsRow W.heap.size 21 1 v L.length (rCells L)) ∧ W.grownBy w' none) :
    Calls Tryz.prog 83 #[vd, .int .i32 r, .int .i64 ((k : Int) + 1)] w fun e w' => ∃ v, e = .returned (.tuple #[v, .bool false]) ∧ (∃ L : List Int, L.length ≤ k + 1 ∧ w'.ownsRow w.heap.size 21 1 v L.length (rCells L)) ∧ w.grownBy w' none := by
  have hH := refHangul_none r w hsy
  have hS := refStep_any vd d r w hT
  rw [hs] at hS
  obtain ⟨a, cp, rfl, hc, hm⟩ := hT.form
  unfold maxLen at hm
  obtain ⟨i0, hi, hz0, hz1, hz2⟩ := infoRune_parts
  have hk0 : ((k : Int) + 1 == 0) = false := by simp; omega
  have get : ∀ (i : Nat), d[i]? = some x → ∀ W, w.grownBy W none → ∃ b off, a = some ⟨b, off, none⟩ ∧ i < d.length ∧ W.cell? ⟨b, off + i * 3 + 1, none⟩ = some (.int .i32 x.2.1) ∧ W.cell? ⟨b, off + i * 3 + 2, none⟩ = some (.int .i32 x.2.2) := by
    intro i hi W hg
    have hlt := (List.getElem?_eq_some_iff.1 hi).1
    obtain ⟨b, off, e1, _, c2, c3⟩ := (hT.all hg).get hlt
    rw [List.getElem?_eq_getElem hlt] at hi
    cases hi
    exact ⟨b, off, e1, hlt, c2, c3⟩
  by_cases hb : x.2.2 = 0
  · have hzb : (x.2.2 != 0) = false := by rw [hb]; rfl
    replace hb := Lib.hid hb
    go_enter Tryz.func83, Tryz.ntmps83
    go_wp2_with (first
      | (go_at_call 82; refine hH.mono ?_; rintro e w1 ⟨rfl, rfl⟩)
      | (go_at_call 81; refine hS.mono ?_; rintro e w1 ⟨⟨h, _⟩ | ⟨i, y, hgx, h, rfl⟩, hg1⟩; cases h; cases h; obtain ⟨b, off, rfl, hlt, z1, z2⟩ := get i hgx _ hg1)
      | (go_at_call 83; refine (ih _ hg1).mono ?_; rintro e w2 ⟨v2, rfl, ⟨L, hL, ho2⟩, hg2⟩; have z3 := hg2.cell z2 (by simp)))
    go_ret2
    exact ⟨_, rfl, ⟨L, by omega, ownLow ho2 hg1.size⟩, hg1.trans hg2⟩
  · have hzb : (x.2.2 != 0) = true := by simpa using hb
    replace hb := Lib.hid hb
    go_enter Tryz.func83, Tryz.ntmps83
    go_wp2_with (first
      | (go_at_call 82; refine hH.mono ?_; rintro e w1 ⟨rfl, rfl⟩)
      | (go_at_call 81; refine hS.mono ?_; rintro e w1 ⟨⟨h, _⟩ | ⟨i, y, hgx, h, rfl⟩, hg1⟩; cases h; cases h; obtain ⟨b, off, rfl, hlt, z1, z2⟩ := get i hgx _ hg1)
      | (go_at_call 83; refine (ih _ hg1).mono ?_; rintro e w2 ⟨v2, rfl, ⟨L, hL, ho2⟩, hg2⟩; have z3 := hg2.cell z2 (by simp); have hgw := hg1.trans hg2)
      | (at_builtin; refine wpList_append_own _ rfl _ _ 50 rfl w.heap.size 21 i0 (.int .i32 0) 1 4 Tryz.underlying50 hi hz0 hz1 hz2 rfl (by decide) v2 L.length (rCells L) rfl ((ownLow ho2 hg1.size).alloc _) ⟨w2.heap.size, 0, none⟩ 1 1 [.int .i32 x.2.2] rfl rfl ?c1 ?c2 ?c3 ?c4 ?c5 ?_))
    case c1 =>
      intro j u hj
      match j, hj with
      | 0, hj => simp at hj; subst hj; simp [Addr.add]
    case c2 => intro u hu; simp at hu; subst hu; rfl
    case c3 => unfold maxLen; omega
    case c4 => omega
    case c5 => have := hgw.size; simp; omega
    intro v' w3 hown hgrow _
    have hob := World.ownsRow.lt ho2
    have hs1 := hg1.size
    have hg3 : w.grownBy w3 none := gnew (galloc hgw _) hgrow (fun q e => .inl (by have := (hob q e).1; omega))
    have hF : w3.ownsRow w.heap.size 21 1 v' (L ++ [x.2.2]).length (rCells (L ++ [x.2.2])) := by simpa [rCells, i32] using hown
    clear hown hgrow hob ih hS hH hT z1 z2 z3
    go_wp2
    go_ret2
    exact ⟨_, rfl, ⟨L ++ [x.2.2], by simp; omega, hF⟩, hg3⟩

/-- What deep lays together where it does not come to an end: some list, no longer than its depth. -/
theorem refDeep_bad (vd : Value) (d : List Dec) (hsy : ∀ x ∈ d, syl x.1 = false) : ∀ (k : Nat) (r : Int) (x : Dec) (w : World), k ≤ 4 → Tri .i32 w vd d → stp d r = some x → mb d k x = false →
    Calls Tryz.prog 83 #[vd, .int .i32 r, .int .i64 (k : Int)] w fun e w' => ∃ v, e = .returned (.tuple #[v, .bool false]) ∧ (∃ L : List Int, L.length ≤ k ∧ w'.ownsRow w.heap.size 21 1 v L.length (rCells L)) ∧ w.grownBy w' none := by
  intro k
  induction k with
  | zero =>
    intro r x w hk hT hs hmb
    have hx : x ∈ d := by unfold stp at hs; exact List.mem_of_find?_eq_some hs
    have hr : x.1 = r := by unfold stp at hs; simpa using List.find?_some hs
    refine (refDeep_zero vd d r x w hT hs (hr ▸ hsy x hx)).mono ?_
    rintro e w' ⟨rfl, hg⟩
    exact ⟨_, rfl, ⟨[], Nat.le_refl _, rfl, .inl ⟨rfl, rfl⟩⟩, hg⟩
  | succ k ih =>
    intro r x w hk hT hs hmb
    have hx : x ∈ d := by unfold stp at hs; exact List.mem_of_find?_eq_some hs
    have hr : x.1 = r := by unfold stp at hs; simpa using List.find?_some hs
    rw [mb] at hmb
    cases hs2 : stp d x.2.1 with
    | none => rw [hs2] at hmb; cases hmb
    | some y =>
      rw [hs2] at hmb
      have h := refDeep_someF vd d k r x w (by omega) hT hs (hr ▸ hsy x hx) (fun W hg => ih x.2.1 y W (by omega) (hT.all hg) hs2 hmb)
      exact h
end Go.Proofs.YtpdacbiiaglodaaGreat
