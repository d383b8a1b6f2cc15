/-
  LAYER 5 (norms): the class of a code point: the search in ranges.
-/
import Derived.Test.YtpdacbiiaglodaaGreatQE13
import Derived.Test.YtpdacbiiaglodaaGreatQE03
import Derived.LoopTactic
import Derived.Test.YtpdacbiiaglodaaGreatQE14
import Derived.RegionTactic
import Derived.OrdersHeld
import Derived.RegionCalls
import Derived.Deep.RegionHeld3
import Derived.Deep.DeepCutAuto
namespace Go.Proofs.YtpdacbiiaglodaaGreat
set_option maxRecDepth 100000
open Go.RowKit Go.Lib

set_option maxHeartbeats 1000000 in
theorem isNaN_any (r : Int) (w : World) : Calls Tryz.prog 132 #[.int .i32 r] w fun e w' => e = .returned (.bool false) ∧ w = w' := by
  go_enter Tryz.func132, Tryz.ntmps132
  go_wp2
  go_ret
  simp

set_option maxHeartbeats 1000000 in
theorem cmp_any (a b : Int) (w : World) : Calls Tryz.prog 96 #[.int .i32 a, .int .i32 b] w fun e w' => e = .returned (.int .i64 (if a < b then -1 else if b < a then 1 else 0)) ∧ w = w' := by
  have hA := fun w => isNaN_any a w
  have hB := fun w => isNaN_any b w
  by_cases h1 : a < b
  all_goals by_cases h2 : b < a
  all_goals (try omega)
  all_goals
    go_enter Tryz.func96, Tryz.ntmps96
    go_wp2_with (first
      | (go_at_call_of 132 (Value.int IntKind.i32 a); refine (hA _).mono ?_; rintro e w' ⟨rfl, rfl⟩)
      | (go_at_call_of 132 (Value.int IntKind.i32 b); refine (hB _).mono ?_; rintro e w' ⟨rfl, rfl⟩))
  all_goals
    go_ret
    simp

set_option maxHeartbeats 1000000 in
theorem class1_any (c : Cls) (r : Int) (w : World) : Calls Tryz.prog 95 #[cAgg c, .int .i32 r] w fun e w' => e = .returned (.int .i64 (cmpv c r)) ∧ w.grownBy w' none := by
  obtain ⟨f, t, k⟩ := c
  unfold cAgg cmpv
  dsimp only
  have hC := fun w => cmp_any f r w
  by_cases h1 : f ≤ r
  all_goals by_cases h2 : r ≤ t
  all_goals
    go_enter Tryz.func95, Tryz.ntmps95
    go_wp2_with (go_at_call 96; refine (hC _).mono ?_; rintro e w' ⟨rfl, rfl⟩)
  all_goals
    go_ret
    refine ⟨by simp, World.grownBy_alloc w _ none⟩

/-- All ranges ahead of place i lie ahead of r; none from place i on does; the one at i holds r. -/
def LeftOf (c : List Cls) (r : Int) (i : Nat) : Prop := ∀ (k : Nat) (y : Cls), k < i → c[k]? = some y → cmpv y r < 0
def RightOf (c : List Cls) (r : Int) (i : Nat) : Prop := ∀ (k : Nat) (y : Cls), i ≤ k → c[k]? = some y → ¬ cmpv y r < 0
def holdsAt (c : List Cls) (r : Int) (i : Nat) : Bool := match c[i]? with
  | some y => decide (cmpv y r = 0)
  | none => false
theorem cls_left {c : List Cls} {r : Int} {m : Nat} {x : Cls} (hok : clsOk 0 c = true) (hx : c[m]? = some x) (hn : cmpv x r < 0) : LeftOf c r (m + 1) := by
  intro k y hk hy
  obtain ⟨hm, rfl⟩ := List.getElem?_eq_some_iff.1 hx
  obtain ⟨hkl, rfl⟩ := List.getElem?_eq_some_iff.1 hy
  have o1 := clsOk_mem hok m hm
  have o2 := clsOk_mem hok k hkl
  rw [cmpv_neg o1.2.1] at hn
  rw [cmpv_neg o2.2.1]
  rcases Nat.lt_or_ge k m with h | h
  · have := clsOk_rise hok k m h hm
    omega
  · obtain rfl : k = m := by omega
    exact hn
theorem cls_right {c : List Cls} {r : Int} {m : Nat} {x : Cls} (hok : clsOk 0 c = true) (hx : c[m]? = some x) (hn : ¬ cmpv x r < 0) : RightOf c r m := by
  intro k y hk hy
  obtain ⟨hm, rfl⟩ := List.getElem?_eq_some_iff.1 hx
  obtain ⟨hkl, rfl⟩ := List.getElem?_eq_some_iff.1 hy
  have o1 := clsOk_mem hok m hm
  have o2 := clsOk_mem hok k hkl
  rw [cmpv_neg o1.2.1] at hn
  rw [cmpv_neg o2.2.1]
  rcases Nat.lt_or_ge m k with h | h
  · have := clsOk_rise hok m k h hkl
    omega
  · obtain rfl : k = m := by omega
    exact hn

set_option maxHeartbeats 4000000 in
theorem search_any (vc : Value) (c : List Cls) (r : Int) (w : World) (hT : Tri .i64 w vc c) (hok : clsOk 0 c = true) (hlen : c.length ≤ 4000) :
    Calls Tryz.prog 94 #[vc, .int .i32 r, .func (.func 95) #[] #[]] w fun e w' => ∃ (i : Nat), e = .returned (.tuple #[.int .i64 (i : Int), .bool (holdsAt c r i)]) ∧ i ≤ c.length ∧ LeftOf c r i ∧ RightOf c r i ∧ w.grownBy w' none := by
  obtain ⟨a, cap, rfl, h1, h2⟩ := hT.form
  unfold maxLen at h2
  have hTH := Lib.hid hT
  have hokH := Lib.hid hok
  clear hT hok
  go_enter Tryz.func94, Tryz.ntmps94
  go_wp2
  go_loopw [9, 10] (fun vi vj wr => ∃ (i j : Nat), vi = .int .i64 (i : Int) ∧ vj = .int .i64 (j : Int) ∧ i ≤ j ∧ j ≤ c.length ∧ LeftOf c r i ∧ RightOf c r j ∧ w.grownBy wr none) (fun vi vj _ => (RowKit.intOf vj).toNat - (RowKit.intOf vi).toNat)
  case atStart =>
    exact ⟨0, c.length, rfl, rfl, Nat.zero_le _, Nat.le_refl _, (fun k x hk => by omega), (fun k x hk hx => by have := (List.getElem?_eq_some_iff.1 hx).1; omega), World.grownBy.refl _ _⟩
  case round =>
    obtain ⟨i, j, rfl, rfl, hij, hj, hl, hr, hg⟩ := hrel
    by_cases hlt : i < j
    · have hm : (i + j) / 2 < c.length := by omega
      obtain ⟨x, hx⟩ : ∃ x, c[(i + j) / 2] = x := ⟨_, rfl⟩
      obtain ⟨b, off, rfl, c1, c2, c3⟩ := (hTH.out.all hg).get hm
      rw [hx] at c1 c2 c3
      have hC := fun w => class1_any x r w
      unfold cAgg at hC
      have hxx : c[(i + j) / 2]? = some x := by rw [List.getElem?_eq_getElem hm, hx]
      by_cases hneg : cmpv x r < 0
      · have hl2 := cls_left hokH.out hxx hneg
        replace hxx := Lib.hid hxx
        go_wp2_with (go_at_call 95; refine (hC _).mono ?_; rintro e w' ⟨rfl, hg2⟩)
        go_roundw
        case rel => exact ⟨(i + j) / 2 + 1, j, by go_num, rfl, by omega, hj, hl2, hr, hg.trans hg2⟩
        case measure => simp [RowKit.intOf]; omega
      · have hr2 := cls_right hokH.out hxx hneg
        replace hxx := Lib.hid hxx
        go_wp2_with (go_at_call 95; refine (hC _).mono ?_; rintro e w' ⟨rfl, hg2⟩)
        go_roundw
        case rel => exact ⟨i, (i + j) / 2, rfl, by go_num, by omega, by omega, hl, hr2, hg.trans hg2⟩
        case measure => simp [RowKit.intOf]; omega
    · obtain rfl : i = j := by omega
      by_cases hlast : i < c.length
      · obtain ⟨x, hx⟩ : ∃ x, c[i] = x := ⟨_, rfl⟩
        obtain ⟨b, off, rfl, c1, c2, c3⟩ := (hTH.out.all hg).get hlast
        rw [hx] at c1 c2 c3
        have hC := fun w => class1_any x r w
        unfold cAgg at hC
        have hxx : c[i]? = some x := by rw [List.getElem?_eq_getElem hlast, hx]
        have hdec : (cmpv x r == 0) = holdsAt c r i := by
          unfold holdsAt; rw [hxx, Bool.eq_iff_iff]; simp
        replace hxx := Lib.hid hxx
        replace hdec := Lib.hid hdec
        go_wp2_with (go_at_call 95; refine (hC _).mono ?_; rintro e w' ⟨rfl, hg2⟩)
        go_ret2
        exact ⟨i, by rw [← hdec.out]; rfl, hj, hl, hr, hg.trans hg2⟩
      · have hdec : holdsAt c r i = false := by unfold holdsAt; rw [List.getElem?_eq_none (by omega)]
        replace hdec := Lib.hid hdec
        go_wp2
        go_ret2
        exact ⟨i, by rw [hdec.out]; rfl, hj, hl, hr, hg⟩

theorem class_of {c : List Cls} {r : Int} {i : Nat} (hok : clsOk 0 c = true) (hi : i ≤ c.length) (hl : LeftOf c r i) (hr : RightOf c r i) : clsOf c r = if holdsAt c r i = true then (c[i]?.map (·.2.2)).getD 0 else 0 := by
  have h := cls_found (r := r) hok i hi (fun k hk => hl k _ hk (List.getElem?_eq_getElem (by omega))) (fun k hk hkl => hr k _ hk (List.getElem?_eq_getElem hkl))
  rw [h]
  by_cases hil : i < c.length
  · rw [dif_pos hil]
    unfold holdsAt
    rw [List.getElem?_eq_getElem hil]
    simp
  · rw [dif_neg hil]
    unfold holdsAt
    rw [List.getElem?_eq_none (by omega)]
    simp
theorem cellKept {w w' : World} {b o : Nat} {v : Value} (hg : w.grownBy w' none) (h : w.cell? ⟨b, o, none⟩ = some v) : w'.cell? ⟨b, o, none⟩ = some v := hg.cell h (by simp)

set_option maxHeartbeats 1000000 in
theorem class_any (vc vd : Value) (c : List Cls) (r : Int) (w : World) (hT : Tri .i64 w vc c) (hok : clsOk 0 c = true) (hlen : c.length ≤ 4000) :
    Calls Tryz.prog 53 #[datV vc vd, .int .i32 r] w fun e w' => e = .returned (.int .i64 (clsOf c r)) ∧ w.grownBy w' none := by
  have hS := fun w hT => search_any vc c r w hT hok hlen
  obtain ⟨a, cap, rfl, h1, h2⟩ := hT.form
  unfold maxLen at h2
  have g0 := World.grownBy_alloc w (.cells #[.slice a c.length cap, vd] 33) none
  have hb0 : (w.alloc (.cells #[.slice a c.length cap, vd] 33)).cell? ⟨w.heap.size, 0, none⟩ = some (.slice a c.length cap) := by
    have hn := World.alloc_heap_new w (.cells #[.slice a c.length cap, vd] 33)
    simp only [World.cell?, hn]
    rfl
  have hS0 := hS _ (hT.all g0)
  have hTH := Lib.hid hT
  clear hS hT
  unfold datV
  go_enter Tryz.func53, Tryz.ntmps53
  go_wp2_with (go_at_call 94; refine hS0.mono ?_; rintro e w' ⟨i, rfl, hi, hl, hr, hg2⟩; have hb1 := cellKept hg2 hb0; have hfnd := class_of hok hi hl hr; have hgT := g0.trans hg2; cases hh : holdsAt c r i)
  · rw [hh] at hfnd
    clear hb0 hS0
    go_wp2
    go_ret
    exact ⟨by rw [hfnd]; rfl, hgT⟩
  · have hil : i < c.length := by
      unfold holdsAt at hh
      split at hh
      · rename_i y hy; exact (List.getElem?_eq_some_iff.1 hy).1
      · cases hh
    obtain ⟨x, hx⟩ : ∃ x, c[i] = x := ⟨_, rfl⟩
    rw [hh] at hfnd
    have hfnd2 : clsOf c r = x.2.2 := by rw [hfnd]; simp [hil, hx]
    obtain ⟨b, off, rfl, c1, c2, c3⟩ := (hTH.out.all hgT).get hil
    rw [hx] at c1 c2 c3
    clear hb0 hS0 hfnd hx
    go_wp2
    go_simp
    go_wp2
    go_ret
    exact ⟨by rw [hfnd2]; rfl, hgT⟩
end Go.Proofs.YtpdacbiiaglodaaGreat

/-
  LAYER 5 (norms): whether a decomposition comes to an end, what it comes to, whether it begins well.
-/
namespace Go.Proofs.YtpdacbiiaglodaaGreat
set_option maxRecDepth 100000
open Go.RowKit Go.Lib

theorem look_ents : ∀ (d : List Dec) (k : Int), look (ents d) k = (stp d k).map dAgg
  | [], _ => rfl
  | x :: t, k => by
    have ih := look_ents t k
    unfold ents at ih ⊢
    rw [List.map_cons, look_cons, ih]
    unfold stp
    by_cases hk : x.1 = k
    · rw [if_pos hk, List.find?_cons_of_pos (by simpa using hk)]; rfl
    · rw [if_neg hk, List.find?_cons_of_neg (by simpa using hk)]
theorem zeroDec (w : World) : (zeroValue 106).run Tryz.prog w = .ok (dAgg (0, 0, 0)) w := by kernel_rfl
/-- A map is asked for a decomposition. -/
theorem run_stp {w : World} {m : Nat} {d : List Dec} (h : Ents w m (ents d)) (k : Int) : (Instr.lookup 148 (.map (some m)) (.int .i32 k) true).run Tryz.prog w =
    .ok (.tuple #[((stp d k).map dAgg).getD (dAgg (0, 0, 0)), .bool (stp d k).isSome]) w := by
  have := run_lookup_ents (P := Tryz.prog) Tryz.underlying148 Tryz.underlying21 zeroDec h k
  rw [look_ents] at this
  rw [this]
  cases stp d k <;> rfl

/-- A block holds a decomposition. -/
def D3 (w : World) (b : Nat) (x : Dec) : Prop := w.heap[b]? = some (.cells #[.int .i32 x.1, .int .i32 x.2.1, .int .i32 x.2.2] 106)
theorem D3.c0 {w : World} {b : Nat} {x : Dec} (h : D3 w b x) : w.cell? ⟨b, 0, none⟩ = some (.int .i32 x.1) := by simp [World.cell?, show _ = _ from h]
theorem D3.c1 {w : World} {b : Nat} {x : Dec} (h : D3 w b x) : w.cell? ⟨b, 1, none⟩ = some (.int .i32 x.2.1) := by simp [World.cell?, show _ = _ from h]
theorem D3.c2 {w : World} {b : Nat} {x : Dec} (h : D3 w b x) : w.cell? ⟨b, 2, none⟩ = some (.int .i32 x.2.2) := by simp [World.cell?, show _ = _ from h]
theorem D3.free {w : World} {b : Nat} {x : Dec} (h : D3 w b x) (o : Nat) : w.frozen? ⟨b, o, none⟩ = false := by simp [World.frozen?, show _ = _ from h]
theorem D3.lt {w : World} {b : Nat} {x : Dec} (h : D3 w b x) : b < w.heap.size := (Array.getElem?_eq_some_iff.1 h).1
theorem D3.kept {w w' : World} {b : Nat} {x : Dec} {row : Option Nat} (h : D3 w b x) (hg : w.grownBy w' row) (hne : row ≠ some b) : D3 w' b x := (hg.block b h.lt (fun e => hne e.symm)).trans h
theorem D3.new (w : World) (x : Dec) : D3 (w.alloc (.cells #[.int .i32 x.1, .int .i32 x.2.1, .int .i32 x.2.2] 106)) w.heap.size x := World.alloc_heap_new w _
theorem D3.set {w : World} {b : Nat} {x : Dec} (h : D3 w b x) (y : Dec) : D3 (((w.setCell ⟨b, 0, none⟩ (.int .i32 y.1)).setCell ⟨b, 1, none⟩ (.int .i32 y.2.1)).setCell ⟨b, 2, none⟩ (.int .i32 y.2.2)) b y := by
  have hlt := h.lt
  unfold D3 at h ⊢
  simp only [World.setCell, Array.getElem?_modify]
  simp [h]

set_option maxHeartbeats 4000000 in
theorem mayBe_ok (m : Nat) (d : List Dec) (x : Dec) (w : World) (hE : Ents w m (ents d)) (hb : bOk d x = true) (hm : mb d 4 x = true) :
    Calls Tryz.prog 154 #[.map (some m), dAgg x] w fun e w' => e = .returned (.bool true) ∧ w.grownBy w' none := by
  have hml := hE.lt
  have g0 := World.grownBy_alloc w (.cells #[.int .i32 x.1, .int .i32 x.2.1, .int .i32 x.2.2] 106) none
  have hB := run_stp (hE.kept g0 (by simp)) x.2.2
  have hD0w := D3.new w x
  unfold dAgg
  cases hs : stp d x.2.2 with
  | none =>
    rw [hs] at hB
    unfold dAgg at hB
    go_enter Tryz.func154, Tryz.ntmps154
    go_wp2
    have hg0 : w.grownBy ((w.alloc (.cells #[.int .i32 x.1, .int .i32 x.2.1, .int .i32 x.2.2] 106)).alloc (.cells #[.int .i32 0, .int .i32 0, .int .i32 0] 106)) none := galloc g0 _
    have hD0 : D3 ((w.alloc (.cells #[.int .i32 x.1, .int .i32 x.2.1, .int .i32 x.2.2] 106)).alloc (.cells #[.int .i32 0, .int .i32 0, .int .i32 0] 106)) w.heap.size x := hD0w.kept (World.grownBy_alloc _ _ none) (by simp)
    go_loopw [22] (fun vi wr => ∃ (i : Nat) (y : Dec), vi = .int .i64 (i : Int) ∧ i ≤ 4 ∧ D3 wr w.heap.size y ∧ Hid (mb d (4 - i) y = true) ∧ w.grownBy wr none) (fun vi _ => 4 - (RowKit.intOf vi).toNat)
    case atStart => exact ⟨0, x, rfl, by omega, hD0, Lib.hid hm, hg0⟩
    case round =>
      obtain ⟨i, y, rfl, hi, hD, hmb, hg⟩ := hrel
      have hi4 : i < 4 := by
        rcases Nat.lt_or_ge i 4 with h | h
        · exact h
        · have := hmb.out
          rw [show 4 - i = 0 by omega, mb] at this
          cases this
      have q0 := hD.c0
      have q1 := hD.c1
      have q2 := hD.c2
      have f0 := hD.free
      have hL := run_stp (hE.kept hg (by simp)) y.2.1
      have hmo := hmb.out
      rw [show 4 - i = (4 - (i + 1)) + 1 by omega, mb] at hmo
      clear hmb hB hs
      cases hs : stp d y.2.1 with
      | none =>
        rw [hs] at hL
        unfold dAgg at hL
        clear hmo hs
        go_wp2
        go_ret
        exact ⟨rfl, galloc hg _⟩
      | some z =>
        rw [hs] at hL hmo
        unfold dAgg at hL
        have hmz : Hid (mb d (4 - (i + 1)) z = true) := Lib.hid hmo
        have hDl := hD.lt
        have gs := galloc (gset (gset (gset (World.grownBy.refl wr (some w.heap.size)) 0 (.int .i32 z.1)) 1 (.int .i32 z.2.1)) 2 (.int .i32 z.2.2)) (.cells #[.int .i32 z.1, .int .i32 z.2.1, .int .i32 z.2.2] 106)
        clear hmo hs
        go_wp2_with fail
        exact ⟨⟨i + 1, z, by go_num, by omega, (hD.set z).kept (World.grownBy_alloc _ _ none) (by simp), hmz, gnew hg gs (fun r e => .inl (by cases e; omega))⟩, by simp [RowKit.intOf]; omega⟩
  | some b =>
    rw [hs] at hB
    unfold dAgg at hB
    have hz : x.2.2 = 0 := by
      simp only [bOk, hs, Option.isNone_some, Bool.or_false, decide_eq_true_eq] at hb
      exact hb
    have hzb : (x.2.2 != 0) = false := by rw [hz]; rfl
    have hze : ¬ (x.2.2 ≠ 0) := fun h => h hz
    replace hz := Lib.hid hz
    clear hb
    go_enter Tryz.func154, Tryz.ntmps154
    go_wp2
    have hg0 : w.grownBy ((w.alloc (.cells #[.int .i32 x.1, .int .i32 x.2.1, .int .i32 x.2.2] 106)).alloc (.cells #[.int .i32 b.1, .int .i32 b.2.1, .int .i32 b.2.2] 106)) none := galloc g0 _
    have hD0 : D3 ((w.alloc (.cells #[.int .i32 x.1, .int .i32 x.2.1, .int .i32 x.2.2] 106)).alloc (.cells #[.int .i32 b.1, .int .i32 b.2.1, .int .i32 b.2.2] 106)) w.heap.size x := hD0w.kept (World.grownBy_alloc _ _ none) (by simp)
    go_loopw [22] (fun vi wr => ∃ (i : Nat) (y : Dec), vi = .int .i64 (i : Int) ∧ i ≤ 4 ∧ D3 wr w.heap.size y ∧ Hid (mb d (4 - i) y = true) ∧ w.grownBy wr none) (fun vi _ => 4 - (RowKit.intOf vi).toNat)
    case atStart => exact ⟨0, x, rfl, by omega, hD0, Lib.hid hm, hg0⟩
    case round =>
      obtain ⟨i, y, rfl, hi, hD, hmb, hg⟩ := hrel
      have hi4 : i < 4 := by
        rcases Nat.lt_or_ge i 4 with h | h
        · exact h
        · have := hmb.out
          rw [show 4 - i = 0 by omega, mb] at this
          cases this
      have q0 := hD.c0
      have q1 := hD.c1
      have q2 := hD.c2
      have f0 := hD.free
      have hL := run_stp (hE.kept hg (by simp)) y.2.1
      have hmo := hmb.out
      rw [show 4 - i = (4 - (i + 1)) + 1 by omega, mb] at hmo
      clear hmb hB hs
      cases hs : stp d y.2.1 with
      | none =>
        rw [hs] at hL
        unfold dAgg at hL
        clear hmo hs
        go_wp2
        go_ret
        exact ⟨rfl, galloc hg _⟩
      | some z =>
        rw [hs] at hL hmo
        unfold dAgg at hL
        have hmz : Hid (mb d (4 - (i + 1)) z = true) := Lib.hid hmo
        have hDl := hD.lt
        have gs := galloc (gset (gset (gset (World.grownBy.refl wr (some w.heap.size)) 0 (.int .i32 z.1)) 1 (.int .i32 z.2.1)) 2 (.int .i32 z.2.2)) (.cells #[.int .i32 z.1, .int .i32 z.2.1, .int .i32 z.2.2] 106)
        clear hmo hs
        go_wp2_with fail
        exact ⟨⟨i + 1, z, by go_num, by omega, (hD.set z).kept (World.grownBy_alloc _ _ none) (by simp), hmz, gnew hg gs (fun r e => .inl (by cases e; omega))⟩, by simp [RowKit.intOf]; omega⟩

theorem byR_length (r : Int) : (byR r).length ≤ 3 := by
  unfold byR hang
  split
  · simp only [List.length_append, List.length_cons, List.length_nil]; split <;> simp
  · simp
theorem whl_length (d : List Dec) : ∀ (n : Nat) (x : Dec), (whl d n x).length ≤ n + 3
  | 0, _ => by simp [whl]
  | n + 1, x => by
    rw [whl, List.length_append]
    have h2 : (if x.2.2 = 0 then ([] : List Int) else [x.2.2]).length ≤ 1 := by split <;> simp
    cases hs : stp d x.2.1 with
    | none => have := byR_length x.2.1; simp only; omega
    | some y => have := whl_length d n y; simp only; omega

theorem Rn.mono {w : World} {B B' : Nat} {v : Value} {l : List Int} (h : Rn w B v l) (hB : B' ≤ B) : Rn w B' v l := by
  rcases h with ⟨q1, q2 | ⟨g, cap, cur, q3, q4, q5⟩⟩ | ⟨h1, h2⟩
  · exact .inl ⟨q1, .inl q2⟩
  · exact .inl ⟨q1, .inr ⟨g, cap, cur, q3, by omega, q5⟩⟩
  · exact .inr ⟨h1, h2.mono hB⟩
theorem Rn.new {w w' : World} {B : Nat} {v : Value} {l : List Int} (h : Rn w B v l) (hg : w.grownBy w' none) : Rn w' B v l := by
  rcases h with h | ⟨h1, b, h2, h3, h4, h5⟩
  · exact .inl (h.kept hg (by cases v.ownBlock <;> simp))
  · exact .inr ⟨h1, b, h2, h3, h4, fun i u hu => hg.cell (h5 i u hu) (by simp)⟩

theorem ownLow {w : World} {B B' s n : Nat} {e : TypeId} {v : Value} {xs : List Value} (h : w.ownsRow B e s v n xs) (hB : B' ≤ B) : w.ownsRow B' e s v n xs := by
  obtain ⟨q1, q2 | ⟨g, cap, cur, q3, q4, q5⟩⟩ := h
  · exact ⟨q1, .inl q2⟩
  · exact ⟨q1, .inr ⟨g, cap, cur, q3, by omega, q5⟩⟩

set_option maxHeartbeats 4000000 in
theorem wholly_rule (m : Nat) (x z : Dec) (L : List Int) (w W1 W2 : World) (hW1 : W1 = w.alloc (.cells #[.int .i32 x.1, .int .i32 x.2.1, .int .i32 x.2.2] 106)) (hW2 : W2 = W1.alloc (.cells #[.int .i32 z.1, .int .i32 z.2.1, .int .i32 z.2.2] 106))
    (hL : (Instr.lookup 148 (.map (some m)) (.int .i32 x.2.1) true).run Tryz.prog W1 = .ok (.tuple #[.agg #[.int .i32 z.1, .int .i32 z.2.1, .int .i32 z.2.2], .bool false]) W1) (hlen : L.length ≤ 10)
    (hC : Calls Tryz.prog 52 #[.int .i32 x.2.1] W2 fun e w' => ∃ v, e = .returned v ∧ Rn w' W2.heap.size v L ∧ W2.grownBy w' none) :
    Calls Tryz.prog 90 #[.map (some m), dAgg x] w fun e w' => ∃ v, e = .returned v ∧ Rn w' w.heap.size v (L ++ (if x.2.2 = 0 then [] else [x.2.2])) ∧ w.grownBy w' none := by
  have g1 : w.grownBy W1 none := by rw [hW1]; exact World.grownBy_alloc w _ none
  have g2 : W1.grownBy W2 none := by rw [hW2]; exact World.grownBy_alloc W1 _ none
  have hD1 : D3 W1 w.heap.size x := by rw [hW1]; exact D3.new w x
  have hD2 := hD1.kept g2 (by simp)
  have hs2 : w.heap.size ≤ W2.heap.size := Nat.le_trans g1.size g2.size
  obtain ⟨i0, hi, hz0, hz1, hz2⟩ := infoRune_parts
  subst hW2
  subst hW1
  unfold dAgg
  by_cases hb : x.2.2 = 0
  · have hzb : (x.2.2 != 0) = false := by rw [hb]; rfl
    rw [if_pos hb, List.append_nil]
    replace hb := Lib.hid hb
    go_enter Tryz.func90, Tryz.ntmps90
    go_wp2_with (go_at_call 52; refine hC.mono ?_; rintro e w1 ⟨v, rfl, hR, hg1⟩; have hD3 := hD2.kept hg1 (by simp); have q2 := hD3.c2)
    go_ret
    exact ⟨_, rfl, hR.mono hs2, (g1.trans g2).trans hg1⟩
  · have hzb : (x.2.2 != 0) = true := by simpa using hb
    rw [if_neg hb]
    go_enter Tryz.func90, Tryz.ntmps90
    go_wp2_with (first
      | (go_at_call 52; refine hC.mono ?_; rintro e w1 ⟨v, rfl, (hR | ⟨hne, bb, rfl, hbb, hlm, hcc⟩), hg1⟩ <;> (have hD3 := hD2.kept hg1 (by simp); have q2 := hD3.c2; have hgw := (g1.trans g2).trans hg1))
      | (at_builtin; refine wpList_append_own _ rfl _ _ 50 rfl w.heap.size 21 i0 (.int .i32 0) 1 4 Tryz.underlying50 hi hz0 hz1 hz2 rfl (by decide) v L.length (rCells L) rfl ((ownLow hR hs2).alloc _) ⟨w1.heap.size, 0, none⟩ 1 1 [.int .i32 x.2.2] rfl rfl ?c1 ?c2 ?c3 ?c4 ?c5 ?_)
      | (at_builtin; refine wpList_append_grows _ rfl _ _ 50 rfl 21 i0 (.int .i32 0) 1 4 Tryz.underlying50 hi hz0 hz1 hz2 rfl (by decide) (some ⟨bb, 0, none⟩) L.length L.length (rCells L) rfl (fun h => by cases h) ?d0 ?d1 ⟨w1.heap.size, 0, none⟩ 1 1 [.int .i32 x.2.2] rfl rfl ?d2 ?d3 ?d4 ?d5 ?d6 ?_))
    case c1 =>
      intro j u hj
      match j, hj with
      | 0, hj => simp at hj; subst hj; simp [Addr.add]
    case c2 => intro u hu; simp at hu; subst hu; rfl
    case c3 => unfold maxLen; omega
    case c4 => omega
    case c5 => have := hgw.size; simp; omega
    case d0 => simp [rCells]
    case d1 =>
      intro b hb j u hu
      cases hb
      have h3 := (World.grownBy_alloc w1 (.cells #[.int .i32 x.2.2] 21) none).cell (hcc j u hu) (by simp)
      rw [show (⟨bb, 0, none⟩ : Addr).add j = ⟨bb, j, none⟩ by unfold Addr.add; split <;> simp_all]
      exact h3
    case d2 =>
      intro j u hj
      match j, hj with
      | 0, hj => simp at hj; subst hj; simp [Addr.add]
    case d3 => intro u hu; simp at hu; subst hu; rfl
    case d4 => omega
    case d5 => unfold maxLen; omega
    case d6 => omega
    · intro v' w2 hown hgrow _
      have hob := World.ownsRow.lt hR
      have hg2 : w.grownBy w2 none := gnew (galloc hgw _) hgrow (fun q e => .inl (by have := (hob q e).1; omega))
      have hF : Rn w2 w.heap.size v' (L ++ [x.2.2]) := .inl (by simpa [rCells, i32] using hown)
      clear hown hgrow hR hob hL hC hD1 hD2 hD3 q2
      go_wp2
      go_ret
      exact ⟨_, rfl, hF, hg2⟩
    · intro v' w2 hown hgrow
      have hg2 : w.grownBy w2 none := (galloc hgw _).trans hgrow
      have hF : Rn w2 w.heap.size v' (L ++ [x.2.2]) := .inl (by simpa [rCells, i32] using ownLow hown (by have := hgw.size; omega))
      clear hown hgrow hL hC hD1 hD2 hD3 q2
      go_wp2
      go_ret
      exact ⟨_, rfl, hF, hg2⟩
set_option maxHeartbeats 4000000 in
theorem wholly_step (m : Nat) (x z : Dec) (L : List Int) (w W1 W2 : World) (hW1 : W1 = w.alloc (.cells #[.int .i32 x.1, .int .i32 x.2.1, .int .i32 x.2.2] 106)) (hW2 : W2 = W1.alloc (.cells #[.int .i32 z.1, .int .i32 z.2.1, .int .i32 z.2.2] 106))
    (hL : (Instr.lookup 148 (.map (some m)) (.int .i32 x.2.1) true).run Tryz.prog W1 = .ok (.tuple #[.agg #[.int .i32 z.1, .int .i32 z.2.1, .int .i32 z.2.2], .bool true]) W1) (hlen : L.length ≤ 10)
    (hC : Calls Tryz.prog 90 #[.map (some m), .agg #[.int .i32 z.1, .int .i32 z.2.1, .int .i32 z.2.2]] W2 fun e w' => ∃ v, e = .returned v ∧ Rn w' W2.heap.size v L ∧ W2.grownBy w' none) :
    Calls Tryz.prog 90 #[.map (some m), dAgg x] w fun e w' => ∃ v, e = .returned v ∧ Rn w' w.heap.size v (L ++ (if x.2.2 = 0 then [] else [x.2.2])) ∧ w.grownBy w' none := by
  have g1 : w.grownBy W1 none := by rw [hW1]; exact World.grownBy_alloc w _ none
  have g2 : W1.grownBy W2 none := by rw [hW2]; exact World.grownBy_alloc W1 _ none
  have hD1 : D3 W1 w.heap.size x := by rw [hW1]; exact D3.new w x
  have hD2 := hD1.kept g2 (by simp)
  have hs2 : w.heap.size ≤ W2.heap.size := Nat.le_trans g1.size g2.size
  obtain ⟨i0, hi, hz0, hz1, hz2⟩ := infoRune_parts
  subst hW2
  subst hW1
  unfold dAgg
  by_cases hb : x.2.2 = 0
  · have hzb : (x.2.2 != 0) = false := by rw [hb]; rfl
    rw [if_pos hb, List.append_nil]
    replace hb := Lib.hid hb
    go_enter Tryz.func90, Tryz.ntmps90
    go_wp2_with (go_at_call 90; refine hC.mono ?_; rintro e w1 ⟨v, rfl, hR, hg1⟩; have hD3 := hD2.kept hg1 (by simp); have q2 := hD3.c2)
    go_ret
    exact ⟨_, rfl, hR.mono hs2, (g1.trans g2).trans hg1⟩
  · have hzb : (x.2.2 != 0) = true := by simpa using hb
    rw [if_neg hb]
    go_enter Tryz.func90, Tryz.ntmps90
    go_wp2_with (first
      | (go_at_call 90; refine hC.mono ?_; rintro e w1 ⟨v, rfl, (hR | ⟨hne, bb, rfl, hbb, hlm, hcc⟩), hg1⟩ <;> (have hD3 := hD2.kept hg1 (by simp); have q2 := hD3.c2; have hgw := (g1.trans g2).trans hg1))
      | (at_builtin; refine wpList_append_own _ rfl _ _ 50 rfl w.heap.size 21 i0 (.int .i32 0) 1 4 Tryz.underlying50 hi hz0 hz1 hz2 rfl (by decide) v L.length (rCells L) rfl ((ownLow hR hs2).alloc _) ⟨w1.heap.size, 0, none⟩ 1 1 [.int .i32 x.2.2] rfl rfl ?c1 ?c2 ?c3 ?c4 ?c5 ?_)
      | (at_builtin; refine wpList_append_grows _ rfl _ _ 50 rfl 21 i0 (.int .i32 0) 1 4 Tryz.underlying50 hi hz0 hz1 hz2 rfl (by decide) (some ⟨bb, 0, none⟩) L.length L.length (rCells L) rfl (fun h => by cases h) ?d0 ?d1 ⟨w1.heap.size, 0, none⟩ 1 1 [.int .i32 x.2.2] rfl rfl ?d2 ?d3 ?d4 ?d5 ?d6 ?_))
    case c1 =>
      intro j u hj
      match j, hj with
      | 0, hj => simp at hj; subst hj; simp [Addr.add]
    case c2 => intro u hu; simp at hu; subst hu; rfl
    case c3 => unfold maxLen; omega
    case c4 => omega
    case c5 => have := hgw.size; simp; omega
    case d0 => simp [rCells]
    case d1 =>
      intro b hb j u hu
      cases hb
      have h3 := (World.grownBy_alloc w1 (.cells #[.int .i32 x.2.2] 21) none).cell (hcc j u hu) (by simp)
      rw [show (⟨bb, 0, none⟩ : Addr).add j = ⟨bb, j, none⟩ by unfold Addr.add; split <;> simp_all]
      exact h3
    case d2 =>
      intro j u hj
      match j, hj with
      | 0, hj => simp at hj; subst hj; simp [Addr.add]
    case d3 => intro u hu; simp at hu; subst hu; rfl
    case d4 => omega
    case d5 => unfold maxLen; omega
    case d6 => omega
    · intro v' w2 hown hgrow _
      have hob := World.ownsRow.lt hR
      have hg2 : w.grownBy w2 none := gnew (galloc hgw _) hgrow (fun q e => .inl (by have := (hob q e).1; omega))
      have hF : Rn w2 w.heap.size v' (L ++ [x.2.2]) := .inl (by simpa [rCells, i32] using hown)
      clear hown hgrow hR hob hL hC hD1 hD2 hD3 q2
      go_wp2
      go_ret
      exact ⟨_, rfl, hF, hg2⟩
    · intro v' w2 hown hgrow
      have hg2 : w.grownBy w2 none := (galloc hgw _).trans hgrow
      have hF : Rn w2 w.heap.size v' (L ++ [x.2.2]) := .inl (by simpa [rCells, i32] using ownLow hown (by have := hgw.size; omega))
      clear hown hgrow hL hC hD1 hD2 hD3 q2
      go_wp2
      go_ret
      exact ⟨_, rfl, hF, hg2⟩

set_option maxHeartbeats 4000000 in
theorem wholly_ok (m : Nat) (d : List Dec) : ∀ (n : Nat) (x : Dec) (w : World), n ≤ 4 → Ents w m (ents d) → mb d n x = true →
    Calls Tryz.prog 90 #[.map (some m), dAgg x] w fun e w' => ∃ v, e = .returned v ∧ Rn w' w.heap.size v (whl d n x) ∧ w.grownBy w' none
  | 0, x, w, _, _, h => by simp [mb] at h
  | n + 1, x, w, hn, hE, h => by
    have g0 := World.grownBy_alloc w (.cells #[.int .i32 x.1, .int .i32 x.2.1, .int .i32 x.2.2] 106) none
    have hL := run_stp (hE.kept g0 (by simp)) x.2.1
    rw [mb] at h
    rw [whl]
    cases hs : stp d x.2.1 with
    | none =>
      rw [hs] at hL
      exact wholly_rule m x (0, 0, 0) (byR x.2.1) w _ _ rfl rfl hL (by have := byR_length x.2.1; omega) (byRule_any _ _)
    | some y =>
      rw [hs] at hL h
      exact wholly_step m x y (whl d n y) w _ _ rfl rfl hL (by have := whl_length d n y; omega) (wholly_ok m d n y _ (by omega) ((hE.kept g0 (by simp)).kept (World.grownBy_alloc _ _ none) (by simp)) h)
end Go.Proofs.YtpdacbiiaglodaaGreat

/-
  LAYER 5 (norms): whether what a decomposition comes to begins well.
-/
namespace Go.Proofs.YtpdacbiiaglodaaGreat
set_option maxRecDepth 100000
open Go.RowKit Go.Lib

theorem Rn.head {w : World} {B : Nat} {v : Value} {a : Int} {t : List Int} (h : Rn w B v (a :: t)) : ∃ b cap, v = .slice (some ⟨b, 0, none⟩) (t.length + 1) cap ∧ t.length + 1 ≤ cap ∧ cap ≤ maxLen ∧ w.cell? ⟨b, 0, none⟩ = some (.int .i32 a) := by
  rcases h with ⟨q1, ⟨_, q2⟩ | ⟨g, cap, cur, q3, q4, q5, q6, q7, q8, q9⟩⟩ | ⟨h1, b, h2, h3, h4, h5⟩
  · simp at q2
  · refine ⟨g, cap, q3, q6, q7, ?_⟩
    have h0 : cur.toList[0]? = some (.int .i32 a) := by
      have : (cur.toList.take ((a :: t).length * 1))[0]? = some (.int .i32 a) := by rw [q9]; rfl
      rwa [List.getElem?_take_of_lt (by simp)] at this
    have h1 : cur[0]? = some (.int .i32 a) := by simpa using h0
    simp only [World.cell?, q5]
    exact h1
  · exact ⟨b, _, h2, Nat.le_refl _, h4, h5 0 _ rfl⟩

set_option maxHeartbeats 4000000 in
theorem beginsWell_ok (m : Nat) (vc vd : Value) (c : List Cls) (d : List Dec) (x : Dec) (w : World) (hT : Tri .i64 w vc c) (hvd : ∃ a n cp, vd = .slice a n cp) (hok : clsOk 0 c = true) (hlen : c.length ≤ 4000) (hE : Ents w m (ents d)) (hm : mb d 4 x = true) (h : begins c d x = true) :
    Calls Tryz.prog 155 #[datV vc vd, dAgg x, .map (some m)] w fun e w' => e = .returned (.bool true) ∧ w.grownBy w' none := by
  obtain ⟨ad, nd, cd, rfl⟩ := hvd
  obtain ⟨ac, cc, rfl, _, _⟩ := hT.form
  obtain ⟨W0, hW0⟩ : ∃ W0, W0 = (w.alloc (.cells #[.slice ac c.length cc, .slice ad nd cd] 33)).alloc (.cells #[.int .i32 x.1, .int .i32 x.2.1, .int .i32 x.2.2] 106) := ⟨_, rfl⟩
  have hg0 : w.grownBy W0 none := by rw [hW0]; exact galloc (World.grownBy_alloc w _ none) _
  have hx0 : D3 W0 (w.heap.size + 1) x := by
    rw [hW0]
    have := D3.new (w.alloc (.cells #[.slice ac c.length cc, .slice ad nd cd] 33)) x
    rwa [World.size_alloc] at this
  have hd0 : W0.heap[w.heap.size]? = some (.cells #[.slice ac c.length cc, .slice ad nd cd] 33) := by
    rw [hW0]
    exact ((World.grownBy_alloc (w.alloc (.cells #[.slice ac c.length cc, .slice ad nd cd] 33)) _ none).block w.heap.size (by simp) (by simp)).trans (World.alloc_heap_new w _)
  have hC := fun W r (hg : W0.grownBy W none) => class_any (.slice ac c.length cc) (.slice ad nd cd) c r W ((hT.all hg0).all hg) hok hlen
  have hW := fun W (hg : W0.grownBy W none) => wholly_ok m d 4 x W (Nat.le_refl _) ((hE.kept hg0 (by simp)).kept hg (by simp)) hm
  obtain ⟨hd, tl, htl⟩ := List.exists_cons_of_ne_nil (mb_whl (d := d) (n := 4) (x := x) hm 0).2
  rw [htl] at hW
  unfold begins at h
  rw [htl, List.headD_cons] at h
  unfold datV at hC
  unfold dAgg at hW
  unfold datV dAgg
  have hfin : ∀ W, W0.grownBy W none → w.grownBy W none := fun W hg => hg0.trans hg
  have cells : ∀ W, W0.grownBy W none → (W.cell? ⟨w.heap.size, 0, none⟩ = some (.slice ac c.length cc) ∧ W.cell? ⟨w.heap.size, 1, none⟩ = some (.slice ad nd cd)) ∧ W.cell? ⟨w.heap.size + 1, 0, none⟩ = some (.int .i32 x.1) ∧ W.cell? ⟨w.heap.size + 1, 1, none⟩ = some (.int .i32 x.2.1) ∧ W.cell? ⟨w.heap.size + 1, 2, none⟩ = some (.int .i32 x.2.2) := by
    intro W hg
    have k1 := hx0.kept hg (by simp)
    have k2 := (hg.block w.heap.size (Array.getElem?_eq_some_iff.1 hd0).1 (by simp)).trans hd0
    exact ⟨⟨by simp [World.cell?, k2], by simp [World.cell?, k2]⟩, k1.c0, k1.c1, k1.c2⟩
  have hD : W0.grownBy W0.drew none := gdrew (World.grownBy.refl W0 none)
  replace hW0 := Lib.hid hW0
  by_cases hz : clsOf c x.1 = 0
  · have hzb : (clsOf c x.1 == 0) = true := by rw [hz]; rfl
    replace hz := Lib.hid hz
    go_enter Tryz.func155, Tryz.ntmps155
    go_upto_region 1 with fail
    rw [← hW0.out]
    go_cut [6] (fun v6 wx => v6 = .bool true ∧ W0.grownBy wx none)
    case first =>
      refine wp_region_held_drew (S := fun w' => W0.grownBy w' none ∧ (w'.cell? ⟨w.heap.size, 0, none⟩ = some (.slice ac c.length cc) ∧ w'.cell? ⟨w.heap.size, 1, none⟩ = some (.slice ad nd cd)) ∧ w'.cell? ⟨w.heap.size + 1, 0, none⟩ = some (.int .i32 x.1) ∧ w'.cell? ⟨w.heap.size + 1, 1, none⟩ = some (.int .i32 x.2.1) ∧ w'.cell? ⟨w.heap.size + 1, 2, none⟩ = some (.int .i32 x.2.2)) (by kernel_rfl) ⟨hD, cells _ hD⟩ (fun hS0 => ?_)
      refine wpAnyH_take (i := 0) (oi := ⟨some 7, _, _, _, _, _⟩) (v := ?_) rfl (by kernel_rfl) (by kernel_rfl) (by kernel_rfl) (fun _ _ _ h => h) (Or.inl ⟨by rfl, ?_⟩) (by assumption) ?_
      rotate_left
      · (intro w hSw; (try dsimp only at hSw); go_simp; try with_reducible rfl)
      try simp only [Act.put, List.setIfInBounds_toArray, List.set_cons_zero, List.set_cons_succ]
      refine wpAnyH_take (i := 1) (oi := ⟨some 8, _, _, _, _, _⟩) (v := ?_) rfl (by kernel_rfl) (by kernel_rfl) (by kernel_rfl) (fun _ _ _ h => h) (Or.inl ⟨by rfl, ?_⟩) (by assumption) ?_
      rotate_left
      · (intro w hSw; (try dsimp only at hSw); go_simp; try with_reducible rfl)
      try simp only [Act.put, List.setIfInBounds_toArray, List.set_cons_zero, List.set_cons_succ]
      refine wpAnyH_take (i := 2) (oi := ⟨some 9, _, _, _, _, _⟩) (v := ?_) rfl (by kernel_rfl) (by kernel_rfl) (by kernel_rfl) (fun _ _ _ h => h) (Or.inl ⟨by rfl, ?_⟩) (by assumption) ?_
      rotate_left
      · (intro w hSw; (try dsimp only at hSw); go_simp; try with_reducible rfl)
      try simp only [Act.put, List.setIfInBounds_toArray, List.set_cons_zero, List.set_cons_succ]
      refine wpAnyH_ready (rs := [3]) (by kernel_rfl) (by simp) ?_
      refine AllReadyH.cons rfl (fun K hK => ?_) AllReadyH.nil
      go_simp
      refine (hC _ _ hD).mono ?_
      rintro e w6 ⟨rfl, hg6⟩
      have h6 := hD.trans hg6
      refine hK.out _ _ ⟨h6, cells _ h6⟩ (fun hS3 => ?_)
      clear hK
      refine wpAnyH_take (i := 4) (oi := ⟨some 11, _, _, _, _, _⟩) (v := ?_) rfl (by kernel_rfl) (by kernel_rfl) (by kernel_rfl) (fun _ _ _ h => h) (Or.inl ⟨by rfl, ?_⟩) (by assumption) ?_
      rotate_left
      · (intro w hSw; (try dsimp only at hSw); go_simp; try with_reducible rfl)
      try simp only [Act.put, List.setIfInBounds_toArray, List.set_cons_zero, List.set_cons_succ]
      refine wpAnyH_take (i := 5) (oi := ⟨some 12, _, _, _, _, _⟩) (v := ?_) rfl (by kernel_rfl) (by kernel_rfl) (by kernel_rfl) (fun _ _ _ h => h) (Or.inl ⟨by rfl, ?_⟩) (by assumption) ?_
      rotate_left
      · (intro w hSw; (try dsimp only at hSw); go_simp; try with_reducible rfl)
      try simp only [Act.put, List.setIfInBounds_toArray, List.set_cons_zero, List.set_cons_succ]
      refine wpAnyH_take (i := 6) (oi := ⟨some 13, _, _, _, _, _⟩) (v := undef) rfl (by kernel_rfl) (by kernel_rfl) (by kernel_rfl) (fun _ _ _ h => h) (Or.inr ⟨by rfl, rfl⟩) (by assumption) ?_
      try simp only [Act.put, List.setIfInBounds_toArray, List.set_cons_zero, List.set_cons_succ]
      refine wpAnyH_take (i := 7) (oi := ⟨some 14, _, _, _, _, _⟩) (v := undef) rfl (by kernel_rfl) (by kernel_rfl) (by kernel_rfl) (fun _ _ _ h => h) (Or.inr ⟨by rfl, rfl⟩) (by assumption) ?_
      try simp only [Act.put, List.setIfInBounds_toArray, List.set_cons_zero, List.set_cons_succ]
      refine wpAnyH_take (i := 8) (oi := ⟨some 15, _, _, _, _, _⟩) (v := undef) rfl (by kernel_rfl) (by kernel_rfl) (by kernel_rfl) (fun _ _ _ h => h) (Or.inr ⟨by rfl, rfl⟩) (by assumption) ?_
      try simp only [Act.put, List.setIfInBounds_toArray, List.set_cons_zero, List.set_cons_succ]
      refine wpAnyH_take (i := 9) (oi := ⟨some 16, _, _, _, _, _⟩) (v := undef) rfl (by kernel_rfl) (by kernel_rfl) (by kernel_rfl) (fun _ _ _ h => h) (Or.inr ⟨by rfl, rfl⟩) (by assumption) ?_
      try simp only [Act.put, List.setIfInBounds_toArray, List.set_cons_zero, List.set_cons_succ]
      refine wpAnyH_take (i := 10) (oi := ⟨some 17, _, _, _, _, _⟩) (v := undef) rfl (by kernel_rfl) (by kernel_rfl) (by kernel_rfl) (fun _ _ _ h => h) (Or.inr ⟨by rfl, rfl⟩) (by assumption) ?_
      try simp only [Act.put, List.setIfInBounds_toArray, List.set_cons_zero, List.set_cons_succ]
      refine wpAnyH_take (i := 11) (oi := ⟨some 18, _, _, _, _, _⟩) (v := undef) rfl (by kernel_rfl) (by kernel_rfl) (by kernel_rfl) (fun _ _ _ h => h) (Or.inr ⟨by rfl, rfl⟩) (by assumption) ?_
      try simp only [Act.put, List.setIfInBounds_toArray, List.set_cons_zero, List.set_cons_succ]
      refine wpAnyH_take (i := 12) (oi := ⟨some 19, _, _, _, _, _⟩) (v := undef) rfl (by kernel_rfl) (by kernel_rfl) (by kernel_rfl) (fun _ _ _ h => h) (Or.inr ⟨by rfl, rfl⟩) (by assumption) ?_
      try simp only [Act.put, List.setIfInBounds_toArray, List.set_cons_zero, List.set_cons_succ]
      refine wpAnyH_take (i := 13) (oi := ⟨some 20, _, _, _, _, _⟩) (v := undef) rfl (by kernel_rfl) (by kernel_rfl) (by kernel_rfl) (fun _ _ _ h => h) (Or.inr ⟨by rfl, rfl⟩) (by assumption) ?_
      try simp only [Act.put, List.setIfInBounds_toArray, List.set_cons_zero, List.set_cons_succ]
      refine wpAnyH_take (i := 14) (oi := ⟨some 21, _, _, _, _, _⟩) (v := ?_) rfl (by kernel_rfl) (by kernel_rfl) (by kernel_rfl) (fun _ _ _ h => h) (Or.inl ⟨by rfl, ?_⟩) (by assumption) ?_
      rotate_left
      · (intro w hSw; (try dsimp only at hSw); go_simp; try with_reducible rfl)
      try simp only [Act.put, List.setIfInBounds_toArray, List.set_cons_zero, List.set_cons_succ]
      refine wpAnyH_take (i := 15) (oi := ⟨some 6, _, _, _, _, _⟩) (v := ?_) rfl (by kernel_rfl) (by kernel_rfl) (by kernel_rfl) (fun _ _ _ h => h) (Or.inl ⟨by rfl, ?_⟩) (by assumption) ?_
      rotate_left
      · (intro w hSw; (try dsimp only at hSw); go_simp; try with_reducible rfl)
      try simp only [Act.put, List.setIfInBounds_toArray, List.set_cons_zero, List.set_cons_succ]
      refine wpAnyH_done (by kernel_rfl) ?_ _
      go_wp2_with fail
      go_meet
      exact ⟨rfl, h6⟩
    case rest =>
      obtain ⟨rfl, hb⟩ := hcut
      go_wp2
      go_ret
      exact ⟨rfl, hfin _ hb⟩
  · have hzb : (clsOf c x.1 == 0) = false := by simpa using hz
    have hyb : (clsOf c hd != 0) = true := by
      simp only [Bool.or_eq_true, decide_eq_true_eq, Bool.not_eq_true', decide_eq_false_iff_not] at h
      simpa using h.resolve_left hz
    clear h
    go_enter Tryz.func155, Tryz.ntmps155
    go_upto_region 1 with fail
    rw [← hW0.out]
    go_cut [6] (fun v6 wx => v6 = .bool true ∧ W0.grownBy wx none)
    case first =>
      refine wp_region_held_drew (S := fun w' => W0.grownBy w' none ∧ (w'.cell? ⟨w.heap.size, 0, none⟩ = some (.slice ac c.length cc) ∧ w'.cell? ⟨w.heap.size, 1, none⟩ = some (.slice ad nd cd)) ∧ w'.cell? ⟨w.heap.size + 1, 0, none⟩ = some (.int .i32 x.1) ∧ w'.cell? ⟨w.heap.size + 1, 1, none⟩ = some (.int .i32 x.2.1) ∧ w'.cell? ⟨w.heap.size + 1, 2, none⟩ = some (.int .i32 x.2.2)) (by kernel_rfl) ⟨hD, cells _ hD⟩ (fun hS0 => ?_)
      refine wpAnyH_take (i := 0) (oi := ⟨some 7, _, _, _, _, _⟩) (v := ?_) rfl (by kernel_rfl) (by kernel_rfl) (by kernel_rfl) (fun _ _ _ h => h) (Or.inl ⟨by rfl, ?_⟩) (by assumption) ?_
      rotate_left
      · (intro w hSw; (try dsimp only at hSw); go_simp; try with_reducible rfl)
      try simp only [Act.put, List.setIfInBounds_toArray, List.set_cons_zero, List.set_cons_succ]
      refine wpAnyH_take (i := 1) (oi := ⟨some 8, _, _, _, _, _⟩) (v := ?_) rfl (by kernel_rfl) (by kernel_rfl) (by kernel_rfl) (fun _ _ _ h => h) (Or.inl ⟨by rfl, ?_⟩) (by assumption) ?_
      rotate_left
      · (intro w hSw; (try dsimp only at hSw); go_simp; try with_reducible rfl)
      try simp only [Act.put, List.setIfInBounds_toArray, List.set_cons_zero, List.set_cons_succ]
      refine wpAnyH_take (i := 2) (oi := ⟨some 9, _, _, _, _, _⟩) (v := ?_) rfl (by kernel_rfl) (by kernel_rfl) (by kernel_rfl) (fun _ _ _ h => h) (Or.inl ⟨by rfl, ?_⟩) (by assumption) ?_
      rotate_left
      · (intro w hSw; (try dsimp only at hSw); go_simp; try with_reducible rfl)
      try simp only [Act.put, List.setIfInBounds_toArray, List.set_cons_zero, List.set_cons_succ]
      refine wpAnyH_ready (rs := [3]) (by kernel_rfl) (by simp) ?_
      refine AllReadyH.cons rfl (fun K hK => ?_) AllReadyH.nil
      go_simp
      refine (hC _ _ hD).mono ?_
      rintro e w6 ⟨rfl, hg6⟩
      have h6 := hD.trans hg6
      refine hK.out _ _ ⟨h6, cells _ h6⟩ (fun hS3 => ?_)
      clear hK
      refine wpAnyH_take (i := 4) (oi := ⟨some 11, _, _, _, _, _⟩) (v := ?_) rfl (by kernel_rfl) (by kernel_rfl) (by kernel_rfl) (fun _ _ _ h => h) (Or.inl ⟨by rfl, ?_⟩) (by assumption) ?_
      rotate_left
      · (intro w hSw; (try dsimp only at hSw); go_simp; try with_reducible rfl)
      try simp only [Act.put, List.setIfInBounds_toArray, List.set_cons_zero, List.set_cons_succ]
      refine wpAnyH_take (i := 5) (oi := ⟨some 12, _, _, _, _, _⟩) (v := ?_) rfl (by kernel_rfl) (by kernel_rfl) (by kernel_rfl) (fun _ _ _ h => h) (Or.inl ⟨by rfl, ?_⟩) (by assumption) ?_
      rotate_left
      · (intro w hSw; (try dsimp only at hSw); go_simp; try with_reducible rfl)
      try simp only [Act.put, List.setIfInBounds_toArray, List.set_cons_zero, List.set_cons_succ]
      refine wpAnyH_take (i := 6) (oi := ⟨some 13, _, _, _, _, _⟩) (v := ?_) rfl (by kernel_rfl) (by kernel_rfl) (by kernel_rfl) (fun _ _ _ h => h) (Or.inl ⟨by rfl, ?_⟩) (by assumption) ?_
      rotate_left
      · (intro w hSw; (try dsimp only at hSw); go_simp; try with_reducible rfl)
      try simp only [Act.put, List.setIfInBounds_toArray, List.set_cons_zero, List.set_cons_succ]
      refine wpAnyH_take (i := 7) (oi := ⟨some 14, _, _, _, _, _⟩) (v := ?_) rfl (by kernel_rfl) (by kernel_rfl) (by kernel_rfl) (fun _ _ _ h => h) (Or.inl ⟨by rfl, ?_⟩) (by assumption) ?_
      rotate_left
      · (intro w hSw; (try dsimp only at hSw); go_simp; try with_reducible rfl)
      try simp only [Act.put, List.setIfInBounds_toArray, List.set_cons_zero, List.set_cons_succ]
      refine wpAnyH_take (i := 8) (oi := ⟨some 15, _, _, _, _, _⟩) (v := ?_) rfl (by kernel_rfl) (by kernel_rfl) (by kernel_rfl) (fun _ _ _ h => h) (Or.inl ⟨by rfl, ?_⟩) (by assumption) ?_
      rotate_left
      · (intro w hSw; (try dsimp only at hSw); go_simp; try with_reducible rfl)
      try simp only [Act.put, List.setIfInBounds_toArray, List.set_cons_zero, List.set_cons_succ]
      refine wpAnyH_ready (rs := [9]) (by kernel_rfl) (by simp) ?_
      refine AllReadyH.cons rfl (fun K hK => ?_) AllReadyH.nil
      go_simp
      refine (hW _ h6).mono ?_
      rintro e w7 ⟨v7, rfl, hR7, hg7⟩
      have h7 := h6.trans hg7
      obtain ⟨bb, cap, rfl, hcap, hmx, hhd⟩ := hR7.head
      unfold maxLen at hmx
      refine hK.out _ _ ⟨h7, cells _ h7⟩ (fun hS4 => ?_)
      clear hK
      refine wpAnyH_ready (rs := [10]) (by kernel_rfl) (by simp) ?_
      refine AllReadyH.cons rfl (fun K hK => ?_) AllReadyH.nil
      go_simp
      refine hK.out _ _ hS4 (fun hS5 => ?_)
      clear hK
      refine wpAnyH_ready (rs := [11]) (by kernel_rfl) (by simp) ?_
      refine AllReadyH.cons rfl (fun K hK => ?_) AllReadyH.nil
      go_simp
      refine hK.out _ _ hS4 (fun hS6 => ?_)
      clear hK
      refine wpAnyH_ready (rs := [12]) (by kernel_rfl) (by simp) ?_
      refine AllReadyH.cons rfl (fun K hK => ?_) AllReadyH.nil
      go_simp
      refine (hC _ _ h7).mono ?_
      rintro e w8 ⟨rfl, hg8⟩
      have h8 := h7.trans hg8
      refine hK.out _ _ ⟨h8, cells _ h8⟩ (fun hS7 => ?_)
      clear hK
      refine wpAnyH_take (i := 13) (oi := ⟨some 20, _, _, _, _, _⟩) (v := ?_) rfl (by kernel_rfl) (by kernel_rfl) (by kernel_rfl) (fun _ _ _ h => h) (Or.inl ⟨by rfl, ?_⟩) (by assumption) ?_
      rotate_left
      · (intro w hSw; (try dsimp only at hSw); go_simp; try with_reducible rfl)
      try simp only [Act.put, List.setIfInBounds_toArray, List.set_cons_zero, List.set_cons_succ]
      refine wpAnyH_take (i := 14) (oi := ⟨some 21, _, _, _, _, _⟩) (v := ?_) rfl (by kernel_rfl) (by kernel_rfl) (by kernel_rfl) (fun _ _ _ h => h) (Or.inl ⟨by rfl, ?_⟩) (by assumption) ?_
      rotate_left
      · (intro w hSw; (try dsimp only at hSw); go_simp; try with_reducible rfl)
      try simp only [Act.put, List.setIfInBounds_toArray, List.set_cons_zero, List.set_cons_succ]
      refine wpAnyH_take (i := 15) (oi := ⟨some 6, _, _, _, _, _⟩) (v := ?_) rfl (by kernel_rfl) (by kernel_rfl) (by kernel_rfl) (fun _ _ _ h => h) (Or.inl ⟨by rfl, ?_⟩) (by assumption) ?_
      rotate_left
      · (intro w hSw; (try dsimp only at hSw); go_simp; try with_reducible rfl)
      try simp only [Act.put, List.setIfInBounds_toArray, List.set_cons_zero, List.set_cons_succ]
      refine wpAnyH_done (by kernel_rfl) ?_ _
      go_wp2_with fail
      go_meet
      exact ⟨rfl, h8⟩
    case rest =>
      obtain ⟨rfl, hb⟩ := hcut
      go_wp2
      go_ret
      exact ⟨rfl, hfin _ hb⟩
end Go.Proofs.YtpdacbiiaglodaaGreat

/-
  LAYER 5 (norms): classes may be.
-/
namespace Go.Proofs.YtpdacbiiaglodaaGreat
set_option maxRecDepth 100000
open Go.RowKit Go.Lib

theorem scal_range {r : Int} (h : scal r = true) : 0 ≤ r ∧ r ≤ 1114111 := by
  simp only [scal, decide_eq_true_eq] at h
  omega

set_option maxHeartbeats 4000000 in
theorem classesMayBe_ok (vc vd : Value) (c : List Cls) (w : World) (hT : Tri .i64 w vc c) (hok : clsOk 0 c = true) :
    Calls Tryz.prog 123 #[datV vc vd] w fun e w' => e = .returned (.bool true) ∧ w.grownBy w' none := by
  obtain ⟨a, cap, rfl, h1, h2⟩ := hT.form
  unfold maxLen at h2
  have hTH := Lib.hid hT
  have hokH := Lib.hid hok
  have g0 := World.grownBy_alloc w (.cells #[.slice a c.length cap, vd] 33) none
  clear hT hok
  unfold datV
  go_enter Tryz.func123, Tryz.ntmps123
  go_wp2
  go_loopw [9, 3] (fun vi vl wr => ∃ (i : Nat) (L : Int), vi = .int .i64 (i : Int) ∧ vl = .int .i32 L ∧ i ≤ c.length ∧ Hid (clsOk L (c.drop i) = true) ∧ w.grownBy wr none) (fun vi _ _ => c.length - (RowKit.intOf vi).toNat)
  case atStart => exact ⟨0, 0, rfl, rfl, Nat.zero_le _, Lib.hid hokH.out, g0⟩
  case round =>
    obtain ⟨i, L, rfl, rfl, hi, hL, hg⟩ := hrel
    by_cases hlt : i < c.length
    · obtain ⟨x, hx⟩ : ∃ x, c[i] = x := ⟨_, rfl⟩
      obtain ⟨b, off, rfl, c1, c2, c3⟩ := (hTH.out.all hg).get hlt
      rw [hx] at c1 c2 c3
      have hLo := hL.out
      rw [List.drop_eq_getElem_cons hlt, hx, clsOk, Bool.and_eq_true] at hLo
      have hL2 := Lib.hid hLo.2
      have h3 := hLo.1
      simp only [clOk, Bool.and_eq_true, decide_eq_true_eq] at h3
      obtain ⟨⟨⟨⟨⟨s1, s2⟩, s3⟩, s4⟩, s5⟩, s6⟩ := h3
      have S1 := fun w => scal_utf.Scalar x.1 w
      have S2 := fun w => scal_utf.Scalar x.2.1 w
      have r1 := scal_range s1
      have r2 := scal_range s2
      rw [s1] at S1
      rw [s2] at S2
      clear hL hLo s1 s2 hx
      go_wp2_with (first
        | (go_at_call_of 68 (Value.int IntKind.i32 x.1); refine (S1 _).mono ?_; rintro e w' ⟨rfl, rfl⟩)
        | (go_at_call_of 68 (Value.int IntKind.i32 x.2.1); refine (S2 _).mono ?_; rintro e w' ⟨rfl, rfl⟩))
      exact ⟨⟨i + 1, x.2.1 + 1, by go_num, rfl, by omega, hL2, galloc hg _⟩, by simp [RowKit.intOf]; omega⟩
    · obtain rfl : i = c.length := by omega
      clear hL hlt
      go_wp2
      go_ret
      exact ⟨rfl, hg⟩
end Go.Proofs.YtpdacbiiaglodaaGreat
