/-
  LAYER 5 (norms): whether a decomposition comes to an end, what it comes to, whether it begins well.
-/
import Derived.Test.YtpdacbiiaglodaaGreatQG12
import Derived.Test.YtpdacbiiaglodaaGreatQG11
import Derived.RegionTactic
import Derived.OrdersHeld
import Derived.RegionCalls
import Derived.Deep.RegionHeld3
import Derived.Deep.DeepCutAuto
import Derived.LoopTactic
import Derived.Test.YtpdacbiiaglodaaGreatQG04
import Derived.Test.YtpdacbiiaglodaaGreatQG08
namespace Go.Proofs.YtpdacbiiaglodaaGreat
set_option maxRecDepth 100000
open Go.RowKit Go.Lib

theorem look_ents : ∀ (d : List Dec) (k : Int), look (ents d) k = (stp d k).map dAgg
  | [], _ => rfl
  | x :: t, k => by
    have ih := look_ents t k
    unfold ents at ih ⊢
    rw [List.map_cons, look_cons, ih]
    unfold stp
    by_cases hk : x.1 = k
    · rw [if_pos hk, List.find?_cons_of_pos (by simpa using hk)]; rfl
    · rw [if_neg hk, List.find?_cons_of_neg (by simpa using hk)]
theorem zeroDec (w : World) : (zeroValue 106).run Tryz.prog w = .ok (dAgg (0, 0, 0)) w := by kernel_rfl
/-- A map is asked for a decomposition. -/
theorem run_stp {w : World} {m : Nat} {d : List Dec} (h : Ents w m (ents d)) (k : Int) : (Instr.lookup 148 (.map (some m)) (.int .i32 k) true).run Tryz.prog w =
    .ok (.tuple #[((stp d k).map dAgg).getD (dAgg (0, 0, 0)), .bool (stp d k).isSome]) w := by
  have := run_lookup_ents (P := Tryz.prog) Tryz.underlying148 Tryz.underlying21 zeroDec h k
  rw [look_ents] at this
  rw [this]
  cases stp d k <;> rfl

/-- A block holds a decomposition. -/
def D3 (w : World) (b : Nat) (x : Dec) : Prop := w.heap[b]? = some (.cells #[.int .i32 x.1, .int .i32 x.2.1, .int .i32 x.2.2] 106)
theorem D3.c0 {w : World} {b : Nat} {x : Dec} (h : D3 w b x) : w.cell? ⟨b, 0, none⟩ = some (.int .i32 x.1) := by simp [World.cell?, show _ = _ from h]
theorem D3.c1 {w : World} {b : Nat} {x : Dec} (h : D3 w b x) : w.cell? ⟨b, 1, none⟩ = some (.int .i32 x.2.1) := by simp [World.cell?, show _ = _ from h]
theorem D3.c2 {w : World} {b : Nat} {x : Dec} (h : D3 w b x) : w.cell? ⟨b, 2, none⟩ = some (.int .i32 x.2.2) := by simp [World.cell?, show _ = _ from h]
theorem D3.free {w : World} {b : Nat} {x : Dec} (h : D3 w b x) (o : Nat) : w.frozen? ⟨b, o, none⟩ = false := by simp [World.frozen?, show _ = _ from h]
theorem D3.lt {w : World} {b : Nat} {x : Dec} (h : D3 w b x) : b < w.heap.size := (Array.getElem?_eq_some_iff.1 h).1
theorem D3.kept {w w' : World} {b : Nat} {x : Dec} {row : Option Nat} (h : D3 w b x) (hg : w.grownBy w' row) (hne : row ≠ some b) : D3 w' b x := (hg.block b h.lt (fun e => hne e.symm)).trans h
theorem D3.new (w : World) (x : Dec) : D3 (w.alloc (.cells #[.int .i32 x.1, .int .i32 x.2.1, .int .i32 x.2.2] 106)) w.heap.size x := World.alloc_heap_new w _
theorem D3.set {w : World} {b : Nat} {x : Dec} (h : D3 w b x) (y : Dec) : D3 (((w.setCell ⟨b, 0, none⟩ (.int .i32 y.1)).setCell ⟨b, 1, none⟩ (.int .i32 y.2.1)).setCell ⟨b, 2, none⟩ (.int .i32 y.2.2)) b y := by
  have hlt := h.lt
  unfold D3 at h ⊢
  simp only [World.setCell, Array.getElem?_modify]
  simp [h]

set_option maxHeartbeats 4000000 in
theorem mayBe_ok (m : Nat) (d : List Dec) (x : Dec) (w : World) (hE : Ents w m (ents d)) (hb : bOk d x = true) (hm : mb d 4 x = true) :
    Calls Tryz.prog 154 #[.map (some m), dAgg x] w fun e w' => e = .returned (.bool true) ∧ w.grownBy w' none := by
  have hml := hE.lt
  have g0 := World.grownBy_alloc w (.cells #[.int .i32 x.1, .int .i32 x.2.1, .int .i32 x.2.2] 106) none
  have hB := run_stp (hE.kept g0 (by simp)) x.2.2
  have hD0w := D3.new w x
  unfold dAgg
  cases hs : stp d x.2.2 with
  | none =>
    rw [hs] at hB
    unfold dAgg at hB
    go_enter Tryz.func154, Tryz.ntmps154
    go_wp2
    have hg0 : w.grownBy ((w.alloc (.cells #[.int .i32 x.1, .int .i32 x.2.1, .int .i32 x.2.2] 106)).alloc (.cells #[.int .i32 0, .int .i32 0, .int .i32 0] 106)) none := galloc g0 _
    have hD0 : D3 ((w.alloc (.cells #[.int .i32 x.1, .int .i32 x.2.1, .int .i32 x.2.2] 106)).alloc (.cells #[.int .i32 0, .int .i32 0, .int .i32 0] 106)) w.heap.size x := hD0w.kept (World.grownBy_alloc _ _ none) (by simp)
    go_loopw [22] (fun vi wr => ∃ (i : Nat) (y : Dec), vi = .int .i64 (i : Int) ∧ i ≤ 4 ∧ D3 wr w.heap.size y ∧ Hid (mb d (4 - i) y = true) ∧ w.grownBy wr none) (fun vi _ => 4 - (RowKit.intOf vi).toNat)
    case atStart => exact ⟨0, x, rfl, by omega, hD0, Lib.hid hm, hg0⟩
    case round =>
      obtain ⟨i, y, rfl, hi, hD, hmb, hg⟩ := hrel
      have hi4 : i < 4 := by
        rcases Nat.lt_or_ge i 4 with h | h
        · exact h
        · have := hmb.out
          rw [show 4 - i = 0 by omega, mb] at this
          cases this
      have q0 := hD.c0
      have q1 := hD.c1
      have q2 := hD.c2
      have f0 := hD.free
      have hL := run_stp (hE.kept hg (by simp)) y.2.1
      have hmo := hmb.out
      rw [show 4 - i = (4 - (i + 1)) + 1 by omega, mb] at hmo
      clear hmb hB hs
      cases hs : stp d y.2.1 with
      | none =>
        rw [hs] at hL
        unfold dAgg at hL
        clear hmo hs
        go_wp2
        go_ret
        exact ⟨rfl, galloc hg _⟩
      | some z =>
        rw [hs] at hL hmo
        unfold dAgg at hL
        have hmz : Hid (mb d (4 - (i + 1)) z = true) := Lib.hid hmo
        have hDl := hD.lt
        have gs := galloc (gset (gset (gset (World.grownBy.refl wr (some w.heap.size)) 0 (.int .i32 z.1)) 1 (.int .i32 z.2.1)) 2 (.int .i32 z.2.2)) (.cells #[.int .i32 z.1, .int .i32 z.2.1, .int .i32 z.2.2] 106)
        clear hmo hs
        go_wp2_with fail
        exact ⟨⟨i + 1, z, by go_num, by omega, (hD.set z).kept (World.grownBy_alloc _ _ none) (by simp), hmz, gnew hg gs (fun r e => .inl (by cases e; omega))⟩, by simp [RowKit.intOf]; omega⟩
  | some b =>
    rw [hs] at hB
    unfold dAgg at hB
    have hz : x.2.2 = 0 := by
      simp only [bOk, hs, Option.isNone_some, Bool.or_false, decide_eq_true_eq] at hb
      exact hb
    have hzb : (x.2.2 != 0) = false := by rw [hz]; rfl
    have hze : ¬ (x.2.2 ≠ 0) := fun h => h hz
    replace hz := Lib.hid hz
    clear hb
    go_enter Tryz.func154, Tryz.ntmps154
    go_wp2
    have hg0 : w.grownBy ((w.alloc (.cells #[.int .i32 x.1, .int .i32 x.2.1, .int .i32 x.2.2] 106)).alloc (.cells #[.int .i32 b.1, .int .i32 b.2.1, .int .i32 b.2.2] 106)) none := galloc g0 _
    have hD0 : D3 ((w.alloc (.cells #[.int .i32 x.1, .int .i32 x.2.1, .int .i32 x.2.2] 106)).alloc (.cells #[.int .i32 b.1, .int .i32 b.2.1, .int .i32 b.2.2] 106)) w.heap.size x := hD0w.kept (World.grownBy_alloc _ _ none) (by simp)
    go_loopw [22] (fun vi wr => ∃ (i : Nat) (y : Dec), vi = .int .i64 (i : Int) ∧ i ≤ 4 ∧ D3 wr w.heap.size y ∧ Hid (mb d (4 - i) y = true) ∧ w.grownBy wr none) (fun vi _ => 4 - (RowKit.intOf vi).toNat)
    case atStart => exact ⟨0, x, rfl, by omega, hD0, Lib.hid hm, hg0⟩
    case round =>
      obtain ⟨i, y, rfl, hi, hD, hmb, hg⟩ := hrel
      have hi4 : i < 4 := by
        rcases Nat.lt_or_ge i 4 with h | h
        · exact h
        · have := hmb.out
          rw [show 4 - i = 0 by omega, mb] at this
          cases this
      have q0 := hD.c0
      have q1 := hD.c1
      have q2 := hD.c2
      have f0 := hD.free
      have hL := run_stp (hE.kept hg (by simp)) y.2.1
      have hmo := hmb.out
      rw [show 4 - i = (4 - (i + 1)) + 1 by omega, mb] at hmo
      clear hmb hB hs
      cases hs : stp d y.2.1 with
      | none =>
        rw [hs] at hL
        unfold dAgg at hL
        clear hmo hs
        go_wp2
        go_ret
        exact ⟨rfl, galloc hg _⟩
      | some z =>
        rw [hs] at hL hmo
        unfold dAgg at hL
        have hmz : Hid (mb d (4 - (i + 1)) z = true) := Lib.hid hmo
        have hDl := hD.lt
        have gs := galloc (gset (gset (gset (World.grownBy.refl wr (some w.heap.size)) 0 (.int .i32 z.1)) 1 (.int .i32 z.2.1)) 2 (.int .i32 z.2.2)) (.cells #[.int .i32 z.1, .int .i32 z.2.1, .int .i32 z.2.2] 106)
        clear hmo hs
        go_wp2_with fail
        exact ⟨⟨i + 1, z, by go_num, by omega, (hD.set z).kept (World.grownBy_alloc _ _ none) (by simp), hmz, gnew hg gs (fun r e => .inl (by cases e; omega))⟩, by simp [RowKit.intOf]; omega⟩

theorem byR_length (r : Int) : (byR r).length ≤ 3 := by
  unfold byR hang
  split
  · simp only [List.length_append, List.length_cons, List.length_nil]; split <;> simp
  · simp
theorem whl_length (d : List Dec) : ∀ (n : Nat) (x : Dec), (whl d n x).length ≤ n + 3
  | 0, _ => by simp [whl]
  | n + 1, x => by
    rw [whl, List.length_append]
    have h2 : (if x.2.2 = 0 then ([] : List Int) else [x.2.2]).length ≤ 1 := by split <;> simp
    cases hs : stp d x.2.1 with
    | none => have := byR_length x.2.1; simp only; omega
    | some y => have := whl_length d n y; simp only; omega

theorem Rn.mono {w : World} {B B' : Nat} {v : Value} {l : List Int} (h : Rn w B v l) (hB : B' ≤ B) : Rn w B' v l := by
  rcases h with ⟨q1, q2 | ⟨g, cap, cur, q3, q4, q5⟩⟩ | ⟨h1, h2⟩
  · exact .inl ⟨q1, .inl q2⟩
  · exact .inl ⟨q1, .inr ⟨g, cap, cur, q3, by omega, q5⟩⟩
  · exact .inr ⟨h1, h2.mono hB⟩
theorem Rn.new {w w' : World} {B : Nat} {v : Value} {l : List Int} (h : Rn w B v l) (hg : w.grownBy w' none) : Rn w' B v l := by
  rcases h with h | ⟨h1, b, h2, h3, h4, h5⟩
  · exact .inl (h.kept hg (by cases v.ownBlock <;> simp))
  · exact .inr ⟨h1, b, h2, h3, h4, fun i u hu => hg.cell (h5 i u hu) (by simp)⟩

theorem ownLow {w : World} {B B' s n : Nat} {e : TypeId} {v : Value} {xs : List Value} (h : w.ownsRow B e s v n xs) (hB : B' ≤ B) : w.ownsRow B' e s v n xs := by
  obtain ⟨q1, q2 | ⟨g, cap, cur, q3, q4, q5⟩⟩ := h
  · exact ⟨q1, .inl q2⟩
  · exact ⟨q1, .inr ⟨g, cap, cur, q3, by omega, q5⟩⟩

set_option maxHeartbeats 4000000 in
theorem wholly_rule (m : Nat) (x z : Dec) (L : List Int) (w W1 W2 : World) (hW1 : W1 = w.alloc (.cells #[.int .i32 x.1, .int .i32 x.2.1, .int .i32 x.2.2] 106)) (hW2 : W2 = W1.alloc (.cells #[.int .i32 z.1, .int .i32 z.2.1, .int .i32 z.2.2] 106))
    (hL : (Instr.lookup 148 (.map (some m)) (.int .i32 x.2.1) true).run Tryz.prog W1 = .ok (.tuple #[.agg #[.int .i32 z.1, .int .i32 z.2.1, .int .i32 z.2.2], .bool false]) W1) (hlen : L.length ≤ 10)
    (hC : Calls Tryz.prog 52 #[.int .i32 x.2.1] W2 fun e w' => ∃ v, e = .returned v ∧ Rn w' W2.heap.size v L ∧ W2.grownBy w' none) :
    Calls Tryz.prog 90 #[.map (some m), dAgg x] w fun e w' => ∃ v, e = .returned v ∧ Rn w' w.heap.size v (L ++ (if x.2.2 = 0 then [] else [x.2.2])) ∧ w.grownBy w' none := by
  have g1 : w.grownBy W1 none := by rw [hW1]; exact World.grownBy_alloc w _ none
  have g2 : W1.grownBy W2 none := by rw [hW2]; exact World.grownBy_alloc W1 _ none
  have hD1 : D3 W1 w.heap.size x := by rw [hW1]; exact D3.new w x
  have hD2 := hD1.kept g2 (by simp)
  have hs2 : w.heap.size ≤ W2.heap.size := Nat.le_trans g1.size g2.size
  obtain ⟨i0, hi, hz0, hz1, hz2⟩ := infoRune_parts
  subst hW2
  subst hW1
  unfold dAgg
  by_cases hb : x.2.2 = 0
  · have hzb : (x.2.2 != 0) = false := by rw [hb]; rfl
    rw [if_pos hb, List.append_nil]
    replace hb := Lib.hid hb
    go_enter Tryz.func90, Tryz.ntmps90
    go_wp2_with (go_at_call 52; refine hC.mono ?_; rintro e w1 ⟨v, rfl, hR, hg1⟩; have hD3 := hD2.kept hg1 (by simp); have q2 := hD3.c2)
    go_ret
    exact ⟨_, rfl, hR.mono hs2, (g1.trans g2).trans hg1⟩
  · have hzb : (x.2.2 != 0) = true := by simpa using hb
    rw [if_neg hb]
    go_enter Tryz.func90, Tryz.ntmps90
    go_wp2_with (first
      | (go_at_call 52; refine hC.mono ?_; rintro e w1 ⟨v, rfl, (hR | ⟨hne, bb, rfl, hbb, hlm, hcc⟩), hg1⟩ <;> (have hD3 := hD2.kept hg1 (by simp); have q2 := hD3.c2; have hgw := (g1.trans g2).trans hg1))
      | (at_builtin; refine wpList_append_own _ rfl _ _ 50 rfl w.heap.size 21 i0 (.int .i32 0) 1 4 Tryz.underlying50 hi hz0 hz1 hz2 rfl (by decide) v L.length (rCells L) rfl ((ownLow hR hs2).alloc _) ⟨w1.heap.size, 0, none⟩ 1 1 [.int .i32 x.2.2] rfl rfl ?c1 ?c2 ?c3 ?c4 ?c5 ?_)
      | (at_builtin; refine wpList_append_grows _ rfl _ _ 50 rfl 21 i0 (.int .i32 0) 1 4 Tryz.underlying50 hi hz0 hz1 hz2 rfl (by decide) (some ⟨bb, 0, none⟩) L.length L.length (rCells L) rfl (fun h => by cases h) ?d0 ?d1 ⟨w1.heap.size, 0, none⟩ 1 1 [.int .i32 x.2.2] rfl rfl ?d2 ?d3 ?d4 ?d5 ?d6 ?_))
    case c1 =>
      intro j u hj
      match j, hj with
      | 0, hj => simp at hj; subst hj; simp [Addr.add]
    case c2 => intro u hu; simp at hu; subst hu; rfl
    case c3 => unfold maxLen; omega
    case c4 => omega
    case c5 => have := hgw.size; simp; omega
    case d0 => simp [rCells]
    case d1 =>
      intro b hb j u hu
      cases hb
      have h3 := (World.grownBy_alloc w1 (.cells #[.int .i32 x.2.2] 21) none).cell (hcc j u hu) (by simp)
      rw [show (⟨bb, 0, none⟩ : Addr).add j = ⟨bb, j, none⟩ by unfold Addr.add; split <;> simp_all]
      exact h3
    case d2 =>
      intro j u hj
      match j, hj with
      | 0, hj => simp at hj; subst hj; simp [Addr.add]
    case d3 => intro u hu; simp at hu; subst hu; rfl
    case d4 => omega
    case d5 => unfold maxLen; omega
    case d6 => omega
    · intro v' w2 hown hgrow _
      have hob := World.ownsRow.lt hR
      have hg2 : w.grownBy w2 none := gnew (galloc hgw _) hgrow (fun q e => .inl (by have := (hob q e).1; omega))
      have hF : Rn w2 w.heap.size v' (L ++ [x.2.2]) := .inl (by simpa [rCells, i32] using hown)
      clear hown hgrow hR hob hL hC hD1 hD2 hD3 q2
      go_wp2
      go_ret
      exact ⟨_, rfl, hF, hg2⟩
    · intro v' w2 hown hgrow
      have hg2 : w.grownBy w2 none := (galloc hgw _).trans hgrow
      have hF : Rn w2 w.heap.size v' (L ++ [x.2.2]) := .inl (by simpa [rCells, i32] using ownLow hown (by have := hgw.size; omega))
      clear hown hgrow hL hC hD1 hD2 hD3 q2
      go_wp2
      go_ret
      exact ⟨_, rfl, hF, hg2⟩
set_option maxHeartbeats 4000000 in
theorem wholly_step (m : Nat) (x z : Dec) (L : List Int) (w W1 W2 : World) (hW1 : W1 = w.alloc (.cells #[.int .i32 x.1, .int .i32 x.2.1, .int .i32 x.2.2] 106)) (hW2 : W2 = W1.alloc (.cells #[.int .i32 z.1, .int .i32 z.2.1, .int .i32 z.2.2] 106))
    (hL : (Instr.lookup 148 (.map (some m)) (.int .i32 x.2.1) true).run Tryz.prog W1 = .ok (.tuple #[.agg #[.int .i32 z.1, .int .i32 z.2.1, .int .i32 z.2.2], .bool true]) W1) (hlen : L.length ≤ 10)
    (hC : Calls Tryz.prog 90 #[.map (some m), .agg #[.int .i32 z.1, .int .i32 z.2.1, .int .i32 z.2.2]] W2 fun e w' => ∃ v, e = .returned v ∧ Rn w' W2.heap.size v L ∧ W2.grownBy w' none) :
    Calls Tryz.prog 90 #[.map (some m), dAgg x] w fun e w' => ∃ v, e = .returned v ∧ Rn w' w.heap.size v (L ++ (if x.2.2 = 0 then [] else [x.2.2])) ∧ w.grownBy w' none := by
  have g1 : w.grownBy W1 none := by rw [hW1]; exact World.grownBy_alloc w _ none
  have g2 : W1.grownBy W2 none := by rw [hW2]; exact World.grownBy_alloc W1 _ none
  have hD1 : D3 W1 w.heap.size x := by rw [hW1]; exact D3.new w x
  have hD2 := hD1.kept g2 (by simp)
  have hs2 : w.heap.size ≤ W2.heap.size := Nat.le_trans g1.size g2.size
  obtain ⟨i0, hi, hz0, hz1, hz2⟩ := infoRune_parts
  subst hW2
  subst hW1
  unfold dAgg
  by_cases hb : x.2.2 = 0
  · have hzb : (x.2.2 != 0) = false := by rw [hb]; rfl
    rw [if_pos hb, List.append_nil]
    replace hb := Lib.hid hb
    go_enter Tryz.func90, Tryz.ntmps90
    go_wp2_with (go_at_call 90; refine hC.mono ?_; rintro e w1 ⟨v, rfl, hR, hg1⟩; have hD3 := hD2.kept hg1 (by simp); have q2 := hD3.c2)
    go_ret
    exact ⟨_, rfl, hR.mono hs2, (g1.trans g2).trans hg1⟩
  · have hzb : (x.2.2 != 0) = true := by simpa using hb
    rw [if_neg hb]
    go_enter Tryz.func90, Tryz.ntmps90
    go_wp2_with (first
      | (go_at_call 90; refine hC.mono ?_; rintro e w1 ⟨v, rfl, (hR | ⟨hne, bb, rfl, hbb, hlm, hcc⟩), hg1⟩ <;> (have hD3 := hD2.kept hg1 (by simp); have q2 := hD3.c2; have hgw := (g1.trans g2).trans hg1))
      | (at_builtin; refine wpList_append_own _ rfl _ _ 50 rfl w.heap.size 21 i0 (.int .i32 0) 1 4 Tryz.underlying50 hi hz0 hz1 hz2 rfl (by decide) v L.length (rCells L) rfl ((ownLow hR hs2).alloc _) ⟨w1.heap.size, 0, none⟩ 1 1 [.int .i32 x.2.2] rfl rfl ?c1 ?c2 ?c3 ?c4 ?c5 ?_)
      | (at_builtin; refine wpList_append_grows _ rfl _ _ 50 rfl 21 i0 (.int .i32 0) 1 4 Tryz.underlying50 hi hz0 hz1 hz2 rfl (by decide) (some ⟨bb, 0, none⟩) L.length L.length (rCells L) rfl (fun h => by cases h) ?d0 ?d1 ⟨w1.heap.size, 0, none⟩ 1 1 [.int .i32 x.2.2] rfl rfl ?d2 ?d3 ?d4 ?d5 ?d6 ?_))
    case c1 =>
      intro j u hj
      match j, hj with
      | 0, hj => simp at hj; subst hj; simp [Addr.add]
    case c2 => intro u hu; simp at hu; subst hu; rfl
    case c3 => unfold maxLen; omega
    case c4 => omega
    case c5 => have := hgw.size; simp; omega
    case d0 => simp [rCells]
    case d1 =>
      intro b hb j u hu
      cases hb
      have h3 := (World.grownBy_alloc w1 (.cells #[.int .i32 x.2.2] 21) none).cell (hcc j u hu) (by simp)
      rw [show (⟨bb, 0, none⟩ : Addr).add j = ⟨bb, j, none⟩ by unfold Addr.add; split <;> simp_all]
      exact h3
    case d2 =>
      intro j u hj
      match j, hj with
      | 0, hj => simp at hj; subst hj; simp [Addr.add]
    case d3 => intro u hu; simp at hu; subst hu; rfl
    case d4 => omega
    case d5 => unfold maxLen; omega
    case d6 => omega
    · intro v' w2 hown hgrow _
      have hob := World.ownsRow.lt hR
      have hg2 : w.grownBy w2 none := gnew (galloc hgw _) hgrow (fun q e => .inl (by have := (hob q e).1; omega))
      have hF : Rn w2 w.heap.size v' (L ++ [x.2.2]) := .inl (by simpa [rCells, i32] using hown)
      clear hown hgrow hR hob hL hC hD1 hD2 hD3 q2
      go_wp2
      go_ret
      exact ⟨_, rfl, hF, hg2⟩
    · intro v' w2 hown hgrow
      have hg2 : w.grownBy w2 none := (galloc hgw _).trans hgrow
      have hF : Rn w2 w.heap.size v' (L ++ [x.2.2]) := .inl (by simpa [rCells, i32] using ownLow hown (by have := hgw.size; omega))
      clear hown hgrow hL hC hD1 hD2 hD3 q2
      go_wp2
      go_ret
      exact ⟨_, rfl, hF, hg2⟩

set_option maxHeartbeats 4000000 in
theorem wholly_ok (m : Nat) (d : List Dec) : ∀ (n : Nat) (x : Dec) (w : World), n ≤ 4 → Ents w m (ents d) → mb d n x = true →
    Calls Tryz.prog 90 #[.map (some m), dAgg x] w fun e w' => ∃ v, e = .returned v ∧ Rn w' w.heap.size v (whl d n x) ∧ w.grownBy w' none
  | 0, x, w, _, _, h => by simp [mb] at h
  | n + 1, x, w, hn, hE, h => by
    have g0 := World.grownBy_alloc w (.cells #[.int .i32 x.1, .int .i32 x.2.1, .int .i32 x.2.2] 106) none
    have hL := run_stp (hE.kept g0 (by simp)) x.2.1
    rw [mb] at h
    rw [whl]
    cases hs : stp d x.2.1 with
    | none =>
      rw [hs] at hL
      exact wholly_rule m x (0, 0, 0) (byR x.2.1) w _ _ rfl rfl hL (by have := byR_length x.2.1; omega) (byRule_any _ _)
    | some y =>
      rw [hs] at hL h
      exact wholly_step m x y (whl d n y) w _ _ rfl rfl hL (by have := whl_length d n y; omega) (wholly_ok m d n y _ (by omega) ((hE.kept g0 (by simp)).kept (World.grownBy_alloc _ _ none) (by simp)) h)
end Go.Proofs.YtpdacbiiaglodaaGreat

/-
  LAYER 5 (norms): whether what a decomposition comes to begins well.
-/
namespace Go.Proofs.YtpdacbiiaglodaaGreat
set_option maxRecDepth 100000
open Go.RowKit Go.Lib

theorem Rn.head {w : World} {B : Nat} {v : Value} {a : Int} {t : List Int} (h : Rn w B v (a :: t)) : ∃ b cap, v = .slice (some ⟨b, 0, none⟩) (t.length + 1) cap ∧ t.length + 1 ≤ cap ∧ cap ≤ maxLen ∧ w.cell? ⟨b, 0, none⟩ = some (.int .i32 a) := by
  rcases h with ⟨q1, ⟨_, q2⟩ | ⟨g, cap, cur, q3, q4, q5, q6, q7, q8, q9⟩⟩ | ⟨h1, b, h2, h3, h4, h5⟩
  · simp at q2
  · refine ⟨g, cap, q3, q6, q7, ?_⟩
    have h0 : cur.toList[0]? = some (.int .i32 a) := by
      have : (cur.toList.take ((a :: t).length * 1))[0]? = some (.int .i32 a) := by rw [q9]; rfl
      rwa [List.getElem?_take_of_lt (by simp)] at this
    have h1 : cur[0]? = some (.int .i32 a) := by simpa using h0
    simp only [World.cell?, q5]
    exact h1
  · exact ⟨b, _, h2, Nat.le_refl _, h4, h5 0 _ rfl⟩

set_option maxHeartbeats 4000000 in
theorem beginsWell_ok (m : Nat) (vc vd : Value) (c : List Cls) (d : List Dec) (x : Dec) (w : World) (hT : Tri .i64 w vc c) (hvd : ∃ a n cp, vd = .slice a n cp) (hok : clsOk 0 c = true) (hlen : c.length ≤ 4000) (hE : Ents w m (ents d)) (hm : mb d 4 x = true) (h : begins c d x = true) :
    Calls Tryz.prog 155 #[datV vc vd, dAgg x, .map (some m)] w fun e w' => e = .returned (.bool true) ∧ w.grownBy w' none := by
  obtain ⟨ad, nd, cd, rfl⟩ := hvd
  obtain ⟨ac, cc, rfl, _, _⟩ := hT.form
  obtain ⟨W0, hW0⟩ : ∃ W0, W0 = (w.alloc (.cells #[.slice ac c.length cc, .slice ad nd cd] 33)).alloc (.cells #[.int .i32 x.1, .int .i32 x.2.1, .int .i32 x.2.2] 106) := ⟨_, rfl⟩
  have hg0 : w.grownBy W0 none := by rw [hW0]; exact galloc (World.grownBy_alloc w _ none) _
  have hx0 : D3 W0 (w.heap.size + 1) x := by
    rw [hW0]
    have := D3.new (w.alloc (.cells #[.slice ac c.length cc, .slice ad nd cd] 33)) x
    rwa [World.size_alloc] at this
  have hd0 : W0.heap[w.heap.size]? = some (.cells #[.slice ac c.length cc, .slice ad nd cd] 33) := by
    rw [hW0]
    exact ((World.grownBy_alloc (w.alloc (.cells #[.slice ac c.length cc, .slice ad nd cd] 33)) _ none).block w.heap.size (by simp) (by simp)).trans (World.alloc_heap_new w _)
  have hC := fun W r (hg : W0.grownBy W none) => class_any (.slice ac c.length cc) (.slice ad nd cd) c r W ((hT.all hg0).all hg) hok hlen
  have hW := fun W (hg : W0.grownBy W none) => wholly_ok m d 4 x W (Nat.le_refl _) ((hE.kept hg0 (by simp)).kept hg (by simp)) hm
  obtain ⟨hd, tl, htl⟩ := List.exists_cons_of_ne_nil (mb_whl (d := d) (n := 4) (x := x) hm 0).2
  rw [htl] at hW
  unfold begins at h
  rw [htl, List.headD_cons] at h
  unfold datV at hC
  unfold dAgg at hW
  unfold datV dAgg
  have hfin : ∀ W, W0.grownBy W none → w.grownBy W none := fun W hg => hg0.trans hg
  have cells : ∀ W, W0.grownBy W none → (W.cell? ⟨w.heap.size, 0, none⟩ = some (.slice ac c.length cc) ∧ W.cell? ⟨w.heap.size, 1, none⟩ = some (.slice ad nd cd)) ∧ W.cell? ⟨w.heap.size + 1, 0, none⟩ = some (.int .i32 x.1) ∧ W.cell? ⟨w.heap.size + 1, 1, none⟩ = some (.int .i32 x.2.1) ∧ W.cell? ⟨w.heap.size + 1, 2, none⟩ = some (.int .i32 x.2.2) := by
    intro W hg
    have k1 := hx0.kept hg (by simp)
    have k2 := (hg.block w.heap.size (Array.getElem?_eq_some_iff.1 hd0).1 (by simp)).trans hd0
    exact ⟨⟨by simp [World.cell?, k2], by simp [World.cell?, k2]⟩, k1.c0, k1.c1, k1.c2⟩
  have hD : W0.grownBy W0.drew none := gdrew (World.grownBy.refl W0 none)
  replace hW0 := Lib.hid hW0
  by_cases hz : clsOf c x.1 = 0
  · have hzb : (clsOf c x.1 == 0) = true := by rw [hz]; rfl
    replace hz := Lib.hid hz
    go_enter Tryz.func155, Tryz.ntmps155
    go_upto_region 1 with fail
    rw [← hW0.out]
    go_cut [6] (fun v6 wx => v6 = .bool true ∧ W0.grownBy wx none)
    case first =>
      refine wp_region_held_drew (S := fun w' => W0.grownBy w' none ∧ (w'.cell? ⟨w.heap.size, 0, none⟩ = some (.slice ac c.length cc) ∧ w'.cell? ⟨w.heap.size, 1, none⟩ = some (.slice ad nd cd)) ∧ w'.cell? ⟨w.heap.size + 1, 0, none⟩ = some (.int .i32 x.1) ∧ w'.cell? ⟨w.heap.size + 1, 1, none⟩ = some (.int .i32 x.2.1) ∧ w'.cell? ⟨w.heap.size + 1, 2, none⟩ = some (.int .i32 x.2.2)) (by kernel_rfl) ⟨hD, cells _ hD⟩ (fun hS0 => ?_)
      refine wpAnyH_take (i := 0) (oi := ⟨some 7, _, _, _, _, _⟩) (v := ?_) rfl (by kernel_rfl) (by kernel_rfl) (by kernel_rfl) (fun _ _ _ h => h) (Or.inl ⟨by rfl, ?_⟩) (by assumption) ?_
      rotate_left
      · (intro w hSw; (try dsimp only at hSw); go_simp; try with_reducible rfl)
      try simp only [Act.put, List.setIfInBounds_toArray, List.set_cons_zero, List.set_cons_succ]
      refine wpAnyH_take (i := 1) (oi := ⟨some 8, _, _, _, _, _⟩) (v := ?_) rfl (by kernel_rfl) (by kernel_rfl) (by kernel_rfl) (fun _ _ _ h => h) (Or.inl ⟨by rfl, ?_⟩) (by assumption) ?_
      rotate_left
      · (intro w hSw; (try dsimp only at hSw); go_simp; try with_reducible rfl)
      try simp only [Act.put, List.setIfInBounds_toArray, List.set_cons_zero, List.set_cons_succ]
      refine wpAnyH_take (i := 2) (oi := ⟨some 9, _, _, _, _, _⟩) (v := ?_) rfl (by kernel_rfl) (by kernel_rfl) (by kernel_rfl) (fun _ _ _ h => h) (Or.inl ⟨by rfl, ?_⟩) (by assumption) ?_
      rotate_left
      · (intro w hSw; (try dsimp only at hSw); go_simp; try with_reducible rfl)
      try simp only [Act.put, List.setIfInBounds_toArray, List.set_cons_zero, List.set_cons_succ]
      refine wpAnyH_ready (rs := [3]) (by kernel_rfl) (by simp) ?_
      refine AllReadyH.cons rfl (fun K hK => ?_) AllReadyH.nil
      go_simp
      refine (hC _ _ hD).mono ?_
      rintro e w6 ⟨rfl, hg6⟩
      have h6 := hD.trans hg6
      refine hK.out _ _ ⟨h6, cells _ h6⟩ (fun hS3 => ?_)
      clear hK
      refine wpAnyH_take (i := 4) (oi := ⟨some 11, _, _, _, _, _⟩) (v := ?_) rfl (by kernel_rfl) (by kernel_rfl) (by kernel_rfl) (fun _ _ _ h => h) (Or.inl ⟨by rfl, ?_⟩) (by assumption) ?_
      rotate_left
      · (intro w hSw; (try dsimp only at hSw); go_simp; try with_reducible rfl)
      try simp only [Act.put, List.setIfInBounds_toArray, List.set_cons_zero, List.set_cons_succ]
      refine wpAnyH_take (i := 5) (oi := ⟨some 12, _, _, _, _, _⟩) (v := ?_) rfl (by kernel_rfl) (by kernel_rfl) (by kernel_rfl) (fun _ _ _ h => h) (Or.inl ⟨by rfl, ?_⟩) (by assumption) ?_
      rotate_left
      · (intro w hSw; (try dsimp only at hSw); go_simp; try with_reducible rfl)
      try simp only [Act.put, List.setIfInBounds_toArray, List.set_cons_zero, List.set_cons_succ]
      refine wpAnyH_take (i := 6) (oi := ⟨some 13, _, _, _, _, _⟩) (v := undef) rfl (by kernel_rfl) (by kernel_rfl) (by kernel_rfl) (fun _ _ _ h => h) (Or.inr ⟨by rfl, rfl⟩) (by assumption) ?_
      try simp only [Act.put, List.setIfInBounds_toArray, List.set_cons_zero, List.set_cons_succ]
      refine wpAnyH_take (i := 7) (oi := ⟨some 14, _, _, _, _, _⟩) (v := undef) rfl (by kernel_rfl) (by kernel_rfl) (by kernel_rfl) (fun _ _ _ h => h) (Or.inr ⟨by rfl, rfl⟩) (by assumption) ?_
      try simp only [Act.put, List.setIfInBounds_toArray, List.set_cons_zero, List.set_cons_succ]
      refine wpAnyH_take (i := 8) (oi := ⟨some 15, _, _, _, _, _⟩) (v := undef) rfl (by kernel_rfl) (by kernel_rfl) (by kernel_rfl) (fun _ _ _ h => h) (Or.inr ⟨by rfl, rfl⟩) (by assumption) ?_
      try simp only [Act.put, List.setIfInBounds_toArray, List.set_cons_zero, List.set_cons_succ]
      refine wpAnyH_take (i := 9) (oi := ⟨some 16, _, _, _, _, _⟩) (v := undef) rfl (by kernel_rfl) (by kernel_rfl) (by kernel_rfl) (fun _ _ _ h => h) (Or.inr ⟨by rfl, rfl⟩) (by assumption) ?_
      try simp only [Act.put, List.setIfInBounds_toArray, List.set_cons_zero, List.set_cons_succ]
      refine wpAnyH_take (i := 10) (oi := ⟨some 17, _, _, _, _, _⟩) (v := undef) rfl (by kernel_rfl) (by kernel_rfl) (by kernel_rfl) (fun _ _ _ h => h) (Or.inr ⟨by rfl, rfl⟩) (by assumption) ?_
      try simp only [Act.put, List.setIfInBounds_toArray, List.set_cons_zero, List.set_cons_succ]
      refine wpAnyH_take (i := 11) (oi := ⟨some 18, _, _, _, _, _⟩) (v := undef) rfl (by kernel_rfl) (by kernel_rfl) (by kernel_rfl) (fun _ _ _ h => h) (Or.inr ⟨by rfl, rfl⟩) (by assumption) ?_
      try simp only [Act.put, List.setIfInBounds_toArray, List.set_cons_zero, List.set_cons_succ]
      refine wpAnyH_take (i := 12) (oi := ⟨some 19, _, _, _, _, _⟩) (v := undef) rfl (by kernel_rfl) (by kernel_rfl) (by kernel_rfl) (fun _ _ _ h => h) (Or.inr ⟨by rfl, rfl⟩) (by assumption) ?_
      try simp only [Act.put, List.setIfInBounds_toArray, List.set_cons_zero, List.set_cons_succ]
      refine wpAnyH_take (i := 13) (oi := ⟨some 20, _, _, _, _, _⟩) (v := undef) rfl (by kernel_rfl) (by kernel_rfl) (by kernel_rfl) (fun _ _ _ h => h) (Or.inr ⟨by rfl, rfl⟩) (by assumption) ?_
      try simp only [Act.put, List.setIfInBounds_toArray, List.set_cons_zero, List.set_cons_succ]
      refine wpAnyH_take (i := 14) (oi := ⟨some 21, _, _, _, _, _⟩) (v := ?_) rfl (by kernel_rfl) (by kernel_rfl) (by kernel_rfl) (fun _ _ _ h => h) (Or.inl ⟨by rfl, ?_⟩) (by assumption) ?_
      rotate_left
      · (intro w hSw; (try dsimp only at hSw); go_simp; try with_reducible rfl)
      try simp only [Act.put, List.setIfInBounds_toArray, List.set_cons_zero, List.set_cons_succ]
      refine wpAnyH_take (i := 15) (oi := ⟨some 6, _, _, _, _, _⟩) (v := ?_) rfl (by kernel_rfl) (by kernel_rfl) (by kernel_rfl) (fun _ _ _ h => h) (Or.inl ⟨by rfl, ?_⟩) (by assumption) ?_
      rotate_left
      · (intro w hSw; (try dsimp only at hSw); go_simp; try with_reducible rfl)
      try simp only [Act.put, List.setIfInBounds_toArray, List.set_cons_zero, List.set_cons_succ]
      refine wpAnyH_done (by kernel_rfl) ?_ _
      go_wp2_with fail
      go_meet
      exact ⟨rfl, h6⟩
    case rest =>
      obtain ⟨rfl, hb⟩ := hcut
      go_wp2
      go_ret
      exact ⟨rfl, hfin _ hb⟩
  · have hzb : (clsOf c x.1 == 0) = false := by simpa using hz
    have hyb : (clsOf c hd != 0) = true := by
      simp only [Bool.or_eq_true, decide_eq_true_eq, Bool.not_eq_true', decide_eq_false_iff_not] at h
      simpa using h.resolve_left hz
    clear h
    go_enter Tryz.func155, Tryz.ntmps155
    go_upto_region 1 with fail
    rw [← hW0.out]
    go_cut [6] (fun v6 wx => v6 = .bool true ∧ W0.grownBy wx none)
    case first =>
      refine wp_region_held_drew (S := fun w' => W0.grownBy w' none ∧ (w'.cell? ⟨w.heap.size, 0, none⟩ = some (.slice ac c.length cc) ∧ w'.cell? ⟨w.heap.size, 1, none⟩ = some (.slice ad nd cd)) ∧ w'.cell? ⟨w.heap.size + 1, 0, none⟩ = some (.int .i32 x.1) ∧ w'.cell? ⟨w.heap.size + 1, 1, none⟩ = some (.int .i32 x.2.1) ∧ w'.cell? ⟨w.heap.size + 1, 2, none⟩ = some (.int .i32 x.2.2)) (by kernel_rfl) ⟨hD, cells _ hD⟩ (fun hS0 => ?_)
      refine wpAnyH_take (i := 0) (oi := ⟨some 7, _, _, _, _, _⟩) (v := ?_) rfl (by kernel_rfl) (by kernel_rfl) (by kernel_rfl) (fun _ _ _ h => h) (Or.inl ⟨by rfl, ?_⟩) (by assumption) ?_
      rotate_left
      · (intro w hSw; (try dsimp only at hSw); go_simp; try with_reducible rfl)
      try simp only [Act.put, List.setIfInBounds_toArray, List.set_cons_zero, List.set_cons_succ]
      refine wpAnyH_take (i := 1) (oi := ⟨some 8, _, _, _, _, _⟩) (v := ?_) rfl (by kernel_rfl) (by kernel_rfl) (by kernel_rfl) (fun _ _ _ h => h) (Or.inl ⟨by rfl, ?_⟩) (by assumption) ?_
      rotate_left
      · (intro w hSw; (try dsimp only at hSw); go_simp; try with_reducible rfl)
      try simp only [Act.put, List.setIfInBounds_toArray, List.set_cons_zero, List.set_cons_succ]
      refine wpAnyH_take (i := 2) (oi := ⟨some 9, _, _, _, _, _⟩) (v := ?_) rfl (by kernel_rfl) (by kernel_rfl) (by kernel_rfl) (fun _ _ _ h => h) (Or.inl ⟨by rfl, ?_⟩) (by assumption) ?_
      rotate_left
      · (intro w hSw; (try dsimp only at hSw); go_simp; try with_reducible rfl)
      try simp only [Act.put, List.setIfInBounds_toArray, List.set_cons_zero, List.set_cons_succ]
      refine wpAnyH_ready (rs := [3]) (by kernel_rfl) (by simp) ?_
      refine AllReadyH.cons rfl (fun K hK => ?_) AllReadyH.nil
      go_simp
      refine (hC _ _ hD).mono ?_
      rintro e w6 ⟨rfl, hg6⟩
      have h6 := hD.trans hg6
      refine hK.out _ _ ⟨h6, cells _ h6⟩ (fun hS3 => ?_)
      clear hK
      refine wpAnyH_take (i := 4) (oi := ⟨some 11, _, _, _, _, _⟩) (v := ?_) rfl (by kernel_rfl) (by kernel_rfl) (by kernel_rfl) (fun _ _ _ h => h) (Or.inl ⟨by rfl, ?_⟩) (by assumption) ?_
      rotate_left
      · (intro w hSw; (try dsimp only at hSw); go_simp; try with_reducible rfl)
      try simp only [Act.put, List.setIfInBounds_toArray, List.set_cons_zero, List.set_cons_succ]
      refine wpAnyH_take (i := 5) (oi := ⟨some 12, _, _, _, _, _⟩) (v := ?_) rfl (by kernel_rfl) (by kernel_rfl) (by kernel_rfl) (fun _ _ _ h => h) (Or.inl ⟨by rfl, ?_⟩) (by assumption) ?_
      rotate_left
      · (intro w hSw; (try dsimp only at hSw); go_simp; try with_reducible rfl)
      try simp only [Act.put, List.setIfInBounds_toArray, List.set_cons_zero, List.set_cons_succ]
      refine wpAnyH_take (i := 6) (oi := ⟨some 13, _, _, _, _, _⟩) (v := ?_) rfl (by kernel_rfl) (by kernel_rfl) (by kernel_rfl) (fun _ _ _ h => h) (Or.inl ⟨by rfl, ?_⟩) (by assumption) ?_
      rotate_left
      · (intro w hSw; (try dsimp only at hSw); go_simp; try with_reducible rfl)
      try simp only [Act.put, List.setIfInBounds_toArray, List.set_cons_zero, List.set_cons_succ]
      refine wpAnyH_take (i := 7) (oi := ⟨some 14, _, _, _, _, _⟩) (v := ?_) rfl (by kernel_rfl) (by kernel_rfl) (by kernel_rfl) (fun _ _ _ h => h) (Or.inl ⟨by rfl, ?_⟩) (by assumption) ?_
      rotate_left
      · (intro w hSw; (try dsimp only at hSw); go_simp; try with_reducible rfl)
      try simp only [Act.put, List.setIfInBounds_toArray, List.set_cons_zero, List.set_cons_succ]
      refine wpAnyH_take (i := 8) (oi := ⟨some 15, _, _, _, _, _⟩) (v := ?_) rfl (by kernel_rfl) (by kernel_rfl) (by kernel_rfl) (fun _ _ _ h => h) (Or.inl ⟨by rfl, ?_⟩) (by assumption) ?_
      rotate_left
      · (intro w hSw; (try dsimp only at hSw); go_simp; try with_reducible rfl)
      try simp only [Act.put, List.setIfInBounds_toArray, List.set_cons_zero, List.set_cons_succ]
      refine wpAnyH_ready (rs := [9]) (by kernel_rfl) (by simp) ?_
      refine AllReadyH.cons rfl (fun K hK => ?_) AllReadyH.nil
      go_simp
      refine (hW _ h6).mono ?_
      rintro e w7 ⟨v7, rfl, hR7, hg7⟩
      have h7 := h6.trans hg7
      obtain ⟨bb, cap, rfl, hcap, hmx, hhd⟩ := hR7.head
      unfold maxLen at hmx
      refine hK.out _ _ ⟨h7, cells _ h7⟩ (fun hS4 => ?_)
      clear hK
      refine wpAnyH_ready (rs := [10]) (by kernel_rfl) (by simp) ?_
      refine AllReadyH.cons rfl (fun K hK => ?_) AllReadyH.nil
      go_simp
      refine hK.out _ _ hS4 (fun hS5 => ?_)
      clear hK
      refine wpAnyH_ready (rs := [11]) (by kernel_rfl) (by simp) ?_
      refine AllReadyH.cons rfl (fun K hK => ?_) AllReadyH.nil
      go_simp
      refine hK.out _ _ hS4 (fun hS6 => ?_)
      clear hK
      refine wpAnyH_ready (rs := [12]) (by kernel_rfl) (by simp) ?_
      refine AllReadyH.cons rfl (fun K hK => ?_) AllReadyH.nil
      go_simp
      refine (hC _ _ h7).mono ?_
      rintro e w8 ⟨rfl, hg8⟩
      have h8 := h7.trans hg8
      refine hK.out _ _ ⟨h8, cells _ h8⟩ (fun hS7 => ?_)
      clear hK
      refine wpAnyH_take (i := 13) (oi := ⟨some 20, _, _, _, _, _⟩) (v := ?_) rfl (by kernel_rfl) (by kernel_rfl) (by kernel_rfl) (fun _ _ _ h => h) (Or.inl ⟨by rfl, ?_⟩) (by assumption) ?_
      rotate_left
      · (intro w hSw; (try dsimp only at hSw); go_simp; try with_reducible rfl)
      try simp only [Act.put, List.setIfInBounds_toArray, List.set_cons_zero, List.set_cons_succ]
      refine wpAnyH_take (i := 14) (oi := ⟨some 21, _, _, _, _, _⟩) (v := ?_) rfl (by kernel_rfl) (by kernel_rfl) (by kernel_rfl) (fun _ _ _ h => h) (Or.inl ⟨by rfl, ?_⟩) (by assumption) ?_
      rotate_left
      · (intro w hSw; (try dsimp only at hSw); go_simp; try with_reducible rfl)
      try simp only [Act.put, List.setIfInBounds_toArray, List.set_cons_zero, List.set_cons_succ]
      refine wpAnyH_take (i := 15) (oi := ⟨some 6, _, _, _, _, _⟩) (v := ?_) rfl (by kernel_rfl) (by kernel_rfl) (by kernel_rfl) (fun _ _ _ h => h) (Or.inl ⟨by rfl, ?_⟩) (by assumption) ?_
      rotate_left
      · (intro w hSw; (try dsimp only at hSw); go_simp; try with_reducible rfl)
      try simp only [Act.put, List.setIfInBounds_toArray, List.set_cons_zero, List.set_cons_succ]
      refine wpAnyH_done (by kernel_rfl) ?_ _
      go_wp2_with fail
      go_meet
      exact ⟨rfl, h8⟩
    case rest =>
      obtain ⟨rfl, hb⟩ := hcut
      go_wp2
      go_ret
      exact ⟨rfl, hfin _ hb⟩
end Go.Proofs.YtpdacbiiaglodaaGreat

/-
  LAYER 5 (norms): classes may be.
-/
namespace Go.Proofs.YtpdacbiiaglodaaGreat
set_option maxRecDepth 100000
open Go.RowKit Go.Lib

theorem scal_range {r : Int} (h : scal r = true) : 0 ≤ r ∧ r ≤ 1114111 := by
  simp only [scal, decide_eq_true_eq] at h
  omega

set_option maxHeartbeats 4000000 in
theorem classesMayBe_ok (vc vd : Value) (c : List Cls) (w : World) (hT : Tri .i64 w vc c) (hok : clsOk 0 c = true) :
    Calls Tryz.prog 123 #[datV vc vd] w fun e w' => e = .returned (.bool true) ∧ w.grownBy w' none := by
  obtain ⟨a, cap, rfl, h1, h2⟩ := hT.form
  unfold maxLen at h2
  have hTH := Lib.hid hT
  have hokH := Lib.hid hok
  have g0 := World.grownBy_alloc w (.cells #[.slice a c.length cap, vd] 33) none
  clear hT hok
  unfold datV
  go_enter Tryz.func123, Tryz.ntmps123
  go_wp2
  go_loopw [9, 3] (fun vi vl wr => ∃ (i : Nat) (L : Int), vi = .int .i64 (i : Int) ∧ vl = .int .i32 L ∧ i ≤ c.length ∧ Hid (clsOk L (c.drop i) = true) ∧ w.grownBy wr none) (fun vi _ _ => c.length - (RowKit.intOf vi).toNat)
  case atStart => exact ⟨0, 0, rfl, rfl, Nat.zero_le _, Lib.hid hokH.out, g0⟩
  case round =>
    obtain ⟨i, L, rfl, rfl, hi, hL, hg⟩ := hrel
    by_cases hlt : i < c.length
    · obtain ⟨x, hx⟩ : ∃ x, c[i] = x := ⟨_, rfl⟩
      obtain ⟨b, off, rfl, c1, c2, c3⟩ := (hTH.out.all hg).get hlt
      rw [hx] at c1 c2 c3
      have hLo := hL.out
      rw [List.drop_eq_getElem_cons hlt, hx, clsOk, Bool.and_eq_true] at hLo
      have hL2 := Lib.hid hLo.2
      have h3 := hLo.1
      simp only [clOk, Bool.and_eq_true, decide_eq_true_eq] at h3
      obtain ⟨⟨⟨⟨⟨s1, s2⟩, s3⟩, s4⟩, s5⟩, s6⟩ := h3
      have S1 := fun w => scal_utf.Scalar x.1 w
      have S2 := fun w => scal_utf.Scalar x.2.1 w
      have r1 := scal_range s1
      have r2 := scal_range s2
      rw [s1] at S1
      rw [s2] at S2
      clear hL hLo s1 s2 hx
      go_wp2_with (first
        | (go_at_call_of 68 (Value.int IntKind.i32 x.1); refine (S1 _).mono ?_; rintro e w' ⟨rfl, rfl⟩)
        | (go_at_call_of 68 (Value.int IntKind.i32 x.2.1); refine (S2 _).mono ?_; rintro e w' ⟨rfl, rfl⟩))
      exact ⟨⟨i + 1, x.2.1 + 1, by go_num, rfl, by omega, hL2, galloc hg _⟩, by simp [RowKit.intOf]; omega⟩
    · obtain rfl : i = c.length := by omega
      clear hL hlt
      go_wp2
      go_ret
      exact ⟨rfl, hg⟩
end Go.Proofs.YtpdacbiiaglodaaGreat

/-
  LAYER 5 (norms): decompositions may be.
-/
namespace Go.Proofs.YtpdacbiiaglodaaGreat
set_option maxRecDepth 100000
open Go.RowKit Go.Lib
attribute [local go_sem] Oper.semAt_some

set_option maxHeartbeats 8000000 in
theorem decsMayBe_in (vc vd : Value) (c : List Cls) (d : List Dec) (w : World) (hT : Dat w vc vd c d) (hok : clsOk 0 c = true) (hlen : c.length ≤ 4000) (hd : decsOk c d 0 d = true) :
    CallsIn Fence.wide 8 Tryz.prog 124 #[datV vc vd] w fun e w' => e = .returned (.bool true) ∧ w.grownBy w' none := by
  obtain ⟨hTc, hTd⟩ := hT
  obtain ⟨a, cp, rfl, hc, hm⟩ := hTd.form
  obtain ⟨ac, cc, rfl, _, _⟩ := hTc.form
  have hrise := decsOk_rise hd
  have hE := fun w => each_any (.slice ac c.length cc) (.slice a d.length cp) w ⟨_, _, _, rfl⟩
  have hS := fun w hr => steps_any (.slice ac c.length cc) (.slice a d.length cp) d w hr hrise
  have hvb : d ≠ [] → ∀ k, (Value.slice a d.length cp).ownBlock = some k → k < w.heap.size := fun hne k e => hTd.lt hne k e
  obtain ⟨W0, hW0⟩ : ∃ W0, W0 = (w.alloc (.cells #[.slice ac c.length cc, .slice a d.length cp] 33)).alloc (.cells #[.bool false] 4) := ⟨_, rfl⟩
  have hs0 : W0.heap.size = w.heap.size + 2 := by rw [hW0]; simp
  have hg0 : w.grownBy W0 none := by rw [hW0]; exact galloc (World.grownBy_alloc w _ none) _
  have hd0 : W0.heap[w.heap.size]? = some (.cells #[.slice ac c.length cc, .slice a d.length cp] 33) := by
    rw [hW0]
    exact ((World.grownBy_alloc (w.alloc (.cells #[.slice ac c.length cc, .slice a d.length cp] 33)) _ none).block w.heap.size (by simp) (by simp)).trans (World.alloc_heap_new w _)
  have hr0 : Boxed W0 (w.heap.size + 1) 4 (.bool false) := by
    rw [hW0]
    have := Boxed.new (w.alloc (.cells #[.slice ac c.length cc, .slice a d.length cp] 33)) 4 (.bool false)
    rwa [World.size_alloc] at this
  have hS0 := hS W0 (hTd.all hg0)
  replace hW0 := Lib.hid hW0
  unfold datV at hE hS0 ⊢
  refine callsIn_of_wp_marks Tryz.func124 rfl trivial ?_ rfl
  simp only [Tryz.ntmps124, List.size_toArray, List.length_cons, List.length_nil, Nat.reduceAdd, Nat.reduceSub, Array.replicate_succ, Array.replicate_zero, List.push_toArray, List.append_toArray, List.nil_append, List.cons_append]
  have dcell : ∀ W, W0.grownBy W none → W.heap[w.heap.size]? = some (.cells #[.slice ac c.length cc, .slice a d.length cp] 33) := fun W hg => (hg.block w.heap.size (by omega) (by simp)).trans hd0
  gi_wp2_with (first
    | (refine ⟨trivial, ?_⟩; rw [← hW0.out]; gi_at_call 89; refine (callsIn_wide.2 hS0).mono ?_; rintro e w1 ⟨m, rfl, hm1, hEn, hg1⟩; have k := dcell _ hg1; have k0 : w1.cell? ⟨w.heap.size, 0, none⟩ = some (.slice ac c.length cc) := by { simp [World.cell?, k] }; have k1 : w1.cell? ⟨w.heap.size, 1, none⟩ = some (.slice a d.length cp) := by { simp [World.cell?, k] }; have hlt1 : w.heap.size < w1.heap.size := by { have := hg1.size; omega }; have hlt2 : w.heap.size < w1.heap.size + 1 := by { omega })
    | (refine ⟨trivial, ?_⟩; gi_at_call 56; refine (callsIn_wide.2 (hE _)).mono ?_; rintro e w3 ⟨p, rfl, hp, hb, hg3⟩))
  obtain ⟨W2, hW2⟩ : ∃ W2, W2 = (w1.alloc (.cells #[.map (some m)] 148)).alloc (.cells #[.int .i32 0] 21) := ⟨_, rfl⟩
  rw [← hW2] at hp hg3
  have hg2 : w1.grownBy W2 none := by rw [hW2]; exact galloc (World.grownBy_alloc w1 _ none) _
  have hs2 : W2.heap.size = w1.heap.size + 2 := by rw [hW2]; simp
  have hb2 : Boxed W2 w1.heap.size 148 (.map (some m)) := by rw [hW2]; exact (Boxed.new w1 _ _).alloc _
  have hl2 : Boxed W2 (w1.heap.size + 1) 21 (.int .i32 0) := by
    rw [hW2]
    have := Boxed.new (w1.alloc (.cells #[.map (some m)] 148)) 21 (.int .i32 0)
    rwa [World.size_alloc] at this
  clear hW2 k k0 k1 hlt2
  have hs3 := hg3.size
  have hpl := hb.lt
  have hml := hEn.lt
  have hTd3 := ((hTd.all hg0).all hg1).all (hg2.trans hg3)
  have hTell := dvals1_tells 4 p w3.heap.size (w1.heap.size + 1) _ d w3 hb hTd3 (by omega) (fun hne k e => by have := hvb hne k e; omega)
  have hg13 : W0.grownBy w3 none := hg1.trans (hg2.trans hg3)
  refine range_tells4 (a := _) (w := w3) (α := Dec) rfl (by omega) (gf := 133) (lb := #[.pointer (some ⟨p, 0, none⟩)]) rfl trivial (enters_of Tryz.func133 (by kernel_rfl) rfl)
    hTell (by simp) (fun _ => rfl) (fun _ _ _ _ _ _ h _ _ _ => h)
    (fun pre W => Hid (pre = d.take pre.length) ∧ Ents W m (ents d) ∧ Boxed W w1.heap.size 148 (.map (some m)) ∧ (∃ L, Boxed W (w1.heap.size + 1) 21 (.int .i32 L) ∧ Hid (decsOk c d L (d.drop pre.length) = true)) ∧ W0.grownBy W none ∧ w3.heap.size ≤ W.heap.size) (fun _ _ _ => False)
    ?hI (fun _ _ _ _ _ h _ _ => h.elim) ⟨Lib.hid rfl, (hEn.kept hg2 (by simp)).kept hg3 (by simp), hb2.kept hg3 (by simp), ⟨0, hl2.kept hg3 (by simp), Lib.hid hd⟩, hg13, Nat.le_refl _⟩
    (fun x a' W => ∃ q, D3 W q x ∧ a' = { tmps := #[.agg #[.slice ac c.length cc, .slice a d.length cp], .pointer (some ⟨w.heap.size, 0, none⟩), .pointer (some ⟨w.heap.size + 1, 0, none⟩), .pointer (some ⟨w1.heap.size, 0, none⟩), .pointer (some ⟨w1.heap.size + 1, 0, none⟩), .pointer (some ⟨q, 0, none⟩), .agg #[.slice ac c.length cc, .slice a d.length cp], .map (some m), .agg #[.slice ac c.length cc, .slice a d.length cp], .func (.func 133) #[] #[.pointer (some ⟨p, 0, none⟩)], dAgg x, undef, undef, undef, undef, undef, undef, undef, undef, undef, undef, undef, undef, undef, undef, undef, undef, undef, undef, undef, undef, undef, undef, undef, undef, undef], defers := [] })
    (fun _ _ _ _ h _ => h) ?hAx ?assign ?body ?done ?stop
  case hI =>
    rintro pre A B k ⟨h0, h1, h2, ⟨L, h3, h4⟩, h5, h6⟩ hg' hk
    have hk2 : ∀ q, k = some q → w3.heap.size ≤ q := by
      rintro q rfl
      rcases hk with hk | ⟨q', hk, hq, _⟩
      · cases hk
      · cases hk; exact hq
    exact ⟨h0, h1.kept hg' (fun e => by have := hk2 _ e; omega), h2.kept hg' (fun e => by have := hk2 _ e.symm; omega), ⟨L, h3.kept hg' (fun e => by have := hk2 _ e.symm; omega), h4⟩, gnew h5 hg' (fun q e => .inl (by have := hk2 _ e; have := hg13.size; omega)), Nat.le_trans h6 hg'.size⟩
  case hAx =>
    rintro x a' A B k o ⟨q, hc', rfl⟩ hg' hk ho
    refine ⟨q, hc'.kept hg' (fun e => ?_), rfl⟩
    cases e
    cases (hk.symm.trans hc')
    cases ho
  case assign =>
    intro l x W K hK
    unfold dEnc dAgg
    gi_wp2_with fail
    refine hK _ _ (World.grownBy_alloc W _ none) ⟨W.heap.size, D3.new W x, ?_⟩
    rfl
  case body =>
    rintro l2 pre x a' W ⟨h0, h1, h2, ⟨L, h3, h4⟩, h5, h6⟩ hget ⟨q, hx, rfl⟩ hsz
    have hnx := Lib.hid (take_next h0.out hget)
    obtain ⟨hlt, hxx⟩ := List.getElem?_eq_some_iff.1 hget
    have h4o := h4.out
    rw [List.drop_eq_getElem_cons hlt, hxx, decsOk, Bool.and_eq_true] at h4o
    have hL2 : Hid (decsOk c d (x.1 + 1) (d.drop (pre ++ [x]).length) = true) := Lib.hid (by rw [List.length_append]; exact h4o.2)
    have hdo := h4o.1
    simp only [decOk, Bool.and_eq_true, decide_eq_true_eq] at hdo
    obtain ⟨⟨⟨d1, d2⟩, d3, d4⟩, d5⟩ := hdo
    have hx1 : 0 ≤ x.1 ∧ x.1 ≤ 1114111 := by
      simp only [codesOk, Bool.and_eq_true] at d2
      exact scal_range d2.1.1.1.1.1.1
    have C1 := fun w => codesMayBe_ok x w d2
    have C2 := fun V (hg : W.grownBy V none) => mayBe_ok m d x V (h1.kept hg (by simp)) d3 d4
    have C3 := fun V (hg : W.grownBy V none) => beginsWell_ok m (.slice ac c.length cc) (.slice a d.length cp) c d x V (((hTc.all hg0).all h5).all hg) ⟨_, _, _, rfl⟩ hok hlen (h1.kept hg (by simp)) d4 d5
    unfold dAgg at C1 C2
    unfold datV dAgg at C3
    have cf : ∀ V, W.grownBy V none → (V.cell? ⟨w.heap.size, 0, none⟩ = some (.slice ac c.length cc) ∧ V.cell? ⟨w.heap.size, 1, none⟩ = some (.slice a d.length cp)) ∧ V.cell? ⟨w1.heap.size, 0, none⟩ = some (.map (some m)) ∧ (V.cell? ⟨w1.heap.size + 1, 0, none⟩ = some (.int .i32 L) ∧ V.frozen? ⟨w1.heap.size + 1, 0, none⟩ = false) ∧ V.cell? ⟨q, 0, none⟩ = some (.int .i32 x.1) ∧ V.cell? ⟨q, 1, none⟩ = some (.int .i32 x.2.1) ∧ V.cell? ⟨q, 2, none⟩ = some (.int .i32 x.2.2) := by
      intro V hg
      have k := dcell _ (h5.trans hg)
      have kx := hx.kept hg (by simp)
      exact ⟨⟨by simp [World.cell?, k], by simp [World.cell?, k]⟩, (h2.kept hg (by simp)).cell, ⟨(h3.kept hg (by simp)).cell, (h3.kept hg (by simp)).frozen⟩, kx.c0, kx.c1, kx.c2⟩
    obtain ⟨⟨a0, a1⟩, a2, ⟨a3, a4⟩, a5, a6, a7⟩ := cf W (World.grownBy.refl W none)
    clear hTell hTc hTd hTd3 hvb hb2 hl2 hb hE hS hS0 h4o hd
    gi_wp2_with (first
      | (refine ⟨trivial, ?_⟩; gi_at_call 153; refine (callsIn_wide.2 (C1 _)).mono ?_; rintro e V1 ⟨rfl, v1⟩; obtain ⟨⟨a0, a1⟩, a2, ⟨a3, a4⟩, a5, a6, a7⟩ := cf V1 v1)
      | (refine ⟨trivial, ?_⟩; gi_at_call 154; refine (callsIn_wide.2 (C2 _ v1)).mono ?_; rintro e V2 ⟨rfl, v2⟩; replace v2 := v1.trans v2; obtain ⟨⟨a0, a1⟩, a2, ⟨a3, a4⟩, a5, a6, a7⟩ := cf V2 v2)
      | (refine ⟨trivial, ?_⟩; gi_at_call 155; refine (callsIn_wide.2 (C3 _ v2)).mono ?_; rintro e V3 ⟨rfl, v3⟩; replace v3 := v2.trans v3; obtain ⟨⟨a0, a1⟩, a2, ⟨a3, a4⟩, a5, a6, a7⟩ := cf V3 v3))
    have gs := gset (gbut v3 (some (w1.heap.size + 1))) 0 (.int .i32 (x.1 + 1))
    exact ⟨KeepsFrom.of_grownBy gs (fun j e => by cases e; omega), KeptX.grown gs hsz (.inl rfl), hnx, h1.kept gs (by simp; omega), h2.kept gs (by simp), ⟨x.1 + 1, (h3.kept v3 (by simp)).set _, hL2⟩, gnew h5 gs (fun r e => by cases e; left; have := hg1.size; omega), Nat.le_trans h6 gs.size⟩
  case stop =>
    rintro D c' pre Wd W15 hD _ h _ _
    exact h.elim
  case done =>
    rintro D xs Wd W15 hD hS ⟨h0, h1, h2, ⟨L, h3, h4⟩, h5, h6⟩ hg' hM
    have r1 := (hr0.kept h5 (by simp)).cell
    have r2 := (hr0.kept h5 (by simp)).frozen
    have gs := grownBy_setCell' W15 (w.heap.size + 1) (.bool true)
    have hM2 : (W15.setCell ⟨w.heap.size + 1, 0, none⟩ (.bool true)).heap[D]? = some (.deferred (some [])) := (gs.block D (Array.getElem?_eq_some_iff.1 hM).1 (by simp; omega)).trans hM
    have hb2' := (hr0.kept h5 (by simp)).set (.bool true)
    have gp := grownBy_putObj' (W15.setCell ⟨w.heap.size + 1, 0, none⟩ (.bool true)) D (.deferred none)
    have hb3' := (hb2'.kept gp (by simp; omega)).cell
    have hfin : w.grownBy ((W15.setCell ⟨w.heap.size + 1, 0, none⟩ (.bool true)).putObj D (.deferred none)) none :=
      gnew (gnew (hg0.trans h5) gs (fun r e => by cases e; left; omega)) gp (fun r e => by cases e; left; omega)
    clear gp gs hg' hTell hE hS0 hr0
    gi_wp2_with fail
    refine ⟨by simp, .inl ⟨_, _, rfl, run_takeDeferred hM2, ?_⟩⟩
    simp [LeavesInM, LeavesIn, results, Tryz.results124, go_sem, hb3']
    exact hfin
theorem decsMayBe_ok (vc vd : Value) (c : List Cls) (d : List Dec) (w : World) (hT : Dat w vc vd c d) (hok : clsOk 0 c = true) (hlen : c.length ≤ 4000) (hd : decsOk c d 0 d = true) :
    Calls Tryz.prog 124 #[datV vc vd] w fun e w' => e = .returned (.bool true) ∧ w.grownBy w' none := callsIn_wide.1 (decsMayBe_in vc vd c d w hT hok hlen hd)

theorem good_parts {c : List Cls} {d : List Dec} (h : good c d = true) : c.length ≤ 4000 ∧ d.length ≤ 8000 ∧ clsOk 0 c = true ∧ decsOk c d 0 d = true := by
  simp only [good, Bool.and_eq_true, decide_eq_true_eq] at h
  exact ⟨h.1.1.1, h.1.1.2, h.1.2, h.2⟩

set_option maxHeartbeats 1000000 in
theorem check_ok (vc vd : Value) (c : List Cls) (d : List Dec) (w : World) (hT : Dat w vc vd c d) (h : good c d = true) :
    Calls Tryz.prog 78 #[datV vc vd] w fun e w' => e = .returned (.int .i64 0) ∧ w.grownBy w' none := by
  obtain ⟨h1, h2, h3, h4⟩ := good_parts h
  obtain ⟨a, cp, rfl, hc, hm⟩ := hT.2.form
  obtain ⟨ac, cc, rfl, _, _⟩ := hT.1.form
  have g0 := World.grownBy_alloc w (.cells #[.slice ac c.length cc, .slice a d.length cp] 33) none
  have C1 := fun W (hg : w.grownBy W none) => classesMayBe_ok (.slice ac c.length cc) (.slice a d.length cp) c W (hT.1.all hg) h3
  have C2 := fun W (hg : w.grownBy W none) => decsMayBe_ok (.slice ac c.length cc) (.slice a d.length cp) c d W (hT.all hg) h3 h1 h4
  have cf : ∀ V, (w.alloc (.cells #[.slice ac c.length cc, .slice a d.length cp] 33)).grownBy V none → V.cell? ⟨w.heap.size, 0, none⟩ = some (.slice ac c.length cc) ∧ V.cell? ⟨w.heap.size, 1, none⟩ = some (.slice a d.length cp) := by
    intro V hg
    have k := (hg.block w.heap.size (by simp) (by simp)).trans (World.alloc_heap_new w _)
    exact ⟨by simp [World.cell?, k], by simp [World.cell?, k]⟩
  obtain ⟨a0, a1⟩ := cf _ (World.grownBy.refl _ none)
  clear h h3 h4 hT
  unfold datV at C1 C2 ⊢
  go_enter Tryz.func78, Tryz.ntmps78
  go_wp2_with (first
    | (go_at_call 123; refine (C1 _ g0).mono ?_; rintro e V1 ⟨rfl, v1⟩; obtain ⟨a0, a1⟩ := cf V1 v1; have gv1 := g0.trans v1)
    | (go_at_call 124; refine (C2 _ gv1).mono ?_; rintro e V2 ⟨rfl, v2⟩))
  go_ret
  exact ⟨rfl, gv1.trans v2⟩
end Go.Proofs.YtpdacbiiaglodaaGreat

/-
  LAYER 3 (crc): the table: what its block holds; New; isMade.
-/
namespace Go.Proofs.YtpdacbiiaglodaaGreat
set_option maxRecDepth 100000
open Go.RowKit Go.Lib

/-- A table's block: made; the Once's done and lock; how often; the numbers. -/
def Tab (w : World) (t : Nat) (m : Bool) (d s k : Int) (f : Nat → Nat) : Prop :=
  ∃ cs : Array Value, w.heap[t]? = some (.cells cs 205 (0, 0)) ∧ cs.size = 261 ∧ cs[0]? = some (.bool m) ∧ cs[1]? = some (.int .u32 d) ∧ cs[2]? = some (.int .i32 s) ∧ cs[4]? = some (.int .i64 k) ∧
    ∀ i, i < 256 → cs[5 + i]? = some (.int .u32 (f i : Int))

section
variable {w w' : World} {t : Nat} {m : Bool} {d s k : Int} {f : Nat → Nat}
theorem Tab.made (h : Tab w t m d s k f) : w.cell? ⟨t, 0, none⟩ = some (.bool m) := by obtain ⟨cs, h1, h2, h3, h4, h5, h6, h7⟩ := h; simp [World.cell?, h1, h3]
theorem Tab.done (h : Tab w t m d s k f) : w.cell? ⟨t, 1, none⟩ = some (.int .u32 d) := by obtain ⟨cs, h1, h2, h3, h4, h5, h6, h7⟩ := h; simp [World.cell?, h1, h4]
theorem Tab.state (h : Tab w t m d s k f) : w.cell? ⟨t, 2, none⟩ = some (.int .i32 s) := by obtain ⟨cs, h1, h2, h3, h4, h5, h6, h7⟩ := h; simp [World.cell?, h1, h5]
theorem Tab.times (h : Tab w t m d s k f) : w.cell? ⟨t, 4, none⟩ = some (.int .i64 k) := by obtain ⟨cs, h1, h2, h3, h4, h5, h6, h7⟩ := h; simp [World.cell?, h1, h6]
theorem Tab.num (h : Tab w t m d s k f) {i : Nat} (hi : i < 256) : w.cell? ⟨t, 5 + i, none⟩ = some (.int .u32 (f i : Int)) := by obtain ⟨cs, h1, h2, h3, h4, h5, h6, h7⟩ := h; simp [World.cell?, h1, h7 i hi]
theorem Tab.free (h : Tab w t m d s k f) (o : Nat) : w.frozen? ⟨t, o, none⟩ = false := by obtain ⟨cs, h1, _⟩ := h; simp [World.frozen?, h1]
theorem Tab.lt (h : Tab w t m d s k f) : t < w.heap.size := by obtain ⟨cs, h1, _⟩ := h; exact lt_of_block h1
theorem Tab.setDone (h : Tab w t m d s k f) (x : Int) : Tab (w.setCell ⟨t, 1, none⟩ (.int .u32 x)) t m x s k f := by
  obtain ⟨cs, h1, h2, h3, h4, h5, h6, h7⟩ := h
  refine ⟨_, heap_setCell_same w t 1 _ _ _ h1, by simpa using h2, by simpa [Array.getElem?_setIfInBounds] using h3, by simp [h2], by simpa [Array.getElem?_setIfInBounds] using h5, by simpa [Array.getElem?_setIfInBounds] using h6, fun i hi => ?_⟩
  rw [Array.getElem?_setIfInBounds, if_neg (by omega)]; exact h7 i hi
theorem Tab.setState (h : Tab w t m d s k f) (x : Int) : Tab (w.setCell ⟨t, 2, none⟩ (.int .i32 x)) t m d x k f := by
  obtain ⟨cs, h1, h2, h3, h4, h5, h6, h7⟩ := h
  refine ⟨_, heap_setCell_same w t 2 _ _ _ h1, by simpa using h2, by simpa [Array.getElem?_setIfInBounds] using h3, by simpa [Array.getElem?_setIfInBounds] using h4, by simp [h2], by simpa [Array.getElem?_setIfInBounds] using h6, fun i hi => ?_⟩
  rw [Array.getElem?_setIfInBounds, if_neg (by omega)]; exact h7 i hi
theorem Tab.setTimes (h : Tab w t m d s k f) (x : Int) : Tab (w.setCell ⟨t, 4, none⟩ (.int .i64 x)) t m d s x f := by
  obtain ⟨cs, h1, h2, h3, h4, h5, h6, h7⟩ := h
  refine ⟨_, heap_setCell_same w t 4 _ _ _ h1, by simpa using h2, by simpa [Array.getElem?_setIfInBounds] using h3, by simpa [Array.getElem?_setIfInBounds] using h4, by simpa [Array.getElem?_setIfInBounds] using h5, by simp [h2], fun i hi => ?_⟩
  rw [Array.getElem?_setIfInBounds, if_neg (by omega)]; exact h7 i hi
theorem Tab.setNum (h : Tab w t m d s k f) {j : Nat} (hj : j < 256) (x : Nat) : Tab (w.setCell ⟨t, 5 + j, none⟩ (.int .u32 (x : Int))) t m d s k (fun i => if i = j then x else f i) := by
  obtain ⟨cs, h1, h2, h3, h4, h5, h6, h7⟩ := h
  refine ⟨_, heap_setCell_same w t (5 + j) _ _ _ h1, by simpa using h2, ?_, ?_, ?_, ?_, fun i hi => ?_⟩
  · rw [Array.getElem?_setIfInBounds, if_neg (by omega)]; exact h3
  · rw [Array.getElem?_setIfInBounds, if_neg (by omega)]; exact h4
  · rw [Array.getElem?_setIfInBounds, if_neg (by omega)]; exact h5
  · rw [Array.getElem?_setIfInBounds, if_neg (by omega)]; exact h6
  · rw [Array.getElem?_setIfInBounds]
    by_cases e : i = j
    · subst e; simp [h2]; omega
    · rw [if_neg (by omega)]; simpa [e] using h7 i hi
theorem Tab.kept {row : Option Nat} (h : Tab w t m d s k f) (hg : w.grownBy w' row) (hne : row ≠ some t) : Tab w' t m d s k f := by
  obtain ⟨cs, h1, h2⟩ := h
  exact ⟨cs, (hg.block t (lt_of_block h1) (fun e => hne e.symm)).trans h1, h2⟩
theorem Tab.new (h : Tab w t m d s k f) (hg : w.grownBy w' none) : Tab w' t m d s k f := h.kept hg (by simp)
theorem Tab.below {B : Nat} (h : Tab w t m d s k f) (hb : Below B w w') (hB : t < B) : Tab w' t m d s k f := by
  obtain ⟨cs, h1, h2⟩ := h
  exact ⟨cs, (hb.block t hB).trans h1, h2⟩
theorem Tab.same (h : Tab w t m d s k f) {g : Nat → Nat} (e : ∀ i, i < 256 → g i = f i) : Tab w t m d s k g := by
  obtain ⟨cs, h1, h2, h3, h4, h5, h6, h7⟩ := h
  exact ⟨cs, h1, h2, h3, h4, h5, h6, fun i hi => by rw [e i hi]; exact h7 i hi⟩
end

theorem zeroTab : (List.range 256).map (fun i => Tryz.zeroCells205[5 + i]?) = List.replicate 256 (some (.int .u32 0)) := by kernel_rfl
theorem zeroTab_head : (Tryz.zeroCells205.size, Tryz.zeroCells205[0]?, Tryz.zeroCells205[1]?, Tryz.zeroCells205[2]?, Tryz.zeroCells205[4]?) = (261, some (.bool false), some (.int .u32 0), some (.int .i32 0), some (.int .i64 0)) := by kernel_rfl
theorem zero_num {i : Nat} (hi : i < 256) : Tryz.zeroCells205[5 + i]? = some (.int .u32 0) := by
  have h := congrArg (fun l => l[i]?) zeroTab
  simp only [List.getElem?_map, List.getElem?_range hi, Option.map_some, List.getElem?_replicate, if_pos hi, Option.some.injEq] at h
  exact h
theorem tab_made (w : World) : Tab (w.alloc (.cells (Tryz.zeroCells205.setIfInBounds 0 (.bool true)) 205)) w.heap.size true 0 0 0 (fun _ => 0) := by
  have h := zeroTab_head
  simp only [Prod.mk.injEq] at h
  obtain ⟨h0, h1, h2, h3, h4⟩ := h
  refine ⟨_, heap_alloc_new w _, by simp [h0], by simp [h0], by simpa [Array.getElem?_setIfInBounds] using h2, by simpa [Array.getElem?_setIfInBounds] using h3, by simpa [Array.getElem?_setIfInBounds] using h4, fun i hi => ?_⟩
  rw [Array.getElem?_setIfInBounds, if_neg (by omega)]; exact zero_num hi

set_option maxHeartbeats 1000000 in
theorem crcNew_any (w : World) : Calls Tryz.prog 114 #[] w fun e w' => ∃ t, e = .returned (.pointer (some ⟨t, 0, none⟩)) ∧ w.heap.size ≤ t ∧ Tab w' t true 0 0 0 (fun _ => 0) ∧ w.grownBy w' none := by
  go_enter Tryz.func114, Tryz.ntmps114
  go_wp2
  go_ret
  exact ⟨_, rfl, Nat.le_refl _, tab_made w, galloc (World.grownBy.refl _ _) _⟩

set_option maxHeartbeats 1000000 in
theorem crcIsMade (t : Nat) (m : Bool) (w : World) (hm : w.cell? ⟨t, 0, none⟩ = some (.bool m)) : Calls Tryz.prog 170 #[.pointer (some ⟨t, 0, none⟩)] w fun e w' => e = .returned (.bool m) ∧ w = w' := by
  cases m
  · go_enter Tryz.func170, Tryz.ntmps170
    go_wp2
    go_ret
    exact ⟨rfl, rfl⟩
  · go_enter Tryz.func170, Tryz.ntmps170
    go_wp2
    go_ret
    exact ⟨rfl, rfl⟩
theorem crcIsMade_nil (w : World) : Calls Tryz.prog 170 #[.pointer none] w fun e w' => e = .returned (.bool false) ∧ w = w' := by
  go_enter Tryz.func170, Tryz.ntmps170
  go_wp2
  go_ret
  exact ⟨rfl, rfl⟩
end Go.Proofs.YtpdacbiiaglodaaGreat
