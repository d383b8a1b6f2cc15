/-
  LAYER 6 (norm): the law NormNone.
-/
import Derived.Test.YtpdacbiiaglodaaGreatQG38
import Derived.Test.YtpdacbiiaglodaaGreatQG23
import Derived.Test.YtpdacbiiaglodaaGreatQG34
import Derived.Test.YtpdacbiiaglodaaGreatQG33
import Derived.Test.YtpdacbiiaglodaaGreatQG35
import Derived.Test.YtpdacbiiaglodaaGreatQG31
import Derived.Test.YtpdacbiiaglodaaGreatQG32
import Derived.Laws.OwnMore
namespace Go.Proofs.YtpdacbiiaglodaaGreat
set_option maxRecDepth 100000
open Go.RowKit Go.Lib

set_option maxHeartbeats 1000000 in
theorem scal4 (r : Int) (w : World) : Calls Tryz.prog 33 #[.int .i32 r] w fun e w' => e = .returned (.bool (scal r)) ∧ w = w' := by
  by_cases h1 : 0 ≤ r
  all_goals by_cases h2 : r < 55296
  all_goals by_cases h3 : 57343 < r
  all_goals by_cases h4 : r ≤ 1114111
  all_goals (try omega)
  all_goals
    go_enter Tryz.func33, Tryz.ntmps33
    go_wp2
  all_goals
    go_ret
    simp [scal, *]

/-- NFD without data: the list itself. -/
theorem nfd_none (r : Int) (w : World) (h : scal r = true) :
    Calls Tryz.prog 38 #[.pointer none, .slice (some ⟨w.heap.size, 0, none⟩) 1 1] (w.alloc (.cells #[.int .i32 r] 21)) fun e w' => ∃ a, e = .returned (.tuple #[.slice a 1 1, .int .i64 0]) ∧ RS w' (.slice a 1 1) [r] ∧ w.grownBy w' none := by
  have hga := World.grownBy_alloc w (.cells #[.int .i32 r] 21) none
  have e1 : ord (fun _ => 0) [r] = [r] := rfl
  have hN : ND (.pointer none) (fun _ => 0) (fun r => [r]) (fun _ => False) (w.alloc (.cells #[.int .i32 r] 21)) := .inl ⟨rfl, rfl, rfl, fun k h => h.elim⟩
  refine (nfd_any _ _ _ _ _ [r] _ hN (rs_lit r w) (by simp [allSc, h]) (by simp) (by simp) (by simp)).mono ?_
  rintro e w' ⟨a, n, rfl, hn, ho, F', _, _, _, hx⟩
  obtain rfl : n = 1 := hn
  refine ⟨a, rfl, ?_, ((GX.of hga (by simp)).trans hx (fun k e => by cases e) : GX (fun _ => False) w w').one (fun k e => e.elim)⟩
  have := ho.reads
  simpa [e1] using this

set_option maxHeartbeats 8000000 in
theorem NormNone_walk (w : World) (r : Int) (_h : (Lit.int .i32 r).wf = true) : Calls Tryz.prog 8 #[.int .i32 r] w fun e w' => e = .returned (.bool true) ∧ Below w.heap.size w w' := by
  have hA := fun w => mawake_any w
  have hU := fun w => sMade_nil w
  have hSc := fun w => scal4 r w
  have hNF := fun w h => nfd_none r w h
  go_enter Tryz.func8, Tryz.ntmps8
  go_wp2_with fail
  go_at_call 19
  refine (hA _).mono ?_
  rintro e w1 ⟨rfl, hg1⟩
  clear hA
  go_wp2_with fail
  obtain ⟨W, hW⟩ : ∃ W, W = (w1.alloc (.cells #[.bool false, .pointer none, .slice none 0 0] 97)).alloc (.cells #[.pointer none, .pointer (some ⟨w1.heap.size, 0, none⟩)] 86) := ⟨_, rfl⟩
  have hgW : w1.grownBy W none := by rw [hW]; exact (World.grownBy_alloc w1 _ none).trans (World.grownBy_alloc _ _ none)
  have hk1 : W.heap[w1.heap.size + 1]? = some (.cells #[.pointer none, .pointer (some ⟨w1.heap.size, 0, none⟩)] 86 (0, 0)) := by
    have := World.alloc_heap_new (w1.alloc (.cells #[.bool false, .pointer none, .slice none 0 0] 97)) (.cells #[.pointer none, .pointer (some ⟨w1.heap.size, 0, none⟩)] 86)
    rw [World.size_alloc] at this
    rw [hW]; exact this
  have hk0 : W.heap[w1.heap.size]? = some (.cells #[.bool false, .pointer none, .slice none 0 0] 97 (0, 0)) := by
    rw [hW]
    exact ((World.grownBy_alloc _ _ none).block _ (by rw [World.size_alloc]; omega) (by simp)).trans (World.alloc_heap_new w1 _)
  rw [← hW]
  have hc0 : W.cell? ⟨w1.heap.size + 1, 0, none⟩ = some (.pointer none) := by simp [World.cell?, hk1]
  have hc1 : W.cell? ⟨w1.heap.size + 1, 1, none⟩ = some (.pointer (some ⟨w1.heap.size, 0, none⟩)) := by simp [World.cell?, hk1]
  have hm0 := sMade w1.heap.size false W (by simp [World.cell?, hk0])
  have hm1 := hU W
  clear hW hk1 hk0 hU
  generalize w1.heap.size = s1 at hc0 hc1 hm0 ⊢
  have hscr : scal r = true ∨ scal r = false := by cases scal r <;> simp
  go_loop [17] (fun vi => ∃ i : Nat, vi = .int .i64 (i : Int) ∧ i ≤ 2) (fun vi => 2 - (RowKit.intOf vi).toNat)
  case atStart => exact ⟨0, rfl, by omega⟩
  case round =>
    obtain ⟨i, rfl, hi⟩ := hrel
    by_cases h1 : i < 2
    · have hP : ∃ q, W.cell? ⟨s1 + 1, i, none⟩ = some (.pointer q) ∧ Calls Tryz.prog 67 #[.pointer q] W fun e w' => e = .returned (.bool false) ∧ W = w' := by
        match i, h1 with
        | 0, _ => exact ⟨_, hc0, hm1⟩
        | 1, _ => exact ⟨_, hc1, hm0⟩
      obtain ⟨q, hcq, hmq⟩ := hP
      have p1 := push_unmade (.pointer q) r W hmq
      have p2 := end_unmade (.pointer q) W hmq
      have p3 := held_unmade (.pointer q) W hmq
      clear hmq hm0 hm1 hc0 hc1 hNF hSc
      go_wp2_with (first
        | (go_at_call 32; refine p1.mono ?_; rintro e w' ⟨rfl, rfl⟩)
        | (go_at_call 36; refine p2.mono ?_; rintro e w' ⟨rfl, rfl⟩)
        | (go_at_call 34; refine p3.mono ?_; rintro e w' ⟨rfl, rfl⟩))
      go_round
      case rel => exact ⟨i + 1, by go_num, by omega⟩
      case measure => simp [RowKit.intOf]; omega
    · clear hm0 hm1 hc0 hc1
      have hS := hSc W
      clear hSc
      rcases hscr with hs | hs
      · rw [hs] at hS
        have hN := hNF W hs
        clear hNF hs
        go_wp2_with (first
          | (go_at_call 33; refine hS.mono ?_; rintro e w' ⟨rfl, rfl⟩)
          | (go_at_call 38; refine hN.mono ?_; rintro e w2 ⟨a2, rfl, hR2, hg2⟩; replace hR2 := Lib.hid hR2; have hrl := rs_lit r w2; have hsm := runes_same _ _ [r] _ (hR2.out.new (World.grownBy_alloc w2 (.cells #[.int .i32 r] 21) none)) hrl (by simp); clear hrl)
          | (go_at_call 30; refine hsm.mono ?_; rintro e w3 ⟨rfl, m, rfl⟩))
        go_ret
        exact ⟨rfl, belowg' (gdrewN (((hg1.trans hgW).trans hg2).trans (World.grownBy_alloc w2 _ none)) m)⟩
      · rw [hs] at hS
        clear hNF hs
        go_wp2_with (go_at_call 33; refine hS.mono ?_; rintro e w' ⟨rfl, rfl⟩)
        go_ret
        exact ⟨rfl, belowg' (hg1.trans hgW)⟩
end Go.Proofs.YtpdacbiiaglodaaGreat

/-
  LAYER 6 (norm): the reference's NFD.
-/
namespace Go.Proofs.YtpdacbiiaglodaaGreat
set_option maxRecDepth 100000
open Go.RowKit Go.Lib

/-- A number that is no scalar stands somewhere. -/
theorem allSc_false {l : List Int} (h : allSc l = false) : ∃ (i : Nat) (u : Int), l[i]? = some u ∧ scal u = false ∧ ∀ j v, j < i → l[j]? = some v → scal v = true := by
  induction l with
  | nil => cases h
  | cons x t ih =>
    cases hx : scal x with
    | false => exact ⟨0, x, rfl, hx, fun j v hj => absurd hj (Nat.not_lt_zero _)⟩
    | true =>
      have ht : allSc t = false := by
        rw [allSc, List.all_cons, hx, Bool.true_and] at h
        exact h
      obtain ⟨i, u, h1, h2, h3⟩ := ih ht
      refine ⟨i + 1, u, by simpa using h1, h2, fun j v hj hv => ?_⟩
      cases j with
      | zero => simp at hv; subst hv; exact hx
      | succ j => exact h3 j v (by omega) (by simpa using hv)

set_option maxHeartbeats 8000000 in
theorem rNFD_bad (vc vd v : Value) (c : List Cls) (d : List Dec) (l : List Int) (w : World) (hT : Dat w vc vd c d) (hR : RS w v l) (hl : l.length ≤ 1048576) (hsc : allSc l = false) :
    Calls Tryz.prog 37 #[.agg #[vc, vd], v] w fun e w' => e = .returned (.tuple #[.slice none 0 0, .int .i64 41]) ∧ w.grownBy w' none := by
  obtain ⟨q, u, hq1, hq2, hq3⟩ := allSc_false hsc
  have hql := (List.getElem?_eq_some_iff.1 hq1).1
  obtain ⟨a1, c1, rfl, _, _⟩ := hT.1.form
  obtain ⟨a2, c2, rfl, _, _⟩ := hT.2.form
  obtain ⟨a0, c0, rfl, _⟩ := id hR
  have hSc := fun w r => scal4 r w
  have hga := World.grownBy_alloc w (.cells #[.slice a1 c.length c1, .slice a2 d.length c2] 59) none
  have hL := Lib.hid (hR.new hga)
  obtain ⟨n, hn⟩ : ∃ n, n = l.length := ⟨_, rfl⟩
  rw [← hn] at hl hql ⊢
  have HN := Lib.hid hn
  rw [← hn] at hL
  replace hq1 := Lib.hid hq1
  replace hq3 := Lib.hid hq3
  clear hT hR hsc hn
  generalize c.length = cl at *
  generalize d.length = dl at *
  obtain ⟨W, hW⟩ : ∃ W, W = w.alloc (.cells #[.slice a1 cl c1, .slice a2 dl c2] 59) := ⟨_, rfl⟩
  rw [← hW] at hga hL
  replace hW := Lib.hid hW
  go_enter Tryz.func37, Tryz.ntmps37
  go_wp2_with fail
  rw [← hW.out]
  go_loop [6] (fun v6 => ∃ i : Nat, v6 = .int .i64 (i : Int) ∧ i ≤ q) (fun v6 => q - (RowKit.intOf v6).toNat)
  case atStart => exact ⟨0, rfl, Nat.zero_le _⟩
  case round =>
    obtain ⟨i, rfl, hi⟩ := hrel
    have hlt : i < n := by omega
    obtain ⟨x, hx⟩ : ∃ x, l[i]? = some x := ⟨_, List.getElem?_eq_getElem (by have := HN.out; omega)⟩
    obtain ⟨b0, o0, rfl, hcx⟩ := RS.cell hL.out hx
    have hS := hSc W x
    by_cases hiq : i < q
    · rw [hq3.out i x hiq hx] at hS
      clear hx hSc
      go_wp2_with (go_at_call 33; refine hS.mono ?_; rintro e w' ⟨rfl, rfl⟩)
      go_round
      case rel => exact ⟨i + 1, by go_num, by omega⟩
      case measure => simp [RowKit.intOf]; omega
    · obtain rfl : i = q := by omega
      have e := hx.symm.trans hq1.out
      cases e
      rw [hq2] at hS
      clear hx hSc
      go_wp2_with (go_at_call 33; refine hS.mono ?_; rintro e w' ⟨rfl, rfl⟩)
      go_ret2
      exact ⟨rfl, hga⟩

set_option maxHeartbeats 8000000 in
theorem rNFD_long (vc vd v : Value) (c : List Cls) (d : List Dec) (l : List Int) (w : World) (hT : Dat w vc vd c d) (hR : RS w v l) (hl : l.length ≤ 1048576) (hgd : good c d = true) (hsc : ∀ r ∈ l, scal r = true) (hll : 4096 < l.length) :
    Calls Tryz.prog 37 #[.agg #[vc, vd], v] w fun e w' => e = .returned (.tuple #[.slice none 0 0, .int .i64 2]) ∧ w.grownBy w' none := by
  have hD := fun W (hg : w.grownBy W none) r => rDec_any vc vd c d r W (hT.all hg) hgd
  have hO := fun W (hg : w.grownBy W none) v o hr ho => rOrder_any vc vd v c d o W (hT.all hg) hr ho
  have hdl7 := told_length d
  obtain ⟨a1, c1, rfl, _, _⟩ := hT.1.form
  obtain ⟨a2, c2, rfl, _, _⟩ := hT.2.form
  obtain ⟨a0, c0, rfl, _⟩ := id hR
  have hSc := fun w r => scal4 r w
  generalize c.length = cl at *
  generalize d.length = dl at *
  generalize clsOf c = f at *
  generalize told' d = df at *
  have hfm := fun i x (hx : l[i]? = some x) => (by rw [List.take_add_one, hx]; simp : (l.take (i + 1)).flatMap df = (l.take i).flatMap df ++ df x)
  have hfl := fun i => flatMap_len hdl7 (l.take i)
  obtain ⟨W, hW⟩ : ∃ W, W = w.alloc (.cells #[.slice a1 cl c1, .slice a2 dl c2] 59) := ⟨_, rfl⟩
  have hga : w.grownBy W none := by rw [hW]; exact World.grownBy_alloc _ _ none
  have hk1 : W.heap[w.heap.size]? = some (.cells #[.slice a1 cl c1, .slice a2 dl c2] 59 (0, 0)) := by rw [hW]; exact World.alloc_heap_new _ _
  have hs1 : w.heap.size < W.heap.size := by rw [hW, World.size_alloc]; omega
  have hB : Hid (∀ V, W.grownBy V none → V.cell? ⟨w.heap.size, 0, none⟩ = some (.slice a1 cl c1) ∧ V.cell? ⟨w.heap.size, 1, none⟩ = some (.slice a2 dl c2)) := Lib.hid fun V hg => by
    have := (hg.block w.heap.size hs1 (by simp)).trans hk1
    exact ⟨by simp [World.cell?, this], by simp [World.cell?, this]⟩
  have hDl := Lib.hid fun V (hg : W.grownBy V none) r => hD V (hga.trans hg) r
  have hOl := Lib.hid fun V (hg : W.grownBy V none) v o hr ho => hO V (hga.trans hg) v o hr ho
  have hL := Lib.hid fun V (hg : W.grownBy V none) => hR.new (hga.trans hg)
  obtain ⟨n, hn⟩ : ∃ n, n = l.length := ⟨_, rfl⟩
  rw [← hn] at hl hll hL ⊢
  have HN := Lib.hid hn
  replace hsc := Lib.hid hsc
  replace hfm := Lib.hid hfm
  replace hfl := Lib.hid hfl
  replace hga := Lib.hid hga
  replace hW := Lib.hid hW
  clear hT hR hn hD hO hk1 hdl7
  go_enter Tryz.func37, Tryz.ntmps37
  go_wp2_with fail
  rw [← hW.out]
  generalize hbx : w.heap.size = bx at hB hs1
  have HBX := Lib.hid hbx
  clear hbx
  go_loop [6] (fun v6 => ∃ i : Nat, v6 = .int .i64 (i : Int) ∧ i ≤ n) (fun v6 => n - (RowKit.intOf v6).toNat)
  case atStart => exact ⟨0, rfl, Nat.zero_le _⟩
  case round =>
    obtain ⟨i, rfl, hi⟩ := hrel
    by_cases hlt : i < n
    · obtain ⟨x, hx⟩ : ∃ x, l[i]? = some x := ⟨_, List.getElem?_eq_getElem (by have := HN.out; omega)⟩
      obtain ⟨b0, o0, rfl, hcx⟩ := RS.cell (hL.out W (World.grownBy.refl W none)) hx
      have hS := hSc W x
      rw [hsc.out x (List.mem_of_getElem? hx)] at hS
      clear hx hSc
      go_wp2_with (go_at_call 33; refine hS.mono ?_; rintro e w' ⟨rfl, rfl⟩)
      go_round
      case rel => exact ⟨i + 1, by go_num, by omega⟩
      case measure => simp [RowKit.intOf]; omega
    · obtain rfl : n = i := by omega
      clear hSc
      go_wp2_with fail
      go_ret2
      exact ⟨rfl, hga.out⟩
set_option maxHeartbeats 8000000 in
theorem rNFD_ok (vc vd v : Value) (c : List Cls) (d : List Dec) (l : List Int) (w : World) (hT : Dat w vc vd c d) (hR : RS w v l) (_hl : l.length ≤ 1048576) (hgd : good c d = true) (hsc : ∀ r ∈ l, scal r = true) (hll : l.length ≤ 4096) :
    Calls Tryz.prog 37 #[.agg #[vc, vd], v] w fun e w' => ∃ v', e = .returned (.tuple #[v', .int .i64 0]) ∧ OwnN w' w.heap.size v' (nf (clsOf c) (told' d) l) ∧ w.grownBy w' none := by
  have hD := fun W (hg : w.grownBy W none) r => rDec_any vc vd c d r W (hT.all hg) hgd
  have hO := fun W (hg : w.grownBy W none) v o hr ho => rOrder_any vc vd v c d o W (hT.all hg) hr ho
  have hdl7 := told_length d
  have hnf : nf (clsOf c) (told' d) l = ord (clsOf c) ((l.take l.length).flatMap (told' d)) := by rw [List.take_length]; rfl
  obtain ⟨a1, c1, rfl, _, _⟩ := hT.1.form
  obtain ⟨a2, c2, rfl, _, _⟩ := hT.2.form
  obtain ⟨a0, c0, rfl, _⟩ := id hR
  rw [hnf]
  have hSc := fun w r => scal4 r w
  generalize c.length = cl at *
  generalize d.length = dl at *
  generalize clsOf c = f at *
  generalize told' d = df at *
  have hfm := fun i x (hx : l[i]? = some x) => (by rw [List.take_add_one, hx]; simp : (l.take (i + 1)).flatMap df = (l.take i).flatMap df ++ df x)
  have hfl := fun i => flatMap_len hdl7 (l.take i)
  obtain ⟨W, hW⟩ : ∃ W, W = w.alloc (.cells #[.slice a1 cl c1, .slice a2 dl c2] 59) := ⟨_, rfl⟩
  have hga : w.grownBy W none := by rw [hW]; exact World.grownBy_alloc _ _ none
  have hk1 : W.heap[w.heap.size]? = some (.cells #[.slice a1 cl c1, .slice a2 dl c2] 59 (0, 0)) := by rw [hW]; exact World.alloc_heap_new _ _
  have hs1 : w.heap.size < W.heap.size := by rw [hW, World.size_alloc]; omega
  have hB : Hid (∀ V, W.grownBy V none → V.cell? ⟨w.heap.size, 0, none⟩ = some (.slice a1 cl c1) ∧ V.cell? ⟨w.heap.size, 1, none⟩ = some (.slice a2 dl c2)) := Lib.hid fun V hg => by
    have := (hg.block w.heap.size hs1 (by simp)).trans hk1
    exact ⟨by simp [World.cell?, this], by simp [World.cell?, this]⟩
  have hDl := Lib.hid fun V (hg : W.grownBy V none) r => hD V (hga.trans hg) r
  have hOl := Lib.hid fun V (hg : W.grownBy V none) v o hr ho => hO V (hga.trans hg) v o hr ho
  have hL := Lib.hid fun V (hg : W.grownBy V none) => hR.new (hga.trans hg)
  obtain ⟨n, hn⟩ : ∃ n, n = l.length := ⟨_, rfl⟩
  rw [← hn] at hll hL ⊢
  have HN := Lib.hid hn
  replace hsc := Lib.hid hsc
  replace hfm := Lib.hid hfm
  replace hfl := Lib.hid hfl
  replace hga := Lib.hid hga
  replace hW := Lib.hid hW
  clear hT hR hn hD hO hk1 hnf hdl7
  go_enter Tryz.func37, Tryz.ntmps37
  go_wp2_with fail
  rw [← hW.out]
  generalize hbx : w.heap.size = bx at hB hs1
  have HBX := Lib.hid hbx
  clear hbx
  go_loop [6] (fun v6 => ∃ i : Nat, v6 = .int .i64 (i : Int) ∧ i ≤ n) (fun v6 => n - (RowKit.intOf v6).toNat)
  case atStart => exact ⟨0, rfl, Nat.zero_le _⟩
  case round =>
    obtain ⟨i, rfl, hi⟩ := hrel
    by_cases hlt : i < n
    · obtain ⟨x, hx⟩ : ∃ x, l[i]? = some x := ⟨_, List.getElem?_eq_getElem (by have := HN.out; omega)⟩
      obtain ⟨b0, o0, rfl, hcx⟩ := RS.cell (hL.out W (World.grownBy.refl W none)) hx
      have hS := hSc W x
      rw [hsc.out x (List.mem_of_getElem? hx)] at hS
      clear hx hSc
      go_wp2_with (go_at_call 33; refine hS.mono ?_; rintro e w' ⟨rfl, rfl⟩)
      go_round
      case rel => exact ⟨i + 1, by go_num, by omega⟩
      case measure => simp [RowKit.intOf]; omega
    · obtain rfl : n = i := by omega
      clear hSc
      have hnb : decide ((4096 : Int) < (n : Int)) = false := by simp; omega
      go_wp2_with fail
      go_loopw [7, 8] (fun v7 v8 wr => ∃ i : Nat, v8 = .int .i64 (i : Int) ∧ i ≤ n ∧ Aside (OwnN wr W.heap.size v7 ((l.take i).flatMap df) ∧ W.grownBy wr none)) (fun _ v8 _ => n - (RowKit.intOf v8).toNat)
      case atStart => exact ⟨0, rfl, Nat.zero_le _, by show _ ∧ _; rw [List.take_zero]; exact ⟨OwnN.none _ _, World.grownBy.refl _ _⟩⟩
      case round =>
        obtain ⟨i, rfl, hi, hM⟩ := hrel
        have hM0 := hM.out
        have hlb := Nat.le_trans (hfl.out i) (Nat.mul_le_mul_left 7 (by rw [List.length_take]; exact Nat.min_le_left i l.length))
        by_cases hlt : i < n
        · obtain ⟨x, hx⟩ : ∃ x, l[i]? = some x := ⟨_, List.getElem?_eq_getElem (by have := HN.out; omega)⟩
          have hfi := Lib.hid (hfm.out i x hx)
          have hl1 := hfl.out (i + 1)
          rw [hfi.out, List.length_append, List.length_take] at hl1
          have gd := gdrew (World.grownBy.refl wr none)
          have gW := hM0.2.trans gd
          obtain ⟨k0, k1⟩ := hB.out _ gW
          have hDx := hDl.out _ gW x
          obtain ⟨b0, o0, rfl, hcx⟩ := RS.cell (hL.out _ gW) hx
          generalize (l.take i).flatMap df = A at *
          obtain ⟨a7, c7, rfl⟩ := hM0.1.form
          have hX := Lib.hid hx
          clear hx hM0
          go_wp2_with fail
          refine wp_region_held_drew (S := fun V => W.grownBy V none ∧ V.cell? ⟨bx, 0, none⟩ = some (.slice a1 cl c1) ∧ V.cell? ⟨bx, 1, none⟩ = some (.slice a2 dl c2) ∧ V.cell? ⟨b0, o0 + i, none⟩ = some (.int .i32 x)) (by kernel_rfl) ⟨gW, k0, k1, hcx⟩ (fun hS0 => ?_)
          refine wpAnyH_take (i := 0) (oi := ⟨some 30, _, _, _, _, _⟩) (v := ?_) rfl (by kernel_rfl) (by kernel_rfl) (by kernel_rfl) (fun _ _ _ h => h) (Or.inl ⟨by rfl, ?_⟩) (by assumption) ?_
          rotate_left
          · (intro w hSw; (try dsimp only at hSw); go_simp; try with_reducible rfl)
          try simp only [Act.put, List.setIfInBounds_toArray, List.set_cons_zero, List.set_cons_succ]
          refine wpAnyH_take (i := 1) (oi := ⟨some 31, _, _, _, _, _⟩) (v := ?_) rfl (by kernel_rfl) (by kernel_rfl) (by kernel_rfl) (fun _ _ _ h => h) (Or.inl ⟨by rfl, ?_⟩) (by assumption) ?_
          rotate_left
          · (intro w hSw; (try dsimp only at hSw); go_simp; try with_reducible rfl)
          try simp only [Act.put, List.setIfInBounds_toArray, List.set_cons_zero, List.set_cons_succ]
          refine wpAnyH_take (i := 2) (oi := ⟨some 32, _, _, _, _, _⟩) (v := ?_) rfl (by kernel_rfl) (by kernel_rfl) (by kernel_rfl) (fun _ _ _ h => h) (Or.inl ⟨by rfl, ?_⟩) (by assumption) ?_
          rotate_left
          · (intro w hSw; (try dsimp only at hSw); go_simp; try with_reducible rfl)
          try simp only [Act.put, List.setIfInBounds_toArray, List.set_cons_zero, List.set_cons_succ]
          refine wpAnyH_take (i := 3) (oi := ⟨some 33, _, _, _, _, _⟩) (v := ?_) rfl (by kernel_rfl) (by kernel_rfl) (by kernel_rfl) (fun _ _ _ h => h) (Or.inl ⟨by rfl, ?_⟩) (by assumption) ?_
          rotate_left
          · (intro w hSw; (try dsimp only at hSw); go_simp; try with_reducible rfl)
          try simp only [Act.put, List.setIfInBounds_toArray, List.set_cons_zero, List.set_cons_succ]
          refine wpAnyH_take (i := 4) (oi := ⟨some 34, _, _, _, _, _⟩) (v := ?_) rfl (by kernel_rfl) (by kernel_rfl) (by kernel_rfl) (fun _ _ _ h => h) (Or.inl ⟨by rfl, ?_⟩) (by assumption) ?_
          rotate_left
          · (intro w hSw; (try dsimp only at hSw); go_simp; try with_reducible rfl)
          try simp only [Act.put, List.setIfInBounds_toArray, List.set_cons_zero, List.set_cons_succ]
          refine wpAnyH_take (i := 5) (oi := ⟨some 35, _, _, _, _, _⟩) (v := ?_) rfl (by kernel_rfl) (by kernel_rfl) (by kernel_rfl) (fun _ _ _ h => h) (Or.inl ⟨by rfl, ?_⟩) (by assumption) ?_
          rotate_left
          · (intro w hSw; (try dsimp only at hSw); go_simp; try with_reducible rfl)
          try simp only [Act.put, List.setIfInBounds_toArray, List.set_cons_zero, List.set_cons_succ]
          refine wpAnyH_ready (rs := [6]) (by kernel_rfl) (by simp) ?_
          refine AllReadyH.cons rfl (fun K hK => ?_) AllReadyH.nil
          go_simp
          refine hDx.mono ?_
          rintro e w2 ⟨v2, rfl, ho2, hg2⟩
          have hS2 := And.intro (gW.trans hg2) (And.intro (hg2.cell k0 (by simp)) (And.intro (hg2.cell k1 (by simp)) (hg2.cell hcx (by simp))))
          have hx2 : OwnN w2 wr.drew.heap.size v2 (df x) := ho2
          have hr2 := hx2.ro.reads
          obtain ⟨a9, c9, rfl⟩ := hx2.form
          have ho7 := hM.out.1.kept (gd.trans hg2) (by simp)
          have hz2 : W.heap.size ≤ w2.heap.size := hS2.1.size
          clear ho2 hx2
          go_wp2_with fail
          refine hK.out _ _ hS2 (fun hS3 => ?_)
          clear hK
          refine wpAnyH_ready (rs := [7]) (by kernel_rfl) (by simp) ?_
          refine AllReadyH.cons rfl (fun K hK => ?_) AllReadyH.nil
          rw [if_pos (by rfl)]
          refine wp_app_rs w2 (.tmp 30) (.tmp 36) 50 rfl W.heap.size Tryz.underlying50 (.slice a7 A.length c7) A rfl ho7 _ (df x) rfl hr2 (by omega) hz2 ?_
          intro v3 w3 ho3 hg3 _
          have hW3 : W.grownBy w3 none := gnew hS2.1 hg3 (fun r e => .inl (ho7.lt r e).1)
          obtain ⟨k2, k3⟩ := hB.out _ hW3
          have hcx3 : w3.cell? ⟨b0, o0 + i, none⟩ = some (.int .i32 x) := by
            obtain ⟨b', o', e, h⟩ := RS.cell (hL.out _ hW3) hX.out
            cases e
            exact h
          obtain ⟨a3, c3, rfl⟩ := ho3.form
          have hn3 : (A ++ df x).length = A.length + (df x).length := List.length_append
          rw [hn3] at ho3 ⊢
          refine hK.out _ _ ⟨hW3, k2, k3, hcx3⟩ (fun hS4 => ?_)
          clear hK
          refine wpAnyH_ready (rs := [8]) (by kernel_rfl) (by simp) ?_
          refine AllReadyH.cons rfl (fun K hK => ?_) AllReadyH.nil
          go_simp
          refine hK.out _ _ hS4 (fun hS5 => ?_)
          clear hK
          refine wpAnyH_done (by kernel_rfl) ?_ _
          have Q : Aside (OwnN w3 W.heap.size (.slice a3 (A.length + (df x).length) c3) ((l.take (i + 1)).flatMap df) ∧ W.grownBy w3 none) := by
            show _ ∧ _
            rw [hfi.out]
            exact ⟨ho3, hW3⟩
          generalize A.length + (df x).length = n3 at Q ⊢
          clear hS0 hS2 hS3 hS4 hS5 k0 k1 k2 k3 hcx hcx3 ho3 hg3 ho7 hr2 hg2 gd gW hDx hM hW3 hz2 hn3 hlb hl1
          go_wp2_with fail
          go_roundw
          case rel => exact ⟨i + 1, by go_num, by omega, Q⟩
          case measure => simp [RowKit.intOf]; omega
        · obtain rfl : n = i := by omega
          rw [HN.out] at hM0
          have hlt7 := hfl.out l.length
          rw [List.take_length] at hlt7
          have ht : l.take l.length = l := List.take_length
          rw [ht] at hM0
          obtain ⟨k0, k1⟩ := hB.out _ hM0.2
          have hr7 := hM0.1.ro.reads
          obtain ⟨a7, c7, rfl⟩ := hM0.1.form
          have hOx := hOl.out _ hM0.2 _ _ hr7 (by have := HN.out; omega)
          have hg7 := hM0.2
          have hga7 := hga.out
          generalize (l.flatMap df).length = n7 at *
          have hsz := hg7.size
          clear hM hM0 hlb hr7
          go_wp2_with (go_at_call 71; refine hOx.mono ?_; rintro e w2 ⟨v2, rfl, ho2, hg2⟩)
          obtain ⟨a9, c9, rfl⟩ := ho2.form
          have Q : OwnN w2 w.heap.size _ _ := ownLow ho2 (Nat.le_trans hga7.size hsz)
          go_ret2
          have ht2 : l.take n = l := by rw [HN.out]; exact ht
          exact ⟨_, rfl, by rw [ht2]; exact Q, (hga7.trans hg7).trans hg2⟩
end Go.Proofs.YtpdacbiiaglodaaGreat

/-
  LAYER 6 (norm): the reference's data, boxed.
-/
namespace Go.Proofs.YtpdacbiiaglodaaGreat
set_option maxRecDepth 100000
open Go.RowKit Go.Lib

theorem nd_plt {p : Value} {cf : Int → Int} {df : Int → List Int} {F : Nat → Prop} {w : World} (hN : ND p cf df F w) : ∀ k, p = .pointer (some ⟨k, 0, none⟩) → k < w.heap.size := fun k e => hN.lt k (nd_pblk hN k e)
/-- Data boxed anew: the world, and what it holds on to. -/
theorem boxed_data (w : World) (x y : Value) : ∃ W, W = w.alloc (.cells #[x, y] 59) ∧ w.grownBy W none ∧ ∀ V, W.grownBy V none → V.cell? ⟨w.heap.size, 0, none⟩ = some x ∧ V.cell? ⟨w.heap.size, 1, none⟩ = some y := by
  refine ⟨_, rfl, World.grownBy_alloc _ _ none, fun V hg => ?_⟩
  have := (hg.block w.heap.size (by rw [World.size_alloc]; omega) (by simp)).trans (World.alloc_heap_new w (.cells #[x, y] 59))
  exact ⟨by simp [World.cell?, this], by simp [World.cell?, this]⟩
end Go.Proofs.YtpdacbiiaglodaaGreat

/-
  LAYER 6 (norm): the reference's Parts.
-/
namespace Go.Proofs.YtpdacbiiaglodaaGreat
set_option maxRecDepth 100000
open Go.RowKit Go.Lib

theorem infoSl : (Tryz.prog.info? 50).map (fun i => (i.zero, i.size, i.bytes)) = some (some (.slice none 0 0), 1, 24) := by kernel_rfl
theorem infoSl_parts : ∃ i0 : TypeInfo, Tryz.prog.info? 50 = some i0 ∧ i0.zero = some (.slice none 0 0) ∧ i0.size = 1 ∧ i0.bytes = 24 := by
  have h := infoSl
  cases hi : Tryz.prog.info? 50 with
  | none => rw [hi] at h; cases h
  | some i0 =>
    rw [hi] at h
    simp only [Option.map_some, Option.some.injEq, Prod.mk.injEq] at h
    exact ⟨i0, rfl, h.1, h.2.1, h.2.2⟩

/-- Pieces in a row of one's own, each in a row of its own, all apart. -/
def PR (B : Nat) (w : World) (v : Value) (ps : List (List Int)) : Prop :=
  ∃ vs : List Value, vs.length = ps.length ∧ w.ownsRow B 50 1 v vs.length vs ∧ (∀ (i : Nat) (u : Value) (s : List Int), vs[i]? = some u → ps[i]? = some s → OwnN w B u s) ∧
    (∀ (i : Nat) (u : Value) (q : Nat), vs[i]? = some u → v.ownBlock = some q → u.ownBlock ≠ some q) ∧ (∀ (i j : Nat) (u u' : Value) (q : Nat), i ≠ j → vs[i]? = some u → vs[j]? = some u' → u.ownBlock = some q → u'.ownBlock ≠ some q)
theorem PR.nil (B : Nat) (w : World) : PR B w (.slice none 0 0) [] := ⟨[], rfl, World.ownsRow_nil w B _ 1, by simp, by simp, by simp⟩
theorem PR.new {B : Nat} {w w' : World} {v : Value} {ps : List (List Int)} (h : PR B w v ps) (g : w.grownBy w' none) : PR B w' v ps := by
  obtain ⟨vs, h1, h2, h3, h4, h5⟩ := h
  exact ⟨vs, h1, h2.kept g (by cases v.ownBlock <;> simp), fun i u s hu hs => (h3 i u s hu hs).kept g (by simp), h4, h5⟩
theorem PR.form {B : Nat} {w : World} {v : Value} {ps : List (List Int)} (h : PR B w v ps) : ∃ a c, v = .slice a ps.length c := by
  obtain ⟨vs, h1, h2, _⟩ := h
  obtain ⟨_, ⟨rfl, h⟩ | ⟨g, cap, cur, rfl, _⟩⟩ := h2
  · exact ⟨none, 0, by rw [← h1, h]⟩
  · exact ⟨_, cap, by rw [← h1]⟩
theorem PR.size {B : Nat} {w : World} {v : Value} {ps : List (List Int)} (h : PR B w v ps) : ∀ q, v.ownBlock = some q → B ≤ q := by
  obtain ⟨vs, h1, h2, _⟩ := h
  exact fun q e => (h2.lt q e).1
/-- A piece more, empty. -/
theorem pr_more {B : Nat} {w w2 : World} {v v' : Value} {ps : List (List Int)} {vs : List Value} (h1 : vs.length = ps.length) (h3 : ∀ (i : Nat) (u : Value) (s : List Int), vs[i]? = some u → ps[i]? = some s → OwnN w B u s)
    (h4 : ∀ (i : Nat) (u : Value) (q : Nat), vs[i]? = some u → v.ownBlock = some q → u.ownBlock ≠ some q) (h5 : ∀ (i j : Nat) (u u' : Value) (q : Nat), i ≠ j → vs[i]? = some u → vs[j]? = some u' → u.ownBlock = some q → u'.ownBlock ≠ some q)
    (g2 : w.grownBy w2 v.ownBlock) (ho : w2.ownsRow B 50 1 v' (vs.length + 1) (vs ++ [.slice none 0 0])) (hb : v'.ownBlock = v.ownBlock ∨ v'.ownBlock = some w.heap.size) : PR B w2 v' (ps ++ [[]]) := by
  refine ⟨vs ++ [.slice none 0 0], by simp [h1], by rw [List.length_append]; exact ho, fun i u s hu hs => ?_, fun i u q hu e => ?_, fun i j u u' q hij hu hu' e => ?_⟩
  · by_cases hi : i < vs.length
    · rw [List.getElem?_append_left hi] at hu
      rw [List.getElem?_append_left (by omega)] at hs
      exact (h3 i u s hu hs).kept g2 (fun k e e' => h4 i u k hu e' e)
    · rw [List.getElem?_append_right (by omega)] at hu hs
      rw [h1] at hu
      cases hk : i - ps.length with
      | zero =>
        rw [hk] at hu hs
        simp at hu hs
        subst hu; subst hs
        exact OwnN.none _ _
      | succ k => rw [hk] at hu; simp at hu
  · by_cases hi : i < vs.length
    · rw [List.getElem?_append_left hi] at hu
      rcases hb with hb | hb
      · exact h4 i u q hu (by rw [← hb]; exact e)
      · rw [hb] at e
        cases e
        intro e'
        obtain ⟨s, hs⟩ : ∃ s, ps[i]? = some s := ⟨_, List.getElem?_eq_getElem (by omega)⟩
        have := ((h3 i u s hu hs).lt _ e').2
        omega
    · rw [List.getElem?_append_right (by omega)] at hu
      cases hk : i - vs.length with
      | zero => rw [hk] at hu; simp at hu; subst hu; intro e'; cases e'
      | succ k => rw [hk] at hu; simp at hu
  · by_cases hj : j < vs.length
    · by_cases hi : i < vs.length
      · rw [List.getElem?_append_left hi] at hu
        rw [List.getElem?_append_left hj] at hu'
        exact h5 i j u u' q hij hu hu' e
      · rw [List.getElem?_append_right (by omega)] at hu
        cases hk : i - vs.length with
        | zero => rw [hk] at hu; simp at hu; subst hu; cases e
        | succ k => rw [hk] at hu; simp at hu
    · rw [List.getElem?_append_right (by omega)] at hu'
      cases hk : j - vs.length with
      | zero => rw [hk] at hu'; simp at hu'; subst hu'; intro e'; cases e'
      | succ k => rw [hk] at hu'; simp at hu'
/-- The last piece, and what becomes of it. -/
theorem PR.last {B : Nat} {w : World} {v : Value} {Q : List (List Int)} {s : List Int} (h : PR B w v (Q ++ [s])) :
    ∃ g c u, v = .slice (some ⟨g, 0, none⟩) (Q.length + 1) c ∧ B ≤ g ∧ g < w.heap.size ∧ w.cell? ⟨g, Q.length, none⟩ = some u ∧ OwnN w B u s ∧ u.ownBlock ≠ some g ∧ (∀ w' : World, w.grownBy w' none → w'.cell? ⟨g, Q.length, none⟩ = some u) ∧
      ∀ (w1 w2 : World) (u' : Value) (s' : List Int), w.grownBy w1 none → w1.grownBy w2 u.ownBlock → OwnN w2 B u' s' → (u'.ownBlock = u.ownBlock ∨ ∃ k, u'.ownBlock = some k ∧ w1.heap.size ≤ k) →
        w2.frozen? ⟨g, Q.length, none⟩ = false ∧ w2.cell? ⟨g, Q.length, none⟩ = some u ∧ PR B (w2.setCell ⟨g, Q.length, none⟩ u') v (Q ++ [s']) ∧ w2.grownBy (w2.setCell ⟨g, Q.length, none⟩ u') (some g) := by
  obtain ⟨vs, h1, h2, h3, h4, h5⟩ := h
  rw [List.length_append] at h1
  have h1' : vs.length = Q.length + 1 := h1
  obtain ⟨u, hu⟩ : ∃ u, vs[Q.length]? = some u := ⟨_, List.getElem?_eq_getElem (by omega)⟩
  have hu3 := h3 _ u s hu (by simp)
  have hform : ∃ g c, v = .slice (some ⟨g, 0, none⟩) vs.length c := by
    obtain ⟨_, ⟨_, h⟩ | ⟨g, cap, cur, rfl, _⟩⟩ := id h2
    · omega
    · exact ⟨g, cap, rfl⟩
  obtain ⟨g, c, rfl⟩ := hform
  have hgl := h2.lt g rfl
  have hug : u.ownBlock ≠ some g := h4 _ u g hu rfl
  have hcell : ∀ w' : World, w'.ownsRow B 50 1 (.slice (some ⟨g, 0, none⟩) vs.length c) vs.length vs → w'.cell? ⟨g, Q.length, none⟩ = some u := fun w' hw => by rw [hw.cellAt Q.length (by omega)]; exact hu
  refine ⟨g, c, u, by rw [h1'], hgl.1, hgl.2, hcell w h2, hu3, hug, fun w' hg => hcell w' (h2.kept hg (by simp [Value.ownBlock])), fun w1 w2 u' s' g1 g2 o2 b2 => ?_⟩
  have hr1 := h2.kept g1 (.inr (by simp [Value.ownBlock]))
  have hr2 := hr1.kept g2 (.inr (by simp only [Value.ownBlock]; exact fun e => hug e.symm))
  obtain ⟨q1, q2⟩ := hr2.stored Q.length u'
  have hu'g : u'.ownBlock ≠ some g := by
    rcases b2 with b | ⟨k, b, hk⟩
    · rw [b]; exact hug
    · rw [b]; intro e; cases e; have := g1.size; omega
  refine ⟨hr2.frozenAt _, hcell w2 hr2, ⟨vs.set Q.length u', by simp [h1'], by rw [List.length_set]; exact q1, fun i z r hz hr => ?_, fun i z q hz e => ?_, fun i j z z' q hij hz hz' e => ?_⟩, q2⟩
  · by_cases hi : i = Q.length
    · subst hi
      rw [List.getElem?_set_self (by omega)] at hz
      cases hz
      simp at hr
      subst hr
      exact o2.kept q2 (fun k e e' => by cases e'; exact hu'g e)
    · rw [List.getElem?_set_ne (fun e => hi e.symm)] at hz
      have hil : i < Q.length := by have := (List.getElem?_eq_some_iff.1 hz).1; omega
      rw [List.getElem?_append_left hil] at hr
      have hz3 := h3 i z r hz (by rw [List.getElem?_append_left hil]; exact hr)
      exact ((hz3.kept g1 (by simp)).kept g2 (fun k e e' => h5 i Q.length z u k (by omega) hz hu e e')).kept q2 (fun k e e' => by cases e'; exact h4 i z g hz rfl e)
  · by_cases hi : i = Q.length
    · subst hi
      rw [List.getElem?_set_self (by omega)] at hz
      cases hz
      rw [← e]
      simp only [Value.ownBlock] at e ⊢
      exact hu'g
    · rw [List.getElem?_set_ne (fun e => hi e.symm)] at hz
      exact h4 i z q hz e
  · by_cases hi : i = Q.length
    · subst hi
      rw [List.getElem?_set_self (by omega)] at hz
      cases hz
      rw [List.getElem?_set_ne (fun e => hij e)] at hz'
      rcases b2 with b | ⟨k, b, hk⟩
      · rw [b] at e
        exact h5 Q.length j u z' q hij hu hz' e
      · rw [b] at e
        cases e
        intro e'
        have hjl : j < (Q ++ [s]).length := by have := (List.getElem?_eq_some_iff.1 hz').1; simp; omega
        have := ((h3 j z' _ hz' (List.getElem?_eq_getElem hjl)).lt _ e').2
        have := g1.size
        omega
    · rw [List.getElem?_set_ne (fun e => hi e.symm)] at hz
      by_cases hj : j = Q.length
      · subst hj
        rw [List.getElem?_set_self (by omega)] at hz'
        cases hz'
        intro e'
        rcases b2 with b | ⟨k, b, hk⟩
        · rw [b] at e'
          exact h5 i Q.length z u q hij hz hu e e'
        · rw [b] at e'
          cases e'
          have hil : i < (Q ++ [s]).length := by have := (List.getElem?_eq_some_iff.1 hz).1; simp; omega
          have := ((h3 i z _ hz (List.getElem?_eq_getElem hil)).lt _ e).2
          have := g1.size
          omega
      · rw [List.getElem?_set_ne (fun e => hj e.symm)] at hz'
        exact h5 i j z z' q hij hz hz' e
end Go.Proofs.YtpdacbiiaglodaaGreat
