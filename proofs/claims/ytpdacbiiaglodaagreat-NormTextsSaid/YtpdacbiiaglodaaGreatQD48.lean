/-
  LAYER 6 (norm): the reference's Text, Same, Compare.
-/
import Derived.Test.YtpdacbiiaglodaaGreatQD45
import Derived.Test.YtpdacbiiaglodaaGreatQD47
import Derived.Test.YtpdacbiiaglodaaGreatQD43
import Derived.Test.YtpdacbiiaglodaaGreatQD44
namespace Go.Proofs.YtpdacbiiaglodaaGreat
set_option maxRecDepth 100000
open Go.RowKit Go.Lib

theorem urunes_of {B : Nat} {w : World} {v : Value} {l : List Int} (h : OwnN w B v l) : U.Runes w v l := by
  have h2 : U.OwnsR w B v l := h
  exact h2.runes
theorem str_beq (x y : ByteArray) : (x.toList == y.toList) = decide (x = y) := by
  rw [Bool.eq_iff_iff, beq_iff_eq, decide_eq_true_eq, ByteArray.toList_eq, ByteArray.toList_eq]
  constructor
  · intro h
    cases x
    cases y
    simp only [Array.toList_inj] at h
    rw [h]
  · rintro rfl; rfl
/-- Data boxed anew: the world, and what it holds on to. -/
theorem boxed_data (w : World) (x y : Value) : ∃ W, W = w.alloc (.cells #[x, y] 59) ∧ w.grownBy W none ∧ ∀ V, W.grownBy V none → V.cell? ⟨w.heap.size, 0, none⟩ = some x ∧ V.cell? ⟨w.heap.size, 1, none⟩ = some y := by
  refine ⟨_, rfl, World.grownBy_alloc _ _ none, fun V hg => ?_⟩
  have := (hg.block w.heap.size (by rw [World.size_alloc]; omega) (by simp)).trans (World.alloc_heap_new w (.cells #[x, y] 59))
  exact ⟨by simp [World.cell?, this], by simp [World.cell?, this]⟩

set_option maxHeartbeats 4000000 in
theorem rText_any (vc vd : Value) (c : List Cls) (d : List Dec) (s : ByteArray) (w : World) (hT : Dat w vc vd c d) (hgd : good c d = true) (hd : DfOk (told' d)) (hs : s.size ≤ 1048576) :
    Calls Tryz.prog 22 #[.agg #[vc, vd], .string s] w fun e w' => e = .returned (.tuple #[.string ⟨(txV (clsOf c) (told' d) s.data.toList).toArray⟩, .int .i64 (txE s.data.toList)]) ∧ w.grownBy w' none := by
  have hsz : s.data.toList.length = s.size := by simp
  have hN := fun W (hg : w.grownBy W none) v hr hsc hl => rNFD_ok vc vd v c d (U.runes s.data.toList) W (hT.all hg) hr (Nat.le_trans (U.tot_runes_le _) (by omega)) hgd hsc hl
  obtain ⟨a1, c1, rfl, _, _⟩ := hT.1.form
  obtain ⟨a2, c2, rfl, _, _⟩ := hT.2.form
  clear hT
  generalize c.length = cl at *
  generalize d.length = dl at *
  obtain ⟨W, hW, hga, hB⟩ := boxed_data w (.slice a1 cl c1) (.slice a2 dl c2)
  replace hB := Lib.hid hB
  replace hW := Lib.hid hW
  replace hN := Lib.hid hN
  rcases txE_cases s.data.toList with ⟨ht, he⟩ | ⟨ht, hl, he⟩ | ⟨ht, hl, he⟩
  · rw [txV_no (by rw [he]; decide), he]
    have hD := U.refDecode_bad s W hs (by rw [← hsz]; exact ht)
    generalize U.tot s.data.toList = T at hD
    clear ht he
    go_enter Tryz.func22, Tryz.ntmps22
    go_wp2_with fail
    rw [← hW.out]
    go_at_call 60
    refine hD.mono ?_
    rintro e w1 ⟨⟨v, rfl, _, hv⟩, hg1⟩
    obtain rfl := hv (by decide)
    go_wp2_with fail
    go_ret2
    exact ⟨rfl, hga.trans hg1⟩
  · rw [txV_no (by rw [he]; decide), he]
    have hD := U.refDecode_ok s W hs (by rw [← hsz]; exact ht)
    have hl2 : 1000 < s.size := by omega
    clear ht he hl
    go_enter Tryz.func22, Tryz.ntmps22
    go_wp2_with fail
    rw [← hW.out]
    go_at_call 60
    refine hD.mono ?_
    rintro e w1 ⟨⟨v, rfl, hv, _⟩, hg1⟩
    obtain ⟨av, cv, rfl, _⟩ := (rs_of_row (hv trivial))
    clear hv
    generalize (U.runes s.data.toList).length = m
    go_wp2_with fail
    go_ret2
    exact ⟨rfl, hga.trans hg1⟩
  · rw [txV_ok he, he]
    have hD := U.refDecode_ok s W hs (by rw [← hsz]; exact ht)
    have hl2 : s.size ≤ 1000 := by omega
    have hos := nf_allSc (cf := clsOf c) hd s.data.toList
    have hrl := U.tot_runes_le s.data.toList
    have hnl := nf_len (cf := clsOf c) hd (U.runes s.data.toList)
    have hE := fun v w hv => U.refEncode_ok v (nf (clsOf c) (told' d) (U.runes s.data.toList)) w hv (by omega) hos
    have hsc := runes_scal s.data.toList
    have hlr : (U.runes s.data.toList).length ≤ 4096 := by omega
    generalize nf (clsOf c) (told' d) (U.runes s.data.toList) = out at *
    generalize U.runes s.data.toList = l at *
    generalize (⟨(U.enc out).toArray⟩ : ByteArray) = es at hE ⊢
    replace hsc := Lib.hid hsc
    clear ht he hl hrl hnl hos
    go_enter Tryz.func22, Tryz.ntmps22
    go_wp2_with fail
    rw [← hW.out]
    go_at_call 60
    refine hD.mono ?_
    rintro e w1 ⟨⟨v, rfl, hv, _⟩, hg1⟩
    have hr1 := rs_of_row (hv trivial)
    clear hv hD
    obtain ⟨k0, k1⟩ := hB.out w1 hg1
    have hN1 := hN.out w1 (hga.trans hg1) v hr1 hsc.out hlr
    obtain ⟨av, cv, rfl, _⟩ := hr1
    generalize l.length = m at *
    go_wp2_with fail
    go_at_call 37
    refine hN1.mono ?_
    rintro e w2 ⟨v2, rfl, ho2, hg2⟩
    have hE2 := hE v2 w2 (urunes_of ho2)
    obtain ⟨a9, c9, rfl⟩ := ho2.form
    generalize out.length = m2 at *
    clear hN1 hE ho2
    go_wp2_with (go_at_call 61; refine hE2.mono ?_; rintro e w3 ⟨rfl, hg3⟩)
    go_ret2
    exact ⟨rfl, ((hga.trans hg1).trans hg2).trans hg3⟩
set_option maxHeartbeats 4000000 in
theorem rCompare_any (vc vd : Value) (c : List Cls) (d : List Dec) (a b : ByteArray) (w : World) (hT : Dat w vc vd c d) (hgd : good c d = true) (hd : DfOk (told' d)) (ha : a.size ≤ 1048576) (hb : b.size ≤ 1048576) :
    Calls Tryz.prog 26 #[.agg #[vc, vd], .string a, .string b] w fun e w' => e = .returned (.tuple #[.int .i64 (cmV (clsOf c) (told' d) a.data.toList b.data.toList), .int .i64 (cmE a.data.toList b.data.toList)]) ∧ w.grownBy w' none := by
  have hA := fun W (hg : w.grownBy W none) => rText_any vc vd c d a W (hT.all hg) hgd hd ha
  have hB := fun W (hg : w.grownBy W none) => rText_any vc vd c d b W (hT.all hg) hgd hd hb
  obtain ⟨a1, c1, rfl, _, _⟩ := hT.1.form
  obtain ⟨a2, c2, rfl, _, _⟩ := hT.2.form
  clear hT
  generalize c.length = cl at *
  generalize d.length = dl at *
  obtain ⟨W, hW, hga, hX⟩ := boxed_data w (.slice a1 cl c1) (.slice a2 dl c2)
  replace hX := Lib.hid hX
  obtain ⟨k0, k1⟩ := hX.out W (World.grownBy.refl W none)
  have hA1 := hA W hga
  replace hB := Lib.hid hB
  clear hA
  replace hW := Lib.hid hW
  rcases cm_cases (clsOf c) (told' d) a.data.toList b.data.toList with ⟨h1, h2, h3⟩ | ⟨h1, h2, h3, h4⟩ | ⟨h1, h2, h3, h4⟩
  · skip
    rw [h2, h3]
    generalize (⟨(txV (clsOf c) (told' d) a.data.toList).toArray⟩ : ByteArray) = ta at hA1
    generalize txE a.data.toList = ea at hA1 h1 ⊢
    have h1b := ne_of h1
    clear h1 h2 h3 hB
    go_enter Tryz.func26, Tryz.ntmps26
    go_wp2_with fail
    rw [← hW.out]
    go_at_call 22
    refine hA1.mono ?_
    rintro e w1 ⟨rfl, hg1⟩
    go_wp2
    go_ret2
    exact ⟨by first | rfl | simp, hga.trans hg1⟩
  · skip
    rw [h3, h4]
    rw [h1] at hA1
    generalize (⟨(txV (clsOf c) (told' d) a.data.toList).toArray⟩ : ByteArray) = ta at hA1
    generalize (⟨(txV (clsOf c) (told' d) b.data.toList).toArray⟩ : ByteArray) = tb at hB
    generalize txE b.data.toList = eb at hB h2 ⊢
    have h2b := ne_of h2
    have h2c : (eb == 0) = false := by simpa using h2
    clear h1 h2 h3 h4
    go_enter Tryz.func26, Tryz.ntmps26
    go_wp2_with fail
    rw [← hW.out]
    go_at_call 22
    refine hA1.mono ?_
    rintro e w1 ⟨rfl, hg1⟩
    have hB1 := hB.out w1 (hga.trans hg1)
    obtain ⟨k2, k3⟩ := hX.out w1 hg1
    go_wp2_with (go_at_call 22; refine hB1.mono ?_; rintro e w2 ⟨rfl, hg2⟩)
    go_ret2
    exact ⟨by first | rfl | simp, (hga.trans hg1).trans hg2⟩
  · rw [h3, h4]
    rw [h1] at hA1
    rw [h2] at hB
    have v1 := txV_valid (cf := clsOf c) hd (l := a.data.toList)
    have v2 := txV_valid (cf := clsOf c) hd (l := b.data.toList)
    have l1 := txV_len (cf := clsOf c) hd a.data.toList
    have l2 := txV_len (cf := clsOf c) hd b.data.toList
    clear h3 h4 h1 h2
    generalize txV (clsOf c) (told' d) a.data.toList = ta at *
    generalize txV (clsOf c) (told' d) b.data.toList = tb at *
    have hC := fun w => U.refCompare_ok ⟨ta.toArray⟩ ⟨tb.toArray⟩ w (by simp [ByteArray.size]; omega) (by simp [ByteArray.size]; omega) (by simpa [ByteArray.size] using v1) (by simpa [ByteArray.size] using v2)
    have hq := U.cmp_runes _ ta tb (Nat.le_refl _) v1 v2
    simp only at hC
    rw [← hq] at hC
    generalize compareBytes ta tb = O at hC ⊢
    generalize (⟨ta.toArray⟩ : ByteArray) = sa at *
    generalize (⟨tb.toArray⟩ : ByteArray) = sb at *
    clear v1 v2 l1 l2 hq
    go_enter Tryz.func26, Tryz.ntmps26
    go_wp2_with fail
    rw [← hW.out]
    go_at_call 22
    refine hA1.mono ?_
    rintro e w1 ⟨rfl, hg1⟩
    have hB1 := hB.out w1 (hga.trans hg1)
    obtain ⟨k2, k3⟩ := hX.out w1 hg1
    go_wp2_with (first
      | (go_at_call 22; refine hB1.mono ?_; rintro e w2 ⟨rfl, hg2⟩)
      | (go_at_call 63; refine (hC _).mono ?_; rintro e w3 ⟨rfl, hg3⟩))
    go_ret2
    exact ⟨rfl, ((hga.trans hg1).trans hg2).trans hg3⟩

set_option maxHeartbeats 4000000 in
theorem rSame_any (vc vd : Value) (c : List Cls) (d : List Dec) (a b : ByteArray) (w : World) (hT : Dat w vc vd c d) (hgd : good c d = true) (hd : DfOk (told' d)) (ha : a.size ≤ 1048576) (hb : b.size ≤ 1048576) :
    Calls Tryz.prog 24 #[.agg #[vc, vd], .string a, .string b] w fun e w' => e = .returned (.tuple #[.bool (smV (clsOf c) (told' d) a.data.toList b.data.toList), .int .i64 (cmE a.data.toList b.data.toList)]) ∧ w.grownBy w' none := by
  have hA := fun W (hg : w.grownBy W none) => rText_any vc vd c d a W (hT.all hg) hgd hd ha
  have hB := fun W (hg : w.grownBy W none) => rText_any vc vd c d b W (hT.all hg) hgd hd hb
  obtain ⟨a1, c1, rfl, _, _⟩ := hT.1.form
  obtain ⟨a2, c2, rfl, _, _⟩ := hT.2.form
  clear hT
  generalize c.length = cl at *
  generalize d.length = dl at *
  obtain ⟨W, hW, hga, hX⟩ := boxed_data w (.slice a1 cl c1) (.slice a2 dl c2)
  replace hX := Lib.hid hX
  obtain ⟨k0, k1⟩ := hX.out W (World.grownBy.refl W none)
  have hA1 := hA W hga
  replace hB := Lib.hid hB
  clear hA
  replace hW := Lib.hid hW
  rcases cm_cases (clsOf c) (told' d) a.data.toList b.data.toList with ⟨h1, h2, h3⟩ | ⟨h1, h2, h3, h4⟩ | ⟨h1, h2, h3, h4⟩
  · have hsm : smV (clsOf c) (told' d) a.data.toList b.data.toList = false := by unfold smV; simp [h1]
    rw [h2, hsm]
    generalize (⟨(txV (clsOf c) (told' d) a.data.toList).toArray⟩ : ByteArray) = ta at hA1
    generalize txE a.data.toList = ea at hA1 h1 ⊢
    have h1b := ne_of h1
    clear h1 h2 h3 hB
    go_enter Tryz.func24, Tryz.ntmps24
    go_wp2_with fail
    rw [← hW.out]
    go_at_call 22
    refine hA1.mono ?_
    rintro e w1 ⟨rfl, hg1⟩
    go_wp2
    go_ret2
    exact ⟨by first | rfl | simp, hga.trans hg1⟩
  · have hsm : smV (clsOf c) (told' d) a.data.toList b.data.toList = false := by unfold smV; simp [h1, h2]
    rw [h3, hsm]
    rw [h1] at hA1
    generalize (⟨(txV (clsOf c) (told' d) a.data.toList).toArray⟩ : ByteArray) = ta at hA1
    generalize (⟨(txV (clsOf c) (told' d) b.data.toList).toArray⟩ : ByteArray) = tb at hB
    generalize txE b.data.toList = eb at hB h2 ⊢
    have h2b := ne_of h2
    have h2c : (eb == 0) = false := by simpa using h2
    clear h1 h2 h3 h4
    go_enter Tryz.func24, Tryz.ntmps24
    go_wp2_with fail
    rw [← hW.out]
    go_at_call 22
    refine hA1.mono ?_
    rintro e w1 ⟨rfl, hg1⟩
    have hB1 := hB.out w1 (hga.trans hg1)
    obtain ⟨k2, k3⟩ := hX.out w1 hg1
    go_wp2_with (go_at_call 22; refine hB1.mono ?_; rintro e w2 ⟨rfl, hg2⟩)
    go_ret2
    exact ⟨by first | rfl | simp, (hga.trans hg1).trans hg2⟩
  · have hsm : smV (clsOf c) (told' d) a.data.toList b.data.toList = decide ((⟨(txV (clsOf c) (told' d) a.data.toList).toArray⟩ : ByteArray) = ⟨(txV (clsOf c) (told' d) b.data.toList).toArray⟩) := by
      unfold smV
      rw [decide_eq_decide]
      constructor
      · rintro ⟨_, _, h⟩; rw [h]
      · intro h
        refine ⟨h1, h2, ?_⟩
        have h0 := congrArg (fun s : ByteArray => s.data.toList) h
        simpa using h0
    rw [h3, hsm]
    rw [h1] at hA1
    rw [h2] at hB
    clear h3 h4 h1 h2 hsm
    generalize (⟨(txV (clsOf c) (told' d) a.data.toList).toArray⟩ : ByteArray) = sa at *
    generalize (⟨(txV (clsOf c) (told' d) b.data.toList).toArray⟩ : ByteArray) = sb at *
    go_enter Tryz.func24, Tryz.ntmps24
    go_wp2_with fail
    rw [← hW.out]
    go_at_call 22
    refine hA1.mono ?_
    rintro e w1 ⟨rfl, hg1⟩
    have hB1 := hB.out w1 (hga.trans hg1)
    obtain ⟨k2, k3⟩ := hX.out w1 hg1
    go_wp2_with (go_at_call 22; refine hB1.mono ?_; rintro e w2 ⟨rfl, hg2⟩)
    go_ret2
    exact ⟨by simp [str_beq], (hga.trans hg1).trans hg2⟩
end Go.Proofs.YtpdacbiiaglodaaGreat

/-
  LAYER 6 (norm): the law NormTexts.
-/
namespace Go.Proofs.YtpdacbiiaglodaaGreat
set_option maxRecDepth 100000
open Go.RowKit Go.Lib

set_option maxHeartbeats 4000000 in
/-- The small data, loaded: their block lies behind those of the lists that they were built of. -/
theorem small_ap (w : World) :
    Calls Tryz.prog 20 #[] w fun e w' => ∃ n vc vd F, e = .returned (.tuple #[.pointer (some ⟨n, 0, none⟩), .agg #[vc, vd]]) ∧ w.heap.size ≤ n ∧ Dat w' vc vd smallC smallD ∧ ND (.pointer (some ⟨n, 0, none⟩)) cS dS F w' ∧ w.grownBy w' none ∧ (∀ q, vc.ownBlock = some q → q < n) ∧ (∀ q, vd.ownBlock = some q → q < n) := by
  have hR := fun w => refSmall_any w
  have hD := fun vc vd w hT => data_any vc vd smallC smallD w hT small_good (by decide) (by decide)
  have ne1 : smallC ≠ [] := by decide
  have ne2 : smallD ≠ [] := by decide
  rw [show clsOf smallC = cS from rfl, show told' smallD = dS from rfl] at hD
  generalize smallC = sc at hR hD ne1 ⊢
  generalize smallD = sd at hR hD ne2 ⊢
  go_enter Tryz.func20, Tryz.ntmps20
  go_wp2_with fail
  go_at_call 11
  refine (hR _).mono ?_
  rintro e w1 ⟨vc, vd, rfl, hT, hg1⟩
  clear hR
  obtain ⟨x1, y1, rfl, _, _⟩ := hT.1.form
  obtain ⟨x2, y2, rfl, _, _⟩ := hT.2.form
  generalize hl1 : sc.length = l1 at hT
  generalize hl2 : sd.length = l2 at hT
  replace hl1 := Lib.hid hl1
  replace hl2 := Lib.hid hl2
  have NE := Lib.hid (And.intro ne1 ne2)
  clear ne1 ne2
  go_wp2_with fail
  go_at_call 27
  refine (hD _ _ _ hT).mono ?_
  rintro e w2 ⟨n, rfl, hn, hN, hg2⟩
  clear hD
  have HN := Lib.hid hN
  clear hN
  go_wp2_with fail
  have hga := World.grownBy_alloc w2 (.cells #[.slice x1 l1 y1, .slice x2 l2 y2] 59) none
  obtain ⟨n0, n1, m0⟩ := pair_new w2 (.slice x1 l1 y1) (.slice x2 l2 y2) 59
  generalize w2.alloc (.cells #[.slice x1 l1 y1, .slice x2 l2 y2] 59) = W at n0 n1 m0 hga ⊢
  have kd := (((hg1.trans hg2).trans hga).block w.heap.size (by simp) (by simp)).trans (World.alloc_heap_new w _)
  have d0 : W.cell? ⟨w.heap.size, 0, none⟩ = some (.slice none 0 0) := by simp [World.cell?, kd]
  have d1 : W.cell? ⟨w.heap.size, 1, none⟩ = some (.slice none 0 0) := by simp [World.cell?, kd]
  have f0 : ∀ i, W.frozen? ⟨w.heap.size, i, none⟩ = false := by simp [World.frozen?, kd]
  go_region
  go_wp2_with fail
  have gs0 : W.grownBy (W.setCell ⟨w.heap.size, 0, none⟩ (.slice x1 l1 y1)) (some w.heap.size) := gset (World.grownBy.refl W _) 0 _
  have gs1 : W.grownBy ((W.setCell ⟨w.heap.size, 0, none⟩ (.slice x1 l1 y1)).setCell ⟨w.heap.size, 1, none⟩ (.slice x2 l2 y2)) (some w.heap.size) := gset gs0 1 _
  have gs := gdrew gs1
  have kd1 := (hg1.block w.heap.size (by simp) (by simp)).trans (World.alloc_heap_new w _)
  have hni := pair_noint kd1
  have e0 := heap_setCell_same W w.heap.size 0 _ _ (.slice x1 l1 y1) kd
  have e1 := heap_setCell_same _ w.heap.size 1 _ _ (.slice x2 l2 y2) e0
  have hs1 := hg1.size
  rw [World.size_alloc] at hs1
  have hw1 : w.grownBy w1 none := (World.grownBy_alloc w _ none).trans hg1
  have hg : w.grownBy W none := (hw1.trans hg2).trans hga
  have e2 : (((W.setCell ⟨w.heap.size, 0, none⟩ (.slice x1 l1 y1)).setCell ⟨w.heap.size, 1, none⟩ (.slice x2 l2 y2)).drew).heap[w.heap.size]? = _ := e1
  generalize ((W.setCell ⟨w.heap.size, 0, none⟩ (.slice x1 l1 y1)).setCell ⟨w.heap.size, 1, none⟩ (.slice x2 l2 y2)).drew = V at gs e2 ⊢
  obtain ⟨F, hF1, hF2⟩ := HN.out
  refine bodyPost_ret (v := .tuple #[.pointer (some ⟨n, 0, none⟩), .agg #[.slice x1 l1 y1, .slice x2 l2 y2]]) (by simp [results, Tryz.results20, go_sem, World.cell?, e2]) rfl ⟨n, _, _, F, rfl, by omega, ?_, ?_, gnew hg gs (fun r e => by cases e; left; omega), fun q e => Nat.lt_of_lt_of_le (hT.1.lt NE.out.1 q e) hn, fun q e => Nat.lt_of_lt_of_le (hT.2.lt NE.out.2 q e) hn⟩
  · have hg3 := hg2.trans hga
    have key : ∀ k, k < w1.heap.size → intAt w1 k → V.heap[k]? = w1.heap[k]? := fun k hk hi => (gs.block k (Nat.lt_of_lt_of_le hk hg3.size) (fun e => by cases e; exact hni hi)).trans (hg3.block k hk (by simp))
    exact ⟨hT.1.heap fun a k e => key k (hT.1.lt a k e) (tri_int hT.1 a k e), hT.2.heap fun a k e => key k (hT.2.lt a k e) (tri_int hT.2 a k e)⟩
  · exact (hF1.new hga).grown gs (fun k e => by cases e; exact fun hf => hni (hF2 _ (by omega) hf))

set_option maxHeartbeats 4000000 in
theorem texts_long (w : World) (a b : ByteArray) (ha : a.size ≤ 140737488351232) (hb : b.size ≤ 140737488351232) (h : 4000 < a.size + b.size) :
    Calls Tryz.prog 4 #[.string a, .string b] w fun e w' => e = .returned (.bool true) ∧ Below w.heap.size w w' := by
  have hA := fun w => mawake_any w
  have hz : decide ((4000 : Int) < (a.size : Int) + (b.size : Int)) = true := by simp; omega
  go_enter Tryz.func4, Tryz.ntmps4
  go_wp2_with (go_at_call 19; refine (hA _).mono ?_; rintro e w1 ⟨rfl, hg1⟩)
  go_ret
  exact ⟨rfl, belowg' hg1⟩

/-- Between the law's calls: the data live; nothing but their block has changed. -/
def TxM (n : Nat) (W V : World) : Prop := (∃ F, ND (.pointer (some ⟨n, 0, none⟩)) cS dS F V) ∧ GX (fun k => k = n) W V
theorem TxM.call {n : Nat} {W V V2 : World} {F : Nat → Prop} (h : TxM n W V) (k : TxPost (.pointer (some ⟨n, 0, none⟩)) cS dS F V V2) : TxM n W V2 := by
  obtain ⟨F2, k1, _, _, k4⟩ := k
  exact ⟨⟨F2, k1⟩, h.2.trans k4 (fun k e => .inl (by cases e; rfl))⟩
theorem TxM.new {n : Nat} {W V V2 : World} (h : TxM n W V) (k : V.grownBy V2 none) : TxM n W V2 := by
  obtain ⟨⟨F, h1⟩, h2⟩ := h
  exact ⟨⟨F, h1.new k⟩, h2.step k (by simp)⟩

set_option maxHeartbeats 8000000 in
theorem texts_short (w : World) (a b : ByteArray) (h : a.size + b.size ≤ 4000) :
    Calls Tryz.prog 4 #[.string a, .string b] w fun e w' => e = .returned (.bool true) ∧ Below w.heap.size w w' := by
  have hA := fun w => mawake_any w
  have hS := fun w => small_ap w
  have hT := fun p F W (hN : ND p cS dS F W) => text_any p cS dS F a W hN small_dS (by omega)
  have hM := fun p F W (hN : ND p cS dS F W) => msame_any p cS dS F a b W hN small_dS (by omega) (by omega)
  have hC := fun p F W (hN : ND p cS dS F W) => mcompare_any p cS dS F a b W hN small_dS (by omega) (by omega)
  have rT := fun vc vd W hT => rText_any vc vd smallC smallD a W hT small_good small_dS (by omega)
  have rM := fun vc vd W hT => rSame_any vc vd smallC smallD a b W hT small_good small_dS (by omega) (by omega)
  have rC := fun vc vd W hT => rCompare_any vc vd smallC smallD a b W hT small_good small_dS (by omega) (by omega)
  rw [show clsOf smallC = cS from rfl, show told' smallD = dS from rfl] at rT rM rC
  have hz : decide ((4000 : Int) < (a.size : Int) + (b.size : Int)) = false := by simp; omega
  have hsm := sm_cm cS dS a.data.toList b.data.toList
  have ne1 : smallC ≠ [] := by decide
  have ne2 : smallD ≠ [] := by decide
  generalize smallC = sc at *
  generalize smallD = sd at *
  generalize txE a.data.toList = E at *
  generalize cmE a.data.toList b.data.toList = e1 at *
  generalize smV cS dS a.data.toList b.data.toList = x at *
  generalize cmV cS dS a.data.toList b.data.toList = z at *
  generalize (⟨(txV cS dS a.data.toList).toArray⟩ : ByteArray) = s at *
  subst hsm
  replace rT := Lib.hid rT
  replace rM := Lib.hid rM
  replace rC := Lib.hid rC
  replace hT := Lib.hid hT
  replace hM := Lib.hid hM
  replace hC := Lib.hid hC
  go_enter Tryz.func4, Tryz.ntmps4
  go_wp2_with fail
  go_at_call 19
  refine (hA _).mono ?_
  rintro e w1 ⟨rfl, hg1⟩
  go_wp2_with fail
  go_at_call 20
  refine (hS _).mono ?_
  rintro e w2 ⟨n, vc, vd, F2, rfl, hn, hD, hN2, hg2, q1, q2⟩
  clear hA hS
  have hl1 := hD.1.lt ne1
  have hl2 := hD.2.lt ne2
  have hD0 := hD
  have hnl := nd_plt hN2 n rfl
  obtain ⟨x1, y1, rfl, _, _⟩ := hD.1.form
  obtain ⟨x2, y2, rfl, _, _⟩ := hD.2.form
  obtain ⟨W, hW, hgW, hX⟩ := boxed_data w2 (.slice x1 sc.length y1) (.slice x2 sd.length y2)
  have hDV : Hid (∀ V, GX (fun k => k = n) W V → Dat V (.slice x1 sc.length y1) (.slice x2 sd.length y2) sc sd) := Lib.hid fun V hg => by
    have hDW := hD0.all hgW
    have key : ∀ k, k < w2.heap.size → k < n → V.heap[k]? = W.heap[k]? := fun k hk hkn => hg.block k (Nat.lt_of_lt_of_le hk hgW.size) (by omega)
    exact ⟨hDW.1.heap fun a k e => key k (hl1 k e) (q1 k e), hDW.2.heap fun a k e => key k (hl2 k e) (q2 k e)⟩
  have hXV : Hid (∀ V, GX (fun k => k = n) W V → V.cell? ⟨w2.heap.size, 0, none⟩ = some (.slice x1 sc.length y1) ∧ V.cell? ⟨w2.heap.size, 1, none⟩ = some (.slice x2 sd.length y2)) := Lib.hid fun V hg => by
    have hb : V.heap[w2.heap.size]? = W.heap[w2.heap.size]? := hg.block _ (by rw [hW, World.size_alloc]; omega) (by omega)
    obtain ⟨k0, k1⟩ := hX W (World.grownBy.refl W none)
    exact ⟨by rw [World.cell?_of_block (a := ⟨w2.heap.size, 0, none⟩) hb]; exact k0, by rw [World.cell?_of_block (a := ⟨w2.heap.size, 1, none⟩) hb]; exact k1⟩
  have hm : TxM n W W := ⟨⟨F2, hN2.new hgW⟩, GX.refl _ _⟩
  have hfin : Hid (∀ V, TxM n W V → Below w.heap.size w V) := Lib.hid fun V hg => belowg' (((GX.of ((hg1.trans hg2).trans hgW) (by simp)).trans hg.2 (fun k e => .inl e) : GX (fun k => k = n) w V).one (fun k e => .inr (by have := hg1.size; omega)))
  replace hW := Lib.hid hW
  clear hX hN2 hD hD0 hl1 hl2 q1 q2 hgW hg1 hg2 hnl ne1 ne2
  generalize sc.length = l1 at *
  generalize sd.length = l2 at *
  go_wp2_with fail
  rw [← hW.out]
  generalize w2.heap.size = bx at *
  obtain ⟨F3, hN3⟩ := hm.1
  go_at_call 21
  refine (hT.out _ _ _ hN3).mono ?_
  rintro e w3 ⟨rfl, hP3⟩
  replace hm := hm.call hP3
  clear hT hN3 hP3 hW
  obtain ⟨k0, k1⟩ := hXV.out _ hm.2
  have rT1 := rT.out _ _ _ (hDV.out _ hm.2)
  go_wp2_with fail
  go_at_call 22
  refine rT1.mono ?_
  rintro e w4 ⟨rfl, hg4⟩
  replace hm := hm.new hg4
  clear rT rT1 hg4 k0 k1
  obtain ⟨F4, hN4⟩ := hm.1
  have hM1 := hM.out _ _ _ hN4
  go_wp2_with fail
  go_at_call 23
  refine hM1.mono ?_
  rintro e w5 ⟨rfl, hP5⟩
  replace hm := hm.call hP5
  clear hM hM1 hN4 hP5
  obtain ⟨k0, k1⟩ := hXV.out _ hm.2
  have rM1 := rM.out _ _ _ (hDV.out _ hm.2)
  go_wp2_with fail
  go_at_call 24
  refine rM1.mono ?_
  rintro e w6 ⟨rfl, hg6⟩
  replace hm := hm.new hg6
  clear rM rM1 hg6 k0 k1
  obtain ⟨F6, hN6⟩ := hm.1
  have hC1 := hC.out _ _ _ hN6
  go_wp2_with fail
  go_at_call 25
  refine hC1.mono ?_
  rintro e w7 ⟨rfl, hP7⟩
  replace hm := hm.call hP7
  clear hC hC1 hN6 hP7
  obtain ⟨k0, k1⟩ := hXV.out _ hm.2
  have rC1 := rC.out _ _ _ (hDV.out _ hm.2)
  go_wp2_with fail
  go_at_call 26
  refine rC1.mono ?_
  rintro e w8 ⟨rfl, hg8⟩
  replace hm := hm.new hg8
  clear rC rC1 hg8 k0 k1 hXV hDV
  have hb := hfin.out _ hm
  clear hfin hm
  by_cases he : e1 = 0
  · subst he
    go_wp2
    go_ret
    exact ⟨by simp, hb⟩
  · have h1 : (e1 != 0) = true := by simpa using he
    have h2 : (e1 == 0) = false := by simpa using he
    clear he
    go_wp2
    go_ret
    exact ⟨by first | rfl | simp, hb⟩

theorem NormTexts_walk (w : World) (a : ByteArray) (h1 : a.size ≤ 140737488351232) (b : ByteArray) (h2 : b.size ≤ 140737488351232) :
    Calls Tryz.prog 4 #[.string a, .string b] w fun e w' => e = .returned (.bool true) ∧ Below w.heap.size w w' := by
  by_cases hl : a.size + b.size ≤ 4000
  · exact texts_short w a b hl
  · exact texts_long w a b h1 h2 (by omega)
end Go.Proofs.YtpdacbiiaglodaaGreat
