/-
  LAYER 6 (norm): the reference's Text, Same, Compare.
-/
import Derived.Test.YtpdacbiiaglodaaGreatQE45
import Derived.Test.YtpdacbiiaglodaaGreatQE47
import Derived.Test.YtpdacbiiaglodaaGreatQE43
import Derived.Test.YtpdacbiiaglodaaGreatQE44
namespace Go.Proofs.YtpdacbiiaglodaaGreat
set_option maxRecDepth 100000
open Go.RowKit Go.Lib

theorem urunes_of {B : Nat} {w : World} {v : Value} {l : List Int} (h : OwnN w B v l) : U.Runes w v l := by
  have h2 : U.OwnsR w B v l := h
  exact h2.runes
theorem str_beq (x y : ByteArray) : (x.toList == y.toList) = decide (x = y) := by
  rw [Bool.eq_iff_iff, beq_iff_eq, decide_eq_true_eq, ByteArray.toList_eq, ByteArray.toList_eq]
  constructor
  · intro h
    cases x
    cases y
    simp only [Array.toList_inj] at h
    rw [h]
  · rintro rfl; rfl
/-- Data boxed anew: the world, and what it holds on to. -/
theorem boxed_data (w : World) (x y : Value) : ∃ W, W = w.alloc (.cells #[x, y] 59) ∧ w.grownBy W none ∧ ∀ V, W.grownBy V none → V.cell? ⟨w.heap.size, 0, none⟩ = some x ∧ V.cell? ⟨w.heap.size, 1, none⟩ = some y := by
  refine ⟨_, rfl, World.grownBy_alloc _ _ none, fun V hg => ?_⟩
  have := (hg.block w.heap.size (by rw [World.size_alloc]; omega) (by simp)).trans (World.alloc_heap_new w (.cells #[x, y] 59))
  exact ⟨by simp [World.cell?, this], by simp [World.cell?, this]⟩

set_option maxHeartbeats 4000000 in
theorem rText_any (vc vd : Value) (c : List Cls) (d : List Dec) (s : ByteArray) (w : World) (hT : Dat w vc vd c d) (hgd : good c d = true) (hd : DfOk (told' d)) (hs : s.size ≤ 1048576) :
    Calls Tryz.prog 22 #[.agg #[vc, vd], .string s] w fun e w' => e = .returned (.tuple #[.string ⟨(txV (clsOf c) (told' d) s.data.toList).toArray⟩, .int .i64 (txE s.data.toList)]) ∧ w.grownBy w' none := by
  have hsz : s.data.toList.length = s.size := by simp
  have hN := fun W (hg : w.grownBy W none) v hr hsc hl => rNFD_ok vc vd v c d (U.runes s.data.toList) W (hT.all hg) hr (Nat.le_trans (U.tot_runes_le _) (by omega)) hgd hsc hl
  obtain ⟨a1, c1, rfl, _, _⟩ := hT.1.form
  obtain ⟨a2, c2, rfl, _, _⟩ := hT.2.form
  clear hT
  generalize c.length = cl at *
  generalize d.length = dl at *
  obtain ⟨W, hW, hga, hB⟩ := boxed_data w (.slice a1 cl c1) (.slice a2 dl c2)
  replace hB := Lib.hid hB
  replace hW := Lib.hid hW
  replace hN := Lib.hid hN
  rcases txE_cases s.data.toList with ⟨ht, he⟩ | ⟨ht, hl, he⟩ | ⟨ht, hl, he⟩
  · rw [txV_no (by rw [he]; decide), he]
    have hD := U.refDecode_bad s W hs (by rw [← hsz]; exact ht)
    generalize U.tot s.data.toList = T at hD
    clear ht he
    go_enter Tryz.func22, Tryz.ntmps22
    go_wp2_with fail
    rw [← hW.out]
    go_at_call 60
    refine hD.mono ?_
    rintro e w1 ⟨⟨v, rfl, _, hv⟩, hg1⟩
    obtain rfl := hv (by decide)
    go_wp2_with fail
    go_ret2
    exact ⟨rfl, hga.trans hg1⟩
  · rw [txV_no (by rw [he]; decide), he]
    have hD := U.refDecode_ok s W hs (by rw [← hsz]; exact ht)
    have hl2 : 1000 < s.size := by omega
    clear ht he hl
    go_enter Tryz.func22, Tryz.ntmps22
    go_wp2_with fail
    rw [← hW.out]
    go_at_call 60
    refine hD.mono ?_
    rintro e w1 ⟨⟨v, rfl, hv, _⟩, hg1⟩
    obtain ⟨av, cv, rfl, _⟩ := (rs_of_row (hv trivial))
    clear hv
    generalize (U.runes s.data.toList).length = m
    go_wp2_with fail
    go_ret2
    exact ⟨rfl, hga.trans hg1⟩
  · rw [txV_ok he, he]
    have hD := U.refDecode_ok s W hs (by rw [← hsz]; exact ht)
    have hl2 : s.size ≤ 1000 := by omega
    have hos := nf_allSc (cf := clsOf c) hd s.data.toList
    have hrl := U.tot_runes_le s.data.toList
    have hnl := nf_len (cf := clsOf c) hd (U.runes s.data.toList)
    have hE := fun v w hv => U.refEncode_ok v (nf (clsOf c) (told' d) (U.runes s.data.toList)) w hv (by omega) hos
    have hsc := runes_scal s.data.toList
    have hlr : (U.runes s.data.toList).length ≤ 4096 := by omega
    generalize nf (clsOf c) (told' d) (U.runes s.data.toList) = out at *
    generalize U.runes s.data.toList = l at *
    generalize (⟨(U.enc out).toArray⟩ : ByteArray) = es at hE ⊢
    replace hsc := Lib.hid hsc
    clear ht he hl hrl hnl hos
    go_enter Tryz.func22, Tryz.ntmps22
    go_wp2_with fail
    rw [← hW.out]
    go_at_call 60
    refine hD.mono ?_
    rintro e w1 ⟨⟨v, rfl, hv, _⟩, hg1⟩
    have hr1 := rs_of_row (hv trivial)
    clear hv hD
    obtain ⟨k0, k1⟩ := hB.out w1 hg1
    have hN1 := hN.out w1 (hga.trans hg1) v hr1 hsc.out hlr
    obtain ⟨av, cv, rfl, _⟩ := hr1
    generalize l.length = m at *
    go_wp2_with fail
    go_at_call 37
    refine hN1.mono ?_
    rintro e w2 ⟨v2, rfl, ho2, hg2⟩
    have hE2 := hE v2 w2 (urunes_of ho2)
    obtain ⟨a9, c9, rfl⟩ := ho2.form
    generalize out.length = m2 at *
    clear hN1 hE ho2
    go_wp2_with (go_at_call 61; refine hE2.mono ?_; rintro e w3 ⟨rfl, hg3⟩)
    go_ret2
    exact ⟨rfl, ((hga.trans hg1).trans hg2).trans hg3⟩
set_option maxHeartbeats 4000000 in
theorem rCompare_any (vc vd : Value) (c : List Cls) (d : List Dec) (a b : ByteArray) (w : World) (hT : Dat w vc vd c d) (hgd : good c d = true) (hd : DfOk (told' d)) (ha : a.size ≤ 1048576) (hb : b.size ≤ 1048576) :
    Calls Tryz.prog 26 #[.agg #[vc, vd], .string a, .string b] w fun e w' => e = .returned (.tuple #[.int .i64 (cmV (clsOf c) (told' d) a.data.toList b.data.toList), .int .i64 (cmE a.data.toList b.data.toList)]) ∧ w.grownBy w' none := by
  have hA := fun W (hg : w.grownBy W none) => rText_any vc vd c d a W (hT.all hg) hgd hd ha
  have hB := fun W (hg : w.grownBy W none) => rText_any vc vd c d b W (hT.all hg) hgd hd hb
  obtain ⟨a1, c1, rfl, _, _⟩ := hT.1.form
  obtain ⟨a2, c2, rfl, _, _⟩ := hT.2.form
  clear hT
  generalize c.length = cl at *
  generalize d.length = dl at *
  obtain ⟨W, hW, hga, hX⟩ := boxed_data w (.slice a1 cl c1) (.slice a2 dl c2)
  replace hX := Lib.hid hX
  obtain ⟨k0, k1⟩ := hX.out W (World.grownBy.refl W none)
  have hA1 := hA W hga
  replace hB := Lib.hid hB
  clear hA
  replace hW := Lib.hid hW
  rcases cm_cases (clsOf c) (told' d) a.data.toList b.data.toList with ⟨h1, h2, h3⟩ | ⟨h1, h2, h3, h4⟩ | ⟨h1, h2, h3, h4⟩
  · skip
    rw [h2, h3]
    generalize (⟨(txV (clsOf c) (told' d) a.data.toList).toArray⟩ : ByteArray) = ta at hA1
    generalize txE a.data.toList = ea at hA1 h1 ⊢
    have h1b := ne_of h1
    clear h1 h2 h3 hB
    go_enter Tryz.func26, Tryz.ntmps26
    go_wp2_with fail
    rw [← hW.out]
    go_at_call 22
    refine hA1.mono ?_
    rintro e w1 ⟨rfl, hg1⟩
    go_wp2
    go_ret2
    exact ⟨by first | rfl | simp, hga.trans hg1⟩
  · skip
    rw [h3, h4]
    rw [h1] at hA1
    generalize (⟨(txV (clsOf c) (told' d) a.data.toList).toArray⟩ : ByteArray) = ta at hA1
    generalize (⟨(txV (clsOf c) (told' d) b.data.toList).toArray⟩ : ByteArray) = tb at hB
    generalize txE b.data.toList = eb at hB h2 ⊢
    have h2b := ne_of h2
    have h2c : (eb == 0) = false := by simpa using h2
    clear h1 h2 h3 h4
    go_enter Tryz.func26, Tryz.ntmps26
    go_wp2_with fail
    rw [← hW.out]
    go_at_call 22
    refine hA1.mono ?_
    rintro e w1 ⟨rfl, hg1⟩
    have hB1 := hB.out w1 (hga.trans hg1)
    obtain ⟨k2, k3⟩ := hX.out w1 hg1
    go_wp2_with (go_at_call 22; refine hB1.mono ?_; rintro e w2 ⟨rfl, hg2⟩)
    go_ret2
    exact ⟨by first | rfl | simp, (hga.trans hg1).trans hg2⟩
  · rw [h3, h4]
    rw [h1] at hA1
    rw [h2] at hB
    have v1 := txV_valid (cf := clsOf c) hd (l := a.data.toList)
    have v2 := txV_valid (cf := clsOf c) hd (l := b.data.toList)
    have l1 := txV_len (cf := clsOf c) hd a.data.toList
    have l2 := txV_len (cf := clsOf c) hd b.data.toList
    clear h3 h4 h1 h2
    generalize txV (clsOf c) (told' d) a.data.toList = ta at *
    generalize txV (clsOf c) (told' d) b.data.toList = tb at *
    have hC := fun w => U.refCompare_ok ⟨ta.toArray⟩ ⟨tb.toArray⟩ w (by simp [ByteArray.size]; omega) (by simp [ByteArray.size]; omega) (by simpa [ByteArray.size] using v1) (by simpa [ByteArray.size] using v2)
    have hq := U.cmp_runes _ ta tb (Nat.le_refl _) v1 v2
    simp only at hC
    rw [← hq] at hC
    generalize compareBytes ta tb = O at hC ⊢
    generalize (⟨ta.toArray⟩ : ByteArray) = sa at *
    generalize (⟨tb.toArray⟩ : ByteArray) = sb at *
    clear v1 v2 l1 l2 hq
    go_enter Tryz.func26, Tryz.ntmps26
    go_wp2_with fail
    rw [← hW.out]
    go_at_call 22
    refine hA1.mono ?_
    rintro e w1 ⟨rfl, hg1⟩
    have hB1 := hB.out w1 (hga.trans hg1)
    obtain ⟨k2, k3⟩ := hX.out w1 hg1
    go_wp2_with (first
      | (go_at_call 22; refine hB1.mono ?_; rintro e w2 ⟨rfl, hg2⟩)
      | (go_at_call 63; refine (hC _).mono ?_; rintro e w3 ⟨rfl, hg3⟩))
    go_ret2
    exact ⟨rfl, ((hga.trans hg1).trans hg2).trans hg3⟩

set_option maxHeartbeats 4000000 in
theorem rSame_any (vc vd : Value) (c : List Cls) (d : List Dec) (a b : ByteArray) (w : World) (hT : Dat w vc vd c d) (hgd : good c d = true) (hd : DfOk (told' d)) (ha : a.size ≤ 1048576) (hb : b.size ≤ 1048576) :
    Calls Tryz.prog 24 #[.agg #[vc, vd], .string a, .string b] w fun e w' => e = .returned (.tuple #[.bool (smV (clsOf c) (told' d) a.data.toList b.data.toList), .int .i64 (cmE a.data.toList b.data.toList)]) ∧ w.grownBy w' none := by
  have hA := fun W (hg : w.grownBy W none) => rText_any vc vd c d a W (hT.all hg) hgd hd ha
  have hB := fun W (hg : w.grownBy W none) => rText_any vc vd c d b W (hT.all hg) hgd hd hb
  obtain ⟨a1, c1, rfl, _, _⟩ := hT.1.form
  obtain ⟨a2, c2, rfl, _, _⟩ := hT.2.form
  clear hT
  generalize c.length = cl at *
  generalize d.length = dl at *
  obtain ⟨W, hW, hga, hX⟩ := boxed_data w (.slice a1 cl c1) (.slice a2 dl c2)
  replace hX := Lib.hid hX
  obtain ⟨k0, k1⟩ := hX.out W (World.grownBy.refl W none)
  have hA1 := hA W hga
  replace hB := Lib.hid hB
  clear hA
  replace hW := Lib.hid hW
  rcases cm_cases (clsOf c) (told' d) a.data.toList b.data.toList with ⟨h1, h2, h3⟩ | ⟨h1, h2, h3, h4⟩ | ⟨h1, h2, h3, h4⟩
  · have hsm : smV (clsOf c) (told' d) a.data.toList b.data.toList = false := by unfold smV; simp [h1]
    rw [h2, hsm]
    generalize (⟨(txV (clsOf c) (told' d) a.data.toList).toArray⟩ : ByteArray) = ta at hA1
    generalize txE a.data.toList = ea at hA1 h1 ⊢
    have h1b := ne_of h1
    clear h1 h2 h3 hB
    go_enter Tryz.func24, Tryz.ntmps24
    go_wp2_with fail
    rw [← hW.out]
    go_at_call 22
    refine hA1.mono ?_
    rintro e w1 ⟨rfl, hg1⟩
    go_wp2
    go_ret2
    exact ⟨by first | rfl | simp, hga.trans hg1⟩
  · have hsm : smV (clsOf c) (told' d) a.data.toList b.data.toList = false := by unfold smV; simp [h1, h2]
    rw [h3, hsm]
    rw [h1] at hA1
    generalize (⟨(txV (clsOf c) (told' d) a.data.toList).toArray⟩ : ByteArray) = ta at hA1
    generalize (⟨(txV (clsOf c) (told' d) b.data.toList).toArray⟩ : ByteArray) = tb at hB
    generalize txE b.data.toList = eb at hB h2 ⊢
    have h2b := ne_of h2
    have h2c : (eb == 0) = false := by simpa using h2
    clear h1 h2 h3 h4
    go_enter Tryz.func24, Tryz.ntmps24
    go_wp2_with fail
    rw [← hW.out]
    go_at_call 22
    refine hA1.mono ?_
    rintro e w1 ⟨rfl, hg1⟩
    have hB1 := hB.out w1 (hga.trans hg1)
    obtain ⟨k2, k3⟩ := hX.out w1 hg1
    go_wp2_with (go_at_call 22; refine hB1.mono ?_; rintro e w2 ⟨rfl, hg2⟩)
    go_ret2
    exact ⟨by first | rfl | simp, (hga.trans hg1).trans hg2⟩
  · have hsm : smV (clsOf c) (told' d) a.data.toList b.data.toList = decide ((⟨(txV (clsOf c) (told' d) a.data.toList).toArray⟩ : ByteArray) = ⟨(txV (clsOf c) (told' d) b.data.toList).toArray⟩) := by
      unfold smV
      rw [decide_eq_decide]
      constructor
      · rintro ⟨_, _, h⟩; rw [h]
      · intro h
        refine ⟨h1, h2, ?_⟩
        have h0 := congrArg (fun s : ByteArray => s.data.toList) h
        simpa using h0
    rw [h3, hsm]
    rw [h1] at hA1
    rw [h2] at hB
    clear h3 h4 h1 h2 hsm
    generalize (⟨(txV (clsOf c) (told' d) a.data.toList).toArray⟩ : ByteArray) = sa at *
    generalize (⟨(txV (clsOf c) (told' d) b.data.toList).toArray⟩ : ByteArray) = sb at *
    go_enter Tryz.func24, Tryz.ntmps24
    go_wp2_with fail
    rw [← hW.out]
    go_at_call 22
    refine hA1.mono ?_
    rintro e w1 ⟨rfl, hg1⟩
    have hB1 := hB.out w1 (hga.trans hg1)
    obtain ⟨k2, k3⟩ := hX.out w1 hg1
    go_wp2_with (go_at_call 22; refine hB1.mono ?_; rintro e w2 ⟨rfl, hg2⟩)
    go_ret2
    exact ⟨by simp [str_beq], (hga.trans hg1).trans hg2⟩
end Go.Proofs.YtpdacbiiaglodaaGreat

/-
  LAYER 6 (norm): the reference's Push.
-/
namespace Go.Proofs.YtpdacbiiaglodaaGreat
set_option maxRecDepth 100000
open Go.RowKit Go.Lib

theorem own_zero (w : World) : OwnN (w.alloc (.cells #[] 21)) w.heap.size (.slice (some ⟨w.heap.size, 0, none⟩) 0 0) [] :=
  ⟨rfl, .inr ⟨_, 0, _, rfl, Nat.le_refl _, World.alloc_heap_new w _, Nat.le_refl _, Nat.zero_le _, rfl, rfl⟩⟩
theorem RS.keptQ {w w' : World} {v : Value} {l : List Int} {q : Option Nat} (h : RS w v l) (hg : w.grownBy w' q) (hq : ∀ k, v.ownBlock = some k → q ≠ some k) : RS w' v l :=
  h.heap fun hl k e => hg.block k (h.lt hl k e) (fun e' => hq k e e'.symm)
/-- Between the rounds of the reference's Push. -/
def RPI (f : Int → Int) (held xs : List Int) (w2 : World) (i : Nat) (v8 v1 : Value) (V : World) : Prop :=
  OwnN V w2.heap.size v8 (psh f held (xs.take i)).1 ∧ RS V v1 (psh f held (xs.take i)).2 ∧ (∀ q, v8.ownBlock = some q → v1.ownBlock ≠ some q) ∧ w2.grownBy V none ∧ (0 < i → ∀ q, v1.ownBlock = some q → w2.heap.size ≤ q)

theorem told_ne {c : List Cls} {d : List Dec} (h : good c d = true) (r : Int) : told' d r ≠ [] := by
  obtain ⟨_, _, _, g4⟩ := good_parts h
  unfold told'
  cases hs : stp d r with
  | none => exact byR_ne r
  | some x =>
    unfold stp at hs
    have := decsOk_mem g4 x (List.mem_of_find?_eq_some hs)
    simp only [decOk, Bool.and_eq_true] at this
    exact (mb_whl this.1.2.2 0).2

set_option maxHeartbeats 8000000 in
theorem rPush_any (vc vd v : Value) (c : List Cls) (d : List Dec) (held : List Int) (r : Int) (w : World) (hT : Dat w vc vd c d) (hgd : good c d = true) (hR : RS w v held) (hl : held.length ≤ 1000000) :
    Calls Tryz.prog 35 #[.agg #[vc, vd], v, .int .i32 r] w fun e w' => ∃ v1 v2, e = .returned (.tuple #[v1, v2]) ∧ RS w' v1 (psh (clsOf c) held (told' d r)).1 ∧ RS w' v2 (psh (clsOf c) held (told' d r)).2 ∧ w.grownBy w' none ∧ (∀ q, v2.ownBlock = some q → w.heap.size ≤ q) := by
  have hD := fun W (hg : w.grownBy W none) => rDec_any vc vd c d r W (hT.all hg) hgd
  have hO := fun W (hg : w.grownBy W none) v o hr ho => rOrder_any vc vd v c d o W (hT.all hg) hr ho
  have hC := fun W (hg : w.grownBy W none) r => rCls_any vc vd c d r W (hT.all hg)
  have hx7 := told_length d r
  have hne := List.length_pos_iff.2 (told_ne hgd r)
  obtain ⟨a1, c1, rfl, _, _⟩ := hT.1.form
  obtain ⟨a2, c2, rfl, _, _⟩ := hT.2.form
  obtain ⟨a0, c0, rfl, _⟩ := id hR
  generalize c.length = cl at *
  generalize d.length = dl at *
  generalize clsOf c = f at *
  generalize told' d r = xs at *
  have hps := fun i x (hx : xs[i]? = some x) => (by rw [List.take_add_one, hx]; exact psh_one f held (xs.take i) x : psh f held (xs.take (i + 1)) = if f x = 0 then ((psh f held (xs.take i)).1 ++ ord f (psh f held (xs.take i)).2, [x]) else ((psh f held (xs.take i)).1, (psh f held (xs.take i)).2 ++ [x]))
  have hpl := fun i => psh_len f (xs.take i) held
  have hfin : psh f held xs = psh f held (xs.take xs.length) := by rw [List.take_length]
  rw [hfin]
  obtain ⟨W, hW, hga, hX⟩ := boxed_data w (.slice a1 cl c1) (.slice a2 dl c2)
  have hD1 := hD W hga
  obtain ⟨k0, k1⟩ := hX W (World.grownBy.refl W none)
  have hRW := Lib.hid (hR.new hga)
  obtain ⟨N, hN⟩ : ∃ N, N = xs.length := ⟨_, rfl⟩
  obtain ⟨n0, hn0⟩ : ∃ n0, n0 = held.length := ⟨_, rfl⟩
  rw [← hN] at hx7 hD1 hne ⊢
  rw [← hn0] at hl hRW ⊢
  have HN := Lib.hid hN
  have HN0 := Lib.hid hn0
  replace hX := Lib.hid hX
  replace hO := Lib.hid hO
  replace hC := Lib.hid hC
  replace hps := Lib.hid hps
  replace hpl := Lib.hid hpl
  replace hW := Lib.hid hW
  clear hT hR hN hn0 hD hfin
  go_enter Tryz.func35, Tryz.ntmps35
  go_wp2_with fail
  rw [← hW.out]
  go_at_call 70
  refine hD1.mono ?_
  rintro e w2 ⟨v9, rfl, ho9, hg2⟩
  have hx9 : OwnN w2 W.heap.size v9 xs := by have := ho9; rw [HN.out] at this; exact this
  obtain ⟨a9, c9, rfl⟩ := hx9.form
  rw [← HN.out] at hx9 ⊢
  have hB : Hid (∀ V, w2.grownBy V none → V.cell? ⟨w.heap.size, 0, none⟩ = some (.slice a1 cl c1) ∧ V.cell? ⟨w.heap.size, 1, none⟩ = some (.slice a2 dl c2)) := Lib.hid fun V hg => hX.out V (hg2.trans hg)
  have hCl := Lib.hid fun V (hg : w2.grownBy V none) r => hC.out V ((hga.trans hg2).trans hg) r
  have hOl := Lib.hid fun V (hg : w2.grownBy V none) v o hr ho => hO.out V ((hga.trans hg2).trans hg) v o hr ho
  have hL := Lib.hid fun V (hg : w2.grownBy V none) => hx9.ro.reads.new hg
  have hgw2 := Lib.hid (hga.trans hg2)
  have P0 : Aside (RPI f held xs w2 0 (.slice none 0 0) (.slice a0 n0 c0) w2) := by
    refine ⟨?_, ?_, (fun q e => by cases e), World.grownBy.refl _ _, fun h => absurd h (Nat.lt_irrefl 0)⟩
    · rw [List.take_zero]; exact OwnN.none _ _
    · rw [List.take_zero]; exact hRW.out.new hg2
  clear k0 k1 hC hO hX hRW hg2 hga hx9 ho9 hD1 hW
  generalize w.heap.size = bx at hB
  go_wp2_with fail
  go_loopw [1, 8, 10] (fun v1 v8 v10 wr => ∃ i : Nat, v10 = .int .i64 (i : Int) ∧ i ≤ N ∧ Aside (RPI f held xs w2 i v8 v1 wr)) (fun _ _ v10 _ => N - (RowKit.intOf v10).toNat)
  case atStart => exact ⟨0, rfl, Nat.zero_le _, P0⟩
  case round =>
    clear P0
    obtain ⟨i, rfl, hi, hM⟩ := hrel
    have hM0 := hM.out
    by_cases hlt : i < N
    · obtain ⟨x, hx⟩ : ∃ x, xs[i]? = some x := ⟨_, List.getElem?_eq_getElem (by have := HN.out; omega)⟩
      have hpi := hps.out i x hx
      have hpn := hpl.out i
      rw [List.length_take] at hpn
      have gd := gdrew (World.grownBy.refl wr none)
      have gw := hM0.2.2.2.1.trans gd
      obtain ⟨k0, k1⟩ := hB.out _ gw
      have hCx := hCl.out _ gw x
      obtain ⟨b9, o9, rfl, hcx⟩ := RS.cell (hL.out _ gw) hx
      have cX : Hid (∀ V, w2.grownBy V none → V.cell? ⟨b9, o9 + i, none⟩ = some (.int .i32 x)) := Lib.hid fun V hg => by
        obtain ⟨b', o', e, h⟩ := RS.cell (hL.out V hg) hx
        cases e
        exact h
      obtain ⟨p, hp⟩ : ∃ p, p = psh f held (xs.take i) := ⟨_, rfl⟩
      obtain ⟨D, h1⟩ := p
      unfold RPI at hM0
      rw [← hp] at hpi hpn hM0
      dsimp only at hpi hpn hM0
      obtain ⟨q1, q2, q3, q4, _⟩ := hM0
      obtain ⟨a8, c8, rfl⟩ := q1.form
      obtain ⟨a5, c5, rfl, _⟩ := id q2
      replace q3 := Lib.hid q3
      obtain ⟨m, hm⟩ : ∃ m, m = h1.length := ⟨_, rfl⟩
      obtain ⟨m8, hm8⟩ : ∃ m8, m8 = D.length := ⟨_, rfl⟩
      rw [← hm] at hpn q2 q3 ⊢
      rw [← hm8] at hpn q1 q3 ⊢
      have HM := Lib.hid hm
      have HM8 := Lib.hid hm8
      have hlen : m8 + m ≤ 1000007 := by have := HN.out; have := HN0.out; have := Nat.min_le_left i xs.length; omega
      clear hx hM hp hm hm8 hpn
      by_cases hz : f x = 0
      · have hzb : (f x == 0) = true := by simp [hz]
        rw [if_pos hz] at hpi
        have hpi := Lib.hid hpi
        clear hz
        go_wp2_with fail
        refine wp_region_held_drew (S := fun V => wr.grownBy V none ∧ V.cell? ⟨bx, 0, none⟩ = some (.slice a1 cl c1) ∧ V.cell? ⟨bx, 1, none⟩ = some (.slice a2 dl c2) ∧ V.cell? ⟨b9, o9 + i, none⟩ = some (.int .i32 x)) (by kernel_rfl) ⟨gd, k0, k1, hcx⟩ (fun hS0 => ?_)
        refine wpAnyH_take (i := 0) (oi := ⟨some 20, _, _, _, _, _⟩) (v := ?_) rfl (by kernel_rfl) (by kernel_rfl) (by kernel_rfl) (fun _ _ _ h => h) (Or.inl ⟨by rfl, ?_⟩) (by assumption) ?_
        rotate_left
        · (intro w hSw; (try dsimp only at hSw); go_simp; try with_reducible rfl)
        try simp only [Act.put, List.setIfInBounds_toArray, List.set_cons_zero, List.set_cons_succ]
        refine wpAnyH_take (i := 1) (oi := ⟨some 21, _, _, _, _, _⟩) (v := ?_) rfl (by kernel_rfl) (by kernel_rfl) (by kernel_rfl) (fun _ _ _ h => h) (Or.inl ⟨by rfl, ?_⟩) (by assumption) ?_
        rotate_left
        · (intro w hSw; (try dsimp only at hSw); go_simp; try with_reducible rfl)
        try simp only [Act.put, List.setIfInBounds_toArray, List.set_cons_zero, List.set_cons_succ]
        refine wpAnyH_take (i := 2) (oi := ⟨some 22, _, _, _, _, _⟩) (v := ?_) rfl (by kernel_rfl) (by kernel_rfl) (by kernel_rfl) (fun _ _ _ h => h) (Or.inl ⟨by rfl, ?_⟩) (by assumption) ?_
        rotate_left
        · (intro w hSw; (try dsimp only at hSw); go_simp; try with_reducible rfl)
        try simp only [Act.put, List.setIfInBounds_toArray, List.set_cons_zero, List.set_cons_succ]
        refine wpAnyH_take (i := 3) (oi := ⟨some 23, _, _, _, _, _⟩) (v := ?_) rfl (by kernel_rfl) (by kernel_rfl) (by kernel_rfl) (fun _ _ _ h => h) (Or.inl ⟨by rfl, ?_⟩) (by assumption) ?_
        rotate_left
        · (intro w hSw; (try dsimp only at hSw); go_simp; try with_reducible rfl)
        try simp only [Act.put, List.setIfInBounds_toArray, List.set_cons_zero, List.set_cons_succ]
        refine wpAnyH_take (i := 4) (oi := ⟨some 24, _, _, _, _, _⟩) (v := ?_) rfl (by kernel_rfl) (by kernel_rfl) (by kernel_rfl) (fun _ _ _ h => h) (Or.inl ⟨by rfl, ?_⟩) (by assumption) ?_
        rotate_left
        · (intro w hSw; (try dsimp only at hSw); go_simp; try with_reducible rfl)
        try simp only [Act.put, List.setIfInBounds_toArray, List.set_cons_zero, List.set_cons_succ]
        refine wpAnyH_ready (rs := [5]) (by kernel_rfl) (by simp) ?_
        refine AllReadyH.cons rfl (fun K hK => ?_) AllReadyH.nil
        go_simp
        refine hCx.mono ?_
        rintro e w3 ⟨rfl, hg3⟩
        have hS6 := And.intro (gd.trans hg3) (And.intro (hg3.cell k0 (by simp)) (And.intro (hg3.cell k1 (by simp)) (hg3.cell hcx (by simp))))
        go_wp2_with fail
        refine hK.out _ _ hS6 (fun hS7 => ?_)
        clear hK
        refine wpAnyH_take (i := 6) (oi := ⟨some 26, _, _, _, _, _⟩) (v := ?_) rfl (by kernel_rfl) (by kernel_rfl) (by kernel_rfl) (fun _ _ _ h => h) (Or.inl ⟨by rfl, ?_⟩) (by assumption) ?_
        rotate_left
        · (intro w hSw; (try dsimp only at hSw); go_simp; try with_reducible rfl)
        try simp only [Act.put, List.setIfInBounds_toArray, List.set_cons_zero, List.set_cons_succ]
        refine wpAnyH_done (by kernel_rfl) ?_ _
        have q1 := q1.kept hS6.1 (by simp)
        have q2 := q2.new hS6.1
        have q4 := q4.trans hS6.1
        clear hS0 hS6 hS7 k0 k1 hcx gd gw hg3 hCx
        obtain ⟨k0, k1⟩ := hB.out _ q4
        have hOx := hOl.out _ q4 _ h1 q2 (by have := HM.out; omega)
        have holn := Lib.hid (ord_length f h1)
        go_wp2_with (first
          | (go_at_call 71; refine hOx.mono ?_; rintro e w4 ⟨v4, rfl, ho4, hg4⟩; have hr4 := ho4.ro.reads; obtain ⟨a4, c4, rfl⟩ := ho4.form; rw [holn.out, ← HM.out] at hr4 ⊢; have q1 := q1.kept hg4 (by simp); have hz4 : w2.heap.size ≤ w4.heap.size := (q4.trans hg4).size)
          | (at_builtin; refine wpList_append_rs _ rfl _ _ 50 rfl w2.heap.size Tryz.underlying50 (.slice a8 m8 c8) D rfl q1 _ (ord f h1) rfl hr4 (by have := HM.out; have := HM8.out; have := holn.out; omega) hz4 ?_; intro v13 w13 ho13 hg13 hb13; obtain ⟨a13, c13, rfl⟩ := ho13.form; have hn13 : (D ++ ord f h1).length = m8 + m := (by rw [List.length_append, holn.out, HM.out, HM8.out]); rw [hn13] at ho13 hb13 ⊢))
        have q40 : w2.grownBy w13 none := gnew (q4.trans hg4) hg13 (fun r e => .inl (q1.lt r e).1)
        obtain ⟨h2, hh2⟩ : ∃ h2 : List Int, h2 = [] := ⟨_, rfl⟩
        have q20 : RS w13 (.slice none 0 0) h2 := by rw [hh2]; exact RS.nil _
        rw [show ([x] : List Int) = h2 ++ [x] by rw [hh2]; rfl] at hpi
        obtain ⟨m2, hm2⟩ : ∃ m2, m2 = h2.length := ⟨_, rfl⟩
        have HM2 := Lib.hid hm2
        have hlen2 : m2 ≤ 0 := by rw [hm2, hh2]; exact Nat.le_refl _
        replace hn13 := Lib.hid hn13
        clear hm2 hh2 k0 k1 hOx holn hr4 ho4 hg13 hb13 hg4 hz4 q1 q2 q3 q4
        have q1 := ho13
        have q2 := q20
        have q4 := q40
        clear ho13 q20 q40
        clear hlen HM HM8

        have gd := gdrew (World.grownBy.refl w13 none)
        have hcx := cX.out _ (q4.trans gd)
        go_wp2_with fail
        refine wp_region_held_drew (S := fun V => w2.grownBy V none ∧ V.cell? ⟨b9, o9 + i, none⟩ = some (.int .i32 x)) (by kernel_rfl) ⟨q4.trans gd, hcx⟩ (fun hS0 => ?_)
        clear hcx gd
        refine wpAnyH_take (i := 1) (oi := ⟨some 33, _, _, _, _, _⟩) (v := ?_) rfl (by kernel_rfl) (by kernel_rfl) (by kernel_rfl) (fun _ _ _ h => h) (Or.inl ⟨by rfl, ?_⟩) (by assumption) ?_
        rotate_left
        · (intro w hSw; (try dsimp only at hSw); go_simp; try with_reducible rfl)
        try simp only [Act.put, List.setIfInBounds_toArray, List.set_cons_zero, List.set_cons_succ]
        refine wpAnyH_take (i := 3) (oi := ⟨some 35, _, _, _, _, _⟩) (v := ?_) rfl (by kernel_rfl) (by kernel_rfl) (by kernel_rfl) (fun _ _ _ h => h) (Or.inl ⟨by rfl, ?_⟩) (by assumption) ?_
        rotate_left
        · (intro w hSw; (try dsimp only at hSw); go_simp; try with_reducible rfl)
        try simp only [Act.put, List.setIfInBounds_toArray, List.set_cons_zero, List.set_cons_succ]
        refine wpAnyH_take (i := 4) (oi := ⟨some 36, _, _, _, _, _⟩) (v := ?_) rfl (by kernel_rfl) (by kernel_rfl) (by kernel_rfl) (fun _ _ _ h => h) (Or.inl ⟨by rfl, ?_⟩) (by assumption) ?_
        rotate_left
        · (intro w hSw; (try dsimp only at hSw); go_simp; try with_reducible rfl)
        try simp only [Act.put, List.setIfInBounds_toArray, List.set_cons_zero, List.set_cons_succ]
        refine wpAnyH_take (i := 5) (oi := ⟨some 37, _, _, _, _, _⟩) (v := ?_) rfl (by kernel_rfl) (by kernel_rfl) (by kernel_rfl) (fun _ _ _ h => h) (Or.inl ⟨by rfl, ?_⟩) (by assumption) ?_
        rotate_left
        · (intro w hSw; (try dsimp only at hSw); go_simp; try with_reducible rfl)
        try simp only [Act.put, List.setIfInBounds_toArray, List.set_cons_zero, List.set_cons_succ]
        refine wpAnyH_take (i := 6) (oi := ⟨some 38, _, _, _, _, _⟩) (v := ?_) rfl (by kernel_rfl) (by kernel_rfl) (by kernel_rfl) (fun _ _ _ h => h) (Or.inl ⟨by rfl, ?_⟩) (by assumption) ?_
        rotate_left
        · (intro w hSw; (try dsimp only at hSw); go_simp; try with_reducible rfl)
        try simp only [Act.put, List.setIfInBounds_toArray, List.set_cons_zero, List.set_cons_succ]
        refine wpAnyH_ready (rs := [0, 7]) (by kernel_rfl) (by simp) ?_
        refine AllReadyH.cons rfl (fun K hK => ?_) (AllReadyH.cons rfl (fun K hK => ?_) AllReadyH.nil)
        · go_simp
          have Gw5 := (World.grownBy_alloc w13 (.cells #[] 21) none).trans (gdrew (World.grownBy.refl _ none))
          have o0 : OwnN (w13.alloc (.cells #[] 21)).drew w13.heap.size (.slice (some ⟨w13.heap.size, 0, none⟩) 0 0) ([] : List Int) := (own_zero w13).kept (gdrew (World.grownBy.refl _ none)) (by simp)
          have hsw5 : w13.heap.size < (w13.alloc (.cells #[] 21)).drew.heap.size := by show _ < (w13.alloc (.cells #[] 21)).heap.size; rw [World.size_alloc]; omega
          generalize (w13.alloc (.cells #[] 21)).drew = w5 at Gw5 o0 hsw5 ⊢
          refine hK.out _ _ ⟨q4.trans Gw5, cX.out _ (q4.trans Gw5)⟩ (fun hSw5 => ?_)
          clear hK
          refine wpAnyH_ready (rs := [2, 7]) (by kernel_rfl) (by simp) ?_
          refine AllReadyH.cons rfl (fun K hK => ?_) (AllReadyH.cons rfl (fun K hK => ?_) AllReadyH.nil)
          · rw [if_pos (by rfl)]
            refine wp_app_rs w5 (.tmp 32) (.tmp 33) 50 rfl w13.heap.size Tryz.underlying50 (.slice (some ⟨w13.heap.size, 0, none⟩) 0 0) [] rfl o0 (.slice none 0 0) h2 rfl (q2.new Gw5) (by have := HM2.out; simp; omega) (by omega) ?_
            intro v34 w6 ho34 hg34 hb34
            rw [List.nil_append] at ho34
            obtain ⟨a34, c34, rfl⟩ := ho34.form
            rw [← HM2.out] at ho34 hb34 ⊢
            have Gw6 : w13.grownBy w6 none := gnew Gw5 hg34 (fun r e => by simp [Value.ownBlock] at e; left; omega)
            have hsw6 : w5.heap.size ≤ w6.heap.size := hg34.size
            refine hK.out _ _ ⟨q4.trans Gw6, cX.out _ (q4.trans Gw6)⟩ (fun hSw6 => ?_)
            clear hK
            refine wpAnyH_ready (rs := [7]) (by kernel_rfl) (by simp) ?_
            refine AllReadyH.cons rfl (fun K hK => ?_) AllReadyH.nil
            go_simp
            have hg67 := World.grownBy_alloc w6 (.cells #[.int .i32 x] 21) none
            have o7 : OwnN (w6.alloc (.cells #[.int .i32 x] 21)) w6.heap.size (.slice (some ⟨w6.heap.size, 0, none⟩) 1 1) [x] := own_one x w6
            have hsw7 : w6.heap.size < (w6.alloc (.cells #[.int .i32 x] 21)).heap.size := by rw [World.size_alloc]; omega
            generalize w6.alloc (.cells #[.int .i32 x] 21) = w7 at hg67 o7 hsw7 ⊢
            have Gw7 := Gw6.trans hg67
            refine hK.out _ _ ⟨q4.trans Gw7, cX.out _ (q4.trans Gw7)⟩ (fun hSw7 => ?_)
            clear hK
            have o34 := ho34.kept (World.grownBy.trans (World.grownBy.refl w6 none) hg67) (by simp)
            refine wpAnyH_ready (rs := [8]) (by kernel_rfl) (by simp) ?_
            refine AllReadyH.cons rfl (fun K hK => ?_) AllReadyH.nil
            rw [if_pos (by rfl)]
            refine wp_app_rs w7 (.tmp 34) (.tmp 39) 50 rfl w13.heap.size Tryz.underlying50 (.slice a34 m2 c34) h2 rfl (o34) (.slice (some ⟨w6.heap.size, 0, none⟩) 1 1) [x] rfl (o7).ro.reads (by have := HM2.out; simp; omega) (by omega) ?_
            intro v40 w9 ho40 hg40 hb40
            obtain ⟨a40, c40, rfl⟩ := ho40.form
            have hn40 : (h2 ++ [x]).length = m2 + 1 := by rw [List.length_append, HM2.out]; rfl
            rw [hn40] at ho40 hb40 ⊢
            have G9 : w13.grownBy w9 none := gnew Gw7 hg40 (fun r e => by have := ((o34).lt r e).1; left; omega)
            refine hK.out _ _ ⟨q4.trans G9, cX.out _ (q4.trans G9)⟩ (fun hS9 => ?_)
            clear hK
            refine wpAnyH_ready (rs := [9]) (by kernel_rfl) (by simp) ?_
            refine AllReadyH.cons rfl (fun K hK => ?_) AllReadyH.nil
            go_simp
            refine hK.out _ _ hS9 (fun hS10 => ?_)
            clear hK
            refine wpAnyH_done (by kernel_rfl) ?_ _
            have hv1 : OwnN w9 w13.heap.size (.slice a40 (m2 + 1) c40) (h2 ++ [x]) := ownLow ho40 (by omega)
            have Q : Aside (RPI f held xs w2 (i + 1) (.slice a13 (m8 + m) c13) (.slice a40 (m2 + 1) c40) w9) := by
              show RPI _ _ _ _ _ _ _ _
              unfold RPI
              rw [hpi.out]
              refine ⟨q1.kept G9 (by simp), ?_, fun q e e' => ?_, q4.trans G9, fun _ q e => Nat.le_trans q4.size (hv1.lt q e).1⟩
              · have := hv1.ro.reads
                exact this
              · have h1' := (hv1.lt q e').1
                have h2' := (q1.lt q e).2
                omega
            clear G9 hv1 q1 q2 q4 hS9 hS10
            go_wp2_with fail
            go_roundw
            case rel => exact ⟨i + 1, by go_num, by omega, Q⟩
            case measure => simp [RowKit.intOf]; omega
          · go_simp
            have hg56 := World.grownBy_alloc w5 (.cells #[.int .i32 x] 21) none
            have o7 : OwnN (w5.alloc (.cells #[.int .i32 x] 21)) w5.heap.size (.slice (some ⟨w5.heap.size, 0, none⟩) 1 1) [x] := own_one x w5
            have hsw6 : w5.heap.size < (w5.alloc (.cells #[.int .i32 x] 21)).heap.size := by rw [World.size_alloc]; omega
            generalize w5.alloc (.cells #[.int .i32 x] 21) = w6 at hg56 o7 hsw6 ⊢
            have Gw6 := Gw5.trans hg56
            refine hK.out _ _ ⟨q4.trans Gw6, cX.out _ (q4.trans Gw6)⟩ (fun hSw6 => ?_)
            clear hK
            have o06 := o0.kept hg56 (by simp)
            refine wpAnyH_ready (rs := [2]) (by kernel_rfl) (by simp) ?_
            refine AllReadyH.cons rfl (fun K hK => ?_) AllReadyH.nil
            rw [if_pos (by rfl)]
            refine wp_app_rs w6 (.tmp 32) (.tmp 33) 50 rfl w13.heap.size Tryz.underlying50 (.slice (some ⟨w13.heap.size, 0, none⟩) 0 0) [] rfl o06 (.slice none 0 0) h2 rfl (q2.new Gw6) (by have := HM2.out; simp; omega) (by omega) ?_
            intro v34 w7 ho34 hg34 hb34
            rw [List.nil_append] at ho34
            obtain ⟨a34, c34, rfl⟩ := ho34.form
            rw [← HM2.out] at ho34 hb34 ⊢
            have Gw7 : w13.grownBy w7 none := gnew Gw6 hg34 (fun r e => by simp [Value.ownBlock] at e; left; omega)
            have hsw7 : w6.heap.size ≤ w7.heap.size := hg34.size
            refine hK.out _ _ ⟨q4.trans Gw7, cX.out _ (q4.trans Gw7)⟩ (fun hSw7 => ?_)
            clear hK
            have o77 := o7.kept hg34 (fun k e e' => by simp [Value.ownBlock] at e e'; omega)
            refine wpAnyH_ready (rs := [8]) (by kernel_rfl) (by simp) ?_
            refine AllReadyH.cons rfl (fun K hK => ?_) AllReadyH.nil
            rw [if_pos (by rfl)]
            refine wp_app_rs w7 (.tmp 34) (.tmp 39) 50 rfl w13.heap.size Tryz.underlying50 (.slice a34 m2 c34) h2 rfl (ho34) (.slice (some ⟨w5.heap.size, 0, none⟩) 1 1) [x] rfl (o77).ro.reads (by have := HM2.out; simp; omega) (by omega) ?_
            intro v40 w9 ho40 hg40 hb40
            obtain ⟨a40, c40, rfl⟩ := ho40.form
            have hn40 : (h2 ++ [x]).length = m2 + 1 := by rw [List.length_append, HM2.out]; rfl
            rw [hn40] at ho40 hb40 ⊢
            have G9 : w13.grownBy w9 none := gnew Gw7 hg40 (fun r e => by have := ((ho34).lt r e).1; left; omega)
            refine hK.out _ _ ⟨q4.trans G9, cX.out _ (q4.trans G9)⟩ (fun hS9 => ?_)
            clear hK
            refine wpAnyH_ready (rs := [9]) (by kernel_rfl) (by simp) ?_
            refine AllReadyH.cons rfl (fun K hK => ?_) AllReadyH.nil
            go_simp
            refine hK.out _ _ hS9 (fun hS10 => ?_)
            clear hK
            refine wpAnyH_done (by kernel_rfl) ?_ _
            have hv1 : OwnN w9 w13.heap.size (.slice a40 (m2 + 1) c40) (h2 ++ [x]) := ownLow ho40 (by omega)
            have Q : Aside (RPI f held xs w2 (i + 1) (.slice a13 (m8 + m) c13) (.slice a40 (m2 + 1) c40) w9) := by
              show RPI _ _ _ _ _ _ _ _
              unfold RPI
              rw [hpi.out]
              refine ⟨q1.kept G9 (by simp), ?_, fun q e e' => ?_, q4.trans G9, fun _ q e => Nat.le_trans q4.size (hv1.lt q e).1⟩
              · have := hv1.ro.reads
                exact this
              · have h1' := (hv1.lt q e').1
                have h2' := (q1.lt q e).2
                omega
            clear G9 hv1 q1 q2 q4 hS9 hS10
            go_wp2_with fail
            go_roundw
            case rel => exact ⟨i + 1, by go_num, by omega, Q⟩
            case measure => simp [RowKit.intOf]; omega
        · go_simp
          have Gw5 := (World.grownBy_alloc w13 (.cells #[.int .i32 x] 21) none).trans (gdrew (World.grownBy.refl _ none))
          have o7 : OwnN (w13.alloc (.cells #[.int .i32 x] 21)).drew w13.heap.size (.slice (some ⟨w13.heap.size, 0, none⟩) 1 1) [x] := (own_one x w13).kept (gdrew (World.grownBy.refl _ none)) (by simp)
          have hsw5 : w13.heap.size < (w13.alloc (.cells #[.int .i32 x] 21)).drew.heap.size := by show _ < (w13.alloc (.cells #[.int .i32 x] 21)).heap.size; rw [World.size_alloc]; omega
          generalize (w13.alloc (.cells #[.int .i32 x] 21)).drew = w5 at Gw5 o7 hsw5 ⊢
          refine hK.out _ _ ⟨q4.trans Gw5, cX.out _ (q4.trans Gw5)⟩ (fun hSw5 => ?_)
          clear hK
          refine wpAnyH_ready (rs := [0]) (by kernel_rfl) (by simp) ?_
          refine AllReadyH.cons rfl (fun K hK => ?_) AllReadyH.nil
          go_simp
          have hg56 := World.grownBy_alloc w5 (.cells #[] 21) none
          have o0 : OwnN (w5.alloc (.cells #[] 21)) w5.heap.size (.slice (some ⟨w5.heap.size, 0, none⟩) 0 0) ([] : List Int) := own_zero w5
          have hsw6 : w5.heap.size < (w5.alloc (.cells #[] 21)).heap.size := by rw [World.size_alloc]; omega
          generalize w5.alloc (.cells #[] 21) = w6 at hg56 o0 hsw6 ⊢
          have Gw6 := Gw5.trans hg56
          refine hK.out _ _ ⟨q4.trans Gw6, cX.out _ (q4.trans Gw6)⟩ (fun hSw6 => ?_)
          clear hK
          have o76 := o7.kept hg56 (by simp)
          refine wpAnyH_ready (rs := [2]) (by kernel_rfl) (by simp) ?_
          refine AllReadyH.cons rfl (fun K hK => ?_) AllReadyH.nil
          rw [if_pos (by rfl)]
          refine wp_app_rs w6 (.tmp 32) (.tmp 33) 50 rfl w5.heap.size Tryz.underlying50 (.slice (some ⟨w5.heap.size, 0, none⟩) 0 0) [] rfl o0 (.slice none 0 0) h2 rfl (q2.new Gw6) (by have := HM2.out; simp; omega) (by omega) ?_
          intro v34 w7 ho34 hg34 hb34
          rw [List.nil_append] at ho34
          obtain ⟨a34, c34, rfl⟩ := ho34.form
          rw [← HM2.out] at ho34 hb34 ⊢
          have Gw7 : w13.grownBy w7 none := gnew Gw6 hg34 (fun r e => by simp [Value.ownBlock] at e; left; omega)
          have hsw7 : w6.heap.size ≤ w7.heap.size := hg34.size
          refine hK.out _ _ ⟨q4.trans Gw7, cX.out _ (q4.trans Gw7)⟩ (fun hSw7 => ?_)
          clear hK
          have o77 := o76.kept hg34 (fun k e e' => by simp [Value.ownBlock] at e e'; omega)
          refine wpAnyH_ready (rs := [8]) (by kernel_rfl) (by simp) ?_
          refine AllReadyH.cons rfl (fun K hK => ?_) AllReadyH.nil
          rw [if_pos (by rfl)]
          refine wp_app_rs w7 (.tmp 34) (.tmp 39) 50 rfl w5.heap.size Tryz.underlying50 (.slice a34 m2 c34) h2 rfl (ho34) (.slice (some ⟨w13.heap.size, 0, none⟩) 1 1) [x] rfl (o77).ro.reads (by have := HM2.out; simp; omega) (by omega) ?_
          intro v40 w9 ho40 hg40 hb40
          obtain ⟨a40, c40, rfl⟩ := ho40.form
          have hn40 : (h2 ++ [x]).length = m2 + 1 := by rw [List.length_append, HM2.out]; rfl
          rw [hn40] at ho40 hb40 ⊢
          have G9 : w13.grownBy w9 none := gnew Gw7 hg40 (fun r e => by have := ((ho34).lt r e).1; left; omega)
          refine hK.out _ _ ⟨q4.trans G9, cX.out _ (q4.trans G9)⟩ (fun hS9 => ?_)
          clear hK
          refine wpAnyH_ready (rs := [9]) (by kernel_rfl) (by simp) ?_
          refine AllReadyH.cons rfl (fun K hK => ?_) AllReadyH.nil
          go_simp
          refine hK.out _ _ hS9 (fun hS10 => ?_)
          clear hK
          refine wpAnyH_done (by kernel_rfl) ?_ _
          have hv1 : OwnN w9 w13.heap.size (.slice a40 (m2 + 1) c40) (h2 ++ [x]) := ownLow ho40 (by omega)
          have Q : Aside (RPI f held xs w2 (i + 1) (.slice a13 (m8 + m) c13) (.slice a40 (m2 + 1) c40) w9) := by
            show RPI _ _ _ _ _ _ _ _
            unfold RPI
            rw [hpi.out]
            refine ⟨q1.kept G9 (by simp), ?_, fun q e e' => ?_, q4.trans G9, fun _ q e => Nat.le_trans q4.size (hv1.lt q e).1⟩
            · have := hv1.ro.reads
              exact this
            · have h1' := (hv1.lt q e').1
              have h2' := (q1.lt q e).2
              omega
          clear G9 hv1 q1 q2 q4 hS9 hS10
          go_wp2_with fail
          go_roundw
          case rel => exact ⟨i + 1, by go_num, by omega, Q⟩
          case measure => simp [RowKit.intOf]; omega
      · have hzb : (f x == 0) = false := by simp [hz]
        rw [if_neg hz] at hpi
        have hpi := Lib.hid hpi
        clear hz
        go_wp2_with fail
        refine wp_region_held_drew (S := fun V => wr.grownBy V none ∧ V.cell? ⟨bx, 0, none⟩ = some (.slice a1 cl c1) ∧ V.cell? ⟨bx, 1, none⟩ = some (.slice a2 dl c2) ∧ V.cell? ⟨b9, o9 + i, none⟩ = some (.int .i32 x)) (by kernel_rfl) ⟨gd, k0, k1, hcx⟩ (fun hS0 => ?_)
        refine wpAnyH_take (i := 0) (oi := ⟨some 20, _, _, _, _, _⟩) (v := ?_) rfl (by kernel_rfl) (by kernel_rfl) (by kernel_rfl) (fun _ _ _ h => h) (Or.inl ⟨by rfl, ?_⟩) (by assumption) ?_
        rotate_left
        · (intro w hSw; (try dsimp only at hSw); go_simp; try with_reducible rfl)
        try simp only [Act.put, List.setIfInBounds_toArray, List.set_cons_zero, List.set_cons_succ]
        refine wpAnyH_take (i := 1) (oi := ⟨some 21, _, _, _, _, _⟩) (v := ?_) rfl (by kernel_rfl) (by kernel_rfl) (by kernel_rfl) (fun _ _ _ h => h) (Or.inl ⟨by rfl, ?_⟩) (by assumption) ?_
        rotate_left
        · (intro w hSw; (try dsimp only at hSw); go_simp; try with_reducible rfl)
        try simp only [Act.put, List.setIfInBounds_toArray, List.set_cons_zero, List.set_cons_succ]
        refine wpAnyH_take (i := 2) (oi := ⟨some 22, _, _, _, _, _⟩) (v := ?_) rfl (by kernel_rfl) (by kernel_rfl) (by kernel_rfl) (fun _ _ _ h => h) (Or.inl ⟨by rfl, ?_⟩) (by assumption) ?_
        rotate_left
        · (intro w hSw; (try dsimp only at hSw); go_simp; try with_reducible rfl)
        try simp only [Act.put, List.setIfInBounds_toArray, List.set_cons_zero, List.set_cons_succ]
        refine wpAnyH_take (i := 3) (oi := ⟨some 23, _, _, _, _, _⟩) (v := ?_) rfl (by kernel_rfl) (by kernel_rfl) (by kernel_rfl) (fun _ _ _ h => h) (Or.inl ⟨by rfl, ?_⟩) (by assumption) ?_
        rotate_left
        · (intro w hSw; (try dsimp only at hSw); go_simp; try with_reducible rfl)
        try simp only [Act.put, List.setIfInBounds_toArray, List.set_cons_zero, List.set_cons_succ]
        refine wpAnyH_take (i := 4) (oi := ⟨some 24, _, _, _, _, _⟩) (v := ?_) rfl (by kernel_rfl) (by kernel_rfl) (by kernel_rfl) (fun _ _ _ h => h) (Or.inl ⟨by rfl, ?_⟩) (by assumption) ?_
        rotate_left
        · (intro w hSw; (try dsimp only at hSw); go_simp; try with_reducible rfl)
        try simp only [Act.put, List.setIfInBounds_toArray, List.set_cons_zero, List.set_cons_succ]
        refine wpAnyH_ready (rs := [5]) (by kernel_rfl) (by simp) ?_
        refine AllReadyH.cons rfl (fun K hK => ?_) AllReadyH.nil
        go_simp
        refine hCx.mono ?_
        rintro e w3 ⟨rfl, hg3⟩
        have hS6 := And.intro (gd.trans hg3) (And.intro (hg3.cell k0 (by simp)) (And.intro (hg3.cell k1 (by simp)) (hg3.cell hcx (by simp))))
        go_wp2_with fail
        refine hK.out _ _ hS6 (fun hS7 => ?_)
        clear hK
        refine wpAnyH_take (i := 6) (oi := ⟨some 26, _, _, _, _, _⟩) (v := ?_) rfl (by kernel_rfl) (by kernel_rfl) (by kernel_rfl) (fun _ _ _ h => h) (Or.inl ⟨by rfl, ?_⟩) (by assumption) ?_
        rotate_left
        · (intro w hSw; (try dsimp only at hSw); go_simp; try with_reducible rfl)
        try simp only [Act.put, List.setIfInBounds_toArray, List.set_cons_zero, List.set_cons_succ]
        refine wpAnyH_done (by kernel_rfl) ?_ _
        have q1 := q1.kept hS6.1 (by simp)
        have q2 := q2.new hS6.1
        have q4 := q4.trans hS6.1
        clear hS0 hS6 hS7 k0 k1 hcx gd gw hg3 hCx
        have gd := gdrew (World.grownBy.refl w3 none)
        have hcx := cX.out _ (q4.trans gd)
        go_wp2_with fail
        refine wp_region_held_drew (S := fun V => w2.grownBy V none ∧ V.cell? ⟨b9, o9 + i, none⟩ = some (.int .i32 x)) (by kernel_rfl) ⟨q4.trans gd, hcx⟩ (fun hS0 => ?_)
        clear hcx gd
        refine wpAnyH_take (i := 1) (oi := ⟨some 33, _, _, _, _, _⟩) (v := ?_) rfl (by kernel_rfl) (by kernel_rfl) (by kernel_rfl) (fun _ _ _ h => h) (Or.inl ⟨by rfl, ?_⟩) (by assumption) ?_
        rotate_left
        · (intro w hSw; (try dsimp only at hSw); go_simp; try with_reducible rfl)
        try simp only [Act.put, List.setIfInBounds_toArray, List.set_cons_zero, List.set_cons_succ]
        refine wpAnyH_take (i := 3) (oi := ⟨some 35, _, _, _, _, _⟩) (v := ?_) rfl (by kernel_rfl) (by kernel_rfl) (by kernel_rfl) (fun _ _ _ h => h) (Or.inl ⟨by rfl, ?_⟩) (by assumption) ?_
        rotate_left
        · (intro w hSw; (try dsimp only at hSw); go_simp; try with_reducible rfl)
        try simp only [Act.put, List.setIfInBounds_toArray, List.set_cons_zero, List.set_cons_succ]
        refine wpAnyH_take (i := 4) (oi := ⟨some 36, _, _, _, _, _⟩) (v := ?_) rfl (by kernel_rfl) (by kernel_rfl) (by kernel_rfl) (fun _ _ _ h => h) (Or.inl ⟨by rfl, ?_⟩) (by assumption) ?_
        rotate_left
        · (intro w hSw; (try dsimp only at hSw); go_simp; try with_reducible rfl)
        try simp only [Act.put, List.setIfInBounds_toArray, List.set_cons_zero, List.set_cons_succ]
        refine wpAnyH_take (i := 5) (oi := ⟨some 37, _, _, _, _, _⟩) (v := ?_) rfl (by kernel_rfl) (by kernel_rfl) (by kernel_rfl) (fun _ _ _ h => h) (Or.inl ⟨by rfl, ?_⟩) (by assumption) ?_
        rotate_left
        · (intro w hSw; (try dsimp only at hSw); go_simp; try with_reducible rfl)
        try simp only [Act.put, List.setIfInBounds_toArray, List.set_cons_zero, List.set_cons_succ]
        refine wpAnyH_take (i := 6) (oi := ⟨some 38, _, _, _, _, _⟩) (v := ?_) rfl (by kernel_rfl) (by kernel_rfl) (by kernel_rfl) (fun _ _ _ h => h) (Or.inl ⟨by rfl, ?_⟩) (by assumption) ?_
        rotate_left
        · (intro w hSw; (try dsimp only at hSw); go_simp; try with_reducible rfl)
        try simp only [Act.put, List.setIfInBounds_toArray, List.set_cons_zero, List.set_cons_succ]
        refine wpAnyH_ready (rs := [0, 7]) (by kernel_rfl) (by simp) ?_
        refine AllReadyH.cons rfl (fun K hK => ?_) (AllReadyH.cons rfl (fun K hK => ?_) AllReadyH.nil)
        · go_simp
          have Gw5 := (World.grownBy_alloc w3 (.cells #[] 21) none).trans (gdrew (World.grownBy.refl _ none))
          have o0 : OwnN (w3.alloc (.cells #[] 21)).drew w3.heap.size (.slice (some ⟨w3.heap.size, 0, none⟩) 0 0) ([] : List Int) := (own_zero w3).kept (gdrew (World.grownBy.refl _ none)) (by simp)
          have hsw5 : w3.heap.size < (w3.alloc (.cells #[] 21)).drew.heap.size := by show _ < (w3.alloc (.cells #[] 21)).heap.size; rw [World.size_alloc]; omega
          generalize (w3.alloc (.cells #[] 21)).drew = w5 at Gw5 o0 hsw5 ⊢
          refine hK.out _ _ ⟨q4.trans Gw5, cX.out _ (q4.trans Gw5)⟩ (fun hSw5 => ?_)
          clear hK
          refine wpAnyH_ready (rs := [2, 7]) (by kernel_rfl) (by simp) ?_
          refine AllReadyH.cons rfl (fun K hK => ?_) (AllReadyH.cons rfl (fun K hK => ?_) AllReadyH.nil)
          · rw [if_pos (by rfl)]
            refine wp_app_rs w5 (.tmp 32) (.tmp 33) 50 rfl w3.heap.size Tryz.underlying50 (.slice (some ⟨w3.heap.size, 0, none⟩) 0 0) [] rfl o0 (.slice a5 m c5) h1 rfl (q2.new Gw5) (by have := HM.out; simp; omega) (by omega) ?_
            intro v34 w6 ho34 hg34 hb34
            rw [List.nil_append] at ho34
            obtain ⟨a34, c34, rfl⟩ := ho34.form
            rw [← HM.out] at ho34 hb34 ⊢
            have Gw6 : w3.grownBy w6 none := gnew Gw5 hg34 (fun r e => by simp [Value.ownBlock] at e; left; omega)
            have hsw6 : w5.heap.size ≤ w6.heap.size := hg34.size
            refine hK.out _ _ ⟨q4.trans Gw6, cX.out _ (q4.trans Gw6)⟩ (fun hSw6 => ?_)
            clear hK
            refine wpAnyH_ready (rs := [7]) (by kernel_rfl) (by simp) ?_
            refine AllReadyH.cons rfl (fun K hK => ?_) AllReadyH.nil
            go_simp
            have hg67 := World.grownBy_alloc w6 (.cells #[.int .i32 x] 21) none
            have o7 : OwnN (w6.alloc (.cells #[.int .i32 x] 21)) w6.heap.size (.slice (some ⟨w6.heap.size, 0, none⟩) 1 1) [x] := own_one x w6
            have hsw7 : w6.heap.size < (w6.alloc (.cells #[.int .i32 x] 21)).heap.size := by rw [World.size_alloc]; omega
            generalize w6.alloc (.cells #[.int .i32 x] 21) = w7 at hg67 o7 hsw7 ⊢
            have Gw7 := Gw6.trans hg67
            refine hK.out _ _ ⟨q4.trans Gw7, cX.out _ (q4.trans Gw7)⟩ (fun hSw7 => ?_)
            clear hK
            have o34 := ho34.kept (World.grownBy.trans (World.grownBy.refl w6 none) hg67) (by simp)
            refine wpAnyH_ready (rs := [8]) (by kernel_rfl) (by simp) ?_
            refine AllReadyH.cons rfl (fun K hK => ?_) AllReadyH.nil
            rw [if_pos (by rfl)]
            refine wp_app_rs w7 (.tmp 34) (.tmp 39) 50 rfl w3.heap.size Tryz.underlying50 (.slice a34 m c34) h1 rfl (o34) (.slice (some ⟨w6.heap.size, 0, none⟩) 1 1) [x] rfl (o7).ro.reads (by have := HM.out; simp; omega) (by omega) ?_
            intro v40 w9 ho40 hg40 hb40
            obtain ⟨a40, c40, rfl⟩ := ho40.form
            have hn40 : (h1 ++ [x]).length = m + 1 := by rw [List.length_append, HM.out]; rfl
            rw [hn40] at ho40 hb40 ⊢
            have G9 : w3.grownBy w9 none := gnew Gw7 hg40 (fun r e => by have := ((o34).lt r e).1; left; omega)
            refine hK.out _ _ ⟨q4.trans G9, cX.out _ (q4.trans G9)⟩ (fun hS9 => ?_)
            clear hK
            refine wpAnyH_ready (rs := [9]) (by kernel_rfl) (by simp) ?_
            refine AllReadyH.cons rfl (fun K hK => ?_) AllReadyH.nil
            go_simp
            refine hK.out _ _ hS9 (fun hS10 => ?_)
            clear hK
            refine wpAnyH_done (by kernel_rfl) ?_ _
            have hv1 : OwnN w9 w3.heap.size (.slice a40 (m + 1) c40) (h1 ++ [x]) := ownLow ho40 (by omega)
            have Q : Aside (RPI f held xs w2 (i + 1) (.slice a8 m8 c8) (.slice a40 (m + 1) c40) w9) := by
              show RPI _ _ _ _ _ _ _ _
              unfold RPI
              rw [hpi.out]
              refine ⟨q1.kept G9 (by simp), ?_, fun q e e' => ?_, q4.trans G9, fun _ q e => Nat.le_trans q4.size (hv1.lt q e).1⟩
              · have := hv1.ro.reads
                exact this
              · have h1' := (hv1.lt q e').1
                have h2' := (q1.lt q e).2
                omega
            clear G9 hv1 q1 q2 q4 hS9 hS10
            go_wp2_with fail
            go_roundw
            case rel => exact ⟨i + 1, by go_num, by omega, Q⟩
            case measure => simp [RowKit.intOf]; omega
          · go_simp
            have hg56 := World.grownBy_alloc w5 (.cells #[.int .i32 x] 21) none
            have o7 : OwnN (w5.alloc (.cells #[.int .i32 x] 21)) w5.heap.size (.slice (some ⟨w5.heap.size, 0, none⟩) 1 1) [x] := own_one x w5
            have hsw6 : w5.heap.size < (w5.alloc (.cells #[.int .i32 x] 21)).heap.size := by rw [World.size_alloc]; omega
            generalize w5.alloc (.cells #[.int .i32 x] 21) = w6 at hg56 o7 hsw6 ⊢
            have Gw6 := Gw5.trans hg56
            refine hK.out _ _ ⟨q4.trans Gw6, cX.out _ (q4.trans Gw6)⟩ (fun hSw6 => ?_)
            clear hK
            have o06 := o0.kept hg56 (by simp)
            refine wpAnyH_ready (rs := [2]) (by kernel_rfl) (by simp) ?_
            refine AllReadyH.cons rfl (fun K hK => ?_) AllReadyH.nil
            rw [if_pos (by rfl)]
            refine wp_app_rs w6 (.tmp 32) (.tmp 33) 50 rfl w3.heap.size Tryz.underlying50 (.slice (some ⟨w3.heap.size, 0, none⟩) 0 0) [] rfl o06 (.slice a5 m c5) h1 rfl (q2.new Gw6) (by have := HM.out; simp; omega) (by omega) ?_
            intro v34 w7 ho34 hg34 hb34
            rw [List.nil_append] at ho34
            obtain ⟨a34, c34, rfl⟩ := ho34.form
            rw [← HM.out] at ho34 hb34 ⊢
            have Gw7 : w3.grownBy w7 none := gnew Gw6 hg34 (fun r e => by simp [Value.ownBlock] at e; left; omega)
            have hsw7 : w6.heap.size ≤ w7.heap.size := hg34.size
            refine hK.out _ _ ⟨q4.trans Gw7, cX.out _ (q4.trans Gw7)⟩ (fun hSw7 => ?_)
            clear hK
            have o77 := o7.kept hg34 (fun k e e' => by simp [Value.ownBlock] at e e'; omega)
            refine wpAnyH_ready (rs := [8]) (by kernel_rfl) (by simp) ?_
            refine AllReadyH.cons rfl (fun K hK => ?_) AllReadyH.nil
            rw [if_pos (by rfl)]
            refine wp_app_rs w7 (.tmp 34) (.tmp 39) 50 rfl w3.heap.size Tryz.underlying50 (.slice a34 m c34) h1 rfl (ho34) (.slice (some ⟨w5.heap.size, 0, none⟩) 1 1) [x] rfl (o77).ro.reads (by have := HM.out; simp; omega) (by omega) ?_
            intro v40 w9 ho40 hg40 hb40
            obtain ⟨a40, c40, rfl⟩ := ho40.form
            have hn40 : (h1 ++ [x]).length = m + 1 := by rw [List.length_append, HM.out]; rfl
            rw [hn40] at ho40 hb40 ⊢
            have G9 : w3.grownBy w9 none := gnew Gw7 hg40 (fun r e => by have := ((ho34).lt r e).1; left; omega)
            refine hK.out _ _ ⟨q4.trans G9, cX.out _ (q4.trans G9)⟩ (fun hS9 => ?_)
            clear hK
            refine wpAnyH_ready (rs := [9]) (by kernel_rfl) (by simp) ?_
            refine AllReadyH.cons rfl (fun K hK => ?_) AllReadyH.nil
            go_simp
            refine hK.out _ _ hS9 (fun hS10 => ?_)
            clear hK
            refine wpAnyH_done (by kernel_rfl) ?_ _
            have hv1 : OwnN w9 w3.heap.size (.slice a40 (m + 1) c40) (h1 ++ [x]) := ownLow ho40 (by omega)
            have Q : Aside (RPI f held xs w2 (i + 1) (.slice a8 m8 c8) (.slice a40 (m + 1) c40) w9) := by
              show RPI _ _ _ _ _ _ _ _
              unfold RPI
              rw [hpi.out]
              refine ⟨q1.kept G9 (by simp), ?_, fun q e e' => ?_, q4.trans G9, fun _ q e => Nat.le_trans q4.size (hv1.lt q e).1⟩
              · have := hv1.ro.reads
                exact this
              · have h1' := (hv1.lt q e').1
                have h2' := (q1.lt q e).2
                omega
            clear G9 hv1 q1 q2 q4 hS9 hS10
            go_wp2_with fail
            go_roundw
            case rel => exact ⟨i + 1, by go_num, by omega, Q⟩
            case measure => simp [RowKit.intOf]; omega
        · go_simp
          have Gw5 := (World.grownBy_alloc w3 (.cells #[.int .i32 x] 21) none).trans (gdrew (World.grownBy.refl _ none))
          have o7 : OwnN (w3.alloc (.cells #[.int .i32 x] 21)).drew w3.heap.size (.slice (some ⟨w3.heap.size, 0, none⟩) 1 1) [x] := (own_one x w3).kept (gdrew (World.grownBy.refl _ none)) (by simp)
          have hsw5 : w3.heap.size < (w3.alloc (.cells #[.int .i32 x] 21)).drew.heap.size := by show _ < (w3.alloc (.cells #[.int .i32 x] 21)).heap.size; rw [World.size_alloc]; omega
          generalize (w3.alloc (.cells #[.int .i32 x] 21)).drew = w5 at Gw5 o7 hsw5 ⊢
          refine hK.out _ _ ⟨q4.trans Gw5, cX.out _ (q4.trans Gw5)⟩ (fun hSw5 => ?_)
          clear hK
          refine wpAnyH_ready (rs := [0]) (by kernel_rfl) (by simp) ?_
          refine AllReadyH.cons rfl (fun K hK => ?_) AllReadyH.nil
          go_simp
          have hg56 := World.grownBy_alloc w5 (.cells #[] 21) none
          have o0 : OwnN (w5.alloc (.cells #[] 21)) w5.heap.size (.slice (some ⟨w5.heap.size, 0, none⟩) 0 0) ([] : List Int) := own_zero w5
          have hsw6 : w5.heap.size < (w5.alloc (.cells #[] 21)).heap.size := by rw [World.size_alloc]; omega
          generalize w5.alloc (.cells #[] 21) = w6 at hg56 o0 hsw6 ⊢
          have Gw6 := Gw5.trans hg56
          refine hK.out _ _ ⟨q4.trans Gw6, cX.out _ (q4.trans Gw6)⟩ (fun hSw6 => ?_)
          clear hK
          have o76 := o7.kept hg56 (by simp)
          refine wpAnyH_ready (rs := [2]) (by kernel_rfl) (by simp) ?_
          refine AllReadyH.cons rfl (fun K hK => ?_) AllReadyH.nil
          rw [if_pos (by rfl)]
          refine wp_app_rs w6 (.tmp 32) (.tmp 33) 50 rfl w5.heap.size Tryz.underlying50 (.slice (some ⟨w5.heap.size, 0, none⟩) 0 0) [] rfl o0 (.slice a5 m c5) h1 rfl (q2.new Gw6) (by have := HM.out; simp; omega) (by omega) ?_
          intro v34 w7 ho34 hg34 hb34
          rw [List.nil_append] at ho34
          obtain ⟨a34, c34, rfl⟩ := ho34.form
          rw [← HM.out] at ho34 hb34 ⊢
          have Gw7 : w3.grownBy w7 none := gnew Gw6 hg34 (fun r e => by simp [Value.ownBlock] at e; left; omega)
          have hsw7 : w6.heap.size ≤ w7.heap.size := hg34.size
          refine hK.out _ _ ⟨q4.trans Gw7, cX.out _ (q4.trans Gw7)⟩ (fun hSw7 => ?_)
          clear hK
          have o77 := o76.kept hg34 (fun k e e' => by simp [Value.ownBlock] at e e'; omega)
          refine wpAnyH_ready (rs := [8]) (by kernel_rfl) (by simp) ?_
          refine AllReadyH.cons rfl (fun K hK => ?_) AllReadyH.nil
          rw [if_pos (by rfl)]
          refine wp_app_rs w7 (.tmp 34) (.tmp 39) 50 rfl w5.heap.size Tryz.underlying50 (.slice a34 m c34) h1 rfl (ho34) (.slice (some ⟨w3.heap.size, 0, none⟩) 1 1) [x] rfl (o77).ro.reads (by have := HM.out; simp; omega) (by omega) ?_
          intro v40 w9 ho40 hg40 hb40
          obtain ⟨a40, c40, rfl⟩ := ho40.form
          have hn40 : (h1 ++ [x]).length = m + 1 := by rw [List.length_append, HM.out]; rfl
          rw [hn40] at ho40 hb40 ⊢
          have G9 : w3.grownBy w9 none := gnew Gw7 hg40 (fun r e => by have := ((ho34).lt r e).1; left; omega)
          refine hK.out _ _ ⟨q4.trans G9, cX.out _ (q4.trans G9)⟩ (fun hS9 => ?_)
          clear hK
          refine wpAnyH_ready (rs := [9]) (by kernel_rfl) (by simp) ?_
          refine AllReadyH.cons rfl (fun K hK => ?_) AllReadyH.nil
          go_simp
          refine hK.out _ _ hS9 (fun hS10 => ?_)
          clear hK
          refine wpAnyH_done (by kernel_rfl) ?_ _
          have hv1 : OwnN w9 w3.heap.size (.slice a40 (m + 1) c40) (h1 ++ [x]) := ownLow ho40 (by omega)
          have Q : Aside (RPI f held xs w2 (i + 1) (.slice a8 m8 c8) (.slice a40 (m + 1) c40) w9) := by
            show RPI _ _ _ _ _ _ _ _
            unfold RPI
            rw [hpi.out]
            refine ⟨q1.kept G9 (by simp), ?_, fun q e e' => ?_, q4.trans G9, fun _ q e => Nat.le_trans q4.size (hv1.lt q e).1⟩
            · have := hv1.ro.reads
              exact this
            · have h1' := (hv1.lt q e').1
              have h2' := (q1.lt q e).2
              omega
          clear G9 hv1 q1 q2 q4 hS9 hS10
          go_wp2_with fail
          go_roundw
          case rel => exact ⟨i + 1, by go_num, by omega, Q⟩
          case measure => simp [RowKit.intOf]; omega
    · obtain rfl : N = i := by omega
      obtain ⟨q1, q2, _, q4, q5⟩ := hM0
      have hr1 := q1.ro.reads
      have hg5 := hgw2.out.trans q4
      obtain ⟨a8, c8, rfl⟩ := q1.form
      obtain ⟨a5, c5, rfl, _⟩ := id q2
      replace hr1 := Lib.hid hr1
      replace q2 := Lib.hid q2
      replace q5 := Lib.hid q5
      clear hM q1 q4 hps hpl
      go_wp2_with fail
      go_ret2
      exact ⟨_, _, rfl, hr1.out, q2.out, hg5, fun q e => Nat.le_trans hgw2.out.size (q5.out hne q e)⟩
end Go.Proofs.YtpdacbiiaglodaaGreat
