/-
  LAYER 6 (norm): the law NormEquivalent.
-/
import Derived.Test.YtpdacbiiaglodaaGreatQE46
import Derived.Test.YtpdacbiiaglodaaGreatQE45
namespace Go.Proofs.YtpdacbiiaglodaaGreat
set_option maxRecDepth 100000
open Go.RowKit Go.Lib

theorem small_dS : DfOk dS := small_dfok
/-- Small data, made and loaded: what the law's small() tells. -/
theorem small_nd (w : World) :
    Calls Tryz.prog 20 #[] w fun e w' => ∃ n vc vd F, e = .returned (.tuple #[.pointer (some ⟨n, 0, none⟩), .agg #[vc, vd]]) ∧ w.heap.size ≤ n ∧ Dat w' vc vd smallC smallD ∧ ND (.pointer (some ⟨n, 0, none⟩)) cS dS F w' ∧ w.grownBy w' none := by
  refine (small_any w).mono ?_
  rintro e w' ⟨n, vc, vd, rfl, h1, h2, ⟨F, h3, _⟩, h4⟩
  exact ⟨n, vc, vd, F, rfl, h1, h2, h3, h4⟩
theorem sized_of (s : ByteArray) : s.data.toList.length = s.size := by simp

/-- What three pairs of texts are found. -/
theorem eq_facts (a b c : List UInt8) (ha : txE a = 0) (hb : txE b = 0) (hc : txE c = 0) :
    cmE b a = 0 ∧ cmE a c = 0 ∧ smV cS dS b a = smV cS dS a b ∧ (smV cS dS a b = true → smV cS dS b c = true → smV cS dS a c = true) ∧ ((txV cS dS a).length ≤ 1000 → cmE a (txV cS dS a) = 0 ∧ smV cS dS a (txV cS dS a) = true) := by
  refine ⟨by unfold cmE; rw [hb, if_pos rfl, ha], by unfold cmE; rw [ha, if_pos rfl, hc], ?_, ?_, fun hl => ?_⟩
  · unfold smV
    rw [decide_eq_decide]
    exact ⟨fun h => ⟨h.2.1, h.1, h.2.2.symm⟩, fun h => ⟨h.2.1, h.1, h.2.2.symm⟩⟩
  · unfold smV
    simp only [decide_eq_true_eq]
    exact fun h g => ⟨h.1, g.2.1, h.2.2.trans g.2.2⟩
  · obtain ⟨h1, h2⟩ := txV_once (cf := cS) small_dS hl
    exact ⟨by unfold cmE; rw [ha, if_pos rfl, h1], by unfold smV; rw [decide_eq_true_eq]; exact ⟨ha, h1, h2.symm⟩⟩
theorem cmE_zero {a b : List UInt8} (h : txE a = 0) (h2 : cmE a b = 0) : txE b = 0 := by unfold cmE at h2; rwa [if_pos h] at h2

set_option maxHeartbeats 4000000 in
theorem equiv_long (w : World) (a b c : ByteArray) (ha : a.size ≤ 140737488351232) (hb : b.size ≤ 140737488351232) (hc : c.size ≤ 140737488351232) (h : 3000 < a.size + b.size + c.size) :
    Calls Tryz.prog 5 #[.string a, .string b, .string c] w fun e w' => e = .returned (.bool true) ∧ Below w.heap.size w w' := by
  have hA := fun w => mawake_any w
  have hz : decide ((3000 : Int) < (a.size : Int) + (b.size : Int) + (c.size : Int)) = true := by simp; omega
  go_enter Tryz.func5, Tryz.ntmps5
  go_wp2_with (go_at_call 19; refine (hA _).mono ?_; rintro e w1 ⟨rfl, hg1⟩)
  go_ret
  exact ⟨rfl, belowg' hg1⟩

/-- The world behind the first part. -/
def Front (w W : World) (p : Value) (F : Nat → Prop) : Prop := ND p cS dS F W ∧ GX (fun k => w.heap.size ≤ k) w W
theorem Front.next {w W W2 : World} {n : Nat} {F F2 : Nat → Prop} (h : Front w W (.pointer (some ⟨n, 0, none⟩)) F) (hn : w.heap.size ≤ n) (h2 : ND (.pointer (some ⟨n, 0, none⟩)) cS dS F2 W2) (g : GX (fun k => (.pointer (some ⟨n, 0, none⟩) : Value) = .pointer (some ⟨k, 0, none⟩)) W W2) : Front w W2 (.pointer (some ⟨n, 0, none⟩)) F2 :=
  ⟨h2, h.2.trans g (fun _ e => .inl (by cases e; exact hn))⟩
theorem Front.below {w W : World} {p : Value} {F : Nat → Prop} (h : Front w W p F) : Below w.heap.size w W := belowg' (h.2.one (fun _ h => .inr h))

theorem ne_of {z : Int} (h : z ≠ 0) : (z != 0) = true := by simpa using h
set_option maxHeartbeats 8000000 in
theorem equiv_err1 (w : World) (a b c : ByteArray) (h : a.size + b.size + c.size ≤ 3000) (hE : txE a.data.toList ≠ 0) :
    Calls Tryz.prog 5 #[.string a, .string b, .string c] w fun e w' => e = .returned (.bool true) ∧ Below w.heap.size w w' := by
  have hA := fun w => mawake_any w
  have hS := fun w => small_nd w
  have hTa := fun p F W (hN : ND p cS dS F W) => text_any p cS dS F a W hN small_dS (by omega)
  have hab := fun p F W (hN : ND p cS dS F W) => msame_any p cS dS F a b W hN small_dS (by omega) (by omega)
  have hbc := fun p F W (hN : ND p cS dS F W) => msame_any p cS dS F b c W hN small_dS (by omega) (by omega)
  have hz : decide ((3000 : Int) < (a.size : Int) + (b.size : Int) + (c.size : Int)) = false := by simp; omega
  unfold TxPost at hTa hab hbc
  generalize txE a.data.toList = E at *
  generalize cmE a.data.toList b.data.toList = e1 at *
  generalize cmE b.data.toList c.data.toList = e2 at *
  generalize smV cS dS a.data.toList b.data.toList = x at *
  generalize smV cS dS b.data.toList c.data.toList = y at *
  generalize (⟨(txV cS dS a.data.toList).toArray⟩ : ByteArray) = s at *
  skip
  have k1 := ne_of hE
  clear hE
  go_enter Tryz.func5, Tryz.ntmps5
  go_wp2_with fail
  go_at_call 19
  refine (hA _).mono ?_
  rintro e w1 ⟨rfl, hg1⟩
  go_wp2_with fail
  go_at_call 20
  refine (hS _).mono ?_
  rintro e w2 ⟨n, vc, vd, F2, rfl, hn, hT, hN2, hg2⟩
  obtain ⟨x1, y1, rfl, _, _⟩ := hT.1.form
  obtain ⟨x2, y2, rfl, _, _⟩ := hT.2.form
  clear hT hA hS
  generalize smallC.length = l1
  generalize smallD.length = l2
  obtain ⟨W, hW⟩ : ∃ W, W = w2.alloc (.cells #[.slice x1 l1 y1, .slice x2 l2 y2] 59) := ⟨_, rfl⟩
  have hgW : w2.grownBy W none := by rw [hW]; exact World.grownBy_alloc _ _ none
  have hF : Front w W (.pointer (some ⟨n, 0, none⟩)) F2 := ⟨hN2.new hgW, GX.of ((hg1.trans hg2).trans hgW) (by simp)⟩
  have hnw : w.heap.size ≤ n := Nat.le_trans hg1.size hn
  replace hW := Lib.hid hW
  replace hF := Lib.hid hF
  clear hN2 hgW hg1 hg2 hn
  go_wp2_with fail
  rw [← hW.out]
  go_at_call 21
  refine (hTa _ _ _ hF.out.1).mono ?_
  rintro e w3 ⟨rfl, F3, hN3, _, _, x3⟩
  replace hF := Lib.hid (hF.out.next hnw hN3 x3)
  clear hTa hN3 x3 hW
  go_wp2_with fail
  go_at_call 23
  refine (hab _ _ _ hF.out.1).mono ?_
  rintro e w4 ⟨rfl, F4, hN4, _, _, x4⟩
  replace hF := Lib.hid (hF.out.next hnw hN4 x4)
  clear hab hN4 x4
  go_wp2_with fail
  go_at_call 23
  refine (hbc _ _ _ hF.out.1).mono ?_
  rintro e w5 ⟨rfl, F5, hN5, _, _, x5⟩
  replace hF := Lib.hid (hF.out.next hnw hN5 x5)
  clear hbc hN5 x5
  go_wp2
  all_goals (go_ret; exact ⟨rfl, hF.out.below⟩)
set_option maxHeartbeats 8000000 in
theorem equiv_err2 (w : World) (a b c : ByteArray) (h : a.size + b.size + c.size ≤ 3000) (hE : txE a.data.toList = 0 ∧ cmE a.data.toList b.data.toList ≠ 0) :
    Calls Tryz.prog 5 #[.string a, .string b, .string c] w fun e w' => e = .returned (.bool true) ∧ Below w.heap.size w w' := by
  have hA := fun w => mawake_any w
  have hS := fun w => small_nd w
  have hTa := fun p F W (hN : ND p cS dS F W) => text_any p cS dS F a W hN small_dS (by omega)
  have hab := fun p F W (hN : ND p cS dS F W) => msame_any p cS dS F a b W hN small_dS (by omega) (by omega)
  have hbc := fun p F W (hN : ND p cS dS F W) => msame_any p cS dS F b c W hN small_dS (by omega) (by omega)
  have hz : decide ((3000 : Int) < (a.size : Int) + (b.size : Int) + (c.size : Int)) = false := by simp; omega
  unfold TxPost at hTa hab hbc
  generalize txE a.data.toList = E at *
  generalize cmE a.data.toList b.data.toList = e1 at *
  generalize cmE b.data.toList c.data.toList = e2 at *
  generalize smV cS dS a.data.toList b.data.toList = x at *
  generalize smV cS dS b.data.toList c.data.toList = y at *
  generalize (⟨(txV cS dS a.data.toList).toArray⟩ : ByteArray) = s at *
  obtain ⟨rfl, hE⟩ := hE
  have k1 := ne_of hE
  clear hE
  go_enter Tryz.func5, Tryz.ntmps5
  go_wp2_with fail
  go_at_call 19
  refine (hA _).mono ?_
  rintro e w1 ⟨rfl, hg1⟩
  go_wp2_with fail
  go_at_call 20
  refine (hS _).mono ?_
  rintro e w2 ⟨n, vc, vd, F2, rfl, hn, hT, hN2, hg2⟩
  obtain ⟨x1, y1, rfl, _, _⟩ := hT.1.form
  obtain ⟨x2, y2, rfl, _, _⟩ := hT.2.form
  clear hT hA hS
  generalize smallC.length = l1
  generalize smallD.length = l2
  obtain ⟨W, hW⟩ : ∃ W, W = w2.alloc (.cells #[.slice x1 l1 y1, .slice x2 l2 y2] 59) := ⟨_, rfl⟩
  have hgW : w2.grownBy W none := by rw [hW]; exact World.grownBy_alloc _ _ none
  have hF : Front w W (.pointer (some ⟨n, 0, none⟩)) F2 := ⟨hN2.new hgW, GX.of ((hg1.trans hg2).trans hgW) (by simp)⟩
  have hnw : w.heap.size ≤ n := Nat.le_trans hg1.size hn
  replace hW := Lib.hid hW
  replace hF := Lib.hid hF
  clear hN2 hgW hg1 hg2 hn
  go_wp2_with fail
  rw [← hW.out]
  go_at_call 21
  refine (hTa _ _ _ hF.out.1).mono ?_
  rintro e w3 ⟨rfl, F3, hN3, _, _, x3⟩
  replace hF := Lib.hid (hF.out.next hnw hN3 x3)
  clear hTa hN3 x3 hW
  go_wp2_with fail
  go_at_call 23
  refine (hab _ _ _ hF.out.1).mono ?_
  rintro e w4 ⟨rfl, F4, hN4, _, _, x4⟩
  replace hF := Lib.hid (hF.out.next hnw hN4 x4)
  clear hab hN4 x4
  go_wp2_with fail
  go_at_call 23
  refine (hbc _ _ _ hF.out.1).mono ?_
  rintro e w5 ⟨rfl, F5, hN5, _, _, x5⟩
  replace hF := Lib.hid (hF.out.next hnw hN5 x5)
  clear hbc hN5 x5
  go_wp2
  all_goals (go_ret; exact ⟨rfl, hF.out.below⟩)
set_option maxHeartbeats 8000000 in
theorem equiv_err3 (w : World) (a b c : ByteArray) (h : a.size + b.size + c.size ≤ 3000) (hE : txE a.data.toList = 0 ∧ cmE a.data.toList b.data.toList = 0 ∧ cmE b.data.toList c.data.toList ≠ 0) :
    Calls Tryz.prog 5 #[.string a, .string b, .string c] w fun e w' => e = .returned (.bool true) ∧ Below w.heap.size w w' := by
  have hA := fun w => mawake_any w
  have hS := fun w => small_nd w
  have hTa := fun p F W (hN : ND p cS dS F W) => text_any p cS dS F a W hN small_dS (by omega)
  have hab := fun p F W (hN : ND p cS dS F W) => msame_any p cS dS F a b W hN small_dS (by omega) (by omega)
  have hbc := fun p F W (hN : ND p cS dS F W) => msame_any p cS dS F b c W hN small_dS (by omega) (by omega)
  have hz : decide ((3000 : Int) < (a.size : Int) + (b.size : Int) + (c.size : Int)) = false := by simp; omega
  unfold TxPost at hTa hab hbc
  generalize txE a.data.toList = E at *
  generalize cmE a.data.toList b.data.toList = e1 at *
  generalize cmE b.data.toList c.data.toList = e2 at *
  generalize smV cS dS a.data.toList b.data.toList = x at *
  generalize smV cS dS b.data.toList c.data.toList = y at *
  generalize (⟨(txV cS dS a.data.toList).toArray⟩ : ByteArray) = s at *
  obtain ⟨rfl, rfl, hE⟩ := hE
  have k1 := ne_of hE
  clear hE
  go_enter Tryz.func5, Tryz.ntmps5
  go_wp2_with fail
  go_at_call 19
  refine (hA _).mono ?_
  rintro e w1 ⟨rfl, hg1⟩
  go_wp2_with fail
  go_at_call 20
  refine (hS _).mono ?_
  rintro e w2 ⟨n, vc, vd, F2, rfl, hn, hT, hN2, hg2⟩
  obtain ⟨x1, y1, rfl, _, _⟩ := hT.1.form
  obtain ⟨x2, y2, rfl, _, _⟩ := hT.2.form
  clear hT hA hS
  generalize smallC.length = l1
  generalize smallD.length = l2
  obtain ⟨W, hW⟩ : ∃ W, W = w2.alloc (.cells #[.slice x1 l1 y1, .slice x2 l2 y2] 59) := ⟨_, rfl⟩
  have hgW : w2.grownBy W none := by rw [hW]; exact World.grownBy_alloc _ _ none
  have hF : Front w W (.pointer (some ⟨n, 0, none⟩)) F2 := ⟨hN2.new hgW, GX.of ((hg1.trans hg2).trans hgW) (by simp)⟩
  have hnw : w.heap.size ≤ n := Nat.le_trans hg1.size hn
  replace hW := Lib.hid hW
  replace hF := Lib.hid hF
  clear hN2 hgW hg1 hg2 hn
  go_wp2_with fail
  rw [← hW.out]
  go_at_call 21
  refine (hTa _ _ _ hF.out.1).mono ?_
  rintro e w3 ⟨rfl, F3, hN3, _, _, x3⟩
  replace hF := Lib.hid (hF.out.next hnw hN3 x3)
  clear hTa hN3 x3 hW
  go_wp2_with fail
  go_at_call 23
  refine (hab _ _ _ hF.out.1).mono ?_
  rintro e w4 ⟨rfl, F4, hN4, _, _, x4⟩
  replace hF := Lib.hid (hF.out.next hnw hN4 x4)
  clear hab hN4 x4
  go_wp2_with fail
  go_at_call 23
  refine (hbc _ _ _ hF.out.1).mono ?_
  rintro e w5 ⟨rfl, F5, hN5, _, _, x5⟩
  replace hF := Lib.hid (hF.out.next hnw hN5 x5)
  clear hbc hN5 x5
  go_wp2
  all_goals (go_ret; exact ⟨rfl, hF.out.below⟩)

set_option maxHeartbeats 8000000 in
/-- All three are texts that keep. -/
theorem equiv_walk1 (w : World) (a b c s : ByteArray) (x y z : Bool) (own : Bool) (e6 : Int) (h : a.size + b.size + c.size ≤ 3000) (hs : 1000 < s.size) (hx : x = true → y = true → z = true)
    (hTa : ∀ p F W, ND p cS dS F W → Calls Tryz.prog 21 #[p, .string a] W fun e w' => e = .returned (.tuple #[.string s, .int .i64 0]) ∧ TxPost p cS dS F W w')
    (hab : ∀ p F W, ND p cS dS F W → Calls Tryz.prog 23 #[p, .string a, .string b] W fun e w' => e = .returned (.tuple #[.bool x, .int .i64 0]) ∧ TxPost p cS dS F W w')
    (hbc : ∀ p F W, ND p cS dS F W → Calls Tryz.prog 23 #[p, .string b, .string c] W fun e w' => e = .returned (.tuple #[.bool y, .int .i64 0]) ∧ TxPost p cS dS F W w')
    (hba : ∀ p F W, ND p cS dS F W → Calls Tryz.prog 23 #[p, .string b, .string a] W fun e w' => e = .returned (.tuple #[.bool x, .int .i64 0]) ∧ TxPost p cS dS F W w')
    (hac : ∀ p F W, ND p cS dS F W → Calls Tryz.prog 23 #[p, .string a, .string c] W fun e w' => e = .returned (.tuple #[.bool z, .int .i64 0]) ∧ TxPost p cS dS F W w')
    (hown : ∀ p F W, ND p cS dS F W → Calls Tryz.prog 23 #[p, .string a, .string s] W fun e w' => e = .returned (.tuple #[.bool own, .int .i64 e6]) ∧ TxPost p cS dS F W w') :
    Calls Tryz.prog 5 #[.string a, .string b, .string c] w fun e w' => e = .returned (.bool true) ∧ Below w.heap.size w w' := by
  have hA := fun w => mawake_any w
  have hS := fun w => small_nd w
  have hz : decide ((3000 : Int) < (a.size : Int) + (b.size : Int) + (c.size : Int)) = false := by simp; omega
  unfold TxPost at hTa hab hbc hba hac hown
  go_enter Tryz.func5, Tryz.ntmps5
  go_wp2_with fail
  go_at_call 19
  refine (hA _).mono ?_
  rintro e w1 ⟨rfl, hg1⟩
  go_wp2_with fail
  go_at_call 20
  refine (hS _).mono ?_
  rintro e w2 ⟨n, vc, vd, F2, rfl, hn, hT, hN2, hg2⟩
  obtain ⟨x1, y1, rfl, _, _⟩ := hT.1.form
  obtain ⟨x2, y2, rfl, _, _⟩ := hT.2.form
  clear hT hA hS
  generalize smallC.length = l1
  generalize smallD.length = l2
  obtain ⟨W, hW⟩ : ∃ W, W = w2.alloc (.cells #[.slice x1 l1 y1, .slice x2 l2 y2] 59) := ⟨_, rfl⟩
  have hgW : w2.grownBy W none := by rw [hW]; exact World.grownBy_alloc _ _ none
  have hF : Front w W (.pointer (some ⟨n, 0, none⟩)) F2 := ⟨hN2.new hgW, GX.of ((hg1.trans hg2).trans hgW) (by simp)⟩
  have hnw : w.heap.size ≤ n := Nat.le_trans hg1.size hn
  replace hW := Lib.hid hW
  replace hF := Lib.hid hF
  replace hx := Lib.hid hx
  clear hN2 hgW hg1 hg2 hn
  go_wp2_with fail
  rw [← hW.out]
  go_at_call 21
  refine (hTa _ _ _ hF.out.1).mono ?_
  rintro e w3 ⟨rfl, F3, hN3, _, _, x3⟩
  replace hF := Lib.hid (hF.out.next hnw hN3 x3)
  clear hTa hN3 x3 hW
  go_wp2_with fail
  go_at_call 23
  refine (hab _ _ _ hF.out.1).mono ?_
  rintro e w4 ⟨rfl, F4, hN4, _, _, x4⟩
  replace hF := Lib.hid (hF.out.next hnw hN4 x4)
  clear hab hN4 x4
  go_wp2_with fail
  go_at_call 23
  refine (hbc _ _ _ hF.out.1).mono ?_
  rintro e w5 ⟨rfl, F5, hN5, _, _, x5⟩
  replace hF := Lib.hid (hF.out.next hnw hN5 x5)
  clear hbc hN5 x5
  go_wp2_with fail
  go_at_call 23
  refine (hba _ _ _ hF.out.1).mono ?_
  rintro e w6 ⟨rfl, F6, hN6, _, _, x6⟩
  replace hF := Lib.hid (hF.out.next hnw hN6 x6)
  clear hba hN6 x6
  go_wp2_with fail
  go_at_call 23
  refine (hac _ _ _ hF.out.1).mono ?_
  rintro e w7 ⟨rfl, F7, hN7, _, _, x7⟩
  replace hF := Lib.hid (hF.out.next hnw hN7 x7)
  clear hac hN7 x7
  go_wp2_with fail
  go_at_call 23
  refine (hown _ _ _ hF.out.1).mono ?_
  rintro e w8 ⟨rfl, F8, hN8, _, _, x8⟩
  replace hF := Lib.hid (hF.out.next hnw hN8 x8)
  clear hown hN8 x8
  have hxx : x = false ∨ (x = true ∧ y = false) ∨ (x = true ∧ y = true ∧ z = true) := by
    cases hx1 : x
    · exact .inl rfl
    · cases hy1 : y
      · exact .inr (.inl ⟨rfl, rfl⟩)
      · exact .inr (.inr ⟨rfl, rfl, hx.out hx1 hy1⟩)
  clear hx
  rcases hxx with rfl | ⟨rfl, rfl⟩ | ⟨rfl, rfl, rfl⟩
  all_goals
    go_wp2
    go_ret
    exact ⟨rfl, hF.out.below⟩
set_option maxHeartbeats 8000000 in
/-- All three are texts that keep. -/
theorem equiv_walk2 (w : World) (a b c s : ByteArray) (x y z : Bool) (_ : True) (h : a.size + b.size + c.size ≤ 3000) (hs : s.size ≤ 1000) (hx : x = true → y = true → z = true)
    (hTa : ∀ p F W, ND p cS dS F W → Calls Tryz.prog 21 #[p, .string a] W fun e w' => e = .returned (.tuple #[.string s, .int .i64 0]) ∧ TxPost p cS dS F W w')
    (hab : ∀ p F W, ND p cS dS F W → Calls Tryz.prog 23 #[p, .string a, .string b] W fun e w' => e = .returned (.tuple #[.bool x, .int .i64 0]) ∧ TxPost p cS dS F W w')
    (hbc : ∀ p F W, ND p cS dS F W → Calls Tryz.prog 23 #[p, .string b, .string c] W fun e w' => e = .returned (.tuple #[.bool y, .int .i64 0]) ∧ TxPost p cS dS F W w')
    (hba : ∀ p F W, ND p cS dS F W → Calls Tryz.prog 23 #[p, .string b, .string a] W fun e w' => e = .returned (.tuple #[.bool x, .int .i64 0]) ∧ TxPost p cS dS F W w')
    (hac : ∀ p F W, ND p cS dS F W → Calls Tryz.prog 23 #[p, .string a, .string c] W fun e w' => e = .returned (.tuple #[.bool z, .int .i64 0]) ∧ TxPost p cS dS F W w')
    (hown : ∀ p F W, ND p cS dS F W → Calls Tryz.prog 23 #[p, .string a, .string s] W fun e w' => e = .returned (.tuple #[.bool true, .int .i64 0]) ∧ TxPost p cS dS F W w') :
    Calls Tryz.prog 5 #[.string a, .string b, .string c] w fun e w' => e = .returned (.bool true) ∧ Below w.heap.size w w' := by
  have hA := fun w => mawake_any w
  have hS := fun w => small_nd w
  have hz : decide ((3000 : Int) < (a.size : Int) + (b.size : Int) + (c.size : Int)) = false := by simp; omega
  unfold TxPost at hTa hab hbc hba hac hown
  go_enter Tryz.func5, Tryz.ntmps5
  go_wp2_with fail
  go_at_call 19
  refine (hA _).mono ?_
  rintro e w1 ⟨rfl, hg1⟩
  go_wp2_with fail
  go_at_call 20
  refine (hS _).mono ?_
  rintro e w2 ⟨n, vc, vd, F2, rfl, hn, hT, hN2, hg2⟩
  obtain ⟨x1, y1, rfl, _, _⟩ := hT.1.form
  obtain ⟨x2, y2, rfl, _, _⟩ := hT.2.form
  clear hT hA hS
  generalize smallC.length = l1
  generalize smallD.length = l2
  obtain ⟨W, hW⟩ : ∃ W, W = w2.alloc (.cells #[.slice x1 l1 y1, .slice x2 l2 y2] 59) := ⟨_, rfl⟩
  have hgW : w2.grownBy W none := by rw [hW]; exact World.grownBy_alloc _ _ none
  have hF : Front w W (.pointer (some ⟨n, 0, none⟩)) F2 := ⟨hN2.new hgW, GX.of ((hg1.trans hg2).trans hgW) (by simp)⟩
  have hnw : w.heap.size ≤ n := Nat.le_trans hg1.size hn
  replace hW := Lib.hid hW
  replace hF := Lib.hid hF
  replace hx := Lib.hid hx
  clear hN2 hgW hg1 hg2 hn
  go_wp2_with fail
  rw [← hW.out]
  go_at_call 21
  refine (hTa _ _ _ hF.out.1).mono ?_
  rintro e w3 ⟨rfl, F3, hN3, _, _, x3⟩
  replace hF := Lib.hid (hF.out.next hnw hN3 x3)
  clear hTa hN3 x3 hW
  go_wp2_with fail
  go_at_call 23
  refine (hab _ _ _ hF.out.1).mono ?_
  rintro e w4 ⟨rfl, F4, hN4, _, _, x4⟩
  replace hF := Lib.hid (hF.out.next hnw hN4 x4)
  clear hab hN4 x4
  go_wp2_with fail
  go_at_call 23
  refine (hbc _ _ _ hF.out.1).mono ?_
  rintro e w5 ⟨rfl, F5, hN5, _, _, x5⟩
  replace hF := Lib.hid (hF.out.next hnw hN5 x5)
  clear hbc hN5 x5
  go_wp2_with fail
  go_at_call 23
  refine (hba _ _ _ hF.out.1).mono ?_
  rintro e w6 ⟨rfl, F6, hN6, _, _, x6⟩
  replace hF := Lib.hid (hF.out.next hnw hN6 x6)
  clear hba hN6 x6
  go_wp2_with fail
  go_at_call 23
  refine (hac _ _ _ hF.out.1).mono ?_
  rintro e w7 ⟨rfl, F7, hN7, _, _, x7⟩
  replace hF := Lib.hid (hF.out.next hnw hN7 x7)
  clear hac hN7 x7
  go_wp2_with fail
  go_at_call 23
  refine (hown _ _ _ hF.out.1).mono ?_
  rintro e w8 ⟨rfl, F8, hN8, _, _, x8⟩
  replace hF := Lib.hid (hF.out.next hnw hN8 x8)
  clear hown hN8 x8
  have hxx : x = false ∨ (x = true ∧ y = false) ∨ (x = true ∧ y = true ∧ z = true) := by
    cases hx1 : x
    · exact .inl rfl
    · cases hy1 : y
      · exact .inr (.inl ⟨rfl, rfl⟩)
      · exact .inr (.inr ⟨rfl, rfl, hx.out hx1 hy1⟩)
  clear hx
  rcases hxx with rfl | ⟨rfl, rfl⟩ | ⟨rfl, rfl, rfl⟩
  all_goals
    go_wp2
    go_ret
    exact ⟨rfl, hF.out.below⟩

theorem NormEquivalent_walk (w : World) (a : ByteArray) (h1 : a.size ≤ 140737488351232) (b : ByteArray) (h2 : b.size ≤ 140737488351232) (c : ByteArray) (h3 : c.size ≤ 140737488351232) :
    Calls Tryz.prog 5 #[.string a, .string b, .string c] w fun e w' => e = .returned (.bool true) ∧ Below w.heap.size w w' := by
  by_cases hl : a.size + b.size + c.size ≤ 3000
  · by_cases p1 : txE a.data.toList = 0
    · by_cases p2 : cmE a.data.toList b.data.toList = 0
      · by_cases p3 : cmE b.data.toList c.data.toList = 0
        · have q2 := cmE_zero p1 p2
          have q3 := cmE_zero q2 p3
          obtain ⟨f1, f2, f3, f4, f5⟩ := eq_facts _ _ _ p1 q2 q3
          have hlen := txV_len (cf := cS) small_dS a.data.toList
          have hsz : (⟨(txV cS dS a.data.toList).toArray⟩ : ByteArray).size = (txV cS dS a.data.toList).length := by simp [ByteArray.size]
          have hT := fun p F W (hN : ND p cS dS F W) => text_any p cS dS F a W hN small_dS (by omega)
          have hab := fun p F W (hN : ND p cS dS F W) => msame_any p cS dS F a b W hN small_dS (by omega) (by omega)
          have hbc := fun p F W (hN : ND p cS dS F W) => msame_any p cS dS F b c W hN small_dS (by omega) (by omega)
          have hba := fun p F W (hN : ND p cS dS F W) => msame_any p cS dS F b a W hN small_dS (by omega) (by omega)
          have hac := fun p F W (hN : ND p cS dS F W) => msame_any p cS dS F a c W hN small_dS (by omega) (by omega)
          have hown := fun p F W (hN : ND p cS dS F W) => msame_any p cS dS F a ⟨(txV cS dS a.data.toList).toArray⟩ W hN small_dS (by omega) (by omega)
          rw [p1] at hT
          rw [p2] at hab
          rw [p3] at hbc
          rw [f1, f3] at hba
          rw [f2] at hac
          simp only at hown
          by_cases hs : (txV cS dS a.data.toList).length ≤ 1000
          · obtain ⟨g1, g2⟩ := f5 hs
            rw [g1, g2] at hown
            exact equiv_walk2 w a b c _ _ _ _ trivial hl (by omega) f4 hT hab hbc hba hac hown
          · exact equiv_walk1 w a b c _ _ _ _ _ _ hl (by omega) f4 hT hab hbc hba hac hown
        · exact equiv_err3 w a b c hl ⟨p1, p2, p3⟩
      · exact equiv_err2 w a b c hl ⟨p1, p2⟩
    · exact equiv_err1 w a b c hl p1
  · exact equiv_long w a b c h1 h2 h3 (by omega)
end Go.Proofs.YtpdacbiiaglodaaGreat
