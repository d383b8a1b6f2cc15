/-
  LAYER 4 (utf): Compare; UtfOrder.
-/
import Derived.Test.YtpdacbiiaglodaaGreatQE43
import Derived.Test.YtpdacbiiaglodaaGreatQE44
import Derived.LoopN
import Derived.Test.YtpdacbiiaglodaaGreatQE40
namespace Go.Proofs.YtpdacbiiaglodaaGreat.U
set_option maxRecDepth 100000
open Go.RowKit Go.Lib

set_option maxRecDepth 100000 in
set_option maxHeartbeats 2000000 in
theorem compare_ok (a b : ByteArray) (w : World) (ha : a.size ≤ 1048576) (hb : b.size ≤ 1048576) (va : tot a.data.toList = a.data.toList.length) (vb : tot b.data.toList = b.data.toList.length) :
    Calls Tryz.prog 62 #[.string a, .string b] w fun e w' => e = .returned (.tuple #[.int .i64 (compareBytes a.data.toList b.data.toList), .int .i64 0]) ∧ Below w.heap.size w w' := by
  have hA := fun w => check_ok a w (by unfold maxLen; omega) va
  have hB := fun w => check_ok b w (by unfold maxLen; omega) vb
  have hS := fun w => Tryz.strings_Compare a b w
  generalize compareBytes a.data.toList b.data.toList = O at hS ⊢
  clear va vb
  obtain ⟨W0, hW0⟩ : ∃ W0, W0 = w.alloc (.cells #[.string a, .string b] 9) := ⟨_, rfl⟩
  have hg0 : w.grownBy W0 none := by rw [hW0]; exact World.grownBy_alloc w _ none
  have k0 : W0.cell? ⟨w.heap.size, 0, none⟩ = some (.string a) := by rw [hW0]; simp [go_sem]
  have k1 : W0.cell? ⟨w.heap.size, 1, none⟩ = some (.string b) := by rw [hW0]; simp [go_sem]
  have hlt := World.block_lt_of_cell? W0 _ k0
  replace hW0 := Lib.hid hW0
  go_enter Tryz.func62, Tryz.ntmps62
  go_wp2_with fail
  rw [← hW0.out]
  refine wp_loop_rounds 3 ?_
  rw [rounds_succ]
  go_wp2_with (go_at_call 57; refine (hA _).mono ?_; rintro e w1 ⟨rfl, hb1⟩; have k2 := (hb1.cell (p := ⟨w.heap.size, 1, none⟩) hlt).trans k1)
  rw [rounds_succ]
  go_wp2_with (go_at_call 57; refine (hB _).mono ?_; rintro e w2 ⟨rfl, hb2⟩)
  rw [rounds_succ]
  go_wp2_with (go_at_call 106; refine (hS _).mono ?_; rintro e w3 ⟨rfl, rfl⟩)
  go_ret2
  exact ⟨rfl, ((belowg' hg0).trans (hb1.mono hg0.size)).trans (hb2.mono (Nat.le_trans hg0.size hb1.size))⟩

set_option maxRecDepth 100000 in
set_option maxHeartbeats 2000000 in
theorem compare_bad (a b : ByteArray) (w : World) (ha : a.size ≤ 1048576) (hb : b.size ≤ 1048576) (h : tot a.data.toList ≠ a.data.toList.length ∨ tot b.data.toList ≠ b.data.toList.length) :
    Calls Tryz.prog 62 #[.string a, .string b] w fun e w' => e = .returned (.tuple #[.int .i64 0, .int .i64 40]) ∧ Below w.heap.size w w' := by
  obtain ⟨W0, hW0⟩ : ∃ W0, W0 = w.alloc (.cells #[.string a, .string b] 9) := ⟨_, rfl⟩
  have hg0 : w.grownBy W0 none := by rw [hW0]; exact World.grownBy_alloc w _ none
  have k0 : W0.cell? ⟨w.heap.size, 0, none⟩ = some (.string a) := by rw [hW0]; simp [go_sem]
  have k1 : W0.cell? ⟨w.heap.size, 1, none⟩ = some (.string b) := by rw [hW0]; simp [go_sem]
  have hlt := World.block_lt_of_cell? W0 _ k0
  replace hW0 := Lib.hid hW0
  by_cases va : tot a.data.toList = a.data.toList.length
  · have vb : tot b.data.toList ≠ b.data.toList.length := by rcases h with h | h; exact absurd va h; exact h
    have hA := fun w => check_ok a w (by unfold maxLen; omega) va
    have hB := fun w => check_bad b w (by unfold maxLen; omega) vb
    generalize tot b.data.toList = T at hB
    clear va vb h
    go_enter Tryz.func62, Tryz.ntmps62
    go_wp2_with fail
    rw [← hW0.out]
    refine wp_loop_rounds 2 ?_
    rw [rounds_succ]
    go_wp2_with (go_at_call 57; refine (hA _).mono ?_; rintro e w1 ⟨rfl, hb1⟩; have k2 := (hb1.cell (p := ⟨w.heap.size, 1, none⟩) hlt).trans k1)
    rw [rounds_succ]
    go_wp2_with (go_at_call 57; refine (hB _).mono ?_; rintro e w2 ⟨rfl, hb2⟩)
    go_ret2
    exact ⟨rfl, ((belowg' hg0).trans (hb1.mono hg0.size)).trans (hb2.mono (Nat.le_trans hg0.size hb1.size))⟩
  · have hA := fun w => check_bad a w (by unfold maxLen; omega) va
    generalize tot a.data.toList = T at hA
    clear va h
    go_enter Tryz.func62, Tryz.ntmps62
    go_wp2_with fail
    rw [← hW0.out]
    refine wp_loop_rounds 1 ?_
    rw [rounds_succ]
    go_wp2_with (go_at_call 57; refine (hA _).mono ?_; rintro e w1 ⟨rfl, hb1⟩)
    go_ret2
    exact ⟨rfl, (belowg' hg0).trans (hb1.mono hg0.size)⟩

theorem below_on {w w1 w2 : World} (h : Below w.heap.size w w1) (k : Below w1.heap.size w1 w2) : Below w.heap.size w w2 := h.trans (k.mono h.size)

theorem less_cmp : ∀ (x y : List UInt8), (compareBytes x y = -1 ∧ Op.bytesLess x y = true ∧ (x == y) = false) ∨ (compareBytes x y = 0 ∧ Op.bytesLess x y = false ∧ (x == y) = true) ∨ (compareBytes x y = 1 ∧ Op.bytesLess x y = false ∧ (x == y) = false)
  | [], [] => .inr (.inl ⟨rfl, rfl, rfl⟩)
  | [], _ :: _ => .inl ⟨rfl, rfl, rfl⟩
  | _ :: _, [] => .inr (.inr ⟨rfl, rfl, rfl⟩)
  | a :: x, b :: y => by
    have ha := a.toNat_lt
    have hb := b.toNat_lt
    rw [cmpc, Op.bytesLess, List.cons_beq_cons]
    rcases Nat.lt_trichotomy a.toNat b.toNat with h | h | h
    · left
      have hne : (a == b) = false := by rw [beq_eq_false_iff_ne]; rintro rfl; omega
      rw [if_pos h]
      exact ⟨rfl, by simp [UInt8.lt_iff_toNat_lt, h], by simp [hne]⟩
    · obtain rfl : a = b := UInt8.toNat_inj.1 h
      rw [if_neg (by omega), if_neg (by omega)]
      simpa [UInt8.lt_iff_toNat_lt] using less_cmp x y
    · right; right
      have hne : (a == b) = false := by rw [beq_eq_false_iff_ne]; rintro rfl; omega
      rw [if_neg (by omega), if_pos h]
      refine ⟨rfl, ?_, by simp [hne]⟩
      simp [UInt8.lt_iff_toNat_lt, hne]
      omega

end Go.Proofs.YtpdacbiiaglodaaGreat.U

/-
  LAYER 6 (norm): Text of any text; Compare; Same.
-/
namespace Go.Proofs.YtpdacbiiaglodaaGreat
set_option maxRecDepth 100000
open Go.RowKit Go.Lib

theorem nd_plt {p : Value} {cf : Int → Int} {df : Int → List Int} {F : Nat → Prop} {w : World} (hN : ND p cf df F w) : ∀ k, p = .pointer (some ⟨k, 0, none⟩) → k < w.heap.size := fun k e => hN.lt k (nd_pblk hN k e)
theorem conv_runes_none (a : Option Addr) (c : Nat) (w : World) : (convert 50 9 (.slice a 0 c)).run Tryz.prog w = .ok (.string ⟨#[]⟩) w := by
  cases a with
  | none =>
    rw [run_convert_runes_nil w 50 9 21 _ _ Tryz.underlying50 Tryz.underlying21 Tryz.underlying9]
    rfl
  | some ad =>
    rw [run_convert_runes w 50 9 21 ad 0 c [] (Nat.le_refl _) Tryz.underlying50 Tryz.underlying21 Tryz.underlying9 (by intro j hj; simp at hj)]
    rfl

set_option maxHeartbeats 2000000 in
theorem encode_nil (a : Option Addr) (c : Nat) (w : World) :
    Calls Tryz.prog 59 #[.slice a 0 c] w fun e w' => e = .returned (.tuple #[.string ⟨#[]⟩, .int .i64 0, .int .i64 0]) ∧ w = w' := by
  have hcv := conv_runes_none a c w
  go_enter Tryz.func59, Tryz.ntmps59
  go_wp2
  go_loop [9] (fun vi => vi = .int .i64 0) (fun _ => 0)
  case atStart => rfl
  case round =>
    obtain rfl := hrel
    go_wp2
    go_ret3
    simp
theorem encode_ro (B : Nat) (a : Option Addr) (n : Nat) (l : List Int) (w : World) (hn : n = l.length) (h : RO B w (.slice a n n) l) (hl : l.length ≤ 1048576) (hs : U.allSc l) :
    Calls Tryz.prog 59 #[.slice a n n] w fun e w' => e = .returned (.tuple #[.string ⟨(U.enc l).toArray⟩, .int .i64 0, .int .i64 0]) ∧ w = w' := by
  subst hn
  by_cases hne : l = []
  · subst hne
    exact encode_nil a 0 w
  · exact U.encode_ok _ l w (row_of_rs h.reads hne) hl hs

/-- What a text comes to, whatever it is. -/
def TxPost (p : Value) (cf : Int → Int) (df : Int → List Int) (F : Nat → Prop) (w w' : World) : Prop :=
  ∃ F' : Nat → Prop, ND p cf df F' w' ∧ (∀ k, F k → F' k) ∧ (∀ k, F' k → F k ∨ w.heap.size ≤ k) ∧ GX (fun k => p = .pointer (some ⟨k, 0, none⟩)) w w'
theorem TxPost.same {p : Value} {cf : Int → Int} {df : Int → List Int} {F : Nat → Prop} {w w' : World} (h : ND p cf df F w) (hg : w.grownBy w' none) : TxPost p cf df F w w' :=
  ⟨F, h.new hg, fun _ h => h, fun _ h => .inl h, GX.of hg (by simp)⟩

set_option maxHeartbeats 4000000 in
theorem text_any (p : Value) (cf : Int → Int) (df : Int → List Int) (F : Nat → Prop) (s : ByteArray) (w : World) (hN : ND p cf df F w) (hd : DfOk df) (hs : s.size ≤ 1048576) :
    Calls Tryz.prog 21 #[p, .string s] w fun e w' => e = .returned (.tuple #[.string ⟨(txV cf df s.data.toList).toArray⟩, .int .i64 (txE s.data.toList)]) ∧ TxPost p cf df F w w' := by
  rcases txE_cases s.data.toList with ⟨ht, he⟩ | ⟨ht, hl, he⟩ | ⟨ht, hl, he⟩
  · rw [txV_no (by rw [he]; decide), he]
    have hC := U.check_bad s w (by unfold maxLen; omega) ht
    generalize U.tot s.data.toList = T at hC
    obtain ⟨pq, rfl⟩ := hN.form
    clear ht he
    go_enter Tryz.func21, Tryz.ntmps21
    go_wp2_with (go_at_call 57; refine hC.mono ?_; rintro e w1 ⟨rfl, hb1⟩)
    go_ret2
    exact ⟨rfl, TxPost.same hN (gbel hb1)⟩
  · rw [txV_no (by rw [he]; decide), he]
    have hC := U.check_ok s w (by unfold maxLen; omega) ht
    have hl2 : 1000 < s.size := by simpa using hl
    obtain ⟨pq, rfl⟩ := hN.form
    clear ht he hl
    go_enter Tryz.func21, Tryz.ntmps21
    go_wp2_with (go_at_call 57; refine hC.mono ?_; rintro e w1 ⟨rfl, hb1⟩)
    go_ret2
    exact ⟨rfl, TxPost.same hN (gbel hb1)⟩
  · rw [txV_ok he, he]
    have hl2 : s.size ≤ 1000 := by simpa using hl
    have hC := U.check_ok s w (by unfold maxLen; omega) ht
    have hD := fun W => U.decode_new s W (by omega) ht
    have hos := nf_allSc (cf := cf) hd s.data.toList
    have hrl := U.tot_runes_le s.data.toList
    have hnl := nf_len (cf := cf) hd (U.runes s.data.toList)
    have hsc : allSc (U.runes s.data.toList) = true := by rw [allSc, List.all_eq_true]; exact runes_scal _
    have hfl := flatMap_len hd.len (U.runes s.data.toList)
    have hF := fun v W hN hR hv => nfd_any p v cf df F (U.runes s.data.toList) W hN hR hsc (by omega) hv (by omega)
    have hE := fun B a n W hn h => encode_ro B a n (nf cf df (U.runes s.data.toList)) W hn h (by omega) hos
    have hol : (nf cf df (U.runes s.data.toList)).length = ((U.runes s.data.toList).flatMap df).length := ord_length cf _
    rw [← hol] at hF
    rw [show ord cf ((U.runes s.data.toList).flatMap df) = nf cf df (U.runes s.data.toList) from rfl] at hF
    generalize nf cf df (U.runes s.data.toList) = out at hF hE hos hnl hol
    generalize U.runes s.data.toList = l at *
    generalize (⟨(U.enc out).toArray⟩ : ByteArray) = es at hE ⊢
    have hpF := nd_plt hN
    clear hos hrl hnl hsc hfl hol ht he hl
    go_enter Tryz.func21, Tryz.ntmps21
    go_wp2_with (first
      | (go_at_call 57; refine hC.mono ?_; rintro e w1 ⟨rfl, hb1⟩; have hg1 := gbel hb1)
      | (go_at_call 58; refine (hD _).mono ?_; rintro e w2 ⟨v2, rfl, hv2, hR2, hb2⟩; have hg2 := hg1.trans (gbel hb2))
      | (go_at_call 38; go_loud (refine (hF _ _ (hN.new hg2) (rs_of_row hR2) (fun hne k e e' => by have := hpF k e'; have := hv2 k e; have := hg1.size; omega)).mono ?_); rintro e w3 ⟨a3, n3, rfl, hn3, ho3, F', hN3, f1, f2, hx3⟩; replace hn3 := Lib.hid hn3)
      | (go_at_call 59; go_loud (refine (hE _ _ _ _ hn3.out ho3).mono ?_); rintro e w4 ⟨rfl, rfl⟩))
    go_ret2
    exact ⟨rfl, F', hN3, f1, fun k hk => (f2 k hk).imp id (fun h => Nat.le_trans hg2.size h), (GX.of hg2 (by simp)).trans hx3 (fun k hk => .inl hk)⟩

theorem TxPost.step {p : Value} {cf : Int → Int} {df : Int → List Int} {F F1 : Nat → Prop} {w w1 w2 : World} (h : (∀ k, F k → F1 k) ∧ (∀ k, F1 k → F k ∨ w.heap.size ≤ k) ∧ GX (fun k => p = .pointer (some ⟨k, 0, none⟩)) w w1) (k : TxPost p cf df F1 w1 w2) : TxPost p cf df F w w2 := by
  obtain ⟨h2, h3, h4⟩ := h
  obtain ⟨F2, k1, k2, k3, k4⟩ := k
  exact ⟨F2, k1, fun k h => k2 k (h2 k h), fun k h => by rcases k3 k h with h | h; exact h3 k h; exact .inr (Nat.le_trans h4.size h), h4.trans k4 (fun k h => .inl h)⟩

/-! ### Two texts -/
def cmE (a b : List UInt8) : Int := if txE a = 0 then txE b else txE a
def cmV (cf : Int → Int) (df : Int → List Int) (a b : List UInt8) : Int := if txE a = 0 ∧ txE b = 0 then compareBytes (txV cf df a) (txV cf df b) else 0
theorem cm_cases (cf : Int → Int) (df : Int → List Int) (a b : List UInt8) : (txE a ≠ 0 ∧ cmE a b = txE a ∧ cmV cf df a b = 0) ∨ (txE a = 0 ∧ txE b ≠ 0 ∧ cmE a b = txE b ∧ cmV cf df a b = 0) ∨ (txE a = 0 ∧ txE b = 0 ∧ cmE a b = 0 ∧ cmV cf df a b = compareBytes (txV cf df a) (txV cf df b)) := by
  unfold cmE cmV
  by_cases h1 : txE a = 0
  · by_cases h2 : txE b = 0
    · exact .inr (.inr ⟨h1, h2, by rw [if_pos h1, h2], by rw [if_pos ⟨h1, h2⟩]⟩)
    · exact .inr (.inl ⟨h1, h2, by rw [if_pos h1], by rw [if_neg (fun h => h2 h.2)]⟩)
  · exact .inl ⟨h1, by rw [if_neg h1], by rw [if_neg (fun h => h1 h.1)]⟩

set_option maxHeartbeats 4000000 in
theorem mcompare_any (p : Value) (cf : Int → Int) (df : Int → List Int) (F : Nat → Prop) (a b : ByteArray) (w : World) (hN : ND p cf df F w) (hd : DfOk df) (ha : a.size ≤ 1048576) (hb : b.size ≤ 1048576) :
    Calls Tryz.prog 25 #[p, .string a, .string b] w fun e w' => e = .returned (.tuple #[.int .i64 (cmV cf df a.data.toList b.data.toList), .int .i64 (cmE a.data.toList b.data.toList)]) ∧ TxPost p cf df F w w' := by
  have hA := text_any p cf df F a w hN hd ha
  have hB := fun F' W hN => text_any p cf df F' b W hN hd hb
  obtain ⟨pq, rfl⟩ := hN.form
  rcases cm_cases cf df a.data.toList b.data.toList with ⟨h1, h2, h3⟩ | ⟨h1, h2, h3, h4⟩ | ⟨h1, h2, h3, h4⟩
  · rw [h2, h3]
    clear h2 h3 hB
    generalize (⟨(txV cf df a.data.toList).toArray⟩ : ByteArray) = ta at hA
    generalize txE a.data.toList = ea at hA h1 ⊢
    have h1b : (ea != 0) = true := by simpa using h1
    clear h1
    go_enter Tryz.func25, Tryz.ntmps25
    go_wp2_with (go_at_call 21; refine hA.mono ?_; rintro e w1 ⟨rfl, hP1⟩)
    go_ret2
    exact ⟨rfl, hP1⟩
  · rw [h3, h4]
    rw [h1] at hA
    clear h3 h4 h1
    generalize (⟨(txV cf df a.data.toList).toArray⟩ : ByteArray) = ta at hA
    generalize (⟨(txV cf df b.data.toList).toArray⟩ : ByteArray) = tb at hB
    generalize txE b.data.toList = eb at hB h2 ⊢
    have h2b : (eb != 0) = true := by simpa using h2
    clear h2
    go_enter Tryz.func25, Tryz.ntmps25
    go_wp2_with fail
    go_at_call 21
    refine hA.mono ?_
    rintro e w1 ⟨rfl, F1, hN1, hP1⟩
    have hB1 := hB _ _ hN1
    clear hA hB
    replace hP1 := Lib.hid hP1
    go_wp2_with (go_at_call 21; refine hB1.mono ?_; rintro e w2 ⟨rfl, hP2⟩)
    go_ret2
    exact ⟨rfl, TxPost.step hP1.out hP2⟩
  · rw [h3, h4]
    rw [h1] at hA
    rw [h2] at hB
    have v1 := txV_valid (cf := cf) hd (l := a.data.toList)
    have v2 := txV_valid (cf := cf) hd (l := b.data.toList)
    have l1 := txV_len (cf := cf) hd a.data.toList
    have l2 := txV_len (cf := cf) hd b.data.toList
    clear h3 h4 h1 h2
    generalize txV cf df a.data.toList = ta at *
    generalize txV cf df b.data.toList = tb at *
    have hC := fun w => U.compare_ok ⟨ta.toArray⟩ ⟨tb.toArray⟩ w (by simp [ByteArray.size]; omega) (by simp [ByteArray.size]; omega) v1 v2
    simp only at hC
    generalize compareBytes ta tb = O at hC ⊢
    generalize (⟨ta.toArray⟩ : ByteArray) = sa at *
    generalize (⟨tb.toArray⟩ : ByteArray) = sb at *
    clear v1 v2 l1 l2
    go_enter Tryz.func25, Tryz.ntmps25
    go_wp2_with fail
    go_at_call 21
    refine hA.mono ?_
    rintro e w1 ⟨rfl, F1, hN1, hP1⟩
    have hB1 := hB _ _ hN1
    clear hA hB
    replace hP1 := Lib.hid hP1
    go_wp2_with (first
      | (go_at_call 21; refine hB1.mono ?_; rintro e w2 ⟨rfl, F2, hN2, hP2⟩; replace hP2 := Lib.hid hP2)
      | (go_at_call 62; refine (hC _).mono ?_; rintro e w3 ⟨rfl, hb3⟩))
    go_ret2
    exact ⟨rfl, TxPost.step hP1.out (TxPost.step hP2.out (TxPost.same hN2 (gbel hb3)))⟩

/-- Whether two texts are found equivalent. -/
def smV (cf : Int → Int) (df : Int → List Int) (a b : List UInt8) : Bool := decide (txE a = 0 ∧ txE b = 0 ∧ txV cf df a = txV cf df b)
theorem cmp_eq (x y : List UInt8) : compareBytes x y = 0 ↔ x = y := by
  rcases U.less_cmp x y with ⟨h1, _, h3⟩ | ⟨h1, _, h3⟩ | ⟨h1, _, h3⟩
  · rw [h1]; constructor
    · intro h; cases h
    · rintro rfl; simp at h3
  · rw [h1]; simpa using h3
  · rw [h1]; constructor
    · intro h; cases h
    · rintro rfl; simp at h3
theorem sm_cm (cf : Int → Int) (df : Int → List Int) (a b : List UInt8) : smV cf df a b = (cmE a b == 0 && cmV cf df a b == 0) := by
  rcases cm_cases cf df a b with ⟨h1, h2, h3⟩ | ⟨h1, h2, h3, h4⟩ | ⟨h1, h2, h3, h4⟩
  · rw [h2, h3]; simp [smV, h1]
  · rw [h3, h4]; simp [smV, h1, h2]
  · rw [h3, h4, Bool.eq_iff_iff]; simp [smV, h1, h2, cmp_eq]

set_option maxHeartbeats 4000000 in
theorem msame_any (p : Value) (cf : Int → Int) (df : Int → List Int) (F : Nat → Prop) (a b : ByteArray) (w : World) (hN : ND p cf df F w) (hd : DfOk df) (ha : a.size ≤ 1048576) (hb : b.size ≤ 1048576) :
    Calls Tryz.prog 23 #[p, .string a, .string b] w fun e w' => e = .returned (.tuple #[.bool (smV cf df a.data.toList b.data.toList), .int .i64 (cmE a.data.toList b.data.toList)]) ∧ TxPost p cf df F w w' := by
  have hC := mcompare_any p cf df F a b w hN hd ha hb
  rw [sm_cm]
  obtain ⟨pq, rfl⟩ := hN.form
  generalize cmV cf df a.data.toList b.data.toList = V at hC ⊢
  generalize cmE a.data.toList b.data.toList = E at hC ⊢
  by_cases hE : E = 0
  · subst hE
    go_enter Tryz.func23, Tryz.ntmps23
    go_wp2_with (go_at_call 25; refine hC.mono ?_; rintro e w1 ⟨rfl, hP1⟩)
    go_ret2
    exact ⟨by simp, hP1⟩
  · have hEb : (E == 0) = false := by simpa using hE
    clear hE
    go_enter Tryz.func23, Tryz.ntmps23
    go_wp2_with (go_at_call 25; refine hC.mono ?_; rintro e w1 ⟨rfl, hP1⟩)
    go_ret2
    exact ⟨by simp; intro h0; simp [h0] at hEb, hP1⟩
end Go.Proofs.YtpdacbiiaglodaaGreat
