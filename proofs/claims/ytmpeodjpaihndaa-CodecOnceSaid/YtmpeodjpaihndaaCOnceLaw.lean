/-
  LAYER 2 (codec): CodecOnce: what a reading call takes is written again as just these bytes.
-/
import Derived.Test.YtmpeodjpaihndaaCStr
import Derived.Test.YtmpeodjpaihndaaCBack
import Derived.Test.YtmpeodjpaihndaaCShort
import Derived.Deep.DeepCutAuto
import Derived.Deep.RegionHeld3
namespace Go.Proofs.Ytmpeodjpaihndaa
open Go.RowKit Go.Lib

/-- string(b[:k]) in whatever world has what the first one had. -/
theorem conv_cut {w : World} {a : Option Addr} {l c : Nat} {bs : List UInt8} (h : Reads w (.slice a l c) bs) (k : Nat) (hk : k ≤ bs.length) : ∀ wx, Below w.heap.size w wx → (convert 23 9 (.slice a k c)).run Try.prog wx = .ok (.string ⟨(bs.take k).toArray⟩) wx := fun wx hb => by
  have := (h.all hb).cut 0 k (by omega)
  simp only [List.drop_zero] at this
  have e : (a.map fun x => x.add 0) = a := by cases a <;> simp [Addr.add]
  rw [e] at this
  exact conv_of this

theorem _root_.Go.RowKit.Below.drewN {B : Nat} {a b : World} (h : Below B a b) (k : Nat) : Below B a (b.drewN k) := ⟨h.os, h.tape, h.output, h.size, h.block⟩
theorem below_on {w w1 w2 : World} (h : Below w.heap.size w w1) (k : Below w1.heap.size w1 w2) : Below w.heap.size w w2 := h.trans (k.mono h.size)

set_option maxHeartbeats 4000000 in
set_option maxRecDepth 100000 in
theorem once_law (a : Option Addr) (l c : Nat) (bs : List UInt8) (w : World) (hr : Reads w (.slice a l c) bs) (hl : bs.length ≤ 5000) :
    Calls Try.prog 5 #[.slice a l c] w fun e w' => e = .returned (.bool true) ∧ Below w.heap.size w w' := by
  obtain ⟨rfl, hc, hm⟩ := hr.slice
  obtain ⟨n, m, x, hu⟩ : ∃ n m x, uRes bs = (n, m, x) := ⟨_, _, _, rfl⟩
  have hU := Lib.hid hu
  clear hu
  go_enter Try.func5, Try.ntmps5
  go_upto_region 5 with (go_at_call 9; refine (awake_any _).mono ?_; rintro e w1 ⟨rfl, hg1⟩)
  have hb : Below w.heap.size w w1 := gbelow hg1 (Nat.le_refl _) (by simp)
  clear hg1
  go_upto_region 6 with (go_at_call 16; refine (ReadUint_any a _ c bs n m x _ (hr.all hb) hU.out).mono ?_; rintro e w2 ⟨rfl, hb2⟩)
  replace hb := below_on hb hb2
  clear hb2
  go_cut [45] (fun s wx => s = .bool false ∧ Below w.heap.size w wx)
  case first =>
    rcases uRes_cases hU.out with ⟨rfl, hrd⟩ | ⟨hx, rfl, rfl, hrd⟩
    · obtain ⟨ho, hle, hn⟩ := once_uint hrd
      have hcv := conv_cut (hr.all hb) m hle
      obtain ⟨tk, htk⟩ : ∃ tk, tk = bs.take m := ⟨_, rfl⟩
      rw [← htk] at ho hcv
      have hD : Below w2.heap.size w2 w2.drew := (Below.refl _ _).drew
      have hlm : decide ((bs.length : Int) < (m : Int)) = false := by rw [decide_eq_false_iff_not]; omega
      have hlm2 : decide (bs.length < m) = false := by rw [decide_eq_false_iff_not]; omega
      have hcu := Uint_any n hn
      try rw [zigzag_unzig] at hcu
      rw [ho] at hcu
      have hsl := run_cut_hi a bs.length c m (by omega)
      have hi0 : iOf n 0 = unzig n := rfl
      try rw [hi0]
      clear htk ho hrd hle hn hi0
      refine wp_region_held_drew (S := fun w' => Below w2.heap.size w2 w' ∧ (convert 23 9 (.slice a m c)).run Try.prog w' = .ok (.string ⟨tk.toArray⟩) w') (by kernel_rfl) ⟨hD, hcv _ hD⟩ (fun hS0 => ?_)
      refine wpAnyH_take (i := 0) (oi := ⟨some 28, _, _, _, _, _⟩) (v := ?_) rfl (by kernel_rfl) (by kernel_rfl) (by kernel_rfl) (fun _ _ _ h => h) (Or.inl ⟨by rfl, ?_⟩) (by assumption) ?_
      rotate_left
      · (intro w hSw; (try dsimp only at hSw); go_simp; try with_reducible rfl)
      try simp only [Act.put, List.setIfInBounds_toArray, List.set_cons_zero, List.set_cons_succ]
      refine wpAnyH_take (i := 1) (oi := ⟨some 29, _, _, _, _, _⟩) (v := ?_) rfl (by kernel_rfl) (by kernel_rfl) (by kernel_rfl) (fun _ _ _ h => h) (Or.inl ⟨by rfl, ?_⟩) (by assumption) ?_
      rotate_left
      · (intro w hSw; (try dsimp only at hSw); go_simp; try with_reducible rfl)
      try simp only [Act.put, List.setIfInBounds_toArray, List.set_cons_zero, List.set_cons_succ]
      refine wpAnyH_take (i := 2) (oi := ⟨some 30, _, _, _, _, _⟩) (v := ?_) rfl (by kernel_rfl) (by kernel_rfl) (by kernel_rfl) (fun _ _ _ h => h) (Or.inl ⟨by rfl, ?_⟩) (by assumption) ?_
      rotate_left
      · (intro w hSw; (try dsimp only at hSw); go_simp; try with_reducible rfl)
      try simp only [Act.put, List.setIfInBounds_toArray, List.set_cons_zero, List.set_cons_succ]
      refine wpAnyH_take (i := 3) (oi := ⟨some 31, _, _, _, _, _⟩) (v := ?_) rfl (by kernel_rfl) (by kernel_rfl) (by kernel_rfl) (fun _ _ _ h => h) (Or.inl ⟨by rfl, ?_⟩) (by assumption) ?_
      rotate_left
      · (intro w hSw; (try dsimp only at hSw); go_simp; try with_reducible rfl)
      try simp only [Act.put, List.setIfInBounds_toArray, List.set_cons_zero, List.set_cons_succ]
      refine wpAnyH_take (i := 4) (oi := ⟨some 32, _, _, _, _, _⟩) (v := ?_) rfl (by kernel_rfl) (by kernel_rfl) (by kernel_rfl) (fun _ _ _ h => h) (Or.inl ⟨by rfl, ?_⟩) (by assumption) ?_
      rotate_left
      · (intro w hSw; (try dsimp only at hSw); go_simp; try with_reducible rfl)
      try simp only [Act.put, List.setIfInBounds_toArray, List.set_cons_zero, List.set_cons_succ]
      refine wpAnyH_take (i := 5) (oi := ⟨some 33, _, _, _, _, _⟩) (v := ?_) rfl (by kernel_rfl) (by kernel_rfl) (by kernel_rfl) (fun _ _ _ h => h) (Or.inl ⟨by rfl, ?_⟩) (by assumption) ?_
      rotate_left
      · (intro w hSw; (try dsimp only at hSw); go_simp; try with_reducible rfl)
      try simp only [Act.put, List.setIfInBounds_toArray, List.set_cons_zero, List.set_cons_succ]
      refine wpAnyH_take (i := 6) (oi := ⟨some 34, _, _, _, _, _⟩) (v := ?_) rfl (by kernel_rfl) (by kernel_rfl) (by kernel_rfl) (fun _ _ _ h => h) (Or.inl ⟨by rfl, ?_⟩) (by assumption) ?_
      rotate_left
      · (intro w hSw; (try dsimp only at hSw); go_simp; try with_reducible rfl)
      try simp only [Act.put, List.setIfInBounds_toArray, List.set_cons_zero, List.set_cons_succ]
      refine wpAnyH_take (i := 7) (oi := ⟨some 35, _, _, _, _, _⟩) (v := ?_) rfl (by kernel_rfl) (by kernel_rfl) (by kernel_rfl) (fun _ _ _ h => h) (Or.inl ⟨by rfl, ?_⟩) (by assumption) ?_
      rotate_left
      · (intro w hSw; (try dsimp only at hSw); go_simp; try with_reducible rfl)
      try simp only [Act.put, List.setIfInBounds_toArray, List.set_cons_zero, List.set_cons_succ]
      refine wpAnyH_take (i := 8) (oi := ⟨some 36, _, _, _, _, _⟩) (v := ?_) rfl (by kernel_rfl) (by kernel_rfl) (by kernel_rfl) (fun _ _ _ h => h) (Or.inl ⟨by rfl, ?_⟩) (by assumption) ?_
      rotate_left
      · (intro w hSw; (try dsimp only at hSw); go_simp; try with_reducible rfl)
      try simp only [Act.put, List.setIfInBounds_toArray, List.set_cons_zero, List.set_cons_succ]
      refine wpAnyH_take (i := 11) (oi := ⟨some 39, _, _, _, _, _⟩) (v := ?_) rfl (by kernel_rfl) (by kernel_rfl) (by kernel_rfl) (fun _ _ _ h => h) (Or.inl ⟨by rfl, ?_⟩) (by assumption) ?_
      rotate_left
      · (intro w hSw; (try dsimp only at hSw); go_simp; try with_reducible rfl)
      try simp only [Act.put, List.setIfInBounds_toArray, List.set_cons_zero, List.set_cons_succ]
      refine wpAnyH_take (i := 12) (oi := ⟨some 40, _, _, _, _, _⟩) (v := ?_) rfl (by kernel_rfl) (by kernel_rfl) (by kernel_rfl) (fun _ _ _ h => h) (Or.inl ⟨by rfl, ?_⟩) (by assumption) ?_
      rotate_left
      · (intro w hSw; (try dsimp only at hSw); go_simp; try with_reducible rfl)
      try simp only [Act.put, List.setIfInBounds_toArray, List.set_cons_zero, List.set_cons_succ]
      refine wpAnyH_take (i := 13) (oi := ⟨some 41, _, _, _, _, _⟩) (v := ?_) rfl (by kernel_rfl) (by kernel_rfl) (by kernel_rfl) (fun _ _ _ h => h) (Or.inl ⟨by rfl, ?_⟩) (by assumption) ?_
      rotate_left
      · (intro w hSw; (try dsimp only at hSw); go_simp; try with_reducible rfl)
      try simp only [Act.put, List.setIfInBounds_toArray, List.set_cons_zero, List.set_cons_succ]
      refine wpAnyH_take (i := 14) (oi := ⟨some 42, _, _, _, _, _⟩) (v := ?_) rfl (by kernel_rfl) (by kernel_rfl) (by kernel_rfl) (fun _ _ _ h => h) (Or.inl ⟨by rfl, ?_⟩) (by assumption) ?_
      rotate_left
      · (intro w hSw; (try dsimp only at hSw); go_simp; try with_reducible rfl)
      try simp only [Act.put, List.setIfInBounds_toArray, List.set_cons_zero, List.set_cons_succ]
      refine wpAnyH_ready (rs := [9]) (by kernel_rfl) (by simp) ?_
      refine AllReadyH.cons rfl (fun K hK => ?_) AllReadyH.nil
      go_simp
      refine (hcu _).mono ?_
      rintro e w3 ⟨v3, rfl, ho3, hg3⟩
      have hb3 : Below w2.heap.size w2 w3 := belowg_drew hg3
      have hcv3 := conv_of ho3.reads
      obtain ⟨a3, c3, rfl⟩ := ho3.reads.form
      go_wp2_with fail
      refine hK.out _ _ ⟨hb3, hcv _ hb3⟩ (fun hS3 => ?_)
      clear hK
      refine wpAnyH_ready (rs := [10]) (by kernel_rfl) (by simp) ?_
      refine AllReadyH.cons rfl (fun K hK => ?_) AllReadyH.nil
      go_simp
      refine hK.out _ _ hS3 (fun hS4 => ?_)
      clear hK
      refine wpAnyH_take (i := 15) (oi := ⟨some 43, _, _, _, _, _⟩) (v := ?_) rfl (by kernel_rfl) (by kernel_rfl) (by kernel_rfl) (fun _ _ _ h => h) (Or.inl ⟨by rfl, ?_⟩) (by assumption) ?_
      rotate_left
      · (intro w hSw; (try dsimp only at hSw); go_simp; try with_reducible rfl)
      try simp only [Act.put, List.setIfInBounds_toArray, List.set_cons_zero, List.set_cons_succ]
      refine wpAnyH_take (i := 16) (oi := ⟨some 44, _, _, _, _, _⟩) (v := ?_) rfl (by kernel_rfl) (by kernel_rfl) (by kernel_rfl) (fun _ _ _ h => h) (Or.inl ⟨by rfl, ?_⟩) (by assumption) ?_
      rotate_left
      · (intro w hSw; (try dsimp only at hSw); go_simp; try with_reducible rfl)
      try simp only [Act.put, List.setIfInBounds_toArray, List.set_cons_zero, List.set_cons_succ]
      refine wpAnyH_take (i := 17) (oi := ⟨some 45, _, _, _, _, _⟩) (v := ?_) rfl (by kernel_rfl) (by kernel_rfl) (by kernel_rfl) (fun _ _ _ h => h) (Or.inl ⟨by rfl, ?_⟩) (by assumption) ?_
      rotate_left
      · (intro w hSw; (try dsimp only at hSw); go_simp; try with_reducible rfl)
      try simp only [Act.put, List.setIfInBounds_toArray, List.set_cons_zero, List.set_cons_succ]
      refine wpAnyH_done (by kernel_rfl) ?_ _
      go_wp2_with fail
      go_meet
      exact ⟨by simp, below_on hb hb3⟩
    · have hx0 : (x == 0) = false := by simpa using hx
      clear hx hrd
      go_quiet (fail)
      go_wp2_with fail
      go_meet
      exact ⟨rfl, hb.drewN _⟩
  case rest =>
  obtain ⟨rfl, hb⟩ := hcut
  go_upto_region 9 with (go_at_call 17; refine (ReadInt_any a _ c bs n m x _ (hr.all hb) hU.out).mono ?_; rintro e w2 ⟨rfl, hb2⟩)
  replace hb := below_on hb hb2
  clear hb2
  go_cut [69] (fun s wx => s = .bool false ∧ Below w.heap.size w wx)
  case first =>
    rcases uRes_cases hU.out with ⟨rfl, hrd⟩ | ⟨hx, rfl, rfl, hrd⟩
    · obtain ⟨ho, hle, hn⟩ := once_uint hrd
      have hcv := conv_cut (hr.all hb) m hle
      obtain ⟨tk, htk⟩ : ∃ tk, tk = bs.take m := ⟨_, rfl⟩
      rw [← htk] at ho hcv
      have hD : Below w2.heap.size w2 w2.drew := (Below.refl _ _).drew
      have hlm : decide ((bs.length : Int) < (m : Int)) = false := by rw [decide_eq_false_iff_not]; omega
      have hlm2 : decide (bs.length < m) = false := by rw [decide_eq_false_iff_not]; omega
      have hcu := Int_any (unzig n) (unzig_fits n hn).1 (unzig_fits n hn).2
      try rw [zigzag_unzig] at hcu
      rw [ho] at hcu
      have hsl := run_cut_hi a bs.length c m (by omega)
      have hi0 : iOf n 0 = unzig n := rfl
      try rw [hi0]
      clear htk ho hrd hle hn hi0
      refine wp_region_held_drew (S := fun w' => Below w2.heap.size w2 w' ∧ (convert 23 9 (.slice a m c)).run Try.prog w' = .ok (.string ⟨tk.toArray⟩) w') (by kernel_rfl) ⟨hD, hcv _ hD⟩ (fun hS0 => ?_)
      refine wpAnyH_take (i := 0) (oi := ⟨some 52, _, _, _, _, _⟩) (v := ?_) rfl (by kernel_rfl) (by kernel_rfl) (by kernel_rfl) (fun _ _ _ h => h) (Or.inl ⟨by rfl, ?_⟩) (by assumption) ?_
      rotate_left
      · (intro w hSw; (try dsimp only at hSw); go_simp; try with_reducible rfl)
      try simp only [Act.put, List.setIfInBounds_toArray, List.set_cons_zero, List.set_cons_succ]
      refine wpAnyH_take (i := 1) (oi := ⟨some 53, _, _, _, _, _⟩) (v := ?_) rfl (by kernel_rfl) (by kernel_rfl) (by kernel_rfl) (fun _ _ _ h => h) (Or.inl ⟨by rfl, ?_⟩) (by assumption) ?_
      rotate_left
      · (intro w hSw; (try dsimp only at hSw); go_simp; try with_reducible rfl)
      try simp only [Act.put, List.setIfInBounds_toArray, List.set_cons_zero, List.set_cons_succ]
      refine wpAnyH_take (i := 2) (oi := ⟨some 54, _, _, _, _, _⟩) (v := ?_) rfl (by kernel_rfl) (by kernel_rfl) (by kernel_rfl) (fun _ _ _ h => h) (Or.inl ⟨by rfl, ?_⟩) (by assumption) ?_
      rotate_left
      · (intro w hSw; (try dsimp only at hSw); go_simp; try with_reducible rfl)
      try simp only [Act.put, List.setIfInBounds_toArray, List.set_cons_zero, List.set_cons_succ]
      refine wpAnyH_take (i := 3) (oi := ⟨some 55, _, _, _, _, _⟩) (v := ?_) rfl (by kernel_rfl) (by kernel_rfl) (by kernel_rfl) (fun _ _ _ h => h) (Or.inl ⟨by rfl, ?_⟩) (by assumption) ?_
      rotate_left
      · (intro w hSw; (try dsimp only at hSw); go_simp; try with_reducible rfl)
      try simp only [Act.put, List.setIfInBounds_toArray, List.set_cons_zero, List.set_cons_succ]
      refine wpAnyH_take (i := 4) (oi := ⟨some 56, _, _, _, _, _⟩) (v := ?_) rfl (by kernel_rfl) (by kernel_rfl) (by kernel_rfl) (fun _ _ _ h => h) (Or.inl ⟨by rfl, ?_⟩) (by assumption) ?_
      rotate_left
      · (intro w hSw; (try dsimp only at hSw); go_simp; try with_reducible rfl)
      try simp only [Act.put, List.setIfInBounds_toArray, List.set_cons_zero, List.set_cons_succ]
      refine wpAnyH_take (i := 5) (oi := ⟨some 57, _, _, _, _, _⟩) (v := ?_) rfl (by kernel_rfl) (by kernel_rfl) (by kernel_rfl) (fun _ _ _ h => h) (Or.inl ⟨by rfl, ?_⟩) (by assumption) ?_
      rotate_left
      · (intro w hSw; (try dsimp only at hSw); go_simp; try with_reducible rfl)
      try simp only [Act.put, List.setIfInBounds_toArray, List.set_cons_zero, List.set_cons_succ]
      refine wpAnyH_take (i := 6) (oi := ⟨some 58, _, _, _, _, _⟩) (v := ?_) rfl (by kernel_rfl) (by kernel_rfl) (by kernel_rfl) (fun _ _ _ h => h) (Or.inl ⟨by rfl, ?_⟩) (by assumption) ?_
      rotate_left
      · (intro w hSw; (try dsimp only at hSw); go_simp; try with_reducible rfl)
      try simp only [Act.put, List.setIfInBounds_toArray, List.set_cons_zero, List.set_cons_succ]
      refine wpAnyH_take (i := 7) (oi := ⟨some 59, _, _, _, _, _⟩) (v := ?_) rfl (by kernel_rfl) (by kernel_rfl) (by kernel_rfl) (fun _ _ _ h => h) (Or.inl ⟨by rfl, ?_⟩) (by assumption) ?_
      rotate_left
      · (intro w hSw; (try dsimp only at hSw); go_simp; try with_reducible rfl)
      try simp only [Act.put, List.setIfInBounds_toArray, List.set_cons_zero, List.set_cons_succ]
      refine wpAnyH_take (i := 8) (oi := ⟨some 60, _, _, _, _, _⟩) (v := ?_) rfl (by kernel_rfl) (by kernel_rfl) (by kernel_rfl) (fun _ _ _ h => h) (Or.inl ⟨by rfl, ?_⟩) (by assumption) ?_
      rotate_left
      · (intro w hSw; (try dsimp only at hSw); go_simp; try with_reducible rfl)
      try simp only [Act.put, List.setIfInBounds_toArray, List.set_cons_zero, List.set_cons_succ]
      refine wpAnyH_take (i := 11) (oi := ⟨some 63, _, _, _, _, _⟩) (v := ?_) rfl (by kernel_rfl) (by kernel_rfl) (by kernel_rfl) (fun _ _ _ h => h) (Or.inl ⟨by rfl, ?_⟩) (by assumption) ?_
      rotate_left
      · (intro w hSw; (try dsimp only at hSw); go_simp; try with_reducible rfl)
      try simp only [Act.put, List.setIfInBounds_toArray, List.set_cons_zero, List.set_cons_succ]
      refine wpAnyH_take (i := 12) (oi := ⟨some 64, _, _, _, _, _⟩) (v := ?_) rfl (by kernel_rfl) (by kernel_rfl) (by kernel_rfl) (fun _ _ _ h => h) (Or.inl ⟨by rfl, ?_⟩) (by assumption) ?_
      rotate_left
      · (intro w hSw; (try dsimp only at hSw); go_simp; try with_reducible rfl)
      try simp only [Act.put, List.setIfInBounds_toArray, List.set_cons_zero, List.set_cons_succ]
      refine wpAnyH_take (i := 13) (oi := ⟨some 65, _, _, _, _, _⟩) (v := ?_) rfl (by kernel_rfl) (by kernel_rfl) (by kernel_rfl) (fun _ _ _ h => h) (Or.inl ⟨by rfl, ?_⟩) (by assumption) ?_
      rotate_left
      · (intro w hSw; (try dsimp only at hSw); go_simp; try with_reducible rfl)
      try simp only [Act.put, List.setIfInBounds_toArray, List.set_cons_zero, List.set_cons_succ]
      refine wpAnyH_take (i := 14) (oi := ⟨some 66, _, _, _, _, _⟩) (v := ?_) rfl (by kernel_rfl) (by kernel_rfl) (by kernel_rfl) (fun _ _ _ h => h) (Or.inl ⟨by rfl, ?_⟩) (by assumption) ?_
      rotate_left
      · (intro w hSw; (try dsimp only at hSw); go_simp; try with_reducible rfl)
      try simp only [Act.put, List.setIfInBounds_toArray, List.set_cons_zero, List.set_cons_succ]
      refine wpAnyH_ready (rs := [9]) (by kernel_rfl) (by simp) ?_
      refine AllReadyH.cons rfl (fun K hK => ?_) AllReadyH.nil
      go_simp
      refine (hcu _).mono ?_
      rintro e w3 ⟨v3, rfl, ho3, hg3⟩
      have hb3 : Below w2.heap.size w2 w3 := belowg_drew hg3
      have hcv3 := conv_of ho3.reads
      obtain ⟨a3, c3, rfl⟩ := ho3.reads.form
      go_wp2_with fail
      refine hK.out _ _ ⟨hb3, hcv _ hb3⟩ (fun hS3 => ?_)
      clear hK
      refine wpAnyH_ready (rs := [10]) (by kernel_rfl) (by simp) ?_
      refine AllReadyH.cons rfl (fun K hK => ?_) AllReadyH.nil
      go_simp
      refine hK.out _ _ hS3 (fun hS4 => ?_)
      clear hK
      refine wpAnyH_take (i := 15) (oi := ⟨some 67, _, _, _, _, _⟩) (v := ?_) rfl (by kernel_rfl) (by kernel_rfl) (by kernel_rfl) (fun _ _ _ h => h) (Or.inl ⟨by rfl, ?_⟩) (by assumption) ?_
      rotate_left
      · (intro w hSw; (try dsimp only at hSw); go_simp; try with_reducible rfl)
      try simp only [Act.put, List.setIfInBounds_toArray, List.set_cons_zero, List.set_cons_succ]
      refine wpAnyH_take (i := 16) (oi := ⟨some 68, _, _, _, _, _⟩) (v := ?_) rfl (by kernel_rfl) (by kernel_rfl) (by kernel_rfl) (fun _ _ _ h => h) (Or.inl ⟨by rfl, ?_⟩) (by assumption) ?_
      rotate_left
      · (intro w hSw; (try dsimp only at hSw); go_simp; try with_reducible rfl)
      try simp only [Act.put, List.setIfInBounds_toArray, List.set_cons_zero, List.set_cons_succ]
      refine wpAnyH_take (i := 17) (oi := ⟨some 69, _, _, _, _, _⟩) (v := ?_) rfl (by kernel_rfl) (by kernel_rfl) (by kernel_rfl) (fun _ _ _ h => h) (Or.inl ⟨by rfl, ?_⟩) (by assumption) ?_
      rotate_left
      · (intro w hSw; (try dsimp only at hSw); go_simp; try with_reducible rfl)
      try simp only [Act.put, List.setIfInBounds_toArray, List.set_cons_zero, List.set_cons_succ]
      refine wpAnyH_done (by kernel_rfl) ?_ _
      go_wp2_with fail
      go_meet
      exact ⟨by simp, below_on hb hb3⟩
    · have hx0 : (x == 0) = false := by simpa using hx
      clear hx hrd
      go_quiet (fail)
      go_wp2_with fail
      go_meet
      exact ⟨rfl, hb.drewN _⟩
  case rest =>
  obtain ⟨rfl, hb⟩ := hcut
  obtain ⟨f, fm, fx, hf⟩ : ∃ f m x, fRes bs = (f, m, x) := ⟨_, _, _, rfl⟩
  have hF := Lib.hid hf
  clear hf
  go_upto_if 77 with (go_at_call 22; refine (ReadField_any a _ c bs f fm fx _ (hr.all hb) hF.out).mono ?_; rintro e w2 ⟨v2, rfl, ho2, hb2⟩)
  replace hb := below_on hb hb2
  clear hb2
  go_cut [] (fun wx => Below w.heap.size w wx)
  case first =>
    rcases fRes_cases hF.out with ⟨rfl, hrd⟩ | ⟨hx, rfl, rfl, hrd⟩
    · obtain ⟨ho, hle, hfl⟩ := once_field hrd
      obtain ⟨a2, c2, rfl⟩ := ho2.reads.form
      have hc2 := Field_ok f a2 _ c2 w2 ho2.reads hfl
      rw [ho] at hc2
      have hlm : decide ((bs.length : Int) < (fm : Int)) = false := by rw [decide_eq_false_iff_not]; omega
      have hlm2 : decide (bs.length < fm) = false := by rw [decide_eq_false_iff_not]; omega
      have hsl := run_cut_hi a bs.length c fm (by omega)
      clear hrd ho
      go_wp2_with (go_at_call 27; refine hc2.mono ?_; rintro e w3 ⟨v3, rfl, ho3, hb3⟩)
      have hcv := conv_cut (hr.all (below_on hb hb3)) fm hle
      obtain ⟨tk, htk⟩ : ∃ tk, tk = bs.take fm := ⟨_, rfl⟩
      rw [← htk] at ho3 hcv
      have hq1 : ∀ k, (convert 23 9 (.slice a fm c)).run Try.prog (w3.drewN k) = .ok (.string ⟨tk.toArray⟩) (w3.drewN k) := fun k => hcv _ ((Below.refl _ _).drewN k)
      have hq2 : ∀ k, (convert 23 9 v3).run Try.prog (w3.drewN k) = .ok (.string ⟨tk.toArray⟩) (w3.drewN k) := fun k => conv_of (ho3.reads.new (gdrewN (World.grownBy.refl _ _) k))
      clear htk hcv
      go_quiet (fail)
      go_wp2_with fail
      go_meet
      exact below_on hb (hb3.drewN _)
    · have hx0 : (fx == 0) = false := by simpa using hx
      clear hx hrd
      go_wp2_with fail
      go_meet
      exact hb
  case rest =>
  replace hb := hcut
  clear hcut hF ho2
  obtain ⟨L, fm, fx, hf⟩ : ∃ f m x, lRes bs = (f, m, x) := ⟨_, _, _, rfl⟩
  have hF := Lib.hid hf
  clear hf
  go_upto_if 107 with (go_at_call 24; refine (ReadFields_any a _ c bs L fm fx _ (hr.all hb) hF.out).mono ?_; rintro e w2 ⟨v2, rfl, ho2, hb2⟩)
  replace hb := below_on hb hb2
  clear hb2
  go_cut [] (fun wx => Below w.heap.size w wx)
  case first =>
    rcases lRes_cases hF.out with ⟨rfl, hrd⟩ | ⟨hx, rfl, rfl, hrd⟩
    · obtain ⟨ho, hle, hfl, hall⟩ := once_fields hrd
      obtain ⟨a2, l2, c2, rfl⟩ := ho2.reads.form
      have hc2 := Fields_ok L a2 _ c2 w2 ho2.reads hfl hall
      rw [ho] at hc2
      have hlm : decide ((bs.length : Int) < (fm : Int)) = false := by rw [decide_eq_false_iff_not]; omega
      have hlm2 : decide (bs.length < fm) = false := by rw [decide_eq_false_iff_not]; omega
      have hsl := run_cut_hi a bs.length c fm (by omega)
      clear hrd ho hall
      go_wp2_with (go_at_call 28; refine hc2.mono ?_; rintro e w3 ⟨v3, rfl, ho3, hb3⟩)
      have hcv := conv_cut (hr.all (below_on hb hb3)) fm hle
      obtain ⟨tk, htk⟩ : ∃ tk, tk = bs.take fm := ⟨_, rfl⟩
      rw [← htk] at ho3 hcv
      have hq1 : ∀ k, (convert 23 9 (.slice a fm c)).run Try.prog (w3.drewN k) = .ok (.string ⟨tk.toArray⟩) (w3.drewN k) := fun k => hcv _ ((Below.refl _ _).drewN k)
      have hq2 : ∀ k, (convert 23 9 v3).run Try.prog (w3.drewN k) = .ok (.string ⟨tk.toArray⟩) (w3.drewN k) := fun k => conv_of (ho3.reads.new (gdrewN (World.grownBy.refl _ _) k))
      clear htk hcv
      go_quiet (fail)
      go_wp2_with fail
      go_meet
      exact below_on hb (hb3.drewN _)
    · have hx0 : (fx == 0) = false := by simpa using hx
      clear hx hrd
      go_wp2_with fail
      go_meet
      exact hb
  case rest =>
  replace hb := hcut
  clear hcut hF ho2
  go_wp2_with fail
  go_ret
  exact ⟨rfl, hb⟩

set_option maxHeartbeats 1000000 in
theorem once_big (a : Option Addr) (l c : Nat) (w : World) (hl : 5000 < l) :
    Calls Try.prog 5 #[.slice a l c] w fun e w' => e = .returned (.bool true) ∧ Below w.heap.size w w' := by
  go_enter Try.func5, Try.ntmps5
  go_wp2_with (go_at_call 9; refine (awake_any _).mono ?_; rintro e w1 ⟨rfl, hg1⟩)
  go_ret
  exact ⟨rfl, gbelow hg1 (Nat.le_refl _) (by simp)⟩

theorem CodecOnce_walk (w : World) (a : Option Addr) (l c : Nat) (bs : List UInt8) (hr : Reads w (.slice a l c) bs) :
    Calls Try.prog 5 #[.slice a l c] w fun e w' => e = .returned (.bool true) ∧ Below w.heap.size w w' := by
  by_cases h : l ≤ 5000
  · exact once_law a l c bs w hr (by have := hr.slice.1; omega)
  · exact once_big a l c w (by omega)
end Go.Proofs.Ytmpeodjpaihndaa
