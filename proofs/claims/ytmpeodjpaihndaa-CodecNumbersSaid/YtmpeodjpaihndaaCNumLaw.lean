/-
  LAYER 2 (codec): CodecNumbers: numbers are written in just one way and read back, whatever follows; a beginning of it is refused.
-/
import Derived.Test.YtmpeodjpaihndaaCFixW
import Derived.Test.YtmpeodjpaihndaaCStr
import Derived.Test.YtmpeodjpaihndaaCBack
import Derived.Test.YtmpeodjpaihndaaCShort
import Derived.Deep.DeepCutAuto
import Derived.Deep.RegionHeld3
import Derived.ProofKit
import Derived.OpenShut
namespace Go.Proofs.Ytmpeodjpaihndaa
open Go.RowKit Go.Lib

theorem below_on' {w w1 w2 : World} (h : Below w.heap.size w w1) (k : Below w1.heap.size w1 w2) : Below w.heap.size w w2 := h.trans (k.mono h.size)

/-- Fixed, whatever it is given, and the reference's: alike. -/
def fxBytes (n : Nat) (x : Int) : List UInt8 := if 1 ≤ x ∧ x ≤ 8 ∧ n < 2 ^ (8 * x.toNat) then leB n x.toNat else []
def fxErr (n : Nat) (x : Int) : Int := if 1 ≤ x ∧ x ≤ 8 ∧ n < 2 ^ (8 * x.toNat) then 0 else 1
theorem Fixed_any (n : Nat) (x : Int) (hn : n < 18446744073709551616) (w : World) :
    Calls Try.prog 12 #[.int .u64 (n : Int), .int .i64 x] w fun e w' => ∃ v, e = .returned (.tuple #[v, .int .i64 (fxErr n x)]) ∧ Reads w' v (fxBytes n x) ∧ w.grownBy w' none := by
  by_cases hx : 1 ≤ x ∧ x ≤ 8
  · obtain ⟨k, rfl⟩ := Int.eq_ofNat_of_zero_le (show 0 ≤ x by omega)
    have hk : 1 ≤ k ∧ k ≤ 8 := by omega
    by_cases hb : n < 2 ^ (8 * k)
    · have c1 : fxErr n k = 0 := if_pos ⟨hx.1, hx.2, hb⟩
      have c2 : fxBytes n k = leB n k := if_pos ⟨hx.1, hx.2, hb⟩
      rw [c1, c2]
      exact (Fixed_ok n k w hn hk hb).mono fun e w' ⟨v, he, ho, hg⟩ => ⟨v, he, ho.reads, hg⟩
    · have c1 : fxErr n k = 1 := if_neg fun h => hb h.2.2
      have c2 : fxBytes n k = [] := if_neg fun h => hb h.2.2
      rw [c1, c2]
      exact (Fixed_big n k w hn hk (by omega)).mono fun e w' ⟨he, hw⟩ => ⟨_, he, .inl ⟨rfl, rfl⟩, hw ▸ World.grownBy.refl _ _⟩
  · have c1 : fxErr n x = 1 := if_neg fun h => hx ⟨h.1, h.2.1⟩
    have c2 : fxBytes n x = [] := if_neg fun h => hx ⟨h.1, h.2.1⟩
    rw [c1, c2]
    exact (Fixed_range n x w hx).mono fun e w' ⟨he, hw⟩ => ⟨_, he, .inl ⟨rfl, rfl⟩, hw ▸ World.grownBy.refl _ _⟩
theorem refFixed_any (n : Nat) (x : Int) (hn : n < 18446744073709551616) (w : World) :
    Calls Try.prog 13 #[.int .u64 (n : Int), .int .i64 x] w fun e w' => ∃ v, e = .returned (.tuple #[v, .int .i64 (fxErr n x)]) ∧ Reads w' v (fxBytes n x) ∧ w.grownBy w' none := by
  by_cases hx : 1 ≤ x ∧ x ≤ 8
  · obtain ⟨k, rfl⟩ := Int.eq_ofNat_of_zero_le (show 0 ≤ x by omega)
    have hk : 1 ≤ k ∧ k ≤ 8 := by omega
    by_cases hb : n < 2 ^ (8 * k)
    · have c1 : fxErr n k = 0 := if_pos ⟨hx.1, hx.2, hb⟩
      have c2 : fxBytes n k = leB n k := if_pos ⟨hx.1, hx.2, hb⟩
      rw [c1, c2]
      exact (refFixed_ok n k w hn hk hb).mono fun e w' ⟨v, he, ho, hg⟩ => ⟨v, he, ho.reads, hg⟩
    · have c1 : fxErr n k = 1 := if_neg fun h => hb h.2.2
      have c2 : fxBytes n k = [] := if_neg fun h => hb h.2.2
      rw [c1, c2]
      exact (refFixed_big n k w hn hk (by omega)).mono fun e w' ⟨he, hw⟩ => ⟨_, he, .inl ⟨rfl, rfl⟩, hw ▸ World.grownBy.refl _ _⟩
  · have c1 : fxErr n x = 1 := if_neg fun h => hx ⟨h.1, h.2.1⟩
    have c2 : fxBytes n x = [] := if_neg fun h => hx ⟨h.1, h.2.1⟩
    rw [c1, c2]
    exact (refFixed_range n x w hx).mono fun e w' ⟨he, hw⟩ => ⟨_, he, .inl ⟨rfl, rfl⟩, hw ▸ World.grownBy.refl _ _⟩

set_option maxHeartbeats 4000000 in
set_option maxRecDepth 100000 in
theorem num_law (n : Nat) (i wide : Int) (a : Option Addr) (l c : Nat) (more : List UInt8) (w : World) (hn : n < 18446744073709551616) (hi0 : -9223372036854775808 ≤ i) (hi1 : i ≤ 9223372036854775807) (hr : Reads w (.slice a l c) more) (hl : more.length ≤ 2000) :
    Calls Try.prog 3 #[.int .u64 (n : Int), .int .i64 i, .int .i64 wide, .slice a l c] w fun e w' => e = .returned (.bool true) ∧ Below w.heap.size w w' := by
  obtain ⟨rfl, hc, hm⟩ := hr.slice
  obtain ⟨i0, hi, hz0, hz1, hz2⟩ := info_parts infoU8
  obtain ⟨A, hA⟩ : ∃ A, A = Lib.uvarint n := ⟨_, rfl⟩
  obtain ⟨Bb, hBb⟩ : ∃ B, B = Lib.uvarint (zigzag i) := ⟨_, rfl⟩
  have hzz := zigzag_lt i hi0 hi1
  have cA := Uint_any n hn
  have cB := Int_any i hi0 hi1
  have cC := Fixed_any n wide hn
  have cD := refFixed_any n wide hn
  have cE := refUint_any n hn
  have cF := refInt_any i hi0 hi1
  have lA : A.length ≤ 10 := by rw [hA]; exact ulen_le hn
  have lB : Bb.length ≤ 10 := by rw [hBb]; exact ulen_le hzz
  have bA : rd 0 0 (A ++ more) = .ok (n, A.length) := by rw [hA]; exact back_uint n hn more
  have bB : rd 0 0 (Bb ++ more) = .ok (zigzag i, Bb.length) := by rw [hBb]; exact back_uint _ hzz more
  have sA : ∀ x, x < A.length → rd 0 0 (A.take x) = .error 20 := by rw [hA]; exact fun x hx => short_uint n hn x hx
  rw [← hA] at cA cE
  obtain ⟨MA, hMA⟩ : ∃ x, x = A ++ more := ⟨_, rfl⟩
  obtain ⟨MBb, hMBb⟩ : ∃ x, x = Bb ++ more := ⟨_, rfl⟩
  rw [← hMA] at bA
  rw [← hMBb] at bB
  have HMA := Lib.hid hMA
  have HMBb := Lib.hid hMBb
  clear hMA hMBb
  rw [← hBb] at cB cF
  have HA := Lib.hid bA
  have HB := Lib.hid bB
  have HS := Lib.hid sA
  obtain ⟨fb, hfb⟩ : ∃ b, b = fxBytes n wide := ⟨_, rfl⟩
  rw [← hfb] at cC cD
  clear hA hBb hzz bA bB sA hfb hn hi0 hi1
  go_enter Try.func3, Try.ntmps3
  go_upto_region 9 with (first | (go_at_call 9; refine (awake_any _).mono ?_; rintro e w1 ⟨rfl, hg1⟩) | (go_at_call 10; refine (cA _).mono ?_; rintro e w2 ⟨vA, rfl, hoA, hg2⟩) | (go_at_call 11; refine (cB _).mono ?_; rintro e w3 ⟨vB, rfl, hoB, hg3⟩) | (go_at_call 12; refine (cC _).mono ?_; rintro e w4 ⟨vC, rfl, hrC, hg4⟩) | (go_at_call 13; refine (cD _).mono ?_; rintro e w5 ⟨vD, rfl, hrD, hg5⟩))
  have hrA : Reads w5 vA A := (((hoA.reads.new hg3).new hg4).new hg5)
  have hrBb : Reads w5 vB Bb := ((hoB.reads.new hg4).new hg5)
  have hrC5 : Reads w5 vC fb := hrC.new hg5
  have hb : Below w.heap.size w w5 := gbelow ((((hg1.trans hg2).trans hg3).trans hg4).trans hg5) (Nat.le_refl _) (by simp)
  clear hoA hoB hrC hg1 hg2 hg3 hg4 hg5
  go_cut [70] (fun s wx => s = .bool false ∧ Below w5.heap.size w5 wx)
  case first =>
    have hD : Below w5.heap.size w5 w5.drew := (Below.refl _ _).drew
    have qA : ∀ wx, Below w5.heap.size w5 wx → (convert 23 9 vA).run Try.prog wx = .ok (.string ⟨A.toArray⟩) wx := fun wx h => conv_of (hrA.all h)
    have qB : ∀ wx, Below w5.heap.size w5 wx → (convert 23 9 vB).run Try.prog wx = .ok (.string ⟨Bb.toArray⟩) wx := fun wx h => conv_of (hrBb.all h)
    have qC : ∀ wx, Below w5.heap.size w5 wx → (convert 23 9 vC).run Try.prog wx = .ok (.string ⟨fb.toArray⟩) wx := fun wx h => conv_of (hrC5.all h)
    have qD : ∀ wx, Below w5.heap.size w5 wx → (convert 23 9 vD).run Try.prog wx = .ok (.string ⟨fb.toArray⟩) wx := fun wx h => conv_of (hrD.all h)
    refine wp_region_held_drew (S := fun w' => Below w5.heap.size w5 w') (by kernel_rfl) hD (fun hS0 => ?_)
    refine wpAnyH_take (i := 0) (oi := ⟨some 45, _, _, _, _, _⟩) (v := ?_) rfl (by kernel_rfl) (by kernel_rfl) (by kernel_rfl) (fun _ _ _ h => h) (Or.inl ⟨by rfl, ?_⟩) (by assumption) ?_
    rotate_left
    · (intro w hSw; (try dsimp only at hSw); go_simp; try with_reducible rfl)
    try simp only [Act.put, List.setIfInBounds_toArray, List.set_cons_zero, List.set_cons_succ]
    refine wpAnyH_take (i := 1) (oi := ⟨some 46, _, _, _, _, _⟩) (v := ?_) rfl (by kernel_rfl) (by kernel_rfl) (by kernel_rfl) (fun _ _ _ h => h) (Or.inl ⟨by rfl, ?_⟩) (by assumption) ?_
    rotate_left
    · (intro w hSw; (try dsimp only at hSw); go_simp; try with_reducible rfl)
    try simp only [Act.put, List.setIfInBounds_toArray, List.set_cons_zero, List.set_cons_succ]
    refine wpAnyH_take (i := 2) (oi := ⟨some 47, _, _, _, _, _⟩) (v := ?_) rfl (by kernel_rfl) (by kernel_rfl) (by kernel_rfl) (fun _ _ _ h => h) (Or.inl ⟨by rfl, ?_⟩) (by assumption) ?_
    rotate_left
    · (intro w hSw; (try dsimp only at hSw); go_simp; try with_reducible rfl)
    try simp only [Act.put, List.setIfInBounds_toArray, List.set_cons_zero, List.set_cons_succ]
    refine wpAnyH_ready (rs := [3]) (by kernel_rfl) (by simp) ?_
    refine AllReadyH.cons rfl (fun K hK => ?_) AllReadyH.nil
    go_simp
    refine (cE _).mono ?_
    rintro e w6 ⟨v6, rfl, ho6, hg6⟩
    have hb6 : Below w5.heap.size w5 w6 := belowg_drew hg6
    have hcv6 := conv_of ho6.reads
    obtain ⟨a6, c6, rfl⟩ := ho6.reads.form
    go_wp2_with fail
    refine hK.out _ _ hb6 (fun hS3 => ?_)
    clear hK
    refine wpAnyH_ready (rs := [4]) (by kernel_rfl) (by simp) ?_
    refine AllReadyH.cons rfl (fun K hK => ?_) AllReadyH.nil
    go_simp
    refine hK.out _ _ hS3 (fun hS4 => ?_)
    clear hK
    refine wpAnyH_take (i := 5) (oi := ⟨some 50, _, _, _, _, _⟩) (v := ?_) rfl (by kernel_rfl) (by kernel_rfl) (by kernel_rfl) (fun _ _ _ h => h) (Or.inl ⟨by rfl, ?_⟩) (by assumption) ?_
    rotate_left
    · (intro w hSw; (try dsimp only at hSw); go_simp; try with_reducible rfl)
    try simp only [Act.put, List.setIfInBounds_toArray, List.set_cons_zero, List.set_cons_succ]
    refine wpAnyH_take (i := 6) (oi := ⟨some 51, _, _, _, _, _⟩) (v := ?_) rfl (by kernel_rfl) (by kernel_rfl) (by kernel_rfl) (fun _ _ _ h => h) (Or.inl ⟨by rfl, ?_⟩) (by assumption) ?_
    rotate_left
    · (intro w hSw; (try dsimp only at hSw); go_simp; try with_reducible rfl)
    try simp only [Act.put, List.setIfInBounds_toArray, List.set_cons_zero, List.set_cons_succ]
    refine wpAnyH_take (i := 7) (oi := ⟨some 52, _, _, _, _, _⟩) (v := ?_) rfl (by kernel_rfl) (by kernel_rfl) (by kernel_rfl) (fun _ _ _ h => h) (Or.inl ⟨by rfl, ?_⟩) (by assumption) ?_
    rotate_left
    · (intro w hSw; (try dsimp only at hSw); go_simp; try with_reducible rfl)
    try simp only [Act.put, List.setIfInBounds_toArray, List.set_cons_zero, List.set_cons_succ]
    refine wpAnyH_take (i := 8) (oi := ⟨some 53, _, _, _, _, _⟩) (v := ?_) rfl (by kernel_rfl) (by kernel_rfl) (by kernel_rfl) (fun _ _ _ h => h) (Or.inl ⟨by rfl, ?_⟩) (by assumption) ?_
    rotate_left
    · (intro w hSw; (try dsimp only at hSw); go_simp; try with_reducible rfl)
    try simp only [Act.put, List.setIfInBounds_toArray, List.set_cons_zero, List.set_cons_succ]
    refine wpAnyH_take (i := 9) (oi := ⟨some 54, _, _, _, _, _⟩) (v := ?_) rfl (by kernel_rfl) (by kernel_rfl) (by kernel_rfl) (fun _ _ _ h => h) (Or.inl ⟨by rfl, ?_⟩) (by assumption) ?_
    rotate_left
    · (intro w hSw; (try dsimp only at hSw); go_simp; try with_reducible rfl)
    try simp only [Act.put, List.setIfInBounds_toArray, List.set_cons_zero, List.set_cons_succ]
    refine wpAnyH_ready (rs := [10]) (by kernel_rfl) (by simp) ?_
    refine AllReadyH.cons rfl (fun K hK => ?_) AllReadyH.nil
    go_simp
    refine (cF _).mono ?_
    rintro e w7 ⟨v7, rfl, ho7, hg7⟩
    have hb7 : Below w5.heap.size w5 w7 := below_on' hb6 (belowg' hg7)
    have hcv7 := conv_of ho7.reads
    obtain ⟨a7, c7, rfl⟩ := ho7.reads.form
    go_wp2_with fail
    refine hK.out _ _ hb7 (fun hS7 => ?_)
    clear hK
    refine wpAnyH_ready (rs := [11]) (by kernel_rfl) (by simp) ?_
    refine AllReadyH.cons rfl (fun K hK => ?_) AllReadyH.nil
    go_simp
    refine hK.out _ _ hS7 (fun hS8 => ?_)
    clear hK
    refine wpAnyH_take (i := 12) (oi := ⟨some 57, _, _, _, _, _⟩) (v := ?_) rfl (by kernel_rfl) (by kernel_rfl) (by kernel_rfl) (fun _ _ _ h => h) (Or.inl ⟨by rfl, ?_⟩) (by assumption) ?_
    rotate_left
    · (intro w hSw; (try dsimp only at hSw); go_simp; try with_reducible rfl)
    try simp only [Act.put, List.setIfInBounds_toArray, List.set_cons_zero, List.set_cons_succ]
    refine wpAnyH_take (i := 13) (oi := ⟨some 58, _, _, _, _, _⟩) (v := ?_) rfl (by kernel_rfl) (by kernel_rfl) (by kernel_rfl) (fun _ _ _ h => h) (Or.inl ⟨by rfl, ?_⟩) (by assumption) ?_
    rotate_left
    · (intro w hSw; (try dsimp only at hSw); go_simp; try with_reducible rfl)
    try simp only [Act.put, List.setIfInBounds_toArray, List.set_cons_zero, List.set_cons_succ]
    refine wpAnyH_take (i := 14) (oi := ⟨some 59, _, _, _, _, _⟩) (v := ?_) rfl (by kernel_rfl) (by kernel_rfl) (by kernel_rfl) (fun _ _ _ h => h) (Or.inl ⟨by rfl, ?_⟩) (by assumption) ?_
    rotate_left
    · (intro w hSw; (try dsimp only at hSw); go_simp; try with_reducible rfl)
    try simp only [Act.put, List.setIfInBounds_toArray, List.set_cons_zero, List.set_cons_succ]
    refine wpAnyH_take (i := 15) (oi := ⟨some 60, _, _, _, _, _⟩) (v := ?_) rfl (by kernel_rfl) (by kernel_rfl) (by kernel_rfl) (fun _ _ _ h => h) (Or.inl ⟨by rfl, ?_⟩) (by assumption) ?_
    rotate_left
    · (intro w hSw; (try dsimp only at hSw); go_simp; try with_reducible rfl)
    try simp only [Act.put, List.setIfInBounds_toArray, List.set_cons_zero, List.set_cons_succ]
    refine wpAnyH_take (i := 16) (oi := ⟨some 61, _, _, _, _, _⟩) (v := ?_) rfl (by kernel_rfl) (by kernel_rfl) (by kernel_rfl) (fun _ _ _ h => h) (Or.inl ⟨by rfl, ?_⟩) (by assumption) ?_
    rotate_left
    · (intro w hSw; (try dsimp only at hSw); go_simp; try with_reducible rfl)
    try simp only [Act.put, List.setIfInBounds_toArray, List.set_cons_zero, List.set_cons_succ]
    refine wpAnyH_take (i := 17) (oi := ⟨some 62, _, _, _, _, _⟩) (v := ?_) rfl (by kernel_rfl) (by kernel_rfl) (by kernel_rfl) (fun _ _ _ h => h) (Or.inl ⟨by rfl, ?_⟩) (by assumption) ?_
    rotate_left
    · (intro w hSw; (try dsimp only at hSw); go_simp; try with_reducible rfl)
    try simp only [Act.put, List.setIfInBounds_toArray, List.set_cons_zero, List.set_cons_succ]
    refine wpAnyH_take (i := 18) (oi := ⟨some 63, _, _, _, _, _⟩) (v := ?_) rfl (by kernel_rfl) (by kernel_rfl) (by kernel_rfl) (fun _ _ _ h => h) (Or.inl ⟨by rfl, ?_⟩) (by assumption) ?_
    rotate_left
    · (intro w hSw; (try dsimp only at hSw); go_simp; try with_reducible rfl)
    try simp only [Act.put, List.setIfInBounds_toArray, List.set_cons_zero, List.set_cons_succ]
    refine wpAnyH_take (i := 19) (oi := ⟨some 64, _, _, _, _, _⟩) (v := ?_) rfl (by kernel_rfl) (by kernel_rfl) (by kernel_rfl) (fun _ _ _ h => h) (Or.inl ⟨by rfl, ?_⟩) (by assumption) ?_
    rotate_left
    · (intro w hSw; (try dsimp only at hSw); go_simp; try with_reducible rfl)
    try simp only [Act.put, List.setIfInBounds_toArray, List.set_cons_zero, List.set_cons_succ]
    refine wpAnyH_take (i := 20) (oi := ⟨some 65, _, _, _, _, _⟩) (v := ?_) rfl (by kernel_rfl) (by kernel_rfl) (by kernel_rfl) (fun _ _ _ h => h) (Or.inl ⟨by rfl, ?_⟩) (by assumption) ?_
    rotate_left
    · (intro w hSw; (try dsimp only at hSw); go_simp; try with_reducible rfl)
    try simp only [Act.put, List.setIfInBounds_toArray, List.set_cons_zero, List.set_cons_succ]
    refine wpAnyH_take (i := 21) (oi := ⟨some 66, _, _, _, _, _⟩) (v := ?_) rfl (by kernel_rfl) (by kernel_rfl) (by kernel_rfl) (fun _ _ _ h => h) (Or.inl ⟨by rfl, ?_⟩) (by assumption) ?_
    rotate_left
    · (intro w hSw; (try dsimp only at hSw); go_simp; try with_reducible rfl)
    try simp only [Act.put, List.setIfInBounds_toArray, List.set_cons_zero, List.set_cons_succ]
    refine wpAnyH_take (i := 22) (oi := ⟨some 67, _, _, _, _, _⟩) (v := ?_) rfl (by kernel_rfl) (by kernel_rfl) (by kernel_rfl) (fun _ _ _ h => h) (Or.inl ⟨by rfl, ?_⟩) (by assumption) ?_
    rotate_left
    · (intro w hSw; (try dsimp only at hSw); go_simp; try with_reducible rfl)
    try simp only [Act.put, List.setIfInBounds_toArray, List.set_cons_zero, List.set_cons_succ]
    refine wpAnyH_take (i := 23) (oi := ⟨some 68, _, _, _, _, _⟩) (v := ?_) rfl (by kernel_rfl) (by kernel_rfl) (by kernel_rfl) (fun _ _ _ h => h) (Or.inl ⟨by rfl, ?_⟩) (by assumption) ?_
    rotate_left
    · (intro w hSw; (try dsimp only at hSw); go_simp; try with_reducible rfl)
    try simp only [Act.put, List.setIfInBounds_toArray, List.set_cons_zero, List.set_cons_succ]
    refine wpAnyH_take (i := 24) (oi := ⟨some 69, _, _, _, _, _⟩) (v := ?_) rfl (by kernel_rfl) (by kernel_rfl) (by kernel_rfl) (fun _ _ _ h => h) (Or.inl ⟨by rfl, ?_⟩) (by assumption) ?_
    rotate_left
    · (intro w hSw; (try dsimp only at hSw); go_simp; try with_reducible rfl)
    try simp only [Act.put, List.setIfInBounds_toArray, List.set_cons_zero, List.set_cons_succ]
    refine wpAnyH_take (i := 25) (oi := ⟨some 70, _, _, _, _, _⟩) (v := ?_) rfl (by kernel_rfl) (by kernel_rfl) (by kernel_rfl) (fun _ _ _ h => h) (Or.inl ⟨by rfl, ?_⟩) (by assumption) ?_
    rotate_left
    · (intro w hSw; (try dsimp only at hSw); go_simp; try with_reducible rfl)
    try simp only [Act.put, List.setIfInBounds_toArray, List.set_cons_zero, List.set_cons_succ]
    refine wpAnyH_done (by kernel_rfl) ?_ _
    go_wp2_with fail
    go_meet
    exact ⟨by simp, hb7⟩
  case rest =>
  obtain ⟨rfl, hb5⟩ := hcut
  replace hb := below_on' hb hb5
  replace hrA := hrA.all hb5
  replace hrBb := hrBb.all hb5
  clear hrC5 hrD hb5 cA cB cC cD cE cF
  have hsz : w.heap.size ≤ wc.heap.size := hb.size
  have hrM := hr.all hb
  go_upto_region 12 with (first | (at_builtin; refine wpList_append_bytes _ rfl (.const (.slice none 0 0)) _ 23 rfl wc.heap.size 5 i0 Try.underlying23 hi hz0 hz1 hz2 _ [] rfl (owns_nil _ _ _) vA A rfl hrA (by simp; omega) (Nat.le_refl _) ?_; intro v6 w6 ho6 hg6; have hs6 := hg6.size) | (at_builtin; refine wpList_append_bytes _ rfl _ _ 23 rfl wc.heap.size 5 i0 Try.underlying23 hi hz0 hz1 hz2 v6 ([] ++ A) rfl ho6 _ more rfl (hrM.new hg6) (by simp; omega) (by omega) ?_; intro v7 w7 ho7 hg7; have hrd7 := ho7.reads; rw [List.nil_append, ← HMA.out] at hrd7; obtain ⟨a7, c7, rfl⟩ := hrd7.form) | (go_at_call 16; have hcl := ReadUint_ok a7 _ c7 MA n A.length w7 hrd7 HA.out; (try rw [unzig_zigzag] at hcl); refine hcl.mono ?_; clear hcl; rintro e wd ⟨rfl, hb8⟩))
  have hst : Below wc.heap.size wc wd := (belowg' hg6).trans ((gbelow hg7 hs6 (fun k hk => (ho6.lt k hk).1)).trans (hb8.mono (by have := hg7.size; omega)))
  replace hb := below_on' hb hst
  replace hrA := hrA.all hst
  replace hrBb := hrBb.all hst
  clear ho6 ho7 hrd7 hg6 hg7 hb8 hs6 hrM hsz hst
  have hsz : w.heap.size ≤ wd.heap.size := hb.size
  have hrM := hr.all hb
  go_upto_region 13 with (first | (at_builtin; refine wpList_append_bytes _ rfl (.const (.slice none 0 0)) _ 23 rfl wd.heap.size 5 i0 Try.underlying23 hi hz0 hz1 hz2 _ [] rfl (owns_nil _ _ _) vB Bb rfl hrBb (by simp; omega) (Nat.le_refl _) ?_; intro v6 w6 ho6 hg6; have hs6 := hg6.size) | (at_builtin; refine wpList_append_bytes _ rfl _ _ 23 rfl wd.heap.size 5 i0 Try.underlying23 hi hz0 hz1 hz2 v6 ([] ++ Bb) rfl ho6 _ more rfl (hrM.new hg6) (by simp; omega) (by omega) ?_; intro v7 w7 ho7 hg7; have hrd7 := ho7.reads; rw [List.nil_append, ← HMBb.out] at hrd7; obtain ⟨a7, c7, rfl⟩ := hrd7.form) | (go_at_call 17; have hcl := ReadInt_ok a7 _ c7 MBb (zigzag i) Bb.length w7 hrd7 HB.out; (try rw [unzig_zigzag] at hcl); refine hcl.mono ?_; clear hcl; rintro e we ⟨rfl, hb8⟩))
  have hst : Below wd.heap.size wd we := (belowg' hg6).trans ((gbelow hg7 hs6 (fun k hk => (ho6.lt k hk).1)).trans (hb8.mono (by have := hg7.size; omega)))
  replace hb := below_on' hb hst
  replace hrA := hrA.all hst
  replace hrBb := hrBb.all hst
  clear ho6 ho7 hrd7 hg6 hg7 hb8 hs6 hrM hsz hst
  obtain ⟨aA, kA, rfl⟩ := hrA.form
  obtain ⟨aB, kB, rfl⟩ := hrBb.form
  clear HA HB HMA HMBb
  have hkA := hrA.slice.2.1
  go_wp2_with fail
  go_loopw [119] (fun vi wr => ∃ k : Nat, k ≤ A.length ∧ vi = .int .i64 (k : Int) ∧ Below we.heap.size we wr) (fun vi _ => A.length - (RowKit.intOf vi).toNat)
  case atStart => exact ⟨0, Nat.zero_le _, rfl, Below.refl _ _⟩
  case round =>
    obtain ⟨k, hk, rfl, hbr⟩ := hrel
    by_cases hlt : k < A.length
    · have hrk := (hrA.all hbr).cut 0 k (by omega)
      simp only [List.drop_zero] at hrk
      rw [show (aA.map fun x => x.add 0) = aA by cases aA <;> simp [Addr.add]] at hrk
      have hcall := ReadUint_bad aA k kA (A.take k) 20 wr hrk (HS.out k hlt)
      have hsl := run_cut_hi aA A.length kA k (by omega)
      clear hrk
      go_wp2_with (go_at_call 16; refine hcall.mono ?_; rintro e w9 ⟨rfl, hb9⟩)
      exact ⟨⟨k + 1, by omega, by go_num, hbr.trans (hb9.mono hbr.size)⟩, by simp [RowKit.intOf]; omega⟩
    · have hkl : k = A.length := by omega
      subst hkl
      go_wp2
      go_ret
      exact ⟨rfl, below_on' hb hbr⟩

set_option maxHeartbeats 1000000 in
theorem num_big (n : Nat) (i wide : Int) (a : Option Addr) (l c : Nat) (w : World) (hl : 2000 < l) :
    Calls Try.prog 3 #[.int .u64 (n : Int), .int .i64 i, .int .i64 wide, .slice a l c] w fun e w' => e = .returned (.bool true) ∧ Below w.heap.size w w' := by
  go_enter Try.func3, Try.ntmps3
  go_wp2_with (go_at_call 9; refine (awake_any _).mono ?_; rintro e w1 ⟨rfl, hg1⟩)
  go_ret
  exact ⟨rfl, gbelow hg1 (Nat.le_refl _) (by simp)⟩

theorem CodecNumbers_walk (w : World) (a0 : Int) (w0 : (Lit.int .u64 a0).wf = true) (a1 : Int) (w1 : (Lit.int .i64 a1).wf = true) (a2 : Int) (_w2 : (Lit.int .i64 a2).wf = true) (a : Option Addr) (l c : Nat) (bs : List UInt8) (hr : Reads w (.slice a l c) bs) :
    Calls Try.prog 3 #[.int .u64 a0, .int .i64 a1, .int .i64 a2, .slice a l c] w fun e w' => e = .returned (.bool true) ∧ Below w.heap.size w w' := by
  have b0 := bounds_u64 w0
  have b1 := bounds_i64 w1
  obtain ⟨n, rfl⟩ := Int.eq_ofNat_of_zero_le b0.1
  by_cases h : l ≤ 2000
  · exact num_law n a1 a2 a l c bs w (by omega) (by omega) (by omega) hr (by have := hr.slice.1; omega)
  · exact num_big n a1 a2 a l c w (by omega)
end Go.Proofs.Ytmpeodjpaihndaa
