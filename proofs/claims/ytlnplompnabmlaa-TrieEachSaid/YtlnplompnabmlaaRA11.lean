/-
  LAYER 9 (trie): slices.Sort at runes: the sort by a heap as a whole; a range turned round.
-/
import Derived.Test.YtlnplompnabmlaaRA10
import Derived.Deep.CutRange
import Derived.Deep.CutBlock
namespace Go.Proofs.Ytlnplompnabmlaa
set_option maxRecDepth 100000
open Go.RowKit Go.Sort

/-- Go halves toward zero. -/
theorem half_of {a b : Nat} (hab : a ≤ b) : ((b : Int) - (a : Int) - 1).tdiv 2 = (((b - a - 1) / 2 + 1 : Nat) : Int) - 1 := by
  rcases Nat.lt_or_ge a b with h | h
  · rw [Int.tdiv_eq_ediv_of_nonneg (by omega)]
    omega
  · obtain rfl : a = b := by omega
    rw [show ((a : Int) - (a : Int) - 1) = -1 by omega]
    simp
theorem RowAt.swpSame {w0 w : World} {blk off N : Nat} {d : Array Int} (h : RowAt w0 blk off N d w) {i : Nat} (hi : i < N) : RowAt w0 blk off N (Sort.swp d i i) ((w.setCell ⟨blk, off + i, none⟩ (.int .i32 (gt d i))).setCell ⟨blk, off + i, none⟩ (.int .i32 (gt d i))) := h.swp hi hi

set_option maxHeartbeats 3200000 in
set_option maxRecDepth 1000000 in
theorem heap_any {w0 w : World} {blk off N : Nat} {d : Array Int} (h : RowAt w0 blk off N d w) (cap a b : Nat) (hab : a ≤ b) (hb : b ≤ N) (hsz : N < 4611686018427387904) :
    Calls Try.prog 78 #[.slice (some ⟨blk, off, none⟩) N cap, .int .i64 a, .int .i64 b] w fun e w' => e = .returned (.tuple #[]) ∧ RowAt w0 blk off N (heapSort less d a b) w' := by
  have ecast : ((b - a : Nat) : Int) = (b : Int) - (a : Int) := by omega
  go_enter Try.func78, Try.ntmps78
  go_wp2
  go_loopg [9] ((b - a - 1) / 2 + 1) (fun k s9 wr => s9 = .int .i64 ((k : Int) - 1) ∧ k ≤ (b - a - 1) / 2 + 1 ∧ ∃ (dk : Array Int), RowAt w0 blk off N dk wr ∧
    heapBuild less (b - a) a k dk = heapBuild less (b - a) a ((b - a - 1) / 2 + 1) d)
  case atStart => exact ⟨by rw [half_of hab], Nat.le_refl _, d, h, rfl⟩
  case round =>
    obtain ⟨rfl, hkk, dk, hw, heq⟩ := hrel
    clear h
    have HW : Hid (RowAt w0 blk off N dk wr) := hw
    have HI : Hid (heapBuild less (b - a) a gk dk = heapBuild less (b - a) a ((b - a - 1) / 2 + 1) d) := heq
    clear hw heq
    cases gk with
    | zero =>
      have HB : Hid (heapBuild less (b - a) a ((b - a - 1) / 2 + 1) d = dk) := HI.out.symm
      clear HI hkk
      go_wp2
      go_loopg [10] (b - a) (fun k s10 wr2 => s10 = .int .i64 ((k : Int) - 1) ∧ k ≤ b - a ∧ ∃ (dj : Array Int), RowAt w0 blk off N dj wr2 ∧ heapPop less a k dj = heapPop less a (b - a) dk)
      case atStart => exact ⟨by rw [ecast], Nat.le_refl _, dk, HW.out, rfl⟩
      case round =>
        obtain ⟨rfl, hkk, dj, hw2, heq2⟩ := hrel
        clear HW
        have hcw := hw2.cells
        have hfw := hw2.softs
        have HW2 : Hid (RowAt w0 blk off N dj wr) := hw2
        have HP : Hid (heapPop less a gk dj = heapPop less a (b - a) dk) := heq2
        clear hw2 heq2
        cases gk with
        | zero =>
          go_wp2
          go_end0
          refine ⟨rfl, ?_⟩
          rw [heapSort, HB.out, ← HP.out]
          exact HW2.out
        | succ k =>
          rcases Nat.eq_zero_or_pos k with hk0 | hkp
          · subst hk0
            have hcall := fun W (hW : RowAt w0 blk off N (Sort.swp dj a a) W) => sift_any hW cap 0 0 a (Nat.le_refl _) (by omega) hsz
            go_wp2_with fail
            go_region
            go_wp2_with fail
            refine (hcall _ ((HW2.out.swpSame (i := a) (by omega)).drewN 1)).mono ?_
            rintro e w1 ⟨rfl, hw1⟩
            go_wp2
            go_roundg 0
            case measure => omega
            case rel => exact ⟨by simp, by omega, _, hw1, HP.out⟩
          · have hcall := fun W (hW : RowAt w0 blk off N (Sort.swp dj a (a + k)) W) => sift_any hW cap 0 k a (Nat.zero_le _) (by omega) hsz
            go_wp2_with fail
            go_region
            go_wp2_with fail
            refine (hcall _ ((HW2.out.swp (i := a) (j := a + k) (by omega) (by omega)).drewN 1)).mono ?_
            rintro e w1 ⟨rfl, hw1⟩
            go_wp2
            go_roundg k
            case measure => omega
            case rel => exact ⟨by simp, by omega, _, hw1, HP.out⟩
    | succ k =>
      have hcall := sift_any HW.out cap k (b - a) a (by omega) (by omega) hsz
      rw [ecast] at hcall
      go_wp2_with (go_at_call 88; refine hcall.mono ?_; rintro e w1 ⟨rfl, hw1⟩)
      go_roundg k
      case measure => omega
      case rel => exact ⟨by simp, by omega, _, hw1, HI.out⟩

set_option maxHeartbeats 1600000 in
set_option maxRecDepth 1000000 in
theorem turn_any {w0 w : World} {blk off N : Nat} {d : Array Int} (h : RowAt w0 blk off N d w) (cap a b : Nat) (hab : a ≤ b) (hb : b ≤ N) (hsz : N < 4611686018427387904) :
    Calls Try.prog 81 #[.slice (some ⟨blk, off, none⟩) N cap, .int .i64 a, .int .i64 b] w fun e w' => e = .returned (.tuple #[]) ∧ RowAt w0 blk off N (reverseRange d a b) w' := by
  go_enter Try.func81, Try.ntmps81
  go_wp2
  go_loopg [6, 7] (b - a) (fun k s6 s7 wr => ∃ (i jn : Nat) (jz : Int) (dk : Array Int), s6 = .int .i64 i ∧ s7 = .int .i64 jz ∧ ((i : Int) < jz → jz = jn ∧ jn < N) ∧ (¬ (i : Int) < jz → ¬ i < jn) ∧ jn - i ≤ k ∧
    RowAt w0 blk off N dk wr ∧ reverseLoop i jn dk = reverseLoop a (b - 1) d)
  case atStart => exact ⟨a, b - 1, (b : Int) - 1, d, rfl, rfl, fun h => ⟨by omega, by omega⟩, fun h => by omega, by omega, h, rfl⟩
  case round =>
    obtain ⟨i, jn, jz, dk, rfl, rfl, h1, h2, hk, hw, heq⟩ := hrel
    clear h
    have HW : Hid (RowAt w0 blk off N dk wr) := hw
    have HI : Hid (reverseLoop i jn dk = reverseLoop a (b - 1) d) := heq
    clear heq
    by_cases hlt : (i : Int) < jz
    · obtain ⟨rfl, hjn⟩ := h1 hlt
      have hij : i < jn := by omega
      have ci := hw.cell i (by omega)
      have fi := hw.soft i (by omega)
      have cj := hw.cell jn (by omega)
      have fj := hw.soft jn (by omega)
      clear hw h1 h2
      go_wp2_with fail
      go_region
      go_wp2
      go_roundg (jn - 1 - (i + 1))
      case measure => omega
      case rel =>
        have e := HI.out
        rw [reverseLoop, if_pos hij] at e
        exact ⟨i + 1, jn - 1, (jn : Int) - 1, Sort.swp dk i jn, by simp, rfl, fun h => ⟨by omega, by omega⟩, fun h => by omega, Nat.le_refl _, (HW.out.swp (by omega) (by omega)).drewN 1, e⟩
    · have hnot := h2 hlt
      go_wp2
      go_end0
      refine ⟨rfl, ?_⟩
      have e := HI.out
      rw [reverseLoop, if_neg hnot] at e
      rw [reverseRange, ← e]
      exact HW.out
end Go.Proofs.Ytlnplompnabmlaa

/-
  LAYER 9 (trie): slices.Sort at runes: the partition into equal and greater ones. Printed by wip/tools/trie-part.py.
-/
namespace Go.Proofs.Ytlnplompnabmlaa
set_option maxRecDepth 100000
open Go.RowKit Go.Sort

theorem scan_up_go {p : Int → Bool} {d : Array Int} {j i : Nat} (h : i ≤ j) (hp : p (gt d i) = true) : scanUp p d j i = scanUp p d j (i + 1) := by
  rw [scanUp, if_pos (by simp only [gt] at hp; simp [h, hp])]
theorem scan_up_end {p : Int → Bool} {d : Array Int} {j i : Nat} (h : ¬ i ≤ j ∨ p (gt d i) = false) : scanUp p d j i = i := by
  rw [scanUp, if_neg (by simp only [gt] at h; rcases h with h | h <;> simp [h])]
theorem scan_down_go {p : Int → Bool} {d : Array Int} {i j : Nat} (h : i ≤ j) (h0 : 0 < j) (hp : p (gt d j) = true) : scanDown p d i j = scanDown p d i (j - 1) := by
  obtain ⟨k, rfl⟩ : ∃ k, j = k + 1 := ⟨j - 1, by omega⟩
  rw [scanDown, if_pos (by simp only [gt] at hp; simp [h, hp])]
  rfl
theorem scan_down_end {p : Int → Bool} {d : Array Int} {i j : Nat} (h : ¬ i ≤ j ∨ p (gt d j) = false) : scanDown p d i j = j := by
  cases j with
  | zero => rfl
  | succ k => rw [scanDown, if_neg (by simp only [gt] at h; rcases h with h | h <;> simp [h])]
/-- The two scans never stop at one place. -/
theorem scans_apart {p q : Int → Bool} (hq : ∀ x, q x = !p x) {d : Array Int} {i j i2 j2 : Nat} (h0 : 0 < i) (hi : i2 = scanUp p d j i) (hj : j2 = scanDown q d i2 j) (h : i2 ≤ j2) : i2 < j2 := by
  subst hi
  obtain ⟨_, _, _, u⟩ := scanUp_spec p d j _ i rfl
  obtain ⟨v, _, _, v4⟩ := scanDown_spec q d (scanUp p d j i) j
  rcases Nat.lt_or_ge (scanUp p d j i) j2 with h' | h'
  · exact h'
  · have e : scanUp p d j i = j2 := by omega
    have hge := scanUp_ge p d j i
    have f1 := u (by omega)
    have f2 := v4 (by omega) (by omega)
    rw [← hj, hq, ← e, f1] at f2
    simp at f2
theorem partEq_end {a i j i2 j2 : Nat} {dk : Array Int} (hi : i2 = scanUp (fun x => !less dk[a]! x) dk j i) (hj : j2 = scanDown (fun x => less dk[a]! x) dk i2 j) (h : j2 < i2) : partEqLoop less a i j dk = (i2, dk) := by
  subst hi; subst hj
  rw [partEqLoop_eq, if_pos h]
theorem partEq_on {a i j i2 j2 : Nat} {dk : Array Int} (hi : i2 = scanUp (fun x => !less dk[a]! x) dk j i) (hj : j2 = scanDown (fun x => less dk[a]! x) dk i2 j) (h : ¬ i2 > j2) : partEqLoop less a i j dk = partEqLoop less a (i2 + 1) (j2 - 1) (Sort.swp dk i2 j2) := by
  subst hi; subst hj
  rw [partEqLoop_eq, if_neg h]

set_option maxHeartbeats 6400000 in
set_option maxRecDepth 1000000 in
theorem partEq_any {w0 w : World} {blk off N : Nat} {d : Array Int} (h : RowAt w0 blk off N d w) (cap a b pivot : Nat) (hap : a ≤ pivot) (hpb : pivot < b) (hb : b ≤ N) (hsz : N < 4611686018427387904) :
    Calls Try.prog 84 #[.slice (some ⟨blk, off, none⟩) N cap, .int .i64 a, .int .i64 b, .int .i64 pivot] w fun e w' => e = .returned (.int .i64 (partitionEqual less d a b pivot).1) ∧ RowAt w0 blk off N (partitionEqual less d a b pivot).2 w' := by
  have ca := h.cell a (by omega)
  have fa := h.soft a (by omega)
  have cp := h.cell pivot (by omega)
  have fp := h.soft pivot (by omega)
  obtain ⟨v', hy'⟩ := cell?_setCell_some (w := w) (p := ⟨blk, off + a, none⟩) (x := .int .i32 (gt d pivot)) (q := ⟨blk, off + pivot, none⟩) cp
  have H0 : Hid (RowAt w0 blk off N d w) := h
  clear h
  go_enter Try.func84, Try.ntmps84
  go_wp2
  go_region
  go_wp2
  go_loopw [9, 10] (fun vi vj wr => ∃ (i j : Nat) (dk : Array Int), vi = .int .i64 i ∧ vj = .int .i64 j ∧ a < i ∧ i ≤ j + 1 ∧ j < b ∧ RowAt w0 blk off N dk wr ∧
      partEqLoop less a i j dk = partEqLoop less a (a + 1) (b - 1) (Sort.swp d a pivot)) (fun vi vj _ => (intOf vj).toNat + 1 - (intOf vi).toNat)
  case atStart => exact ⟨a + 1, b - 1, Sort.swp d a pivot, by go_num, by go_num, by omega, by omega, by omega, (H0.out.swp (by omega) (by omega)).drewN 1, rfl⟩
  case round =>
    obtain ⟨i, j, dk, rfl, rfl, hai, hij, hjb, hw, heq⟩ := hrel
    clear ca fa cp fp hy' v' H0
    have HW : Hid (RowAt w0 blk off N dk wr) := hw
    have AE : Hid (partEqLoop less a i j dk = partEqLoop less a (a + 1) (b - 1) (Sort.swp d a pivot)) := heq
    clear hw heq
    go_wp2
    go_loopw [9] (fun vi w1 => ∃ (i' : Nat), vi = .int .i64 i' ∧ i ≤ i' ∧ i' ≤ j + 1 ∧ RowAt w0 blk off N dk w1 ∧ Hid (scanUp (fun x => !less dk[a]! x) dk j i' = scanUp (fun x => !less dk[a]! x) dk j (i))) (fun vi _ => j + 1 - (intOf vi).toNat)
    case atStart => exact ⟨i, by go_num, Nat.le_refl _, hij, HW.out, rfl⟩
    case round =>
      obtain ⟨i', rfl, hii, hij', hw1, hsc⟩ := hrel
      clear HW
      have hcw := hw1.cells
      have HW1 : Hid (RowAt w0 blk off N dk wr) := hw1
      clear hw1
      by_cases hle : i' ≤ j
      · go_wp2_with fail
        go_big_quiet (first | (go_at_call 83; refine Calls.quiet_of_same (less_any _ _ _)))
        go_wp2
        · have ht : (!less (gt dk a) (gt dk i')) = true := by assumption
          go_roundw
          case rel => exact ⟨i' + 1, by go_num, by omega, by omega, HW1.out.drewN nq, (scan_up_go (p := (fun x => !less dk[a]! x)) hle ht).symm.trans hsc.out⟩
          case measure => simp [intOf]; omega
        · have ht : (!less (gt dk a) (gt dk i')) = false := by assumption
          have hi2 : Hid (i' = scanUp (fun x => !less dk[a]! x) dk j (i)) := (scan_up_end (p := (fun x => !less dk[a]! x)) (Or.inr ht)).symm.trans hsc.out
          have HV : Hid (RowAt w0 blk off N dk (wr.drewN nq)) := HW1.out.drewN nq
          clear hcw hsc HW1 ht
          go_loopw [10] (fun vj w2 => ∃ (j' : Nat), vj = .int .i64 j' ∧ j' ≤ j ∧ i' ≤ j' + 1 ∧ RowAt w0 blk off N dk w2 ∧ Hid (scanDown (fun x => less dk[a]! x) dk i' j' = scanDown (fun x => less dk[a]! x) dk i' j)) (fun vj _ => (intOf vj).toNat)
          case atStart => exact ⟨j, by go_num, Nat.le_refl _, hij', HV.out, rfl⟩
          case round =>
            obtain ⟨j', rfl, hjj, hij2, hw2, hsd⟩ := hrel
            clear HV
            have hcw := hw2.cells
            have HW2 : Hid (RowAt w0 blk off N dk wr) := hw2
            clear hw2
            by_cases hle2 : i' ≤ j'
            · go_wp2_with fail
              go_big_quiet (first | (go_at_call 83; refine Calls.quiet_of_same (less_any _ _ _)))
              go_wp2
              · have ht : less (gt dk a) (gt dk j') = true := by assumption
                go_roundw
                case rel => exact ⟨j' - 1, by go_num, by omega, by omega, HW2.out.drewN nq, (scan_down_go (p := (fun x => less dk[a]! x)) hle2 (by omega) ht).symm.trans hsd.out⟩
                case measure => simp [intOf]; omega
              · have ht : less (gt dk a) (gt dk j') = false := by assumption
                have hj2 : Hid (j' = scanDown (fun x => less dk[a]! x) dk i' j) := (scan_down_end (p := (fun x => less dk[a]! x)) (Or.inr ht)).symm.trans hsd.out
                have H3 : RowAt w0 blk off N dk (wr.drewN nq) := HW2.out.drewN nq
                clear hcw hsd HW2 ht
                have hlt3 := scans_apart (p := (fun x => !less dk[a]! x)) (q := (fun x => less dk[a]! x)) (by simp) (by omega) hi2.out hj2.out hle2
                generalize wr.drewN nq = W3 at H3 ⊢
                have hc3 := H3.cells
                have hf3 := H3.softs
                have HW3 : Hid (RowAt w0 blk off N dk W3) := H3
                clear H3
                go_wp2
                go_region
                all_goals go_wp2
                all_goals go_roundw
                case rel =>
                  refine ⟨i' + 1, j' - 1, Sort.swp dk i' j', by go_num, by go_num, by omega, by omega, by omega, (HW3.out.swp (by omega) (by omega)).drewN 1, ?_⟩
                  rw [← AE.out]
                  exact (partEq_on hi2.out hj2.out (by omega)).symm
                case measure => simp [intOf]; omega
            ·
              go_wp2_with fail
              go_big_quiet (first | (go_at_call 83; refine Calls.quiet_of_same (less_any _ _ _)))
              have hj2 : Hid (j' = scanDown (fun x => less dk[a]! x) dk i' j) := (scan_down_end (p := (fun x => less dk[a]! x)) (Or.inl hle2)).symm.trans hsd.out
              have H3 : RowAt w0 blk off N dk (wr.drewN nq) := HW2.out.drewN nq
              clear hcw hsd HW2
              generalize wr.drewN nq = W3 at H3 ⊢
              have hc3 := H3.cells
              have hf3 := H3.softs
              have HW3 : Hid (RowAt w0 blk off N dk W3) := H3
              clear H3
              go_wp2
              go_ret
              have e := partEq_end hi2.out hj2.out (by omega)
              unfold partitionEqual
              rw [← AE.out, e]
              exact ⟨rfl, HW3.out⟩
      · go_wp2_with fail
        go_big_quiet (first | (go_at_call 83; refine Calls.quiet_of_same (less_any _ _ _)))
        go_wp2
        have hi2 : Hid (i' = scanUp (fun x => !less dk[a]! x) dk j (i)) := (scan_up_end (p := (fun x => !less dk[a]! x)) (Or.inl hle)).symm.trans hsc.out
        have HV : Hid (RowAt w0 blk off N dk (wr.drewN nq)) := HW1.out.drewN nq
        clear hcw hsc HW1
        go_loopw [10] (fun vj w2 => ∃ (j' : Nat), vj = .int .i64 j' ∧ j' ≤ j ∧ i' ≤ j' + 1 ∧ RowAt w0 blk off N dk w2 ∧ Hid (scanDown (fun x => less dk[a]! x) dk i' j' = scanDown (fun x => less dk[a]! x) dk i' j)) (fun vj _ => (intOf vj).toNat)
        case atStart => exact ⟨j, by go_num, Nat.le_refl _, hij', HV.out, rfl⟩
        case round =>
          obtain ⟨j', rfl, hjj, hij2, hw2, hsd⟩ := hrel
          clear HV
          have hcw := hw2.cells
          have HW2 : Hid (RowAt w0 blk off N dk wr) := hw2
          clear hw2
          have hle2 : ¬ i' ≤ j' := by omega
          go_wp2_with fail
          go_big_quiet (first | (go_at_call 83; refine Calls.quiet_of_same (less_any _ _ _)))
          have hj2 : Hid (j' = scanDown (fun x => less dk[a]! x) dk i' j) := (scan_down_end (p := (fun x => less dk[a]! x)) (Or.inl hle2)).symm.trans hsd.out
          have H3 : RowAt w0 blk off N dk (wr.drewN nq) := HW2.out.drewN nq
          clear hcw hsd HW2
          generalize wr.drewN nq = W3 at H3 ⊢
          have hc3 := H3.cells
          have hf3 := H3.softs
          have HW3 : Hid (RowAt w0 blk off N dk W3) := H3
          clear H3
          go_wp2
          go_ret
          have e := partEq_end hi2.out hj2.out (by omega)
          unfold partitionEqual
          rw [← AE.out, e]
          exact ⟨rfl, HW3.out⟩
end Go.Proofs.Ytlnplompnabmlaa

/-
  LAYER 9 (trie): slices.Sort at runes: the partition. Printed by wip/tools/trie-part.py.
-/
namespace Go.Proofs.Ytlnplompnabmlaa
set_option maxRecDepth 100000
open Go.RowKit Go.Sort

theorem part_end {a i j i2 j2 : Nat} {dk : Array Int} (hi : i2 = scanUp (fun x => less x dk[a]!) dk j i) (hj : j2 = scanDown (fun x => !less x dk[a]!) dk i2 j) (h : j2 < i2) : partLoop less a i j dk = (j2, dk) := by
  subst hi; subst hj
  rw [partLoop_eq, if_pos h]
theorem part_on {a i j i2 j2 : Nat} {dk : Array Int} (hi : i2 = scanUp (fun x => less x dk[a]!) dk j i) (hj : j2 = scanDown (fun x => !less x dk[a]!) dk i2 j) (h : ¬ i2 > j2) : partLoop less a i j dk = partLoop less a (i2 + 1) (j2 - 1) (Sort.swp dk i2 j2) := by
  subst hi; subst hj
  rw [partLoop_eq, if_neg h]

set_option maxHeartbeats 6400000 in
set_option maxRecDepth 1000000 in
theorem part_any {w0 w : World} {blk off N : Nat} {d : Array Int} (h : RowAt w0 blk off N d w) (cap a b pivot : Nat) (hap : a ≤ pivot) (hpb : pivot < b) (hb : b ≤ N) (hsz : N < 4611686018427387904) :
    Calls Try.prog 85 #[.slice (some ⟨blk, off, none⟩) N cap, .int .i64 a, .int .i64 b, .int .i64 pivot] w fun e w' => ∃ ap, e = .returned (.tuple #[.int .i64 (partition less d a b pivot).1, .bool ap]) ∧ RowAt w0 blk off N (partition less d a b pivot).2.2 w' := by
  obtain ⟨j, rfl⟩ : ∃ j, b = j + 1 := ⟨b - 1, by omega⟩
  have ca := h.cell a (by omega)
  have fa := h.soft a (by omega)
  have cp := h.cell pivot (by omega)
  have fp := h.soft pivot (by omega)
  obtain ⟨v', hy'⟩ := cell?_setCell_some (w := w) (p := ⟨blk, off + a, none⟩) (x := .int .i32 (gt d pivot)) (q := ⟨blk, off + pivot, none⟩) cp
  have H0 : Hid (RowAt w0 blk off N d w) := h
  clear h
  obtain ⟨dk, HD⟩ : ∃ dk, Hid (dk = Sort.swp d a pivot) := ⟨_, rfl⟩
  have HS : ∀ W, RowAt w0 blk off N (Sort.swp d a pivot) W → RowAt w0 blk off N dk W := fun W h => by rw [HD.out]; exact h
  have HT : Hid (∀ W, RowAt w0 blk off N (Sort.swp d a pivot) W → RowAt w0 blk off N dk W) := HS
  clear HS
  go_enter Try.func85, Try.ntmps85
  go_wp2
  go_region
  go_wp2
  go_loopw [10] (fun vi w1 => ∃ (i' : Nat), vi = .int .i64 i' ∧ a + 1 ≤ i' ∧ i' ≤ j + 1 ∧ RowAt w0 blk off N dk w1 ∧ Hid (scanUp (fun x => less x dk[a]!) dk j i' = scanUp (fun x => less x dk[a]!) dk j (a + 1))) (fun vi _ => j + 1 - (intOf vi).toNat)
  case atStart => exact ⟨a + 1, by go_num, Nat.le_refl _, (by omega), HT.out _ ((H0.out.swp (by omega) (by omega)).drewN 1), rfl⟩
  case round =>
    obtain ⟨i', rfl, hii, hij', hw1, hsc⟩ := hrel
    clear ca fa cp fp hy' v' H0 HT
    have hcw := hw1.cells
    have HW1 : Hid (RowAt w0 blk off N dk wr) := hw1
    clear hw1
    by_cases hle : i' ≤ j
    · go_wp2_with fail
      go_big_quiet (first | (go_at_call 83; refine Calls.quiet_of_same (less_any _ _ _)))
      go_wp2
      · have ht : less (gt dk i') (gt dk a) = true := by assumption
        go_roundw
        case rel => exact ⟨i' + 1, by go_num, by omega, by omega, HW1.out.drewN nq, (scan_up_go (p := (fun x => less x dk[a]!)) hle ht).symm.trans hsc.out⟩
        case measure => simp [intOf]; omega
      · have ht : less (gt dk i') (gt dk a) = false := by assumption
        have hi2 : Hid (i' = scanUp (fun x => less x dk[a]!) dk j (a + 1)) := (scan_up_end (p := (fun x => less x dk[a]!)) (Or.inr ht)).symm.trans hsc.out
        have HV : Hid (RowAt w0 blk off N dk (wr.drewN nq)) := HW1.out.drewN nq
        clear hcw hsc HW1 ht
        go_loopw [11] (fun vj w2 => ∃ (j' : Nat), vj = .int .i64 j' ∧ j' ≤ j ∧ i' ≤ j' + 1 ∧ RowAt w0 blk off N dk w2 ∧ Hid (scanDown (fun x => !less x dk[a]!) dk i' j' = scanDown (fun x => !less x dk[a]!) dk i' j)) (fun vj _ => (intOf vj).toNat)
        case atStart => exact ⟨j, by go_num, Nat.le_refl _, hij', HV.out, rfl⟩
        case round =>
          obtain ⟨j', rfl, hjj, hij2, hw2, hsd⟩ := hrel
          clear HV
          have hcw := hw2.cells
          have HW2 : Hid (RowAt w0 blk off N dk wr) := hw2
          clear hw2
          by_cases hle2 : i' ≤ j'
          · go_wp2_with fail
            go_big_quiet (first | (go_at_call 83; refine Calls.quiet_of_same (less_any _ _ _)))
            go_wp2
            · have ht : (!less (gt dk j') (gt dk a)) = true := by assumption
              go_roundw
              case rel => exact ⟨j' - 1, by go_num, by omega, by omega, HW2.out.drewN nq, (scan_down_go (p := (fun x => !less x dk[a]!)) hle2 (by omega) ht).symm.trans hsd.out⟩
              case measure => simp [intOf]; omega
            · have ht : (!less (gt dk j') (gt dk a)) = false := by assumption
              have hj2 : Hid (j' = scanDown (fun x => !less x dk[a]!) dk i' j) := (scan_down_end (p := (fun x => !less x dk[a]!)) (Or.inr ht)).symm.trans hsd.out
              have H3 : RowAt w0 blk off N dk (wr.drewN nq) := HW2.out.drewN nq
              clear hcw hsd HW2 ht
              have hlt3 := scans_apart (p := (fun x => less x dk[a]!)) (q := (fun x => !less x dk[a]!)) (by simp) (by omega) hi2.out hj2.out hle2
              generalize wr.drewN nq = W3 at H3 ⊢
              have hc3 := H3.cells
              have hf3 := H3.softs
              have HW3 : Hid (RowAt w0 blk off N dk W3) := H3
              clear H3
              go_wp2
              go_region
              all_goals go_wp2
              have e1 : Hid (partLoop less a (i' + 1) (j' - 1) (Sort.swp dk i' j') = partLoop less a (a + 1) j (Sort.swp d a pivot)) := by
                rw [← HD.out]
                exact (part_on hi2.out hj2.out (by omega)).symm
              go_loopw [10, 11] (fun vi vj wr => ∃ (i j2 : Nat) (dk : Array Int), vi = .int .i64 i ∧ vj = .int .i64 j2 ∧ a < i ∧ i ≤ j2 + 1 ∧ j2 < j + 1 ∧ RowAt w0 blk off N dk wr ∧
                  Hid (partLoop less a i j2 dk = partLoop less a (a + 1) j (Sort.swp d a pivot))) (fun vi vj _ => (intOf vj).toNat + 1 - (intOf vi).toNat)
              case atStart => exact ⟨i' + 1, j' - 1, Sort.swp dk i' j', by go_num, by go_num, by omega, by omega, by omega, (HW3.out.swp (by omega) (by omega)).drewN 1, e1⟩
              case round =>
                clear e1 hc3 hf3 HW3 hi2 hj2 HD hij2 hjj hle2 hlt3 hij' hii hle
                obtain ⟨i, j2, dk, rfl, rfl, hai, hij, hjb, hw, AE⟩ := hrel
                have HW : Hid (RowAt w0 blk off N dk wr) := hw
                clear hw
                go_wp2
                go_loopw [10] (fun vi w1 => ∃ (i' : Nat), vi = .int .i64 i' ∧ i ≤ i' ∧ i' ≤ j2 + 1 ∧ RowAt w0 blk off N dk w1 ∧ Hid (scanUp (fun x => less x dk[a]!) dk j2 i' = scanUp (fun x => less x dk[a]!) dk j2 (i))) (fun vi _ => j2 + 1 - (intOf vi).toNat)
                case atStart => exact ⟨i, by go_num, Nat.le_refl _, hij, HW.out, rfl⟩
                case round =>
                  obtain ⟨i', rfl, hii, hij', hw1, hsc⟩ := hrel
                  clear HW
                  have hcw := hw1.cells
                  have HW1 : Hid (RowAt w0 blk off N dk wr) := hw1
                  clear hw1
                  by_cases hle : i' ≤ j2
                  · go_wp2_with fail
                    go_big_quiet (first | (go_at_call 83; refine Calls.quiet_of_same (less_any _ _ _)))
                    go_wp2
                    · have ht : less (gt dk i') (gt dk a) = true := by assumption
                      go_roundw
                      case rel => exact ⟨i' + 1, by go_num, by omega, by omega, HW1.out.drewN nq, (scan_up_go (p := (fun x => less x dk[a]!)) hle ht).symm.trans hsc.out⟩
                      case measure => simp [intOf]; omega
                    · have ht : less (gt dk i') (gt dk a) = false := by assumption
                      have hi2 : Hid (i' = scanUp (fun x => less x dk[a]!) dk j2 (i)) := (scan_up_end (p := (fun x => less x dk[a]!)) (Or.inr ht)).symm.trans hsc.out
                      have HV : Hid (RowAt w0 blk off N dk (wr.drewN nq)) := HW1.out.drewN nq
                      clear hcw hsc HW1 ht
                      go_loopw [11] (fun vj w2 => ∃ (j' : Nat), vj = .int .i64 j' ∧ j' ≤ j2 ∧ i' ≤ j' + 1 ∧ RowAt w0 blk off N dk w2 ∧ Hid (scanDown (fun x => !less x dk[a]!) dk i' j' = scanDown (fun x => !less x dk[a]!) dk i' j2)) (fun vj _ => (intOf vj).toNat)
                      case atStart => exact ⟨j2, by go_num, Nat.le_refl _, hij', HV.out, rfl⟩
                      case round =>
                        obtain ⟨j', rfl, hjj, hij2, hw2, hsd⟩ := hrel
                        clear HV
                        have hcw := hw2.cells
                        have HW2 : Hid (RowAt w0 blk off N dk wr) := hw2
                        clear hw2
                        by_cases hle2 : i' ≤ j'
                        · go_wp2_with fail
                          go_big_quiet (first | (go_at_call 83; refine Calls.quiet_of_same (less_any _ _ _)))
                          go_wp2
                          · have ht : (!less (gt dk j') (gt dk a)) = true := by assumption
                            go_roundw
                            case rel => exact ⟨j' - 1, by go_num, by omega, by omega, HW2.out.drewN nq, (scan_down_go (p := (fun x => !less x dk[a]!)) hle2 (by omega) ht).symm.trans hsd.out⟩
                            case measure => simp [intOf]; omega
                          · have ht : (!less (gt dk j') (gt dk a)) = false := by assumption
                            have hj2 : Hid (j' = scanDown (fun x => !less x dk[a]!) dk i' j2) := (scan_down_end (p := (fun x => !less x dk[a]!)) (Or.inr ht)).symm.trans hsd.out
                            have H3 : RowAt w0 blk off N dk (wr.drewN nq) := HW2.out.drewN nq
                            clear hcw hsd HW2 ht
                            have hlt3 := scans_apart (p := (fun x => less x dk[a]!)) (q := (fun x => !less x dk[a]!)) (by simp) (by omega) hi2.out hj2.out hle2
                            generalize wr.drewN nq = W3 at H3 ⊢
                            have hc3 := H3.cells
                            have hf3 := H3.softs
                            have HW3 : Hid (RowAt w0 blk off N dk W3) := H3
                            clear H3
                            go_wp2
                            go_region
                            all_goals go_wp2
                            all_goals go_roundw
                            case rel =>
                              refine ⟨i' + 1, j' - 1, Sort.swp dk i' j', by go_num, by go_num, by omega, by omega, by omega, (HW3.out.swp (by omega) (by omega)).drewN 1, ?_⟩
                              rw [← AE.out]
                              exact (part_on hi2.out hj2.out (by omega)).symm
                            case measure => simp [intOf]; omega
                        ·
                          go_wp2_with fail
                          go_big_quiet (first | (go_at_call 83; refine Calls.quiet_of_same (less_any _ _ _)))
                          have hj2 : Hid (j' = scanDown (fun x => !less x dk[a]!) dk i' j2) := (scan_down_end (p := (fun x => !less x dk[a]!)) (Or.inl hle2)).symm.trans hsd.out
                          have H3 : RowAt w0 blk off N dk (wr.drewN nq) := HW2.out.drewN nq
                          clear hcw hsd HW2
                          generalize wr.drewN nq = W3 at H3 ⊢
                          have hc3 := H3.cells
                          have hf3 := H3.softs
                          have HW3 : Hid (RowAt w0 blk off N dk W3) := H3
                          clear H3
                          obtain ⟨v3, hy3⟩ := cell?_setCell_some (w := W3) (p := ⟨blk, off + j', none⟩) (x := .int .i32 (gt dk a)) (q := ⟨blk, off + a, none⟩) (hc3 a (by omega))
                          go_wp2
                          go_region
                          all_goals go_wp2
                          all_goals go_ret2
                          have e := part_end hi2.out hj2.out (by omega)
                          refine ⟨false, ?_, ?_⟩
                          · rw [partition_fst, Nat.add_sub_cancel, ← AE.out, e]
                            try rfl
                          · rw [partition_arr, Nat.add_sub_cancel, ← AE.out, e]
                            exact (HW3.out.swp (by omega) (by omega)).drewN 1
                  · go_wp2_with fail
                    go_big_quiet (first | (go_at_call 83; refine Calls.quiet_of_same (less_any _ _ _)))
                    go_wp2
                    have hi2 : Hid (i' = scanUp (fun x => less x dk[a]!) dk j2 (i)) := (scan_up_end (p := (fun x => less x dk[a]!)) (Or.inl hle)).symm.trans hsc.out
                    have HV : Hid (RowAt w0 blk off N dk (wr.drewN nq)) := HW1.out.drewN nq
                    clear hcw hsc HW1
                    go_loopw [11] (fun vj w2 => ∃ (j' : Nat), vj = .int .i64 j' ∧ j' ≤ j2 ∧ i' ≤ j' + 1 ∧ RowAt w0 blk off N dk w2 ∧ Hid (scanDown (fun x => !less x dk[a]!) dk i' j' = scanDown (fun x => !less x dk[a]!) dk i' j2)) (fun vj _ => (intOf vj).toNat)
                    case atStart => exact ⟨j2, by go_num, Nat.le_refl _, hij', HV.out, rfl⟩
                    case round =>
                      obtain ⟨j', rfl, hjj, hij2, hw2, hsd⟩ := hrel
                      clear HV
                      have hcw := hw2.cells
                      have HW2 : Hid (RowAt w0 blk off N dk wr) := hw2
                      clear hw2
                      have hle2 : ¬ i' ≤ j' := by omega
                      go_wp2_with fail
                      go_big_quiet (first | (go_at_call 83; refine Calls.quiet_of_same (less_any _ _ _)))
                      have hj2 : Hid (j' = scanDown (fun x => !less x dk[a]!) dk i' j2) := (scan_down_end (p := (fun x => !less x dk[a]!)) (Or.inl hle2)).symm.trans hsd.out
                      have H3 : RowAt w0 blk off N dk (wr.drewN nq) := HW2.out.drewN nq
                      clear hcw hsd HW2
                      generalize wr.drewN nq = W3 at H3 ⊢
                      have hc3 := H3.cells
                      have hf3 := H3.softs
                      have HW3 : Hid (RowAt w0 blk off N dk W3) := H3
                      clear H3
                      obtain ⟨v3, hy3⟩ := cell?_setCell_some (w := W3) (p := ⟨blk, off + j', none⟩) (x := .int .i32 (gt dk a)) (q := ⟨blk, off + a, none⟩) (hc3 a (by omega))
                      go_wp2
                      go_region
                      all_goals go_wp2
                      all_goals go_ret2
                      have e := part_end hi2.out hj2.out (by omega)
                      refine ⟨false, ?_, ?_⟩
                      · rw [partition_fst, Nat.add_sub_cancel, ← AE.out, e]
                        try rfl
                      · rw [partition_arr, Nat.add_sub_cancel, ← AE.out, e]
                        exact (HW3.out.swp (by omega) (by omega)).drewN 1
          ·
            go_wp2_with fail
            go_big_quiet (first | (go_at_call 83; refine Calls.quiet_of_same (less_any _ _ _)))
            have hj2 : Hid (j' = scanDown (fun x => !less x dk[a]!) dk i' j) := (scan_down_end (p := (fun x => !less x dk[a]!)) (Or.inl hle2)).symm.trans hsd.out
            have H3 : RowAt w0 blk off N dk (wr.drewN nq) := HW2.out.drewN nq
            clear hcw hsd HW2
            generalize wr.drewN nq = W3 at H3 ⊢
            have hc3 := H3.cells
            have hf3 := H3.softs
            have HW3 : Hid (RowAt w0 blk off N dk W3) := H3
            clear H3
            obtain ⟨v3, hy3⟩ := cell?_setCell_some (w := W3) (p := ⟨blk, off + j', none⟩) (x := .int .i32 (gt dk a)) (q := ⟨blk, off + a, none⟩) (hc3 a (by omega))
            go_wp2
            go_region
            all_goals go_wp2
            all_goals go_ret2
            have e := part_end hi2.out hj2.out (by omega)
            refine ⟨true, ?_, ?_⟩
            · rw [partition_fst, Nat.add_sub_cancel, ← HD.out, e]
              try rfl
            · rw [partition_arr, Nat.add_sub_cancel, ← HD.out, e]
              exact (HW3.out.swp (by omega) (by omega)).drewN 1
    · go_wp2_with fail
      go_big_quiet (first | (go_at_call 83; refine Calls.quiet_of_same (less_any _ _ _)))
      go_wp2
      have hi2 : Hid (i' = scanUp (fun x => less x dk[a]!) dk j (a + 1)) := (scan_up_end (p := (fun x => less x dk[a]!)) (Or.inl hle)).symm.trans hsc.out
      have HV : Hid (RowAt w0 blk off N dk (wr.drewN nq)) := HW1.out.drewN nq
      clear hcw hsc HW1
      go_loopw [11] (fun vj w2 => ∃ (j' : Nat), vj = .int .i64 j' ∧ j' ≤ j ∧ i' ≤ j' + 1 ∧ RowAt w0 blk off N dk w2 ∧ Hid (scanDown (fun x => !less x dk[a]!) dk i' j' = scanDown (fun x => !less x dk[a]!) dk i' j)) (fun vj _ => (intOf vj).toNat)
      case atStart => exact ⟨j, by go_num, Nat.le_refl _, hij', HV.out, rfl⟩
      case round =>
        obtain ⟨j', rfl, hjj, hij2, hw2, hsd⟩ := hrel
        clear HV
        have hcw := hw2.cells
        have HW2 : Hid (RowAt w0 blk off N dk wr) := hw2
        clear hw2
        have hle2 : ¬ i' ≤ j' := by omega
        go_wp2_with fail
        go_big_quiet (first | (go_at_call 83; refine Calls.quiet_of_same (less_any _ _ _)))
        have hj2 : Hid (j' = scanDown (fun x => !less x dk[a]!) dk i' j) := (scan_down_end (p := (fun x => !less x dk[a]!)) (Or.inl hle2)).symm.trans hsd.out
        have H3 : RowAt w0 blk off N dk (wr.drewN nq) := HW2.out.drewN nq
        clear hcw hsd HW2
        generalize wr.drewN nq = W3 at H3 ⊢
        have hc3 := H3.cells
        have hf3 := H3.softs
        have HW3 : Hid (RowAt w0 blk off N dk W3) := H3
        clear H3
        obtain ⟨v3, hy3⟩ := cell?_setCell_some (w := W3) (p := ⟨blk, off + j', none⟩) (x := .int .i32 (gt dk a)) (q := ⟨blk, off + a, none⟩) (hc3 a (by omega))
        go_wp2
        go_region
        all_goals go_wp2
        all_goals go_ret2
        have e := part_end hi2.out hj2.out (by omega)
        refine ⟨true, ?_, ?_⟩
        · rw [partition_fst, Nat.add_sub_cancel, ← HD.out, e]
          try rfl
        · rw [partition_arr, Nat.add_sub_cancel, ← HD.out, e]
          exact (HW3.out.swp (by omega) (by omega)).drewN 1
end Go.Proofs.Ytlnplompnabmlaa

/-
  LAYER 9 (trie): slices.Sort at runes: the insertion sort that gives up.
-/
namespace Go.Proofs.Ytlnplompnabmlaa
set_option maxRecDepth 100000
open Go.RowKit Go.Sort

theorem sorted_go {d : Array Int} {b k : Nat} (h : k < b) (hl : less (gt d k) (gt d (k - 1)) = false) : scanSorted less d b k = scanSorted less d b (k + 1) := by
  rw [scanSorted, if_pos (by simp only [gt] at hl; simp [h, hl])]
theorem sorted_end {d : Array Int} {b k : Nat} (h : ¬ k < b ∨ less (gt d k) (gt d (k - 1)) = true) : scanSorted less d b k = k := by
  rw [scanSorted, if_neg (by simp only [gt] at h; rcases h with h | h <;> simp [h])]
theorem down_go {d : Array Int} {j : Nat} (h : 1 ≤ j) (hl : less (gt d j) (gt d (j - 1)) = true) : shiftDown less j d = shiftDown less (j - 1) (Sort.swp d j (j - 1)) := by
  obtain ⟨k, rfl⟩ : ∃ k, j = k + 1 := ⟨j - 1, by omega⟩
  simp only [gt, Nat.add_sub_cancel] at hl ⊢
  rw [shiftDown, hl]
  rfl
theorem down_end {d : Array Int} {j : Nat} (h : ¬ 1 ≤ j ∨ less (gt d j) (gt d (j - 1)) = false) : shiftDown less j d = d := by
  cases j with
  | zero => rw [shiftDown]
  | succ k =>
    simp only [gt, Nat.add_sub_cancel] at h
    rcases h with h | h
    · omega
    · rw [shiftDown, h]; rfl
theorem up_go {d : Array Int} {b j : Nat} (h : j < b) (hl : less (gt d j) (gt d (j - 1)) = true) : shiftUp less b j d = shiftUp less b (j + 1) (Sort.swp d j (j - 1)) := by
  simp only [gt] at hl
  rw [shiftUp, if_pos h, hl]
  rfl
theorem up_end {d : Array Int} {b j : Nat} (h : ¬ j < b ∨ less (gt d j) (gt d (j - 1)) = false) : shiftUp less b j d = d := by
  simp only [gt] at h
  rw [shiftUp]
  rcases h with h | h
  · rw [if_neg h]
  · split
    · rw [h]; rfl
    · rfl
/-- What a step does to the left, to the right. -/
def fixL (a k : Nat) (d : Array Int) : Array Int := if k - a ≥ 2 then shiftDown less (k - 1) d else d
def fixR (b k : Nat) (d : Array Int) : Array Int := if b - k ≥ 2 then shiftUp less b (k + 1) d else d
theorem part_full {a b s i : Nat} {d : Array Int} (h : scanSorted less d b i = b) : partialIns less a b (s + 1) i d = (d, true) := by
  rw [partialIns_succ, h, if_pos rfl]
theorem part_short {a b s i : Nat} {d : Array Int} (h : scanSorted less d b i ≠ b) (h2 : b - a < 50) : partialIns less a b (s + 1) i d = (d, false) := by
  rw [partialIns_succ, if_neg h, if_pos h2]
theorem part_step {a b s i k : Nat} {d : Array Int} (hk : scanSorted less d b i = k) (h : k ≠ b) (h2 : ¬ b - a < 50) :
    partialIns less a b (s + 1) i d = partialIns less a b s k (fixR b k (fixL a k (Sort.swp d k (k - 1)))) := by
  rw [partialIns_succ, hk, if_neg h, if_neg h2]
  rfl

set_option maxHeartbeats 6400000 in
set_option maxRecDepth 1000000 in
theorem partial_any {w0 w : World} {blk off N : Nat} {d : Array Int} (h : RowAt w0 blk off N d w) (cap a b : Nat) (hab : a < b) (hb : b ≤ N) (hsz : N < 4611686018427387904) :
    Calls Try.prog 82 #[.slice (some ⟨blk, off, none⟩) N cap, .int .i64 a, .int .i64 b] w fun e w' => e = .returned (.bool (partialInsertionSort less d a b).2) ∧ RowAt w0 blk off N (partialInsertionSort less d a b).1 w' := by
  have H0 : Hid (RowAt w0 blk off N d w) := h
  clear h
  go_enter Try.func82, Try.ntmps82
  go_wp2
  go_loopg [7, 8] 5 (fun k v7 v8 wr => ∃ (i s : Nat) (dk : Array Int), v7 = .int .i64 i ∧ v8 = .int .i64 s ∧ s + k = 5 ∧ a < i ∧ i ≤ b ∧ RowAt w0 blk off N dk wr ∧
      Hid (partialIns less a b k i dk = partialIns less a b 5 (a + 1) d))
  case atStart => exact ⟨a + 1, 0, d, by go_num, rfl, rfl, by omega, by omega, H0.out, rfl⟩
  case round =>
    obtain ⟨i, s, dk, rfl, rfl, hsk, hai, hib, hw, HO⟩ := hrel
    clear H0
    have HW : Hid (RowAt w0 blk off N dk wr) := hw
    clear hw
    cases gk with
    | zero =>
      have hs : ¬ ((s : Int) < 5) := by omega
      go_wp2
      go_ret
      unfold partialInsertionSort
      rw [← HO.out]
      exact ⟨rfl, HW.out⟩
    | succ gk =>
      have hs : (s : Int) < 5 := by omega
      go_upto_block 2 with fail
      go_cut [7] from 13 to 132 (fun v7 wc => ∃ (k : Nat), v7 = .int .i64 k ∧ i ≤ k ∧ k ≤ b ∧ RowAt w0 blk off N dk wc ∧ Hid (scanSorted less dk b i = k))
      case first =>
        go_wp2
        go_loopw [7] (fun v7 w2 => ∃ (k : Nat), v7 = .int .i64 k ∧ i ≤ k ∧ k ≤ b ∧ RowAt w0 blk off N dk w2 ∧ Hid (scanSorted less dk b k = scanSorted less dk b i)) (fun v _ => b - (intOf v).toNat)
        case atStart => exact ⟨i, rfl, Nat.le_refl _, hib, HW.out, rfl⟩
        case round =>
          obtain ⟨k, rfl, hik, hkb, hw2, HS⟩ := hrel
          clear HW
          have hcw := hw2.cells
          have HW2 : Hid (RowAt w0 blk off N dk wr) := hw2
          clear hw2
          go_wp2
          by_cases hkb' : k < b
          · go_quiet (first | (go_at_call 83; refine Calls.quiet_of_same (less_any _ _ _)))
            go_wp2
            · have hl : less (gt dk k) (gt dk (k - 1)) = false := by
                have h : (!less (gt dk k) (gt dk (k - 1))) = true := by assumption
                simpa using h
              go_roundw
              case rel => exact ⟨k + 1, by go_num, by omega, by omega, HW2.out.drewN nq, (sorted_go hkb' hl).symm.trans HS.out⟩
              case measure => simp [intOf]; omega
            · have hl : less (gt dk k) (gt dk (k - 1)) = true := by
                have h : (!less (gt dk k) (gt dk (k - 1))) = false := by assumption
                simpa using h
              go_meet
              case rel => exact ⟨k, rfl, hik, hkb, HW2.out.drewN nq, HS.out.symm.trans (sorted_end (Or.inr hl))⟩
          · go_quiet (first | (go_at_call 83; refine Calls.quiet_of_same (less_any _ _ _)))
            go_wp2
            go_meet
            case rel => exact ⟨k, rfl, hik, hkb, HW2.out.drewN nq, HS.out.symm.trans (sorted_end (Or.inl hkb'))⟩
      case rest =>
        obtain ⟨k, rfl, hik, hkb, hw2, HK⟩ := hcut
        clear HW
        have hcw := hw2.cells
        have hfw := hw2.softs
        have HW2 : Hid (RowAt w0 blk off N dk wc) := hw2
        clear hw2
        by_cases hkb' : k = b
        · have hkz : (k : Int) = (b : Int) := by omega
          go_wp2
          go_ret
          unfold partialInsertionSort
          rw [← HO.out, part_full (HK.out.trans hkb')]
          exact ⟨rfl, HW2.out⟩
        · have hkz : ¬ ((k : Int) = (b : Int)) := by omega
          by_cases h50 : b - a < 50
          · have h50z : (b : Int) - (a : Int) < 50 := by omega
            go_wp2
            go_ret
            unfold partialInsertionSort
            rw [← HO.out, part_short (by rw [HK.out]; exact hkb') h50]
            exact ⟨rfl, HW2.out⟩
          · have h50z : ¬ ((b : Int) - (a : Int) < 50) := by omega
            go_wp2_with fail
            go_region
            go_upto_if 61 with fail
            have HE : Hid (partialIns less a b gk k (fixR b k (fixL a k (Sort.swp dk k (k - 1)))) = partialIns less a b 5 (a + 1) d) := (part_step HK.out hkb' h50).symm.trans HO.out
            clear HO HK hcw hfw
            go_cut [] from 13 to 132 (fun wc => ∃ (dj : Array Int), RowAt w0 blk off N dj wc ∧ Hid (fixL a k (Sort.swp dk k (k - 1)) = dj))
            case first =>
              by_cases hka : k - a ≥ 2
              · have hkaz : (k : Int) - (a : Int) ≥ 2 := by omega
                go_wp2
                go_loopw [9] (fun vj w2 => ∃ (j : Nat) (dj : Array Int), vj = .int .i64 j ∧ j ≤ k - 1 ∧ RowAt w0 blk off N dj w2 ∧ Hid (shiftDown less j dj = shiftDown less (k - 1) (Sort.swp dk k (k - 1)))) (fun vj _ => (intOf vj).toNat)
                case atStart => exact ⟨k - 1, _, by congr 1; omega, Nat.le_refl _, (HW2.out.swp (by omega) (by omega)).drewN 1, rfl⟩
                case round =>
                  obtain ⟨j, dj, rfl, hjk, hw3, HD⟩ := hrel
                  clear HW2 HE
                  have hcw := hw3.cells
                  have hfw := hw3.softs
                  have HW3 : Hid (RowAt w0 blk off N dj wr) := hw3
                  clear hw3
                  by_cases hj : 1 ≤ j
                  · have hjz : (j : Int) ≥ 1 := by omega
                    go_wp2
                    go_quiet (first | (go_at_call 83; refine Calls.quiet_of_same (less_any _ _ _)))
                    go_wp2
                    · have hl : less (gt dj j) (gt dj (j - 1)) = false := by
                        have h : (!less (gt dj j) (gt dj (j - 1))) = true := by assumption
                        simpa using h
                      go_meet
                      case rel => exact ⟨dj, HW3.out.drewN nq, by unfold fixL; rw [if_pos hka, ← HD.out, down_end (Or.inr hl)]; rfl⟩
                    · have hl : less (gt dj j) (gt dj (j - 1)) = true := by
                        have h : (!less (gt dj j) (gt dj (j - 1))) = false := by assumption
                        simpa using h
                      go_region
                      all_goals go_wp2
                      go_roundw
                      case rel => exact ⟨j - 1, Sort.swp dj j (j - 1), by congr 1; omega, by omega, (HW3.out.drewN (nq + 1)).swp (by omega) (by omega), (down_go hj hl).symm.trans HD.out⟩
                      case measure => simp [intOf]; omega
                  · have hjz : ¬ ((j : Int) ≥ 1) := by omega
                    go_wp2
                    go_meet
                    case rel => exact ⟨dj, HW3.out, by unfold fixL; rw [if_pos hka, ← HD.out, down_end (Or.inl hj)]; rfl⟩
              · have hkaz : ¬ ((k : Int) - (a : Int) ≥ 2) := by omega
                go_wp2
                go_meet
                case rel => exact ⟨_, (HW2.out.swp (by omega) (by omega)).drewN 1, by unfold fixL; rw [if_neg hka]; rfl⟩
            case rest =>
              obtain ⟨dj, hw3, HL⟩ := hcut
              have HW3 : Hid (RowAt w0 blk off N dj wc) := hw3
              have HF : Hid (partialIns less a b gk k (fixR b k dj) = partialIns less a b 5 (a + 1) d) := by rw [← HL.out]; exact HE.out
              clear hw3 HW2 HL HE
              by_cases hbk : b - k ≥ 2
              · have hbkz : (b : Int) - (k : Int) ≥ 2 := by omega
                go_wp2
                go_loopw [10] (fun vj w2 => ∃ (j : Nat) (du : Array Int), vj = .int .i64 j ∧ k + 1 ≤ j ∧ j ≤ b ∧ RowAt w0 blk off N du w2 ∧ Hid (shiftUp less b j du = shiftUp less b (k + 1) dj)) (fun vj _ => b - (intOf vj).toNat)
                case atStart => exact ⟨k + 1, dj, by go_num, Nat.le_refl _, by omega, HW3.out, rfl⟩
                case round =>
                  obtain ⟨j, du, rfl, hkj, hjb, hw4, HD⟩ := hrel
                  clear HW3
                  have hcw := hw4.cells
                  have hfw := hw4.softs
                  have HW4 : Hid (RowAt w0 blk off N du wr) := hw4
                  clear hw4
                  have OUT : Hid (shiftUp less b j du = du → partialIns less a b gk k du = partialIns less a b 5 (a + 1) d) := fun he => by
                    rw [← HF.out]
                    unfold fixR
                    rw [if_pos hbk, ← HD.out, he]
                  clear HF
                  by_cases hj : j < b
                  · go_wp2
                    go_quiet (first | (go_at_call 83; refine Calls.quiet_of_same (less_any _ _ _)))
                    go_wp2
                    · have hl : less (gt du j) (gt du (j - 1)) = false := by
                        have h : (!less (gt du j) (gt du (j - 1))) = true := by assumption
                        simpa using h
                      go_roundg gk
                      case measure => omega
                      case rel => exact ⟨k, s + 1, du, rfl, by go_num, by omega, by omega, by omega, HW4.out.drewN nq, OUT.out (up_end (Or.inr hl))⟩
                    · have hl : less (gt du j) (gt du (j - 1)) = true := by
                        have h : (!less (gt du j) (gt du (j - 1))) = false := by assumption
                        simpa using h
                      go_region
                      all_goals go_wp2
                      go_roundw
                      case rel => exact ⟨j + 1, Sort.swp du j (j - 1), by go_num, by omega, by omega, (HW4.out.drewN (nq + 1)).swp (by omega) (by omega), (up_go hj hl).symm.trans HD.out⟩
                      case measure => simp [intOf]; omega
                  · have hjz : ¬ ((j : Int) < (b : Int)) := by omega
                    go_wp2
                    go_roundg gk
                    case measure => omega
                    case rel => exact ⟨k, s + 1, du, rfl, by go_num, by omega, by omega, by omega, HW4.out, OUT.out (up_end (Or.inl hj))⟩
              · have hbkz : ¬ ((b : Int) - (k : Int) ≥ 2) := by omega
                go_wp2
                go_roundg gk
                case measure => omega
                case rel => exact ⟨k, s + 1, dj, rfl, by go_num, by omega, by omega, by omega, HW3.out, by have e := HF.out; unfold fixR at e; rw [if_neg hbk] at e; exact e⟩
end Go.Proofs.Ytlnplompnabmlaa
