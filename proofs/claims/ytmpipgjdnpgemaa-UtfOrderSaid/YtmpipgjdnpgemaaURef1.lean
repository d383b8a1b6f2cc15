/-
  LAYER 4 (utf): the reference's Check, Next, Decode.
-/
import Derived.Test.YtmpipgjdnpgemaaUAt
import Derived.Test.YtmpipgjdnpgemaaUDecP
import Derived.Test.YtmpipgjdnpgemaaURun
import Derived.RangeFuncLeaves
namespace Go.Proofs.Ytmpipgjdnpgemaa
set_option maxRecDepth 100000
open Go.RowKit Go.Lib

theorem bel {w w' : World} (h : w.grownBy w' none) : Below w.heap.size w w' := belowg' h

set_option maxRecDepth 100000 in
set_option maxHeartbeats 1000000 in
theorem refCheck_ok (s : ByteArray) (w : World) (hs : s.size ≤ 1048576) (h : tot s.data.toList = s.size) :
    Calls Try.prog 10 #[.string s] w fun e w' => e = .returned (.tuple #[.int .i64 0, .int .i64 0]) ∧ w.grownBy w' none := by
  have hl0 := tot_length s.data.toList
  have hsz : s.data.toList.length = s.size := by simp
  rw [hsz] at hl0
  obtain ⟨T, hT⟩ : ∃ T, T = tot s.data.toList := ⟨_, rfl⟩
  rw [← hT] at h hl0
  try rw [← hT]
  replace hT := Lib.hid hT
  clear hsz
  go_enter Try.func10, Try.ntmps10
  go_wp2
  go_loopw [4] (fun vi wr => ∃ i : Nat, vi = .int .i64 (i : Int) ∧ i ≤ s.size ∧ Hid (i + tot (s.data.toList.drop i) = T) ∧ w.grownBy wr none) (fun vi _ => s.size - (RowKit.intOf vi).toNat)
  case atStart => exact ⟨0, rfl, Nat.zero_le _, Lib.hid (by rw [Nat.zero_add, List.drop_zero]; exact hT.out.symm), World.grownBy.refl w none⟩
  case round =>
    obtain ⟨i, rfl, hi, hI, hg⟩ := hrel
    have hI2 := hI.out
    by_cases hlt : i < s.size
    · have hA := fun w => at_any s i w hs hlt
      cases hd : dec (s.data.toList.drop i) with
      | none =>
        rw [hd, atEnd] at hA
        rw [tot_none hd, Nat.add_zero] at hI2
        clear hd hI
        first
          | omega
          | (subst hI2
             clear h
             go_wp2_with (go_at_call 31; refine (hA _).mono ?_; rintro e w5 ⟨rfl, hg5⟩)
             go_ret2
             exact ⟨rfl, gnew hg hg5 (by simp)⟩)
      | some x =>
        obtain ⟨r, n⟩ := x
        rw [hd, atEnd] at hA
        have h1 := dec_some hd
        rw [tot_some hd, List.drop_drop, ← Nat.add_assoc] at hI2
        simp at h1
        have hn1 := h1.1
        have hn2 := h1.2.2.1
        have hne : ((n : Int) == 0) = false := by rw [beq_eq_false_iff_ne]; omega
        replace hI2 := Lib.hid hI2
        clear hd h1 hI
        go_wp2_with (go_at_call 31; refine (hA _).mono ?_; rintro e w5 ⟨rfl, hg5⟩)
        go_roundw
        case rel => exact ⟨i + n, by go_num, by omega, hI2, gnew hg hg5 (by simp)⟩
        case measure => simp [RowKit.intOf]; omega
    · rw [List.drop_eq_nil_of_le (by simp; omega), tot_nil, Nat.add_zero] at hI2
      first
        | omega
        | (clear hI hI2 h
           go_wp2
           go_ret2
           exact ⟨rfl, hg⟩)
set_option maxRecDepth 100000 in
set_option maxHeartbeats 1000000 in
theorem refCheck_bad (s : ByteArray) (w : World) (hs : s.size ≤ 1048576) (h : tot s.data.toList ≠ s.size) :
    Calls Try.prog 10 #[.string s] w fun e w' => e = .returned (.tuple #[.int .i64 (tot s.data.toList : Int), .int .i64 40]) ∧ w.grownBy w' none := by
  have hl0 := tot_length s.data.toList
  have hsz : s.data.toList.length = s.size := by simp
  rw [hsz] at hl0
  obtain ⟨T, hT⟩ : ∃ T, T = tot s.data.toList := ⟨_, rfl⟩
  rw [← hT] at h hl0
  try rw [← hT]
  replace hT := Lib.hid hT
  clear hsz
  go_enter Try.func10, Try.ntmps10
  go_wp2
  go_loopw [4] (fun vi wr => ∃ i : Nat, vi = .int .i64 (i : Int) ∧ i ≤ s.size ∧ Hid (i + tot (s.data.toList.drop i) = T) ∧ w.grownBy wr none) (fun vi _ => s.size - (RowKit.intOf vi).toNat)
  case atStart => exact ⟨0, rfl, Nat.zero_le _, Lib.hid (by rw [Nat.zero_add, List.drop_zero]; exact hT.out.symm), World.grownBy.refl w none⟩
  case round =>
    obtain ⟨i, rfl, hi, hI, hg⟩ := hrel
    have hI2 := hI.out
    by_cases hlt : i < s.size
    · have hA := fun w => at_any s i w hs hlt
      cases hd : dec (s.data.toList.drop i) with
      | none =>
        rw [hd, atEnd] at hA
        rw [tot_none hd, Nat.add_zero] at hI2
        clear hd hI
        first
          | omega
          | (subst hI2
             clear h
             go_wp2_with (go_at_call 31; refine (hA _).mono ?_; rintro e w5 ⟨rfl, hg5⟩)
             go_ret2
             exact ⟨rfl, gnew hg hg5 (by simp)⟩)
      | some x =>
        obtain ⟨r, n⟩ := x
        rw [hd, atEnd] at hA
        have h1 := dec_some hd
        rw [tot_some hd, List.drop_drop, ← Nat.add_assoc] at hI2
        simp at h1
        have hn1 := h1.1
        have hn2 := h1.2.2.1
        have hne : ((n : Int) == 0) = false := by rw [beq_eq_false_iff_ne]; omega
        replace hI2 := Lib.hid hI2
        clear hd h1 hI
        go_wp2_with (go_at_call 31; refine (hA _).mono ?_; rintro e w5 ⟨rfl, hg5⟩)
        go_roundw
        case rel => exact ⟨i + n, by go_num, by omega, hI2, gnew hg hg5 (by simp)⟩
        case measure => simp [RowKit.intOf]; omega
    · rw [List.drop_eq_nil_of_le (by simp; omega), tot_nil, Nat.add_zero] at hI2
      first
        | omega
        | (clear hI hI2 h
           go_wp2
           go_ret2
           exact ⟨rfl, hg⟩)

def nextEnd : Option (Nat × Nat) → Ending
  | some (r, n) => .returned (.tuple #[.int .i32 (r : Int), .int .i64 (n : Int), .int .i64 0])
  | none => .returned (.tuple #[.int .i32 0, .int .i64 0, .int .i64 40])

set_option maxRecDepth 100000 in
set_option maxHeartbeats 1000000 in
theorem refNext_any (s : ByteArray) (i : Nat) (w : World) (hs : s.size ≤ 1048576) (hi : i < s.size) :
    Calls Try.prog 15 #[.string s, .int .i64 (i : Int)] w fun e w' => e = nextEnd (dec (s.data.toList.drop i)) ∧ w.grownBy w' none := by
  have hA := fun w => at_any s i w hs hi
  cases hd : dec (s.data.toList.drop i) with
  | none =>
    rw [hd, atEnd] at hA
    clear hd
    go_enter Try.func15, Try.ntmps15
    go_wp2_with (go_at_call 31; refine (hA _).mono ?_; rintro e w5 ⟨rfl, hg5⟩)
    go_ret3
    exact ⟨rfl, hg5⟩
  | some x =>
    obtain ⟨r, n⟩ := x
    rw [hd, atEnd] at hA
    have h1 := (dec_some hd).1
    have hne : ((n : Int) == 0) = false := by rw [beq_eq_false_iff_ne]; omega
    clear hd
    go_enter Try.func15, Try.ntmps15
    go_wp2_with (go_at_call 31; refine (hA _).mono ?_; rintro e w5 ⟨rfl, hg5⟩)
    go_ret3
    exact ⟨rfl, hg5⟩

set_option maxHeartbeats 1000000 in
theorem refNext_range (s : ByteArray) (k : Int) (w : World) (hs : s.size ≤ 1048576) (hk : k < 0 ∨ s.size ≤ k) :
    Calls Try.prog 15 #[.string s, .int .i64 k] w fun e w' => e = .returned (.tuple #[.int .i32 0, .int .i64 0, .int .i64 1]) ∧ w = w' := by
  rcases hk with hk | hk
  all_goals
    go_enter Try.func15, Try.ntmps15
    go_wp2
    go_ret3
    simp
end Go.Proofs.Ytmpipgjdnpgemaa
