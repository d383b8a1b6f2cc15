/-
  LAYER 4 (utf): Check and its closure.
-/
import Derived.Test.YtahfgdgedneleaaUCaught
import Derived.Test.YtahfgdgedneleaaURun
namespace Go.Proofs.Ytahfgdgedneleaa
set_option maxRecDepth 100000
open Go.RowKit Go.Lib

/-- What Check's closure answers. -/
def CheckPost (l : List UInt8) (w : World) (e : Ending) (w' : World) : Prop :=
  e = (if tot l = l.length then .returned (.tuple #[]) else .panicked [{ v := .iface 69 (.int .i64 (tot l : Int)), recovered := false }]) ∧ ∃ m, w' = w.drewN m

set_option maxRecDepth 100000 in
set_option maxHeartbeats 4000000 in
theorem check1_any (s : ByteArray) (b : Nat) (w : World) (hs : s.size ≤ maxLen) (hb : w.cell? ⟨b, 0, none⟩ = some (.string s)) :
    Calls Try.prog 29 #[.pointer (some ⟨b, 0, none⟩)] w (CheckPost s.data.toList w) := by
  have hs0 := hs
  have hsz : s.data.toList.length = s.size := by simp
  obtain ⟨T, hT⟩ : ∃ T, T = tot s.data.toList := ⟨_, rfl⟩
  have hTs : T ≤ s.size := by rw [hT, ← hsz]; exact tot_length _
  have hcp : ∀ e w', CheckPost s.data.toList w e w' = (e = (if T = s.size then .returned (.tuple #[]) else .panicked [{ v := .iface 69 (.int .i64 (T : Int)), recovered := false }]) ∧ ∃ m, w' = w.drewN m) := by
    intro e w'; rw [CheckPost, ← hT, hsz]
  replace hT := Lib.hid hT
  replace hcp := Lib.hid hcp
  replace hsz := Lib.hid hsz
  unfold maxLen at hs
  go_enter Try.func29, Try.ntmps29
  go_wp2
  go_loopw [1] (fun vi wr => ∃ i p : Nat, vi = .int .i64 (i : Int) ∧ i ≤ s.size ∧ Hid (i + tot (s.data.toList.drop i) = T) ∧ wr = w.drewN p) (fun vi _ => s.size - (RowKit.intOf vi).toNat)
  case atStart => exact ⟨0, 0, rfl, Nat.zero_le _, Lib.hid (by rw [Nat.zero_add, List.drop_zero]; exact hT.out.symm), rfl⟩
  case round =>
    obtain ⟨i, p, rfl, hi, hI, rfl⟩ := hrel
    by_cases hlt : i < s.size
    · have hF := fun w => first_any s i _ w hs0 hlt rfl
      cases hd : dec (s.data.toList.drop i) with
      | none =>
        rw [hd] at hF
        have ht := hI.out
        rw [tot_none hd, Nat.add_zero] at ht
        subst ht
        have hne : ¬ i = s.size := by omega
        clear hd
        go_wp2_with (go_at_call 30; refine (hF _).mono ?_; rintro e w' ⟨rfl, ⟨m, rfl⟩⟩)
        refine ⟨rfl, ?_⟩
        rw [hcp.out, if_neg hne]
        exact ⟨rfl, _, rfl⟩
      | some x =>
        obtain ⟨r, n⟩ := x
        rw [hd] at hF
        have h1 := dec_some hd
        have ht := hI.out
        rw [tot_some hd, List.drop_drop, ← Nat.add_assoc] at ht
        simp at h1
        replace ht := Lib.hid ht
        clear hd
        go_wp2_with (go_at_call 30; refine (hF _).mono ?_; rintro e w' ⟨rfl, ⟨m, rfl⟩⟩)
        go_roundw
        case rel => exact ⟨i + n, p + m, by go_num, by omega, ht, rfl⟩
        case measure => simp [RowKit.intOf]; omega
    · obtain rfl : i = s.size := by omega
      have ht := hI.out
      rw [List.drop_eq_nil_of_le (by simp), tot_nil, Nat.add_zero] at ht
      subst ht
      clear hlt
      go_wp2
      refine bodyPost_ret (results_none rfl _ _ _) rfl ?_
      rw [hcp.out, if_pos trivial]
      exact ⟨rfl, p, rfl⟩

theorem two_drewN {w W : World} (h : Two w W) (m : Nat) : Two w (W.drewN m) := h
theorem res_below {w w3 : World} {B : Nat} (x e : Int) (hB : B ≤ w.heap.size) (h : Below B w w3) : Below B w (res w x e w3) :=
  (h.setCell (p := ⟨w.heap.size, 0, none⟩) hB _).setCell (p := ⟨w.heap.size + 1, 0, none⟩) (by show B ≤ w.heap.size + 1; omega) _

set_option maxHeartbeats 1000000 in
theorem check_ok (s : ByteArray) (w : World) (hs : s.size ≤ maxLen) (h : tot s.data.toList = s.data.toList.length) :
    Calls Try.prog 9 #[.string s] w fun e w' => e = .returned (.tuple #[.int .i64 0, .int .i64 0]) ∧ Below w.heap.size w w' := by
  have hmf : ∀ (fn : Fn) (first cap : Array Value) (w : World), (Instr.makeFunc fn first cap).run Try.prog w = .ok (.func fn first cap) w := fun _ _ _ _ => rfl
  obtain ⟨w1, hw1⟩ : ∃ w1, w1 = w.alloc (.cells #[.string s] 9) := ⟨_, rfl⟩
  have hb1 : Boxed w1 w.heap.size 9 (.string s) := by rw [hw1]; exact Boxed.new w _ _
  have hg1 : w.grownBy w1 none := by rw [hw1]; exact World.grownBy_alloc w _ none
  have hbt := hb1.kept (two_grown w1) (by simp)
  have hc := caught_ok 29 #[] #[.pointer (some ⟨w.heap.size, 0, none⟩)] w1 (fun w3 => ∃ m, w3 = (two w1).drewN m)
    (enters_of Try.func29 (by kernel_rfl) rfl)
    ((check1_any s w.heap.size (two w1) hs hbt.cell).mono fun e w' ⟨h1, h2⟩ => ⟨by rw [if_pos h] at h1; exact ⟨_, h1⟩, h2⟩)
    (by rintro w3 ⟨m, rfl⟩; exact two_drewN (two_two w1) m)
  clear hbt hb1
  replace hw1 := Lib.hid hw1
  go_enter Try.func9, Try.ntmps9
  go_wp2_with fail
  rw [← hw1.out]
  go_wp2_with (go_at_call 28; refine hc.mono ?_; rintro e w' ⟨rfl, ⟨w3, ⟨m, rfl⟩, rfl⟩⟩)
  go_ret2
  exact ⟨rfl, (belowg' hg1).trans (res_below _ _ hg1.size ((belowg' (gdrewN (two_grown w1) m)).mono hg1.size))⟩

set_option maxHeartbeats 1000000 in
theorem check_bad (s : ByteArray) (w : World) (hs : s.size ≤ maxLen) (h : tot s.data.toList ≠ s.data.toList.length) :
    Calls Try.prog 9 #[.string s] w fun e w' => e = .returned (.tuple #[.int .i64 (tot s.data.toList : Int), .int .i64 40]) ∧ Below w.heap.size w w' := by
  have hmf : ∀ (fn : Fn) (first cap : Array Value) (w : World), (Instr.makeFunc fn first cap).run Try.prog w = .ok (.func fn first cap) w := fun _ _ _ _ => rfl
  obtain ⟨w1, hw1⟩ : ∃ w1, w1 = w.alloc (.cells #[.string s] 9) := ⟨_, rfl⟩
  have hb1 : Boxed w1 w.heap.size 9 (.string s) := by rw [hw1]; exact Boxed.new w _ _
  have hg1 : w.grownBy w1 none := by rw [hw1]; exact World.grownBy_alloc w _ none
  have hbt := hb1.kept (two_grown w1) (by simp)
  have hc := caught_bad 29 #[] #[.pointer (some ⟨w.heap.size, 0, none⟩)] (tot s.data.toList : Int) w1 (fun w3 => ∃ m, w3 = (two w1).drewN m)
    (enters_of Try.func29 (by kernel_rfl) rfl)
    ((check1_any s w.heap.size (two w1) hs hbt.cell).mono fun e w' ⟨h1, h2⟩ => ⟨by rw [if_neg h] at h1; exact h1, h2⟩)
    (by rintro w3 ⟨m, rfl⟩; exact two_drewN (two_two w1) m)
  clear hbt hb1
  replace hw1 := Lib.hid hw1
  go_enter Try.func9, Try.ntmps9
  go_wp2_with fail
  rw [← hw1.out]
  go_wp2_with (go_at_call 28; refine hc.mono ?_; rintro e w' ⟨rfl, ⟨w3, ⟨m, rfl⟩, rfl⟩⟩)
  go_ret2
  exact ⟨rfl, (belowg' hg1).trans (res_below _ _ hg1.size ((belowg' (gdrewN (two_grown w1) m)).mono hg1.size))⟩
end Go.Proofs.Ytahfgdgedneleaa
