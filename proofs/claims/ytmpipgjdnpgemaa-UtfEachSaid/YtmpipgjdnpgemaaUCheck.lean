/-
  LAYER 4 (utf): Check and its closure.
-/
import Derived.Test.YtmpipgjdnpgemaaUCaught
import Derived.Test.YtmpipgjdnpgemaaURun
import Derived.Test.YtmpipgjdnpgemaaUScal
namespace Go.Proofs.Ytmpipgjdnpgemaa
set_option maxRecDepth 100000
open Go.RowKit Go.Lib

/-- What Check's closure answers. -/
def CheckPost (l : List UInt8) (w : World) (e : Ending) (w' : World) : Prop :=
  e = (if tot l = l.length then .returned (.tuple #[]) else .panicked [{ v := .iface 69 (.int .i64 (tot l : Int)), recovered := false }]) ∧ w.grownBy w' none

set_option maxHeartbeats 4000000 in
theorem check1_in (s : ByteArray) (b : Nat) (w : World) (hs : s.size ≤ maxLen) (hb : Boxed w b 9 (.string s)) :
    CallsIn Fence.wide 8 Try.prog 29 #[.pointer (some ⟨b, 0, none⟩)] w (CheckPost s.data.toList w) := by
  have hc := hb.cell
  have hbl := hb.lt
  refine callsIn_of_wp_marks Try.func29 rfl trivial ?_ rfl
  simp only [Try.ntmps29, List.size_toArray, List.length_cons, List.length_nil, Nat.reduceAdd, Nat.reduceSub, Array.replicate_succ, Array.replicate_zero, List.push_toArray, List.append_toArray, List.nil_append, List.cons_append]
  gi_wp2_with (refine ⟨trivial, ?_⟩; gi_at_call 30; refine (callsIn_wide.2 (scalars_any s _)).mono ?_; rintro e w1 ⟨rfl, hb1, hg1⟩)
  clear hc
  have hTell := scal1_tells 4 w.heap.size w1.heap.size w1.heap.size s w1 hb1 ⟨hb1.lt, by have := hb1.lt; omega⟩ hs
  refine range_tellsP (a := _) (w := w1) (α := Told) rfl (by omega) (gf := 45) (lb := #[.pointer (some ⟨w.heap.size, 0, none⟩)]) rfl trivial (enters_of Try.func45 (by kernel_rfl) rfl)
    hTell (by simp) (fun _ => rfl) (fun _ _ _ _ _ _ h _ _ _ => h)
    (fun pre W => w1.heap.size ≤ W.heap.size ∧ Below w.heap.size w W) (fun _ _ _ => False)
    ?hI (fun _ _ _ _ _ h _ _ => h.elim) ⟨Nat.le_refl _, belowg' hg1⟩ ?a1 ?assign ?body ?done ?stop ?panic
  case hI =>
    rintro pre A B k ⟨h1, h2⟩ hg hk
    refine ⟨Nat.le_trans h1 hg.size, h2.trans (gbelow hg h2.size ?_)⟩
    rintro q rfl
    rcases hk with hk | ⟨q', hk, hq, _⟩
    · cases hk
    · cases hk; have := hg1.size; omega
  case assign =>
    intro l x W K hK
    dsimp only [tEnc]
    gi_wp2
    exact hK
  case body =>
    rintro l2 pre x W ⟨h1, h2⟩ hget hsz
    gi_wp2_with fail
    exact ⟨KeepsOthers.refl _, KeptX.refl _, h1, h2⟩
  case stop =>
    rintro D c pre Wd W15 hD _ h _ _
    exact h.elim
  case done =>
    rintro D xs Wd W15 hD hS ⟨h1, h2⟩ hg hM
    have gp := grownBy_putObj' W15 D (.deferred none)
    have hb19 := belowg (h2.trans (gbelow gp h2.size (by simp; have := hg1.size; omega))) none
    have hP : CheckPost s.data.toList w (.returned (.tuple #[])) (W15.putObj D (.deferred none)) := ⟨by rw [if_pos hS.2], hb19⟩
    clear gp hb19 h2 hg hTell
    gi_wp2_with fail
    refine ⟨by simp, .inl ⟨_, _, rfl, run_takeDeferred hM, ?_⟩⟩
    simp [LeavesInM, LeavesIn, results, Try.results29, go_sem]
    exact hP
  case panic =>
    rintro D ch pre W15 hD hS ⟨h1, h2⟩ hM
    have gp := grownBy_putObj' W15 D (.deferred none)
    have hb19 := belowg (h2.trans (gbelow gp h2.size (by simp; have := hg1.size; omega))) none
    have hP : CheckPost s.data.toList w (.panicked ch) (W15.putObj D (.deferred none)) := ⟨by rw [if_neg hS.2.1, hS.2.2]; rfl, hb19⟩
    clear gp hb19 h2 hTell
    refine ⟨by simp, .inl ⟨_, _, rfl, run_takeDeferred hM, ?_⟩⟩
    simp [LeavesInM, LeavesIn]
    exact hP

theorem check1_any (s : ByteArray) (b : Nat) (w : World) (hs : s.size ≤ maxLen) (hb : Boxed w b 9 (.string s)) :
    Calls Try.prog 29 #[.pointer (some ⟨b, 0, none⟩)] w (CheckPost s.data.toList w) := callsIn_wide.1 (check1_in s b w hs hb)

theorem two_drewN {w W : World} (h : Two w W) (m : Nat) : Two w (W.drewN m) := h
theorem two_kept {w W W' : World} (h : Two w W) (hg : W.grownBy W' none) : Two w W' := ⟨h.1.kept hg (by simp), h.2.kept hg (by simp)⟩
theorem res_below {w w3 : World} {B : Nat} (x e : Int) (hB : B ≤ w.heap.size) (h : Below B w w3) : Below B w (res w x e w3) :=
  (h.setCell (p := ⟨w.heap.size, 0, none⟩) hB _).setCell (p := ⟨w.heap.size + 1, 0, none⟩) (by show B ≤ w.heap.size + 1; omega) _

set_option maxHeartbeats 1000000 in
theorem check_ok (s : ByteArray) (w : World) (hs : s.size ≤ maxLen) (h : tot s.data.toList = s.data.toList.length) :
    Calls Try.prog 9 #[.string s] w fun e w' => e = .returned (.tuple #[.int .i64 0, .int .i64 0]) ∧ Below w.heap.size w w' := by
  have hmf : ∀ (fn : Fn) (first cap : Array Value) (w : World), (Instr.makeFunc fn first cap).run Try.prog w = .ok (.func fn first cap) w := fun _ _ _ _ => rfl
  obtain ⟨w1, hw1⟩ : ∃ w1, w1 = w.alloc (.cells #[.string s] 9) := ⟨_, rfl⟩
  have hb1 : Boxed w1 w.heap.size 9 (.string s) := by rw [hw1]; exact Boxed.new w _ _
  have hg1 : w.grownBy w1 none := by rw [hw1]; exact World.grownBy_alloc w _ none
  have hbt := hb1.kept (two_grown w1) (by simp)
  have hc := caught_ok 29 #[] #[.pointer (some ⟨w.heap.size, 0, none⟩)] w1 (fun w3 => (two w1).grownBy w3 none)
    (enters_of Try.func29 (by kernel_rfl) rfl)
    ((check1_any s w.heap.size (two w1) hs hbt).mono fun e w' ⟨h1, h2⟩ => ⟨by rw [if_pos h] at h1; exact ⟨_, h1⟩, h2⟩)
    (fun w3 h => two_kept (two_two w1) h)
  clear hbt hb1
  replace hw1 := Lib.hid hw1
  go_enter Try.func9, Try.ntmps9
  go_wp2_with fail
  rw [← hw1.out]
  go_wp2_with (go_at_call 28; refine hc.mono ?_; rintro e w' ⟨rfl, ⟨w3, hg3, rfl⟩⟩)
  go_ret2
  exact ⟨rfl, (belowg' hg1).trans (res_below _ _ hg1.size ((belowg' ((two_grown w1).trans hg3)).mono hg1.size))⟩

set_option maxHeartbeats 1000000 in
theorem check_bad (s : ByteArray) (w : World) (hs : s.size ≤ maxLen) (h : tot s.data.toList ≠ s.data.toList.length) :
    Calls Try.prog 9 #[.string s] w fun e w' => e = .returned (.tuple #[.int .i64 (tot s.data.toList : Int), .int .i64 40]) ∧ Below w.heap.size w w' := by
  have hmf : ∀ (fn : Fn) (first cap : Array Value) (w : World), (Instr.makeFunc fn first cap).run Try.prog w = .ok (.func fn first cap) w := fun _ _ _ _ => rfl
  obtain ⟨w1, hw1⟩ : ∃ w1, w1 = w.alloc (.cells #[.string s] 9) := ⟨_, rfl⟩
  have hb1 : Boxed w1 w.heap.size 9 (.string s) := by rw [hw1]; exact Boxed.new w _ _
  have hg1 : w.grownBy w1 none := by rw [hw1]; exact World.grownBy_alloc w _ none
  have hbt := hb1.kept (two_grown w1) (by simp)
  have hc := caught_bad 29 #[] #[.pointer (some ⟨w.heap.size, 0, none⟩)] (tot s.data.toList : Int) w1 (fun w3 => (two w1).grownBy w3 none)
    (enters_of Try.func29 (by kernel_rfl) rfl)
    ((check1_any s w.heap.size (two w1) hs hbt).mono fun e w' ⟨h1, h2⟩ => ⟨by rw [if_neg h] at h1; exact h1, h2⟩)
    (fun w3 h => two_kept (two_two w1) h)
  clear hbt hb1
  replace hw1 := Lib.hid hw1
  go_enter Try.func9, Try.ntmps9
  go_wp2_with fail
  rw [← hw1.out]
  go_wp2_with (go_at_call 28; refine hc.mono ?_; rintro e w' ⟨rfl, ⟨w3, hg3, rfl⟩⟩)
  go_ret2
  exact ⟨rfl, (belowg' hg1).trans (res_below _ _ hg1.size ((belowg' ((two_grown w1).trans hg3)).mono hg1.size))⟩
end Go.Proofs.Ytmpipgjdnpgemaa
