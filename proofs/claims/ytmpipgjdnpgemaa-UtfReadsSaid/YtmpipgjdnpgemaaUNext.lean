/-
  LAYER 4 (utf): Next and its closure.
-/
import Derived.Test.YtmpipgjdnpgemaaUCheck
import Derived.RegionTactic
import Derived.BigRegion
namespace Go.Proofs.Ytmpipgjdnpgemaa
set_option maxRecDepth 100000
open Go.RowKit Go.Lib

set_option maxHeartbeats 1000000 in
theorem next1_ok (s : ByteArray) (k b b2 b3 b4 : Nat) (r n : Nat) (u3 u4 : Value) (w : World) (hs : s.size ≤ maxLen) (hk : k < s.size) (hd : dec (s.data.toList.drop k) = some (r, n))
    (h1 : Boxed w b 9 (.string s)) (h2 : Boxed w b2 3 (.int .i64 (k : Int))) (h3 : Boxed w b3 21 u3) (h4 : Boxed w b4 3 u4) (hne : b3 ≠ b4) :
    Calls Try.prog 35 #[.pointer (some ⟨b, 0, none⟩), .pointer (some ⟨b2, 0, none⟩), .pointer (some ⟨b3, 0, none⟩), .pointer (some ⟨b4, 0, none⟩)] w fun e w' =>
      e = .returned (.tuple #[]) ∧ ∃ m, w' = ((w.drewN m).setCell ⟨b3, 0, none⟩ (.int .i32 (r : Int))).setCell ⟨b4, 0, none⟩ (.int .i64 (n : Int)) := by
  have c1 := h1.cell
  have c2 := h2.cell
  have c3 := h3.cell
  have c4 := h4.cell
  have f3 := h3.frozen
  have f4 := h4.frozen
  have hF := fun w => first_any s k _ w hs hk hd
  clear hd
  go_enter Try.func35, Try.ntmps35
  go_wp2_with (go_at_call 36; refine (hF _).mono ?_; rintro e w' ⟨rfl, ⟨m, rfl⟩⟩)
  go_end0
  exact ⟨rfl, m, rfl⟩

set_option maxHeartbeats 1000000 in
theorem next1_bad (s : ByteArray) (k b b2 b3 b4 : Nat) (w : World) (hs : s.size ≤ maxLen) (hk : k < s.size) (hd : dec (s.data.toList.drop k) = none)
    (h1 : Boxed w b 9 (.string s)) (h2 : Boxed w b2 3 (.int .i64 (k : Int))) :
    Calls Try.prog 35 #[.pointer (some ⟨b, 0, none⟩), .pointer (some ⟨b2, 0, none⟩), .pointer (some ⟨b3, 0, none⟩), .pointer (some ⟨b4, 0, none⟩)] w fun e w' =>
      e = .panicked [{ v := .iface 69 (.int .i64 (k : Int)), recovered := false }] ∧ ∃ m, w' = w.drewN m := by
  have c1 := h1.cell
  have c2 := h2.cell
  have hF := fun w => first_any s k _ w hs hk hd
  clear hd
  go_enter Try.func35, Try.ntmps35
  go_wp2_with (go_at_call 36; refine (hF _).mono ?_; rintro e w' ⟨rfl, ⟨m, rfl⟩⟩)
  exact ⟨rfl, rfl, m, rfl⟩

/-- The four cells that Next lays. -/
def four (w : World) (s : ByteArray) (k : Int) : World := (((w.alloc (.cells #[.string s] 9)).alloc (.cells #[.int .i64 k] 3)).alloc (.cells #[.int .i32 0] 21)).alloc (.cells #[.int .i64 0] 3)
def Four (w : World) (s : ByteArray) (k : Int) (W : World) : Prop :=
  Boxed W w.heap.size 9 (.string s) ∧ Boxed W (w.heap.size + 1) 3 (.int .i64 k) ∧ Boxed W (w.heap.size + 1 + 1) 21 (.int .i32 0) ∧ Boxed W (w.heap.size + 1 + 1 + 1) 3 (.int .i64 0)
theorem four_grown (w : World) (s : ByteArray) (k : Int) : w.grownBy (four w s k) none := galloc (galloc (galloc (World.grownBy_alloc w _ none) _) _) _
theorem four_size (w : World) (s : ByteArray) (k : Int) : (four w s k).heap.size = w.heap.size + 4 := by simp [four]
theorem four_four (w : World) (s : ByteArray) (k : Int) : Four w s k (four w s k) := by
  refine ⟨(((Boxed.new w _ _).alloc _).alloc _).alloc _, ?_, ?_, ?_⟩
  · have := Boxed.new (w.alloc (.cells #[.string s] 9)) 3 (.int .i64 k)
    rw [World.size_alloc] at this
    exact (this.alloc _).alloc _
  · have := Boxed.new ((w.alloc (.cells #[.string s] 9)).alloc (.cells #[.int .i64 k] 3)) 21 (.int .i32 0)
    rw [World.size_alloc, World.size_alloc] at this
    exact this.alloc _
  · have := Boxed.new (((w.alloc (.cells #[.string s] 9)).alloc (.cells #[.int .i64 k] 3)).alloc (.cells #[.int .i32 0] 21)) 3 (.int .i64 0)
    rwa [World.size_alloc, World.size_alloc, World.size_alloc] at this
theorem Four.kept {w W W' : World} {s : ByteArray} {k : Int} (h : Four w s k W) (hg : W.grownBy W' none) : Four w s k W' :=
  ⟨h.1.kept hg (by simp), h.2.1.kept hg (by simp), h.2.2.1.kept hg (by simp), h.2.2.2.kept hg (by simp)⟩

set_option maxRecDepth 100000 in
set_option maxHeartbeats 2000000 in
theorem next_ok (s : ByteArray) (k : Nat) (r n : Nat) (w : World) (hs : s.size ≤ maxLen) (hk : k < s.size) (hd : dec (s.data.toList.drop k) = some (r, n)) :
    Calls Try.prog 14 #[.string s, .int .i64 (k : Int)] w fun e w' => e = .returned (.tuple #[.int .i32 (r : Int), .int .i64 (n : Int), .int .i64 0]) ∧ Below w.heap.size w w' := by
  have hmf : ∀ (fn : Fn) (first cap : Array Value) (w : World), (Instr.makeFunc fn first cap).run Try.prog w = .ok (.func fn first cap) w := fun _ _ _ _ => rfl
  have hs0 := hs
  unfold maxLen at hs0
  obtain ⟨w1, hw1⟩ : ∃ w1, w1 = (((w.alloc (.cells #[.string s] 9)).alloc (.cells #[.int .i64 (k : Int)] 3)).alloc (.cells #[.int .i32 0] 21)).alloc (.cells #[.int .i64 0] 3) := ⟨_, rfl⟩
  have h4 : Four w s (k : Int) w1 := by rw [hw1]; exact four_four w s _
  have hg1 : w.grownBy w1 none := by rw [hw1]; exact four_grown w s _
  have hz : w1.heap.size = w.heap.size + 4 := by rw [hw1]; exact four_size w s _
  have h4t := h4.kept (two_grown w1)
  have hc := caught_ok 35 #[] #[.pointer (some ⟨w.heap.size, 0, none⟩), .pointer (some ⟨w.heap.size + 1, 0, none⟩), .pointer (some ⟨w.heap.size + 1 + 1, 0, none⟩), .pointer (some ⟨w.heap.size + 1 + 1 + 1, 0, none⟩)] w1
    (fun w3 => ∃ m, w3 = (((two w1).drewN m).setCell ⟨w.heap.size + 1 + 1, 0, none⟩ (.int .i32 (r : Int))).setCell ⟨w.heap.size + 1 + 1 + 1, 0, none⟩ (.int .i64 (n : Int)))
    (enters_of Try.func35 (by kernel_rfl) rfl)
    ((next1_ok s k _ _ _ _ r n _ _ (two w1) hs hk hd h4t.1 h4t.2.1 h4t.2.2.1 h4t.2.2.2 (by omega)).mono fun e w' ⟨h1, h2⟩ => ⟨⟨_, h1⟩, h2⟩)
    (by
      rintro w3 ⟨m, rfl⟩
      have ht := two_drewN (two_two w1) m
      exact ⟨(ht.1.other (by omega) _).other (by omega) _, (ht.2.other (by omega) _).other (by omega) _⟩)
  have c1 := h4.1.cell
  have c2 := h4.2.1.cell
  replace hw1 := Lib.hid hw1
  replace hz := Lib.hid hz
  clear hd
  go_enter Try.func14, Try.ntmps14
  go_wp2_with fail
  rw [← hw1.out]
  refine hc.mono ?_
  rintro e w' ⟨rfl, ⟨w3, ⟨m, rfl⟩, rfl⟩⟩
  clear hc c1 c2
  obtain ⟨X, hX⟩ : ∃ X, X = res w1 0 0 ((((two w1).drewN m).setCell ⟨w.heap.size + 1 + 1, 0, none⟩ (.int .i32 (r : Int))).setCell ⟨w.heap.size + 1 + 1 + 1, 0, none⟩ (.int .i64 (n : Int))) := ⟨_, rfl⟩
  have hbX : Below w.heap.size w X := by
    rw [hX]
    exact (belowg' hg1).trans (res_below _ _ hg1.size ((((belowg' (gdrewN (two_grown w1) m)).mono hg1.size).setCell (p := ⟨w.heap.size + 1 + 1, 0, none⟩) (by show _ ≤ w.heap.size + 1 + 1; omega) _).setCell (p := ⟨w.heap.size + 1 + 1 + 1, 0, none⟩) (by show _ ≤ w.heap.size + 1 + 1 + 1; omega) _))
  have hz := hz.out
  have b3 : Boxed X (w.heap.size + 1 + 1) 21 (.int .i32 (r : Int)) := by
    rw [hX]
    exact ((((show Four w s k ((two w1).drewN m) from h4t).2.2.1.set _).other (by omega) _).other (by omega) _).other (by omega) _
  have b4 : Boxed X (w.heap.size + 1 + 1 + 1) 3 (.int .i64 (n : Int)) := by
    rw [hX]
    exact ((((show Four w s k ((two w1).drewN m) from h4t).2.2.2.other (by omega) _).set _).other (by omega) _).other (by omega) _
  rw [← hX]
  clear hX hz h4t h4 hg1 hw1
  have g3 := b3.cell
  have g4 := b4.cell
  have f3 := b3.frozen
  have f4 := b4.frozen
  have hne : w.heap.size + 1 + 1 ≠ w.heap.size + 1 + 1 + 1 := by omega
  go_wp2_with fail
  go_region
  have d3 := ((b3.set (.int .i32 (r : Int))).other (B' := w.heap.size + 1 + 1 + 1) (by omega) (.int .i64 (n : Int))).cell
  have d4 := ((b4.other (B' := w.heap.size + 1 + 1) (by omega) (.int .i32 (r : Int))).set (.int .i64 (n : Int))).cell
  have hbY := (hbX.setCell (p := ⟨w.heap.size + 1 + 1, 0, none⟩) (by show _ ≤ w.heap.size + 1 + 1; omega) (.int .i32 (r : Int))).setCell (p := ⟨w.heap.size + 1 + 1 + 1, 0, none⟩) (by show _ ≤ w.heap.size + 1 + 1 + 1; omega) (.int .i64 (n : Int))
  generalize (X.setCell ⟨w.heap.size + 1 + 1, 0, none⟩ (.int .i32 (r : Int))).setCell ⟨w.heap.size + 1 + 1 + 1, 0, none⟩ (.int .i64 (n : Int)) = Y at d3 d4 hbY ⊢
  go_wp2
  refine bodyPost_ret (v := .tuple #[.int .i32 (r : Int), .int .i64 (n : Int), .int .i64 0]) ?_ rfl ⟨rfl, hbY.drew⟩
  simp [results, Try.results14, go_sem, d3, d4]

set_option maxRecDepth 100000 in
set_option maxHeartbeats 2000000 in
theorem next_bad (s : ByteArray) (k : Nat) (w : World) (hs : s.size ≤ maxLen) (hk : k < s.size) (hd : dec (s.data.toList.drop k) = none) :
    Calls Try.prog 14 #[.string s, .int .i64 (k : Int)] w fun e w' => e = .returned (.tuple #[.int .i32 0, .int .i64 0, .int .i64 40]) ∧ Below w.heap.size w w' := by
  have hmf : ∀ (fn : Fn) (first cap : Array Value) (w : World), (Instr.makeFunc fn first cap).run Try.prog w = .ok (.func fn first cap) w := fun _ _ _ _ => rfl
  have hs0 := hs
  unfold maxLen at hs0
  obtain ⟨w1, hw1⟩ : ∃ w1, w1 = (((w.alloc (.cells #[.string s] 9)).alloc (.cells #[.int .i64 (k : Int)] 3)).alloc (.cells #[.int .i32 0] 21)).alloc (.cells #[.int .i64 0] 3) := ⟨_, rfl⟩
  have h4 : Four w s (k : Int) w1 := by rw [hw1]; exact four_four w s _
  have hg1 : w.grownBy w1 none := by rw [hw1]; exact four_grown w s _
  have hz : w1.heap.size = w.heap.size + 4 := by rw [hw1]; exact four_size w s _
  have h4t := h4.kept (two_grown w1)
  have hc := caught_bad 35 #[] #[.pointer (some ⟨w.heap.size, 0, none⟩), .pointer (some ⟨w.heap.size + 1, 0, none⟩), .pointer (some ⟨w.heap.size + 1 + 1, 0, none⟩), .pointer (some ⟨w.heap.size + 1 + 1 + 1, 0, none⟩)] (k : Int) w1
    (fun w3 => ∃ m, w3 = (two w1).drewN m)
    (enters_of Try.func35 (by kernel_rfl) rfl)
    (next1_bad s k _ _ _ _ (two w1) hs hk hd h4t.1 h4t.2.1)
    (by
      rintro w3 ⟨m, rfl⟩
      exact two_drewN (two_two w1) m)
  have c1 := h4.1.cell
  have c2 := h4.2.1.cell
  replace hw1 := Lib.hid hw1
  replace hz := Lib.hid hz
  clear hd
  go_enter Try.func14, Try.ntmps14
  go_wp2_with fail
  rw [← hw1.out]
  refine hc.mono ?_
  rintro e w' ⟨rfl, ⟨w3, ⟨m, rfl⟩, rfl⟩⟩
  clear hc c1 c2
  obtain ⟨X, hX⟩ : ∃ X, X = res w1 (k : Int) 40 ((two w1).drewN m) := ⟨_, rfl⟩
  have hbX : Below w.heap.size w X := by
    rw [hX]
    exact (belowg' hg1).trans (res_below _ _ hg1.size ((belowg' (gdrewN (two_grown w1) m)).mono hg1.size))
  have hz := hz.out
  have b3 : Boxed X (w.heap.size + 1 + 1) 21 (.int .i32 0) := by
    rw [hX]
    exact ((show Four w s k ((two w1).drewN m) from h4t).2.2.1.other (by omega) _).other (by omega) _
  have b4 : Boxed X (w.heap.size + 1 + 1 + 1) 3 (.int .i64 0) := by
    rw [hX]
    exact ((show Four w s k ((two w1).drewN m) from h4t).2.2.2.other (by omega) _).other (by omega) _
  rw [← hX]
  clear hX hz h4t h4 hg1 hw1
  have g3 := b3.cell
  have g4 := b4.cell
  have f3 := b3.frozen
  have f4 := b4.frozen
  have hne : w.heap.size + 1 + 1 ≠ w.heap.size + 1 + 1 + 1 := by omega
  go_wp2_with fail
  go_region
  have d3 := ((b3.set (.int .i32 0)).other (B' := w.heap.size + 1 + 1 + 1) (by omega) (.int .i64 0)).cell
  have d4 := ((b4.other (B' := w.heap.size + 1 + 1) (by omega) (.int .i32 0)).set (.int .i64 0)).cell
  have hbY := (hbX.setCell (p := ⟨w.heap.size + 1 + 1, 0, none⟩) (by show _ ≤ w.heap.size + 1 + 1; omega) (.int .i32 0)).setCell (p := ⟨w.heap.size + 1 + 1 + 1, 0, none⟩) (by show _ ≤ w.heap.size + 1 + 1 + 1; omega) (.int .i64 0)
  generalize (X.setCell ⟨w.heap.size + 1 + 1, 0, none⟩ (.int .i32 0)).setCell ⟨w.heap.size + 1 + 1 + 1, 0, none⟩ (.int .i64 0) = Y at d3 d4 hbY ⊢
  go_wp2
  refine bodyPost_ret (v := .tuple #[.int .i32 0, .int .i64 0, .int .i64 40]) ?_ rfl ⟨rfl, hbY.drew⟩
  simp [results, Try.results14, go_sem, d3, d4]

set_option maxRecDepth 100000 in
set_option maxHeartbeats 2000000 in
theorem next_range (s : ByteArray) (k : Int) (w : World) (hs : s.size ≤ maxLen) (hk : k < 0 ∨ s.size ≤ k) :
    Calls Try.prog 14 #[.string s, .int .i64 k] w fun e w' => e = .returned (.tuple #[.int .i32 0, .int .i64 0, .int .i64 1]) ∧ Below w.heap.size w w' := by
  unfold maxLen at hs
  have hbel : Below w.heap.size w ((((w.alloc (.cells #[.string s] 9)).alloc (.cells #[.int .i64 k] 3)).alloc (.cells #[.int .i32 0] 21)).alloc (.cells #[.int .i64 0] 3)) := belowg' (four_grown w s k)
  rcases hk with hk | hk
  all_goals
    go_enter Try.func14, Try.ntmps14
    go_wp2
  all_goals
    refine bodyPost_ret (v := .tuple #[.int .i32 0, .int .i64 0, .int .i64 1]) ?_ rfl ⟨rfl, ?_⟩
  all_goals first
    | (simp [results, Try.results14, go_sem]; done)
    | exact hbel
end Go.Proofs.Ytmpipgjdnpgemaa
