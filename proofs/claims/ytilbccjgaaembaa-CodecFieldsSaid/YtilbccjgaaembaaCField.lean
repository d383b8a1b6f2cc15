/-
  LAYER 2 (codec): nextLen, nextField, ReadField, the reader's Field.
-/
import Derived.Test.YtilbccjgaaembaaCInt
namespace Go.Proofs.Ytilbccjgaaembaa
set_option maxRecDepth 100000
open Go.RowKit Go.Lib

set_option maxHeartbeats 1000000 in
theorem nextLen_ok_1048576 (r : Nat) (a : Option Addr) (len cap : Nat) (bs : List UInt8) (pos : Nat) (er : Int) (n m : Nat) (w : World) (hR : Rd w r (.slice a len cap) pos er) (hr : Reads w (.slice a len cap) bs) (hs : pos ≤ bs.length) (hrd : rdLen 1048576 (bs.drop pos) = .ok (n, m)) :
    Calls Try.prog 103 #[.pointer (some ⟨r, 0, none⟩), .int .u64 1048576] w fun e w' => e = .returned (.int .i64 (n : Int)) ∧ w.grownBy w' (some r) ∧ Rd w' r (.slice a len cap) (pos + m) er := by
  obtain ⟨hn, _, _, h⟩ := rdLen_lt hrd
  have hn' : (n : Int) ≤ 1048576 := by omega
  have hH := Lib.hid h
  clear hrd h hn
  go_enter Try.func103, Try.ntmps103
  go_wp2_with (go_at_call 72; refine (nextUint_ok r a len cap bs pos er n m w hR hr hs hH.out).mono ?_; rintro e w' ⟨rfl, hg, hR2⟩)
  go_ret
  exact ⟨rfl, hg, hR2⟩

set_option maxHeartbeats 1000000 in
theorem nextLen_bad_1048576 (r : Nat) (a : Option Addr) (len cap : Nat) (bs : List UInt8) (pos : Nat) (er : Int) (x : Int) (w : World) (hR : Rd w r (.slice a len cap) pos er) (hr : Reads w (.slice a len cap) bs) (hs : pos ≤ bs.length) (hrd : rdLen 1048576 (bs.drop pos) = .error x) :
    Calls Try.prog 103 #[.pointer (some ⟨r, 0, none⟩), .int .u64 1048576] w fun e w' => ∃ p, e = .panicked [{ v := .iface 131 (.int .i64 x), recovered := false }] ∧ w.grownBy w' (some r) ∧ Rd w' r (.slice a len cap) p er := by
  unfold rdLen at hrd
  split at hrd
  · rename_i x' h'
    simp only [Except.error.injEq] at hrd
    subst hrd
    have hH := Lib.hid h'
    clear h'
    go_enter Try.func103, Try.ntmps103
    go_wp2_with (go_at_call 72; refine (nextUint_bad r a len cap bs pos er x' w hR hr hs hH.out).mono ?_; rintro e w' ⟨p, rfl, hg, hR2⟩)
    exact ⟨rfl, p, rfl, hg, hR2⟩
  · rename_i n m h'
    split at hrd
    · rename_i hlt
      simp only [Except.error.injEq] at hrd
      subst hrd
      have hlt' : (1048576 : Int) < (n : Int) := by omega
      have hH := Lib.hid h'
      clear h' hlt
      go_enter Try.func103, Try.ntmps103
      go_wp2_with (go_at_call 72; refine (nextUint_ok r a len cap bs pos er n m w hR hr hs hH.out).mono ?_; rintro e w' ⟨rfl, hg, hR2⟩)
      exact ⟨rfl, _, rfl, hg, hR2⟩
    · cases hrd
set_option maxHeartbeats 1000000 in
theorem nextLen_ok_65536 (r : Nat) (a : Option Addr) (len cap : Nat) (bs : List UInt8) (pos : Nat) (er : Int) (n m : Nat) (w : World) (hR : Rd w r (.slice a len cap) pos er) (hr : Reads w (.slice a len cap) bs) (hs : pos ≤ bs.length) (hrd : rdLen 65536 (bs.drop pos) = .ok (n, m)) :
    Calls Try.prog 103 #[.pointer (some ⟨r, 0, none⟩), .int .u64 65536] w fun e w' => e = .returned (.int .i64 (n : Int)) ∧ w.grownBy w' (some r) ∧ Rd w' r (.slice a len cap) (pos + m) er := by
  obtain ⟨hn, _, _, h⟩ := rdLen_lt hrd
  have hn' : (n : Int) ≤ 65536 := by omega
  have hH := Lib.hid h
  clear hrd h hn
  go_enter Try.func103, Try.ntmps103
  go_wp2_with (go_at_call 72; refine (nextUint_ok r a len cap bs pos er n m w hR hr hs hH.out).mono ?_; rintro e w' ⟨rfl, hg, hR2⟩)
  go_ret
  exact ⟨rfl, hg, hR2⟩

set_option maxHeartbeats 1000000 in
theorem nextLen_bad_65536 (r : Nat) (a : Option Addr) (len cap : Nat) (bs : List UInt8) (pos : Nat) (er : Int) (x : Int) (w : World) (hR : Rd w r (.slice a len cap) pos er) (hr : Reads w (.slice a len cap) bs) (hs : pos ≤ bs.length) (hrd : rdLen 65536 (bs.drop pos) = .error x) :
    Calls Try.prog 103 #[.pointer (some ⟨r, 0, none⟩), .int .u64 65536] w fun e w' => ∃ p, e = .panicked [{ v := .iface 131 (.int .i64 x), recovered := false }] ∧ w.grownBy w' (some r) ∧ Rd w' r (.slice a len cap) p er := by
  unfold rdLen at hrd
  split at hrd
  · rename_i x' h'
    simp only [Except.error.injEq] at hrd
    subst hrd
    have hH := Lib.hid h'
    clear h'
    go_enter Try.func103, Try.ntmps103
    go_wp2_with (go_at_call 72; refine (nextUint_bad r a len cap bs pos er x' w hR hr hs hH.out).mono ?_; rintro e w' ⟨p, rfl, hg, hR2⟩)
    exact ⟨rfl, p, rfl, hg, hR2⟩
  · rename_i n m h'
    split at hrd
    · rename_i hlt
      simp only [Except.error.injEq] at hrd
      subst hrd
      have hlt' : (65536 : Int) < (n : Int) := by omega
      have hH := Lib.hid h'
      clear h' hlt
      go_enter Try.func103, Try.ntmps103
      go_wp2_with (go_at_call 72; refine (nextUint_ok r a len cap bs pos er n m w hR hr hs hH.out).mono ?_; rintro e w' ⟨rfl, hg, hR2⟩)
      exact ⟨rfl, _, rfl, hg, hR2⟩
    · cases hrd

set_option maxHeartbeats 1000000 in
theorem nextField_ok (r : Nat) (a : Option Addr) (len cap : Nat) (bs : List UInt8) (pos : Nat) (er : Int) (f : List UInt8) (m : Nat) (w : World) (hR : Rd w r (.slice a len cap) pos er) (hr : Reads w (.slice a len cap) bs) (hs : pos ≤ bs.length) (hrd : rdField (bs.drop pos) = .ok (f, m)) :
    Calls Try.prog 78 #[.pointer (some ⟨r, 0, none⟩)] w fun e w' => ∃ v, e = .returned v ∧ Owns w' w.heap.size 5 v f ∧ w.grownBy w' (some r) ∧ Rd w' r (.slice a len cap) (pos + m) er := by
  unfold rdField at hrd
  split at hrd
  · cases hrd
  rename_i n k h'
  have hl := rdLen_lt h'
  split at hrd
  · cases hrd
  rename_i hle
  simp only [Except.ok.injEq, Prod.mk.injEq] at hrd
  obtain ⟨hf, rfl⟩ := hrd
  simp only [List.length_drop] at hl hle
  have hF : ((bs.drop (pos + k)).take n) = f := by rw [← hf, List.drop_drop]
  have hlf : f.length ≤ n := by rw [← hF]; exact List.length_take_le _ _
  have hH := Lib.hid h'
  have hFF := Lib.hid hF
  obtain ⟨hn, _, hk, _⟩ := hl
  clear h' hF hf
  go_enter Try.func78, Try.ntmps78
  go_wp2_with (go_at_call 103; refine (nextLen_ok_1048576 r a len cap bs pos er n k w hR hr hs hH.out).mono ?_; rintro e w1 ⟨rfl, hg1, hR1⟩)
  have hr1 := hR.carry hr hg1
  refine (next_ok r n a len cap bs (pos + k) er w1 hR1 hr1 (by omega)).mono ?_
  rintro e w2 ⟨v2, rfl, hg2, hR2, hr2, -⟩
  rw [hFF.out] at hr2
  obtain ⟨a2, c2, rfl⟩ := hr2.form
  go_wp2_with fail
  refine (copied_any a2 _ c2 f w2 hr2 (by omega)).mono ?_
  rintro e w3 ⟨v3, rfl, ho3, hg3⟩
  go_wp2
  go_ret
  refine ⟨v3, rfl, ho3.mono ?_, gnew (hg1.trans hg2) hg3 (by simp), by rw [← Nat.add_assoc]; exact hR2.new hg3⟩
  have := hg1.size
  have := hg2.size
  omega

set_option maxHeartbeats 1000000 in
theorem nextField_bad (r : Nat) (a : Option Addr) (len cap : Nat) (bs : List UInt8) (pos : Nat) (er : Int) (x : Int) (w : World) (hR : Rd w r (.slice a len cap) pos er) (hr : Reads w (.slice a len cap) bs) (hs : pos ≤ bs.length) (hrd : rdField (bs.drop pos) = .error x) :
    Calls Try.prog 78 #[.pointer (some ⟨r, 0, none⟩)] w fun e w' => ∃ p, e = .panicked [{ v := .iface 131 (.int .i64 x), recovered := false }] ∧ w.grownBy w' (some r) ∧ Rd w' r (.slice a len cap) p er := by
  have hll := hr.slice
  obtain ⟨rfl, hcc, hmm⟩ := hll
  unfold rdField at hrd
  split at hrd
  · rename_i x' h'
    simp only [Except.error.injEq] at hrd
    subst hrd
    have hH := Lib.hid h'
    clear h'
    go_enter Try.func78, Try.ntmps78
    go_wp2_with (go_at_call 103; refine (nextLen_bad_1048576 r a _ cap bs pos er x' w hR hr hs hH.out).mono ?_; rintro e w1 ⟨p, rfl, hg1, hR1⟩)
    exact ⟨rfl, p, rfl, hg1, hR1⟩
  · rename_i n k h'
    have hl := rdLen_lt h'
    split at hrd
    · rename_i hlt
      simp only [Except.error.injEq] at hrd
      subst hrd
      simp only [List.length_drop] at hl hlt
      have hH := Lib.hid h'
      obtain ⟨hn, _, hk, _⟩ := hl
      clear h'
      go_enter Try.func78, Try.ntmps78
      go_wp2_with (go_at_call 103; refine (nextLen_ok_1048576 r a _ cap bs pos er n k w hR hr hs hH.out).mono ?_; rintro e w1 ⟨rfl, hg1, hR1⟩)
      refine (next_short r n a bs.length cap (pos + k) er w1 (by omega) hR1 (by omega) (by omega) (by omega)).mono ?_
      rintro e w2 ⟨rfl, q, rfl⟩
      go_wp2
      exact ⟨rfl, _, rfl, gdrewN hg1 _, hR1.drewN _⟩
    · cases hrd

theorem enters_nextField (args : Array Value) (w : World) : (callFunc 78 args).run Try.prog w = .ok (.enter 78 args) w := by go_simp

set_option maxHeartbeats 1000000 in
theorem ReadField_ok (a : Option Addr) (l c : Nat) (bs f : List UInt8) (m : Nat) (w : World) (hr : Reads w (.slice a l c) bs) (hrd : rdField bs = .ok (f, m)) :
    Calls Try.prog 26 #[.slice a l c] w fun e w' => ∃ v, e = .returned (.tuple #[v, .int .i64 (m : Int), .int .i64 0]) ∧ Owns w' w.heap.size 5 v f ∧ Below w.heap.size w w' := by
  have hmf : ∀ (fn : Fn) (first cap : Array Value) (w : World), (Instr.makeFunc fn first cap).run Try.prog w = .ok (.func fn first cap) w := fun _ _ _ _ => rfl
  have hr0 : Reads (w.alloc (.cells #[.bool true, .slice a l c, .int .i64 0, .int .i64 0] 116)) (.slice a l c) bs := hr.new (World.grownBy_alloc w _ _)
  have hon := on_ok_bs w.heap.size (.slice a l c) 0 78 #[.pointer (some ⟨w.heap.size, 0, none⟩)] #[] (fun v w' => Owns w' w.heap.size 5 v f ∧ Rd w' w.heap.size (.slice a l c) m 0) _ (rd_made _ w) enters_nextField (fun w2 hg => by
    have := nextField_ok w.heap.size a l c bs 0 0 f m w2 ((rd_made (.slice a l c) w).new hg) (hr0.new hg) (by omega) (by simpa using hrd)
    refine this.mono ?_
    rintro e w3 ⟨v, rfl, ho, hg3, hR3⟩
    rw [Nat.zero_add] at hR3
    have := hg.size
    simp at this
    exact ⟨_, rfl, ⟨ho.mono (by omega), hR3⟩, hg3⟩)
  go_enter Try.func26, Try.ntmps26
  go_wp2_with (go_at_call 70; refine (over_any a l c _).mono ?_; rintro e w' ⟨rfl, rfl⟩)
  refine hon.mono ?_
  rintro e w' ⟨v, rfl, ⟨ho, hR⟩, hg⟩
  have h2 := hR.at
  have h3 := hR.err
  go_wp2
  go_quiet (fail)
  go_wp2
  go_ret3
  exact ⟨v, rfl, ho, gbelow (gdrewN (gnew (World.grownBy_alloc w _ none) hg (by simp)) _) (Nat.le_refl _) (by simp)⟩

set_option maxHeartbeats 1000000 in
theorem ReadField_bad (a : Option Addr) (l c : Nat) (bs : List UInt8) (x : Int) (w : World) (hr : Reads w (.slice a l c) bs) (hrd : rdField bs = .error x) :
    Calls Try.prog 26 #[.slice a l c] w fun e w' => e = .returned (.tuple #[.slice none 0 0, .int .i64 0, .int .i64 x]) ∧ Below w.heap.size w w' := by
  have hmf : ∀ (fn : Fn) (first cap : Array Value) (w : World), (Instr.makeFunc fn first cap).run Try.prog w = .ok (.func fn first cap) w := fun _ _ _ _ => rfl
  have hr0 : Reads (w.alloc (.cells #[.bool true, .slice a l c, .int .i64 0, .int .i64 0] 116)) (.slice a l c) bs := hr.new (World.grownBy_alloc w _ _)
  have hon := on_bad_bs w.heap.size (.slice a l c) 0 x 78 #[.pointer (some ⟨w.heap.size, 0, none⟩)] #[] _ (rd_made _ w) enters_nextField (fun w2 hg =>
    (nextField_bad w.heap.size a l c bs 0 0 x w2 ((rd_made (.slice a l c) w).new hg) (hr0.new hg) (by omega) (by simpa using hrd)))
  go_enter Try.func26, Try.ntmps26
  go_wp2_with (go_at_call 70; refine (over_any a l c _).mono ?_; rintro e w' ⟨rfl, rfl⟩)
  refine hon.mono ?_
  rintro e w' ⟨rfl, hg, hR⟩
  have h2 := hR.at
  have h3 := hR.err
  go_wp2
  go_quiet (fail)
  go_wp2
  go_ret3
  exact ⟨rfl, gbelow (gdrewN (gnew (World.grownBy_alloc w _ none) hg (by simp)) _) (Nat.le_refl _) (by simp)⟩
end Go.Proofs.Ytilbccjgaaembaa
