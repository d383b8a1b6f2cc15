/-
  LAYER 2 (codec): Int, nextInt, ReadInt, and the reader's Int.
-/
import Derived.Test.YtilbccjgaaembaaCRead
import Derived.Test.YtilbccjgaaembaaCWrite
import Derived.Lib.VarintDec
namespace Go.Proofs.Ytilbccjgaaembaa
set_option maxRecDepth 100000
open Go.RowKit Go.Lib

theorem zigzag_lt (x : Int) (h0 : -9223372036854775808 ≤ x) (h1 : x ≤ 9223372036854775807) : zigzag x < 18446744073709551616 := by unfold zigzag; split <;> omega
theorem zigzag_neg (x : Int) (h : x < 0) : ((zigzag x : Nat) : Int) = 2 * -(x + 1) + 1 := by unfold zigzag; rw [if_neg (by omega)]; omega
theorem zigzag_pos (x : Int) (h : ¬ x < 0) : ((zigzag x : Nat) : Int) = 2 * x := by unfold zigzag; rw [if_pos (by omega)]; omega

/-- ReadInt's number out of ReadUint's. -/
def unzig (n : Nat) : Int := if n % 2 = 1 then -1 - ((n / 2 : Nat) : Int) else ((n / 2 : Nat) : Int)
theorem unzig_zigzag (x : Int) : unzig (zigzag x) = x := by unfold unzig zigzag; split <;> split <;> omega
theorem zigzag_unzig (n : Nat) : zigzag (unzig n) = n := by unfold unzig zigzag; split <;> split <;> omega
theorem unzig_fits (n : Nat) (h : n < 18446744073709551616) : -9223372036854775808 ≤ unzig n ∧ unzig n ≤ 9223372036854775807 := by unfold unzig; split <;> omega

set_option maxHeartbeats 1000000 in
theorem Int_any (x : Int) (h0 : -9223372036854775808 ≤ x) (h1 : x ≤ 9223372036854775807) (w : World) :
    Calls Try.prog 15 #[.int .i64 x] w fun e w' => ∃ v, e = .returned v ∧ Owns w' w.heap.size 5 v (Lib.uvarint (zigzag x)) ∧ w.grownBy w' none := by
  have hu := Uint_any (zigzag x) (zigzag_lt x h0 h1)
  by_cases hx : x < 0
  · rw [zigzag_neg x hx] at hu
    go_enter Try.func15, Try.ntmps15
    go_wp2_with (go_at_call 14; refine (hu _).mono ?_; rintro e w' ⟨v, rfl, ho, hg⟩)
    go_ret
    exact ⟨v, rfl, ho, hg⟩
  · rw [zigzag_pos x hx] at hu
    go_enter Try.func15, Try.ntmps15
    go_wp2_with (go_at_call 14; refine (hu _).mono ?_; rintro e w' ⟨v, rfl, ho, hg⟩)
    go_ret
    exact ⟨v, rfl, ho, hg⟩
set_option maxHeartbeats 1000000 in
theorem nextInt_ok (r : Nat) (a : Option Addr) (len cap : Nat) (bs : List UInt8) (pos : Nat) (er : Int) (n m : Nat) (w : World) (hR : Rd w r (.slice a len cap) pos er) (hr : Reads w (.slice a len cap) bs) (hs : pos ≤ bs.length) (hrd : rd 0 0 (bs.drop pos) = .ok (n, m)) :
    Calls Try.prog 74 #[.pointer (some ⟨r, 0, none⟩)] w fun e w' => e = .returned (.int .i64 (unzig n)) ∧ w.grownBy w' (some r) ∧ Rd w' r (.slice a len cap) (pos + m) er := by
  have hn := (rd_lt _ 0 0 n m (by omega) (by decide) hrd).1
  have hH := Lib.hid hrd
  clear hrd
  by_cases h2 : n % 2 = 1
  · have hz : unzig n = -1 - ((n / 2 : Nat) : Int) := by unfold unzig; rw [if_pos h2]
    have hq : (((n : Int) % 2) == 1) = true := by rw [beq_iff_eq]; omega
    have hZ := Lib.hid hz
    clear hz h2
    go_enter Try.func74, Try.ntmps74
    go_wp2_with (go_at_call 72; refine (nextUint_ok r a len cap bs pos er n m w hR hr hs hH.out).mono ?_; rintro e w' ⟨rfl, hg, hR2⟩)
    go_ret
    refine ⟨?_, hg, hR2⟩
    rw [hZ.out]
    exact congrArg (fun z => Ending.returned (Value.int .i64 z)) (by omega)
  · have hz : unzig n = ((n / 2 : Nat) : Int) := by unfold unzig; rw [if_neg h2]
    have hq : (((n : Int) % 2) == 1) = false := by rw [beq_eq_false_iff_ne]; omega
    have hZ := Lib.hid hz
    clear hz h2
    go_enter Try.func74, Try.ntmps74
    go_wp2_with (go_at_call 72; refine (nextUint_ok r a len cap bs pos er n m w hR hr hs hH.out).mono ?_; rintro e w' ⟨rfl, hg, hR2⟩)
    go_ret
    refine ⟨?_, hg, hR2⟩
    rw [hZ.out]
    exact congrArg (fun z => Ending.returned (Value.int .i64 z)) (by omega)

set_option maxHeartbeats 1000000 in
theorem nextInt_bad (r : Nat) (a : Option Addr) (len cap : Nat) (bs : List UInt8) (pos : Nat) (er : Int) (x : Int) (w : World) (hR : Rd w r (.slice a len cap) pos er) (hr : Reads w (.slice a len cap) bs) (hs : pos ≤ bs.length) (hrd : rd 0 0 (bs.drop pos) = .error x) :
    Calls Try.prog 74 #[.pointer (some ⟨r, 0, none⟩)] w fun e w' => ∃ p, e = .panicked [{ v := .iface 131 (.int .i64 x), recovered := false }] ∧ w.grownBy w' (some r) ∧ Rd w' r (.slice a len cap) p er := by
  have hH := Lib.hid hrd
  clear hrd
  go_enter Try.func74, Try.ntmps74
  go_wp2_with (go_at_call 72; refine (nextUint_bad r a len cap bs pos er x w hR hr hs hH.out).mono ?_; rintro e w' ⟨p, rfl, hg, hR2⟩)
  exact ⟨rfl, p, rfl, hg, hR2⟩

theorem enters_nextInt (args : Array Value) (w : World) : (callFunc 74 args).run Try.prog w = .ok (.enter 74 args) w := by go_simp

set_option maxHeartbeats 1000000 in
theorem ReadInt_ok (a : Option Addr) (l c : Nat) (bs : List UInt8) (n m : Nat) (w : World) (hr : Reads w (.slice a l c) bs) (hrd : rd 0 0 bs = .ok (n, m)) :
    Calls Try.prog 21 #[.slice a l c] w fun e w' => e = .returned (.tuple #[.int .i64 (unzig n), .int .i64 (m : Int), .int .i64 0]) ∧ Below w.heap.size w w' := by
  have hmf : ∀ (fn : Fn) (first cap : Array Value) (w : World), (Instr.makeFunc fn first cap).run Try.prog w = .ok (.func fn first cap) w := fun _ _ _ _ => rfl
  have hr0 : Reads (w.alloc (.cells #[.bool true, .slice a l c, .int .i64 0, .int .i64 0] 116)) (.slice a l c) bs := hr.new (World.grownBy_alloc w _ _)
  have hon := on_ok_i64 w.heap.size (.slice a l c) 0 74 #[.pointer (some ⟨w.heap.size, 0, none⟩)] #[] (fun v w' => v = .int .i64 (unzig n) ∧ Rd w' w.heap.size (.slice a l c) m 0) _ (rd_made _ w) enters_nextInt (fun w2 hg => by
    have := nextInt_ok w.heap.size a l c bs 0 0 n m w2 ((rd_made (.slice a l c) w).new hg) (hr0.new hg) (by omega) (by simpa using hrd)
    refine this.mono ?_
    rintro e w3 ⟨rfl, hg3, hR3⟩
    rw [Nat.zero_add] at hR3
    exact ⟨_, rfl, ⟨rfl, hR3⟩, hg3⟩)
  go_enter Try.func21, Try.ntmps21
  go_wp2_with (go_at_call 70; refine (over_any a l c _).mono ?_; rintro e w' ⟨rfl, rfl⟩)
  refine hon.mono ?_
  rintro e w' ⟨v, rfl, ⟨rfl, hR⟩, hg⟩
  have h2 := hR.at
  have h3 := hR.err
  go_wp2
  go_quiet (fail)
  go_wp2
  go_ret3
  exact ⟨rfl, gbelow (gdrewN (gnew (World.grownBy_alloc w _ none) hg (by simp)) _) (Nat.le_refl _) (by simp)⟩

set_option maxHeartbeats 1000000 in
theorem ReadInt_bad (a : Option Addr) (l c : Nat) (bs : List UInt8) (x : Int) (w : World) (hr : Reads w (.slice a l c) bs) (hrd : rd 0 0 bs = .error x) :
    Calls Try.prog 21 #[.slice a l c] w fun e w' => e = .returned (.tuple #[.int .i64 0, .int .i64 0, .int .i64 x]) ∧ Below w.heap.size w w' := by
  have hmf : ∀ (fn : Fn) (first cap : Array Value) (w : World), (Instr.makeFunc fn first cap).run Try.prog w = .ok (.func fn first cap) w := fun _ _ _ _ => rfl
  have hr0 : Reads (w.alloc (.cells #[.bool true, .slice a l c, .int .i64 0, .int .i64 0] 116)) (.slice a l c) bs := hr.new (World.grownBy_alloc w _ _)
  have hon := on_bad_i64 w.heap.size (.slice a l c) 0 x 74 #[.pointer (some ⟨w.heap.size, 0, none⟩)] #[] _ (rd_made _ w) enters_nextInt (fun w2 hg =>
    (nextInt_bad w.heap.size a l c bs 0 0 x w2 ((rd_made (.slice a l c) w).new hg) (hr0.new hg) (by omega) (by simpa using hrd)))
  go_enter Try.func21, Try.ntmps21
  go_wp2_with (go_at_call 70; refine (over_any a l c _).mono ?_; rintro e w' ⟨rfl, rfl⟩)
  refine hon.mono ?_
  rintro e w' ⟨rfl, hg, hR⟩
  have h2 := hR.at
  have h3 := hR.err
  go_wp2
  go_quiet (fail)
  go_wp2
  go_ret3
  exact ⟨rfl, gbelow (gdrewN (gnew (World.grownBy_alloc w _ none) hg (by simp)) _) (Nat.le_refl _) (by simp)⟩

set_option maxHeartbeats 1000000 in
theorem rInt_ok (r : Nat) (a : Option Addr) (l c : Nat) (bs : List UInt8) (pos n m : Nat) (w : World) (hR : Rd w r (.slice a l c) pos 0) (hr : Reads w (.slice a l c) bs) (hs : pos ≤ bs.length) (hrd : rd 0 0 (bs.drop pos) = .ok (n, m)) :
    Calls Try.prog 40 #[.pointer (some ⟨r, 0, none⟩)] w fun e w' => e = .returned (.int .i64 (unzig n)) ∧ w.grownBy w' (some r) ∧ Rd w' r (.slice a l c) (pos + m) 0 := by
  have hmf : ∀ (fn : Fn) (first cap : Array Value) (w : World), (Instr.makeFunc fn first cap).run Try.prog w = .ok (.func fn first cap) w := fun _ _ _ _ => rfl
  have hon := on_ok_i64 r (.slice a l c) pos 74 #[.pointer (some ⟨r, 0, none⟩)] #[] (fun v w' => v = .int .i64 (unzig n) ∧ Rd w' r (.slice a l c) (pos + m) 0) w hR enters_nextInt (fun w2 hg =>
    (nextInt_ok r a l c bs pos 0 n m w2 (hR.new hg) (hr.new hg) hs hrd).mono (by
      rintro e w3 ⟨rfl, hg3, hR3⟩
      exact ⟨_, rfl, ⟨rfl, hR3⟩, hg3⟩))
  go_enter Try.func40, Try.ntmps40
  go_wp2_with fail
  refine hon.mono ?_
  rintro e w' ⟨v, rfl, ⟨rfl, hR⟩, hg⟩
  go_wp2
  go_ret
  exact ⟨rfl, hg, hR⟩

set_option maxHeartbeats 1000000 in
theorem rInt_bad (r : Nat) (a : Option Addr) (l c : Nat) (bs : List UInt8) (pos : Nat) (x : Int) (w : World) (hR : Rd w r (.slice a l c) pos 0) (hr : Reads w (.slice a l c) bs) (hs : pos ≤ bs.length) (hrd : rd 0 0 (bs.drop pos) = .error x) :
    Calls Try.prog 40 #[.pointer (some ⟨r, 0, none⟩)] w fun e w' => e = .returned (.int .i64 0) ∧ w.grownBy w' (some r) ∧ Rd w' r (.slice a l c) pos x := by
  have hmf : ∀ (fn : Fn) (first cap : Array Value) (w : World), (Instr.makeFunc fn first cap).run Try.prog w = .ok (.func fn first cap) w := fun _ _ _ _ => rfl
  have hon := on_bad_i64 r (.slice a l c) pos x 74 #[.pointer (some ⟨r, 0, none⟩)] #[] w hR enters_nextInt (fun w2 hg =>
    (nextInt_bad r a l c bs pos 0 x w2 (hR.new hg) (hr.new hg) hs hrd))
  go_enter Try.func40, Try.ntmps40
  go_wp2_with fail
  refine hon.mono ?_
  rintro e w' ⟨rfl, hg, hR⟩
  go_wp2
  go_ret
  exact ⟨rfl, hg, hR⟩
end Go.Proofs.Ytilbccjgaaembaa
