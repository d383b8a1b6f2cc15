/-
  LAYER 2 (codec): ReadUint and its kin.
-/
import Derived.Test.YtilbccjgaaembaaCOn
namespace Go.Proofs.Ytilbccjgaaembaa
set_option maxRecDepth 100000
open Go.RowKit Go.Lib

theorem enters_nextUint (args : Array Value) (w : World) : (callFunc 72 args).run Try.prog w = .ok (.enter 72 args) w := by go_simp

set_option maxHeartbeats 1000000 in
theorem ReadUint_ok (a : Option Addr) (l c : Nat) (bs : List UInt8) (n m : Nat) (w : World) (hr : Reads w (.slice a l c) bs) (hrd : rd 0 0 bs = .ok (n, m)) :
    Calls Try.prog 20 #[.slice a l c] w fun e w' => e = .returned (.tuple #[.int .u64 (n : Int), .int .i64 (m : Int), .int .i64 0]) ∧ Below w.heap.size w w' := by
  have hmf : ∀ (fn : Fn) (first cap : Array Value) (w : World), (Instr.makeFunc fn first cap).run Try.prog w = .ok (.func fn first cap) w := fun _ _ _ _ => rfl
  have hr0 : Reads (w.alloc (.cells #[.bool true, .slice a l c, .int .i64 0, .int .i64 0] 116)) (.slice a l c) bs := hr.all ((Below.refl _ w).alloc (Nat.le_refl _) _)
  have hon := on_ok_u64 w.heap.size (.slice a l c) 0 72 #[.pointer (some ⟨w.heap.size, 0, none⟩)] #[] (fun v w' => v = .int .u64 (n : Int) ∧ Rd w' w.heap.size (.slice a l c) m 0) _ (rd_made _ w) enters_nextUint (fun w2 hg => by
    have hR2 := (rd_made (.slice a l c) w).new hg
    have := nextUint_ok w.heap.size a l c bs 0 0 n m w2 hR2 (hr0.new hg) (by omega) (by simpa using hrd)
    refine this.mono ?_
    rintro e w3 ⟨rfl, hg3, hR3⟩
    rw [Nat.zero_add] at hR3
    exact ⟨_, rfl, ⟨rfl, hR3⟩, hg3⟩)
  go_enter Try.func20, Try.ntmps20
  go_wp2_with (go_at_call 70; refine (over_any a l c _).mono ?_; rintro e w' ⟨rfl, rfl⟩)
  refine hon.mono ?_
  rintro e w' ⟨v, rfl, ⟨rfl, hR⟩, hg⟩
  have h2 := hR.at
  have h3 := hR.err
  go_wp2
  go_quiet (fail)
  go_wp2
  go_ret3
  exact ⟨rfl, gbelow (gdrewN (gnew (World.grownBy_alloc w _ none) hg (by simp)) _) (Nat.le_refl _) (by simp)⟩

set_option maxHeartbeats 1000000 in
theorem ReadUint_bad (a : Option Addr) (l c : Nat) (bs : List UInt8) (x : Int) (w : World) (hr : Reads w (.slice a l c) bs) (hrd : rd 0 0 bs = .error x) :
    Calls Try.prog 20 #[.slice a l c] w fun e w' => e = .returned (.tuple #[.int .u64 0, .int .i64 0, .int .i64 x]) ∧ Below w.heap.size w w' := by
  have hmf : ∀ (fn : Fn) (first cap : Array Value) (w : World), (Instr.makeFunc fn first cap).run Try.prog w = .ok (.func fn first cap) w := fun _ _ _ _ => rfl
  have hr0 : Reads (w.alloc (.cells #[.bool true, .slice a l c, .int .i64 0, .int .i64 0] 116)) (.slice a l c) bs := hr.new (World.grownBy_alloc w _ _)
  have hon := on_bad_u64 w.heap.size (.slice a l c) 0 x 72 #[.pointer (some ⟨w.heap.size, 0, none⟩)] #[] _ (rd_made _ w) enters_nextUint (fun w2 hg =>
    (nextUint_bad w.heap.size a l c bs 0 0 x w2 ((rd_made (.slice a l c) w).new hg) (hr0.new hg) (by omega) (by simpa using hrd)))
  go_enter Try.func20, Try.ntmps20
  go_wp2_with (go_at_call 70; refine (over_any a l c _).mono ?_; rintro e w' ⟨rfl, rfl⟩)
  refine hon.mono ?_
  rintro e w' ⟨rfl, hg, hR⟩
  have h2 := hR.at
  have h3 := hR.err
  go_wp2
  go_quiet (fail)
  go_wp2
  go_ret3
  exact ⟨rfl, gbelow (gdrewN (gnew (World.grownBy_alloc w _ none) hg (by simp)) _) (Nat.le_refl _) (by simp)⟩

/-! ### The reader's calls -/
set_option maxHeartbeats 1000000 in
theorem rUint_ok (r : Nat) (a : Option Addr) (l c : Nat) (bs : List UInt8) (pos n m : Nat) (w : World) (hR : Rd w r (.slice a l c) pos 0) (hr : Reads w (.slice a l c) bs) (hs : pos ≤ bs.length) (hrd : rd 0 0 (bs.drop pos) = .ok (n, m)) :
    Calls Try.prog 38 #[.pointer (some ⟨r, 0, none⟩)] w fun e w' => e = .returned (.int .u64 (n : Int)) ∧ w.grownBy w' (some r) ∧ Rd w' r (.slice a l c) (pos + m) 0 := by
  have hmf : ∀ (fn : Fn) (first cap : Array Value) (w : World), (Instr.makeFunc fn first cap).run Try.prog w = .ok (.func fn first cap) w := fun _ _ _ _ => rfl
  have hon := on_ok_u64 r (.slice a l c) pos 72 #[.pointer (some ⟨r, 0, none⟩)] #[] (fun v w' => v = .int .u64 (n : Int) ∧ Rd w' r (.slice a l c) (pos + m) 0) w hR enters_nextUint (fun w2 hg =>
    (nextUint_ok r a l c bs pos 0 n m w2 (hR.new hg) (hr.new hg) hs hrd).mono (by
      rintro e w3 ⟨rfl, hg3, hR3⟩
      exact ⟨_, rfl, ⟨rfl, hR3⟩, hg3⟩))
  go_enter Try.func38, Try.ntmps38
  go_wp2_with fail
  refine hon.mono ?_
  rintro e w' ⟨v, rfl, ⟨rfl, hR⟩, hg⟩
  go_wp2
  go_ret
  exact ⟨rfl, hg, hR⟩

set_option maxHeartbeats 1000000 in
theorem rUint_bad (r : Nat) (a : Option Addr) (l c : Nat) (bs : List UInt8) (pos : Nat) (x : Int) (w : World) (hR : Rd w r (.slice a l c) pos 0) (hr : Reads w (.slice a l c) bs) (hs : pos ≤ bs.length) (hrd : rd 0 0 (bs.drop pos) = .error x) :
    Calls Try.prog 38 #[.pointer (some ⟨r, 0, none⟩)] w fun e w' => e = .returned (.int .u64 0) ∧ w.grownBy w' (some r) ∧ Rd w' r (.slice a l c) pos x := by
  have hmf : ∀ (fn : Fn) (first cap : Array Value) (w : World), (Instr.makeFunc fn first cap).run Try.prog w = .ok (.func fn first cap) w := fun _ _ _ _ => rfl
  have hon := on_bad_u64 r (.slice a l c) pos x 72 #[.pointer (some ⟨r, 0, none⟩)] #[] w hR enters_nextUint (fun w2 hg =>
    (nextUint_bad r a l c bs pos 0 x w2 (hR.new hg) (hr.new hg) hs hrd))
  go_enter Try.func38, Try.ntmps38
  go_wp2_with fail
  refine hon.mono ?_
  rintro e w' ⟨rfl, hg, hR⟩
  go_wp2
  go_ret
  exact ⟨rfl, hg, hR⟩

set_option maxHeartbeats 1000000 in
theorem done_err (r : Nat) (vb : Value) (pos : Nat) (er : Int) (w : World) (hR : Rd w r vb pos er) (he : er ≠ 0) :
    Calls Try.prog 36 #[.pointer (some ⟨r, 0, none⟩)] w fun e w' => e = .returned (.int .i64 er) ∧ w = w' := by
  have hne : (er != 0) = true := by simpa using he
  clear he
  go_enter Try.func36, Try.ntmps36
  go_wp2_with (go_at_call 48; refine (err_rd _ _ _ _ _ hR).mono ?_; rintro e w' ⟨rfl, rfl⟩)
  go_ret
  exact ⟨rfl, rfl⟩

set_option maxHeartbeats 1000000 in
theorem done_any (r : Nat) (a : Option Addr) (l c : Nat) (pos : Nat) (w : World) (hR : Rd w r (.slice a l c) pos 0) (_hl : pos ≤ l) :
    Calls Try.prog 36 #[.pointer (some ⟨r, 0, none⟩)] w fun e w' => e = .returned (.int .i64 (if pos < l then 22 else 0)) ∧ ∃ k, w' = w.drewN k := by
  have h1 := hR.bytes
  have h2 := hR.at
  by_cases hlt : pos < l
  · rw [if_pos hlt]
    go_enter Try.func36, Try.ntmps36
    go_wp2_with (go_at_call 48; refine (err_rd _ _ _ _ _ hR).mono ?_; rintro e w' ⟨rfl, rfl⟩)
    go_quiet (fail)
    go_wp2
    go_ret
    exact ⟨rfl, _, rfl⟩
  · rw [if_neg hlt]
    go_enter Try.func36, Try.ntmps36
    go_wp2_with (go_at_call 48; refine (err_rd _ _ _ _ _ hR).mono ?_; rintro e w' ⟨rfl, rfl⟩)
    go_quiet (fail)
    go_wp2
    go_ret
    exact ⟨rfl, _, rfl⟩

set_option maxHeartbeats 1000000 in
theorem at_any (r : Nat) (vb : Value) (pos : Nat) (er : Int) (w : World) (hR : Rd w r vb pos er) :
    Calls Try.prog 37 #[.pointer (some ⟨r, 0, none⟩)] w fun e w' => e = .returned (.int .i64 (pos : Int)) ∧ w = w' := by
  have h2 := hR.at
  go_enter Try.func37, Try.ntmps37
  go_wp2_with (go_at_call 86; refine (isMade_rd _ _ _ _ _ hR).mono ?_; rintro e w' ⟨rfl, rfl⟩)
  go_ret
  exact ⟨rfl, rfl⟩
end Go.Proofs.Ytilbccjgaaembaa
