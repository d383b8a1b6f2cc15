/-
  LAYER 2 (codec): LEAVES: isMade, Err, over, next.
-/
import Derived.Test.YtilbccjgaaembaaCBase
import Derived.Test.YtilbccjgaaembaaRows
import Derived.WalkKit
import Derived.WalkSpells
import Derived.WalkLawsBesides
import Derived.BigQuiet
import Derived.Deep.QuietTactic
namespace Go.Proofs.Ytilbccjgaaembaa
set_option maxRecDepth 100000
open Go.RowKit Go.Lib

set_option maxHeartbeats 400000 in
theorem isMade_rd (r : Nat) (vb : Value) (pos : Nat) (err : Int) (w : World) (h : Rd w r vb pos err) :
    Calls Try.prog 86 #[.pointer (some ⟨r, 0, none⟩)] w fun e w' => e = .returned (.bool true) ∧ w = w' := by
  have h0 := h.made
  go_enter Try.func86, Try.ntmps86
  go_wp2
  go_ret
  exact ⟨rfl, rfl⟩

set_option maxHeartbeats 400000 in
theorem err_rd (r : Nat) (vb : Value) (pos : Nat) (err : Int) (w : World) (h : Rd w r vb pos err) :
    Calls Try.prog 48 #[.pointer (some ⟨r, 0, none⟩)] w fun e w' => e = .returned (.int .i64 err) ∧ w = w' := by
  have h3 := h.err
  go_enter Try.func48, Try.ntmps48
  go_wp2_with (go_at_call 86; refine (isMade_rd _ _ _ _ _ h).mono ?_; rintro e w' ⟨rfl, rfl⟩)
  go_ret
  exact ⟨rfl, rfl⟩

set_option maxHeartbeats 400000 in
theorem over_any (a : Option Addr) (l c : Nat) (w : World) :
    Calls Try.prog 70 #[.slice a l c] w fun e w' => e = .returned (.pointer (some ⟨w.heap.size, 0, none⟩)) ∧ w' = w.alloc (.cells #[.bool true, .slice a l c, .int .i64 0, .int .i64 0] 116) := by
  go_enter Try.func70, Try.ntmps70
  go_wp2
  go_ret
  exact ⟨rfl, rfl⟩

set_option maxHeartbeats 400000 in
theorem next_neg (r : Nat) (n : Int) (w : World) (hn : n < 0) :
    Calls Try.prog 90 #[.pointer (some ⟨r, 0, none⟩), .int .i64 n] w fun e w' => e = .panicked [{ v := .iface 131 (.int .i64 1), recovered := false }] ∧ w = w' := by
  go_enter Try.func90, Try.ntmps90
  go_wp2
  exact ⟨rfl, rfl, rfl⟩

set_option maxHeartbeats 400000 in
theorem next_short (r : Nat) (n : Int) (a : Option Addr) (len cap : Nat) (pos : Nat) (er : Int) (w : World) (hn : 0 ≤ n) (h : Rd w r (.slice a len cap) pos er) (hp : pos ≤ len) (hlen : len ≤ maxLen) (hs : (len : Int) - pos < n) :
    Calls Try.prog 90 #[.pointer (some ⟨r, 0, none⟩), .int .i64 n] w fun e w' => e = .panicked [{ v := .iface 131 (.int .i64 20), recovered := false }] ∧ ∃ k, w' = w.drewN k := by
  unfold maxLen at hlen
  have h1 := h.bytes
  have h2 := h.at
  go_enter Try.func90, Try.ntmps90
  go_wp2
  go_quiet (fail)
  go_wp2
  exact ⟨rfl, rfl, ⟨_, rfl⟩⟩

set_option maxHeartbeats 400000 in
theorem next_ok (r : Nat) (n : Nat) (a : Option Addr) (len cap : Nat) (bs : List UInt8) (pos : Nat) (er : Int) (w : World) (hR : Rd w r (.slice a len cap) pos er) (hr : Reads w (.slice a len cap) bs) (hs : pos + n ≤ bs.length) :
    Calls Try.prog 90 #[.pointer (some ⟨r, 0, none⟩), .int .i64 (n : Int)] w fun e w' => ∃ v, e = .returned v ∧ w.grownBy w' (some r) ∧ Rd w' r (.slice a len cap) (pos + n) er ∧ Reads w' v ((bs.drop pos).take n) ∧ (v.ownBlock = a.map (·.block)) := by
  obtain ⟨rfl, hc, hm⟩ := hr.slice
  unfold maxLen at hm
  have h1 := hR.bytes
  have h2 := hR.at
  have hf := hR.free 2
  go_enter Try.func90, Try.ntmps90
  go_wp2
  go_quiet (fail)
  go_wp2
  go_quiet (fail)
  go_wp2
  all_goals
    go_ret
    rename_i e1 k1 e2
    have hh := (hR.drewN k1).setAt (pos + n)
    have hg : w.grownBy (((w.drewN k1).setCell ⟨r, 2, none⟩ (.int .i64 ((pos + n : Nat) : Int))).drewN nq) (some r) := gdrewN (gset (gdrewN (World.grownBy.refl w _) _) _ _) _
    have hk : Reads (((w.drewN k1).setCell ⟨r, 2, none⟩ (.int .i64 ((pos + n : Nat) : Int))).drewN nq) (.slice a bs.length cap) bs := hR.carry hr hg
  · subst h
    obtain rfl : n = 0 := by omega
    exact ⟨.slice a 0 0, rfl, hg, hh, by simpa using hk.nothing, by cases a <;> rfl⟩
  · exact ⟨.slice (a.map fun x => x.add pos) n (cap - pos), rfl, hg, hh, hk.cut pos n hs, by cases a <;> simp [Value.ownBlock, Addr.add]; split <;> rfl⟩
end Go.Proofs.Ytilbccjgaaembaa
