/-
  LAYER 2 (codec): the reference's reader: Done, Take.
-/
import Derived.Test.YtilbccjgaaembaaCRefRd
namespace Go.Proofs.Ytilbccjgaaembaa
set_option maxRecDepth 100000
open Go.RowKit Go.Lib

set_option maxHeartbeats 1000000 in
theorem qDone_err (r : Nat) (vb : Value) (pos : Nat) (er : Int) (w : World) (hR : Rq w r vb pos er) (he : er ≠ 0) :
    Calls Try.prog 49 #[.pointer (some ⟨r, 0, none⟩)] w fun e w' => e = .returned (.int .i64 er) ∧ ∃ k, w' = w.drewN k := by
  have h2 := hR.err
  have he0 : (er == 0) = false := by simpa using he
  clear he
  go_enter Try.func49, Try.ntmps49
  go_wp2
  go_quiet (fail)
  go_wp2
  go_ret
  exact ⟨rfl, _, rfl⟩

set_option maxHeartbeats 1000000 in
theorem qDone_any (r : Nat) (a : Option Addr) (l c : Nat) (pos : Nat) (w : World) (hR : Rq w r (.slice a l c) pos 0) (_hl : pos ≤ l) :
    Calls Try.prog 49 #[.pointer (some ⟨r, 0, none⟩)] w fun e w' => e = .returned (.int .i64 (if pos < l then 22 else 0)) ∧ ∃ k, w' = w.drewN k := by
  have h0 := hR.bytes
  have h1 := hR.at
  have h2 := hR.err
  by_cases hlt : pos < l
  · rw [if_pos hlt]
    go_enter Try.func49, Try.ntmps49
    go_wp2
    go_quiet (fail)
    go_wp2
    go_ret
    exact ⟨rfl, _, rfl⟩
  · rw [if_neg hlt]
    go_enter Try.func49, Try.ntmps49
    go_wp2
    go_quiet (fail)
    go_wp2
    go_ret
    exact ⟨rfl, _, rfl⟩

end Go.Proofs.Ytilbccjgaaembaa
