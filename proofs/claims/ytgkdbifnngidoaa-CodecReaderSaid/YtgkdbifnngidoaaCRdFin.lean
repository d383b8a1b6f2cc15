/-
  LAYER 2 (codec): CodecReader: every input.
-/
import Derived.Test.YtgkdbifnngidoaaCRdWalk
namespace Go.Proofs.Ytgkdbifnngidoaa
set_option maxRecDepth 100000
open Go.RowKit Go.Lib

set_option maxHeartbeats 1000000 in
theorem rdl_big (a : Option Addr) (l c : Nat) (b : Option Addr) (k m : Nat) (w : World) (hl : 5000 < l ∨ 200 < k) :
    Calls Try.prog 7 #[.slice a l c, .slice b k m] w fun e w' => e = .returned (.bool true) ∧ Below w.heap.size w w' := by
  by_cases h : 5000 < l
  · have h1 : decide ((5000 : Int) < (l : Int)) = true := by simpa using (by omega : (5000 : Int) < l)
    have h2 : decide (5000 < l) = true := by simpa using h
    clear hl h
    go_enter Try.func7, Try.ntmps7
    go_wp2_with (go_at_call 13; refine (awake_any _).mono ?_; rintro e w1 ⟨rfl, hg1⟩)
    go_ret
    exact ⟨rfl, gbelow hg1 (Nat.le_refl _) (by simp)⟩
  · have h0 : 200 < k := by omega
    have h1 : decide ((5000 : Int) < (l : Int)) = false := by simpa using (by omega : (l : Int) ≤ 5000)
    have h2 : decide (5000 < l) = false := by simpa using h
    have h3 : decide ((200 : Int) < (k : Int)) = true := by simpa using (by omega : (200 : Int) < k)
    have h4 : decide (200 < k) = true := by simpa using h0
    clear hl h h0
    go_enter Try.func7, Try.ntmps7
    go_wp2_with (go_at_call 13; refine (awake_any _).mono ?_; rintro e w1 ⟨rfl, hg1⟩)
    go_ret
    exact ⟨rfl, gbelow hg1 (Nat.le_refl _) (by simp)⟩

theorem CodecReader_walk (w : World) (a : Option Addr) (l c : Nat) (bs : List UInt8) (hr : Reads w (.slice a l c) bs) (b : Option Addr) (k m : Nat) (L : List (Int × Int)) (hp : Pairs w (.slice b k m) L) :
    Calls Try.prog 7 #[.slice a l c, .slice b k m] w fun e w' => e = .returned (.bool true) ∧ Below w.heap.size w w' := by
  by_cases h : l ≤ 5000 ∧ k ≤ 200
  · exact rd_law a l c bs b k m L w hr hp (by have := hr.slice.1; omega) (by have := hp.slice.1; omega)
  · exact rdl_big a l c b k m w (by omega)
end Go.Proofs.Ytgkdbifnngidoaa
