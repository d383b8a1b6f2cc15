/-
  LAYER 1 (fs): the counter: Load, Store, Add; Ops.
-/
import Derived.Test.YtfgmaeaojkfakaaGreatFNew
import Derived.Laws.LoneSync
namespace Go.Proofs.YtfgmaeaojkfakaaGreat
set_option maxRecDepth 100000
open Go.RowKit Go.Lib
attribute [local go_sem] Oper.semAt_some
section
variable {w : World} {q : Nat} {dead : Bool} {p : PlV} {ops : Int} {d s : Nat} {mv : Value}
theorem FsAt.setOps (h : FsAt w q dead p ops d s mv) (x : Int) : FsAt (w.setCell ⟨q, 7, none⟩ (.int .i64 x)) q dead p x d s mv := heap_setCell_same w q 7 _ _ _ h
theorem FsAt.setDead (h : FsAt w q dead p ops d s mv) (x : Bool) : FsAt (w.setCell ⟨q, 1, none⟩ (.bool x)) q x p ops d s mv := heap_setCell_same w q 1 _ _ _ h

theorem load_fs (w : World) (h : FsAt w q dead p ops d s mv) :
    Calls Tryz.prog 65 #[.pointer (some ⟨q, 7, none⟩)] w fun e w' => e = .returned (.int .i64 ops) ∧ w = w' := by
  have h0 := h.count
  have hl := run_call_load (P := Tryz.prog) Tryz.func91 (by kernel_rfl) (by kernel_rfl) (by kernel_rfl) .i64 (by kernel_rfl) h0
  go_enter Tryz.func65, Tryz.ntmps65
  go_wp2_with (fail)
  go_ret
  exact ⟨rfl, rfl⟩

theorem store_fs (x : Int) (w : World) (h : FsAt w q dead p ops d s mv) :
    Calls Tryz.prog 63 #[.pointer (some ⟨q, 7, none⟩), .int .i64 x] w fun e w' => e = .returned (.tuple #[]) ∧ w' = w.setCell ⟨q, 7, none⟩ (.int .i64 x) := by
  have h0 := h.count
  have h1 := h.free 7
  have hl := run_call_store (P := Tryz.prog) Tryz.func90 (by kernel_rfl) (by kernel_rfl) (by kernel_rfl) (by kernel_rfl) (k := .i64) (y := x) h0 h1
  go_enter Tryz.func63, Tryz.ntmps63
  go_wp2_with (fail)
  go_end0
  exact ⟨rfl, rfl⟩

theorem add_fs (w : World) (h : FsAt w q dead p ops d s mv) (h0 : 0 ≤ ops) (h9 : ops < 4611686018427387904) :
    Calls Tryz.prog 84 #[.pointer (some ⟨q, 7, none⟩), .int .i64 1] w fun e w' => e = .returned (.int .i64 (ops + 1)) ∧ w' = w.setCell ⟨q, 7, none⟩ (.int .i64 (ops + 1)) := by
  have hc := h.count
  have h1 := h.free 7
  have hl := run_call_add (P := Tryz.prog) Tryz.func102 (by kernel_rfl) (by kernel_rfl) (by kernel_rfl) .i64 (by kernel_rfl) (y := 1) (s := ops + 1) hc h1 (by simp [go_sem]; exact IntWalk.i64_in _ (by omega))
  go_enter Tryz.func84, Tryz.ntmps84
  go_wp2_with (fail)
  go_ret
  exact ⟨rfl, rfl⟩

theorem ops_fs (w : World) (h : FsAt w q dead p ops d s mv) :
    Calls Tryz.prog 28 #[.pointer (some ⟨q, 0, none⟩)] w fun e w' => e = .returned (.int .i64 ops) ∧ w = w' := by
  go_enter Tryz.func28, Tryz.ntmps28
  go_wp2_with (first
    | (go_at_call 54; refine (isMade_fs _ h).mono ?_; rintro e w' ⟨rfl, rfl⟩)
    | (go_at_call 65; refine (load_fs _ h).mono ?_; rintro e w' ⟨rfl, rfl⟩))
  go_ret
  exact ⟨rfl, rfl⟩
end
end Go.Proofs.YtfgmaeaojkfakaaGreat
