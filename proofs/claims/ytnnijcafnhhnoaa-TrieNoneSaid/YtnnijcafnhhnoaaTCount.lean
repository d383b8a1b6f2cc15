/-
  LAYER 9 (trie): the counter of a trie that New made; how many entries.
-/
import Derived.Test.YtnnijcafnhhnoaaTLeaf
namespace Go.Proofs.Ytnnijcafnhhnoaa
set_option maxRecDepth 100000
open Go.RowKit Go.Lib
attribute [local go_sem] Oper.semAt_some

theorem load_any (t : Nat) (po : Option Addr) (ve : Value) (n : Int) (w : World) (h : TrAt w t po ve n) :
    Calls Try.prog 37 #[.pointer (some ⟨t, 2, none⟩)] w fun e w' => e = .returned (.int .i64 n) ∧ w = w' := by
  have c2 := h.c2
  have hr : (callFunc 48 #[.pointer (some ⟨t, 2, none⟩)]).run Try.prog w = .ok (.value (.int .i64 n)) w :=
    run_call_load Try.func48 (by kernel_rfl) (by kernel_rfl) (by kernel_rfl) .i64 (by kernel_rfl) c2
  clear h
  go_enter Try.func37, Try.ntmps37
  go_wp2
  go_ret
  exact ⟨rfl, rfl⟩
theorem count_made (t rt : Nat) (ve : Value) (n : Int) (w : World) (h : TrAt w t (some ⟨rt, 0, none⟩) ve n) (h0 : 0 ≤ n) (h1 : n < 4611686018427387904) :
    Calls Try.prog 31 #[.pointer (some ⟨t, 0, none⟩)] w fun e w' => e = .returned (.tuple #[]) ∧ w' = w.setCell ⟨t, 2, none⟩ (.int .i64 (n + 1)) := by
  have hm := isMade_made t rt ve n w h
  have hA := add_any t _ ve n w h h0 h1
  clear h
  go_enter Try.func31, Try.ntmps31
  go_wp2_with (first
    | (go_at_call 30; refine hm.mono ?_; rintro e w' ⟨rfl, rfl⟩)
    | (go_at_call 45; refine hA.mono ?_; rintro e w' ⟨rfl, rfl⟩))
  go_end0
  exact ⟨rfl, rfl⟩
theorem len_made (t rt : Nat) (a : Option Addr) (l c : Nat) (n : Int) (w : World) (h : TrAt w t (some ⟨rt, 0, none⟩) (.slice a l c) n) :
    Calls Try.prog 11 #[.pointer (some ⟨t, 0, none⟩)] w fun e w' => e = .returned (.int .i64 (l : Int)) ∧ w = w' := by
  have hm := isMade_made t rt _ n w h
  have c1 := h.c1
  clear h
  go_enter Try.func11, Try.ntmps11
  go_wp2_with (go_at_call 30; refine hm.mono ?_; rintro e w' ⟨rfl, rfl⟩)
  go_ret
  exact ⟨rfl, rfl⟩
theorem asked_made (t rt : Nat) (ve : Value) (n : Int) (w : World) (h : TrAt w t (some ⟨rt, 0, none⟩) ve n) :
    Calls Try.prog 15 #[.pointer (some ⟨t, 0, none⟩)] w fun e w' => e = .returned (.int .i64 n) ∧ w = w' := by
  have hm := isMade_made t rt ve n w h
  have hL := load_any t _ ve n w h
  clear h
  go_enter Try.func15, Try.ntmps15
  go_wp2_with (first
    | (go_at_call 30; refine hm.mono ?_; rintro e w' ⟨rfl, rfl⟩)
    | (go_at_call 37; refine hL.mono ?_; rintro e w' ⟨rfl, rfl⟩))
  go_ret
  exact ⟨rfl, rfl⟩
end Go.Proofs.Ytnnijcafnhhnoaa
