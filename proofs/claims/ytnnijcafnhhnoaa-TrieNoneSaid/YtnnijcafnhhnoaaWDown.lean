
/-
  LAYER 7 (weight): goesDown.
-/
import Derived.Test.YtnnijcafnhhnoaaWLeaf
namespace Go.Proofs.Ytnnijcafnhhnoaa
set_option maxRecDepth 100000
open Go.RowKit Go.Lib
attribute [local go_sem] Oper.semAt_some

set_option maxHeartbeats 4000000 in
theorem goesDown_any (x : El) (w : World) : Calls Try.prog 72 #[x.agg] w fun e w' => e = .returned (.bool (elDown x)) ∧ w.grownBy w' none := by
  have hl := fun w => level_any x w
  have hnew := fun w => ElAt.new w x
  obtain ⟨p, s, t, v⟩ := x
  obtain ⟨n, hn⟩ : ∃ n, n = elDown ⟨p, s, t, v⟩ := ⟨_, rfl⟩
  rw [← hn]
  unfold El.agg at *
  dsimp only at *
  replace hn := Lib.hid hn
  obtain ⟨k, hk⟩ : ∃ k, k = elLevel ⟨p, s, t, v⟩ := ⟨_, rfl⟩
  rw [← hk] at hl
  unfold elLevel at hk
  dsimp only at hk
  rcases (show p = 0 ∨ p ≠ 0 by omega) with rfl | hp
  all_goals rcases (show s = 0 ∨ s ≠ 0 by omega) with rfl | hs
  all_goals rcases (show t = 0 ∨ t ≠ 0 by omega) with rfl | ht
  all_goals simp [*] at hk
  all_goals subst hk
  all_goals cases v
  all_goals
    go_enter Try.func72, Try.ntmps72
    go_wp2_with (go_at_call 76; refine (hl _).mono ?_; rintro e w1 ⟨rfl, hg⟩; have h0 := (hnew w).kept hg (by simp); have c1 := h0.c1; have c2 := h0.c2; have c3 := h0.c3; dsimp only at c1 c2 c3; clear h0 hl hnew)
    go_ret
    refine ⟨?_, (World.grownBy_alloc w _ none).trans hg⟩
    rw [hn.out]
    simp [elDown, *]
end Go.Proofs.Ytnnijcafnhhnoaa
