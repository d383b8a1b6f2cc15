
/-
  LAYER 7 (weight): Check, both.
-/
import Derived.Test.YtnnijcafnhhnoaaWDown
namespace Go.Proofs.Ytnnijcafnhhnoaa
set_option maxRecDepth 100000
open Go.RowKit Go.Lib
attribute [local go_sem] Oper.semAt_some

set_option maxHeartbeats 4000000 in
theorem check_any (x : El) (w : World) : Calls Try.prog 65 #[x.agg] w fun e w' => e = .returned (.int .i64 (elCheck x)) ∧ w.grownBy w' none := by
  have hl := fun w => inLimits_any x w
  have hd := fun w => goesDown_any x w
  have hnew := fun w => ElAt.new w x
  obtain ⟨n, hn⟩ : ∃ n, n = elCheck x := ⟨_, rfl⟩
  rw [← hn]
  unfold elCheck elOk at hn
  obtain ⟨b, hb⟩ : ∃ b, b = elLim x := ⟨_, rfl⟩
  obtain ⟨d, hd'⟩ : ∃ d, d = elDown x := ⟨_, rfl⟩
  rw [← hb] at hl hn
  rw [← hd'] at hd hn
  clear hb hd'
  obtain ⟨p, s, t, v⟩ := x
  unfold El.agg at *
  dsimp only at *
  cases b
  all_goals cases d
  all_goals
    obtain rfl := hn
    go_enter Try.func65, Try.ntmps65
    go_wp2_with (first
      | (go_at_call 71; refine (hl _).mono ?_; rintro e w1 ⟨rfl, hg⟩; have h0 := (hnew w).kept hg (by simp); have c0 := h0.c0; have c1 := h0.c1; have c2 := h0.c2; have c3 := h0.c3; dsimp only at c0 c1 c2 c3; clear h0)
      | (go_at_call 72; refine (hd _).mono ?_; rintro e w2 ⟨rfl, hg2⟩; have hg := hg.trans hg2; clear hg2))
    go_ret
    exact ⟨rfl, (World.grownBy_alloc w _ none).trans hg⟩
end Go.Proofs.Ytnnijcafnhhnoaa
