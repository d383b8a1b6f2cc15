/-
  LAYER 7 (weight): Compare, both.
-/
import Derived.Test.YtjdpnklnhiigpaaWLeaf
import Derived.Deep.DeepCutAuto
import Derived.Deep.RegionHeld3
import Derived.Deep.QuietTactic
namespace Go.Proofs.Ytjdpnklnhiigpaa
set_option maxRecDepth 100000
open Go.RowKit Go.Lib
attribute [local go_sem] Oper.semAt_some

set_option maxHeartbeats 4000000 in
theorem refCompare_any (x y : El) (w : World) : Calls Try.prog 12 #[x.agg, y.agg] w fun e w' => e = .returned (.int .i64 (elCmp x y)) ∧ w.grownBy w' none := by
  have hp := fun w => sign_int x.p y.p w
  have hs := fun w => sign_int x.s y.s w
  have ht := fun w => sign_int x.t y.t w
  obtain ⟨p, s, t, v⟩ := x
  obtain ⟨p2, s2, t2, v2⟩ := y
  obtain ⟨n, hn⟩ : ∃ n, n = elCmp ⟨p, s, t, v⟩ ⟨p2, s2, t2, v2⟩ := ⟨_, rfl⟩
  rw [← hn]
  unfold elCmp at hn
  dsimp only at hn hp hs ht
  unfold El.agg
  dsimp only
  obtain ⟨a, ha⟩ : ∃ a, a = sgn p p2 := ⟨_, rfl⟩
  obtain ⟨b, hb⟩ : ∃ b, b = sgn s s2 := ⟨_, rfl⟩
  obtain ⟨c, hc⟩ : ∃ c, c = sgn t t2 := ⟨_, rfl⟩
  rw [← ha, ← hb, ← hc] at hn
  rw [← ha] at hp
  rw [← hb] at hs
  rw [← hc] at ht
  clear ha hb hc
  replace hn := Lib.hid hn
  rcases (show a = 0 ∨ a ≠ 0 by omega) with rfl | ha
  all_goals rcases (show b = 0 ∨ b ≠ 0 by omega) with rfl | hb
  all_goals
    go_enter Try.func12, Try.ntmps12
    go_wp2_with (first
      | (go_at_call_of 24 (Value.int IntKind.i64 p); refine (hp _).mono ?_; rintro e w1 ⟨rfl, rfl⟩)
      | (go_at_call_of 24 (Value.int IntKind.i64 s); refine (hs _).mono ?_; rintro e w1 ⟨rfl, rfl⟩)
      | (go_at_call_of 24 (Value.int IntKind.i64 t); refine (ht _).mono ?_; rintro e w1 ⟨rfl, rfl⟩))
    go_ret
    refine ⟨?_, galloc (World.grownBy_alloc w _ none) _⟩
    rw [hn.out]
    simp [*]
end Go.Proofs.Ytjdpnklnhiigpaa
