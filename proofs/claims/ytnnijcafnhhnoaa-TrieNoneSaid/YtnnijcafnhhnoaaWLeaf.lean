
/-
  LAYER 7 (weight): leaves: which elements may be, levels.
-/
import Derived.Test.YtnnijcafnhhnoaaWPure
import Derived.Test.YtnnijcafnhhnoaaRows
import Derived.WalkKit
import Derived.WalkLawsBesides
import Derived.WalkSpells
import Derived.BigQuiet
import Derived.Laws.Pointers
import Derived.Deep.RegionWith
namespace Go.Proofs.Ytnnijcafnhhnoaa
set_option maxRecDepth 100000
open Go.RowKit Go.Lib
attribute [local go_sem] Oper.semAt_some

set_option maxHeartbeats 2000000 in
theorem level_any (x : El) (w : World) : Calls Try.prog 76 #[x.agg] w fun e w' => e = .returned (.int .i64 (elLevel x)) ∧ w.grownBy w' none := by
  obtain ⟨p, s, t, v⟩ := x
  obtain ⟨n, hn⟩ : ∃ n, n = elLevel ⟨p, s, t, v⟩ := ⟨_, rfl⟩
  rw [← hn]
  unfold El.agg
  dsimp only
  replace hn := Lib.hid hn
  by_cases hp : p = 0
  all_goals by_cases hs : s = 0
  all_goals by_cases ht : t = 0
  all_goals
    go_enter Try.func76, Try.ntmps76
    go_wp2
    go_ret
    exact ⟨by rw [hn.out]; simp [elLevel, *], World.grownBy_alloc w _ none⟩

set_option maxHeartbeats 4000000 in
theorem inLimits_any (x : El) (w : World) : Calls Try.prog 71 #[x.agg] w fun e w' => e = .returned (.bool (elLim x)) ∧ w.grownBy w' none := by
  obtain ⟨p, s, t, v⟩ := x
  obtain ⟨n, hn⟩ : ∃ n, n = elLim ⟨p, s, t, v⟩ := ⟨_, rfl⟩
  rw [← hn]
  unfold El.agg
  dsimp only
  replace hn := Lib.hid hn
  have key : p < 0 ∨ (0 ≤ p ∧ 64256 ≤ p) ∨ (0 ≤ p ∧ p < 64256 ∧ s < 0) ∨ (0 ≤ p ∧ p < 64256 ∧ 0 ≤ s ∧ 511 < s) ∨ (0 ≤ p ∧ p < 64256 ∧ 0 ≤ s ∧ s ≤ 511 ∧ t < 0) ∨ (0 ≤ p ∧ p < 64256 ∧ 0 ≤ s ∧ s ≤ 511 ∧ 0 ≤ t ∧ 63 < t) ∨ (0 ≤ p ∧ p < 64256 ∧ 0 ≤ s ∧ s ≤ 511 ∧ 0 ≤ t ∧ t ≤ 63) := by omega
  rcases key with h | ⟨h, h1⟩ | ⟨h, h1, h2⟩ | ⟨h, h1, h2, h3⟩ | ⟨h, h1, h2, h3, h4⟩ | ⟨h, h1, h2, h3, h4, h5⟩ | ⟨h, h1, h2, h3, h4, h5⟩
  all_goals
    go_enter Try.func71, Try.ntmps71
    go_wp2
    go_ret
    refine ⟨?_, World.grownBy_alloc w _ none⟩
    rw [hn.out]
    simp [elLim, *]
    try omega

end Go.Proofs.Ytnnijcafnhhnoaa
