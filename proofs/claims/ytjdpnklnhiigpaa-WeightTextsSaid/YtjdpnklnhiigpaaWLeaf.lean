/-
  LAYER 7 (weight): leaves: which elements may be, levels.
-/
import Derived.Test.YtjdpnklnhiigpaaWPure
import Derived.Test.YtjdpnklnhiigpaaRows
import Derived.WalkKit
import Derived.WalkLawsBesides
import Derived.WalkSpells
import Derived.BigQuiet
import Derived.Laws.Pointers
import Derived.Deep.RegionWith
namespace Go.Proofs.Ytjdpnklnhiigpaa
set_option maxRecDepth 100000
open Go.RowKit Go.Lib
attribute [local go_sem] Oper.semAt_some

theorem nan_any (x : Int) (w : World) : Calls Try.prog 33 #[.int .i64 x] w fun e w' => e = .returned (.bool false) ∧ w = w' := by
  go_enter Try.func33, Try.ntmps33
  go_wp2
  go_ret
  exact ⟨rfl, rfl⟩

theorem compare_int (a b : Int) (w : World) : Calls Try.prog 23 #[.int .i64 a, .int .i64 b] w fun e w' => e = .returned (.int .i64 (sgn a b)) ∧ w = w' := by
  obtain ⟨n, hn⟩ : ∃ n, n = sgn a b := ⟨_, rfl⟩
  rw [← hn]
  replace hn := Lib.hid hn
  by_cases h1 : a < b
  all_goals by_cases h2 : b < a
  all_goals (try omega)
  all_goals
    go_enter Try.func23, Try.ntmps23
    go_wp2_with (go_at_call 33; refine (nan_any _ _).mono ?_; rintro e w' ⟨rfl, rfl⟩)
  all_goals
    go_ret
    refine ⟨?_, rfl⟩
    rw [hn.out]
    unfold sgn
    simp [h1, h2]
    try omega
theorem sign_int (a b : Int) (w : World) : Calls Try.prog 24 #[.int .i64 a, .int .i64 b] w fun e w' => e = .returned (.int .i64 (sgn a b)) ∧ w = w' := by
  obtain ⟨n, hn⟩ : ∃ n, n = sgn a b := ⟨_, rfl⟩
  rw [← hn]
  replace hn := Lib.hid hn
  by_cases h1 : a < b
  all_goals by_cases h2 : b < a
  all_goals (try omega)
  all_goals
    go_enter Try.func24, Try.ntmps24
    go_wp2_with (go_at_call 33; refine (nan_any _ _).mono ?_; rintro e w' ⟨rfl, rfl⟩)
  all_goals
    go_ret
    refine ⟨?_, rfl⟩
    rw [hn.out]
    unfold sgn
    simp [h1, h2]
    try omega

set_option maxHeartbeats 2000000 in
theorem level_any (x : El) (w : World) : Calls Try.prog 9 #[x.agg] w fun e w' => e = .returned (.int .i64 (elLevel x)) ∧ w.grownBy w' none := by
  obtain ⟨p, s, t, v⟩ := x
  obtain ⟨n, hn⟩ : ∃ n, n = elLevel ⟨p, s, t, v⟩ := ⟨_, rfl⟩
  rw [← hn]
  unfold El.agg
  dsimp only
  replace hn := Lib.hid hn
  by_cases hp : p = 0
  all_goals by_cases hs : s = 0
  all_goals by_cases ht : t = 0
  all_goals
    go_enter Try.func9, Try.ntmps9
    go_wp2
    go_ret
    exact ⟨by rw [hn.out]; simp [elLevel, *], World.grownBy_alloc w _ none⟩

theorem refLevel_any (x : El) (w : World) : Calls Try.prog 10 #[x.agg] w fun e w' => e = .returned (.int .i64 (elLevel x)) ∧ w.grownBy w' none := by
  obtain ⟨p, s, t, v⟩ := x
  obtain ⟨n, hn⟩ : ∃ n, n = elLevel ⟨p, s, t, v⟩ := ⟨_, rfl⟩
  rw [← hn]
  unfold El.agg
  dsimp only
  replace hn := Lib.hid hn
  by_cases hp : p = 0
  all_goals by_cases hs : s = 0
  all_goals by_cases ht : t = 0
  all_goals
    go_enter Try.func10, Try.ntmps10
    go_wp2
    go_ret
    exact ⟨by rw [hn.out]; simp [elLevel, *], World.grownBy_alloc w _ none⟩

set_option maxHeartbeats 4000000 in
theorem inLimits_any (x : El) (w : World) : Calls Try.prog 20 #[x.agg] w fun e w' => e = .returned (.bool (elLim x)) ∧ w.grownBy w' none := by
  obtain ⟨p, s, t, v⟩ := x
  obtain ⟨n, hn⟩ : ∃ n, n = elLim ⟨p, s, t, v⟩ := ⟨_, rfl⟩
  rw [← hn]
  unfold El.agg
  dsimp only
  replace hn := Lib.hid hn
  have key : p < 0 ∨ (0 ≤ p ∧ 64256 ≤ p) ∨ (0 ≤ p ∧ p < 64256 ∧ s < 0) ∨ (0 ≤ p ∧ p < 64256 ∧ 0 ≤ s ∧ 511 < s) ∨ (0 ≤ p ∧ p < 64256 ∧ 0 ≤ s ∧ s ≤ 511 ∧ t < 0) ∨ (0 ≤ p ∧ p < 64256 ∧ 0 ≤ s ∧ s ≤ 511 ∧ 0 ≤ t ∧ 63 < t) ∨ (0 ≤ p ∧ p < 64256 ∧ 0 ≤ s ∧ s ≤ 511 ∧ 0 ≤ t ∧ t ≤ 63) := by omega
  rcases key with h | ⟨h, h1⟩ | ⟨h, h1, h2⟩ | ⟨h, h1, h2, h3⟩ | ⟨h, h1, h2, h3, h4⟩ | ⟨h, h1, h2, h3, h4, h5⟩ | ⟨h, h1, h2, h3, h4, h5⟩
  all_goals
    go_enter Try.func20, Try.ntmps20
    go_wp2
    go_ret
    refine ⟨?_, World.grownBy_alloc w _ none⟩
    rw [hn.out]
    simp [elLim, *]
    try omega

end Go.Proofs.Ytjdpnklnhiigpaa
