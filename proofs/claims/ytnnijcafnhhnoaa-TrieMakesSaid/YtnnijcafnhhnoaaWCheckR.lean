
/-
  LAYER 7 (weight): the reference's Check.
-/
import Derived.Test.YtnnijcafnhhnoaaWLeaf
namespace Go.Proofs.Ytnnijcafnhhnoaa
set_option maxRecDepth 100000
open Go.RowKit Go.Lib
attribute [local go_sem] Oper.semAt_some

set_option maxHeartbeats 8000000 in
theorem refCheck_any (x : El) (w : World) : Calls Try.prog 29 #[x.agg] w fun e w' => e = .returned (.int .i64 (elCheck x)) ∧ w.grownBy w' none := by
  obtain ⟨p, s, t, v⟩ := x
  obtain ⟨n, hn⟩ : ∃ n, n = elCheck ⟨p, s, t, v⟩ := ⟨_, rfl⟩
  rw [← hn]
  unfold El.agg
  dsimp only
  replace hn := Lib.hid hn
  have key : p < 0 ∨ (0 ≤ p ∧ 65535 < p) ∨ (0 ≤ p ∧ p ≤ 65535 ∧ s < 0) ∨ (0 ≤ p ∧ p ≤ 65535 ∧ 0 ≤ s ∧ 511 < s) ∨ (0 ≤ p ∧ p ≤ 65535 ∧ 0 ≤ s ∧ s ≤ 511 ∧ t < 0) ∨ (0 ≤ p ∧ p ≤ 65535 ∧ 0 ≤ s ∧ s ≤ 511 ∧ 0 ≤ t ∧ 63 < t) ∨ (0 ≤ p ∧ p ≤ 65535 ∧ 0 ≤ s ∧ s ≤ 511 ∧ 0 ≤ t ∧ t ≤ 63) := by omega
  rcases key with h | ⟨h, h1⟩ | ⟨h, h1, h2⟩ | ⟨h, h1, h2, h3⟩ | ⟨h, h1, h2, h3, h4⟩ | ⟨h, h1, h2, h3, h4, h5⟩ | ⟨h, h1, h2, h3, h4, h5⟩
  case inr.inr.inr.inr.inr.inr =>
    have key2 : (p = 0 ∧ ¬ 64256 ≤ p) ∨ (p ≠ 0 ∧ ¬ 64256 ≤ p) ∨ (p ≠ 0 ∧ 64256 ≤ p) := by omega
    obtain ⟨bp, ep⟩ : ∃ b, (p == 0) = b := ⟨_, rfl⟩
    obtain ⟨bs, es⟩ : ∃ b, (s == 0) = b := ⟨_, rfl⟩
    obtain ⟨bt, et⟩ : ∃ b, (t == 0) = b := ⟨_, rfl⟩
    have np : (p != 0) = !bp := by rw [← ep]; rfl
    have ns : (s != 0) = !bs := by rw [← es]; rfl
    have hpq : bp = decide (p = 0) := by rw [← ep]; exact Bool.beq_eq_decide_eq p 0
    have hsq : bs = decide (s = 0) := by rw [← es]; exact Bool.beq_eq_decide_eq s 0
    have htq : bt = decide (t = 0) := by rw [← et]; exact Bool.beq_eq_decide_eq t 0
    replace hpq := Lib.hid hpq
    replace hsq := Lib.hid hsq
    replace htq := Lib.hid htq
    obtain ⟨bq, eq⟩ : ∃ b, decide (64256 ≤ p) = b := ⟨_, rfl⟩
    have hfin : n = if (bp && bs && !v || bp && !bs && !bt && !v || !bp && !bs && !bt && !bq) then 0 else 70 := by
      rw [hn.out, hpq.out, hsq.out, htq.out, ← eq]
      have e1 : decide (p < 64256) = !decide (64256 ≤ p) := by by_cases hh : 64256 ≤ p <;> simp [hh] <;> omega
      simp only [elCheck, elOk, elLim, elDown, h, h2, h3, h4, h5, e1]
      by_cases hp : p = 0
      all_goals by_cases hs : s = 0
      all_goals by_cases ht : t = 0
      all_goals by_cases hq : 64256 ≤ p
      all_goals cases v
      all_goals simp [hp, hs, ht, hq]
      all_goals omega
    replace hfin := Lib.hid hfin
    have hno : ¬ (bp = true ∧ bq = true) := by
      rintro ⟨rfl, rfl⟩
      simp at ep eq
      omega
    clear hpq hsq htq key2 hn
    have key3 : ∀ bp bs bt v bq : Bool, ¬ (bp = true ∧ bq = true) → (bp = false ∧ bs = true) ∨ (bp = false ∧ bs = false ∧ bt = true) ∨ (bp = false ∧ bs = false ∧ bt = false ∧ v = false ∧ bq = false) ∨ (bp = false ∧ bs = false ∧ bt = false ∧ v = false ∧ bq = true) ∨
        (bp = false ∧ bs = false ∧ bt = false ∧ v = true ∧ bq = false) ∨ (bp = false ∧ bs = false ∧ bt = false ∧ v = true ∧ bq = true) ∨ (bp = true ∧ bs = false ∧ bt = true) ∨ (bp = true ∧ bs = false ∧ bt = false ∧ v = true) ∨ (bp = true ∧ bs = false ∧ bt = false ∧ v = false ∧ bq = false) ∨
        (bp = true ∧ bs = true ∧ v = true) ∨ (bp = true ∧ bs = true ∧ v = false ∧ bq = false) := by
      intro bp bs bt v bq h
      cases bp <;> cases bs <;> cases bt <;> cases v <;> cases bq <;> simp at h ⊢
    have key4 := key3 bp bs bt v bq hno
    clear key3 hno
    rcases key4 with ⟨rfl, rfl⟩ | ⟨rfl, rfl, rfl⟩ | ⟨rfl, rfl, rfl, rfl, rfl⟩ | ⟨rfl, rfl, rfl, rfl, rfl⟩ | ⟨rfl, rfl, rfl, rfl, rfl⟩ | ⟨rfl, rfl, rfl, rfl, rfl⟩ | ⟨rfl, rfl, rfl⟩ | ⟨rfl, rfl, rfl, rfl⟩ | ⟨rfl, rfl, rfl, rfl, rfl⟩ | ⟨rfl, rfl, rfl⟩ | ⟨rfl, rfl, rfl, rfl⟩
    all_goals simp only [Bool.not_false, Bool.not_true] at np ns
    all_goals
      go_enter Try.func29, Try.ntmps29
      go_wp2
      go_ret
      exact ⟨by simp [hfin.out], World.grownBy_alloc w _ none⟩
  all_goals
    go_enter Try.func29, Try.ntmps29
    go_wp2
    go_ret
    refine ⟨?_, World.grownBy_alloc w _ none⟩
    rw [hn.out]
    simp [elCheck, elOk, elLim, *]
    try omega
end Go.Proofs.Ytnnijcafnhhnoaa
