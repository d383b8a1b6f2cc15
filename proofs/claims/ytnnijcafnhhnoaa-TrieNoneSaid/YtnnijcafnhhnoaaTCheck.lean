/-
  LAYER 9 (trie): which entries may be: check.
-/
import Derived.Test.YtnnijcafnhhnoaaTCopy
namespace Go.Proofs.Ytnnijcafnhhnoaa
set_option maxRecDepth 100000
open Go.RowKit Go.Lib
attribute [local go_sem] Oper.semAt_some

/-- Why an entry may not be; 0: it may. -/
def entErr (x : Ent) : Int := if x.codes.length = 0 ∨ 8 < x.codes.length ∨ x.codes.all scal = false then 90 else if 16 < x.els.length then 2 else if x.els.all elOk = false then 70 else 0

set_option maxHeartbeats 4000000 in
theorem tcheck_any (P : Nat → Prop) (vc ve : Value) (x : Ent) (w : World) (h : EntR P w vc ve x) :
    Calls Try.prog 42 #[.agg #[vc, ve]] w fun e w' => e = .returned (.int .i64 (entErr x)) ∧ w.grownBy w' none := by
  have gA := World.grownBy_alloc w (.cells #[vc, ve] 35) none
  have eA : Two (w.alloc (.cells #[vc, ve] 35)) w.heap.size vc ve := World.alloc_heap_new w _
  have hR := fun (h1 : x.codes.length < 1099511627776) w' (g : w.grownBy w' none) => contains_rc P vc x.codes w' (h.1.new g) h1
  have hE := fun (h2 : x.els.length < 1099511627776) w' (g : w.grownBy w' none) => contains_ec P ve x.els w' (h.2.new g) h2
  obtain ⟨a, c, rfl, hc, hm⟩ := h.1.form
  obtain ⟨b, d, rfl, hd, hm2⟩ := h.2.form
  obtain ⟨r, hr⟩ : ∃ r, r = entErr x := ⟨_, rfl⟩
  rw [← hr]
  unfold entErr at hr
  clear h
  generalize x.codes.length = n at hR gA eA hr hc ⊢
  generalize x.els.length = m at hE gA eA hr hd ⊢
  generalize x.codes.all scal = bc at hR hr
  generalize x.els.all elOk = be at hE hr
  have c0 := eA.c0
  have c1 := eA.c1
  have q1 := fun w' (g : (w.alloc (.cells #[.slice a n c, .slice b m d] 35)).grownBy w' none) => (eA.new g).c1
  unfold maxLen at hm hm2
  obtain ⟨W, hW⟩ : ∃ W, W = w.alloc (.cells #[.slice a n c, .slice b m d] 35) := ⟨_, rfl⟩
  rw [← hW] at gA c0 c1 q1
  clear eA
  by_cases k0 : n = 0
  · subst k0
    obtain rfl : r = 90 := by rw [hr]; simp
    clear hr hR hE q1
    go_enter Try.func42, Try.ntmps42
    go_wp2_with fail
    rw [← hW]
    clear hW
    go_wp2
    go_ret
    exact ⟨rfl, gA⟩
  have k0b : ((n : Int) == 0) = false := by simp; omega
  by_cases k1 : 8 < n
  · obtain rfl : r = 90 := by rw [hr]; simp [k1]
    clear hr hR hE q1
    go_enter Try.func42, Try.ntmps42
    go_wp2_with fail
    rw [← hW]
    clear hW
    go_wp2
    go_ret
    exact ⟨rfl, gA⟩
  have k1b : decide (8 < (n : Int)) = false := by simp; omega
  cases bc with
  | false =>
    obtain rfl : r = 90 := by rw [hr]; simp
    clear hr hE q1
    go_enter Try.func42, Try.ntmps42
    go_wp2_with fail
    rw [← hW]
    clear hW
    go_wp2_with (go_at_call 51; refine (hR (by omega) _ gA).mono ?_; rintro e w1 ⟨rfl, g1⟩)
    go_ret
    exact ⟨rfl, gA.trans g1⟩
  | true =>
    rw [if_neg (by simp; omega)] at hr
    by_cases k2 : 16 < m
    · obtain rfl : r = 2 := by rw [hr, if_pos k2]
      clear hr hE
      go_enter Try.func42, Try.ntmps42
      go_wp2_with fail
      rw [← hW]
      clear hW
      go_wp2_with (go_at_call 51; refine (hR (by omega) _ gA).mono ?_; rintro e w1 ⟨rfl, g1⟩; have d1 := q1 _ g1)
      go_ret
      exact ⟨rfl, gA.trans g1⟩
    rw [if_neg k2] at hr
    cases be
    all_goals
      simp at hr
      subst hr
      go_enter Try.func42, Try.ntmps42
      go_wp2_with fail
      rw [← hW]
      clear hW
      go_wp2_with first
        | (go_at_call 51; refine (hR (by omega) _ gA).mono ?_; rintro e w1 ⟨rfl, g1⟩; have d1 := q1 _ g1)
        | (go_at_call 53; refine (hE (by omega) _ (gA.trans g1)).mono ?_; rintro e w2 ⟨rfl, g2⟩)
      go_ret
      exact ⟨rfl, (gA.trans g1).trans g2⟩
theorem ent_fine {x : Ent} (h : entErr x = 0) : 1 ≤ x.codes.length ∧ x.codes.length ≤ 8 ∧ x.codes.all scal = true ∧ x.els.length ≤ 16 ∧ x.els.all elOk = true := by
  unfold entErr at h
  split at h
  · cases h
  · rename_i h1
    split at h
    · cases h
    · rename_i h2
      split at h
      · cases h
      · rename_i h3
        refine ⟨?_, ?_, ?_, by omega, by simpa using h3⟩
        · have : ¬ x.codes.length = 0 := fun e => h1 (.inl e)
          omega
        · have : ¬ 8 < x.codes.length := fun e => h1 (.inr (.inl e))
          omega
        · have : ¬ x.codes.all scal = false := fun e => h1 (.inr (.inr e))
          simpa using this
end Go.Proofs.Ytnnijcafnhhnoaa
