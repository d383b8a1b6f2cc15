/-
  LAYER 9 (trie), plain: the longest entry by the two ways.
-/
import Derived.Test.YtnnijcafnhhnoaaTRefG
namespace Go.Proofs.Ytnnijcafnhhnoaa
set_option maxRecDepth 100000

theorem lg_spec (p : List Int) : ∀ (rest done : List Ent) (s : Nat × Option Ent),
    ((s = (0, none) ∧ ∀ y ∈ done, y.codes <+: p → y.codes.length = 0) ∨ ∃ x ∈ done, s = (x.codes.length, some x) ∧ x.codes <+: p ∧ ∀ y ∈ done, y.codes <+: p → y.codes.length ≤ x.codes.length) →
    ((lg p s rest = (0, none) ∧ ∀ y ∈ done ++ rest, y.codes <+: p → y.codes.length = 0) ∨ ∃ x ∈ done ++ rest, lg p s rest = (x.codes.length, some x) ∧ x.codes <+: p ∧ ∀ y ∈ done ++ rest, y.codes <+: p → y.codes.length ≤ x.codes.length)
  | [], done, s, h => by simpa [lg] using h
  | z :: rest, done, s, h => by
    have ih := lg_spec p rest (done ++ [z]) (lgStep p s z) (by
      unfold lgStep
      by_cases hz : z.codes <+: p ∧ s.1 < z.codes.length
      · rw [if_pos hz]
        right
        refine ⟨z, by simp, rfl, hz.1, fun y hy hp => ?_⟩
        rcases List.mem_append.1 hy with hy | hy
        · rcases h with ⟨rfl, h2⟩ | ⟨x, _, rfl, _, h2⟩
          · have := h2 y hy hp; omega
          · have := h2 y hy hp
            have := hz.2
            dsimp only at this
            omega
        · simp at hy; subst hy; omega
      · rw [if_neg hz]
        rcases h with ⟨rfl, h2⟩ | ⟨x, hx, rfl, h3, h2⟩
        · left
          refine ⟨rfl, fun y hy hp => ?_⟩
          rcases List.mem_append.1 hy with hy | hy
          · exact h2 y hy hp
          · simp at hy
            subst hy
            by_cases e : y.codes.length = 0
            · exact e
            · exact absurd ⟨hp, by dsimp only; omega⟩ hz
        · right
          refine ⟨x, by simp [hx], rfl, h3, fun y hy hp => ?_⟩
          rcases List.mem_append.1 hy with hy | hy
          · exact h2 y hy hp
          · simp at hy
            subst hy
            by_cases e : y.codes.length ≤ x.codes.length
            · exact e
            · exact absurd ⟨hp, by dsimp only; omega⟩ hz)
    rw [List.append_assoc] at ih
    have e : lg p s (z :: rest) = lg p (lgStep p s z) rest := rfl
    rw [e]
    exact ih

theorem last_spec (L : List Ent) (p : List Int) : ∀ m, m ≤ p.length + 1 →
    (lastEnt L p m = none ∧ ∀ y ∈ L, y.codes <+: p → m ≤ y.codes.length) ∨ ∃ x ∈ L, lastEnt L p m = some x ∧ x.codes <+: p ∧ x.codes.length < m ∧ ∀ y ∈ L, y.codes <+: p → y.codes.length < m → y.codes.length ≤ x.codes.length
  | 0, _ => .inl ⟨rfl, fun _ _ _ => Nat.zero_le _⟩
  | m + 1, hm => by
    rw [lastEnt]
    cases hf : findEnt L (p.take m) with
    | some x =>
      right
      have hx : x ∈ L := List.mem_of_find?_eq_some hf
      have hp : x.codes = p.take m := by simpa using List.find?_some hf
      have hl : x.codes.length = m := by rw [hp, List.length_take]; omega
      exact ⟨x, hx, rfl, by rw [hp]; exact List.take_prefix _ _, by omega, fun y _ _ h => by omega⟩
    | none =>
      have hno : ∀ y ∈ L, y.codes <+: p → y.codes.length ≠ m := fun y hy hp e => by
        have h2 : y.codes = p.take m := by rw [← e]; exact List.prefix_iff_eq_take.1 hp
        have := List.find?_eq_none.1 hf y hy
        simp [h2] at this
      rcases last_spec L p m (by omega) with ⟨h1, h2⟩ | ⟨x, hx, h1, h2, h3, h4⟩
      · left
        refine ⟨by rw [h1]; rfl, fun y hy hp => ?_⟩
        have := h2 y hy hp
        have := hno y hy hp
        omega
      · right
        refine ⟨x, hx, by rw [h1]; rfl, h2, by omega, fun y hy hp hl => ?_⟩
        have := hno y hy hp
        exact h4 y hy hp (by omega)

theorem lg_last {L : List Ent} (hg : Good L) (p : List Int) : (lastEnt L p (p.length + 1) = none ∧ lg p (0, none) L = (0, none)) ∨ ∃ x ∈ L, lastEnt L p (p.length + 1) = some x ∧ lg p (0, none) L = (x.codes.length, some x) := by
  have hA := lg_spec p L [] (0, none) (.inl ⟨rfl, fun y hy => by cases hy⟩)
  rw [List.nil_append] at hA
  rcases last_spec L p (p.length + 1) (Nat.le_refl _) with ⟨h1, h2⟩ | ⟨x, hx, h1, h2, h3, h4⟩
  · left
    refine ⟨h1, ?_⟩
    rcases hA with ⟨h, _⟩ | ⟨y, hy, _, hp, _⟩
    · exact h
    · have := h2 y hy hp
      have := hp.length_le
      omega
  · right
    refine ⟨x, hx, h1, ?_⟩
    rcases hA with ⟨_, h⟩ | ⟨y, hy, h5, hp, h6⟩
    · have := h x hx h2
      have := (ent_fine (hg.ent x hx)).1
      omega
    · have q1 := h6 x hx h2
      have q2 := h4 y hy hp (by have := hp.length_le; omega)
      have hl : y.codes.length = x.codes.length := by omega
      have hc : y.codes = x.codes := by
        rw [List.prefix_iff_eq_take.1 hp, List.prefix_iff_eq_take.1 h2, hl]
      have e1 := hg.find hx
      have e2 := hg.find hy
      rw [hc, e1] at e2
      cases e2
      exact h5
end Go.Proofs.Ytnnijcafnhhnoaa
