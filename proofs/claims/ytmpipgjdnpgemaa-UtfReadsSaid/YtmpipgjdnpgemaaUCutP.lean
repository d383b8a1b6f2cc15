/-
  LAYER 4 (utf), plain: the longest beginning of whole forms.
-/
import Derived.Test.YtmpipgjdnpgemaaUWholeP
namespace Go.Proofs.Ytmpipgjdnpgemaa
set_option maxRecDepth 100000

def cutW : Nat → List (Nat × Nat) → Nat
  | _, [] => 0
  | m, (_, n) :: t => if n ≤ m then n + cutW (m - n) t else 0
/-- How many bytes the longest beginning of whole forms with at most m bytes has. -/
def cutAt (l : List UInt8) (m : Nat) : Nat := cutW m (rs l)
theorem cutAt_none {l : List UInt8} {m : Nat} (h : dec l = none) : cutAt l m = 0 := by rw [cutAt, rs_none h, cutW]
theorem cutAt_some {l : List UInt8} {m r n : Nat} (h : dec l = some (r, n)) : cutAt l m = if n ≤ m then n + cutAt (l.drop n) (m - n) else 0 := by rw [cutAt, rs_some h, cutW]; rfl

theorem cut_spec : ∀ (f : Nat) (l : List UInt8) (m : Nat), l.length ≤ f → valid l →
    cutAt l m ≤ m ∧ cutAt l m ≤ l.length ∧ (cutAt l m = l.length ∨ ∃ r n, dec (l.drop (cutAt l m)) = some (r, n) ∧ m < cutAt l m + n)
  | f, l, m, hf, hv => by
    cases hd : dec l with
    | none =>
      rw [cutAt_none hd]
      obtain rfl := (valid_none hd).1 hv
      exact ⟨Nat.zero_le _, Nat.zero_le _, .inl rfl⟩
    | some x =>
      obtain ⟨r, n⟩ := x
      have hs := dec_some hd
      rw [cutAt_some hd]
      by_cases hn : n ≤ m
      · rw [if_pos hn]
        cases f with
        | zero => omega
        | succ f =>
          obtain ⟨h1, h2, h3⟩ := cut_spec f (l.drop n) (m - n) (by simp; omega) ((valid_some hd).1 hv)
          rw [List.length_drop] at h2 h3
          refine ⟨by omega, by omega, ?_⟩
          rcases h3 with h3 | ⟨r', n', h3, h4⟩
          · left; omega
          · right
            rw [List.drop_drop] at h3
            exact ⟨r', n', h3, by omega⟩
      · rw [if_neg hn]
        refine ⟨Nat.zero_le _, Nat.zero_le _, .inr ⟨r, n, by simpa using hd, by omega⟩⟩

/-- Going back from the end: what lies between may only stand behind a form's first byte; where it stops doesn't. -/
theorem cut_back {l : List UInt8} (hv : valid l) (m : Nat) : cutAt l m ≤ min m l.length ∧ (∀ p, cutAt l m < p → p ≤ min m l.length → p < l.length ∧ cont (l.getD p 0) = true) ∧ (cutAt l m < l.length → cont (l.getD (cutAt l m) 0) = false) := by
  obtain ⟨h1, h2, h3⟩ := cut_spec l.length l m (Nat.le_refl _) hv
  refine ⟨by omega, ?_, ?_⟩
  · intro p hp hpm
    rcases h3 with h3 | ⟨r, n, hd, hn⟩
    · omega
    · have hs := dec_some hd
      simp only [List.length_drop] at hs
      have hb := (dec_bytes hd).2 (p - cutAt l m) (by omega) (by omega)
      rw [getD_drop, show cutAt l m + (p - cutAt l m) = p by omega] at hb
      exact ⟨by omega, hb⟩
  · intro hlt
    rcases h3 with h3 | ⟨r, n, hd, hn⟩
    · omega
    · have hb := (dec_bytes hd).1
      rw [getD_drop, Nat.add_zero] at hb
      exact hb
end Go.Proofs.Ytmpipgjdnpgemaa
