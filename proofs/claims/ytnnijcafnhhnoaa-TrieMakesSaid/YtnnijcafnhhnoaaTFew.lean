/-
  LAYER 9 (trie): few: it answers.
-/
import Derived.Test.YtnnijcafnhhnoaaTNew
namespace Go.Proofs.Ytnnijcafnhhnoaa
set_option maxRecDepth 100000
open Go.RowKit Go.Lib
attribute [local go_sem] Oper.semAt_some

def SomeB (w : World) (e : Ending) (w' : World) : Prop := ∃ b : Bool, e = .returned (.bool b) ∧ w.grownBy w' none
set_option maxHeartbeats 4000000 in
theorem few_any (P : Nat → Prop) (v : Value) (L : List Ent) (w : World) (h : EntsR P w v L) : Calls Try.prog 8 #[v] w (SomeB w) := by
  obtain ⟨a, c, rfl, hc, hm⟩ : ∃ a c, v = .slice a L.length c ∧ L.length ≤ c ∧ c ≤ maxLen := by obtain ⟨vs, _, h2, _⟩ := h; exact h2.form
  unfold maxLen at hm
  replace h := Lib.hid h
  obtain ⟨n, hn⟩ : ∃ n, n = L.length := ⟨_, rfl⟩
  rw [← hn] at hc ⊢
  replace hn := Lib.hid hn
  go_enter Try.func8, Try.ntmps8
  go_wp2_with fail
  go_loopw [3, 5, 10] (fun v3 _ vi wr => ∃ (i : Nat) (z : Int), vi = .int .i64 (i : Int) ∧ i ≤ n ∧ v3 = .int .i64 z ∧ Hid (w.grownBy wr none)) (fun _ _ vi _ => n - (RowKit.intOf vi).toNat)
  case atStart => exact ⟨0, _, rfl, Nat.zero_le _, rfl, Lib.hid (World.grownBy.refl _ _)⟩
  case round =>
    obtain ⟨i, z, rfl, hi1, rfl, hG⟩ := hrel
    by_cases hlt : i < n
    · have hltz : (i : Int) < (n : Int) := by omega
      obtain ⟨x, hx⟩ : ∃ x, L[i]? = some x := ⟨_, List.getElem?_eq_getElem (by have := hn.out; omega)⟩
      obtain ⟨b, off, vc, ve0, rfl, _, c0, c1, hE⟩ := ents_get (c := c) (h.out.new hG.out) hx
      obtain ⟨xa, xc, rfl, hxc1, hxc2⟩ := hE.1.form
      obtain ⟨ya, yc, rfl, hyc1, hyc2⟩ := hE.2.form
      generalize x.codes.length = nc at *
      generalize x.els.length = ne at *
      have gB := World.grownBy_alloc wr (.cells #[.slice xa nc xc, .slice ya ne yc] 35) none
      have hG2 := Lib.hid (hG.out.trans gB)
      clear hx hE gB hxc1 hxc2 hyc1 hyc2
      go_wp2_with fail
      exact ⟨⟨i + 1, _, by go_num, by omega, rfl, hG2⟩, by simp [RowKit.intOf]; omega⟩
    · obtain rfl : n = i := by omega
      go_wp2
      go_ret
      exact ⟨_, rfl, hG.out⟩
end Go.Proofs.Ytnnijcafnhhnoaa
