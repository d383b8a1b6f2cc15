/-
  LAYER 9 (trie): walk, with whatever is told of each node that it comes to.
-/
import Derived.Test.YtnnijcafnhhnoaaTNew
namespace Go.Proofs.Ytnnijcafnhhnoaa
set_option maxRecDepth 100000
open Go.RowKit Go.Lib
attribute [local go_sem] Oper.semAt_some

/-- What each node is handed to: a closure over two variables, in a state KS i when i nodes were handed over. -/
structure SeesOk (g : Nat) (pa pb : Value) (Q P : Nat → Prop) (t : Nat) (L : List Ent) (n : Int) (rt : Nat) (ve : Value) (nd mp : List Int → Option Nat) (v : Value) (l : List Int) (KS : Nat → World → Prop) : Prop where
  enter : ∀ args W, (callFunc g args).run Try.prog W = .ok (.enter g args) W
  call : ∀ i b W, KS i W → i ≤ l.length → nd (l.take i) = some b → Calls Try.prog g #[.int .i64 (i : Int), .pointer (some ⟨b, 0, none⟩), pa, pb] W fun e W' => e = .returned (.tuple #[]) ∧ KS (i + 1) W'
  at_ : ∀ i W, KS i W → TrieAt Q W t L n rt ve nd mp
  rd : ∀ i W, KS i W → SR P 1 W v l.length (rc l)

/-- How far the way along l goes: so many nodes. -/
def Far (nd : List Int → Option Nat) (l : List Int) (m : Nat) : Prop := m ≤ l.length + 1 ∧ (∀ j, j < m → nd (l.take j) ≠ none) ∧ (m ≤ l.length → nd (l.take m) = none)

set_option maxHeartbeats 8000000 in
theorem walk_any (g : Nat) (pa pb : Value) (Q P : Nat → Prop) (t : Nat) (L : List Ent) (n : Int) (rt : Nat) (ve : Value) (nd mp : List Int → Option Nat) (v : Value) (l : List Int) (KS : Nat → World → Prop) (N : SeesOk g pa pb Q P t L n rt ve nd mp v l KS) (w : World) (hK : KS 0 w) :
    Calls Try.prog 35 #[.pointer (some ⟨t, 0, none⟩), v, .func (.func g) #[] #[pa, pb]] w fun e w' => e = .returned (.tuple #[]) ∧ ∃ m, KS m w' ∧ Far nd l m := by
  have hT := N.at_ 0 w hK
  have hM := isMade_made t rt ve n w hT.tr
  have c0 := hT.tr.c0
  have hroot := hT.root
  obtain ⟨a, c, rfl, hc, hm⟩ := (N.rd 0 w hK).form
  unfold maxLen at hm
  have hent := N.enter
  have hc0 := N.call 0 rt w hK (Nat.zero_le _) (by simpa using hroot)
  obtain ⟨k, hk⟩ : ∃ k, k = l.length := ⟨_, rfl⟩
  rw [← hk] at hc ⊢
  replace hk := Lib.hid hk
  replace hroot := Lib.hid hroot
  clear hT
  have hzero : ((0 : Nat) : Int) = 0 := rfl
  rw [hzero] at hc0
  clear hzero
  go_enter Try.func35, Try.ntmps35
  go_wp2_with first
    | (go_at_call 30; refine hM.mono ?_; rintro e w' ⟨rfl, rfl⟩)
    | (refine hc0.mono ?_; clear hc0; rintro e w2 ⟨rfl, hK1⟩)
  have hF0 : Hid (∀ j, j ≤ 0 → nd (l.take j) ≠ none) := Lib.hid (fun j hj => by obtain rfl : j = 0 := (by omega); simp [hroot.out])
  go_loopw [6, 7, 8, 21] (fun vn _ _ vi wr => ∃ i b : Nat, vi = .int .i64 (i : Int) ∧ i ≤ k ∧ vn = .pointer (some ⟨b, 0, none⟩) ∧ Hid (nd (l.take i) = some b) ∧ Hid (KS (i + 1) wr) ∧ Hid (∀ j, j ≤ i → nd (l.take j) ≠ none)) (fun _ _ _ vi _ => k - (RowKit.intOf vi).toNat)
  case atStart => exact ⟨0, rt, rfl, Nat.zero_le _, rfl, Lib.hid (by simpa using hroot.out), Lib.hid (by simpa using hK1), hF0⟩
  case round =>
    obtain ⟨i, b, rfl, hi, rfl, hb, hKi, hF⟩ := hrel
    by_cases hlt : i < k
    · have hltz : (i : Int) < (k : Int) := by omega
      obtain ⟨u, hu⟩ : ∃ u, l[i]? = some u := ⟨_, List.getElem?_eq_getElem (by have := hk.out; omega)⟩
      have hts := Lib.hid (take_snoc hu)
      have hrr := N.rd _ _ hKi.out
      obtain ⟨ba, off, rfl, _, cu⟩ := rc_get hrr hu
      have hA := N.at_ _ _ hKi.out
      have hN := (hA.tree.node _ _ hb.out).2
      have c1 := hN.c1
      have hlk := hA.tree.lookup (l.take i) u
      obtain ⟨o, ho⟩ : ∃ o, o = nd (l.take i ++ [u]) := ⟨_, rfl⟩
      rw [← ho] at hlk
      replace ho := Lib.hid ho
      generalize mp (l.take i) = mo at c1 hlk
      clear hrr hu hA hN c0 hM
      cases o with
      | none =>
        unfold ptrV at hlk
        have hfar : Hid (Far nd l (i + 1)) := Lib.hid ⟨by have := hk.out; omega, fun j hj => hF.out j (by omega), fun _ => by rw [hts.out]; exact ho.out.symm⟩
        go_wp2_with fail
        refine bodyPost_ret (results_none rfl _ _ _) rfl ?_
        exact ⟨rfl, i + 1, hKi.out, hfar.out⟩
      | some d =>
        unfold ptrV at hlk
        have hcd := N.call (i + 1) d wr hKi.out (by have := hk.out; omega) (by rw [hts.out]; exact ho.out.symm)
        have hcast : ((i + 1 : Nat) : Int) = (i : Int) + 1 := by omega
        rw [hcast] at hcd
        clear hcast
        have hb2 : Hid (nd (l.take (i + 1)) = some d) := Lib.hid (by rw [hts.out]; exact ho.out.symm)
        have hF2 : Hid (∀ j, j ≤ i + 1 → nd (l.take j) ≠ none) := Lib.hid (fun j hj => by
          by_cases e : j ≤ i
          · exact hF.out j e
          · obtain rfl : j = i + 1 := by omega
            rw [hb2.out]; simp)
        go_wp2_with (refine hcd.mono ?_; clear hcd; rintro e w3 ⟨rfl, hK3⟩; replace hK3 := Lib.hid hK3)
        exact ⟨⟨i + 1, d, by go_num, by omega, rfl, hb2, hK3, hF2⟩, by simp [RowKit.intOf]; omega⟩
    · obtain rfl : k = i := by omega
      have hfar : Hid (Far nd l (k + 1)) := Lib.hid ⟨by have := hk.out; omega, fun j hj => hF.out j (by omega), fun h => by have := hk.out; omega⟩
      clear c0 hM
      go_wp2
      go_end0
      exact ⟨rfl, k + 1, hKi.out, hfar.out⟩
end Go.Proofs.Ytnnijcafnhhnoaa
