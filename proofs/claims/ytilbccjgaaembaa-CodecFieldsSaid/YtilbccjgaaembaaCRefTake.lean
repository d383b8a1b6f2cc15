/-
  LAYER 2 (codec): the reference's reader: Take.
-/
import Derived.Test.YtilbccjgaaembaaCRefRd2
namespace Go.Proofs.Ytilbccjgaaembaa
set_option maxRecDepth 100000
open Go.RowKit Go.Lib

/-- The reference's reader is not its own bytes; these stay where its block alone is turned. -/
theorem Rq.carry {w w' : World} {r : Nat} {a : Option Addr} {l c : Nat} {pos : Nat} {er : Int} {bs : List UInt8} (h : Rq w r (.slice a l c) pos er) (hb : Reads w (.slice a l c) bs) (hg : w.grownBy w' (some r)) : Reads w' (.slice a l c) bs := by
  by_cases e : bs = []
  · subst e
    have h1 := hb.slice.1
    rcases hb with ⟨hh, _⟩ | ⟨b, off, cp, hh, h1, h2, _⟩
    · exact .inl ⟨hh, rfl⟩
    · exact .inr ⟨b, off, cp, hh, h1, h2, fun i u hu => by simp at hu⟩
  · refine hb.kept hg (.inr ?_)
    rcases hb with ⟨_, rfl⟩ | ⟨b, off, cap, hv, _, _, hc⟩
    · exact absurd rfl e
    · rw [hv]
      intro hb'
      simp [Value.ownBlock] at hb'
      subst hb'
      obtain ⟨u, l', rfl⟩ := List.exists_cons_of_ne_nil e
      have := hc 0 u rfl
      simp only [World.cell?, show _ = _ from h] at this
      simp only [Nat.add_zero] at this
      rcases off with _ | _ | _ | off <;> simp at this

set_option maxHeartbeats 1000000 in
theorem qTake_ok (r : Nat) (a : Option Addr) (l c : Nat) (bs : List UInt8) (pos k : Nat) (w : World) (hR : Rq w r (.slice a l c) pos 0) (hr : Reads w (.slice a l c) bs) (hs : pos + k ≤ bs.length) (hlim : bs.length ≤ 140737488355328) :
    Calls Try.prog 47 #[.pointer (some ⟨r, 0, none⟩), .int .i64 (k : Int)] w fun e w' => ∃ v, e = .returned v ∧ Owns w' w.heap.size 5 v ((bs.drop pos).take k) ∧ w.grownBy w' (some r) ∧ Rq w' r (.slice a l c) (pos + k) 0 := by
  obtain ⟨rfl, hc, hm⟩ := hr.slice
  unfold maxLen at hm
  obtain ⟨i0, hi, hz0, hz1, hz2⟩ := info_parts infoU8
  have h0 := hR.bytes
  have h1 := hR.at
  obtain ⟨a', hcut, hcr⟩ := run_cut_mid a bs.length c pos k hc hs
  have hfl : ((bs.drop pos).take k).length = k := by simp; omega
  obtain ⟨f, hfe⟩ : ∃ f, f = (bs.drop pos).take k := ⟨_, rfl⟩
  rw [← hfe] at hfl ⊢
  have hF := Lib.hid hfe
  clear hfe
  go_enter Try.func47, Try.ntmps47
  go_wp2
  go_quiet (fail)
  have hst := fun q => step_ok r (.slice a bs.length c) pos k (w.drewN q) (hR.drewN q) (by omega)
  go_wp2_with (first | (go_at_call 87; refine (hst _).mono ?_; rintro e w1 ⟨rfl, hg1, hR1⟩; have hR2 := hR1.new (World.grownBy_alloc w1 (.cells #[] 5) none); have h2 := hR2.bytes; have hr1 : Reads w1 (.slice a bs.length c) bs := (hR.drewN _).carry (hr.new (gdrewN (World.grownBy.refl _ _) _)) hg1) | (at_builtin; refine wpList_append_bytes _ rfl _ _ 23 rfl w1.heap.size 5 i0 Try.underlying23 hi hz0 hz1 hz2 (.slice (some ⟨w1.heap.size, 0, none⟩) 0 0) [] rfl (owns_empty w1 5) (.slice a' k (c - pos)) f rfl (hF.out ▸ hcr _ bs (hr1.new (World.grownBy_alloc w1 _ _))) (by simp; omega) (by simp) ?_; intro v2 w2 ho2 hg2))
  have hlt1 := hR1.lt
  have hgw : w.grownBy w1 (some r) := ⟨hg1.os, hg1.tape, hg1.output, hg1.size, hg1.block⟩
  have hsz : w.heap.size ≤ w1.heap.size := hgw.size
  go_ret
  exact ⟨v2, rfl, by simpa using ho2.mono hsz, gnew (galloc hgw _) hg2 (fun r' e => .inl (by simp only [Value.ownBlock, Option.some.injEq] at e; omega)), hR2.kept hg2 (by simp only [Value.ownBlock, ne_eq, Option.some.injEq]; omega)⟩

set_option maxHeartbeats 1000000 in
theorem qTake_neg (r : Nat) (a : Option Addr) (l c : Nat) (pos : Nat) (er n : Int) (w : World) (hR : Rq w r (.slice a l c) pos er) (hn : n < 0)
    (hst : ∀ q, Calls Try.prog 87 #[.pointer (some ⟨r, 0, none⟩), .int .i64 n, .int .i64 1] (w.drewN q) fun e w' => e = .returned (.bool false) ∧ w.grownBy w' (some r) ∧ Rq w' r (.slice a l c) pos (stErr er 1)) :
    Calls Try.prog 47 #[.pointer (some ⟨r, 0, none⟩), .int .i64 n] w fun e w' => e = .returned (.slice none 0 0) ∧ w.grownBy w' (some r) ∧ Rq w' r (.slice a l c) pos (stErr er 1) := by
  have h0 := hR.bytes
  have h1 := hR.at
  have hst0 := hst 0
  rw [show w.drewN 0 = w from rfl] at hst0
  go_enter Try.func47, Try.ntmps47
  go_wp2_with (go_at_call 87; refine hst0.mono ?_; rintro e w1 ⟨rfl, hg1, hR1⟩)
  go_ret
  exact ⟨rfl, hg1, hR1⟩

set_option maxHeartbeats 1000000 in
theorem qTake_short (r : Nat) (a : Option Addr) (l c : Nat) (pos : Nat) (er n : Int) (w : World) (hR : Rq w r (.slice a l c) pos er) (hn : 0 ≤ n) (hp : pos ≤ l) (hl : l ≤ maxLen) (hs : (l : Int) - pos < n)
    (hst : ∀ q, Calls Try.prog 87 #[.pointer (some ⟨r, 0, none⟩), .int .i64 n, .int .i64 20] (w.drewN q) fun e w' => e = .returned (.bool false) ∧ w.grownBy w' (some r) ∧ Rq w' r (.slice a l c) pos (stErr er 20)) :
    Calls Try.prog 47 #[.pointer (some ⟨r, 0, none⟩), .int .i64 n] w fun e w' => e = .returned (.slice none 0 0) ∧ w.grownBy w' (some r) ∧ Rq w' r (.slice a l c) pos (stErr er 20) := by
  unfold maxLen at hl
  have h0 := hR.bytes
  have h1 := hR.at
  go_enter Try.func47, Try.ntmps47
  go_wp2
  go_quiet (fail)
  go_wp2_with (go_at_call 87; refine (hst _).mono ?_; rintro e w1 ⟨rfl, hg1, hR1⟩)
  go_ret
  exact ⟨rfl, hg1, hR1⟩

set_option maxHeartbeats 1000000 in
theorem qTake_err (r : Nat) (a : Option Addr) (l c : Nat) (pos k : Nat) (er : Int) (w : World) (hR : Rq w r (.slice a l c) pos er) (he : er ≠ 0) (hl : l ≤ maxLen) (hs : pos + k ≤ l) :
    Calls Try.prog 47 #[.pointer (some ⟨r, 0, none⟩), .int .i64 (k : Int)] w fun e w' => e = .returned (.slice none 0 0) ∧ w.grownBy w' (some r) ∧ Rq w' r (.slice a l c) pos er := by
  unfold maxLen at hl
  have h0 := hR.bytes
  have h1 := hR.at
  have hst := fun q => step_err r (.slice a l c) pos k er 0 (w.drewN q) (hR.drewN q) he
  clear he
  go_enter Try.func47, Try.ntmps47
  go_wp2
  go_quiet (fail)
  go_wp2_with (go_at_call 87; refine (hst _).mono ?_; rintro e w1 ⟨rfl, hg1⟩)
  go_ret
  have hgw : w.grownBy w1 none := ⟨hg1.os, hg1.tape, hg1.output, hg1.size, hg1.block⟩
  exact ⟨rfl, hgw.but _, hR.new hgw⟩

theorem step_no (r : Nat) (vb : Value) (pos : Nat) (n er x : Int) (w : World) (hR : Rq w r vb pos er) (hx : x ≠ 0) (q : Nat) :
    Calls Try.prog 87 #[.pointer (some ⟨r, 0, none⟩), .int .i64 n, .int .i64 x] (w.drewN q) fun e w' => e = .returned (.bool false) ∧ w.grownBy w' (some r) ∧ Rq w' r vb pos (stErr er x) := by
  by_cases he : er = 0
  · subst he
    exact (step_bad r vb pos n x (w.drewN q) (hR.drewN q) hx).mono fun e w' ⟨h1, h2, h3⟩ => ⟨h1, ⟨h2.os, h2.tape, h2.output, h2.size, h2.block⟩, h3⟩
  · rw [show stErr er x = er from if_neg he]
    exact (step_err r vb pos n er x (w.drewN q) (hR.drewN q) he).mono fun e w' ⟨h1, h2⟩ => by
      have hg : w.grownBy w' none := ⟨h2.os, h2.tape, h2.output, h2.size, h2.block⟩
      exact ⟨h1, hg.but _, hR.new hg⟩

theorem qTake_any (r : Nat) (a : Option Addr) (l c : Nat) (bs : List UInt8) (pos : Nat) (er n : Int) (f : List UInt8) (m : Nat) (x : Int) (w : World) (hR : Rq w r (.slice a l c) pos er) (hr : Reads w (.slice a l c) bs) (hs : pos ≤ bs.length) (hlim : bs.length ≤ 140737488355328) (h : tRes (bs.drop pos) n = (f, m, x)) :
    Calls Try.prog 47 #[.pointer (some ⟨r, 0, none⟩), .int .i64 n] w fun e w' => ∃ v, e = .returned v ∧ Owns w' w.heap.size 5 v (if er = 0 then f else []) ∧ w.grownBy w' (some r) ∧ Rq w' r (.slice a l c) (stAt er pos m) (stErr er x) := by
  obtain ⟨rfl, hc, hm⟩ := hr.slice
  have hif : (if er = 0 then ([] : List UInt8) else []) = [] := by split <;> rfl
  have hat : stAt er pos 0 = pos := by unfold stAt; split <;> rfl
  unfold tRes at h
  split at h
  · rename_i hn
    simp only [Prod.mk.injEq] at h
    obtain ⟨rfl, rfl, rfl⟩ := h
    rw [hif, hat]
    exact (qTake_neg r a _ c pos er n w hR hn (step_no r _ pos n er 1 w hR (by decide))).mono fun e w' ⟨h1, h2, h3⟩ => ⟨_, h1, owns_nil _ _ _, h2, h3⟩
  · rename_i hn
    obtain ⟨k, rfl⟩ := Int.eq_ofNat_of_zero_le (show 0 ≤ n by omega)
    rw [Int.toNat_natCast] at h
    split at h
    · rename_i hsh
      rw [List.length_drop] at hsh
      simp only [Prod.mk.injEq] at h
      obtain ⟨rfl, rfl, rfl⟩ := h
      rw [hif, hat]
      exact (qTake_short r a _ c pos er k w hR (by omega) hs (by omega) (by omega) (step_no r _ pos k er 20 w hR (by decide))).mono fun e w' ⟨h1, h2, h3⟩ => ⟨_, h1, owns_nil _ _ _, h2, h3⟩
    · rename_i hsh
      rw [List.length_drop] at hsh
      simp only [Prod.mk.injEq] at h
      obtain ⟨rfl, rfl, rfl⟩ := h
      by_cases he : er = 0
      · subst he
        exact qTake_ok r a _ c bs pos k w hR hr (by omega) hlim
      · rw [if_neg he, show stAt er pos k = pos from if_neg he, show stErr er 0 = er from if_neg he]
        exact (qTake_err r a _ c pos k er w hR he (by omega) (by omega)).mono fun e w' ⟨h1, h2, h3⟩ => ⟨_, h1, owns_nil _ _ _, h2, h3⟩
end Go.Proofs.Ytilbccjgaaembaa
