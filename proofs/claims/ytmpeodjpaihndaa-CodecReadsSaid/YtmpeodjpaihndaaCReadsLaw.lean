/-
  LAYER 2 (codec): CodecReads: every reading call against the reference's.
-/
import Derived.Test.YtmpeodjpaihndaaCRefL
import Derived.Test.YtmpeodjpaihndaaCShort
import Derived.Deep.DeepCutAuto
import Derived.Deep.RegionHeld3
namespace Go.Proofs.Ytmpeodjpaihndaa
open Go.RowKit Go.Lib

set_option maxHeartbeats 1000000 in
theorem Same_any (L : List (List UInt8)) (v1 v2 : Value) (w : World) (h1 : ReadsL w v1 L) (h2 : ReadsL w v2 L) :
    Calls Try.prog 26 #[v1, v2] w fun e w' => e = .returned (.bool true) ∧ Below w.heap.size w w' := by
  obtain ⟨a1, l1, c1, rfl⟩ := h1.form
  obtain ⟨a2, l2, c2, rfl⟩ := h2.form
  obtain ⟨rfl, hc1, hm1⟩ := h1.len
  obtain ⟨rfl, hc2, hm2⟩ := h2.len
  unfold maxLen at hm1 hm2
  go_enter Try.func26, Try.ntmps26
  go_wp2
  go_loopw [5] (fun vi wr => ∃ k : Nat, k ≤ L.length ∧ vi = .int .i64 (k : Int) ∧ Below w.heap.size w wr) (fun vi _ => L.length - (RowKit.intOf vi).toNat)
  case atStart => exact ⟨0, Nat.zero_le _, rfl, Below.refl _ _⟩
  case round =>
    obtain ⟨k, hk, rfl, hb⟩ := hrel
    by_cases hlt : k < L.length
    · obtain ⟨b1, o1, x1, rfl, hx1, hr1⟩ := h1.get hlt
      obtain ⟨b2, o2, x2, rfl, hx2, hr2⟩ := h2.get hlt
      have hy1 : wr.cell? ⟨b1, o1 + k, none⟩ = some x1 := (hb.cell (p := ⟨b1, o1 + k, none⟩) (World.block_lt_of_cell? w _ hx1)).trans hx1
      have hy2 : wr.cell? ⟨b2, o2 + k, none⟩ = some x2 := (hb.cell (p := ⟨b2, o2 + k, none⟩) (World.block_lt_of_cell? w _ hx2)).trans hx2
      have hq1 : ∀ q, (convert 23 9 x1).run Try.prog (wr.drewN q) = .ok (.string ⟨L[k].toArray⟩) (wr.drewN q) := fun q => conv_of ((hr1.all hb).new (gdrewN (World.grownBy.refl _ _) q))
      have hq2 : ∀ q, (convert 23 9 x2).run Try.prog (wr.drewN q) = .ok (.string ⟨L[k].toArray⟩) (wr.drewN q) := fun q => conv_of ((hr2.all hb).new (gdrewN (World.grownBy.refl _ _) q))
      clear hx1 hx2
      go_wp2
      go_quiet (fail)
      go_wp2
      exact ⟨⟨k + 1, by omega, by go_num, ⟨hb.os, hb.tape, hb.output, hb.size, hb.block⟩⟩, by simp [RowKit.intOf]; omega⟩
    · have hkl : k = L.length := by omega
      subst hkl
      go_wp2
      go_ret
      exact ⟨rfl, hb⟩

theorem reads_below {w w1 w2 : World} (h : Below w.heap.size w w1) (k : Below w1.heap.size w1 w2) : Below w.heap.size w w2 := h.trans (k.mono h.size)

set_option maxHeartbeats 4000000 in
set_option maxRecDepth 100000 in
theorem reads_law (a : Option Addr) (l c : Nat) (wide : Int) (bs : List UInt8) (w : World) (hr : Reads w (.slice a l c) bs) (hl : bs.length ≤ 5000) :
    Calls Try.prog 4 #[.slice a l c, .int .i64 wide] w fun e w' => e = .returned (.bool true) ∧ Below w.heap.size w w' := by
  obtain ⟨rfl, hc, hm⟩ := hr.slice
  obtain ⟨n, m, x, hu⟩ : ∃ n m x, uRes bs = (n, m, x) := ⟨_, _, _, rfl⟩
  obtain ⟨xn, xm, xx, hx⟩ : ∃ n m x, xRes bs wide = (n, m, x) := ⟨_, _, _, rfl⟩
  obtain ⟨f, fm, fx, hf⟩ : ∃ f m x, fRes bs = (f, m, x) := ⟨_, _, _, rfl⟩
  obtain ⟨L, lm, lx, hL⟩ : ∃ f m x, lRes bs = (f, m, x) := ⟨_, _, _, rfl⟩
  have c1 := fun w1 (hb : Below w.heap.size w w1) => ReadUint_any a bs.length c bs n m x w1 (hr.all hb) hu
  have d1 := fun w1 (hb : Below w.heap.size w w1) => refReadUint_any a bs.length c bs n m x w1 (hr.all hb) hu
  have c2 := fun w1 (hb : Below w.heap.size w w1) => ReadInt_any a bs.length c bs n m x w1 (hr.all hb) hu
  have d2 := fun w1 (hb : Below w.heap.size w w1) => refReadInt_any a bs.length c bs n m x w1 (hr.all hb) hu
  generalize iOf n x = y at c2 d2
  have c3 := fun w1 (hb : Below w.heap.size w w1) => ReadFixed_any a bs.length c bs wide xn xm xx w1 (hr.all hb) hx
  have d3 := fun w1 (hb : Below w.heap.size w w1) => refReadFixed_any a bs.length c bs wide xn xm xx w1 (hr.all hb) hx
  have c4 := fun w1 (hb : Below w.heap.size w w1) => ReadField_any a bs.length c bs f fm fx w1 (hr.all hb) hf
  have d4 := fun w1 (hb : Below w.heap.size w w1) => refReadField_any a bs.length c bs f fm fx w1 (hr.all hb) hf
  have c5 := fun w1 (hb : Below w.heap.size w w1) => ReadFields_any a bs.length c bs L lm lx w1 (hr.all hb) hL
  have d5 := fun w1 (hb : Below w.heap.size w w1) => refReadFields_any a bs.length c bs L lm lx w1 (hr.all hb) hL
  clear hu hx hf hL
  go_enter Try.func4, Try.ntmps4
  go_wp2_with (first | (go_at_call 9; refine (awake_any _).mono ?_; rintro e w1 ⟨rfl, hg1⟩; have hb := gbelow hg1 (Nat.le_refl w.heap.size) (by simp); clear hg1) | (go_at_call 16; refine (c1 _ hb).mono ?_; rintro e w2 ⟨rfl, hb2⟩; replace hb := reads_below hb hb2; clear hb2) | (go_at_call 18; refine (d1 _ hb).mono ?_; rintro e w2 ⟨rfl, rfl⟩) | (go_at_call 17; refine (c2 _ hb).mono ?_; rintro e w2 ⟨rfl, hb2⟩; replace hb := reads_below hb hb2; clear hb2) | (go_at_call 19; refine (d2 _ hb).mono ?_; rintro e w2 ⟨rfl, rfl⟩) | (go_at_call 20; refine (c3 _ hb).mono ?_; rintro e w2 ⟨rfl, hb2⟩; replace hb := reads_below hb hb2; clear hb2) | (go_at_call 21; refine (d3 _ hb).mono ?_; rintro e w2 ⟨rfl, rfl⟩) | (go_at_call 22; refine (c4 _ hb).mono ?_; rintro e w3 ⟨v3, rfl, ho3, hb3⟩) | (go_at_call 23; refine (d4 _ (reads_below hb hb3)).mono ?_; rintro e w4 ⟨v4, rfl, ho4, hg4⟩; have hb4 := belowg' hg4; have q1 := conv_of (ho3.reads.all hb4); have q2 := conv_of ho4.reads; replace hb := reads_below (reads_below hb hb3) hb4) | (go_at_call 24; refine (c5 _ hb).mono ?_; rintro e w5 ⟨v5, rfl, ho5, hb5⟩; replace hb := reads_below hb hb5) | (go_at_call 25; refine (d5 _ hb).mono ?_; rintro e w6 ⟨v6, rfl, ho6, hg6⟩; have hb6 := belowg' hg6; have hS := Same_any L v5 v6 w6 (ho5.reads.all hb6) ho6.reads; replace hb := reads_below hb hb6) | (go_at_call 26; refine hS.mono ?_; rintro e w7 ⟨rfl, hb7⟩; replace hb := reads_below hb hb7))
  go_ret
  exact ⟨rfl, hb⟩

set_option maxHeartbeats 1000000 in
theorem reads_big (a : Option Addr) (l c : Nat) (wide : Int) (w : World) (hl : 5000 < l) :
    Calls Try.prog 4 #[.slice a l c, .int .i64 wide] w fun e w' => e = .returned (.bool true) ∧ Below w.heap.size w w' := by
  go_enter Try.func4, Try.ntmps4
  go_wp2_with (go_at_call 9; refine (awake_any _).mono ?_; rintro e w1 ⟨rfl, hg1⟩)
  go_ret
  exact ⟨rfl, gbelow hg1 (Nat.le_refl _) (by simp)⟩

theorem CodecReads_walk (w : World) (a : Option Addr) (l c : Nat) (bs : List UInt8) (hr : Reads w (.slice a l c) bs) (a1 : Int) (_w1 : (Lit.int .i64 a1).wf = true) :
    Calls Try.prog 4 #[.slice a l c, .int .i64 a1] w fun e w' => e = .returned (.bool true) ∧ Below w.heap.size w w' := by
  by_cases h : l ≤ 5000
  · exact reads_law a l c a1 bs w hr (by have := hr.slice.1; omega)
  · exact reads_big a l c a1 w (by omega)
end Go.Proofs.Ytmpeodjpaihndaa
