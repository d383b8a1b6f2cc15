/-
  LAYER 7 (weight): the reference's Read.
-/
import Derived.Test.YtjdpnklnhiigpaaWReadE
import Derived.Test.YtjdpnklnhiigpaaWCheckR
namespace Go.Proofs.Ytjdpnklnhiigpaa
set_option maxRecDepth 100000
open Go.RowKit Go.Lib
attribute [local go_sem] Oper.semAt_some

theorem refRead_short (s : ByteArray) (h : s.size < 17) (w : World) : Calls Try.prog 16 #[.string s] w fun e w' => e = .returned (.tuple #[elNone', .int .i64 0, .int .i64 3]) ∧ w.grownBy w' none := by
  have hg := World.grownBy_alloc w (.cells #[.int .i64 0, .int .i64 0, .int .i64 0, .bool false] 23) none
  go_enter Try.func16, Try.ntmps16
  go_wp2
  refine bodyPost_ret (v := .tuple #[elNone', .int .i64 0, .int .i64 3]) (by simp [results, Try.results16, go_sem, elNone']) rfl ?_
  exact ⟨rfl, hg⟩

/-- The form, as the reference tests it. -/
def tests (s : ByteArray) : Bool := (bAt s 0 == 91) && ((bAt s 1 == 46) || (bAt s 1 == 42)) && (bAt s 6 == 46) && (bAt s 11 == 46) && (bAt s 16 == 93) && okS s 2 4 && okS s 7 4 && okS s 12 4

theorem dg4_rdS (s : ByteArray) (i : Nat) : dg4 (rdS s i 4) = [hx (dv (bAt s i)), hx (dv (bAt s (i + 1))), hx (dv (bAt s (i + 2))), hx (dv (bAt s (i + 3)))] := by
  have h0 := (hx_dv (bAt s i)).2
  have h1 := (hx_dv (bAt s (i + 1))).2
  have h2 := (hx_dv (bAt s (i + 2))).2
  have h3 := (hx_dv (bAt s (i + 3))).2
  have e : rdS s i 4 = ((dv (bAt s i) * 16 + dv (bAt s (i + 1))) * 16 + dv (bAt s (i + 2))) * 16 + dv (bAt s (i + 3)) := by simp [rdS]
  unfold dg4
  rw [e]
  congr 1
  · congr 1; omega
  · congr 1
    · congr 1; omega
    · congr 1
      · congr 1; omega
      · congr 2; omega

theorem uncons {l : List UInt8} {n : Nat} (h : n + 1 ≤ l.length) : ∃ c t, l = c :: t ∧ n ≤ t.length := by
  cases l with
  | nil => simp at h
  | cons c t => exact ⟨c, t, rfl, by simpa using h⟩

theorem form_tests (s : ByteArray) (h : 17 ≤ s.size) : formOf s = tests s := by
  have hl : 17 ≤ s.data.toList.length := by simpa using h
  have hb := bAt_get s
  obtain ⟨c0, t0, e0, l0⟩ := uncons (n := 16) hl
  obtain ⟨c1, t1, e1, l1⟩ := uncons (n := 15) l0
  obtain ⟨c2, t2, e2, l2⟩ := uncons (n := 14) l1
  obtain ⟨c3, t3, e3, l3⟩ := uncons (n := 13) l2
  obtain ⟨c4, t4, e4, l4⟩ := uncons (n := 12) l3
  obtain ⟨c5, t5, e5, l5⟩ := uncons (n := 11) l4
  obtain ⟨c6, t6, e6, l6⟩ := uncons (n := 10) l5
  obtain ⟨c7, t7, e7, l7⟩ := uncons (n := 9) l6
  obtain ⟨c8, t8, e8, l8⟩ := uncons (n := 8) l7
  obtain ⟨c9, t9, e9, l9⟩ := uncons (n := 7) l8
  obtain ⟨c10, t10, e10, l10⟩ := uncons (n := 6) l9
  obtain ⟨c11, t11, e11, l11⟩ := uncons (n := 5) l10
  obtain ⟨c12, t12, e12, l12⟩ := uncons (n := 4) l11
  obtain ⟨c13, t13, e13, l13⟩ := uncons (n := 3) l12
  obtain ⟨c14, t14, e14, l14⟩ := uncons (n := 2) l13
  obtain ⟨c15, t15, e15, l15⟩ := uncons (n := 1) l14
  obtain ⟨c16, t16, e16, l16⟩ := uncons (n := 0) l15
  have hs : s.data.toList = c0 :: c1 :: c2 :: c3 :: c4 :: c5 :: c6 :: c7 :: c8 :: c9 :: c10 :: c11 :: c12 :: c13 :: c14 :: c15 :: c16 :: t16 := by rw [e0, e1, e2, e3, e4, e5, e6, e7, e8, e9, e10, e11, e12, e13, e14, e15, e16]
  clear e16 e15 e14 e13 e12 e11 e10 e9 e8 e7 e6 e5 e4 e3 e2 e1 e0 l0 l1 l2 l3 l4 l5 l6 l7 l8 l9 l10 l11 l12 l13 l14 l15 l16
  rw [hs] at hb
  have b0 : bAt s 0 = c0 := hb 0
  have b1 : bAt s 1 = c1 := hb 1
  have b2 : bAt s 2 = c2 := hb 2
  have b3 : bAt s 3 = c3 := hb 3
  have b4 : bAt s 4 = c4 := hb 4
  have b5 : bAt s 5 = c5 := hb 5
  have b6 : bAt s 6 = c6 := hb 6
  have b7 : bAt s 7 = c7 := hb 7
  have b8 : bAt s 8 = c8 := hb 8
  have b9 : bAt s 9 = c9 := hb 9
  have b10 : bAt s 10 = c10 := hb 10
  have b11 : bAt s 11 = c11 := hb 11
  have b12 : bAt s 12 = c12 := hb 12
  have b13 : bAt s 13 = c13 := hb 13
  have b14 : bAt s 14 = c14 := hb 14
  have b15 : bAt s 15 = c15 := hb 15
  have b16 : bAt s 16 = c16 := hb 16
  clear hb
  unfold formOf tests showL
  rw [dg4_rdS, dg4_rdS, dg4_rdS, hs]
  simp only [okS, Nat.reduceAdd, b0, b1, b2, b3, b4, b5, b6, b7, b8, b9, b10, b11, b12, b13, b14, b15, b16, Nat.add_zero]
  rw [Bool.eq_iff_iff]
  simp only [List.cons_append, List.nil_append, List.take_succ_cons, List.take_zero, List.cons.injEq, and_true, decide_eq_true_eq, Bool.and_eq_true, Bool.or_eq_true, beq_iff_eq, Bool.true_and]
  simp only [fun c => (hx_dv c).1]
  have hm : ((if (c1 == 42) = true then (42 : UInt8) else 46) = c1) ↔ (c1 = 46 ∨ c1 = 42) := by
    by_cases h4 : c1 = 42
    · simp [h4]
    · simp only [beq_iff_eq, h4, if_false, or_false]
      exact eq_comm
  simp only [beq_iff_eq] at hm
  rw [hm]
  constructor
  · rintro ⟨a0, a1, a2, a3, a4, a5, a6, a7, a8, a9, a10, a11, a12, a13, a14, a15, a16⟩
    exact ⟨⟨⟨⟨⟨⟨⟨a0.symm, a1⟩, a6.symm⟩, a11.symm⟩, a16.symm⟩, ⟨⟨⟨a2, a3⟩, a4⟩, a5⟩⟩, ⟨⟨⟨a7, a8⟩, a9⟩, a10⟩⟩, ⟨⟨⟨a12, a13⟩, a14⟩, a15⟩⟩
  · rintro ⟨⟨⟨⟨⟨⟨⟨a0, a1⟩, a6⟩, a11⟩, a16⟩, ⟨⟨⟨a2, a3⟩, a4⟩, a5⟩⟩, ⟨⟨⟨a7, a8⟩, a9⟩, a10⟩⟩, ⟨⟨⟨a12, a13⟩, a14⟩, a15⟩⟩
    exact ⟨a0.symm, a1, a2, a3, a4, a5, a6.symm, a7, a8, a9, a10, a11.symm, a12, a13, a14, a15, a16.symm⟩
end Go.Proofs.Ytjdpnklnhiigpaa
