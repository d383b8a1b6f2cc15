/-
  LAYER 7 (weight): THE LAW WeightTexts, walked.
-/
import Derived.Test.YtjdpnklnhiigpaaWTxtP
import Derived.Test.YtjdpnklnhiigpaaWAwake
import Derived.Test.YtjdpnklnhiigpaaWShowR
namespace Go.Proofs.Ytjdpnklnhiigpaa
set_option maxRecDepth 100000
open Go.RowKit Go.Lib
attribute [local go_sem] Oper.semAt_some

/-- What Show tells, of whatever element. -/
def shTxt (x : El) : ByteArray := if (inW x.p && inW x.s && inW x.t) = true then ⟨(showL x.p.toNat x.s.toNat x.t.toNat x.v).toArray⟩ else ⟨#[]⟩
theorem sh_any (x : El) (w : World) : Calls Try.prog 13 #[x.agg] w fun e w' => e = .returned (.string (shTxt x)) ∧ w.grownBy w' none := by
  unfold shTxt
  cases h : (inW x.p && inW x.s && inW x.t)
  · exact show_bad x w h
  · simp only [Bool.and_eq_true] at h
    obtain ⟨⟨h1, h2⟩, h3⟩ := h
    have h1 := inW_yes h1
    have h2 := inW_yes h2
    have h3 := inW_yes h3
    have := show_ok x.p.toNat x.s.toNat x.t.toNat x.v w (by omega) (by omega) (by omega)
    rw [Int.toNat_of_nonneg h1.1, Int.toNat_of_nonneg h2.1, Int.toNat_of_nonneg h3.1] at this
    exact this
theorem refSh_any (x : El) (w : World) : Calls Try.prog 14 #[x.agg] w fun e w' => e = .returned (.string (shTxt x)) ∧ w.grownBy w' none := by
  unfold shTxt
  cases h : (inW x.p && inW x.s && inW x.t)
  · exact refShow_bad x w h
  · simp only [Bool.and_eq_true] at h
    obtain ⟨⟨h1, h2⟩, h3⟩ := h
    have h1 := inW_yes h1
    have h2 := inW_yes h2
    have h3 := inW_yes h3
    have := refShow_ok x.p.toNat x.s.toNat x.t.toNat x.v w (by omega) (by omega) (by omega)
    rw [Int.toNat_of_nonneg h1.1, Int.toNat_of_nonneg h2.1, Int.toNat_of_nonneg h3.1] at this
    exact this
theorem shTxt_size (x : El) : (shTxt x).size ≤ 17 := by
  unfold shTxt
  split
  · exact Nat.le_refl 17
  · exact Nat.zero_le _
theorem sh_back (x : El) (r : ByteArray) (h : elCheck x = 0) : rdRes (shTxt x ++ r) = (x, 17, 0) := by
  have hlim : elLim x = true := by
    unfold elCheck elOk at h
    cases hh : elLim x
    · rw [hh] at h; simp at h
    · rfl
  unfold elLim at hlim
  simp only [Bool.and_eq_true, decide_eq_true_eq] at hlim
  obtain ⟨⟨⟨⟨⟨a1, a2⟩, a3⟩, a4⟩, a5⟩, a6⟩ := hlim
  have hin : (inW x.p && inW x.s && inW x.t) = true := by simp [inW]; omega
  unfold shTxt
  rw [if_pos hin]
  obtain ⟨p, s, t, v⟩ := x
  dsimp only at *
  have := show_back p.toNat s.toNat t.toNat v r (by omega) (by omega) (by omega)
  rw [Int.toNat_of_nonneg a1, Int.toNat_of_nonneg a3, Int.toNat_of_nonneg a5] at this
  exact this h

set_option maxHeartbeats 8000000 in
theorem WeightTexts_walk (w : World) (x : El) (s : ByteArray) (ln : s.size ≤ 140737488351232) : Calls Try.prog 4 #[x.agg, .string s] w fun e w' => e = .returned (.bool true) ∧ Below w.heap.size w w' := by
  have hs1 := fun w => sh_any x w
  have hs2 := fun w => refSh_any x w
  have hr1 := fun w => rd_any s (by omega) w
  have hr2 := fun w => refRd_any s (by omega) w
  have hc := fun w => refCheck_any x w
  have hlen : (shTxt x).size + s.size ≤ 9223372036854775807 := by have := shTxt_size x; omega
  have hr3 := fun w => rd_any (shTxt x ++ s) (by have := shTxt_size x; simp [ByteArray.size_append]; omega) w
  have hbk : elCheck x = 0 → rdRes (shTxt x ++ s) = (x, 17, 0) := sh_back x s
  obtain ⟨T, hT⟩ : ∃ T, T = shTxt x := ⟨_, rfl⟩
  rw [← hT] at hs1 hs2 hr3 hlen hbk
  clear hT
  obtain ⟨y, n, er, hR⟩ : ∃ y n er, rdRes s = (y, n, er) := ⟨_, _, _, rfl⟩
  rw [hR] at hr1 hr2
  obtain ⟨z, n2, er2, hR2⟩ : ∃ y n er, rdRes (T ++ s) = (y, n, er) := ⟨_, _, _, rfl⟩
  rw [hR2] at hr3 hbk
  clear hR hR2
  obtain ⟨ck, hck⟩ : ∃ c, elCheck x = c := ⟨_, rfl⟩
  rw [hck] at hc hbk
  clear hck
  have hbe : (T.toList == T.toList) = true := by simp
  have hnew := ElAt.new w x
  obtain ⟨p, q, t, v⟩ := x
  obtain ⟨p1, q1, t1, v1⟩ := y
  obtain ⟨p2, q2, t2, v2⟩ := z
  unfold El.agg at *
  dsimp only at *
  replace hbk := Lib.hid hbk
  go_enter Try.func4, Try.ntmps4
  go_upto_region 10 with (first
    | (go_at_call 6; refine (wawake_any _).mono ?_; rintro e w1 ⟨rfl, g1⟩; have X1 := hnew.kept g1 (by simp); have a0 := X1.c0; have a1 := X1.c1; have a2 := X1.c2; have a3 := X1.c3; dsimp only at a0 a1 a2 a3)
    | (go_at_call 13; refine (hs1 _).mono ?_; rintro e w2 ⟨rfl, g2⟩; have X2 := X1.kept g2 (by simp); have b0 := X2.c0; have b1 := X2.c1; have b2 := X2.c2; have b3 := X2.c3; dsimp only at b0 b1 b2 b3)
    | (go_at_call 14; refine (hs2 _).mono ?_; rintro e w3 ⟨rfl, g3⟩; have X3 := X2.kept g3 (by simp))
    | (go_at_call 15; refine (hr1 _).mono ?_; rintro e w4 ⟨rfl, g4⟩; have X4 := X3.kept g4 (by simp))
    | (go_at_call 16; refine (hr2 _).mono ?_; rintro e w5 ⟨rfl, g5⟩; have Y5 : ElAt w5 w4.heap.size ⟨p1, q1, t1, v1⟩ := ElAt.kept (ElAt.new w4 ⟨p1, q1, t1, v1⟩) g5 (by simp); have yl := Y5.lt; have d0 := Y5.c0; have d1 := Y5.c1; have d2 := Y5.c2; have d3 := Y5.c3; dsimp only at d0 d1 d2 d3))
  obtain ⟨V, hV⟩ : ∃ V, V = w5.alloc (.cells #[.int .i64 p1, .int .i64 q1, .int .i64 t1, .bool v1] 23) := ⟨_, rfl⟩
  have gV : w5.grownBy V none := by rw [hV]; exact World.grownBy_alloc w5 _ none
  rw [← hV]
  clear hV
  have YV := Y5.kept gV (by simp)
  have XV := ((X4.kept (World.grownBy_alloc w4 (.cells #[.int .i64 p1, .int .i64 q1, .int .i64 t1, .bool v1] 23) none) (by simp)).kept g5 (by simp)).kept gV (by simp)
  have GV : w.grownBy V none := ((((((World.grownBy_alloc w (.cells #[.int .i64 p, .int .i64 q, .int .i64 t, .bool v] 23) none).trans g1).trans g2).trans g3).trans g4).trans ((World.grownBy_alloc w4 (.cells #[.int .i64 p1, .int .i64 q1, .int .i64 t1, .bool v1] 23) none).trans g5)).trans gV
  have hne : w.heap.size < w4.heap.size := X4.lt
  clear X1 X2 X3 X4 Y5 a0 a1 a2 a3 b0 b1 b2 b3 d0 d1 d2 d3 hs1 hs2 hr1 hr2 g1 g2 g3 g4 g5 gV yl
  generalize w4.heap.size = k at YV hne ⊢
  go_upto_region 11 with (go_at_call 15; refine (hr3 _).mono ?_; rintro e w6 ⟨rfl, g6⟩; have Y6 := YV.kept g6 (by simp); have X6 := XV.kept g6 (by simp); have f0 := Y6.free 0; have f1 := Y6.free 1; have f2 := Y6.free 2; have f3 := Y6.free 3; have d0 := Y6.c0; have d1 := Y6.c1; have d2 := Y6.c2; have d3 := Y6.c3; dsimp only at d0 d1 d2 d3)
  have G6 := GV.trans g6
  have gS : w6.grownBy ((((w6.setCell ⟨k, 0, none⟩ (.int .i64 p2)).setCell ⟨k, 1, none⟩ (.int .i64 q2)).setCell ⟨k, 2, none⟩ (.int .i64 t2)).setCell ⟨k, 3, none⟩ (.bool v2)) (some k) := gset (gset (gset (gset (World.grownBy.refl w6 (some k)) 0 _) 1 _) 2 _) 3 _
  have Y7 := Y6.store ⟨p2, q2, t2, v2⟩
  have X7 := X6.kept gS (by simp; omega)
  have G7 := gstore4 G6 (Nat.le_of_lt hne) (.int .i64 p2) (.int .i64 q2) (.int .i64 t2) (.bool v2)
  dsimp only at Y7
  generalize ((((w6.setCell ⟨k, 0, none⟩ (.int .i64 p2)).setCell ⟨k, 1, none⟩ (.int .i64 q2)).setCell ⟨k, 2, none⟩ (.int .i64 t2)).setCell ⟨k, 3, none⟩ (.bool v2)) = U at gS Y7 X7 G7 ⊢
  clear f0 f1 f2 f3 d0 d1 d2 d3 gS Y6 X6 G6 YV XV GV hr3
  have x0 := X7.c0
  have x1 := X7.c1
  have x2 := X7.c2
  have x3 := X7.c3
  dsimp only at x0 x1 x2 x3
  rcases (show ck = 0 ∨ ck ≠ 0 by omega) with rfl | hck
  · have hz := hbk.out rfl
    simp only [Prod.mk.injEq, El.mk.injEq] at hz
    obtain ⟨⟨rfl, rfl, rfl, rfl⟩, rfl, rfl⟩ := hz
    clear hbk
    go_wp2_with (go_at_call 8; refine (hc _).mono ?_; rintro e w8 ⟨rfl, g8⟩; have X8 := X7.kept g8 (by simp); have Y8 := Y7.kept g8 (by simp); have z0 := X8.c0; have z1 := X8.c1; have z2 := X8.c2; have z3 := X8.c3; have y0 := Y8.c0; have y1 := Y8.c1; have y2 := Y8.c2; have y3 := Y8.c3; dsimp only at z0 z1 z2 z3 y0 y1 y2 y3)
    go_ret
    exact ⟨by simp, belowg' (G7.trans g8)⟩
  · clear hbk
    go_wp2_with (go_at_call 8; refine (hc _).mono ?_; rintro e w8 ⟨rfl, g8⟩)
    go_ret
    exact ⟨rfl, belowg' (G7.trans g8)⟩
end Go.Proofs.Ytjdpnklnhiigpaa
