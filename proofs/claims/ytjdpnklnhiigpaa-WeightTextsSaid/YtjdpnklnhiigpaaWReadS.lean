/-
  LAYER 7 (weight): the reference's Read of a text that is long enough.
-/
import Derived.Test.YtjdpnklnhiigpaaWReadR
namespace Go.Proofs.Ytjdpnklnhiigpaa
set_option maxRecDepth 100000
open Go.RowKit Go.Lib
attribute [local go_sem] Oper.semAt_some

def head5 (s : ByteArray) : Bool := (bAt s 0 == 91) && ((bAt s 1 == 46) || (bAt s 1 == 42)) && (bAt s 6 == 46) && (bAt s 11 == 46) && (bAt s 16 == 93)
theorem byte_eq (c : UInt8) (k : Nat) (hk : k < 256) : (((c.toNat : Int) == (k : Int)) = (c == UInt8.ofNat k)) ∧ (((c.toNat : Int) != (k : Int)) = !(c == UInt8.ofNat k)) := by
  have e : ((c.toNat : Int) == (k : Int)) = (c == UInt8.ofNat k) := by
    rw [Bool.eq_iff_iff, beq_iff_eq, beq_iff_eq, ← UInt8.toNat_inj]
    simp [UInt8.toNat_ofNat']
    omega
  exact ⟨e, by rw [← e]; rfl⟩

set_option maxHeartbeats 8000000 in
theorem refRead_long (s : ByteArray) (h : 17 ≤ s.size) (hs : s.size ≤ 200000000000000) (w : World) : Calls Try.prog 16 #[.string s] w fun e w' => e = .returned (.tuple (if tests s = true then (if elCheck (rdEl s) = 0 then #[(rdEl s).agg, .int .i64 17, .int .i64 0] else #[elNone', .int .i64 0, .int .i64 (elCheck (rdEl s))]) else #[elNone', .int .i64 0, .int .i64 3])) ∧ w.grownBy w' none := by
  have hg := World.grownBy_alloc w (.cells #[.int .i64 0, .int .i64 0, .int .i64 0, .bool false] 23) none
  have hR := ElAt.new w elNone
  unfold elNone at hR
  dsimp only at hR
  obtain ⟨W, hW⟩ : ∃ W, W = w.alloc (.cells #[.int .i64 0, .int .i64 0, .int .i64 0, .bool false] 23) := ⟨_, rfl⟩
  rw [← hW] at hg hR
  have j0 : ∀ w, (Instr.index 9 (.string s) (.int .i64 0)).run Try.prog w = .ok (.int .u8 ((bAt s 0).toNat : Int)) w := fun w => run_index_at w _ s 0 Try.underlying9 (by omega)
  have j1 : ∀ w, (Instr.index 9 (.string s) (.int .i64 1)).run Try.prog w = .ok (.int .u8 ((bAt s 1).toNat : Int)) w := fun w => run_index_at w _ s 1 Try.underlying9 (by omega)
  have j6 : ∀ w, (Instr.index 9 (.string s) (.int .i64 6)).run Try.prog w = .ok (.int .u8 ((bAt s 6).toNat : Int)) w := fun w => run_index_at w _ s 6 Try.underlying9 (by omega)
  have j11 : ∀ w, (Instr.index 9 (.string s) (.int .i64 11)).run Try.prog w = .ok (.int .u8 ((bAt s 11).toNat : Int)) w := fun w => run_index_at w _ s 11 Try.underlying9 (by omega)
  have j16 : ∀ w, (Instr.index 9 (.string s) (.int .i64 16)).run Try.prog w = .ok (.int .u8 ((bAt s 16).toNat : Int)) w := fun w => run_index_at w _ s 16 Try.underlying9 (by omega)
  have n2 := fun w => number_any s 2 (by omega) (by omega) w
  have n7 := fun w => number_any s 7 (by omega) (by omega) w
  have n12 := fun w => number_any s 12 (by omega) (by omega) w
  have m0 := byte_eq (bAt s 0) 91 (by decide)
  have m1 := byte_eq (bAt s 1) 46 (by decide)
  have m2 := byte_eq (bAt s 1) 42 (by decide)
  have m6 := byte_eq (bAt s 6) 46 (by decide)
  have m11 := byte_eq (bAt s 11) 46 (by decide)
  have m16 := byte_eq (bAt s 16) 93 (by decide)
  have b2 := rdS_4 s 2 4 (Nat.le_refl _)
  have b7 := rdS_4 s 7 4 (Nat.le_refl _)
  have b12 := rdS_4 s 12 4 (Nat.le_refl _)
  have hex : ¬ ((bAt s 1 == 46) = true ∧ (bAt s 1 == 42) = true) := by
    rintro ⟨q1, q2⟩
    rw [beq_iff_eq] at q1 q2
    rw [q1] at q2
    cases q2
  have hCk := fun w => refCheck_any (rdEl s) w
  have hts : tests s = (head5 s && okS s 2 4 && okS s 7 4 && okS s 12 4) := rfl
  obtain ⟨T, hT⟩ : ∃ T : Array Value, T = (if tests s = true then (if elCheck (rdEl s) = 0 then #[(rdEl s).agg, .int .i64 17, .int .i64 0] else #[elNone', .int .i64 0, .int .i64 (elCheck (rdEl s))]) else #[elNone', .int .i64 0, .int .i64 3]) := ⟨_, rfl⟩
  rw [← hT]
  rw [hts] at hT
  clear hts
  unfold head5 at hT
  unfold rdEl El.agg at *
  dsimp only at *
  obtain ⟨c0, hc0⟩ : ∃ c, (bAt s 0).toNat = c := ⟨_, rfl⟩
  obtain ⟨c1, hc1⟩ : ∃ c, (bAt s 1).toNat = c := ⟨_, rfl⟩
  obtain ⟨c6, hc6⟩ : ∃ c, (bAt s 6).toNat = c := ⟨_, rfl⟩
  obtain ⟨c11, hc11⟩ : ∃ c, (bAt s 11).toNat = c := ⟨_, rfl⟩
  obtain ⟨c16, hc16⟩ : ∃ c, (bAt s 16).toNat = c := ⟨_, rfl⟩
  rw [hc0] at j0 m0
  rw [hc1] at j1 m1 m2
  rw [hc6] at j6 m6
  rw [hc11] at j11 m11
  rw [hc16] at j16 m16
  clear hc0 hc1 hc6 hc11 hc16
  obtain ⟨t0, x0⟩ : ∃ b, (bAt s 0 == 91) = b := ⟨_, rfl⟩
  obtain ⟨t1, x1⟩ : ∃ b, (bAt s 1 == 46) = b := ⟨_, rfl⟩
  obtain ⟨v, x2⟩ : ∃ b, (bAt s 1 == 42) = b := ⟨_, rfl⟩
  obtain ⟨t6, x6⟩ : ∃ b, (bAt s 6 == 46) = b := ⟨_, rfl⟩
  obtain ⟨t11, x11⟩ : ∃ b, (bAt s 11 == 46) = b := ⟨_, rfl⟩
  obtain ⟨t16, x16⟩ : ∃ b, (bAt s 16 == 93) = b := ⟨_, rfl⟩
  have m0 : ((c0 : Int) == 91) = t0 ∧ ((c0 : Int) != 91) = !t0 := by rw [← x0]; exact m0
  have m1 : ((c1 : Int) == 46) = t1 ∧ ((c1 : Int) != 46) = !t1 := by rw [← x1]; exact m1
  have m2 : ((c1 : Int) == 42) = v ∧ ((c1 : Int) != 42) = !v := by rw [← x2]; exact m2
  have m6 : ((c6 : Int) == 46) = t6 ∧ ((c6 : Int) != 46) = !t6 := by rw [← x6]; exact m6
  have m11 : ((c11 : Int) == 46) = t11 ∧ ((c11 : Int) != 46) = !t11 := by rw [← x11]; exact m11
  have m16 : ((c16 : Int) == 93) = t16 ∧ ((c16 : Int) != 93) = !t16 := by rw [← x16]; exact m16
  rw [x0, x1, x2, x6, x11, x16] at hT
  rw [x1, x2] at hex
  rw [x2] at hCk
  clear x0 x1 x2 x6 x11 x16
  obtain ⟨p, hp⟩ : ∃ p, rdS s 2 4 = p := ⟨_, rfl⟩
  obtain ⟨q, hq⟩ : ∃ q, rdS s 7 4 = q := ⟨_, rfl⟩
  obtain ⟨t, ht⟩ : ∃ t, rdS s 12 4 = t := ⟨_, rfl⟩
  obtain ⟨o2, ho2⟩ : ∃ b, okS s 2 4 = b := ⟨_, rfl⟩
  obtain ⟨o7, ho7⟩ : ∃ b, okS s 7 4 = b := ⟨_, rfl⟩
  obtain ⟨o12, ho12⟩ : ∃ b, okS s 12 4 = b := ⟨_, rfl⟩
  rw [hp, ho2] at n2
  rw [hq, ho7] at n7
  rw [ht, ho12] at n12
  rw [hp, hq, ht] at hCk hT
  rw [ho2, ho7, ho12] at hT
  clear b2 b7 b12 hp hq ht ho2 ho7 ho12
  have hif : ∀ (o : Bool) (x : Nat), (if o = true then #[Value.int .i64 (x : Int), .bool true] else #[.int .i64 0, .bool false]) = #[.int .i64 (((if o = true then x else 0 : Nat)) : Int), .bool o] := fun o x => by cases o <;> rfl
  rw [hif] at n2 n7 n12
  obtain ⟨ck, hck⟩ : ∃ c, elCheck ⟨(p : Int), (q : Int), (t : Int), v⟩ = c := ⟨_, rfl⟩
  rw [hck] at hCk hT
  clear hck
  obtain ⟨m0, k0⟩ := m0
  obtain ⟨m1, k1⟩ := m1
  obtain ⟨m2, k2⟩ := m2
  obtain ⟨m6, k6⟩ := m6
  obtain ⟨m11, k11⟩ := m11
  obtain ⟨m16, k16⟩ := m16
  obtain ⟨g, hG⟩ : ∃ g, g = (t0 && (t1 || v) && t6 && t11 && t16) := ⟨_, rfl⟩
  rw [← hG] at hT
  replace hT := Lib.hid hT
  replace hG := Lib.hid hG
  go_enter Try.func16, Try.ntmps16
  go_upto_region 1 with fail
  rw [← hW]
  clear hW
  go_cut [45] (fun v45 wx => v45 = .bool (!g) ∧ wx = W)
  case first =>
    clear n2 n7 n12 hCk hR hg
    have key : ∀ t0 t1 v t6 t11 t16 : Bool, t0 = false ∨ (t0 = true ∧ t1 = false ∧ v = false) ∨ (t0 = true ∧ t1 = true ∧ t6 = false) ∨ (t0 = true ∧ t1 = false ∧ v = true ∧ t6 = false) ∨ (t0 = true ∧ t1 = true ∧ t6 = true ∧ t11 = false) ∨ (t0 = true ∧ t1 = false ∧ v = true ∧ t6 = true ∧ t11 = false) ∨
        (t0 = true ∧ t1 = true ∧ t6 = true ∧ t11 = true ∧ t16 = false) ∨ (t0 = true ∧ t1 = false ∧ v = true ∧ t6 = true ∧ t11 = true ∧ t16 = false) ∨ (t0 = true ∧ t1 = true ∧ t6 = true ∧ t11 = true ∧ t16 = true) ∨ (t0 = true ∧ t1 = false ∧ v = true ∧ t6 = true ∧ t11 = true ∧ t16 = true) := by
      intro t0 t1 v t6 t11 t16
      cases t0 <;> cases t1 <;> cases v <;> cases t6 <;> cases t11 <;> cases t16 <;> simp
    rcases key t0 t1 v t6 t11 t16 with rfl | ⟨rfl, rfl, rfl⟩ | ⟨rfl, rfl, rfl⟩ | ⟨rfl, rfl, rfl, rfl⟩ | ⟨rfl, rfl, rfl, rfl⟩ | ⟨rfl, rfl, rfl, rfl, rfl⟩ | ⟨rfl, rfl, rfl, rfl, rfl⟩ | ⟨rfl, rfl, rfl, rfl, rfl, rfl⟩ | ⟨rfl, rfl, rfl, rfl, rfl⟩ | ⟨rfl, rfl, rfl, rfl, rfl, rfl⟩
    all_goals
      clear key
      go_wp2_with fail
      go_meet
      exact ⟨by rw [hG.out]; first | rfl | (simp; omega), rfl⟩
  case rest =>
    obtain ⟨rfl, rfl⟩ := hcut
    clear j0 j6 j11 j16 m0 m1 m6 m11 m16 k0 k1 k2 k6 k11 k16 hG hex
    have f0 := hR.free 0
    have f1 := hR.free 1
    have f2 := hR.free 2
    have f3 := hR.free 3
    have d0 := hR.c0
    have d1 := hR.c1
    have d2 := hR.c2
    have d3 := hR.c3
    dsimp only at d0 d1 d2 d3
    have hRl := hR.lt
    have hgn : w.grownBy wc none := hg
    have fin : ∀ (V : World) (y : El), wc.grownBy V none → ElAt V w.heap.size ⟨0, 0, 0, false⟩ → ElAt ((((V.setCell ⟨w.heap.size, 0, none⟩ (.int .i64 y.p)).setCell ⟨w.heap.size, 1, none⟩ (.int .i64 y.s)).setCell ⟨w.heap.size, 2, none⟩ (.int .i64 y.t)).setCell ⟨w.heap.size, 3, none⟩ (.bool y.v)) w.heap.size y ∧
        w.grownBy ((((V.setCell ⟨w.heap.size, 0, none⟩ (.int .i64 y.p)).setCell ⟨w.heap.size, 1, none⟩ (.int .i64 y.s)).setCell ⟨w.heap.size, 2, none⟩ (.int .i64 y.t)).setCell ⟨w.heap.size, 3, none⟩ (.bool y.v)) none := fun V y hV hE => ⟨hE.store y, gstore4 (hg.trans hV) (Nat.le_refl _) _ _ _ _⟩
    have key : ∀ g o2 o7 o12 : Bool, (g = true ∧ o2 = true ∧ o7 = true ∧ o12 = true) ∨ (g = false ∨ (g = true ∧ o2 = false) ∨ (g = true ∧ o2 = true ∧ o7 = false) ∨ (g = true ∧ o2 = true ∧ o7 = true ∧ o12 = false)) := by
      intro g o2 o7 o12
      cases g <;> cases o2 <;> cases o7 <;> cases o12 <;> simp
    rcases key g o2 o7 o12 with ⟨rfl, rfl, rfl, rfl⟩ | hbad
    · clear key
      simp only [if_true, Bool.and_self] at hT n2 n7 n12
      have E0 := ElAt.new wc ⟨p, q, t, v⟩
      dsimp only at E0
      have hfin := Lib.hid fin
      clear fin
      rcases (show ck = 0 ∨ ck ≠ 0 by omega) with rfl | hck
      · simp only [if_true] at hT
        go_wp2_with (first
          | (go_at_call_of 29 (Value.int IntKind.i64 2); refine (n2 _).mono ?_; rintro e w4 ⟨rfl, rfl⟩)
          | (go_at_call_of 29 (Value.int IntKind.i64 7); refine (n7 _).mono ?_; rintro e w4 ⟨rfl, rfl⟩)
          | (go_at_call_of 29 (Value.int IntKind.i64 12); refine (n12 _).mono ?_; rintro e w4 ⟨rfl, rfl⟩)
          | (go_at_call 8; refine (hCk _).mono ?_; rintro e w5 ⟨rfl, g5⟩; have g6 := (World.grownBy_alloc wc _ none).trans g5; have R5 := hR.kept g6 (by simp); have E5 := E0.kept g5 (by simp); have f0 := R5.free 0; have f1 := R5.free 1; have f2 := R5.free 2; have f3 := R5.free 3; have d0 := R5.c0; have d1 := R5.c1; have d2 := R5.c2; have d3 := R5.c3; have x0 := E5.c0; have x1 := E5.c1; have x2 := E5.c2; have x3 := E5.c3; dsimp only at d0 d1 d2 d3 x0 x1 x2 x3))
        have fin := hfin.out
        have F4 := fin w5 ⟨p, q, t, v⟩ g6 R5
        dsimp only at F4
        obtain ⟨X, hX⟩ : ∃ X, X = ((((w5.setCell ⟨w.heap.size, 0, none⟩ (.int .i64 p)).setCell ⟨w.heap.size, 1, none⟩ (.int .i64 q)).setCell ⟨w.heap.size, 2, none⟩ (.int .i64 t)).setCell ⟨w.heap.size, 3, none⟩ (.bool v)) := ⟨_, rfl⟩
        rw [← hX] at F4 ⊢
        clear hX
        obtain ⟨F5, F6⟩ := F4
        have b0 := F5.c0
        have b1 := F5.c1
        have b2 := F5.c2
        have b3 := F5.c3
        dsimp only at b0 b1 b2 b3
        refine bodyPost_ret (v := .tuple #[.agg #[.int .i64 p, .int .i64 q, .int .i64 t, .bool v], .int .i64 17, .int .i64 0]) (by simp [results, Try.results16, go_sem, b0, b1, b2, b3]) rfl ?_
        exact ⟨by rw [hT.out], F6⟩
      · rw [if_neg hck] at hT
        go_wp2_with (first
          | (go_at_call_of 29 (Value.int IntKind.i64 2); refine (n2 _).mono ?_; rintro e w4 ⟨rfl, rfl⟩)
          | (go_at_call_of 29 (Value.int IntKind.i64 7); refine (n7 _).mono ?_; rintro e w4 ⟨rfl, rfl⟩)
          | (go_at_call_of 29 (Value.int IntKind.i64 12); refine (n12 _).mono ?_; rintro e w4 ⟨rfl, rfl⟩)
          | (go_at_call 8; refine (hCk _).mono ?_; rintro e w5 ⟨rfl, g5⟩; have g6 := (World.grownBy_alloc wc _ none).trans g5; have R5 := hR.kept g6 (by simp); have E5 := E0.kept g5 (by simp); have f0 := R5.free 0; have f1 := R5.free 1; have f2 := R5.free 2; have f3 := R5.free 3; have d0 := R5.c0; have d1 := R5.c1; have d2 := R5.c2; have d3 := R5.c3; have x0 := E5.c0; have x1 := E5.c1; have x2 := E5.c2; have x3 := E5.c3; dsimp only at d0 d1 d2 d3 x0 x1 x2 x3))
        have fin := hfin.out
        have F4 := fin w5 ⟨0, 0, 0, false⟩ g6 R5
        dsimp only at F4
        obtain ⟨X, hX⟩ : ∃ X, X = ((((w5.setCell ⟨w.heap.size, 0, none⟩ (.int .i64 0)).setCell ⟨w.heap.size, 1, none⟩ (.int .i64 0)).setCell ⟨w.heap.size, 2, none⟩ (.int .i64 0)).setCell ⟨w.heap.size, 3, none⟩ (.bool false)) := ⟨_, rfl⟩
        rw [← hX] at F4 ⊢
        clear hX
        obtain ⟨F5, F6⟩ := F4
        have b0 := F5.c0
        have b1 := F5.c1
        have b2 := F5.c2
        have b3 := F5.c3
        dsimp only at b0 b1 b2 b3
        refine bodyPost_ret (v := .tuple #[elNone', .int .i64 0, .int .i64 ck]) (by simp [results, Try.results16, go_sem, elNone', b0, b1, b2, b3]) rfl ?_
        exact ⟨by rw [hT.out], F6⟩
    · clear hCk
      obtain ⟨p2, hp2⟩ : ∃ x : Nat, (if o2 = true then p else 0) = x := ⟨_, rfl⟩
      obtain ⟨q2, hq2⟩ : ∃ x : Nat, (if o7 = true then q else 0) = x := ⟨_, rfl⟩
      obtain ⟨t2, ht2⟩ : ∃ x : Nat, (if o12 = true then t else 0) = x := ⟨_, rfl⟩
      rw [hp2] at n2
      rw [hq2] at n7
      rw [ht2] at n12
      clear hp2 hq2 ht2
      have hT2 : T = #[elNone', .int .i64 0, .int .i64 3] := by
        rw [hT.out]
        rcases hbad with rfl | ⟨rfl, rfl⟩ | ⟨rfl, rfl, rfl⟩ | ⟨rfl, rfl, rfl, rfl⟩ <;> rfl
      clear hT key
      have F4 := fin wc ⟨0, 0, 0, false⟩ (World.grownBy.refl wc none) hR
      clear fin hR hg hgn hRl
      rcases hbad with rfl | ⟨rfl, rfl⟩ | ⟨rfl, rfl, rfl⟩ | ⟨rfl, rfl, rfl, rfl⟩
      all_goals
        go_wp2_with (first
          | (go_at_call_of 29 (Value.int IntKind.i64 2); refine (n2 _).mono ?_; rintro e w4 ⟨rfl, rfl⟩)
          | (go_at_call_of 29 (Value.int IntKind.i64 7); refine (n7 _).mono ?_; rintro e w4 ⟨rfl, rfl⟩)
          | (go_at_call_of 29 (Value.int IntKind.i64 12); refine (n12 _).mono ?_; rintro e w4 ⟨rfl, rfl⟩))
        obtain ⟨X, hX⟩ : ∃ X, X = ((((wc.setCell ⟨w.heap.size, 0, none⟩ (.int .i64 0)).setCell ⟨w.heap.size, 1, none⟩ (.int .i64 0)).setCell ⟨w.heap.size, 2, none⟩ (.int .i64 0)).setCell ⟨w.heap.size, 3, none⟩ (.bool false)) := ⟨_, rfl⟩
        rw [← hX] at F4 ⊢
        clear hX
        obtain ⟨F5, F6⟩ := F4
        have b0 := F5.c0
        have b1 := F5.c1
        have b2 := F5.c2
        have b3 := F5.c3
        dsimp only at b0 b1 b2 b3
        refine bodyPost_ret (v := .tuple #[elNone', .int .i64 0, .int .i64 3]) (by simp [results, Try.results16, go_sem, elNone', b0, b1, b2, b3]) rfl ?_
        exact ⟨by first | rfl | rw [hT2], F6⟩
end Go.Proofs.Ytjdpnklnhiigpaa
