/-
  LAYER 5 (norms): Build, Small, Load.
-/
import Derived.Test.YtpdacbiiaglodaaGreatQA17
import Derived.Test.YtpdacbiiaglodaaGreatQA16
namespace Go.Proofs.YtpdacbiiaglodaaGreat
set_option maxRecDepth 100000
open Go.RowKit Go.Lib

set_option maxHeartbeats 1000000 in
theorem Build_ok (vc vd : Value) (c : List Cls) (d : List Dec) (w : World) (hT : Dat w vc vd c d) (h : good c d = true) :
    Calls Tryz.prog 45 #[vc, vd] w fun e w' => ∃ v, e = .returned (.tuple #[v, .int .i64 0]) ∧ Owns w' w.heap.size 5 v (frame (payload c d)) ∧ w.grownBy w' none := by
  obtain ⟨a, cp, rfl, hc, hm⟩ := hT.2.form
  obtain ⟨ac, cc, rfl, _, _⟩ := hT.1.form
  have g0 := World.grownBy_alloc w (.cells #[.slice ac c.length cc, .slice a d.length cp] 33) none
  have C1 := fun W (hg : w.grownBy W none) => check_ok (.slice ac c.length cc) (.slice a d.length cp) c d W (hT.all hg) h
  have C2 := fun W (hg : w.grownBy W none) => write_any (.slice ac c.length cc) (.slice a d.length cp) c d W (hT.all hg) h
  have cf : ∀ V, (w.alloc (.cells #[.slice ac c.length cc, .slice a d.length cp] 33)).grownBy V none → V.cell? ⟨w.heap.size, 0, none⟩ = some (.slice ac c.length cc) ∧ V.cell? ⟨w.heap.size, 1, none⟩ = some (.slice a d.length cp) := by
    intro V hg
    have k := (hg.block w.heap.size (by simp) (by simp)).trans (World.alloc_heap_new w _)
    exact ⟨by simp [World.cell?, k], by simp [World.cell?, k]⟩
  clear h hT
  unfold datV at C1 C2
  go_enter Tryz.func45, Tryz.ntmps45
  go_wp2_with (first
    | (go_at_call 78; refine (C1 _ g0).mono ?_; rintro e V1 ⟨rfl, v1⟩; obtain ⟨a0, a1⟩ := cf V1 v1; have gv1 := g0.trans v1)
    | (go_at_call 86; refine (C2 _ gv1).mono ?_; rintro e V2 ⟨v2, rfl, ho2, hg2⟩))
  go_ret2
  exact ⟨_, rfl, ho2.mono gv1.size, gv1.trans hg2⟩

/-- The small bytes. -/
def smallB : List UInt8 := frame (payload smallC smallD)

set_option maxHeartbeats 1000000 in
theorem Small_any (w : World) : Calls Tryz.prog 13 #[] w fun e w' => ∃ v, e = .returned v ∧ Owns w' w.heap.size 5 v smallB ∧ w.grownBy w' none := by
  have A := fun w => smallClasses_any w
  have B := fun w => smallDecomps_any w
  have C := fun vc vd w h => Build_ok vc vd smallC smallD w h small_good
  rw [show frame (payload smallC smallD) = smallB from rfl] at C
  generalize smallB = SB at C ⊢
  generalize smallC = sc at A C
  generalize smallD = sd at B C
  go_enter Tryz.func13, Tryz.ntmps13
  go_wp2_with (first
    | (go_at_call 46; refine (A _).mono ?_; rintro e w1 ⟨vc, rfl, hTc, hg1⟩)
    | (go_at_call 47; refine (B _).mono ?_; rintro e w2 ⟨vd, rfl, hTd, hg2⟩)
    | (go_at_call 45; refine (C _ _ _ ⟨hTc.all hg2, hTd⟩).mono ?_; rintro e w3 ⟨v3, rfl, ho3, hg3⟩))
  go_ret
  exact ⟨_, rfl, ho3.mono (Nat.le_trans hg1.size hg2.size), (hg1.trans hg2).trans hg3⟩

set_option maxHeartbeats 1000000 in
theorem Load_ok (v : Value) (c : List Cls) (d : List Dec) (w : World) (hr : Reads w v (frame (payload c d))) (h : good c d = true) :
    Calls Tryz.prog 41 #[v] w fun e w' => ∃ n, e = .returned (.tuple #[.pointer (some ⟨n, 0, none⟩), .int .i64 0]) ∧ w.heap.size ≤ n ∧ Nrm w' n c d false ∧ w.grownBy w' none := by
  have R := read_ok v c d w hr h
  have C1 := fun vc vd W hT => check_ok vc vd c d W hT h
  obtain ⟨a0, c0, rfl⟩ := hr.form
  generalize (frame (payload c d)).length = FL at R ⊢
  unfold datV at R C1
  clear h hr
  go_enter Tryz.func41, Tryz.ntmps41
  go_wp2_with (first
    | (go_at_call 77; refine R.mono ?_; rintro e w1 ⟨vc, vd, rfl, hT, hg1⟩; obtain ⟨x1, y1, rfl, _, _⟩ := hT.1.form; obtain ⟨x2, y2, rfl, _, _⟩ := hT.2.form)
    | (go_at_call 78; refine (C1 _ _ _ (hT.all (World.grownBy_alloc w1 _ none))).mono ?_; rintro e w2 ⟨rfl, hg2⟩; have kd := (hg2.block w1.heap.size (by simp) (by simp)).trans (World.alloc_heap_new w1 _); have d0 : w2.cell? ⟨w1.heap.size, 0, none⟩ = some (.slice x1 c.length y1) := by { simp [World.cell?, kd] }; have d1 : w2.cell? ⟨w1.heap.size, 1, none⟩ = some (.slice x2 d.length y2) := by { simp [World.cell?, kd] }))
  go_ret2
  have hT2 := (hT.all (World.grownBy_alloc w1 _ none)).all hg2
  refine ⟨w2.heap.size, rfl, ?_, ⟨_, _, none, hT2.all (World.grownBy_alloc w2 _ none), fun a k e => hT2.1.lt a k e, fun a k e => hT2.2.lt a k e, World.alloc_heap_new w2 _, fun _ => rfl, fun e => by cases e⟩, ((hg1.trans (World.grownBy_alloc w1 _ none)).trans hg2).trans (World.grownBy_alloc w2 _ none)⟩
  exact Nat.le_trans hg1.size (Nat.le_trans (World.grownBy_alloc w1 _ none).size hg2.size)
end Go.Proofs.YtpdacbiiaglodaaGreat

/-
  LAYER 5 (norms): awake: the chapter's examples.
-/
namespace Go.Proofs.YtpdacbiiaglodaaGreat
set_option maxRecDepth 100000
open Go.RowKit Go.Lib

theorem ex1 : told' smallD 7853 = [97, 803, 770] := by decide +kernel
theorem ex2 : told' smallD 44033 = [4352, 4449, 4520] := by decide +kernel
theorem ex3 : clsOf smallC 769 = 230 := by decide +kernel
theorem ex4 : clsOf smallC 97 = 0 := by decide +kernel

theorem Runes.three {B : Nat} {w : World} {v : Value} {a b c : Int} (h : Runes B w v [a, b, c]) : ∃ q cap, v = .slice (some ⟨q, 0, none⟩) 3 cap ∧ B ≤ q ∧ q < w.heap.size ∧ w.cell? ⟨q, 1, none⟩ = some (.int .i32 b) ∧ w.cell? ⟨q, 2, none⟩ = some (.int .i32 c) := by
  obtain ⟨q, cap, h1, h2, _, _, _, h3⟩ := h
  exact ⟨q, cap, h1, h2, World.block_lt_of_cell? w _ (h3 0 a rfl), h3 1 b rfl, h3 2 c rfl⟩

theorem Nrm.lt {w : World} {n : Nat} {c : List Cls} {d : List Dec} {dn : Bool} (h : Nrm w n c d dn) : n < w.heap.size := by
  obtain ⟨_, _, _, _, _, _, h6, _⟩ := h
  exact h6.lt

set_option maxHeartbeats 4000000 in
theorem nawake_any (w : World) : Calls Tryz.prog 10 #[] w fun e w' => e = .returned (.bool true) ∧ w.grownBy w' none := by
  have hS := fun w => Small_any w
  have hL := fun v w hr => Load_ok v smallC smallD w hr small_good
  have hD := fun n dn r w h => nDecomp_any n smallC smallD dn r w h small_good
  have hC := fun n dn r w h => nClass_any n smallC smallD dn r w h small_good
  have e1 := ex1
  have e2 := ex2
  have e3 := ex3
  have e4 := ex4
  rw [show smallB = frame (payload smallC smallD) from rfl] at hS
  generalize frame (payload smallC smallD) = SB at hS hL
  generalize smallC = sc at hL hD hC e3 e4
  generalize smallD = sd at hL hD hC e1 e2
  have hD1 := fun n dn w h => hD n dn 7853 w h
  have hD2 := fun n dn w h => hD n dn 44033 w h
  have hC1 := fun n dn w h => hC n dn 769 w h
  have hC2 := fun n dn w h => nStarter_of _ 97 _ w (hC n dn 97 w h)
  rw [e1] at hD1
  rw [e2] at hD2
  rw [e3] at hC1
  rw [e4] at hC2
  rw [show ((0 : Int) == 0) = true from rfl] at hC2
  clear hD hC e1 e2 e3 e4
  go_enter Tryz.func10, Tryz.ntmps10
  go_wp2_with (first
    | (go_at_call 13; refine (hS _).mono ?_; rintro e w1 ⟨v1, rfl, ho1, hg1⟩)
    | (go_at_call 41; refine (hL _ _ ho1.reads).mono ?_; rintro e w2 ⟨n, rfl, hn2, hN2, hg2⟩)
    | (go_at_call 14; refine (hD1 n false _ hN2).mono ?_; rintro e w3 ⟨v3, rfl, hR3, hg3, hN3⟩; obtain ⟨q3, cap3, rfl, hq3, hl3, c31, c32⟩ := hR3.three; have hnl := hN2.lt; clear hN2 hD1)
    | (go_at_call 14; refine (hD2 n true _ hN3).mono ?_; rintro e w4 ⟨v4, rfl, hR4, hg4, hN4⟩; obtain ⟨q4, cap4, rfl, hq4, hl4, c41, c42⟩ := hR4.three; have hnq : n ≠ q3 := Nat.ne_of_lt (Nat.lt_of_lt_of_le hnl hq3); have c31' := hg4.cell c31 (fun e => hnq (by simpa using e.symm)))
    | (go_at_call 15; refine (hC1 n true _ hN4).mono ?_; rintro e w5 ⟨rfl, hg5⟩)
    | (go_at_call 16; refine (hC2 n true _ (hN4.new hg5)).mono ?_; rintro e w6 ⟨rfl, hg6⟩))
  go_ret
  have hs1 := hg1.size
  have g2 := hg1.trans hg2
  have hs2 := hg2.size
  have g4 : w.grownBy w4 none := gnew (gnew g2 hg3 (fun r e => by cases e; left; omega)) hg4 (fun r e => by cases e; left; omega)
  exact ⟨rfl, (g4.trans hg5).trans hg6⟩
end Go.Proofs.YtpdacbiiaglodaaGreat
