/-
  LAYER 5 (norms): Build, Small, Load.
-/
import Derived.Test.YtpdacbiiaglodaaGreatQG24
import Derived.Test.YtpdacbiiaglodaaGreatQG17
namespace Go.Proofs.YtpdacbiiaglodaaGreat
set_option maxRecDepth 100000
open Go.RowKit Go.Lib

set_option maxHeartbeats 1000000 in
theorem Build_ok (vc vd : Value) (c : List Cls) (d : List Dec) (w : World) (hT : Dat w vc vd c d) (h : good c d = true) :
    Calls Tryz.prog 45 #[vc, vd] w fun e w' => ∃ v, e = .returned (.tuple #[v, .int .i64 0]) ∧ Owns w' w.heap.size 5 v (frame (payload c d)) ∧ w.grownBy w' none := by
  obtain ⟨a, cp, rfl, hc, hm⟩ := hT.2.form
  obtain ⟨ac, cc, rfl, _, _⟩ := hT.1.form
  have g0 := World.grownBy_alloc w (.cells #[.slice ac c.length cc, .slice a d.length cp] 33) none
  have C1 := fun W (hg : w.grownBy W none) => check_ok (.slice ac c.length cc) (.slice a d.length cp) c d W (hT.all hg) h
  have C2 := fun W (hg : w.grownBy W none) => write_any (.slice ac c.length cc) (.slice a d.length cp) c d W (hT.all hg) h
  have cf : ∀ V, (w.alloc (.cells #[.slice ac c.length cc, .slice a d.length cp] 33)).grownBy V none → V.cell? ⟨w.heap.size, 0, none⟩ = some (.slice ac c.length cc) ∧ V.cell? ⟨w.heap.size, 1, none⟩ = some (.slice a d.length cp) := by
    intro V hg
    have k := (hg.block w.heap.size (by simp) (by simp)).trans (World.alloc_heap_new w _)
    exact ⟨by simp [World.cell?, k], by simp [World.cell?, k]⟩
  clear h hT
  unfold datV at C1 C2
  go_enter Tryz.func45, Tryz.ntmps45
  go_wp2_with (first
    | (go_at_call 78; refine (C1 _ g0).mono ?_; rintro e V1 ⟨rfl, v1⟩; obtain ⟨a0, a1⟩ := cf V1 v1; have gv1 := g0.trans v1)
    | (go_at_call 86; refine (C2 _ gv1).mono ?_; rintro e V2 ⟨v2, rfl, ho2, hg2⟩))
  go_ret2
  exact ⟨_, rfl, ho2.mono gv1.size, gv1.trans hg2⟩

/-- The small bytes. -/
def smallB : List UInt8 := frame (payload smallC smallD)

set_option maxHeartbeats 1000000 in
theorem Small_any (w : World) : Calls Tryz.prog 13 #[] w fun e w' => ∃ v, e = .returned v ∧ Owns w' w.heap.size 5 v smallB ∧ w.grownBy w' none := by
  have A := fun w => smallClasses_any w
  have B := fun w => smallDecomps_any w
  have C := fun vc vd w h => Build_ok vc vd smallC smallD w h small_good
  rw [show frame (payload smallC smallD) = smallB from rfl] at C
  generalize smallB = SB at C ⊢
  generalize smallC = sc at A C
  generalize smallD = sd at B C
  go_enter Tryz.func13, Tryz.ntmps13
  go_wp2_with (first
    | (go_at_call 46; refine (A _).mono ?_; rintro e w1 ⟨vc, rfl, hTc, hg1⟩)
    | (go_at_call 47; refine (B _).mono ?_; rintro e w2 ⟨vd, rfl, hTd, hg2⟩)
    | (go_at_call 45; refine (C _ _ _ ⟨hTc.all hg2, hTd⟩).mono ?_; rintro e w3 ⟨v3, rfl, ho3, hg3⟩))
  go_ret
  exact ⟨_, rfl, ho3.mono (Nat.le_trans hg1.size hg2.size), (hg1.trans hg2).trans hg3⟩

set_option maxHeartbeats 1000000 in
theorem Load_ok (v : Value) (c : List Cls) (d : List Dec) (w : World) (hr : Reads w v (frame (payload c d))) (h : good c d = true) :
    Calls Tryz.prog 41 #[v] w fun e w' => ∃ n, e = .returned (.tuple #[.pointer (some ⟨n, 0, none⟩), .int .i64 0]) ∧ w.heap.size ≤ n ∧ Nrm w' n c d false ∧ w.grownBy w' none := by
  have R := read_ok v c d w hr h
  have C1 := fun vc vd W hT => check_ok vc vd c d W hT h
  obtain ⟨a0, c0, rfl⟩ := hr.form
  generalize (frame (payload c d)).length = FL at R ⊢
  unfold datV at R C1
  clear h hr
  go_enter Tryz.func41, Tryz.ntmps41
  go_wp2_with (first
    | (go_at_call 77; refine R.mono ?_; rintro e w1 ⟨vc, vd, rfl, hT, hg1⟩; obtain ⟨x1, y1, rfl, _, _⟩ := hT.1.form; obtain ⟨x2, y2, rfl, _, _⟩ := hT.2.form)
    | (go_at_call 78; refine (C1 _ _ _ (hT.all (World.grownBy_alloc w1 _ none))).mono ?_; rintro e w2 ⟨rfl, hg2⟩; have kd := (hg2.block w1.heap.size (by simp) (by simp)).trans (World.alloc_heap_new w1 _); have d0 : w2.cell? ⟨w1.heap.size, 0, none⟩ = some (.slice x1 c.length y1) := by { simp [World.cell?, kd] }; have d1 : w2.cell? ⟨w1.heap.size, 1, none⟩ = some (.slice x2 d.length y2) := by { simp [World.cell?, kd] }))
  go_ret2
  have hT2 := (hT.all (World.grownBy_alloc w1 _ none)).all hg2
  refine ⟨w2.heap.size, rfl, ?_, ⟨_, _, none, hT2.all (World.grownBy_alloc w2 _ none), fun a k e => hT2.1.lt a k e, fun a k e => hT2.2.lt a k e, World.alloc_heap_new w2 _, fun _ => rfl, fun e => by cases e⟩, ((hg1.trans (World.grownBy_alloc w1 _ none)).trans hg2).trans (World.grownBy_alloc w2 _ none)⟩
  exact Nat.le_trans hg1.size (Nat.le_trans (World.grownBy_alloc w1 _ none).size hg2.size)
end Go.Proofs.YtpdacbiiaglodaaGreat
