/-
  LAYER 7 (weight): Show.
-/
import Derived.Test.YtjdpnklnhiigpaaWShow
import Derived.Deep.DeepCutAuto
import Derived.Deep.RegionHeld3
namespace Go.Proofs.Ytjdpnklnhiigpaa
set_option maxRecDepth 100000
open Go.RowKit Go.Lib
attribute [local go_sem] Oper.semAt_some

/-- An element's form. -/
def showL (p s t : Nat) (v : Bool) : List UInt8 := [91, (if v then 42 else 46)] ++ dg4 p ++ [46] ++ dg4 s ++ [46] ++ dg4 t ++ [93]
def inW (x : Int) : Bool := decide (0 ≤ x) && decide (x ≤ 65535)

set_option maxHeartbeats 4000000 in
theorem show_bad (x : El) (w : World) (h : (inW x.p && inW x.s && inW x.t) = false) : Calls Try.prog 13 #[x.agg] w fun e w' => e = .returned (.string ⟨#[]⟩) ∧ w.grownBy w' none := by
  have hp := fun w => hasDigits_any x.p w
  have hs := fun w => hasDigits_any x.s w
  have ht := fun w => hasDigits_any x.t w
  obtain ⟨p, s, t, v⟩ := x
  unfold El.agg
  dsimp only at *
  have e : ∀ y, (decide (0 ≤ y) && decide (y ≤ 65535)) = inW y := fun y => rfl
  rw [e] at hp hs ht
  obtain ⟨bp, ep⟩ : ∃ b, b = inW p := ⟨_, rfl⟩
  obtain ⟨bs, es⟩ : ∃ b, b = inW s := ⟨_, rfl⟩
  obtain ⟨bt, et⟩ : ∃ b, b = inW t := ⟨_, rfl⟩
  rw [← ep, ← es, ← et] at h
  rw [← ep] at hp
  rw [← es] at hs
  rw [← et] at ht
  clear ep es et e
  have key0 : ∀ bp bs bt : Bool, (bp && bs && bt) = false → bp = false ∨ (bp = true ∧ bs = false) ∨ (bp = true ∧ bs = true ∧ bt = false) := by decide
  have key := key0 bp bs bt h
  clear key0
  clear h
  rcases key with rfl | ⟨rfl, rfl⟩ | ⟨rfl, rfl, rfl⟩
  all_goals
    go_enter Try.func13, Try.ntmps13
    go_wp2_with (first
      | (go_at_call_of 25 (Value.int IntKind.i64 p); refine (hp _).mono ?_; rintro e w1 ⟨rfl, rfl⟩)
      | (go_at_call_of 25 (Value.int IntKind.i64 s); refine (hs _).mono ?_; rintro e w1 ⟨rfl, rfl⟩)
      | (go_at_call_of 25 (Value.int IntKind.i64 t); refine (ht _).mono ?_; rintro e w1 ⟨rfl, rfl⟩))
    go_ret
    exact ⟨rfl, World.grownBy_alloc w _ none⟩

theorem inW_nat {n : Nat} (h : n < 65536) : (decide (0 ≤ (n : Int)) && decide ((n : Int) ≤ 65535)) = true := by simp; omega

set_option maxHeartbeats 4000000 in
theorem show_ok (p s t : Nat) (v : Bool) (w : World) (h0 : p < 65536) (h1 : s < 65536) (h2 : t < 65536) :
    Calls Try.prog 13 #[.agg #[.int .i64 (p : Int), .int .i64 (s : Int), .int .i64 (t : Int), .bool v]] w fun e w' => e = .returned (.string ⟨(showL p s t v).toArray⟩) ∧ w.grownBy w' none := by
  have hp := fun w => hasDigits_any (p : Int) w
  have hs := fun w => hasDigits_any (s : Int) w
  have ht := fun w => hasDigits_any (t : Int) w
  rw [inW_nat h0] at hp
  rw [inW_nat h1] at hs
  rw [inW_nat h2] at ht
  have sp := fun w => show_any p h0 w
  have ss := fun w => show_any s h1 w
  have st := fun w => show_any t h2 w
  clear h0 h1 h2
  have hsl : Hid (showL p s t v = [91, (if v then 42 else 46)] ++ dg4 p ++ [46] ++ dg4 s ++ [46] ++ dg4 t ++ [93]) := Lib.hid rfl
  generalize showL p s t v = L at hsl ⊢
  obtain ⟨a0, a1, a2, a3, hlp⟩ : ∃ a b c d, dg4 p = [a, b, c, d] := ⟨_, _, _, _, rfl⟩
  obtain ⟨b0, b1, b2, b3, hls⟩ : ∃ a b c d, dg4 s = [a, b, c, d] := ⟨_, _, _, _, rfl⟩
  obtain ⟨c0, c1, c2, c3, hlt⟩ : ∃ a b c d, dg4 t = [a, b, c, d] := ⟨_, _, _, _, rfl⟩
  rw [hlp] at sp hsl
  rw [hls] at ss hsl
  rw [hlt] at st hsl
  clear hlp hls hlt
  have X0 := ElAt.new w ⟨p, s, t, v⟩
  dsimp only at X0
  obtain ⟨W, hW⟩ : ∃ W, W = w.alloc (.cells #[.int .i64 (p : Int), .int .i64 (s : Int), .int .i64 (t : Int), .bool v] 23) := ⟨_, rfl⟩
  have hg : w.grownBy W none := by rw [hW]; exact World.grownBy_alloc w _ none
  rw [← hW] at X0
  have hcell : ∀ w', W.grownBy w' none → W.grownBy w' none ∧ w'.cell? ⟨w.heap.size, 0, none⟩ = some (.int .i64 (p : Int)) ∧ w'.cell? ⟨w.heap.size, 1, none⟩ = some (.int .i64 (s : Int)) ∧ w'.cell? ⟨w.heap.size, 2, none⟩ = some (.int .i64 (t : Int)) := fun w' h =>
    ⟨h, h.cell X0.c0 (by simp), h.cell X0.c1 (by simp), h.cell X0.c2 (by simp)⟩
  clear X0
  cases v
  all_goals
    go_enter Try.func13, Try.ntmps13
    go_upto_region 6 with (first
      | (go_at_call_of 25 (Value.int IntKind.i64 (p : Int)); refine (hp _).mono ?_; rintro e w1 ⟨rfl, rfl⟩)
      | (go_at_call_of 25 (Value.int IntKind.i64 (s : Int)); refine (hs _).mono ?_; rintro e w1 ⟨rfl, rfl⟩)
      | (go_at_call_of 25 (Value.int IntKind.i64 (t : Int)); refine (ht _).mono ?_; rintro e w1 ⟨rfl, rfl⟩))
    rw [← hW]
    refine wp_region_held_drew (S := fun w' => W.grownBy w' none ∧ w'.cell? ⟨w.heap.size, 0, none⟩ = some (.int .i64 (p : Int)) ∧ w'.cell? ⟨w.heap.size, 1, none⟩ = some (.int .i64 (s : Int)) ∧ w'.cell? ⟨w.heap.size, 2, none⟩ = some (.int .i64 (t : Int))) (by kernel_rfl) (hcell _ (gdrew (World.grownBy.refl W none))) (fun hS0 => ?_)
    clear hW
    obtain ⟨V, hV⟩ : ∃ V, V = W.drew := ⟨_, rfl⟩
    rw [← hV] at hS0 ⊢
    clear hV
    refine wpAnyH_take (i := 0) (oi := ⟨some 22, _, _, _, _, _⟩) (v := ?_) rfl (by kernel_rfl) (by kernel_rfl) (by kernel_rfl) (fun _ _ _ h => h) (Or.inl ⟨by rfl, ?_⟩) (by assumption) ?_
    rotate_left
    · (intro w hSw; (try dsimp only at hSw); go_simp; try with_reducible rfl)
    try simp only [Act.put, List.setIfInBounds_toArray, List.set_cons_zero, List.set_cons_succ]
    refine wpAnyH_take (i := 1) (oi := ⟨some 23, _, _, _, _, _⟩) (v := ?_) rfl (by kernel_rfl) (by kernel_rfl) (by kernel_rfl) (fun _ _ _ h => h) (Or.inl ⟨by rfl, ?_⟩) (by assumption) ?_
    rotate_left
    · (intro w hSw; (try dsimp only at hSw); go_simp; try with_reducible rfl)
    try simp only [Act.put, List.setIfInBounds_toArray, List.set_cons_zero, List.set_cons_succ]
    refine wpAnyH_take (i := 2) (oi := ⟨some 24, _, _, _, _, _⟩) (v := ?_) rfl (by kernel_rfl) (by kernel_rfl) (by kernel_rfl) (fun _ _ _ h => h) (Or.inl ⟨by rfl, ?_⟩) (by assumption) ?_
    rotate_left
    · (intro w hSw; (try dsimp only at hSw); go_simp; try with_reducible rfl)
    try simp only [Act.put, List.setIfInBounds_toArray, List.set_cons_zero, List.set_cons_succ]
    refine wpAnyH_take (i := 3) (oi := ⟨some 25, _, _, _, _, _⟩) (v := ?_) rfl (by kernel_rfl) (by kernel_rfl) (by kernel_rfl) (fun _ _ _ h => h) (Or.inl ⟨by rfl, ?_⟩) (by assumption) ?_
    rotate_left
    · (intro w hSw; (try dsimp only at hSw); go_simp; try with_reducible rfl)
    try simp only [Act.put, List.setIfInBounds_toArray, List.set_cons_zero, List.set_cons_succ]
    refine wpAnyH_take (i := 7) (oi := ⟨some 29, _, _, _, _, _⟩) (v := ?_) rfl (by kernel_rfl) (by kernel_rfl) (by kernel_rfl) (fun _ _ _ h => h) (Or.inl ⟨by rfl, ?_⟩) (by assumption) ?_
    rotate_left
    · (intro w hSw; (try dsimp only at hSw); go_simp; try with_reducible rfl)
    try simp only [Act.put, List.setIfInBounds_toArray, List.set_cons_zero, List.set_cons_succ]
    refine wpAnyH_take (i := 8) (oi := ⟨some 30, _, _, _, _, _⟩) (v := ?_) rfl (by kernel_rfl) (by kernel_rfl) (by kernel_rfl) (fun _ _ _ h => h) (Or.inl ⟨by rfl, ?_⟩) (by assumption) ?_
    rotate_left
    · (intro w hSw; (try dsimp only at hSw); go_simp; try with_reducible rfl)
    try simp only [Act.put, List.setIfInBounds_toArray, List.set_cons_zero, List.set_cons_succ]
    refine wpAnyH_take (i := 12) (oi := ⟨some 34, _, _, _, _, _⟩) (v := ?_) rfl (by kernel_rfl) (by kernel_rfl) (by kernel_rfl) (fun _ _ _ h => h) (Or.inl ⟨by rfl, ?_⟩) (by assumption) ?_
    rotate_left
    · (intro w hSw; (try dsimp only at hSw); go_simp; try with_reducible rfl)
    try simp only [Act.put, List.setIfInBounds_toArray, List.set_cons_zero, List.set_cons_succ]
    refine wpAnyH_take (i := 13) (oi := ⟨some 35, _, _, _, _, _⟩) (v := ?_) rfl (by kernel_rfl) (by kernel_rfl) (by kernel_rfl) (fun _ _ _ h => h) (Or.inl ⟨by rfl, ?_⟩) (by assumption) ?_
    rotate_left
    · (intro w hSw; (try dsimp only at hSw); go_simp; try with_reducible rfl)
    try simp only [Act.put, List.setIfInBounds_toArray, List.set_cons_zero, List.set_cons_succ]
    refine wpAnyH_ready (rs := [4]) (by kernel_rfl) (by simp) ?_
    refine AllReadyH.cons rfl (fun K hK => ?_) AllReadyH.nil
    go_simp
    refine (sp _).mono ?_
    rintro e w3 ⟨rfl, g3⟩
    have hS1 := hcell _ (hS0.1.trans g3)
    refine hK.out _ _ hS1 (fun _ => ?_)
    clear hK g3 hS0
    refine wpAnyH_take (i := 5) (oi := ⟨some 27, _, _, _, _, _⟩) (v := ?_) rfl (by kernel_rfl) (by kernel_rfl) (by kernel_rfl) (fun _ _ _ h => h) (Or.inl ⟨by rfl, ?_⟩) (by assumption) ?_
    rotate_left
    · (intro w hSw; (try dsimp only at hSw); go_simp; try with_reducible rfl)
    try simp only [Act.put, List.setIfInBounds_toArray, List.set_cons_zero, List.set_cons_succ]
    refine wpAnyH_take (i := 6) (oi := ⟨some 28, _, _, _, _, _⟩) (v := ?_) rfl (by kernel_rfl) (by kernel_rfl) (by kernel_rfl) (fun _ _ _ h => h) (Or.inl ⟨by rfl, ?_⟩) (by assumption) ?_
    rotate_left
    · (intro w hSw; (try dsimp only at hSw); go_simp; try with_reducible rfl)
    try simp only [Act.put, List.setIfInBounds_toArray, List.set_cons_zero, List.set_cons_succ]
    refine wpAnyH_ready (rs := [9]) (by kernel_rfl) (by simp) ?_
    refine AllReadyH.cons rfl (fun K hK => ?_) AllReadyH.nil
    go_simp
    refine (ss _).mono ?_
    rintro e w4 ⟨rfl, g4⟩
    have hS2 := hcell _ (hS1.1.trans g4)
    refine hK.out _ _ hS2 (fun _ => ?_)
    clear hK g4 hS1
    refine wpAnyH_take (i := 10) (oi := ⟨some 32, _, _, _, _, _⟩) (v := ?_) rfl (by kernel_rfl) (by kernel_rfl) (by kernel_rfl) (fun _ _ _ h => h) (Or.inl ⟨by rfl, ?_⟩) (by assumption) ?_
    rotate_left
    · (intro w hSw; (try dsimp only at hSw); go_simp; try with_reducible rfl)
    try simp only [Act.put, List.setIfInBounds_toArray, List.set_cons_zero, List.set_cons_succ]
    refine wpAnyH_take (i := 11) (oi := ⟨some 33, _, _, _, _, _⟩) (v := ?_) rfl (by kernel_rfl) (by kernel_rfl) (by kernel_rfl) (fun _ _ _ h => h) (Or.inl ⟨by rfl, ?_⟩) (by assumption) ?_
    rotate_left
    · (intro w hSw; (try dsimp only at hSw); go_simp; try with_reducible rfl)
    try simp only [Act.put, List.setIfInBounds_toArray, List.set_cons_zero, List.set_cons_succ]
    refine wpAnyH_ready (rs := [14]) (by kernel_rfl) (by simp) ?_
    refine AllReadyH.cons rfl (fun K hK => ?_) AllReadyH.nil
    go_simp
    refine (st _).mono ?_
    rintro e w5 ⟨rfl, g5⟩
    have hS3 := hcell _ (hS2.1.trans g5)
    refine hK.out _ _ hS3 (fun _ => ?_)
    clear hK g5 hS2
    refine wpAnyH_take (i := 15) (oi := ⟨some 37, _, _, _, _, _⟩) (v := ?_) rfl (by kernel_rfl) (by kernel_rfl) (by kernel_rfl) (fun _ _ _ h => h) (Or.inl ⟨by rfl, ?_⟩) (by assumption) ?_
    rotate_left
    · (intro w hSw; (try dsimp only at hSw); go_simp; try with_reducible rfl)
    try simp only [Act.put, List.setIfInBounds_toArray, List.set_cons_zero, List.set_cons_succ]
    refine wpAnyH_take (i := 16) (oi := ⟨some 38, _, _, _, _, _⟩) (v := ?_) rfl (by kernel_rfl) (by kernel_rfl) (by kernel_rfl) (fun _ _ _ h => h) (Or.inl ⟨by rfl, ?_⟩) (by assumption) ?_
    rotate_left
    · (intro w hSw; (try dsimp only at hSw); go_simp; try with_reducible rfl)
    try simp only [Act.put, List.setIfInBounds_toArray, List.set_cons_zero, List.set_cons_succ]
    refine wpAnyH_take (i := 17) (oi := ⟨some 2, _, _, _, _, _⟩) (v := ?_) rfl (by kernel_rfl) (by kernel_rfl) (by kernel_rfl) (fun _ _ _ h => h) (Or.inl ⟨by rfl, ?_⟩) (by assumption) ?_
    rotate_left
    · (intro w hSw; (try dsimp only at hSw); go_simp; try with_reducible rfl)
    try simp only [Act.put, List.setIfInBounds_toArray, List.set_cons_zero, List.set_cons_succ]
    refine wpAnyH_done (by kernel_rfl) ?_ _
    go_wp2_with fail
    go_ret
    refine ⟨?_, hg.trans hS3.1⟩
    rw [hsl.out]
    rfl
end Go.Proofs.Ytjdpnklnhiigpaa
