/-
  LAYER 7 (weight): the reference's Show.
-/
import Derived.Test.YtjdpnklnhiigpaaWShowE
namespace Go.Proofs.Ytjdpnklnhiigpaa
set_option maxRecDepth 100000
open Go.RowKit Go.Lib
attribute [local go_sem] Oper.semAt_some

theorem inW_yes {x : Int} (h : inW x = true) : 0 ≤ x ∧ x ≤ 65535 := by simpa [inW] using h
theorem inW_no {x : Int} (h : inW x = false) : x < 0 ∨ (0 ≤ x ∧ 65535 < x) := by simp [inW] at h; omega

set_option maxHeartbeats 4000000 in
theorem refShow_bad (x : El) (w : World) (h : (inW x.p && inW x.s && inW x.t) = false) : Calls Try.prog 14 #[x.agg] w fun e w' => e = .returned (.string ⟨#[]⟩) ∧ w.grownBy w' none := by
  obtain ⟨p, s, t, v⟩ := x
  unfold El.agg
  dsimp only at *
  have hq : ∀ o : Obj, o = (.cells #[.int .i64 p, .int .i64 s, .int .i64 t] 3) → _ := fun o (_ : o = (.cells #[.int .i64 p, .int .i64 s, .int .i64 t] 3)) => World.alloc_heap_new (w.alloc (.cells #[.int .i64 p, .int .i64 s, .int .i64 t, .bool v] 23)) o
  have hq := hq _ rfl
  rw [World.size_alloc] at hq
  have hg : w.grownBy ((w.alloc (.cells #[.int .i64 p, .int .i64 s, .int .i64 t, .bool v] 23)).alloc (.cells #[.int .i64 p, .int .i64 s, .int .i64 t] 3)) none := galloc (World.grownBy_alloc w _ none) _
  obtain ⟨W, hW⟩ : ∃ W, W = ((w.alloc (.cells #[.int .i64 p, .int .i64 s, .int .i64 t, .bool v] 23)).alloc (.cells #[.int .i64 p, .int .i64 s, .int .i64 t] 3)) := ⟨_, rfl⟩
  rw [← hW] at hq hg
  have q0 : W.cell? ⟨w.heap.size + 1, 0, none⟩ = some (.int .i64 p) := by simp [World.cell?, hq]
  have q1 : W.cell? ⟨w.heap.size + 1, 1, none⟩ = some (.int .i64 s) := by simp [World.cell?, hq]
  have q2 : W.cell? ⟨w.heap.size + 1, 2, none⟩ = some (.int .i64 t) := by simp [World.cell?, hq]
  clear hq
  replace h := Lib.hid h
  go_enter Try.func14, Try.ntmps14
  go_wp2
  rw [← hW]
  clear hW
  go_loopw [4, 14] (fun _ vi wr => ∃ k : Nat, k ≤ 3 ∧ vi = .int .i64 (k : Int) ∧ Hid (wr = W) ∧ Hid ((0 < k → inW p = true) ∧ (1 < k → inW s = true) ∧ (2 < k → inW t = true))) (fun _ vi _ => 3 - (RowKit.intOf vi).toNat)
  case atStart => exact ⟨0, by omega, rfl, Lib.hid rfl, Lib.hid (by simp)⟩
  case round =>
    obtain ⟨k, hk, rfl, hw, hb⟩ := hrel
    obtain rfl := hw.out
    clear hw
    have key : k = 0 ∨ k = 1 ∨ k = 2 ∨ k = 3 := by omega
    rcases key with rfl | rfl | rfl | rfl
    · cases hx : inW p
      · rcases inW_no hx with h1 | ⟨h1, h2⟩
        all_goals
          go_wp2
          go_ret
          exact ⟨rfl, hg⟩
      · obtain ⟨h1, h2⟩ := inW_yes hx
        replace hx := Lib.hid hx
        go_wp2
        exact ⟨⟨1, by omega, rfl, Lib.hid (by trivial), Lib.hid ⟨fun _ => (by first | trivial | exact hx.out), fun h => by omega, fun h => by omega⟩⟩, by simp [RowKit.intOf]⟩
    · have hb0 := hb.out.1 (by omega)
      cases hx : inW s
      · rcases inW_no hx with h1 | ⟨h1, h2⟩
        all_goals
          go_wp2
          go_ret
          exact ⟨rfl, hg⟩
      · obtain ⟨h1, h2⟩ := inW_yes hx
        replace hx := Lib.hid hx
        replace hb0 := Lib.hid hb0
        go_wp2
        exact ⟨⟨2, by omega, rfl, Lib.hid (by trivial), Lib.hid ⟨fun _ => hb0.out, fun _ => (by first | trivial | exact hx.out), fun h => by omega⟩⟩, by simp [RowKit.intOf]⟩
    · have hb0 := hb.out.1 (by omega)
      have hb1 := hb.out.2.1 (by omega)
      cases hx : inW t
      · rcases inW_no hx with h1 | ⟨h1, h2⟩
        all_goals
          go_wp2
          go_ret
          exact ⟨rfl, hg⟩
      · have := h.out
        rw [hb0, hb1, hx] at this
        cases this
    · have := h.out
      rw [hb.out.1 (by omega), hb.out.2.1 (by omega), hb.out.2.2 (by omega)] at this
      cases this

set_option maxHeartbeats 4000000 in
theorem refShow_ok (p s t : Nat) (v : Bool) (w : World) (h0 : p < 65536) (h1 : s < 65536) (h2 : t < 65536) :
    Calls Try.prog 14 #[.agg #[.int .i64 (p : Int), .int .i64 (s : Int), .int .i64 (t : Int), .bool v]] w fun e w' => e = .returned (.string ⟨(showL p s t v).toArray⟩) ∧ w.grownBy w' none := by
  have sp := fun w => digits_any p h0 w
  have ss := fun w => digits_any s h1 w
  have st := fun w => digits_any t h2 w
  have hsl : Hid (showL p s t v = [91, (if v then 42 else 46)] ++ dg4 p ++ [46] ++ dg4 s ++ [46] ++ dg4 t ++ [93]) := Lib.hid rfl
  generalize showL p s t v = L at hsl ⊢
  obtain ⟨a0, a1, a2, a3, hlp⟩ : ∃ a b c d, dg4 p = [a, b, c, d] := ⟨_, _, _, _, rfl⟩
  obtain ⟨b0, b1, b2, b3, hls⟩ : ∃ a b c d, dg4 s = [a, b, c, d] := ⟨_, _, _, _, rfl⟩
  obtain ⟨c0, c1, c2, c3, hlt⟩ : ∃ a b c d, dg4 t = [a, b, c, d] := ⟨_, _, _, _, rfl⟩
  rw [hlp] at sp hsl
  rw [hls] at ss hsl
  rw [hlt] at st hsl
  clear hlp hls hlt
  have hq : ∀ o : Obj, o = (.cells #[.int .i64 (p : Int), .int .i64 (s : Int), .int .i64 (t : Int)] 3) → _ := fun o (_ : o = (.cells #[.int .i64 (p : Int), .int .i64 (s : Int), .int .i64 (t : Int)] 3)) => World.alloc_heap_new (w.alloc (.cells #[.int .i64 (p : Int), .int .i64 (s : Int), .int .i64 (t : Int), .bool v] 23)) o
  have hq := hq _ rfl
  have X0 := (ElAt.new w ⟨p, s, t, v⟩).kept (World.grownBy_alloc _ (.cells #[.int .i64 (p : Int), .int .i64 (s : Int), .int .i64 (t : Int)] 3) none) (by simp)
  dsimp only at X0
  rw [World.size_alloc] at hq
  have hg : w.grownBy ((w.alloc (.cells #[.int .i64 (p : Int), .int .i64 (s : Int), .int .i64 (t : Int), .bool v] 23)).alloc (.cells #[.int .i64 (p : Int), .int .i64 (s : Int), .int .i64 (t : Int)] 3)) none := galloc (World.grownBy_alloc w _ none) _
  obtain ⟨W, hW⟩ : ∃ W, W = ((w.alloc (.cells #[.int .i64 (p : Int), .int .i64 (s : Int), .int .i64 (t : Int), .bool v] 23)).alloc (.cells #[.int .i64 (p : Int), .int .i64 (s : Int), .int .i64 (t : Int)] 3)) := ⟨_, rfl⟩
  rw [← hW] at hq hg X0
  have q0 : W.cell? ⟨w.heap.size + 1, 0, none⟩ = some (.int .i64 (p : Int)) := by simp [World.cell?, hq]
  have q1 : W.cell? ⟨w.heap.size + 1, 1, none⟩ = some (.int .i64 (s : Int)) := by simp [World.cell?, hq]
  have q2 : W.cell? ⟨w.heap.size + 1, 2, none⟩ = some (.int .i64 (t : Int)) := by simp [World.cell?, hq]
  have hcell : ∀ w', W.grownBy w' none → W.grownBy w' none ∧ w'.cell? ⟨w.heap.size, 0, none⟩ = some (.int .i64 (p : Int)) ∧ w'.cell? ⟨w.heap.size, 1, none⟩ = some (.int .i64 (s : Int)) ∧ w'.cell? ⟨w.heap.size, 2, none⟩ = some (.int .i64 (t : Int)) := fun w' h =>
    ⟨h, h.cell X0.c0 (by simp), h.cell X0.c1 (by simp), h.cell X0.c2 (by simp)⟩
  have x3 := X0.c3
  dsimp only at x3
  clear hq X0
  go_enter Try.func14, Try.ntmps14
  go_wp2
  rw [← hW]
  clear hW
  go_loopw [4, 14] (fun _ vi wr => ∃ k : Nat, k ≤ 3 ∧ vi = .int .i64 (k : Int) ∧ Hid (wr = W)) (fun _ vi _ => 3 - (RowKit.intOf vi).toNat)
  case atStart => exact ⟨0, by omega, rfl, Lib.hid rfl⟩
  case round =>
    obtain ⟨k, hk, rfl, hw⟩ := hrel
    obtain rfl := hw.out
    clear hw
    have key : k = 0 ∨ k = 1 ∨ k = 2 ∨ k = 3 := by omega
    rcases key with rfl | rfl | rfl | rfl
    · go_wp2
      exact ⟨⟨1, by omega, rfl, Lib.hid (by trivial)⟩, by simp [RowKit.intOf]⟩
    · go_wp2
      exact ⟨⟨2, by omega, rfl, Lib.hid (by trivial)⟩, by simp [RowKit.intOf]⟩
    · go_wp2
      exact ⟨⟨3, by omega, rfl, Lib.hid (by trivial)⟩, by simp [RowKit.intOf]⟩
    · clear q0 q1 q2
      cases v
      all_goals
        go_upto_region 10 with fail
        refine wp_region_held_drew (S := fun w' => wr.grownBy w' none ∧ w'.cell? ⟨w.heap.size, 0, none⟩ = some (.int .i64 (p : Int)) ∧ w'.cell? ⟨w.heap.size, 1, none⟩ = some (.int .i64 (s : Int)) ∧ w'.cell? ⟨w.heap.size, 2, none⟩ = some (.int .i64 (t : Int))) (by kernel_rfl) (hcell _ (gdrew (World.grownBy.refl wr none))) (fun hS0 => ?_)
        obtain ⟨V, hV⟩ : ∃ V, V = wr.drew := ⟨_, rfl⟩
        rw [← hV] at hS0 ⊢
        clear hV
        refine wpAnyH_take (i := 0) (oi := ⟨some 27, _, _, _, _, _⟩) (v := ?_) rfl (by kernel_rfl) (by kernel_rfl) (by kernel_rfl) (fun _ _ _ h => h) (Or.inl ⟨by rfl, ?_⟩) (by assumption) ?_
        rotate_left
        · (intro w hSw; (try dsimp only at hSw); go_simp; try with_reducible rfl)
        try simp only [Act.put, List.setIfInBounds_toArray, List.set_cons_zero, List.set_cons_succ]
        refine wpAnyH_take (i := 1) (oi := ⟨some 28, _, _, _, _, _⟩) (v := ?_) rfl (by kernel_rfl) (by kernel_rfl) (by kernel_rfl) (fun _ _ _ h => h) (Or.inl ⟨by rfl, ?_⟩) (by assumption) ?_
        rotate_left
        · (intro w hSw; (try dsimp only at hSw); go_simp; try with_reducible rfl)
        try simp only [Act.put, List.setIfInBounds_toArray, List.set_cons_zero, List.set_cons_succ]
        refine wpAnyH_take (i := 2) (oi := ⟨some 29, _, _, _, _, _⟩) (v := ?_) rfl (by kernel_rfl) (by kernel_rfl) (by kernel_rfl) (fun _ _ _ h => h) (Or.inl ⟨by rfl, ?_⟩) (by assumption) ?_
        rotate_left
        · (intro w hSw; (try dsimp only at hSw); go_simp; try with_reducible rfl)
        try simp only [Act.put, List.setIfInBounds_toArray, List.set_cons_zero, List.set_cons_succ]
        refine wpAnyH_take (i := 6) (oi := ⟨some 33, _, _, _, _, _⟩) (v := ?_) rfl (by kernel_rfl) (by kernel_rfl) (by kernel_rfl) (fun _ _ _ h => h) (Or.inl ⟨by rfl, ?_⟩) (by assumption) ?_
        rotate_left
        · (intro w hSw; (try dsimp only at hSw); go_simp; try with_reducible rfl)
        try simp only [Act.put, List.setIfInBounds_toArray, List.set_cons_zero, List.set_cons_succ]
        refine wpAnyH_take (i := 7) (oi := ⟨some 34, _, _, _, _, _⟩) (v := ?_) rfl (by kernel_rfl) (by kernel_rfl) (by kernel_rfl) (fun _ _ _ h => h) (Or.inl ⟨by rfl, ?_⟩) (by assumption) ?_
        rotate_left
        · (intro w hSw; (try dsimp only at hSw); go_simp; try with_reducible rfl)
        try simp only [Act.put, List.setIfInBounds_toArray, List.set_cons_zero, List.set_cons_succ]
        refine wpAnyH_take (i := 11) (oi := ⟨some 38, _, _, _, _, _⟩) (v := ?_) rfl (by kernel_rfl) (by kernel_rfl) (by kernel_rfl) (fun _ _ _ h => h) (Or.inl ⟨by rfl, ?_⟩) (by assumption) ?_
        rotate_left
        · (intro w hSw; (try dsimp only at hSw); go_simp; try with_reducible rfl)
        try simp only [Act.put, List.setIfInBounds_toArray, List.set_cons_zero, List.set_cons_succ]
        refine wpAnyH_take (i := 12) (oi := ⟨some 39, _, _, _, _, _⟩) (v := ?_) rfl (by kernel_rfl) (by kernel_rfl) (by kernel_rfl) (fun _ _ _ h => h) (Or.inl ⟨by rfl, ?_⟩) (by assumption) ?_
        rotate_left
        · (intro w hSw; (try dsimp only at hSw); go_simp; try with_reducible rfl)
        try simp only [Act.put, List.setIfInBounds_toArray, List.set_cons_zero, List.set_cons_succ]
        refine wpAnyH_ready (rs := [3]) (by kernel_rfl) (by simp) ?_
        refine AllReadyH.cons rfl (fun K hK => ?_) AllReadyH.nil
        go_simp
        refine (sp _).mono ?_
        rintro e w3 ⟨rfl, g3⟩
        have hS1 := hcell _ (hS0.1.trans g3)
        refine hK.out _ _ hS1 (fun _ => ?_)
        clear hK g3 hS0
        refine wpAnyH_take (i := 4) (oi := ⟨some 31, _, _, _, _, _⟩) (v := ?_) rfl (by kernel_rfl) (by kernel_rfl) (by kernel_rfl) (fun _ _ _ h => h) (Or.inl ⟨by rfl, ?_⟩) (by assumption) ?_
        rotate_left
        · (intro w hSw; (try dsimp only at hSw); go_simp; try with_reducible rfl)
        try simp only [Act.put, List.setIfInBounds_toArray, List.set_cons_zero, List.set_cons_succ]
        refine wpAnyH_take (i := 5) (oi := ⟨some 32, _, _, _, _, _⟩) (v := ?_) rfl (by kernel_rfl) (by kernel_rfl) (by kernel_rfl) (fun _ _ _ h => h) (Or.inl ⟨by rfl, ?_⟩) (by assumption) ?_
        rotate_left
        · (intro w hSw; (try dsimp only at hSw); go_simp; try with_reducible rfl)
        try simp only [Act.put, List.setIfInBounds_toArray, List.set_cons_zero, List.set_cons_succ]
        refine wpAnyH_ready (rs := [8]) (by kernel_rfl) (by simp) ?_
        refine AllReadyH.cons rfl (fun K hK => ?_) AllReadyH.nil
        go_simp
        refine (ss _).mono ?_
        rintro e w4 ⟨rfl, g4⟩
        have hS2 := hcell _ (hS1.1.trans g4)
        refine hK.out _ _ hS2 (fun _ => ?_)
        clear hK g4 hS1
        refine wpAnyH_take (i := 9) (oi := ⟨some 36, _, _, _, _, _⟩) (v := ?_) rfl (by kernel_rfl) (by kernel_rfl) (by kernel_rfl) (fun _ _ _ h => h) (Or.inl ⟨by rfl, ?_⟩) (by assumption) ?_
        rotate_left
        · (intro w hSw; (try dsimp only at hSw); go_simp; try with_reducible rfl)
        try simp only [Act.put, List.setIfInBounds_toArray, List.set_cons_zero, List.set_cons_succ]
        refine wpAnyH_take (i := 10) (oi := ⟨some 37, _, _, _, _, _⟩) (v := ?_) rfl (by kernel_rfl) (by kernel_rfl) (by kernel_rfl) (fun _ _ _ h => h) (Or.inl ⟨by rfl, ?_⟩) (by assumption) ?_
        rotate_left
        · (intro w hSw; (try dsimp only at hSw); go_simp; try with_reducible rfl)
        try simp only [Act.put, List.setIfInBounds_toArray, List.set_cons_zero, List.set_cons_succ]
        refine wpAnyH_ready (rs := [13]) (by kernel_rfl) (by simp) ?_
        refine AllReadyH.cons rfl (fun K hK => ?_) AllReadyH.nil
        go_simp
        refine (st _).mono ?_
        rintro e w5 ⟨rfl, g5⟩
        have hS3 := hcell _ (hS2.1.trans g5)
        refine hK.out _ _ hS3 (fun _ => ?_)
        clear hK g5 hS2
        refine wpAnyH_take (i := 14) (oi := ⟨some 41, _, _, _, _, _⟩) (v := ?_) rfl (by kernel_rfl) (by kernel_rfl) (by kernel_rfl) (fun _ _ _ h => h) (Or.inl ⟨by rfl, ?_⟩) (by assumption) ?_
        rotate_left
        · (intro w hSw; (try dsimp only at hSw); go_simp; try with_reducible rfl)
        try simp only [Act.put, List.setIfInBounds_toArray, List.set_cons_zero, List.set_cons_succ]
        refine wpAnyH_take (i := 15) (oi := ⟨some 42, _, _, _, _, _⟩) (v := ?_) rfl (by kernel_rfl) (by kernel_rfl) (by kernel_rfl) (fun _ _ _ h => h) (Or.inl ⟨by rfl, ?_⟩) (by assumption) ?_
        rotate_left
        · (intro w hSw; (try dsimp only at hSw); go_simp; try with_reducible rfl)
        try simp only [Act.put, List.setIfInBounds_toArray, List.set_cons_zero, List.set_cons_succ]
        refine wpAnyH_take (i := 16) (oi := ⟨some 2, _, _, _, _, _⟩) (v := ?_) rfl (by kernel_rfl) (by kernel_rfl) (by kernel_rfl) (fun _ _ _ h => h) (Or.inl ⟨by rfl, ?_⟩) (by assumption) ?_
        rotate_left
        · (intro w hSw; (try dsimp only at hSw); go_simp; try with_reducible rfl)
        try simp only [Act.put, List.setIfInBounds_toArray, List.set_cons_zero, List.set_cons_succ]
        refine wpAnyH_done (by kernel_rfl) ?_ _
        go_wp2_with fail
        go_ret
        refine ⟨?_, hg.trans hS3.1⟩
        rw [hsl.out]
        rfl
end Go.Proofs.Ytjdpnklnhiigpaa
