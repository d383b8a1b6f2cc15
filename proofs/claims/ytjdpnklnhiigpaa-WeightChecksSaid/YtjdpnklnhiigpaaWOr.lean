/-
  LAYER 7 (weight): cmp.Or of three numbers; Compare.
-/
import Derived.Test.YtjdpnklnhiigpaaWComp
import Derived.Test.YtjdpnklnhiigpaaWFix
namespace Go.Proofs.Ytjdpnklnhiigpaa
set_option maxRecDepth 100000
open Go.RowKit Go.Lib
attribute [local go_sem] Oper.semAt_some

def or3 (a b c : Int) : Int := if a = 0 then (if b = 0 then c else b) else a

set_option maxHeartbeats 2000000 in
theorem or_three (q : Nat) (a b c : Int) (w : World) (h0 : w.cell? ⟨q, 0, none⟩ = some (.int .i64 a)) (h1 : w.cell? ⟨q, 1, none⟩ = some (.int .i64 b)) (h2 : w.cell? ⟨q, 2, none⟩ = some (.int .i64 c)) :
    Calls Try.prog 22 #[.slice (some ⟨q, 0, none⟩) 3 3] w fun e w' => e = .returned (.int .i64 (or3 a b c)) ∧ w = w' := by
  obtain ⟨n, hn⟩ : ∃ n, n = or3 a b c := ⟨_, rfl⟩
  rw [← hn]
  replace hn := Lib.hid hn
  go_enter Try.func22, Try.ntmps22
  go_wp2
  go_loopw [5, 8] (fun vx vi wr => ∃ (k : Nat), vi = .int .i64 (k : Int) ∧ k ≤ 3 ∧ Hid (wr = w) ∧ Hid ((k ≤ 0 ∨ a = 0) ∧ (k ≤ 1 ∨ b = 0) ∧ (k ≤ 2 ∨ c = 0))) (fun _ vi _ => 3 - (RowKit.intOf vi).toNat)
  case atStart => exact ⟨0, rfl, by omega, Lib.hid rfl, Lib.hid (by simp)⟩
  case round =>
    obtain ⟨k, rfl, hk, hw, hz⟩ := hrel
    obtain rfl := hw.out
    have key : k = 0 ∨ k = 1 ∨ k = 2 ∨ k = 3 := by omega
    have fin : ∀ x : Int, (k = 0 ∧ x = a ∨ k = 1 ∧ x = b ∨ k = 2 ∧ x = c) → (x = 0 ∨ x ≠ 0) := fun x _ => by omega
    clear fin
    rcases key with rfl | rfl | rfl | rfl
    · rcases (show a = 0 ∨ a ≠ 0 by omega) with rfl | hx
      · go_wp2
        exact ⟨⟨1, by go_num, by omega, Lib.hid (by trivial), Lib.hid (by simp)⟩, by simp [RowKit.intOf]⟩
      · go_wp2
        go_ret
        exact ⟨by rw [hn.out]; simp [or3, hx], rfl⟩
    · obtain ⟨z0, z1, z2⟩ := hz.out
      rcases (show b = 0 ∨ b ≠ 0 by omega) with rfl | hx
      · go_wp2
        exact ⟨⟨2, by go_num, by omega, Lib.hid (by trivial), Lib.hid (by simp at z0 z1 z2 ⊢; try simp [*])⟩, by simp [RowKit.intOf]⟩
      · go_wp2
        go_ret
        exact ⟨by rw [hn.out]; simp [or3, hx]; omega, rfl⟩
    · obtain ⟨z0, z1, z2⟩ := hz.out
      rcases (show c = 0 ∨ c ≠ 0 by omega) with rfl | hx
      · go_wp2
        exact ⟨⟨3, by go_num, by omega, Lib.hid (by trivial), Lib.hid (by simp at z0 z1 z2 ⊢; try simp [*])⟩, by simp [RowKit.intOf]⟩
      · go_wp2
        go_ret
        exact ⟨by rw [hn.out]; unfold or3; split <;> (try split) <;> first | rfl | omega, rfl⟩
    · obtain ⟨z0, z1, z2⟩ := hz.out
      go_wp2
      go_ret
      exact ⟨by rw [hn.out]; simp at z0 z1 z2; simp [or3, *], rfl⟩

set_option maxHeartbeats 4000000 in
theorem compare_any (x y : El) (w : World) : Calls Try.prog 11 #[x.agg, y.agg] w fun e w' => e = .returned (.int .i64 (elCmp x y)) ∧ w.grownBy w' none := by
  have hp := fun w => compare_int x.p y.p w
  have hs := fun w => compare_int x.s y.s w
  have ht := fun w => compare_int x.t y.t w
  have X0 := (ElAt.new w x).kept (World.grownBy_alloc _ (.cells #[.int .i64 y.p, .int .i64 y.s, .int .i64 y.t, .bool y.v] 23) none) (by simp)
  have Y0 := ElAt.new (w.alloc (.cells #[.int .i64 x.p, .int .i64 x.s, .int .i64 x.t, .bool x.v] 23)) y
  rw [World.size_alloc] at Y0
  obtain ⟨n, hn⟩ : ∃ n, n = elCmp x y := ⟨_, rfl⟩
  rw [← hn]
  have hn' : n = or3 (sgn x.p y.p) (sgn x.s y.s) (sgn x.t y.t) := hn
  clear hn
  obtain ⟨p, s, t, v⟩ := x
  obtain ⟨p2, s2, t2, v2⟩ := y
  dsimp only at *
  unfold El.agg
  dsimp only
  obtain ⟨a, ha⟩ : ∃ a, a = sgn p p2 := ⟨_, rfl⟩
  obtain ⟨b, hb⟩ : ∃ b, b = sgn s s2 := ⟨_, rfl⟩
  obtain ⟨c, hc⟩ : ∃ c, c = sgn t t2 := ⟨_, rfl⟩
  rw [← ha, ← hb, ← hc] at hn'
  rw [← ha] at hp
  rw [← hb] at hs
  rw [← hc] at ht
  clear ha hb hc
  subst hn'
  go_enter Try.func11, Try.ntmps11
  obtain ⟨W, hW⟩ : ∃ W, W = ((w.alloc (.cells #[.int .i64 p, .int .i64 s, .int .i64 t, .bool v] 23)).alloc (.cells #[.int .i64 p2, .int .i64 s2, .int .i64 t2, .bool v2] 23)) := ⟨_, rfl⟩
  have hg : w.grownBy W none := by rw [hW]; exact galloc (World.grownBy_alloc w _ none) _
  rw [← hW] at X0 Y0
  have x0 := X0.c0
  have x1 := X0.c1
  have x2 := X0.c2
  have y0 := Y0.c0
  have y1 := Y0.c1
  have y2 := Y0.c2
  dsimp only at x0 x1 x2 y0 y1 y2
  clear X0 Y0
  go_upto_region 1 with fail
  rw [← hW]
  replace hW := Lib.hid hW
  have hcell : ∀ w', W.grownBy w' none → W.grownBy w' none ∧ w'.cell? ⟨w.heap.size, 0, none⟩ = some (.int .i64 p) ∧ w'.cell? ⟨w.heap.size, 1, none⟩ = some (.int .i64 s) ∧ w'.cell? ⟨w.heap.size, 2, none⟩ = some (.int .i64 t) ∧ w'.cell? ⟨w.heap.size + 1, 0, none⟩ = some (.int .i64 p2) ∧ w'.cell? ⟨w.heap.size + 1, 1, none⟩ = some (.int .i64 s2) ∧ w'.cell? ⟨w.heap.size + 1, 2, none⟩ = some (.int .i64 t2) := fun w' h =>
    ⟨h, h.cell x0 (by simp), h.cell x1 (by simp), h.cell x2 (by simp), h.cell y0 (by simp), h.cell y1 (by simp), h.cell y2 (by simp)⟩
  have gd : W.grownBy W.drew none := gdrew (World.grownBy.refl W none)
  obtain ⟨V, hV⟩ : ∃ V, V = W.drew := ⟨_, rfl⟩
  rw [← hV] at gd
  refine wp_region_held_drew (S := fun w' => W.grownBy w' none ∧ w'.cell? ⟨w.heap.size, 0, none⟩ = some (.int .i64 p) ∧ w'.cell? ⟨w.heap.size, 1, none⟩ = some (.int .i64 s) ∧ w'.cell? ⟨w.heap.size, 2, none⟩ = some (.int .i64 t) ∧ w'.cell? ⟨w.heap.size + 1, 0, none⟩ = some (.int .i64 p2) ∧ w'.cell? ⟨w.heap.size + 1, 1, none⟩ = some (.int .i64 s2) ∧ w'.cell? ⟨w.heap.size + 1, 2, none⟩ = some (.int .i64 t2)) (by kernel_rfl) (by rw [← hV]; exact hcell _ gd) (fun hS0 => ?_)
  rw [← hV] at hS0 ⊢
  clear hV x0 x1 x2 y0 y1 y2 hW
  refine wpAnyH_take (i := 0) (oi := ⟨some 5, _, _, _, _, _⟩) (v := ?_) rfl (by kernel_rfl) (by kernel_rfl) (by kernel_rfl) (fun _ _ _ h => h) (Or.inl ⟨by rfl, ?_⟩) (by assumption) ?_
  rotate_left
  · (intro w hSw; (try dsimp only at hSw); go_simp; try with_reducible rfl)
  try simp only [Act.put, List.setIfInBounds_toArray, List.set_cons_zero, List.set_cons_succ]
  refine wpAnyH_take (i := 1) (oi := ⟨some 6, _, _, _, _, _⟩) (v := ?_) rfl (by kernel_rfl) (by kernel_rfl) (by kernel_rfl) (fun _ _ _ h => h) (Or.inl ⟨by rfl, ?_⟩) (by assumption) ?_
  rotate_left
  · (intro w hSw; (try dsimp only at hSw); go_simp; try with_reducible rfl)
  try simp only [Act.put, List.setIfInBounds_toArray, List.set_cons_zero, List.set_cons_succ]
  refine wpAnyH_take (i := 2) (oi := ⟨some 7, _, _, _, _, _⟩) (v := ?_) rfl (by kernel_rfl) (by kernel_rfl) (by kernel_rfl) (fun _ _ _ h => h) (Or.inl ⟨by rfl, ?_⟩) (by assumption) ?_
  rotate_left
  · (intro w hSw; (try dsimp only at hSw); go_simp; try with_reducible rfl)
  try simp only [Act.put, List.setIfInBounds_toArray, List.set_cons_zero, List.set_cons_succ]
  refine wpAnyH_take (i := 3) (oi := ⟨some 8, _, _, _, _, _⟩) (v := ?_) rfl (by kernel_rfl) (by kernel_rfl) (by kernel_rfl) (fun _ _ _ h => h) (Or.inl ⟨by rfl, ?_⟩) (by assumption) ?_
  rotate_left
  · (intro w hSw; (try dsimp only at hSw); go_simp; try with_reducible rfl)
  try simp only [Act.put, List.setIfInBounds_toArray, List.set_cons_zero, List.set_cons_succ]
  refine wpAnyH_take (i := 5) (oi := ⟨some 10, _, _, _, _, _⟩) (v := ?_) rfl (by kernel_rfl) (by kernel_rfl) (by kernel_rfl) (fun _ _ _ h => h) (Or.inl ⟨by rfl, ?_⟩) (by assumption) ?_
  rotate_left
  · (intro w hSw; (try dsimp only at hSw); go_simp; try with_reducible rfl)
  try simp only [Act.put, List.setIfInBounds_toArray, List.set_cons_zero, List.set_cons_succ]
  refine wpAnyH_take (i := 6) (oi := ⟨some 11, _, _, _, _, _⟩) (v := ?_) rfl (by kernel_rfl) (by kernel_rfl) (by kernel_rfl) (fun _ _ _ h => h) (Or.inl ⟨by rfl, ?_⟩) (by assumption) ?_
  rotate_left
  · (intro w hSw; (try dsimp only at hSw); go_simp; try with_reducible rfl)
  try simp only [Act.put, List.setIfInBounds_toArray, List.set_cons_zero, List.set_cons_succ]
  refine wpAnyH_take (i := 7) (oi := ⟨some 12, _, _, _, _, _⟩) (v := ?_) rfl (by kernel_rfl) (by kernel_rfl) (by kernel_rfl) (fun _ _ _ h => h) (Or.inl ⟨by rfl, ?_⟩) (by assumption) ?_
  rotate_left
  · (intro w hSw; (try dsimp only at hSw); go_simp; try with_reducible rfl)
  try simp only [Act.put, List.setIfInBounds_toArray, List.set_cons_zero, List.set_cons_succ]
  refine wpAnyH_take (i := 8) (oi := ⟨some 13, _, _, _, _, _⟩) (v := ?_) rfl (by kernel_rfl) (by kernel_rfl) (by kernel_rfl) (fun _ _ _ h => h) (Or.inl ⟨by rfl, ?_⟩) (by assumption) ?_
  rotate_left
  · (intro w hSw; (try dsimp only at hSw); go_simp; try with_reducible rfl)
  try simp only [Act.put, List.setIfInBounds_toArray, List.set_cons_zero, List.set_cons_succ]
  refine wpAnyH_take (i := 10) (oi := ⟨some 15, _, _, _, _, _⟩) (v := ?_) rfl (by kernel_rfl) (by kernel_rfl) (by kernel_rfl) (fun _ _ _ h => h) (Or.inl ⟨by rfl, ?_⟩) (by assumption) ?_
  rotate_left
  · (intro w hSw; (try dsimp only at hSw); go_simp; try with_reducible rfl)
  try simp only [Act.put, List.setIfInBounds_toArray, List.set_cons_zero, List.set_cons_succ]
  refine wpAnyH_take (i := 11) (oi := ⟨some 16, _, _, _, _, _⟩) (v := ?_) rfl (by kernel_rfl) (by kernel_rfl) (by kernel_rfl) (fun _ _ _ h => h) (Or.inl ⟨by rfl, ?_⟩) (by assumption) ?_
  rotate_left
  · (intro w hSw; (try dsimp only at hSw); go_simp; try with_reducible rfl)
  try simp only [Act.put, List.setIfInBounds_toArray, List.set_cons_zero, List.set_cons_succ]
  refine wpAnyH_take (i := 12) (oi := ⟨some 17, _, _, _, _, _⟩) (v := ?_) rfl (by kernel_rfl) (by kernel_rfl) (by kernel_rfl) (fun _ _ _ h => h) (Or.inl ⟨by rfl, ?_⟩) (by assumption) ?_
  rotate_left
  · (intro w hSw; (try dsimp only at hSw); go_simp; try with_reducible rfl)
  try simp only [Act.put, List.setIfInBounds_toArray, List.set_cons_zero, List.set_cons_succ]
  refine wpAnyH_take (i := 13) (oi := ⟨some 18, _, _, _, _, _⟩) (v := ?_) rfl (by kernel_rfl) (by kernel_rfl) (by kernel_rfl) (fun _ _ _ h => h) (Or.inl ⟨by rfl, ?_⟩) (by assumption) ?_
  rotate_left
  · (intro w hSw; (try dsimp only at hSw); go_simp; try with_reducible rfl)
  try simp only [Act.put, List.setIfInBounds_toArray, List.set_cons_zero, List.set_cons_succ]
  refine wpAnyH_ready (rs := [4]) (by kernel_rfl) (by simp) ?_
  refine AllReadyH.cons rfl (fun K hK => ?_) AllReadyH.nil
  go_simp
  refine (hp _).mono ?_
  rintro e w3 ⟨rfl, rfl⟩
  refine hK.out _ _ hS0 (fun hS1 => ?_)
  clear hK
  refine wpAnyH_ready (rs := [9]) (by kernel_rfl) (by simp) ?_
  refine AllReadyH.cons rfl (fun K hK => ?_) AllReadyH.nil
  go_simp
  refine (hs _).mono ?_
  rintro e w3 ⟨rfl, rfl⟩
  refine hK.out _ _ hS0 (fun hS1 => ?_)
  clear hK
  refine wpAnyH_ready (rs := [14]) (by kernel_rfl) (by simp) ?_
  refine AllReadyH.cons rfl (fun K hK => ?_) AllReadyH.nil
  go_simp
  refine (ht _).mono ?_
  rintro e w3 ⟨rfl, rfl⟩
  refine hK.out _ _ hS0 (fun hS1 => ?_)
  clear hK
  refine wpAnyH_ready (rs := [15]) (by kernel_rfl) (by simp) ?_
  refine AllReadyH.cons rfl (fun K hK => ?_) AllReadyH.nil
  go_simp
  have gb := galloc gd (.cells #[.int .i64 a, .int .i64 b, .int .i64 c] 3)
  refine hK.out _ _ (hcell _ gb) (fun hS2 => ?_)
  clear hK
  have hq : (V.alloc (.cells #[.int .i64 a, .int .i64 b, .int .i64 c] 3)).heap[V.heap.size]? = _ := World.alloc_heap_new _ _
  obtain ⟨X, hX⟩ : ∃ X, X = V.alloc (.cells #[.int .i64 a, .int .i64 b, .int .i64 c] 3) := ⟨_, rfl⟩
  rw [← hX] at hq gb hS2 ⊢
  clear hX
  refine wpAnyH_ready (rs := [16]) (by kernel_rfl) (by simp) ?_
  refine AllReadyH.cons rfl (fun K hK => ?_) AllReadyH.nil
  go_simp
  refine (or_three V.heap.size a b c _ (by simp [World.cell?, hq]) (by simp [World.cell?, hq]) (by simp [World.cell?, hq])).mono ?_
  rintro e w3 ⟨rfl, rfl⟩
  refine hK.out _ _ hS2 (fun hS3 => ?_)
  clear hK
  refine wpAnyH_take (i := 17) (oi := ⟨some 4, _, _, _, _, _⟩) (v := ?_) rfl (by kernel_rfl) (by kernel_rfl) (by kernel_rfl) (fun _ _ _ h => h) (Or.inl ⟨by rfl, ?_⟩) (by assumption) ?_
  rotate_left
  · (intro w hSw; (try dsimp only at hSw); go_simp; try with_reducible rfl)
  try simp only [Act.put, List.setIfInBounds_toArray, List.set_cons_zero, List.set_cons_succ]
  refine wpAnyH_done (by kernel_rfl) ?_ _
  go_wp2_with fail
  go_ret
  exact ⟨rfl, hg.trans gb⟩
end Go.Proofs.Ytjdpnklnhiigpaa
