/-
  LAYER 6 (norm): the reference's Order.
-/
import Derived.Test.YtpdacbiiaglodaaGreatQG31
import Derived.Test.YtpdacbiiaglodaaGreatQG23
import Derived.Test.YtpdacbiiaglodaaGreatQG32
import Derived.Deep.RegionHeld
import Derived.IntWalk
namespace Go.Proofs.YtpdacbiiaglodaaGreat
set_option maxRecDepth 100000
open Go.RowKit Go.Lib

theorem insB_at (f : Int → Int) (r : Int) : ∀ (P Q : List Int), (∀ y ∈ P, 0 < f r ∧ f r < f y) → (∀ y, Q.head? = some y → ¬ (0 < f r ∧ f r < f y)) → insB f r (P ++ Q) = P ++ r :: Q
  | [], [], _, _ => rfl
  | [], y :: t, _, h => by rw [List.nil_append, insB, if_neg (h y rfl)]; rfl
  | x :: t, Q, h1, h2 => by
    rw [List.cons_append, insB, if_pos (h1 x (by simp)), insB_at f r t Q (fun y hy => h1 y (by simp [hy])) h2]
    rfl
theorem insR_at (f : Int → Int) (r : Int) (out : List Int) (k : Nat) (h1 : ∀ y ∈ out.drop k, 0 < f r ∧ f r < f y) (h2 : ∀ y, (out.take k).getLast? = some y → ¬ (0 < f r ∧ f r < f y)) : insR f out r = out.take k ++ r :: out.drop k := by
  have e : out.reverse = (out.drop k).reverse ++ (out.take k).reverse := by rw [← List.reverse_append, List.take_append_drop]
  rw [insR, e, insB_at f r _ _ (fun y hy => h1 y (by simpa using hy)) (fun y hy => h2 y (by simpa [List.head?_reverse] using hy))]
  simp
theorem ord_snoc (f : Int → Int) (l : List Int) (x : Int) : ord f (l ++ [x]) = insR f (ord f l) x := by simp [ord, List.foldl_append]

theorem own_one (x : Int) (w : World) : OwnN (w.alloc (.cells #[.int .i32 x] 21)) w.heap.size (.slice (some ⟨w.heap.size, 0, none⟩) 1 1) [x] :=
  ⟨rfl, .inr ⟨_, 1, _, rfl, Nat.le_refl _, World.alloc_heap_new w _, Nat.le_refl _, by unfold maxLen; omega, rfl, rfl⟩⟩

set_option maxHeartbeats 8000000 in
theorem rOrder_any (vc vd v : Value) (c : List Cls) (d : List Dec) (l : List Int) (w : World) (hT : Dat w vc vd c d) (hR : RS w v l) (hl : l.length ≤ 1048576) :
    Calls Tryz.prog 71 #[.agg #[vc, vd], v] w fun e w' => ∃ v', e = .returned v' ∧ OwnN w' w.heap.size v' (ord (clsOf c) l) ∧ w.grownBy w' none := by
  obtain ⟨a0, c0, rfl, _⟩ := id hR
  have hC := fun W (hg : w.grownBy W none) r => rCls_any vc vd c d r W (hT.all hg)
  have hRg := fun W (hg : w.grownBy W none) => hR.new hg
  obtain ⟨a1, c1, rfl, _, _⟩ := hT.1.form
  obtain ⟨a2, c2, rfl, _, _⟩ := hT.2.form
  generalize c.length = cl at hC ⊢
  generalize d.length = dl at hC ⊢
  generalize clsOf c = f at hC ⊢
  have htake : ∀ i x, l[i]? = some x → ord f (l.take (i + 1)) = insR f (ord f (l.take i)) x := fun i x hx => by
    obtain ⟨h, e⟩ := List.getElem?_eq_some_iff.1 hx
    rw [List.take_succ_eq_append_getElem h, e, ord_snoc]
  have hlen : ∀ i, i ≤ l.length → (ord f (l.take i)).length = i := fun i h => by rw [ord_length, List.length_take]; omega
  have hfin : ord f (l.take l.length) = ord f l := by rw [List.take_length]
  have hnil : ord f (l.take 0) = [] := rfl
  generalize hOr : ord f l = OL at hfin ⊢
  generalize hO : (fun i => ord f (l.take i)) = O at *
  have hO' : ∀ i, ord f (l.take i) = O i := fun i => by rw [← hO]
  simp only [hO'] at htake hlen hfin hnil
  clear hOr hO hO' hT hR
  obtain ⟨n, hn⟩ : ∃ n, n = l.length := ⟨_, rfl⟩
  rw [← hn] at hl hRg hlen hfin ⊢
  replace hRg := Lib.hid hRg
  replace hC := Lib.hid hC
  replace htake := Lib.hid htake
  replace hlen := Lib.hid hlen
  replace hnil := Lib.hid hnil
  replace hfin := Lib.hid hfin
  have HN := Lib.hid hn
  clear hn
  obtain ⟨w1, hw1⟩ : ∃ w1, w1 = w.alloc (.cells #[.slice a1 cl c1, .slice a2 dl c2] 59) := ⟨_, rfl⟩
  have hg1 : w.grownBy w1 none := by rw [hw1]; exact World.grownBy_alloc _ _ none
  have hk1 : w1.heap[w.heap.size]? = some (.cells #[.slice a1 cl c1, .slice a2 dl c2] 59 (0, 0)) := by rw [hw1]; exact World.alloc_heap_new _ _
  have hs1 : w.heap.size < w1.heap.size := by rw [hw1, World.size_alloc]; omega
  have hB : Hid (∀ V, w1.grownBy V none → V.cell? ⟨w.heap.size, 0, none⟩ = some (.slice a1 cl c1) ∧ V.cell? ⟨w.heap.size, 1, none⟩ = some (.slice a2 dl c2)) := Lib.hid fun V hg => by
    have := (hg.block w.heap.size hs1 (by simp)).trans hk1
    exact ⟨by simp [World.cell?, this], by simp [World.cell?, this]⟩
  have hCl : Hid (∀ V, w1.grownBy V none → ∀ r : Int, Calls Tryz.prog 40 #[.agg #[.slice a1 cl c1, .slice a2 dl c2], .int .i32 r] V fun e w' => e = .returned (.int .i64 (f r)) ∧ V.grownBy w' none) := Lib.hid fun V hg => hC.out V (hg1.trans hg)
  have hL : Hid (∀ V, w1.grownBy V none → RS V (.slice a0 n c0) l) := Lib.hid fun V hg => hRg.out V (hg1.trans hg)
  replace hg1 := Lib.hid hg1
  replace hw1 := Lib.hid hw1
  clear hk1 hRg hC
  go_enter Tryz.func71, Tryz.ntmps71
  go_wp2_with fail
  rw [← hw1.out]
  generalize w.heap.size = bx at *
  go_loopw [5, 6] (fun v5 v6 wr => ∃ i : Nat, v6 = .int .i64 (i : Int) ∧ i ≤ n ∧ OwnN wr w1.heap.size v5 (O i) ∧ w1.grownBy wr none) (fun _ v6 _ => n - (RowKit.intOf v6).toNat)
  case atStart => exact ⟨0, rfl, Nat.zero_le _, by rw [hnil.out]; exact OwnN.none _ _, World.grownBy.refl _ _⟩
  case round =>
    obtain ⟨i, rfl, hi, hown, hg⟩ := hrel
    by_cases hlt : i < n
    · obtain ⟨x, hx⟩ : ∃ x, l[i]? = some x := ⟨_, List.getElem?_eq_getElem (by have := HN.out; omega)⟩
      have hti := Lib.hid (htake.out i x hx)
      have hle := Lib.hid (hlen.out i hi)
      obtain ⟨b0, o0, rfl, hcx⟩ := RS.cell (hL.out _ hg) hx
      have hcX : Hid (∀ V, w1.grownBy V none → V.cell? ⟨b0, o0 + i, none⟩ = some (.int .i32 x)) := Lib.hid fun V hg => by
        obtain ⟨b', o', e, h⟩ := RS.cell (hL.out V hg) hx
        cases e
        exact h
      obtain ⟨a5, c5, rfl⟩ := hown.form
      generalize O i = L at *
      rw [hle.out]
      have gd := hg.trans (gdrew (World.grownBy.refl wr none))
      obtain ⟨k0, k1⟩ := hB.out _ gd
      have hCx := hCl.out _ gd x
      have hcx := hcX.out _ gd
      replace hown := Lib.hid hown
      clear hx
      go_wp2_with fail
      refine wp_region_held_drew (S := fun V => wr.grownBy V none ∧ V.cell? ⟨bx, 0, none⟩ = some (.slice a1 cl c1) ∧ V.cell? ⟨bx, 1, none⟩ = some (.slice a2 dl c2) ∧ V.cell? ⟨b0, o0 + i, none⟩ = some (.int .i32 x)) (by kernel_rfl) ⟨gdrew (World.grownBy.refl wr none), k0, k1, hcx⟩ (fun hS0 => ?_)
      refine wpAnyH_take (i := 0) (oi := ⟨some 17, _, _, _, _, _⟩) (v := ?_) rfl (by kernel_rfl) (by kernel_rfl) (by kernel_rfl) (fun _ _ _ h => h) (Or.inl ⟨by rfl, ?_⟩) (by assumption) ?_
      rotate_left
      · (intro w hSw; (try dsimp only at hSw); go_simp; try with_reducible rfl)
      try simp only [Act.put, List.setIfInBounds_toArray, List.set_cons_zero, List.set_cons_succ]
      refine wpAnyH_take (i := 1) (oi := ⟨some 18, _, _, _, _, _⟩) (v := ?_) rfl (by kernel_rfl) (by kernel_rfl) (by kernel_rfl) (fun _ _ _ h => h) (Or.inl ⟨by rfl, ?_⟩) (by assumption) ?_
      rotate_left
      · (intro w hSw; (try dsimp only at hSw); go_simp; try with_reducible rfl)
      try simp only [Act.put, List.setIfInBounds_toArray, List.set_cons_zero, List.set_cons_succ]
      refine wpAnyH_take (i := 2) (oi := ⟨some 19, _, _, _, _, _⟩) (v := ?_) rfl (by kernel_rfl) (by kernel_rfl) (by kernel_rfl) (fun _ _ _ h => h) (Or.inl ⟨by rfl, ?_⟩) (by assumption) ?_
      rotate_left
      · (intro w hSw; (try dsimp only at hSw); go_simp; try with_reducible rfl)
      try simp only [Act.put, List.setIfInBounds_toArray, List.set_cons_zero, List.set_cons_succ]
      refine wpAnyH_take (i := 3) (oi := ⟨some 20, _, _, _, _, _⟩) (v := ?_) rfl (by kernel_rfl) (by kernel_rfl) (by kernel_rfl) (fun _ _ _ h => h) (Or.inl ⟨by rfl, ?_⟩) (by assumption) ?_
      rotate_left
      · (intro w hSw; (try dsimp only at hSw); go_simp; try with_reducible rfl)
      try simp only [Act.put, List.setIfInBounds_toArray, List.set_cons_zero, List.set_cons_succ]
      refine wpAnyH_take (i := 4) (oi := ⟨some 21, _, _, _, _, _⟩) (v := ?_) rfl (by kernel_rfl) (by kernel_rfl) (by kernel_rfl) (fun _ _ _ h => h) (Or.inl ⟨by rfl, ?_⟩) (by assumption) ?_
      rotate_left
      · (intro w hSw; (try dsimp only at hSw); go_simp; try with_reducible rfl)
      try simp only [Act.put, List.setIfInBounds_toArray, List.set_cons_zero, List.set_cons_succ]
      refine wpAnyH_ready (rs := [5]) (by kernel_rfl) (by simp) ?_
      refine AllReadyH.cons rfl (fun K hK => ?_) AllReadyH.nil
      go_simp
      refine hCx.mono ?_
      rintro e w2 ⟨rfl, hg2⟩
      have hS6 := And.intro ((gdrew (World.grownBy.refl wr none)).trans hg2) (And.intro (hg2.cell k0 (by simp)) (And.intro (hg2.cell k1 (by simp)) (hg2.cell hcx (by simp))))
      go_wp2_with fail
      refine hK.out _ _ hS6 (fun hS7 => ?_)
      clear hK
      refine wpAnyH_ready (rs := [6]) (by kernel_rfl) (by simp) ?_
      refine AllReadyH.cons rfl (fun K hK => ?_) AllReadyH.nil
      go_simp
      refine hK.out _ _ hS7 (fun hS8 => ?_)
      clear hK
      refine wpAnyH_done (by kernel_rfl) ?_ _
      have hgw := hg.trans hS6.1
      have hown2 := Lib.hid (hown.out.kept hS6.1 (by simp))
      clear hS0 hS6 hS7 hS8 k0 k1 hcx gd hg2 hCx hown hg
      have hcap : Hid (i ≤ c5) := Lib.hid (by obtain ⟨a', c', e, q1, _⟩ := hown2.out.ro; cases e; have := hle.out; omega)
      go_wp2_with fail
      go_loopw [7] (fun v7 wr => ∃ k : Nat, v7 = .int .i64 (k : Int) ∧ k ≤ i ∧ Hid (∀ y ∈ L.drop k, 0 < f x ∧ f x < f y) ∧ w2.grownBy wr none) (fun v7 _ => (RowKit.intOf v7).toNat)
      case atStart => exact ⟨i, rfl, Nat.le_refl _, Lib.hid (by rw [List.drop_eq_nil_of_le (by have := hle.out; omega)]; simp), World.grownBy.refl _ _⟩
      case round =>
        obtain ⟨k, rfl, hki, hab, hg3⟩ := hrel
        by_cases h0 : 0 < f x
        · have hz : decide (0 < f x) = true := by simpa using h0
          by_cases hk0 : k = 0
          · have hins : Hid (O (i + 1) = L.take k ++ x :: L.drop k) := Lib.hid (by rw [hti.out]; exact insR_at f x L k hab.out (fun y h => by rw [hk0] at h; simp at h))
            have hg5 := hg3.trans (gdrew (World.grownBy.refl wr none))
            have hkb : decide (0 < k) = false := by simp; omega
            clear h0 hk0
            go_wp2_with fail
            refine wp_region_held_drew (S := fun V => w2.grownBy V none) (by kernel_rfl) hg5 (fun hS0 => ?_)
            refine wpAnyH_take (i := 0) (oi := ⟨some 23, _, _, _, _, _⟩) (v := ?_) rfl (by kernel_rfl) (by kernel_rfl) (by kernel_rfl) (fun _ _ _ h => h) (Or.inl ⟨by rfl, ?_⟩) (by assumption) ?_
            rotate_left
            · (intro w hSw; (try dsimp only at hSw); go_simp; try with_reducible rfl)
            try simp only [Act.put, List.setIfInBounds_toArray, List.set_cons_zero, List.set_cons_succ]
            refine wpAnyH_take (i := 1) (oi := ⟨some 24, _, _, _, _, _⟩) (v := ?_) rfl (by kernel_rfl) (by kernel_rfl) (by kernel_rfl) (fun _ _ _ h => h) (Or.inl ⟨by rfl, ?_⟩) (by assumption) ?_
            rotate_left
            · (intro w hSw; (try dsimp only at hSw); go_simp; try with_reducible rfl)
            try simp only [Act.put, List.setIfInBounds_toArray, List.set_cons_zero, List.set_cons_succ]
            refine wpAnyH_take (i := 2) (oi := ⟨some 25, _, _, _, _, _⟩) (v := ?_) rfl (by kernel_rfl) (by kernel_rfl) (by kernel_rfl) (fun _ _ _ h => h) (Or.inl ⟨by rfl, ?_⟩) (by assumption) ?_
            rotate_left
            · (intro w hSw; (try dsimp only at hSw); go_simp; try with_reducible rfl)
            try simp only [Act.put, List.setIfInBounds_toArray, List.set_cons_zero, List.set_cons_succ]
            refine wpAnyH_take (i := 3) (oi := ⟨some 26, _, _, _, _, _⟩) (v := ?_) rfl (by kernel_rfl) (by kernel_rfl) (by kernel_rfl) (fun _ _ _ h => h) (Or.inl ⟨by rfl, ?_⟩) (by assumption) ?_
            rotate_left
            · (intro w hSw; (try dsimp only at hSw); go_simp; try with_reducible rfl)
            try simp only [Act.put, List.setIfInBounds_toArray, List.set_cons_zero, List.set_cons_succ]
            refine wpAnyH_take (i := 4) (oi := ⟨some 27, _, _, _, _, _⟩) (v := ?_) rfl (by kernel_rfl) (by kernel_rfl) (by kernel_rfl) (fun _ _ _ h => h) (Or.inl ⟨by rfl, ?_⟩) (by assumption) ?_
            rotate_left
            · (intro w hSw; (try dsimp only at hSw); go_simp; try with_reducible rfl)
            try simp only [Act.put, List.setIfInBounds_toArray, List.set_cons_zero, List.set_cons_succ]
            refine wpAnyH_take (i := 5) (oi := ⟨some 28, _, _, _, _, _⟩) (v := ?_) rfl (by kernel_rfl) (by kernel_rfl) (by kernel_rfl) (fun _ _ _ h => h) (Or.inl ⟨by rfl, ?_⟩) (by assumption) ?_
            rotate_left
            · (intro w hSw; (try dsimp only at hSw); go_simp; try with_reducible rfl)
            try simp only [Act.put, List.setIfInBounds_toArray, List.set_cons_zero, List.set_cons_succ]
            refine wpAnyH_take (i := 6) (oi := ⟨some 29, _, _, _, _, _⟩) (v := ?_) rfl (by kernel_rfl) (by kernel_rfl) (by kernel_rfl) (fun _ _ _ h => h) (Or.inl ⟨by rfl, ?_⟩) (by assumption) ?_
            rotate_left
            · (intro w hSw; (try dsimp only at hSw); go_simp; try with_reducible rfl)
            try simp only [Act.put, List.setIfInBounds_toArray, List.set_cons_zero, List.set_cons_succ]
            refine wpAnyH_take (i := 7) (oi := ⟨some 30, _, _, _, _, _⟩) (v := undef) rfl (by kernel_rfl) (by kernel_rfl) (by kernel_rfl) (fun _ _ _ h => h) (Or.inr ⟨by rfl, rfl⟩) (by assumption) ?_
            try simp only [Act.put, List.setIfInBounds_toArray, List.set_cons_zero, List.set_cons_succ]
            refine wpAnyH_take (i := 8) (oi := ⟨some 31, _, _, _, _, _⟩) (v := undef) rfl (by kernel_rfl) (by kernel_rfl) (by kernel_rfl) (fun _ _ _ h => h) (Or.inr ⟨by rfl, rfl⟩) (by assumption) ?_
            try simp only [Act.put, List.setIfInBounds_toArray, List.set_cons_zero, List.set_cons_succ]
            refine wpAnyH_take (i := 9) (oi := ⟨some 32, _, _, _, _, _⟩) (v := undef) rfl (by kernel_rfl) (by kernel_rfl) (by kernel_rfl) (fun _ _ _ h => h) (Or.inr ⟨by rfl, rfl⟩) (by assumption) ?_
            try simp only [Act.put, List.setIfInBounds_toArray, List.set_cons_zero, List.set_cons_succ]
            refine wpAnyH_take (i := 10) (oi := ⟨some 33, _, _, _, _, _⟩) (v := undef) rfl (by kernel_rfl) (by kernel_rfl) (by kernel_rfl) (fun _ _ _ h => h) (Or.inr ⟨by rfl, rfl⟩) (by assumption) ?_
            try simp only [Act.put, List.setIfInBounds_toArray, List.set_cons_zero, List.set_cons_succ]
            refine wpAnyH_take (i := 11) (oi := ⟨some 34, _, _, _, _, _⟩) (v := undef) rfl (by kernel_rfl) (by kernel_rfl) (by kernel_rfl) (fun _ _ _ h => h) (Or.inr ⟨by rfl, rfl⟩) (by assumption) ?_
            try simp only [Act.put, List.setIfInBounds_toArray, List.set_cons_zero, List.set_cons_succ]
            refine wpAnyH_take (i := 12) (oi := ⟨some 35, _, _, _, _, _⟩) (v := undef) rfl (by kernel_rfl) (by kernel_rfl) (by kernel_rfl) (fun _ _ _ h => h) (Or.inr ⟨by rfl, rfl⟩) (by assumption) ?_
            try simp only [Act.put, List.setIfInBounds_toArray, List.set_cons_zero, List.set_cons_succ]
            refine wpAnyH_take (i := 13) (oi := ⟨some 36, _, _, _, _, _⟩) (v := undef) rfl (by kernel_rfl) (by kernel_rfl) (by kernel_rfl) (fun _ _ _ h => h) (Or.inr ⟨by rfl, rfl⟩) (by assumption) ?_
            try simp only [Act.put, List.setIfInBounds_toArray, List.set_cons_zero, List.set_cons_succ]
            refine wpAnyH_take (i := 14) (oi := ⟨some 37, _, _, _, _, _⟩) (v := undef) rfl (by kernel_rfl) (by kernel_rfl) (by kernel_rfl) (fun _ _ _ h => h) (Or.inr ⟨by rfl, rfl⟩) (by assumption) ?_
            try simp only [Act.put, List.setIfInBounds_toArray, List.set_cons_zero, List.set_cons_succ]
            refine wpAnyH_take (i := 15) (oi := ⟨some 38, _, _, _, _, _⟩) (v := undef) rfl (by kernel_rfl) (by kernel_rfl) (by kernel_rfl) (fun _ _ _ h => h) (Or.inr ⟨by rfl, rfl⟩) (by assumption) ?_
            try simp only [Act.put, List.setIfInBounds_toArray, List.set_cons_zero, List.set_cons_succ]
            refine wpAnyH_take (i := 16) (oi := ⟨some 39, _, _, _, _, _⟩) (v := ?_) rfl (by kernel_rfl) (by kernel_rfl) (by kernel_rfl) (fun _ _ _ h => h) (Or.inl ⟨by rfl, ?_⟩) (by assumption) ?_
            rotate_left
            · (intro w hSw; (try dsimp only at hSw); go_simp; try with_reducible rfl)
            try simp only [Act.put, List.setIfInBounds_toArray, List.set_cons_zero, List.set_cons_succ]
            refine wpAnyH_done (by kernel_rfl) ?_ _
            clear hS0 hz hkb
            generalize wr.drew = W5 at hg5 ⊢
            have gd9 := gdrew (World.grownBy.refl W5 none)
            have hcx9 := hcX.out _ ((hgw.trans hg5).trans gd9)
            have hown9 := Lib.hid (hown2.out.kept (hg5.trans gd9) (by simp))
            have hlo := fun w => run_rs_hm a5 i c5 k (by have := hcap.out; omega) w
            have hhi := fun w => run_rs_lo a5 i c5 k (by omega) w
            clear hg3 hab
            go_wp2_with fail
            refine wp_region_held_drew (S := fun V => W5.grownBy V none ∧ V.cell? ⟨b0, o0 + i, none⟩ = some (.int .i32 x)) (by kernel_rfl) ⟨gd9, hcx9⟩ (fun hS0 => ?_)
            refine wpAnyH_take (i := 0) (oi := ⟨some 42, _, _, _, _, _⟩) (v := ?_) rfl (by kernel_rfl) (by kernel_rfl) (by kernel_rfl) (fun _ _ _ h => h) (Or.inl ⟨by rfl, ?_⟩) (by assumption) ?_
            rotate_left
            · (intro w hSw; (try dsimp only at hSw); go_simp; try with_reducible rfl)
            try simp only [Act.put, List.setIfInBounds_toArray, List.set_cons_zero, List.set_cons_succ]
            refine wpAnyH_take (i := 1) (oi := ⟨some 43, _, _, _, _, _⟩) (v := ?_) rfl (by kernel_rfl) (by kernel_rfl) (by kernel_rfl) (fun _ _ _ h => h) (Or.inl ⟨by rfl, ?_⟩) (by assumption) ?_
            rotate_left
            · (intro w hSw; (try dsimp only at hSw); go_simp; try with_reducible rfl)
            try simp only [Act.put, List.setIfInBounds_toArray, List.set_cons_zero, List.set_cons_succ]
            refine wpAnyH_take (i := 2) (oi := ⟨some 44, _, _, _, _, _⟩) (v := ?_) rfl (by kernel_rfl) (by kernel_rfl) (by kernel_rfl) (fun _ _ _ h => h) (Or.inl ⟨by rfl, ?_⟩) (by assumption) ?_
            rotate_left
            · (intro w hSw; (try dsimp only at hSw); go_simp; try with_reducible rfl)
            try simp only [Act.put, List.setIfInBounds_toArray, List.set_cons_zero, List.set_cons_succ]
            refine wpAnyH_take (i := 3) (oi := ⟨some 45, _, _, _, _, _⟩) (v := ?_) rfl (by kernel_rfl) (by kernel_rfl) (by kernel_rfl) (fun _ _ _ h => h) (Or.inl ⟨by rfl, ?_⟩) (by assumption) ?_
            rotate_left
            · (intro w hSw; (try dsimp only at hSw); go_simp; try with_reducible rfl)
            try simp only [Act.put, List.setIfInBounds_toArray, List.set_cons_zero, List.set_cons_succ]
            refine wpAnyH_take (i := 4) (oi := ⟨some 46, _, _, _, _, _⟩) (v := ?_) rfl (by kernel_rfl) (by kernel_rfl) (by kernel_rfl) (fun _ _ _ h => h) (Or.inl ⟨by rfl, ?_⟩) (by assumption) ?_
            rotate_left
            · (intro w hSw; (try dsimp only at hSw); go_simp; try with_reducible rfl)
            try simp only [Act.put, List.setIfInBounds_toArray, List.set_cons_zero, List.set_cons_succ]
            refine wpAnyH_take (i := 5) (oi := ⟨some 47, _, _, _, _, _⟩) (v := ?_) rfl (by kernel_rfl) (by kernel_rfl) (by kernel_rfl) (fun _ _ _ h => h) (Or.inl ⟨by rfl, ?_⟩) (by assumption) ?_
            rotate_left
            · (intro w hSw; (try dsimp only at hSw); go_simp; try with_reducible rfl)
            try simp only [Act.put, List.setIfInBounds_toArray, List.set_cons_zero, List.set_cons_succ]
            refine wpAnyH_take (i := 6) (oi := ⟨some 48, _, _, _, _, _⟩) (v := ?_) rfl (by kernel_rfl) (by kernel_rfl) (by kernel_rfl) (fun _ _ _ h => h) (Or.inl ⟨by rfl, ?_⟩) (by assumption) ?_
            rotate_left
            · (intro w hSw; (try dsimp only at hSw); go_simp; try with_reducible rfl)
            try simp only [Act.put, List.setIfInBounds_toArray, List.set_cons_zero, List.set_cons_succ]
            refine wpAnyH_take (i := 7) (oi := ⟨some 49, _, _, _, _, _⟩) (v := ?_) rfl (by kernel_rfl) (by kernel_rfl) (by kernel_rfl) (fun _ _ _ h => h) (Or.inl ⟨by rfl, ?_⟩) (by assumption) ?_
            rotate_left
            · (intro w hSw; (try dsimp only at hSw); go_simp; try with_reducible rfl)
            try simp only [Act.put, List.setIfInBounds_toArray, List.set_cons_zero, List.set_cons_succ]
            refine wpAnyH_take (i := 9) (oi := ⟨some 51, _, _, _, _, _⟩) (v := ?_) rfl (by kernel_rfl) (by kernel_rfl) (by kernel_rfl) (fun _ _ _ h => h) (Or.inl ⟨by rfl, ?_⟩) (by assumption) ?_
            rotate_left
            · (intro w hSw; (try dsimp only at hSw); go_simp; try with_reducible rfl)
            try simp only [Act.put, List.setIfInBounds_toArray, List.set_cons_zero, List.set_cons_succ]
            refine wpAnyH_take (i := 10) (oi := ⟨some 52, _, _, _, _, _⟩) (v := ?_) rfl (by kernel_rfl) (by kernel_rfl) (by kernel_rfl) (fun _ _ _ h => h) (Or.inl ⟨by rfl, ?_⟩) (by assumption) ?_
            rotate_left
            · (intro w hSw; (try dsimp only at hSw); go_simp; try with_reducible rfl)
            try simp only [Act.put, List.setIfInBounds_toArray, List.set_cons_zero, List.set_cons_succ]
            refine wpAnyH_take (i := 11) (oi := ⟨some 53, _, _, _, _, _⟩) (v := ?_) rfl (by kernel_rfl) (by kernel_rfl) (by kernel_rfl) (fun _ _ _ h => h) (Or.inl ⟨by rfl, ?_⟩) (by assumption) ?_
            rotate_left
            · (intro w hSw; (try dsimp only at hSw); go_simp; try with_reducible rfl)
            try simp only [Act.put, List.setIfInBounds_toArray, List.set_cons_zero, List.set_cons_succ]
            refine wpAnyH_ready (rs := [8]) (by kernel_rfl) (by simp) ?_
            refine AllReadyH.cons rfl (fun K hK => ?_) AllReadyH.nil
            go_simp
            have g6 := (World.grownBy_alloc W5 (.cells #[.int .i32 x] 21) none).trans (gdrew (World.grownBy.refl _ none))
            have ho6 : OwnN (W5.alloc (.cells #[.int .i32 x] 21)).drew W5.heap.size (.slice (some ⟨W5.heap.size, 0, none⟩) 1 1) [x] := (own_one x W5).kept (gdrew (World.grownBy.refl _ none)) (by simp)
            have hs6 : W5.heap.size ≤ (W5.alloc (.cells #[.int .i32 x] 21)).drew.heap.size := g6.size
            generalize (W5.alloc (.cells #[.int .i32 x] 21)).drew = W6 at g6 ho6 hs6 ⊢
            refine hK.out _ _ ⟨g6, hcX.out _ ((hgw.trans hg5).trans g6)⟩ (fun hS1 => ?_)
            clear hK
            refine wpAnyH_ready (rs := [12]) (by kernel_rfl) (by simp) ?_
            refine AllReadyH.cons rfl (fun K hK => ?_) AllReadyH.nil
            rw [if_pos (by rfl)]
            have hL6 := (hown2.out.kept (hg5.trans g6) (by simp)).ro.reads
            rw [hle.out] at hL6
            refine wp_app_rs W6 (.tmp 50) (.tmp 53) 50 rfl W5.heap.size Tryz.underlying50 (.slice (some ⟨W5.heap.size, 0, none⟩) 1 1) [x] rfl ho6 _ (L.drop k) rfl (hL6.high hki) (by rw [List.length_drop]; have := hle.out; simp; omega) hs6 ?_
            intro v7 w7 ho7 hg7 _
            have g7 : W5.grownBy w7 none := gnew g6 hg7 (fun r e => by simp [Value.ownBlock] at e; left; omega)
            have ho7r := ho7.ro.reads
            obtain ⟨a7, c7, rfl⟩ := ho7.form
            refine hK.out _ _ ⟨g7, hcX.out _ ((hgw.trans hg5).trans g7)⟩ (fun hS2 => ?_)
            clear hK ho7 hg7 hL6 ho6
            refine wpAnyH_ready (rs := [13]) (by kernel_rfl) (by simp) ?_
            refine AllReadyH.cons rfl (fun K hK => ?_) AllReadyH.nil
            rw [if_pos (by rfl)]
            have hL7 := (hown2.out.kept (hg5.trans g7) (by simp)).ro.reads
            rw [hle.out] at hL7
            refine wp_app_mid w7 (.tmp 45) (.tmp 54) 50 rfl Tryz.underlying50 a5 (L.take k) k (by rw [List.length_take]; have := hle.out; omega) rfl (hL7.low hki) _ ([x] ++ L.drop k) rfl ho7r (by simp) (by simp; have := hle.out; omega) ?_
            intro v8 w8 ho8 hg8
            have g8 := g7.trans hg8
            obtain ⟨a8, c8, rfl⟩ := ho8.form
            have hn8 : (L.take k ++ ([x] ++ L.drop k)).length = i + 1 := by rw [List.length_append, List.length_append, List.length_take, List.length_drop]; have := hle.out; simp; omega
            rw [hn8] at ho8 ⊢
            refine hK.out _ _ ⟨g8, hcX.out _ ((hgw.trans hg5).trans g8)⟩ (fun hS3 => ?_)
            clear hK hL7
            refine wpAnyH_ready (rs := [14]) (by kernel_rfl) (by simp) ?_
            refine AllReadyH.cons rfl (fun K hK => ?_) AllReadyH.nil
            go_simp
            refine hK.out _ _ hS3 (fun hS4 => ?_)
            clear hK
            refine wpAnyH_done (by kernel_rfl) ?_ _
            have hw7 : w1.heap.size ≤ w7.heap.size := ((hgw.trans hg5).trans g7).size
            have Q : OwnN w8 w1.heap.size (.slice a8 (i + 1) c8) (L.take k ++ ([x] ++ L.drop k)) := ownLow ho8 hw7
            have Q2 : Hid (OwnN w8 w1.heap.size (.slice a8 (i + 1) c8) (O (i + 1))) := Lib.hid (by rw [hins.out]; exact Q)
            have Q3 := (hgw.trans hg5).trans g8
            clear Q hS0 hS1 hS2 hS3 hS4 g6 g7 g8 ho7r ho8 hg8 hown9 hlo hhi hcx9 gd9 hs6 hins hn8
            go_wp2_with fail
            go_roundw
            case rel => exact ⟨i + 1, by go_num, by omega, Q2.out, Q3⟩
            case measure => simp [RowKit.intOf]; omega
          · obtain ⟨j, hkj⟩ : ∃ j, k = j + 1 := ⟨k - 1, by omega⟩
            obtain ⟨y, hy⟩ : ∃ y, L[j]? = some y := ⟨_, List.getElem?_eq_getElem (by have := hle.out; omega)⟩
            have hdj : L.drop j = y :: L.drop k := by
              obtain ⟨h1, h2⟩ := List.getElem?_eq_some_iff.1 hy
              rw [List.drop_eq_getElem_cons h1, h2, hkj]
            have hlast : (L.take k).getLast? = some y := by rw [hkj, List.take_add_one, hy]; simp
            have gd := hg3.trans (gdrew (World.grownBy.refl wr none))
            obtain ⟨k0, k1⟩ := hB.out _ (hgw.trans gd)
            have hCy := hCl.out _ (hgw.trans gd) y
            have hRy := (hown2.out.kept gd (by simp)).ro.reads
            rw [hle.out] at hRy
            obtain ⟨b5, o5, rfl, hcy⟩ := RS.cell hRy hy
            have hkb : decide (0 < k) = true := by simp; omega
            have hj1 : j < i := by omega
            have hwk : IntKind.i64.wrap ((k : Int) - 1) = (j : Int) := by rw [show (k : Int) - 1 = (j : Int) by omega]; exact IntWalk.i64_in _ (by omega)
            replace hdj := Lib.hid hdj
            replace hlast := Lib.hid hlast
            replace hkj := Lib.hid hkj
            clear hy hRy hk0
            by_cases hfy : f x < f y
            · have hgt : decide (f x < f y) = true := by simpa using hfy
              have hab2 : Hid (∀ z ∈ L.drop j, 0 < f x ∧ f x < f z) := Lib.hid (by
                rw [hdj.out]
                intro z hz
                rcases List.mem_cons.1 hz with rfl | hz
                · exact ⟨h0, hfy⟩
                · exact hab.out z hz)
              clear hfy h0
              go_wp2_with fail
              refine wp_region_held_drew (S := fun V => w2.grownBy V none ∧ V.cell? ⟨bx, 0, none⟩ = some (.slice a1 cl c1) ∧ V.cell? ⟨bx, 1, none⟩ = some (.slice a2 dl c2) ∧ V.cell? ⟨b5, o5 + j, none⟩ = some (.int .i32 y)) (by kernel_rfl) ⟨gd, k0, k1, hcy⟩ (fun hS0 => ?_)
              refine wpAnyH_take (i := 0) (oi := ⟨some 23, _, _, _, _, _⟩) (v := ?_) rfl (by kernel_rfl) (by kernel_rfl) (by kernel_rfl) (fun _ _ _ h => h) (Or.inl ⟨by rfl, ?_⟩) (by assumption) ?_
              rotate_left
              · (intro w hSw; (try dsimp only at hSw); go_simp; try with_reducible rfl)
              try simp only [Act.put, List.setIfInBounds_toArray, List.set_cons_zero, List.set_cons_succ]
              refine wpAnyH_take (i := 1) (oi := ⟨some 24, _, _, _, _, _⟩) (v := ?_) rfl (by kernel_rfl) (by kernel_rfl) (by kernel_rfl) (fun _ _ _ h => h) (Or.inl ⟨by rfl, ?_⟩) (by assumption) ?_
              rotate_left
              · (intro w hSw; (try dsimp only at hSw); go_simp; try with_reducible rfl)
              try simp only [Act.put, List.setIfInBounds_toArray, List.set_cons_zero, List.set_cons_succ]
              refine wpAnyH_take (i := 2) (oi := ⟨some 25, _, _, _, _, _⟩) (v := ?_) rfl (by kernel_rfl) (by kernel_rfl) (by kernel_rfl) (fun _ _ _ h => h) (Or.inl ⟨by rfl, ?_⟩) (by assumption) ?_
              rotate_left
              · (intro w hSw; (try dsimp only at hSw); go_simp; try with_reducible rfl)
              try simp only [Act.put, List.setIfInBounds_toArray, List.set_cons_zero, List.set_cons_succ]
              refine wpAnyH_take (i := 3) (oi := ⟨some 26, _, _, _, _, _⟩) (v := ?_) rfl (by kernel_rfl) (by kernel_rfl) (by kernel_rfl) (fun _ _ _ h => h) (Or.inl ⟨by rfl, ?_⟩) (by assumption) ?_
              rotate_left
              · (intro w hSw; (try dsimp only at hSw); go_simp; try with_reducible rfl)
              try simp only [Act.put, List.setIfInBounds_toArray, List.set_cons_zero, List.set_cons_succ]
              refine wpAnyH_take (i := 4) (oi := ⟨some 27, _, _, _, _, _⟩) (v := ?_) rfl (by kernel_rfl) (by kernel_rfl) (by kernel_rfl) (fun _ _ _ h => h) (Or.inl ⟨by rfl, ?_⟩) (by assumption) ?_
              rotate_left
              · (intro w hSw; (try dsimp only at hSw); go_simp; try with_reducible rfl)
              try simp only [Act.put, List.setIfInBounds_toArray, List.set_cons_zero, List.set_cons_succ]
              refine wpAnyH_take (i := 5) (oi := ⟨some 28, _, _, _, _, _⟩) (v := ?_) rfl (by kernel_rfl) (by kernel_rfl) (by kernel_rfl) (fun _ _ _ h => h) (Or.inl ⟨by rfl, ?_⟩) (by assumption) ?_
              rotate_left
              · (intro w hSw; (try dsimp only at hSw); go_simp; try with_reducible rfl)
              try simp only [Act.put, List.setIfInBounds_toArray, List.set_cons_zero, List.set_cons_succ]
              refine wpAnyH_take (i := 6) (oi := ⟨some 29, _, _, _, _, _⟩) (v := ?_) rfl (by kernel_rfl) (by kernel_rfl) (by kernel_rfl) (fun _ _ _ h => h) (Or.inl ⟨by rfl, ?_⟩) (by assumption) ?_
              rotate_left
              · (intro w hSw; (try dsimp only at hSw); go_simp; try with_reducible rfl)
              try simp only [Act.put, List.setIfInBounds_toArray, List.set_cons_zero, List.set_cons_succ]
              refine wpAnyH_take (i := 7) (oi := ⟨some 30, _, _, _, _, _⟩) (v := ?_) rfl (by kernel_rfl) (by kernel_rfl) (by kernel_rfl) (fun _ _ _ h => h) (Or.inl ⟨by rfl, ?_⟩) (by assumption) ?_
              rotate_left
              · (intro w hSw; (try dsimp only at hSw); go_simp; try with_reducible rfl)
              try simp only [Act.put, List.setIfInBounds_toArray, List.set_cons_zero, List.set_cons_succ]
              refine wpAnyH_take (i := 8) (oi := ⟨some 31, _, _, _, _, _⟩) (v := ?_) rfl (by kernel_rfl) (by kernel_rfl) (by kernel_rfl) (fun _ _ _ h => h) (Or.inl ⟨by rfl, ?_⟩) (by assumption) ?_
              rotate_left
              · (intro w hSw; (try dsimp only at hSw); go_simp; try with_reducible rfl)
              try simp only [Act.put, List.setIfInBounds_toArray, List.set_cons_zero, List.set_cons_succ]
              refine wpAnyH_take (i := 9) (oi := ⟨some 32, _, _, _, _, _⟩) (v := ?_) rfl (by kernel_rfl) (by kernel_rfl) (by kernel_rfl) (fun _ _ _ h => h) (Or.inl ⟨by rfl, ?_⟩) (by assumption) ?_
              rotate_left
              · (intro w hSw; (try dsimp only at hSw); go_simp; try with_reducible rfl)
              try simp only [Act.put, List.setIfInBounds_toArray, List.set_cons_zero, List.set_cons_succ]
              refine wpAnyH_take (i := 10) (oi := ⟨some 33, _, _, _, _, _⟩) (v := ?_) rfl (by kernel_rfl) (by kernel_rfl) (by kernel_rfl) (fun _ _ _ h => h) (Or.inl ⟨by rfl, ?_⟩) (by assumption) ?_
              rotate_left
              · (intro w hSw; (try dsimp only at hSw); go_simp; try with_reducible rfl)
              try simp only [Act.put, List.setIfInBounds_toArray, List.set_cons_zero, List.set_cons_succ]
              refine wpAnyH_take (i := 11) (oi := ⟨some 34, _, _, _, _, _⟩) (v := ?_) rfl (by kernel_rfl) (by kernel_rfl) (by kernel_rfl) (fun _ _ _ h => h) (Or.inl ⟨by rfl, ?_⟩) (by assumption) ?_
              rotate_left
              · (intro w hSw; (try dsimp only at hSw); go_simp; try with_reducible rfl)
              try simp only [Act.put, List.setIfInBounds_toArray, List.set_cons_zero, List.set_cons_succ]
              refine wpAnyH_take (i := 12) (oi := ⟨some 35, _, _, _, _, _⟩) (v := ?_) rfl (by kernel_rfl) (by kernel_rfl) (by kernel_rfl) (fun _ _ _ h => h) (Or.inl ⟨by rfl, ?_⟩) (by assumption) ?_
              rotate_left
              · (intro w hSw; (try dsimp only at hSw); go_simp; try with_reducible rfl)
              try simp only [Act.put, List.setIfInBounds_toArray, List.set_cons_zero, List.set_cons_succ]
              refine wpAnyH_take (i := 14) (oi := ⟨some 37, _, _, _, _, _⟩) (v := ?_) rfl (by kernel_rfl) (by kernel_rfl) (by kernel_rfl) (fun _ _ _ h => h) (Or.inl ⟨by rfl, ?_⟩) (by assumption) ?_
              rotate_left
              · (intro w hSw; (try dsimp only at hSw); go_simp; try with_reducible rfl)
              try simp only [Act.put, List.setIfInBounds_toArray, List.set_cons_zero, List.set_cons_succ]
              refine wpAnyH_ready (rs := [13]) (by kernel_rfl) (by simp) ?_
              refine AllReadyH.cons rfl (fun K hK => ?_) AllReadyH.nil
              go_simp
              refine hCy.mono ?_
              rintro e W5 ⟨rfl, hg6⟩
              have hS6 := And.intro (gd.trans hg6) (And.intro (hg6.cell k0 (by simp)) (And.intro (hg6.cell k1 (by simp)) (hg6.cell hcy (by simp))))
              go_wp2_with fail
              refine hK.out _ _ hS6 (fun hS7 => ?_)
              clear hK
              refine wpAnyH_take (i := 15) (oi := ⟨some 38, _, _, _, _, _⟩) (v := ?_) rfl (by kernel_rfl) (by kernel_rfl) (by kernel_rfl) (fun _ _ _ h => h) (Or.inl ⟨by rfl, ?_⟩) (by assumption) ?_
              rotate_left
              · (intro w hSw; (try dsimp only at hSw); go_simp; try with_reducible rfl)
              try simp only [Act.put, List.setIfInBounds_toArray, List.set_cons_zero, List.set_cons_succ]
              refine wpAnyH_take (i := 16) (oi := ⟨some 39, _, _, _, _, _⟩) (v := ?_) rfl (by kernel_rfl) (by kernel_rfl) (by kernel_rfl) (fun _ _ _ h => h) (Or.inl ⟨by rfl, ?_⟩) (by assumption) ?_
              rotate_left
              · (intro w hSw; (try dsimp only at hSw); go_simp; try with_reducible rfl)
              try simp only [Act.put, List.setIfInBounds_toArray, List.set_cons_zero, List.set_cons_succ]
              refine wpAnyH_done (by kernel_rfl) ?_ _
              have hg6 := hS6.1
              clear hS0 hS6 hS7 hz hkb hcy hCy hgt hdj hlast hab
              go_wp2_with fail
              go_roundw
              case rel => exact ⟨j, by first | rfl | go_num, by omega, hab2, hg6⟩
              case measure => simp [RowKit.intOf]; have := hkj.out; omega
            · have hgt : decide (f x < f y) = false := by simpa using hfy
              have hins : Hid (O (i + 1) = L.take k ++ x :: L.drop k) := Lib.hid (by rw [hti.out]; exact insR_at f x L k hab.out (fun z hz hh => by rw [hlast.out] at hz; cases hz; exact hfy hh.2))
              clear hfy h0
              go_wp2_with fail
              refine wp_region_held_drew (S := fun V => w2.grownBy V none ∧ V.cell? ⟨bx, 0, none⟩ = some (.slice a1 cl c1) ∧ V.cell? ⟨bx, 1, none⟩ = some (.slice a2 dl c2) ∧ V.cell? ⟨b5, o5 + j, none⟩ = some (.int .i32 y)) (by kernel_rfl) ⟨gd, k0, k1, hcy⟩ (fun hS0 => ?_)
              refine wpAnyH_take (i := 0) (oi := ⟨some 23, _, _, _, _, _⟩) (v := ?_) rfl (by kernel_rfl) (by kernel_rfl) (by kernel_rfl) (fun _ _ _ h => h) (Or.inl ⟨by rfl, ?_⟩) (by assumption) ?_
              rotate_left
              · (intro w hSw; (try dsimp only at hSw); go_simp; try with_reducible rfl)
              try simp only [Act.put, List.setIfInBounds_toArray, List.set_cons_zero, List.set_cons_succ]
              refine wpAnyH_take (i := 1) (oi := ⟨some 24, _, _, _, _, _⟩) (v := ?_) rfl (by kernel_rfl) (by kernel_rfl) (by kernel_rfl) (fun _ _ _ h => h) (Or.inl ⟨by rfl, ?_⟩) (by assumption) ?_
              rotate_left
              · (intro w hSw; (try dsimp only at hSw); go_simp; try with_reducible rfl)
              try simp only [Act.put, List.setIfInBounds_toArray, List.set_cons_zero, List.set_cons_succ]
              refine wpAnyH_take (i := 2) (oi := ⟨some 25, _, _, _, _, _⟩) (v := ?_) rfl (by kernel_rfl) (by kernel_rfl) (by kernel_rfl) (fun _ _ _ h => h) (Or.inl ⟨by rfl, ?_⟩) (by assumption) ?_
              rotate_left
              · (intro w hSw; (try dsimp only at hSw); go_simp; try with_reducible rfl)
              try simp only [Act.put, List.setIfInBounds_toArray, List.set_cons_zero, List.set_cons_succ]
              refine wpAnyH_take (i := 3) (oi := ⟨some 26, _, _, _, _, _⟩) (v := ?_) rfl (by kernel_rfl) (by kernel_rfl) (by kernel_rfl) (fun _ _ _ h => h) (Or.inl ⟨by rfl, ?_⟩) (by assumption) ?_
              rotate_left
              · (intro w hSw; (try dsimp only at hSw); go_simp; try with_reducible rfl)
              try simp only [Act.put, List.setIfInBounds_toArray, List.set_cons_zero, List.set_cons_succ]
              refine wpAnyH_take (i := 4) (oi := ⟨some 27, _, _, _, _, _⟩) (v := ?_) rfl (by kernel_rfl) (by kernel_rfl) (by kernel_rfl) (fun _ _ _ h => h) (Or.inl ⟨by rfl, ?_⟩) (by assumption) ?_
              rotate_left
              · (intro w hSw; (try dsimp only at hSw); go_simp; try with_reducible rfl)
              try simp only [Act.put, List.setIfInBounds_toArray, List.set_cons_zero, List.set_cons_succ]
              refine wpAnyH_take (i := 5) (oi := ⟨some 28, _, _, _, _, _⟩) (v := ?_) rfl (by kernel_rfl) (by kernel_rfl) (by kernel_rfl) (fun _ _ _ h => h) (Or.inl ⟨by rfl, ?_⟩) (by assumption) ?_
              rotate_left
              · (intro w hSw; (try dsimp only at hSw); go_simp; try with_reducible rfl)
              try simp only [Act.put, List.setIfInBounds_toArray, List.set_cons_zero, List.set_cons_succ]
              refine wpAnyH_take (i := 6) (oi := ⟨some 29, _, _, _, _, _⟩) (v := ?_) rfl (by kernel_rfl) (by kernel_rfl) (by kernel_rfl) (fun _ _ _ h => h) (Or.inl ⟨by rfl, ?_⟩) (by assumption) ?_
              rotate_left
              · (intro w hSw; (try dsimp only at hSw); go_simp; try with_reducible rfl)
              try simp only [Act.put, List.setIfInBounds_toArray, List.set_cons_zero, List.set_cons_succ]
              refine wpAnyH_take (i := 7) (oi := ⟨some 30, _, _, _, _, _⟩) (v := ?_) rfl (by kernel_rfl) (by kernel_rfl) (by kernel_rfl) (fun _ _ _ h => h) (Or.inl ⟨by rfl, ?_⟩) (by assumption) ?_
              rotate_left
              · (intro w hSw; (try dsimp only at hSw); go_simp; try with_reducible rfl)
              try simp only [Act.put, List.setIfInBounds_toArray, List.set_cons_zero, List.set_cons_succ]
              refine wpAnyH_take (i := 8) (oi := ⟨some 31, _, _, _, _, _⟩) (v := ?_) rfl (by kernel_rfl) (by kernel_rfl) (by kernel_rfl) (fun _ _ _ h => h) (Or.inl ⟨by rfl, ?_⟩) (by assumption) ?_
              rotate_left
              · (intro w hSw; (try dsimp only at hSw); go_simp; try with_reducible rfl)
              try simp only [Act.put, List.setIfInBounds_toArray, List.set_cons_zero, List.set_cons_succ]
              refine wpAnyH_take (i := 9) (oi := ⟨some 32, _, _, _, _, _⟩) (v := ?_) rfl (by kernel_rfl) (by kernel_rfl) (by kernel_rfl) (fun _ _ _ h => h) (Or.inl ⟨by rfl, ?_⟩) (by assumption) ?_
              rotate_left
              · (intro w hSw; (try dsimp only at hSw); go_simp; try with_reducible rfl)
              try simp only [Act.put, List.setIfInBounds_toArray, List.set_cons_zero, List.set_cons_succ]
              refine wpAnyH_take (i := 10) (oi := ⟨some 33, _, _, _, _, _⟩) (v := ?_) rfl (by kernel_rfl) (by kernel_rfl) (by kernel_rfl) (fun _ _ _ h => h) (Or.inl ⟨by rfl, ?_⟩) (by assumption) ?_
              rotate_left
              · (intro w hSw; (try dsimp only at hSw); go_simp; try with_reducible rfl)
              try simp only [Act.put, List.setIfInBounds_toArray, List.set_cons_zero, List.set_cons_succ]
              refine wpAnyH_take (i := 11) (oi := ⟨some 34, _, _, _, _, _⟩) (v := ?_) rfl (by kernel_rfl) (by kernel_rfl) (by kernel_rfl) (fun _ _ _ h => h) (Or.inl ⟨by rfl, ?_⟩) (by assumption) ?_
              rotate_left
              · (intro w hSw; (try dsimp only at hSw); go_simp; try with_reducible rfl)
              try simp only [Act.put, List.setIfInBounds_toArray, List.set_cons_zero, List.set_cons_succ]
              refine wpAnyH_take (i := 12) (oi := ⟨some 35, _, _, _, _, _⟩) (v := ?_) rfl (by kernel_rfl) (by kernel_rfl) (by kernel_rfl) (fun _ _ _ h => h) (Or.inl ⟨by rfl, ?_⟩) (by assumption) ?_
              rotate_left
              · (intro w hSw; (try dsimp only at hSw); go_simp; try with_reducible rfl)
              try simp only [Act.put, List.setIfInBounds_toArray, List.set_cons_zero, List.set_cons_succ]
              refine wpAnyH_take (i := 14) (oi := ⟨some 37, _, _, _, _, _⟩) (v := ?_) rfl (by kernel_rfl) (by kernel_rfl) (by kernel_rfl) (fun _ _ _ h => h) (Or.inl ⟨by rfl, ?_⟩) (by assumption) ?_
              rotate_left
              · (intro w hSw; (try dsimp only at hSw); go_simp; try with_reducible rfl)
              try simp only [Act.put, List.setIfInBounds_toArray, List.set_cons_zero, List.set_cons_succ]
              refine wpAnyH_ready (rs := [13]) (by kernel_rfl) (by simp) ?_
              refine AllReadyH.cons rfl (fun K hK => ?_) AllReadyH.nil
              go_simp
              refine hCy.mono ?_
              rintro e W5 ⟨rfl, hg6⟩
              have hS6 := And.intro (gd.trans hg6) (And.intro (hg6.cell k0 (by simp)) (And.intro (hg6.cell k1 (by simp)) (hg6.cell hcy (by simp))))
              go_wp2_with fail
              refine hK.out _ _ hS6 (fun hS7 => ?_)
              clear hK
              refine wpAnyH_take (i := 15) (oi := ⟨some 38, _, _, _, _, _⟩) (v := ?_) rfl (by kernel_rfl) (by kernel_rfl) (by kernel_rfl) (fun _ _ _ h => h) (Or.inl ⟨by rfl, ?_⟩) (by assumption) ?_
              rotate_left
              · (intro w hSw; (try dsimp only at hSw); go_simp; try with_reducible rfl)
              try simp only [Act.put, List.setIfInBounds_toArray, List.set_cons_zero, List.set_cons_succ]
              refine wpAnyH_take (i := 16) (oi := ⟨some 39, _, _, _, _, _⟩) (v := ?_) rfl (by kernel_rfl) (by kernel_rfl) (by kernel_rfl) (fun _ _ _ h => h) (Or.inl ⟨by rfl, ?_⟩) (by assumption) ?_
              rotate_left
              · (intro w hSw; (try dsimp only at hSw); go_simp; try with_reducible rfl)
              try simp only [Act.put, List.setIfInBounds_toArray, List.set_cons_zero, List.set_cons_succ]
              refine wpAnyH_done (by kernel_rfl) ?_ _
              have hg5 := hS6.1
              clear hS0 hS6 hS7 hz hkb hcy hCy hgt hdj hlast hwk k0 k1 gd hkj
              obtain ⟨a5, ha5⟩ : ∃ a5 : Option Addr, a5 = some ⟨b5, o5, none⟩ := ⟨_, rfl⟩
              rw [← ha5] at hown2 ⊢
              clear ha5
              have gd9 := gdrew (World.grownBy.refl W5 none)
              have hcx9 := hcX.out _ ((hgw.trans hg5).trans gd9)
              have hown9 := Lib.hid (hown2.out.kept (hg5.trans gd9) (by simp))
              have hlo := fun w => run_rs_hm a5 i c5 k (by have := hcap.out; omega) w
              have hhi := fun w => run_rs_lo a5 i c5 k (by omega) w
              clear hg3 hab
              go_wp2_with fail
              refine wp_region_held_drew (S := fun V => W5.grownBy V none ∧ V.cell? ⟨b0, o0 + i, none⟩ = some (.int .i32 x)) (by kernel_rfl) ⟨gd9, hcx9⟩ (fun hS0 => ?_)
              refine wpAnyH_take (i := 0) (oi := ⟨some 42, _, _, _, _, _⟩) (v := ?_) rfl (by kernel_rfl) (by kernel_rfl) (by kernel_rfl) (fun _ _ _ h => h) (Or.inl ⟨by rfl, ?_⟩) (by assumption) ?_
              rotate_left
              · (intro w hSw; (try dsimp only at hSw); go_simp; try with_reducible rfl)
              try simp only [Act.put, List.setIfInBounds_toArray, List.set_cons_zero, List.set_cons_succ]
              refine wpAnyH_take (i := 1) (oi := ⟨some 43, _, _, _, _, _⟩) (v := ?_) rfl (by kernel_rfl) (by kernel_rfl) (by kernel_rfl) (fun _ _ _ h => h) (Or.inl ⟨by rfl, ?_⟩) (by assumption) ?_
              rotate_left
              · (intro w hSw; (try dsimp only at hSw); go_simp; try with_reducible rfl)
              try simp only [Act.put, List.setIfInBounds_toArray, List.set_cons_zero, List.set_cons_succ]
              refine wpAnyH_take (i := 2) (oi := ⟨some 44, _, _, _, _, _⟩) (v := ?_) rfl (by kernel_rfl) (by kernel_rfl) (by kernel_rfl) (fun _ _ _ h => h) (Or.inl ⟨by rfl, ?_⟩) (by assumption) ?_
              rotate_left
              · (intro w hSw; (try dsimp only at hSw); go_simp; try with_reducible rfl)
              try simp only [Act.put, List.setIfInBounds_toArray, List.set_cons_zero, List.set_cons_succ]
              refine wpAnyH_take (i := 3) (oi := ⟨some 45, _, _, _, _, _⟩) (v := ?_) rfl (by kernel_rfl) (by kernel_rfl) (by kernel_rfl) (fun _ _ _ h => h) (Or.inl ⟨by rfl, ?_⟩) (by assumption) ?_
              rotate_left
              · (intro w hSw; (try dsimp only at hSw); go_simp; try with_reducible rfl)
              try simp only [Act.put, List.setIfInBounds_toArray, List.set_cons_zero, List.set_cons_succ]
              refine wpAnyH_take (i := 4) (oi := ⟨some 46, _, _, _, _, _⟩) (v := ?_) rfl (by kernel_rfl) (by kernel_rfl) (by kernel_rfl) (fun _ _ _ h => h) (Or.inl ⟨by rfl, ?_⟩) (by assumption) ?_
              rotate_left
              · (intro w hSw; (try dsimp only at hSw); go_simp; try with_reducible rfl)
              try simp only [Act.put, List.setIfInBounds_toArray, List.set_cons_zero, List.set_cons_succ]
              refine wpAnyH_take (i := 5) (oi := ⟨some 47, _, _, _, _, _⟩) (v := ?_) rfl (by kernel_rfl) (by kernel_rfl) (by kernel_rfl) (fun _ _ _ h => h) (Or.inl ⟨by rfl, ?_⟩) (by assumption) ?_
              rotate_left
              · (intro w hSw; (try dsimp only at hSw); go_simp; try with_reducible rfl)
              try simp only [Act.put, List.setIfInBounds_toArray, List.set_cons_zero, List.set_cons_succ]
              refine wpAnyH_take (i := 6) (oi := ⟨some 48, _, _, _, _, _⟩) (v := ?_) rfl (by kernel_rfl) (by kernel_rfl) (by kernel_rfl) (fun _ _ _ h => h) (Or.inl ⟨by rfl, ?_⟩) (by assumption) ?_
              rotate_left
              · (intro w hSw; (try dsimp only at hSw); go_simp; try with_reducible rfl)
              try simp only [Act.put, List.setIfInBounds_toArray, List.set_cons_zero, List.set_cons_succ]
              refine wpAnyH_take (i := 7) (oi := ⟨some 49, _, _, _, _, _⟩) (v := ?_) rfl (by kernel_rfl) (by kernel_rfl) (by kernel_rfl) (fun _ _ _ h => h) (Or.inl ⟨by rfl, ?_⟩) (by assumption) ?_
              rotate_left
              · (intro w hSw; (try dsimp only at hSw); go_simp; try with_reducible rfl)
              try simp only [Act.put, List.setIfInBounds_toArray, List.set_cons_zero, List.set_cons_succ]
              refine wpAnyH_take (i := 9) (oi := ⟨some 51, _, _, _, _, _⟩) (v := ?_) rfl (by kernel_rfl) (by kernel_rfl) (by kernel_rfl) (fun _ _ _ h => h) (Or.inl ⟨by rfl, ?_⟩) (by assumption) ?_
              rotate_left
              · (intro w hSw; (try dsimp only at hSw); go_simp; try with_reducible rfl)
              try simp only [Act.put, List.setIfInBounds_toArray, List.set_cons_zero, List.set_cons_succ]
              refine wpAnyH_take (i := 10) (oi := ⟨some 52, _, _, _, _, _⟩) (v := ?_) rfl (by kernel_rfl) (by kernel_rfl) (by kernel_rfl) (fun _ _ _ h => h) (Or.inl ⟨by rfl, ?_⟩) (by assumption) ?_
              rotate_left
              · (intro w hSw; (try dsimp only at hSw); go_simp; try with_reducible rfl)
              try simp only [Act.put, List.setIfInBounds_toArray, List.set_cons_zero, List.set_cons_succ]
              refine wpAnyH_take (i := 11) (oi := ⟨some 53, _, _, _, _, _⟩) (v := ?_) rfl (by kernel_rfl) (by kernel_rfl) (by kernel_rfl) (fun _ _ _ h => h) (Or.inl ⟨by rfl, ?_⟩) (by assumption) ?_
              rotate_left
              · (intro w hSw; (try dsimp only at hSw); go_simp; try with_reducible rfl)
              try simp only [Act.put, List.setIfInBounds_toArray, List.set_cons_zero, List.set_cons_succ]
              refine wpAnyH_ready (rs := [8]) (by kernel_rfl) (by simp) ?_
              refine AllReadyH.cons rfl (fun K hK => ?_) AllReadyH.nil
              go_simp
              have g6 := (World.grownBy_alloc W5 (.cells #[.int .i32 x] 21) none).trans (gdrew (World.grownBy.refl _ none))
              have ho6 : OwnN (W5.alloc (.cells #[.int .i32 x] 21)).drew W5.heap.size (.slice (some ⟨W5.heap.size, 0, none⟩) 1 1) [x] := (own_one x W5).kept (gdrew (World.grownBy.refl _ none)) (by simp)
              have hs6 : W5.heap.size ≤ (W5.alloc (.cells #[.int .i32 x] 21)).drew.heap.size := g6.size
              generalize (W5.alloc (.cells #[.int .i32 x] 21)).drew = W6 at g6 ho6 hs6 ⊢
              refine hK.out _ _ ⟨g6, hcX.out _ ((hgw.trans hg5).trans g6)⟩ (fun hS1 => ?_)
              clear hK
              refine wpAnyH_ready (rs := [12]) (by kernel_rfl) (by simp) ?_
              refine AllReadyH.cons rfl (fun K hK => ?_) AllReadyH.nil
              rw [if_pos (by rfl)]
              have hL6 := (hown2.out.kept (hg5.trans g6) (by simp)).ro.reads
              rw [hle.out] at hL6
              refine wp_app_rs W6 (.tmp 50) (.tmp 53) 50 rfl W5.heap.size Tryz.underlying50 (.slice (some ⟨W5.heap.size, 0, none⟩) 1 1) [x] rfl ho6 _ (L.drop k) rfl (hL6.high hki) (by rw [List.length_drop]; have := hle.out; simp; omega) hs6 ?_
              intro v7 w7 ho7 hg7 _
              have g7 : W5.grownBy w7 none := gnew g6 hg7 (fun r e => by simp [Value.ownBlock] at e; left; omega)
              have ho7r := ho7.ro.reads
              obtain ⟨a7, c7, rfl⟩ := ho7.form
              refine hK.out _ _ ⟨g7, hcX.out _ ((hgw.trans hg5).trans g7)⟩ (fun hS2 => ?_)
              clear hK ho7 hg7 hL6 ho6
              refine wpAnyH_ready (rs := [13]) (by kernel_rfl) (by simp) ?_
              refine AllReadyH.cons rfl (fun K hK => ?_) AllReadyH.nil
              rw [if_pos (by rfl)]
              have hL7 := (hown2.out.kept (hg5.trans g7) (by simp)).ro.reads
              rw [hle.out] at hL7
              refine wp_app_mid w7 (.tmp 45) (.tmp 54) 50 rfl Tryz.underlying50 a5 (L.take k) k (by rw [List.length_take]; have := hle.out; omega) rfl (hL7.low hki) _ ([x] ++ L.drop k) rfl ho7r (by simp) (by simp; have := hle.out; omega) ?_
              intro v8 w8 ho8 hg8
              have g8 := g7.trans hg8
              obtain ⟨a8, c8, rfl⟩ := ho8.form
              have hn8 : (L.take k ++ ([x] ++ L.drop k)).length = i + 1 := by rw [List.length_append, List.length_append, List.length_take, List.length_drop]; have := hle.out; simp; omega
              rw [hn8] at ho8 ⊢
              refine hK.out _ _ ⟨g8, hcX.out _ ((hgw.trans hg5).trans g8)⟩ (fun hS3 => ?_)
              clear hK hL7
              refine wpAnyH_ready (rs := [14]) (by kernel_rfl) (by simp) ?_
              refine AllReadyH.cons rfl (fun K hK => ?_) AllReadyH.nil
              go_simp
              refine hK.out _ _ hS3 (fun hS4 => ?_)
              clear hK
              refine wpAnyH_done (by kernel_rfl) ?_ _
              have hw7 : w1.heap.size ≤ w7.heap.size := ((hgw.trans hg5).trans g7).size
              have Q : OwnN w8 w1.heap.size (.slice a8 (i + 1) c8) (L.take k ++ ([x] ++ L.drop k)) := ownLow ho8 hw7
              have Q2 : Hid (OwnN w8 w1.heap.size (.slice a8 (i + 1) c8) (O (i + 1))) := Lib.hid (by rw [hins.out]; exact Q)
              have Q3 := (hgw.trans hg5).trans g8
              clear Q hS0 hS1 hS2 hS3 hS4 g6 g7 g8 ho7r ho8 hg8 hown9 hlo hhi hcx9 gd9 hs6 hins hn8
              go_wp2_with fail
              go_roundw
              case rel => exact ⟨i + 1, by go_num, by omega, Q2.out, Q3⟩
              case measure => simp [RowKit.intOf]; omega
        · have hz : decide (0 < f x) = false := by simpa using h0
          have hins : Hid (O (i + 1) = L.take k ++ x :: L.drop k) := Lib.hid (by rw [hti.out]; exact insR_at f x L k hab.out (fun y _ h => h0 h.1))
          have hg5 := hg3.trans (gdrew (World.grownBy.refl wr none))
          clear h0
          go_wp2_with fail
          refine wp_region_held_drew (S := fun V => w2.grownBy V none) (by kernel_rfl) hg5 (fun hS0 => ?_)
          refine wpAnyH_take (i := 0) (oi := ⟨some 23, _, _, _, _, _⟩) (v := ?_) rfl (by kernel_rfl) (by kernel_rfl) (by kernel_rfl) (fun _ _ _ h => h) (Or.inl ⟨by rfl, ?_⟩) (by assumption) ?_
          rotate_left
          · (intro w hSw; (try dsimp only at hSw); go_simp; try with_reducible rfl)
          try simp only [Act.put, List.setIfInBounds_toArray, List.set_cons_zero, List.set_cons_succ]
          refine wpAnyH_take (i := 1) (oi := ⟨some 24, _, _, _, _, _⟩) (v := ?_) rfl (by kernel_rfl) (by kernel_rfl) (by kernel_rfl) (fun _ _ _ h => h) (Or.inl ⟨by rfl, ?_⟩) (by assumption) ?_
          rotate_left
          · (intro w hSw; (try dsimp only at hSw); go_simp; try with_reducible rfl)
          try simp only [Act.put, List.setIfInBounds_toArray, List.set_cons_zero, List.set_cons_succ]
          refine wpAnyH_take (i := 2) (oi := ⟨some 25, _, _, _, _, _⟩) (v := ?_) rfl (by kernel_rfl) (by kernel_rfl) (by kernel_rfl) (fun _ _ _ h => h) (Or.inl ⟨by rfl, ?_⟩) (by assumption) ?_
          rotate_left
          · (intro w hSw; (try dsimp only at hSw); go_simp; try with_reducible rfl)
          try simp only [Act.put, List.setIfInBounds_toArray, List.set_cons_zero, List.set_cons_succ]
          refine wpAnyH_take (i := 3) (oi := ⟨some 26, _, _, _, _, _⟩) (v := undef) rfl (by kernel_rfl) (by kernel_rfl) (by kernel_rfl) (fun _ _ _ h => h) (Or.inr ⟨by rfl, rfl⟩) (by assumption) ?_
          try simp only [Act.put, List.setIfInBounds_toArray, List.set_cons_zero, List.set_cons_succ]
          refine wpAnyH_take (i := 4) (oi := ⟨some 27, _, _, _, _, _⟩) (v := undef) rfl (by kernel_rfl) (by kernel_rfl) (by kernel_rfl) (fun _ _ _ h => h) (Or.inr ⟨by rfl, rfl⟩) (by assumption) ?_
          try simp only [Act.put, List.setIfInBounds_toArray, List.set_cons_zero, List.set_cons_succ]
          refine wpAnyH_take (i := 5) (oi := ⟨some 28, _, _, _, _, _⟩) (v := ?_) rfl (by kernel_rfl) (by kernel_rfl) (by kernel_rfl) (fun _ _ _ h => h) (Or.inl ⟨by rfl, ?_⟩) (by assumption) ?_
          rotate_left
          · (intro w hSw; (try dsimp only at hSw); go_simp; try with_reducible rfl)
          try simp only [Act.put, List.setIfInBounds_toArray, List.set_cons_zero, List.set_cons_succ]
          refine wpAnyH_take (i := 6) (oi := ⟨some 29, _, _, _, _, _⟩) (v := ?_) rfl (by kernel_rfl) (by kernel_rfl) (by kernel_rfl) (fun _ _ _ h => h) (Or.inl ⟨by rfl, ?_⟩) (by assumption) ?_
          rotate_left
          · (intro w hSw; (try dsimp only at hSw); go_simp; try with_reducible rfl)
          try simp only [Act.put, List.setIfInBounds_toArray, List.set_cons_zero, List.set_cons_succ]
          refine wpAnyH_take (i := 7) (oi := ⟨some 30, _, _, _, _, _⟩) (v := undef) rfl (by kernel_rfl) (by kernel_rfl) (by kernel_rfl) (fun _ _ _ h => h) (Or.inr ⟨by rfl, rfl⟩) (by assumption) ?_
          try simp only [Act.put, List.setIfInBounds_toArray, List.set_cons_zero, List.set_cons_succ]
          refine wpAnyH_take (i := 8) (oi := ⟨some 31, _, _, _, _, _⟩) (v := undef) rfl (by kernel_rfl) (by kernel_rfl) (by kernel_rfl) (fun _ _ _ h => h) (Or.inr ⟨by rfl, rfl⟩) (by assumption) ?_
          try simp only [Act.put, List.setIfInBounds_toArray, List.set_cons_zero, List.set_cons_succ]
          refine wpAnyH_take (i := 9) (oi := ⟨some 32, _, _, _, _, _⟩) (v := undef) rfl (by kernel_rfl) (by kernel_rfl) (by kernel_rfl) (fun _ _ _ h => h) (Or.inr ⟨by rfl, rfl⟩) (by assumption) ?_
          try simp only [Act.put, List.setIfInBounds_toArray, List.set_cons_zero, List.set_cons_succ]
          refine wpAnyH_take (i := 10) (oi := ⟨some 33, _, _, _, _, _⟩) (v := undef) rfl (by kernel_rfl) (by kernel_rfl) (by kernel_rfl) (fun _ _ _ h => h) (Or.inr ⟨by rfl, rfl⟩) (by assumption) ?_
          try simp only [Act.put, List.setIfInBounds_toArray, List.set_cons_zero, List.set_cons_succ]
          refine wpAnyH_take (i := 11) (oi := ⟨some 34, _, _, _, _, _⟩) (v := undef) rfl (by kernel_rfl) (by kernel_rfl) (by kernel_rfl) (fun _ _ _ h => h) (Or.inr ⟨by rfl, rfl⟩) (by assumption) ?_
          try simp only [Act.put, List.setIfInBounds_toArray, List.set_cons_zero, List.set_cons_succ]
          refine wpAnyH_take (i := 12) (oi := ⟨some 35, _, _, _, _, _⟩) (v := undef) rfl (by kernel_rfl) (by kernel_rfl) (by kernel_rfl) (fun _ _ _ h => h) (Or.inr ⟨by rfl, rfl⟩) (by assumption) ?_
          try simp only [Act.put, List.setIfInBounds_toArray, List.set_cons_zero, List.set_cons_succ]
          refine wpAnyH_take (i := 13) (oi := ⟨some 36, _, _, _, _, _⟩) (v := undef) rfl (by kernel_rfl) (by kernel_rfl) (by kernel_rfl) (fun _ _ _ h => h) (Or.inr ⟨by rfl, rfl⟩) (by assumption) ?_
          try simp only [Act.put, List.setIfInBounds_toArray, List.set_cons_zero, List.set_cons_succ]
          refine wpAnyH_take (i := 14) (oi := ⟨some 37, _, _, _, _, _⟩) (v := undef) rfl (by kernel_rfl) (by kernel_rfl) (by kernel_rfl) (fun _ _ _ h => h) (Or.inr ⟨by rfl, rfl⟩) (by assumption) ?_
          try simp only [Act.put, List.setIfInBounds_toArray, List.set_cons_zero, List.set_cons_succ]
          refine wpAnyH_take (i := 15) (oi := ⟨some 38, _, _, _, _, _⟩) (v := undef) rfl (by kernel_rfl) (by kernel_rfl) (by kernel_rfl) (fun _ _ _ h => h) (Or.inr ⟨by rfl, rfl⟩) (by assumption) ?_
          try simp only [Act.put, List.setIfInBounds_toArray, List.set_cons_zero, List.set_cons_succ]
          refine wpAnyH_take (i := 16) (oi := ⟨some 39, _, _, _, _, _⟩) (v := ?_) rfl (by kernel_rfl) (by kernel_rfl) (by kernel_rfl) (fun _ _ _ h => h) (Or.inl ⟨by rfl, ?_⟩) (by assumption) ?_
          rotate_left
          · (intro w hSw; (try dsimp only at hSw); go_simp; try with_reducible rfl)
          try simp only [Act.put, List.setIfInBounds_toArray, List.set_cons_zero, List.set_cons_succ]
          refine wpAnyH_done (by kernel_rfl) ?_ _
          clear hS0 hz
          generalize wr.drew = W5 at hg5 ⊢
          have gd9 := gdrew (World.grownBy.refl W5 none)
          have hcx9 := hcX.out _ ((hgw.trans hg5).trans gd9)
          have hown9 := Lib.hid (hown2.out.kept (hg5.trans gd9) (by simp))
          have hlo := fun w => run_rs_hm a5 i c5 k (by have := hcap.out; omega) w
          have hhi := fun w => run_rs_lo a5 i c5 k (by omega) w
          clear hg3 hab
          go_wp2_with fail
          refine wp_region_held_drew (S := fun V => W5.grownBy V none ∧ V.cell? ⟨b0, o0 + i, none⟩ = some (.int .i32 x)) (by kernel_rfl) ⟨gd9, hcx9⟩ (fun hS0 => ?_)
          refine wpAnyH_take (i := 0) (oi := ⟨some 42, _, _, _, _, _⟩) (v := ?_) rfl (by kernel_rfl) (by kernel_rfl) (by kernel_rfl) (fun _ _ _ h => h) (Or.inl ⟨by rfl, ?_⟩) (by assumption) ?_
          rotate_left
          · (intro w hSw; (try dsimp only at hSw); go_simp; try with_reducible rfl)
          try simp only [Act.put, List.setIfInBounds_toArray, List.set_cons_zero, List.set_cons_succ]
          refine wpAnyH_take (i := 1) (oi := ⟨some 43, _, _, _, _, _⟩) (v := ?_) rfl (by kernel_rfl) (by kernel_rfl) (by kernel_rfl) (fun _ _ _ h => h) (Or.inl ⟨by rfl, ?_⟩) (by assumption) ?_
          rotate_left
          · (intro w hSw; (try dsimp only at hSw); go_simp; try with_reducible rfl)
          try simp only [Act.put, List.setIfInBounds_toArray, List.set_cons_zero, List.set_cons_succ]
          refine wpAnyH_take (i := 2) (oi := ⟨some 44, _, _, _, _, _⟩) (v := ?_) rfl (by kernel_rfl) (by kernel_rfl) (by kernel_rfl) (fun _ _ _ h => h) (Or.inl ⟨by rfl, ?_⟩) (by assumption) ?_
          rotate_left
          · (intro w hSw; (try dsimp only at hSw); go_simp; try with_reducible rfl)
          try simp only [Act.put, List.setIfInBounds_toArray, List.set_cons_zero, List.set_cons_succ]
          refine wpAnyH_take (i := 3) (oi := ⟨some 45, _, _, _, _, _⟩) (v := ?_) rfl (by kernel_rfl) (by kernel_rfl) (by kernel_rfl) (fun _ _ _ h => h) (Or.inl ⟨by rfl, ?_⟩) (by assumption) ?_
          rotate_left
          · (intro w hSw; (try dsimp only at hSw); go_simp; try with_reducible rfl)
          try simp only [Act.put, List.setIfInBounds_toArray, List.set_cons_zero, List.set_cons_succ]
          refine wpAnyH_take (i := 4) (oi := ⟨some 46, _, _, _, _, _⟩) (v := ?_) rfl (by kernel_rfl) (by kernel_rfl) (by kernel_rfl) (fun _ _ _ h => h) (Or.inl ⟨by rfl, ?_⟩) (by assumption) ?_
          rotate_left
          · (intro w hSw; (try dsimp only at hSw); go_simp; try with_reducible rfl)
          try simp only [Act.put, List.setIfInBounds_toArray, List.set_cons_zero, List.set_cons_succ]
          refine wpAnyH_take (i := 5) (oi := ⟨some 47, _, _, _, _, _⟩) (v := ?_) rfl (by kernel_rfl) (by kernel_rfl) (by kernel_rfl) (fun _ _ _ h => h) (Or.inl ⟨by rfl, ?_⟩) (by assumption) ?_
          rotate_left
          · (intro w hSw; (try dsimp only at hSw); go_simp; try with_reducible rfl)
          try simp only [Act.put, List.setIfInBounds_toArray, List.set_cons_zero, List.set_cons_succ]
          refine wpAnyH_take (i := 6) (oi := ⟨some 48, _, _, _, _, _⟩) (v := ?_) rfl (by kernel_rfl) (by kernel_rfl) (by kernel_rfl) (fun _ _ _ h => h) (Or.inl ⟨by rfl, ?_⟩) (by assumption) ?_
          rotate_left
          · (intro w hSw; (try dsimp only at hSw); go_simp; try with_reducible rfl)
          try simp only [Act.put, List.setIfInBounds_toArray, List.set_cons_zero, List.set_cons_succ]
          refine wpAnyH_take (i := 7) (oi := ⟨some 49, _, _, _, _, _⟩) (v := ?_) rfl (by kernel_rfl) (by kernel_rfl) (by kernel_rfl) (fun _ _ _ h => h) (Or.inl ⟨by rfl, ?_⟩) (by assumption) ?_
          rotate_left
          · (intro w hSw; (try dsimp only at hSw); go_simp; try with_reducible rfl)
          try simp only [Act.put, List.setIfInBounds_toArray, List.set_cons_zero, List.set_cons_succ]
          refine wpAnyH_take (i := 9) (oi := ⟨some 51, _, _, _, _, _⟩) (v := ?_) rfl (by kernel_rfl) (by kernel_rfl) (by kernel_rfl) (fun _ _ _ h => h) (Or.inl ⟨by rfl, ?_⟩) (by assumption) ?_
          rotate_left
          · (intro w hSw; (try dsimp only at hSw); go_simp; try with_reducible rfl)
          try simp only [Act.put, List.setIfInBounds_toArray, List.set_cons_zero, List.set_cons_succ]
          refine wpAnyH_take (i := 10) (oi := ⟨some 52, _, _, _, _, _⟩) (v := ?_) rfl (by kernel_rfl) (by kernel_rfl) (by kernel_rfl) (fun _ _ _ h => h) (Or.inl ⟨by rfl, ?_⟩) (by assumption) ?_
          rotate_left
          · (intro w hSw; (try dsimp only at hSw); go_simp; try with_reducible rfl)
          try simp only [Act.put, List.setIfInBounds_toArray, List.set_cons_zero, List.set_cons_succ]
          refine wpAnyH_take (i := 11) (oi := ⟨some 53, _, _, _, _, _⟩) (v := ?_) rfl (by kernel_rfl) (by kernel_rfl) (by kernel_rfl) (fun _ _ _ h => h) (Or.inl ⟨by rfl, ?_⟩) (by assumption) ?_
          rotate_left
          · (intro w hSw; (try dsimp only at hSw); go_simp; try with_reducible rfl)
          try simp only [Act.put, List.setIfInBounds_toArray, List.set_cons_zero, List.set_cons_succ]
          refine wpAnyH_ready (rs := [8]) (by kernel_rfl) (by simp) ?_
          refine AllReadyH.cons rfl (fun K hK => ?_) AllReadyH.nil
          go_simp
          have g6 := (World.grownBy_alloc W5 (.cells #[.int .i32 x] 21) none).trans (gdrew (World.grownBy.refl _ none))
          have ho6 : OwnN (W5.alloc (.cells #[.int .i32 x] 21)).drew W5.heap.size (.slice (some ⟨W5.heap.size, 0, none⟩) 1 1) [x] := (own_one x W5).kept (gdrew (World.grownBy.refl _ none)) (by simp)
          have hs6 : W5.heap.size ≤ (W5.alloc (.cells #[.int .i32 x] 21)).drew.heap.size := g6.size
          generalize (W5.alloc (.cells #[.int .i32 x] 21)).drew = W6 at g6 ho6 hs6 ⊢
          refine hK.out _ _ ⟨g6, hcX.out _ ((hgw.trans hg5).trans g6)⟩ (fun hS1 => ?_)
          clear hK
          refine wpAnyH_ready (rs := [12]) (by kernel_rfl) (by simp) ?_
          refine AllReadyH.cons rfl (fun K hK => ?_) AllReadyH.nil
          rw [if_pos (by rfl)]
          have hL6 := (hown2.out.kept (hg5.trans g6) (by simp)).ro.reads
          rw [hle.out] at hL6
          refine wp_app_rs W6 (.tmp 50) (.tmp 53) 50 rfl W5.heap.size Tryz.underlying50 (.slice (some ⟨W5.heap.size, 0, none⟩) 1 1) [x] rfl ho6 _ (L.drop k) rfl (hL6.high hki) (by rw [List.length_drop]; have := hle.out; simp; omega) hs6 ?_
          intro v7 w7 ho7 hg7 _
          have g7 : W5.grownBy w7 none := gnew g6 hg7 (fun r e => by simp [Value.ownBlock] at e; left; omega)
          have ho7r := ho7.ro.reads
          obtain ⟨a7, c7, rfl⟩ := ho7.form
          refine hK.out _ _ ⟨g7, hcX.out _ ((hgw.trans hg5).trans g7)⟩ (fun hS2 => ?_)
          clear hK ho7 hg7 hL6 ho6
          refine wpAnyH_ready (rs := [13]) (by kernel_rfl) (by simp) ?_
          refine AllReadyH.cons rfl (fun K hK => ?_) AllReadyH.nil
          rw [if_pos (by rfl)]
          have hL7 := (hown2.out.kept (hg5.trans g7) (by simp)).ro.reads
          rw [hle.out] at hL7
          refine wp_app_mid w7 (.tmp 45) (.tmp 54) 50 rfl Tryz.underlying50 a5 (L.take k) k (by rw [List.length_take]; have := hle.out; omega) rfl (hL7.low hki) _ ([x] ++ L.drop k) rfl ho7r (by simp) (by simp; have := hle.out; omega) ?_
          intro v8 w8 ho8 hg8
          have g8 := g7.trans hg8
          obtain ⟨a8, c8, rfl⟩ := ho8.form
          have hn8 : (L.take k ++ ([x] ++ L.drop k)).length = i + 1 := by rw [List.length_append, List.length_append, List.length_take, List.length_drop]; have := hle.out; simp; omega
          rw [hn8] at ho8 ⊢
          refine hK.out _ _ ⟨g8, hcX.out _ ((hgw.trans hg5).trans g8)⟩ (fun hS3 => ?_)
          clear hK hL7
          refine wpAnyH_ready (rs := [14]) (by kernel_rfl) (by simp) ?_
          refine AllReadyH.cons rfl (fun K hK => ?_) AllReadyH.nil
          go_simp
          refine hK.out _ _ hS3 (fun hS4 => ?_)
          clear hK
          refine wpAnyH_done (by kernel_rfl) ?_ _
          have hw7 : w1.heap.size ≤ w7.heap.size := ((hgw.trans hg5).trans g7).size
          have Q : OwnN w8 w1.heap.size (.slice a8 (i + 1) c8) (L.take k ++ ([x] ++ L.drop k)) := ownLow ho8 hw7
          have Q2 : Hid (OwnN w8 w1.heap.size (.slice a8 (i + 1) c8) (O (i + 1))) := Lib.hid (by rw [hins.out]; exact Q)
          have Q3 := (hgw.trans hg5).trans g8
          clear Q hS0 hS1 hS2 hS3 hS4 g6 g7 g8 ho7r ho8 hg8 hown9 hlo hhi hcx9 gd9 hs6 hins hn8
          go_wp2_with fail
          go_roundw
          case rel => exact ⟨i + 1, by go_num, by omega, Q2.out, Q3⟩
          case measure => simp [RowKit.intOf]; omega
    · obtain rfl : n = i := by omega
      rw [hfin.out] at hown
      have hg2 := hg1.out.trans hg
      have Q := Lib.hid (show OwnN wr w.heap.size _ OL from ownLow hown hg1.out.size)
      obtain ⟨a5, c5, rfl⟩ := hown.form
      clear hown hB hCl hL htake hlen hfin
      generalize OL.length = ol at *
      go_wp2_with fail
      go_ret
      exact ⟨_, rfl, Q.out, hg2⟩
end Go.Proofs.YtpdacbiiaglodaaGreat
