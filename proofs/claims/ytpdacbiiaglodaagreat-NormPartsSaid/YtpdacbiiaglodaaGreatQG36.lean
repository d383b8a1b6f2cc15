/-
  LAYER 4 (utf): the reference's scalar at a place.
-/
import Derived.Test.YtpdacbiiaglodaaGreatQG35
import Derived.Test.YtpdacbiiaglodaaGreatQG05
import Derived.Test.YtpdacbiiaglodaaGreatQG34
import Derived.Deep.DeepCutAuto
import Derived.Deep.RegionHeld3
import Derived.LoopN
namespace Go.Proofs.YtpdacbiiaglodaaGreat.U
set_option maxRecDepth 100000
open Go.RowKit Go.Lib

theorem byteAt_str (s : ByteArray) (i j : Nat) (h : i + j < s.size) : byteAt (s.data.toList.drop i) j = ((s[i + j]).toNat : Int) := by
  unfold byteAt
  rw [List.getD_eq_getElem?_getD, List.getElem?_drop, List.getElem?_eq_getElem (by simpa using h)]; rfl

def atEnd : Option (Nat × Nat) → Ending
  | some (r, n) => .returned (.tuple #[.int .i32 (r : Int), .int .i64 (n : Int)])
  | none => .returned (.tuple #[.int .i32 0, .int .i64 0])

set_option maxRecDepth 100000 in
set_option maxHeartbeats 8000000 in
theorem at_any (s : ByteArray) (i : Nat) (w : World) (hs : s.size ≤ 1048576) (hi : i < s.size) :
    Calls Tryz.prog 104 #[.string s, .int .i64 (i : Int)] w fun e w' => e = atEnd (dec (s.data.toList.drop i)) ∧ w.grownBy w' none := by
  have hsz : s.data.toList.length = s.size := by simp
  obtain ⟨l, hl⟩ : ∃ l, l = s.data.toList.drop i := ⟨_, rfl⟩
  have hll : l.length = s.size - i := by rw [hl, List.length_drop, hsz]
  rw [← hl]
  obtain ⟨E, hE⟩ : ∃ E, E = atEnd (dec l) := ⟨_, rfl⟩
  rw [← hE]
  replace hE := Lib.hid hE
  replace hl := Lib.hid hl
  replace hsz := Lib.hid hsz
  replace hll := Lib.hid hll
  go_enter Tryz.func104, Tryz.ntmps104
  go_wp2
  go_loopw [6] (fun vn wr => ∃ n : Nat, vn = .int .i64 (n : Int) ∧ 1 ≤ n ∧ n ≤ 5 ∧ Hid (∀ r m, dec l = some (r, m) → n ≤ m) ∧ w.grownBy wr none) (fun vn _ => 6 - (RowKit.intOf vn).toNat)
  case atStart => exact ⟨1, rfl, by omega, by omega, Lib.hid (fun r m h => (dec_some h).1), World.grownBy.refl w none⟩
  case round =>
    obtain ⟨n, rfl, h1, h5, hN, hg⟩ := hrel
    have hcases : n = 1 ∨ n = 2 ∨ n = 3 ∨ n = 4 ∨ n = 5 := by omega
    clear h1 h5
    rcases hcases with rfl | rfl | rfl | rfl | rfl
    · by_cases hle : i + 1 ≤ s.size
      · obtain ⟨b0, hb0⟩ : ∃ b, s[i] = b := ⟨_, rfl⟩
        have t0 := b0.toNat_lt
        have hcand : cand 1 l = (b0.toNat : Int) := by
          show byteAt l 0 = _
          rw [hl.out, byteAt_str s i 0 (by omega)]
          simp only [Nat.add_zero, hb0]
        replace hcand := Lib.hid hcand
        go_wp2
        refine wp_loop_rounds 1 ?_
        rw [rounds_succ]
        go_wp2
        clear hb0
        have hcd := hcand.out
        generalize (b0.toNat : Int) = R at hcd ⊢
        clear hcand t0
        have hno := fun r' h => cand_no (l := l) (n := 1) (r := r') h
        have hSc := fun w => rscalar_any R w
        by_cases hsc : scalar R = true
        · rw [hsc] at hSc
          obtain ⟨r, rfl, hr⟩ := scalar_nat hsc
          have hfm := fun w => form_any r w hr
          obtain ⟨f, hf⟩ : ∃ f, f = form r := ⟨_, rfl⟩
          rw [← hf] at hfm
          have gD : w.grownBy wr.drew none := gdrew hg
          have hex : (s.extract i (i + 1)).toList = l.take 1 := by
            rw [ByteArray.toList_eq, hl.out]
            simp [ByteArray.extract, ByteArray.copySlice]
          by_cases hq : f = l.take 1
          · have heq : (f == (s.extract i (i + 1)).toList) = true := by rw [hex, hq]; simp
            have hE2 := hE.out
            rw [cand_yes (l := l) (n := 1) (r := r) (by rw [hll.out]; omega) hsc (by rw [← hf]; exact hq), atEnd] at hE2
            subst hE2
            clear hE hN hno hcd hsc hr hf hq hex
            have k1 : (i : Int) + 1 ≤ (s.size : Int) := by omega
            have k2 : (0 : Int) ≤ (i : Int) + 1 := by omega
            have k3 : (i : Int) ≤ (i : Int) + 1 := by omega
            have k4 : ((i : Int) + 1).toNat = i + 1 := by omega
            have k5 : IntKind.i64.wrap ((i : Int) + 1) = (i : Int) + 1 := IntWalk.i64_in _ (by omega)
            refine wp_region_held_drew (S := fun w' => w.grownBy w' none) (by kernel_rfl) gD (fun hS0 => ?_)
            refine wpAnyH_take (i := 0) (oi := ⟨some 57, _, _, _, _, _⟩) (v := ?_) rfl (by kernel_rfl) (by kernel_rfl) (by kernel_rfl) (fun _ _ _ h => h) (Or.inl ⟨by rfl, ?_⟩) (by assumption) ?_
            rotate_left
            · (intro w hSw; (try dsimp only at hSw); go_simp; try with_reducible rfl)
            try simp only [Act.put, List.setIfInBounds_toArray, List.set_cons_zero, List.set_cons_succ]
            refine wpAnyH_ready (rs := [1]) (by kernel_rfl) (by simp) ?_
            refine AllReadyH.cons rfl (fun K hK => ?_) AllReadyH.nil
            go_simp
            refine (hSc _).mono ?_
            rintro e w3 ⟨rfl, rfl⟩
            go_wp2_with fail
            refine hK.out _ _ gD (fun hS3 => ?_)
            clear hK
            refine wpAnyH_take (i := 2) (oi := ⟨some 59, _, _, _, _, _⟩) (v := ?_) rfl (by kernel_rfl) (by kernel_rfl) (by kernel_rfl) (fun _ _ _ h => h) (Or.inl ⟨by rfl, ?_⟩) (by assumption) ?_
            rotate_left
            · (intro w hSw; (try dsimp only at hSw); go_simp; try with_reducible rfl)
            try simp only [Act.put, List.setIfInBounds_toArray, List.set_cons_zero, List.set_cons_succ]
            refine wpAnyH_take (i := 3) (oi := ⟨some 60, _, _, _, _, _⟩) (v := ?_) rfl (by kernel_rfl) (by kernel_rfl) (by kernel_rfl) (fun _ _ _ h => h) (Or.inl ⟨by rfl, ?_⟩) (by assumption) ?_
            rotate_left
            · (intro w hSw; (try dsimp only at hSw); go_simp; try with_reducible rfl)
            try simp only [Act.put, List.setIfInBounds_toArray, List.set_cons_zero, List.set_cons_succ]
            refine wpAnyH_take (i := 6) (oi := ⟨some 63, _, _, _, _, _⟩) (v := ?_) rfl (by kernel_rfl) (by kernel_rfl) (by kernel_rfl) (fun _ _ _ h => h) (Or.inl ⟨by rfl, ?_⟩) (by assumption) ?_
            rotate_left
            · (intro w hSw; (try dsimp only at hSw); go_simp; try with_reducible rfl)
            try simp only [Act.put, List.setIfInBounds_toArray, List.set_cons_zero, List.set_cons_succ]
            refine wpAnyH_take (i := 7) (oi := ⟨some 64, _, _, _, _, _⟩) (v := ?_) rfl (by kernel_rfl) (by kernel_rfl) (by kernel_rfl) (fun _ _ _ h => h) (Or.inl ⟨by rfl, ?_⟩) (by assumption) ?_
            rotate_left
            · (intro w hSw; (try dsimp only at hSw); go_simp; try with_reducible rfl)
            try simp only [Act.put, List.setIfInBounds_toArray, List.set_cons_zero, List.set_cons_succ]
            refine wpAnyH_take (i := 8) (oi := ⟨some 65, _, _, _, _, _⟩) (v := ?_) rfl (by kernel_rfl) (by kernel_rfl) (by kernel_rfl) (fun _ _ _ h => h) (Or.inl ⟨by rfl, ?_⟩) (by assumption) ?_
            rotate_left
            · (intro w hSw; (try dsimp only at hSw); go_simp; try with_reducible rfl)
            try simp only [Act.put, List.setIfInBounds_toArray, List.set_cons_zero, List.set_cons_succ]
            refine wpAnyH_take (i := 9) (oi := ⟨some 66, _, _, _, _, _⟩) (v := ?_) rfl (by kernel_rfl) (by kernel_rfl) (by kernel_rfl) (fun _ _ _ h => h) (Or.inl ⟨by rfl, ?_⟩) (by assumption) ?_
            rotate_left
            · (intro w hSw; (try dsimp only at hSw); go_simp; try with_reducible rfl)
            try simp only [Act.put, List.setIfInBounds_toArray, List.set_cons_zero, List.set_cons_succ]
            refine wpAnyH_take (i := 10) (oi := ⟨some 67, _, _, _, _, _⟩) (v := ?_) rfl (by kernel_rfl) (by kernel_rfl) (by kernel_rfl) (fun _ _ _ h => h) (Or.inl ⟨by rfl, ?_⟩) (by assumption) ?_
            rotate_left
            · (intro w hSw; (try dsimp only at hSw); go_simp; try with_reducible rfl)
            try simp only [Act.put, List.setIfInBounds_toArray, List.set_cons_zero, List.set_cons_succ]
            refine wpAnyH_take (i := 11) (oi := ⟨some 68, _, _, _, _, _⟩) (v := ?_) rfl (by kernel_rfl) (by kernel_rfl) (by kernel_rfl) (fun _ _ _ h => h) (Or.inl ⟨by rfl, ?_⟩) (by assumption) ?_
            rotate_left
            · (intro w hSw; (try dsimp only at hSw); go_simp; try with_reducible rfl)
            try simp only [Act.put, List.setIfInBounds_toArray, List.set_cons_zero, List.set_cons_succ]
            refine wpAnyH_ready (rs := [4]) (by kernel_rfl) (by simp) ?_
            refine AllReadyH.cons rfl (fun K hK => ?_) AllReadyH.nil
            go_simp
            refine (hfm _).mono ?_
            rintro e w4 ⟨v4, rfl, ho4, hg4⟩
            have hg5 := gnew gD hg4 (by simp)
            have hcv4 := conv_of ho4.reads
            go_wp2_with fail
            refine hK.out _ _ hg5 (fun hS4 => ?_)
            clear hK
            refine wpAnyH_ready (rs := [5]) (by kernel_rfl) (by simp) ?_
            refine AllReadyH.cons rfl (fun K hK => ?_) AllReadyH.nil
            go_simp
            refine hK.out _ _ hg5 (fun hS5 => ?_)
            clear hK
            refine wpAnyH_take (i := 12) (oi := ⟨some 69, _, _, _, _, _⟩) (v := ?_) rfl (by kernel_rfl) (by kernel_rfl) (by kernel_rfl) (fun _ _ _ h => h) (Or.inl ⟨by rfl, ?_⟩) (by assumption) ?_
            rotate_left
            · (intro w hSw; (try dsimp only at hSw); go_simp; try with_reducible rfl)
            try simp only [Act.put, List.setIfInBounds_toArray, List.set_cons_zero, List.set_cons_succ]
            refine wpAnyH_take (i := 13) (oi := ⟨some 70, _, _, _, _, _⟩) (v := ?_) rfl (by kernel_rfl) (by kernel_rfl) (by kernel_rfl) (fun _ _ _ h => h) (Or.inl ⟨by rfl, ?_⟩) (by assumption) ?_
            rotate_left
            · (intro w hSw; (try dsimp only at hSw); go_simp; try with_reducible rfl)
            try simp only [Act.put, List.setIfInBounds_toArray, List.set_cons_zero, List.set_cons_succ]
            refine wpAnyH_done (by kernel_rfl) ?_ _
            clear k5 k4
            go_wp2_with fail
            go_ret2
            exact ⟨rfl, hg5⟩
          · have heq : (f == (s.extract i (i + 1)).toList) = false := by rw [hex]; simpa using hq
            have hN2 : ∀ r m, dec l = some (r, m) → 2 ≤ m := by
              intro r' m h
              have h1 := hN.out r' m h
              rcases Nat.lt_or_ge 1 m with h2 | h2
              · exact h2
              · obtain rfl : m = 1 := by omega
                obtain ⟨q1, q2, q3⟩ := hno r' h
                rw [hcd] at q1
                obtain rfl : r = r' := by omega
                exact absurd (hf.trans q3) hq
            replace hN2 := Lib.hid hN2
            clear hE hN hno hcd hsc hr hf hq hex
            have k1 : (i : Int) + 1 ≤ (s.size : Int) := by omega
            have k2 : (0 : Int) ≤ (i : Int) + 1 := by omega
            have k3 : (i : Int) ≤ (i : Int) + 1 := by omega
            have k4 : ((i : Int) + 1).toNat = i + 1 := by omega
            have k5 : IntKind.i64.wrap ((i : Int) + 1) = (i : Int) + 1 := IntWalk.i64_in _ (by omega)
            refine wp_region_held_drew (S := fun w' => w.grownBy w' none) (by kernel_rfl) gD (fun hS0 => ?_)
            refine wpAnyH_take (i := 0) (oi := ⟨some 57, _, _, _, _, _⟩) (v := ?_) rfl (by kernel_rfl) (by kernel_rfl) (by kernel_rfl) (fun _ _ _ h => h) (Or.inl ⟨by rfl, ?_⟩) (by assumption) ?_
            rotate_left
            · (intro w hSw; (try dsimp only at hSw); go_simp; try with_reducible rfl)
            try simp only [Act.put, List.setIfInBounds_toArray, List.set_cons_zero, List.set_cons_succ]
            refine wpAnyH_ready (rs := [1]) (by kernel_rfl) (by simp) ?_
            refine AllReadyH.cons rfl (fun K hK => ?_) AllReadyH.nil
            go_simp
            refine (hSc _).mono ?_
            rintro e w3 ⟨rfl, rfl⟩
            go_wp2_with fail
            refine hK.out _ _ gD (fun hS3 => ?_)
            clear hK
            refine wpAnyH_take (i := 2) (oi := ⟨some 59, _, _, _, _, _⟩) (v := ?_) rfl (by kernel_rfl) (by kernel_rfl) (by kernel_rfl) (fun _ _ _ h => h) (Or.inl ⟨by rfl, ?_⟩) (by assumption) ?_
            rotate_left
            · (intro w hSw; (try dsimp only at hSw); go_simp; try with_reducible rfl)
            try simp only [Act.put, List.setIfInBounds_toArray, List.set_cons_zero, List.set_cons_succ]
            refine wpAnyH_take (i := 3) (oi := ⟨some 60, _, _, _, _, _⟩) (v := ?_) rfl (by kernel_rfl) (by kernel_rfl) (by kernel_rfl) (fun _ _ _ h => h) (Or.inl ⟨by rfl, ?_⟩) (by assumption) ?_
            rotate_left
            · (intro w hSw; (try dsimp only at hSw); go_simp; try with_reducible rfl)
            try simp only [Act.put, List.setIfInBounds_toArray, List.set_cons_zero, List.set_cons_succ]
            refine wpAnyH_take (i := 6) (oi := ⟨some 63, _, _, _, _, _⟩) (v := ?_) rfl (by kernel_rfl) (by kernel_rfl) (by kernel_rfl) (fun _ _ _ h => h) (Or.inl ⟨by rfl, ?_⟩) (by assumption) ?_
            rotate_left
            · (intro w hSw; (try dsimp only at hSw); go_simp; try with_reducible rfl)
            try simp only [Act.put, List.setIfInBounds_toArray, List.set_cons_zero, List.set_cons_succ]
            refine wpAnyH_take (i := 7) (oi := ⟨some 64, _, _, _, _, _⟩) (v := ?_) rfl (by kernel_rfl) (by kernel_rfl) (by kernel_rfl) (fun _ _ _ h => h) (Or.inl ⟨by rfl, ?_⟩) (by assumption) ?_
            rotate_left
            · (intro w hSw; (try dsimp only at hSw); go_simp; try with_reducible rfl)
            try simp only [Act.put, List.setIfInBounds_toArray, List.set_cons_zero, List.set_cons_succ]
            refine wpAnyH_take (i := 8) (oi := ⟨some 65, _, _, _, _, _⟩) (v := ?_) rfl (by kernel_rfl) (by kernel_rfl) (by kernel_rfl) (fun _ _ _ h => h) (Or.inl ⟨by rfl, ?_⟩) (by assumption) ?_
            rotate_left
            · (intro w hSw; (try dsimp only at hSw); go_simp; try with_reducible rfl)
            try simp only [Act.put, List.setIfInBounds_toArray, List.set_cons_zero, List.set_cons_succ]
            refine wpAnyH_take (i := 9) (oi := ⟨some 66, _, _, _, _, _⟩) (v := ?_) rfl (by kernel_rfl) (by kernel_rfl) (by kernel_rfl) (fun _ _ _ h => h) (Or.inl ⟨by rfl, ?_⟩) (by assumption) ?_
            rotate_left
            · (intro w hSw; (try dsimp only at hSw); go_simp; try with_reducible rfl)
            try simp only [Act.put, List.setIfInBounds_toArray, List.set_cons_zero, List.set_cons_succ]
            refine wpAnyH_take (i := 10) (oi := ⟨some 67, _, _, _, _, _⟩) (v := ?_) rfl (by kernel_rfl) (by kernel_rfl) (by kernel_rfl) (fun _ _ _ h => h) (Or.inl ⟨by rfl, ?_⟩) (by assumption) ?_
            rotate_left
            · (intro w hSw; (try dsimp only at hSw); go_simp; try with_reducible rfl)
            try simp only [Act.put, List.setIfInBounds_toArray, List.set_cons_zero, List.set_cons_succ]
            refine wpAnyH_take (i := 11) (oi := ⟨some 68, _, _, _, _, _⟩) (v := ?_) rfl (by kernel_rfl) (by kernel_rfl) (by kernel_rfl) (fun _ _ _ h => h) (Or.inl ⟨by rfl, ?_⟩) (by assumption) ?_
            rotate_left
            · (intro w hSw; (try dsimp only at hSw); go_simp; try with_reducible rfl)
            try simp only [Act.put, List.setIfInBounds_toArray, List.set_cons_zero, List.set_cons_succ]
            refine wpAnyH_ready (rs := [4]) (by kernel_rfl) (by simp) ?_
            refine AllReadyH.cons rfl (fun K hK => ?_) AllReadyH.nil
            go_simp
            refine (hfm _).mono ?_
            rintro e w4 ⟨v4, rfl, ho4, hg4⟩
            have hg5 := gnew gD hg4 (by simp)
            have hcv4 := conv_of ho4.reads
            go_wp2_with fail
            refine hK.out _ _ hg5 (fun hS4 => ?_)
            clear hK
            refine wpAnyH_ready (rs := [5]) (by kernel_rfl) (by simp) ?_
            refine AllReadyH.cons rfl (fun K hK => ?_) AllReadyH.nil
            go_simp
            refine hK.out _ _ hg5 (fun hS5 => ?_)
            clear hK
            refine wpAnyH_take (i := 12) (oi := ⟨some 69, _, _, _, _, _⟩) (v := ?_) rfl (by kernel_rfl) (by kernel_rfl) (by kernel_rfl) (fun _ _ _ h => h) (Or.inl ⟨by rfl, ?_⟩) (by assumption) ?_
            rotate_left
            · (intro w hSw; (try dsimp only at hSw); go_simp; try with_reducible rfl)
            try simp only [Act.put, List.setIfInBounds_toArray, List.set_cons_zero, List.set_cons_succ]
            refine wpAnyH_take (i := 13) (oi := ⟨some 70, _, _, _, _, _⟩) (v := ?_) rfl (by kernel_rfl) (by kernel_rfl) (by kernel_rfl) (fun _ _ _ h => h) (Or.inl ⟨by rfl, ?_⟩) (by assumption) ?_
            rotate_left
            · (intro w hSw; (try dsimp only at hSw); go_simp; try with_reducible rfl)
            try simp only [Act.put, List.setIfInBounds_toArray, List.set_cons_zero, List.set_cons_succ]
            refine wpAnyH_done (by kernel_rfl) ?_ _
            clear k5 k4
            go_wp2_with fail
            exact ⟨⟨2, rfl, by omega, by omega, hN2, hg5⟩, by simp [RowKit.intOf]⟩
        · have hsf : scalar R = false := by simpa using hsc
          rw [hsf] at hSc
          have hN2 : ∀ r m, dec l = some (r, m) → 2 ≤ m := by
            intro r' m h
            have h1 := hN.out r' m h
            rcases Nat.lt_or_ge 1 m with h2 | h2
            · exact h2
            · obtain rfl : m = 1 := by omega
              obtain ⟨q1, q2, q3⟩ := hno r' h
              rw [hcd] at q1
              rw [q1] at hsc
              exact absurd q2 hsc
          replace hN2 := Lib.hid hN2
          clear hE hN hno hcd hsc hsf
          go_quiet ((go_at_call 33; exact Calls.quiet_of_same ((hSc _).mono fun e w' ⟨q1, q2⟩ => ⟨q1, q2.symm⟩)))
          go_wp2_with fail
          exact ⟨⟨2, rfl, by omega, by omega, hN2, gdrewN hg _⟩, by simp [RowKit.intOf]⟩
      · exact absurd hle (by omega)
    · by_cases hle : i + 2 ≤ s.size
      · obtain ⟨b0, hb0⟩ : ∃ b, s[i] = b := ⟨_, rfl⟩
        obtain ⟨b1, hb1⟩ : ∃ b, s[i + 1] = b := ⟨_, rfl⟩
        have t0 := b0.toNat_lt
        have t1 := b1.toNat_lt
        have hcand : cand 2 l = ((b0.toNat : Int) - 192) * 64 + (b1.toNat : Int) - 128 := by
          show (byteAt l 0 - 192) * 64 + byteAt l 1 - 128 = _
          rw [hl.out, byteAt_str s i 0 (by omega), byteAt_str s i 1 (by omega)]
          simp only [Nat.add_zero, hb0, hb1]
        replace hcand := Lib.hid hcand
        go_wp2
        refine wp_loop_rounds 2 ?_
        rw [rounds_succ]
        go_wp2
        rw [rounds_succ]
        go_wp2
        clear hb0 hb1
        have hcd := hcand.out
        generalize ((b0.toNat : Int) - 192) * 64 + (b1.toNat : Int) - 128 = R at hcd ⊢
        clear hcand t0 t1
        have hno := fun r' h => cand_no (l := l) (n := 2) (r := r') h
        have hSc := fun w => rscalar_any R w
        by_cases hsc : scalar R = true
        · rw [hsc] at hSc
          obtain ⟨r, rfl, hr⟩ := scalar_nat hsc
          have hfm := fun w => form_any r w hr
          obtain ⟨f, hf⟩ : ∃ f, f = form r := ⟨_, rfl⟩
          rw [← hf] at hfm
          have gD : w.grownBy wr.drew none := gdrew hg
          have hex : (s.extract i (i + 2)).toList = l.take 2 := by
            rw [ByteArray.toList_eq, hl.out]
            simp [ByteArray.extract, ByteArray.copySlice]
          by_cases hq : f = l.take 2
          · have heq : (f == (s.extract i (i + 2)).toList) = true := by rw [hex, hq]; simp
            have hE2 := hE.out
            rw [cand_yes (l := l) (n := 2) (r := r) (by rw [hll.out]; omega) hsc (by rw [← hf]; exact hq), atEnd] at hE2
            subst hE2
            clear hE hN hno hcd hsc hr hf hq hex
            have k1 : (i : Int) + 2 ≤ (s.size : Int) := by omega
            have k2 : (0 : Int) ≤ (i : Int) + 2 := by omega
            have k3 : (i : Int) ≤ (i : Int) + 2 := by omega
            have k4 : ((i : Int) + 2).toNat = i + 2 := by omega
            have k5 : IntKind.i64.wrap ((i : Int) + 2) = (i : Int) + 2 := IntWalk.i64_in _ (by omega)
            refine wp_region_held_drew (S := fun w' => w.grownBy w' none) (by kernel_rfl) gD (fun hS0 => ?_)
            refine wpAnyH_take (i := 0) (oi := ⟨some 57, _, _, _, _, _⟩) (v := ?_) rfl (by kernel_rfl) (by kernel_rfl) (by kernel_rfl) (fun _ _ _ h => h) (Or.inl ⟨by rfl, ?_⟩) (by assumption) ?_
            rotate_left
            · (intro w hSw; (try dsimp only at hSw); go_simp; try with_reducible rfl)
            try simp only [Act.put, List.setIfInBounds_toArray, List.set_cons_zero, List.set_cons_succ]
            refine wpAnyH_ready (rs := [1]) (by kernel_rfl) (by simp) ?_
            refine AllReadyH.cons rfl (fun K hK => ?_) AllReadyH.nil
            go_simp
            refine (hSc _).mono ?_
            rintro e w3 ⟨rfl, rfl⟩
            go_wp2_with fail
            refine hK.out _ _ gD (fun hS3 => ?_)
            clear hK
            refine wpAnyH_take (i := 2) (oi := ⟨some 59, _, _, _, _, _⟩) (v := ?_) rfl (by kernel_rfl) (by kernel_rfl) (by kernel_rfl) (fun _ _ _ h => h) (Or.inl ⟨by rfl, ?_⟩) (by assumption) ?_
            rotate_left
            · (intro w hSw; (try dsimp only at hSw); go_simp; try with_reducible rfl)
            try simp only [Act.put, List.setIfInBounds_toArray, List.set_cons_zero, List.set_cons_succ]
            refine wpAnyH_take (i := 3) (oi := ⟨some 60, _, _, _, _, _⟩) (v := ?_) rfl (by kernel_rfl) (by kernel_rfl) (by kernel_rfl) (fun _ _ _ h => h) (Or.inl ⟨by rfl, ?_⟩) (by assumption) ?_
            rotate_left
            · (intro w hSw; (try dsimp only at hSw); go_simp; try with_reducible rfl)
            try simp only [Act.put, List.setIfInBounds_toArray, List.set_cons_zero, List.set_cons_succ]
            refine wpAnyH_take (i := 6) (oi := ⟨some 63, _, _, _, _, _⟩) (v := ?_) rfl (by kernel_rfl) (by kernel_rfl) (by kernel_rfl) (fun _ _ _ h => h) (Or.inl ⟨by rfl, ?_⟩) (by assumption) ?_
            rotate_left
            · (intro w hSw; (try dsimp only at hSw); go_simp; try with_reducible rfl)
            try simp only [Act.put, List.setIfInBounds_toArray, List.set_cons_zero, List.set_cons_succ]
            refine wpAnyH_take (i := 7) (oi := ⟨some 64, _, _, _, _, _⟩) (v := ?_) rfl (by kernel_rfl) (by kernel_rfl) (by kernel_rfl) (fun _ _ _ h => h) (Or.inl ⟨by rfl, ?_⟩) (by assumption) ?_
            rotate_left
            · (intro w hSw; (try dsimp only at hSw); go_simp; try with_reducible rfl)
            try simp only [Act.put, List.setIfInBounds_toArray, List.set_cons_zero, List.set_cons_succ]
            refine wpAnyH_take (i := 8) (oi := ⟨some 65, _, _, _, _, _⟩) (v := ?_) rfl (by kernel_rfl) (by kernel_rfl) (by kernel_rfl) (fun _ _ _ h => h) (Or.inl ⟨by rfl, ?_⟩) (by assumption) ?_
            rotate_left
            · (intro w hSw; (try dsimp only at hSw); go_simp; try with_reducible rfl)
            try simp only [Act.put, List.setIfInBounds_toArray, List.set_cons_zero, List.set_cons_succ]
            refine wpAnyH_take (i := 9) (oi := ⟨some 66, _, _, _, _, _⟩) (v := ?_) rfl (by kernel_rfl) (by kernel_rfl) (by kernel_rfl) (fun _ _ _ h => h) (Or.inl ⟨by rfl, ?_⟩) (by assumption) ?_
            rotate_left
            · (intro w hSw; (try dsimp only at hSw); go_simp; try with_reducible rfl)
            try simp only [Act.put, List.setIfInBounds_toArray, List.set_cons_zero, List.set_cons_succ]
            refine wpAnyH_take (i := 10) (oi := ⟨some 67, _, _, _, _, _⟩) (v := ?_) rfl (by kernel_rfl) (by kernel_rfl) (by kernel_rfl) (fun _ _ _ h => h) (Or.inl ⟨by rfl, ?_⟩) (by assumption) ?_
            rotate_left
            · (intro w hSw; (try dsimp only at hSw); go_simp; try with_reducible rfl)
            try simp only [Act.put, List.setIfInBounds_toArray, List.set_cons_zero, List.set_cons_succ]
            refine wpAnyH_take (i := 11) (oi := ⟨some 68, _, _, _, _, _⟩) (v := ?_) rfl (by kernel_rfl) (by kernel_rfl) (by kernel_rfl) (fun _ _ _ h => h) (Or.inl ⟨by rfl, ?_⟩) (by assumption) ?_
            rotate_left
            · (intro w hSw; (try dsimp only at hSw); go_simp; try with_reducible rfl)
            try simp only [Act.put, List.setIfInBounds_toArray, List.set_cons_zero, List.set_cons_succ]
            refine wpAnyH_ready (rs := [4]) (by kernel_rfl) (by simp) ?_
            refine AllReadyH.cons rfl (fun K hK => ?_) AllReadyH.nil
            go_simp
            refine (hfm _).mono ?_
            rintro e w4 ⟨v4, rfl, ho4, hg4⟩
            have hg5 := gnew gD hg4 (by simp)
            have hcv4 := conv_of ho4.reads
            go_wp2_with fail
            refine hK.out _ _ hg5 (fun hS4 => ?_)
            clear hK
            refine wpAnyH_ready (rs := [5]) (by kernel_rfl) (by simp) ?_
            refine AllReadyH.cons rfl (fun K hK => ?_) AllReadyH.nil
            go_simp
            refine hK.out _ _ hg5 (fun hS5 => ?_)
            clear hK
            refine wpAnyH_take (i := 12) (oi := ⟨some 69, _, _, _, _, _⟩) (v := ?_) rfl (by kernel_rfl) (by kernel_rfl) (by kernel_rfl) (fun _ _ _ h => h) (Or.inl ⟨by rfl, ?_⟩) (by assumption) ?_
            rotate_left
            · (intro w hSw; (try dsimp only at hSw); go_simp; try with_reducible rfl)
            try simp only [Act.put, List.setIfInBounds_toArray, List.set_cons_zero, List.set_cons_succ]
            refine wpAnyH_take (i := 13) (oi := ⟨some 70, _, _, _, _, _⟩) (v := ?_) rfl (by kernel_rfl) (by kernel_rfl) (by kernel_rfl) (fun _ _ _ h => h) (Or.inl ⟨by rfl, ?_⟩) (by assumption) ?_
            rotate_left
            · (intro w hSw; (try dsimp only at hSw); go_simp; try with_reducible rfl)
            try simp only [Act.put, List.setIfInBounds_toArray, List.set_cons_zero, List.set_cons_succ]
            refine wpAnyH_done (by kernel_rfl) ?_ _
            clear k5 k4
            go_wp2_with fail
            go_ret2
            exact ⟨rfl, hg5⟩
          · have heq : (f == (s.extract i (i + 2)).toList) = false := by rw [hex]; simpa using hq
            have hN2 : ∀ r m, dec l = some (r, m) → 3 ≤ m := by
              intro r' m h
              have h1 := hN.out r' m h
              rcases Nat.lt_or_ge 2 m with h2 | h2
              · exact h2
              · obtain rfl : m = 2 := by omega
                obtain ⟨q1, q2, q3⟩ := hno r' h
                rw [hcd] at q1
                obtain rfl : r = r' := by omega
                exact absurd (hf.trans q3) hq
            replace hN2 := Lib.hid hN2
            clear hE hN hno hcd hsc hr hf hq hex
            have k1 : (i : Int) + 2 ≤ (s.size : Int) := by omega
            have k2 : (0 : Int) ≤ (i : Int) + 2 := by omega
            have k3 : (i : Int) ≤ (i : Int) + 2 := by omega
            have k4 : ((i : Int) + 2).toNat = i + 2 := by omega
            have k5 : IntKind.i64.wrap ((i : Int) + 2) = (i : Int) + 2 := IntWalk.i64_in _ (by omega)
            refine wp_region_held_drew (S := fun w' => w.grownBy w' none) (by kernel_rfl) gD (fun hS0 => ?_)
            refine wpAnyH_take (i := 0) (oi := ⟨some 57, _, _, _, _, _⟩) (v := ?_) rfl (by kernel_rfl) (by kernel_rfl) (by kernel_rfl) (fun _ _ _ h => h) (Or.inl ⟨by rfl, ?_⟩) (by assumption) ?_
            rotate_left
            · (intro w hSw; (try dsimp only at hSw); go_simp; try with_reducible rfl)
            try simp only [Act.put, List.setIfInBounds_toArray, List.set_cons_zero, List.set_cons_succ]
            refine wpAnyH_ready (rs := [1]) (by kernel_rfl) (by simp) ?_
            refine AllReadyH.cons rfl (fun K hK => ?_) AllReadyH.nil
            go_simp
            refine (hSc _).mono ?_
            rintro e w3 ⟨rfl, rfl⟩
            go_wp2_with fail
            refine hK.out _ _ gD (fun hS3 => ?_)
            clear hK
            refine wpAnyH_take (i := 2) (oi := ⟨some 59, _, _, _, _, _⟩) (v := ?_) rfl (by kernel_rfl) (by kernel_rfl) (by kernel_rfl) (fun _ _ _ h => h) (Or.inl ⟨by rfl, ?_⟩) (by assumption) ?_
            rotate_left
            · (intro w hSw; (try dsimp only at hSw); go_simp; try with_reducible rfl)
            try simp only [Act.put, List.setIfInBounds_toArray, List.set_cons_zero, List.set_cons_succ]
            refine wpAnyH_take (i := 3) (oi := ⟨some 60, _, _, _, _, _⟩) (v := ?_) rfl (by kernel_rfl) (by kernel_rfl) (by kernel_rfl) (fun _ _ _ h => h) (Or.inl ⟨by rfl, ?_⟩) (by assumption) ?_
            rotate_left
            · (intro w hSw; (try dsimp only at hSw); go_simp; try with_reducible rfl)
            try simp only [Act.put, List.setIfInBounds_toArray, List.set_cons_zero, List.set_cons_succ]
            refine wpAnyH_take (i := 6) (oi := ⟨some 63, _, _, _, _, _⟩) (v := ?_) rfl (by kernel_rfl) (by kernel_rfl) (by kernel_rfl) (fun _ _ _ h => h) (Or.inl ⟨by rfl, ?_⟩) (by assumption) ?_
            rotate_left
            · (intro w hSw; (try dsimp only at hSw); go_simp; try with_reducible rfl)
            try simp only [Act.put, List.setIfInBounds_toArray, List.set_cons_zero, List.set_cons_succ]
            refine wpAnyH_take (i := 7) (oi := ⟨some 64, _, _, _, _, _⟩) (v := ?_) rfl (by kernel_rfl) (by kernel_rfl) (by kernel_rfl) (fun _ _ _ h => h) (Or.inl ⟨by rfl, ?_⟩) (by assumption) ?_
            rotate_left
            · (intro w hSw; (try dsimp only at hSw); go_simp; try with_reducible rfl)
            try simp only [Act.put, List.setIfInBounds_toArray, List.set_cons_zero, List.set_cons_succ]
            refine wpAnyH_take (i := 8) (oi := ⟨some 65, _, _, _, _, _⟩) (v := ?_) rfl (by kernel_rfl) (by kernel_rfl) (by kernel_rfl) (fun _ _ _ h => h) (Or.inl ⟨by rfl, ?_⟩) (by assumption) ?_
            rotate_left
            · (intro w hSw; (try dsimp only at hSw); go_simp; try with_reducible rfl)
            try simp only [Act.put, List.setIfInBounds_toArray, List.set_cons_zero, List.set_cons_succ]
            refine wpAnyH_take (i := 9) (oi := ⟨some 66, _, _, _, _, _⟩) (v := ?_) rfl (by kernel_rfl) (by kernel_rfl) (by kernel_rfl) (fun _ _ _ h => h) (Or.inl ⟨by rfl, ?_⟩) (by assumption) ?_
            rotate_left
            · (intro w hSw; (try dsimp only at hSw); go_simp; try with_reducible rfl)
            try simp only [Act.put, List.setIfInBounds_toArray, List.set_cons_zero, List.set_cons_succ]
            refine wpAnyH_take (i := 10) (oi := ⟨some 67, _, _, _, _, _⟩) (v := ?_) rfl (by kernel_rfl) (by kernel_rfl) (by kernel_rfl) (fun _ _ _ h => h) (Or.inl ⟨by rfl, ?_⟩) (by assumption) ?_
            rotate_left
            · (intro w hSw; (try dsimp only at hSw); go_simp; try with_reducible rfl)
            try simp only [Act.put, List.setIfInBounds_toArray, List.set_cons_zero, List.set_cons_succ]
            refine wpAnyH_take (i := 11) (oi := ⟨some 68, _, _, _, _, _⟩) (v := ?_) rfl (by kernel_rfl) (by kernel_rfl) (by kernel_rfl) (fun _ _ _ h => h) (Or.inl ⟨by rfl, ?_⟩) (by assumption) ?_
            rotate_left
            · (intro w hSw; (try dsimp only at hSw); go_simp; try with_reducible rfl)
            try simp only [Act.put, List.setIfInBounds_toArray, List.set_cons_zero, List.set_cons_succ]
            refine wpAnyH_ready (rs := [4]) (by kernel_rfl) (by simp) ?_
            refine AllReadyH.cons rfl (fun K hK => ?_) AllReadyH.nil
            go_simp
            refine (hfm _).mono ?_
            rintro e w4 ⟨v4, rfl, ho4, hg4⟩
            have hg5 := gnew gD hg4 (by simp)
            have hcv4 := conv_of ho4.reads
            go_wp2_with fail
            refine hK.out _ _ hg5 (fun hS4 => ?_)
            clear hK
            refine wpAnyH_ready (rs := [5]) (by kernel_rfl) (by simp) ?_
            refine AllReadyH.cons rfl (fun K hK => ?_) AllReadyH.nil
            go_simp
            refine hK.out _ _ hg5 (fun hS5 => ?_)
            clear hK
            refine wpAnyH_take (i := 12) (oi := ⟨some 69, _, _, _, _, _⟩) (v := ?_) rfl (by kernel_rfl) (by kernel_rfl) (by kernel_rfl) (fun _ _ _ h => h) (Or.inl ⟨by rfl, ?_⟩) (by assumption) ?_
            rotate_left
            · (intro w hSw; (try dsimp only at hSw); go_simp; try with_reducible rfl)
            try simp only [Act.put, List.setIfInBounds_toArray, List.set_cons_zero, List.set_cons_succ]
            refine wpAnyH_take (i := 13) (oi := ⟨some 70, _, _, _, _, _⟩) (v := ?_) rfl (by kernel_rfl) (by kernel_rfl) (by kernel_rfl) (fun _ _ _ h => h) (Or.inl ⟨by rfl, ?_⟩) (by assumption) ?_
            rotate_left
            · (intro w hSw; (try dsimp only at hSw); go_simp; try with_reducible rfl)
            try simp only [Act.put, List.setIfInBounds_toArray, List.set_cons_zero, List.set_cons_succ]
            refine wpAnyH_done (by kernel_rfl) ?_ _
            clear k5 k4
            go_wp2_with fail
            exact ⟨⟨3, rfl, by omega, by omega, hN2, hg5⟩, by simp [RowKit.intOf]⟩
        · have hsf : scalar R = false := by simpa using hsc
          rw [hsf] at hSc
          have hN2 : ∀ r m, dec l = some (r, m) → 3 ≤ m := by
            intro r' m h
            have h1 := hN.out r' m h
            rcases Nat.lt_or_ge 2 m with h2 | h2
            · exact h2
            · obtain rfl : m = 2 := by omega
              obtain ⟨q1, q2, q3⟩ := hno r' h
              rw [hcd] at q1
              rw [q1] at hsc
              exact absurd q2 hsc
          replace hN2 := Lib.hid hN2
          clear hE hN hno hcd hsc hsf
          go_quiet ((go_at_call 33; exact Calls.quiet_of_same ((hSc _).mono fun e w' ⟨q1, q2⟩ => ⟨q1, q2.symm⟩)))
          go_wp2_with fail
          exact ⟨⟨3, rfl, by omega, by omega, hN2, gdrewN hg _⟩, by simp [RowKit.intOf]⟩
      · have hdn : dec l = none := by
          cases hd : dec l with
          | none => rfl
          | some x =>
            obtain ⟨r, m⟩ := x
            have q1 := hN.out r m hd
            have q2 := dec_some hd
            have q3 := hll.out
            omega
        have hE2 := hE.out
        rw [hdn, atEnd] at hE2
        subst hE2
        clear hE hN hdn
        go_wp2
        go_ret2
        exact ⟨rfl, hg⟩
    · by_cases hle : i + 3 ≤ s.size
      · obtain ⟨b0, hb0⟩ : ∃ b, s[i] = b := ⟨_, rfl⟩
        obtain ⟨b1, hb1⟩ : ∃ b, s[i + 1] = b := ⟨_, rfl⟩
        obtain ⟨b2, hb2⟩ : ∃ b, s[i + 2] = b := ⟨_, rfl⟩
        have t0 := b0.toNat_lt
        have t1 := b1.toNat_lt
        have t2 := b2.toNat_lt
        have hcand : cand 3 l = (((b0.toNat : Int) - 224) * 64 + (b1.toNat : Int) - 128) * 64 + (b2.toNat : Int) - 128 := by
          show ((byteAt l 0 - 224) * 64 + byteAt l 1 - 128) * 64 + byteAt l 2 - 128 = _
          rw [hl.out, byteAt_str s i 0 (by omega), byteAt_str s i 1 (by omega), byteAt_str s i 2 (by omega)]
          simp only [Nat.add_zero, hb0, hb1, hb2]
        replace hcand := Lib.hid hcand
        go_wp2
        refine wp_loop_rounds 3 ?_
        rw [rounds_succ]
        go_wp2
        rw [rounds_succ]
        go_wp2
        rw [rounds_succ]
        go_wp2
        clear hb0 hb1 hb2
        have hcd := hcand.out
        generalize (((b0.toNat : Int) - 224) * 64 + (b1.toNat : Int) - 128) * 64 + (b2.toNat : Int) - 128 = R at hcd ⊢
        clear hcand t0 t1 t2
        have hno := fun r' h => cand_no (l := l) (n := 3) (r := r') h
        have hSc := fun w => rscalar_any R w
        by_cases hsc : scalar R = true
        · rw [hsc] at hSc
          obtain ⟨r, rfl, hr⟩ := scalar_nat hsc
          have hfm := fun w => form_any r w hr
          obtain ⟨f, hf⟩ : ∃ f, f = form r := ⟨_, rfl⟩
          rw [← hf] at hfm
          have gD : w.grownBy wr.drew none := gdrew hg
          have hex : (s.extract i (i + 3)).toList = l.take 3 := by
            rw [ByteArray.toList_eq, hl.out]
            simp [ByteArray.extract, ByteArray.copySlice]
          by_cases hq : f = l.take 3
          · have heq : (f == (s.extract i (i + 3)).toList) = true := by rw [hex, hq]; simp
            have hE2 := hE.out
            rw [cand_yes (l := l) (n := 3) (r := r) (by rw [hll.out]; omega) hsc (by rw [← hf]; exact hq), atEnd] at hE2
            subst hE2
            clear hE hN hno hcd hsc hr hf hq hex
            have k1 : (i : Int) + 3 ≤ (s.size : Int) := by omega
            have k2 : (0 : Int) ≤ (i : Int) + 3 := by omega
            have k3 : (i : Int) ≤ (i : Int) + 3 := by omega
            have k4 : ((i : Int) + 3).toNat = i + 3 := by omega
            have k5 : IntKind.i64.wrap ((i : Int) + 3) = (i : Int) + 3 := IntWalk.i64_in _ (by omega)
            refine wp_region_held_drew (S := fun w' => w.grownBy w' none) (by kernel_rfl) gD (fun hS0 => ?_)
            refine wpAnyH_take (i := 0) (oi := ⟨some 57, _, _, _, _, _⟩) (v := ?_) rfl (by kernel_rfl) (by kernel_rfl) (by kernel_rfl) (fun _ _ _ h => h) (Or.inl ⟨by rfl, ?_⟩) (by assumption) ?_
            rotate_left
            · (intro w hSw; (try dsimp only at hSw); go_simp; try with_reducible rfl)
            try simp only [Act.put, List.setIfInBounds_toArray, List.set_cons_zero, List.set_cons_succ]
            refine wpAnyH_ready (rs := [1]) (by kernel_rfl) (by simp) ?_
            refine AllReadyH.cons rfl (fun K hK => ?_) AllReadyH.nil
            go_simp
            refine (hSc _).mono ?_
            rintro e w3 ⟨rfl, rfl⟩
            go_wp2_with fail
            refine hK.out _ _ gD (fun hS3 => ?_)
            clear hK
            refine wpAnyH_take (i := 2) (oi := ⟨some 59, _, _, _, _, _⟩) (v := ?_) rfl (by kernel_rfl) (by kernel_rfl) (by kernel_rfl) (fun _ _ _ h => h) (Or.inl ⟨by rfl, ?_⟩) (by assumption) ?_
            rotate_left
            · (intro w hSw; (try dsimp only at hSw); go_simp; try with_reducible rfl)
            try simp only [Act.put, List.setIfInBounds_toArray, List.set_cons_zero, List.set_cons_succ]
            refine wpAnyH_take (i := 3) (oi := ⟨some 60, _, _, _, _, _⟩) (v := ?_) rfl (by kernel_rfl) (by kernel_rfl) (by kernel_rfl) (fun _ _ _ h => h) (Or.inl ⟨by rfl, ?_⟩) (by assumption) ?_
            rotate_left
            · (intro w hSw; (try dsimp only at hSw); go_simp; try with_reducible rfl)
            try simp only [Act.put, List.setIfInBounds_toArray, List.set_cons_zero, List.set_cons_succ]
            refine wpAnyH_take (i := 6) (oi := ⟨some 63, _, _, _, _, _⟩) (v := ?_) rfl (by kernel_rfl) (by kernel_rfl) (by kernel_rfl) (fun _ _ _ h => h) (Or.inl ⟨by rfl, ?_⟩) (by assumption) ?_
            rotate_left
            · (intro w hSw; (try dsimp only at hSw); go_simp; try with_reducible rfl)
            try simp only [Act.put, List.setIfInBounds_toArray, List.set_cons_zero, List.set_cons_succ]
            refine wpAnyH_take (i := 7) (oi := ⟨some 64, _, _, _, _, _⟩) (v := ?_) rfl (by kernel_rfl) (by kernel_rfl) (by kernel_rfl) (fun _ _ _ h => h) (Or.inl ⟨by rfl, ?_⟩) (by assumption) ?_
            rotate_left
            · (intro w hSw; (try dsimp only at hSw); go_simp; try with_reducible rfl)
            try simp only [Act.put, List.setIfInBounds_toArray, List.set_cons_zero, List.set_cons_succ]
            refine wpAnyH_take (i := 8) (oi := ⟨some 65, _, _, _, _, _⟩) (v := ?_) rfl (by kernel_rfl) (by kernel_rfl) (by kernel_rfl) (fun _ _ _ h => h) (Or.inl ⟨by rfl, ?_⟩) (by assumption) ?_
            rotate_left
            · (intro w hSw; (try dsimp only at hSw); go_simp; try with_reducible rfl)
            try simp only [Act.put, List.setIfInBounds_toArray, List.set_cons_zero, List.set_cons_succ]
            refine wpAnyH_take (i := 9) (oi := ⟨some 66, _, _, _, _, _⟩) (v := ?_) rfl (by kernel_rfl) (by kernel_rfl) (by kernel_rfl) (fun _ _ _ h => h) (Or.inl ⟨by rfl, ?_⟩) (by assumption) ?_
            rotate_left
            · (intro w hSw; (try dsimp only at hSw); go_simp; try with_reducible rfl)
            try simp only [Act.put, List.setIfInBounds_toArray, List.set_cons_zero, List.set_cons_succ]
            refine wpAnyH_take (i := 10) (oi := ⟨some 67, _, _, _, _, _⟩) (v := ?_) rfl (by kernel_rfl) (by kernel_rfl) (by kernel_rfl) (fun _ _ _ h => h) (Or.inl ⟨by rfl, ?_⟩) (by assumption) ?_
            rotate_left
            · (intro w hSw; (try dsimp only at hSw); go_simp; try with_reducible rfl)
            try simp only [Act.put, List.setIfInBounds_toArray, List.set_cons_zero, List.set_cons_succ]
            refine wpAnyH_take (i := 11) (oi := ⟨some 68, _, _, _, _, _⟩) (v := ?_) rfl (by kernel_rfl) (by kernel_rfl) (by kernel_rfl) (fun _ _ _ h => h) (Or.inl ⟨by rfl, ?_⟩) (by assumption) ?_
            rotate_left
            · (intro w hSw; (try dsimp only at hSw); go_simp; try with_reducible rfl)
            try simp only [Act.put, List.setIfInBounds_toArray, List.set_cons_zero, List.set_cons_succ]
            refine wpAnyH_ready (rs := [4]) (by kernel_rfl) (by simp) ?_
            refine AllReadyH.cons rfl (fun K hK => ?_) AllReadyH.nil
            go_simp
            refine (hfm _).mono ?_
            rintro e w4 ⟨v4, rfl, ho4, hg4⟩
            have hg5 := gnew gD hg4 (by simp)
            have hcv4 := conv_of ho4.reads
            go_wp2_with fail
            refine hK.out _ _ hg5 (fun hS4 => ?_)
            clear hK
            refine wpAnyH_ready (rs := [5]) (by kernel_rfl) (by simp) ?_
            refine AllReadyH.cons rfl (fun K hK => ?_) AllReadyH.nil
            go_simp
            refine hK.out _ _ hg5 (fun hS5 => ?_)
            clear hK
            refine wpAnyH_take (i := 12) (oi := ⟨some 69, _, _, _, _, _⟩) (v := ?_) rfl (by kernel_rfl) (by kernel_rfl) (by kernel_rfl) (fun _ _ _ h => h) (Or.inl ⟨by rfl, ?_⟩) (by assumption) ?_
            rotate_left
            · (intro w hSw; (try dsimp only at hSw); go_simp; try with_reducible rfl)
            try simp only [Act.put, List.setIfInBounds_toArray, List.set_cons_zero, List.set_cons_succ]
            refine wpAnyH_take (i := 13) (oi := ⟨some 70, _, _, _, _, _⟩) (v := ?_) rfl (by kernel_rfl) (by kernel_rfl) (by kernel_rfl) (fun _ _ _ h => h) (Or.inl ⟨by rfl, ?_⟩) (by assumption) ?_
            rotate_left
            · (intro w hSw; (try dsimp only at hSw); go_simp; try with_reducible rfl)
            try simp only [Act.put, List.setIfInBounds_toArray, List.set_cons_zero, List.set_cons_succ]
            refine wpAnyH_done (by kernel_rfl) ?_ _
            clear k5 k4
            go_wp2_with fail
            go_ret2
            exact ⟨rfl, hg5⟩
          · have heq : (f == (s.extract i (i + 3)).toList) = false := by rw [hex]; simpa using hq
            have hN2 : ∀ r m, dec l = some (r, m) → 4 ≤ m := by
              intro r' m h
              have h1 := hN.out r' m h
              rcases Nat.lt_or_ge 3 m with h2 | h2
              · exact h2
              · obtain rfl : m = 3 := by omega
                obtain ⟨q1, q2, q3⟩ := hno r' h
                rw [hcd] at q1
                obtain rfl : r = r' := by omega
                exact absurd (hf.trans q3) hq
            replace hN2 := Lib.hid hN2
            clear hE hN hno hcd hsc hr hf hq hex
            have k1 : (i : Int) + 3 ≤ (s.size : Int) := by omega
            have k2 : (0 : Int) ≤ (i : Int) + 3 := by omega
            have k3 : (i : Int) ≤ (i : Int) + 3 := by omega
            have k4 : ((i : Int) + 3).toNat = i + 3 := by omega
            have k5 : IntKind.i64.wrap ((i : Int) + 3) = (i : Int) + 3 := IntWalk.i64_in _ (by omega)
            refine wp_region_held_drew (S := fun w' => w.grownBy w' none) (by kernel_rfl) gD (fun hS0 => ?_)
            refine wpAnyH_take (i := 0) (oi := ⟨some 57, _, _, _, _, _⟩) (v := ?_) rfl (by kernel_rfl) (by kernel_rfl) (by kernel_rfl) (fun _ _ _ h => h) (Or.inl ⟨by rfl, ?_⟩) (by assumption) ?_
            rotate_left
            · (intro w hSw; (try dsimp only at hSw); go_simp; try with_reducible rfl)
            try simp only [Act.put, List.setIfInBounds_toArray, List.set_cons_zero, List.set_cons_succ]
            refine wpAnyH_ready (rs := [1]) (by kernel_rfl) (by simp) ?_
            refine AllReadyH.cons rfl (fun K hK => ?_) AllReadyH.nil
            go_simp
            refine (hSc _).mono ?_
            rintro e w3 ⟨rfl, rfl⟩
            go_wp2_with fail
            refine hK.out _ _ gD (fun hS3 => ?_)
            clear hK
            refine wpAnyH_take (i := 2) (oi := ⟨some 59, _, _, _, _, _⟩) (v := ?_) rfl (by kernel_rfl) (by kernel_rfl) (by kernel_rfl) (fun _ _ _ h => h) (Or.inl ⟨by rfl, ?_⟩) (by assumption) ?_
            rotate_left
            · (intro w hSw; (try dsimp only at hSw); go_simp; try with_reducible rfl)
            try simp only [Act.put, List.setIfInBounds_toArray, List.set_cons_zero, List.set_cons_succ]
            refine wpAnyH_take (i := 3) (oi := ⟨some 60, _, _, _, _, _⟩) (v := ?_) rfl (by kernel_rfl) (by kernel_rfl) (by kernel_rfl) (fun _ _ _ h => h) (Or.inl ⟨by rfl, ?_⟩) (by assumption) ?_
            rotate_left
            · (intro w hSw; (try dsimp only at hSw); go_simp; try with_reducible rfl)
            try simp only [Act.put, List.setIfInBounds_toArray, List.set_cons_zero, List.set_cons_succ]
            refine wpAnyH_take (i := 6) (oi := ⟨some 63, _, _, _, _, _⟩) (v := ?_) rfl (by kernel_rfl) (by kernel_rfl) (by kernel_rfl) (fun _ _ _ h => h) (Or.inl ⟨by rfl, ?_⟩) (by assumption) ?_
            rotate_left
            · (intro w hSw; (try dsimp only at hSw); go_simp; try with_reducible rfl)
            try simp only [Act.put, List.setIfInBounds_toArray, List.set_cons_zero, List.set_cons_succ]
            refine wpAnyH_take (i := 7) (oi := ⟨some 64, _, _, _, _, _⟩) (v := ?_) rfl (by kernel_rfl) (by kernel_rfl) (by kernel_rfl) (fun _ _ _ h => h) (Or.inl ⟨by rfl, ?_⟩) (by assumption) ?_
            rotate_left
            · (intro w hSw; (try dsimp only at hSw); go_simp; try with_reducible rfl)
            try simp only [Act.put, List.setIfInBounds_toArray, List.set_cons_zero, List.set_cons_succ]
            refine wpAnyH_take (i := 8) (oi := ⟨some 65, _, _, _, _, _⟩) (v := ?_) rfl (by kernel_rfl) (by kernel_rfl) (by kernel_rfl) (fun _ _ _ h => h) (Or.inl ⟨by rfl, ?_⟩) (by assumption) ?_
            rotate_left
            · (intro w hSw; (try dsimp only at hSw); go_simp; try with_reducible rfl)
            try simp only [Act.put, List.setIfInBounds_toArray, List.set_cons_zero, List.set_cons_succ]
            refine wpAnyH_take (i := 9) (oi := ⟨some 66, _, _, _, _, _⟩) (v := ?_) rfl (by kernel_rfl) (by kernel_rfl) (by kernel_rfl) (fun _ _ _ h => h) (Or.inl ⟨by rfl, ?_⟩) (by assumption) ?_
            rotate_left
            · (intro w hSw; (try dsimp only at hSw); go_simp; try with_reducible rfl)
            try simp only [Act.put, List.setIfInBounds_toArray, List.set_cons_zero, List.set_cons_succ]
            refine wpAnyH_take (i := 10) (oi := ⟨some 67, _, _, _, _, _⟩) (v := ?_) rfl (by kernel_rfl) (by kernel_rfl) (by kernel_rfl) (fun _ _ _ h => h) (Or.inl ⟨by rfl, ?_⟩) (by assumption) ?_
            rotate_left
            · (intro w hSw; (try dsimp only at hSw); go_simp; try with_reducible rfl)
            try simp only [Act.put, List.setIfInBounds_toArray, List.set_cons_zero, List.set_cons_succ]
            refine wpAnyH_take (i := 11) (oi := ⟨some 68, _, _, _, _, _⟩) (v := ?_) rfl (by kernel_rfl) (by kernel_rfl) (by kernel_rfl) (fun _ _ _ h => h) (Or.inl ⟨by rfl, ?_⟩) (by assumption) ?_
            rotate_left
            · (intro w hSw; (try dsimp only at hSw); go_simp; try with_reducible rfl)
            try simp only [Act.put, List.setIfInBounds_toArray, List.set_cons_zero, List.set_cons_succ]
            refine wpAnyH_ready (rs := [4]) (by kernel_rfl) (by simp) ?_
            refine AllReadyH.cons rfl (fun K hK => ?_) AllReadyH.nil
            go_simp
            refine (hfm _).mono ?_
            rintro e w4 ⟨v4, rfl, ho4, hg4⟩
            have hg5 := gnew gD hg4 (by simp)
            have hcv4 := conv_of ho4.reads
            go_wp2_with fail
            refine hK.out _ _ hg5 (fun hS4 => ?_)
            clear hK
            refine wpAnyH_ready (rs := [5]) (by kernel_rfl) (by simp) ?_
            refine AllReadyH.cons rfl (fun K hK => ?_) AllReadyH.nil
            go_simp
            refine hK.out _ _ hg5 (fun hS5 => ?_)
            clear hK
            refine wpAnyH_take (i := 12) (oi := ⟨some 69, _, _, _, _, _⟩) (v := ?_) rfl (by kernel_rfl) (by kernel_rfl) (by kernel_rfl) (fun _ _ _ h => h) (Or.inl ⟨by rfl, ?_⟩) (by assumption) ?_
            rotate_left
            · (intro w hSw; (try dsimp only at hSw); go_simp; try with_reducible rfl)
            try simp only [Act.put, List.setIfInBounds_toArray, List.set_cons_zero, List.set_cons_succ]
            refine wpAnyH_take (i := 13) (oi := ⟨some 70, _, _, _, _, _⟩) (v := ?_) rfl (by kernel_rfl) (by kernel_rfl) (by kernel_rfl) (fun _ _ _ h => h) (Or.inl ⟨by rfl, ?_⟩) (by assumption) ?_
            rotate_left
            · (intro w hSw; (try dsimp only at hSw); go_simp; try with_reducible rfl)
            try simp only [Act.put, List.setIfInBounds_toArray, List.set_cons_zero, List.set_cons_succ]
            refine wpAnyH_done (by kernel_rfl) ?_ _
            clear k5 k4
            go_wp2_with fail
            exact ⟨⟨4, rfl, by omega, by omega, hN2, hg5⟩, by simp [RowKit.intOf]⟩
        · have hsf : scalar R = false := by simpa using hsc
          rw [hsf] at hSc
          have hN2 : ∀ r m, dec l = some (r, m) → 4 ≤ m := by
            intro r' m h
            have h1 := hN.out r' m h
            rcases Nat.lt_or_ge 3 m with h2 | h2
            · exact h2
            · obtain rfl : m = 3 := by omega
              obtain ⟨q1, q2, q3⟩ := hno r' h
              rw [hcd] at q1
              rw [q1] at hsc
              exact absurd q2 hsc
          replace hN2 := Lib.hid hN2
          clear hE hN hno hcd hsc hsf
          go_quiet ((go_at_call 33; exact Calls.quiet_of_same ((hSc _).mono fun e w' ⟨q1, q2⟩ => ⟨q1, q2.symm⟩)))
          go_wp2_with fail
          exact ⟨⟨4, rfl, by omega, by omega, hN2, gdrewN hg _⟩, by simp [RowKit.intOf]⟩
      · have hdn : dec l = none := by
          cases hd : dec l with
          | none => rfl
          | some x =>
            obtain ⟨r, m⟩ := x
            have q1 := hN.out r m hd
            have q2 := dec_some hd
            have q3 := hll.out
            omega
        have hE2 := hE.out
        rw [hdn, atEnd] at hE2
        subst hE2
        clear hE hN hdn
        go_wp2
        go_ret2
        exact ⟨rfl, hg⟩
    · by_cases hle : i + 4 ≤ s.size
      · obtain ⟨b0, hb0⟩ : ∃ b, s[i] = b := ⟨_, rfl⟩
        obtain ⟨b1, hb1⟩ : ∃ b, s[i + 1] = b := ⟨_, rfl⟩
        obtain ⟨b2, hb2⟩ : ∃ b, s[i + 2] = b := ⟨_, rfl⟩
        obtain ⟨b3, hb3⟩ : ∃ b, s[i + 3] = b := ⟨_, rfl⟩
        have t0 := b0.toNat_lt
        have t1 := b1.toNat_lt
        have t2 := b2.toNat_lt
        have t3 := b3.toNat_lt
        have hcand : cand 4 l = ((((b0.toNat : Int) - 240) * 64 + (b1.toNat : Int) - 128) * 64 + (b2.toNat : Int) - 128) * 64 + (b3.toNat : Int) - 128 := by
          show (((byteAt l 0 - 240) * 64 + byteAt l 1 - 128) * 64 + byteAt l 2 - 128) * 64 + byteAt l 3 - 128 = _
          rw [hl.out, byteAt_str s i 0 (by omega), byteAt_str s i 1 (by omega), byteAt_str s i 2 (by omega), byteAt_str s i 3 (by omega)]
          simp only [Nat.add_zero, hb0, hb1, hb2, hb3]
        replace hcand := Lib.hid hcand
        go_wp2
        refine wp_loop_rounds 4 ?_
        rw [rounds_succ]
        go_wp2
        rw [rounds_succ]
        go_wp2
        rw [rounds_succ]
        go_wp2
        rw [rounds_succ]
        go_wp2
        clear hb0 hb1 hb2 hb3
        have hcd := hcand.out
        generalize ((((b0.toNat : Int) - 240) * 64 + (b1.toNat : Int) - 128) * 64 + (b2.toNat : Int) - 128) * 64 + (b3.toNat : Int) - 128 = R at hcd ⊢
        clear hcand t0 t1 t2 t3
        have hno := fun r' h => cand_no (l := l) (n := 4) (r := r') h
        have hSc := fun w => rscalar_any R w
        by_cases hsc : scalar R = true
        · rw [hsc] at hSc
          obtain ⟨r, rfl, hr⟩ := scalar_nat hsc
          have hfm := fun w => form_any r w hr
          obtain ⟨f, hf⟩ : ∃ f, f = form r := ⟨_, rfl⟩
          rw [← hf] at hfm
          have gD : w.grownBy wr.drew none := gdrew hg
          have hex : (s.extract i (i + 4)).toList = l.take 4 := by
            rw [ByteArray.toList_eq, hl.out]
            simp [ByteArray.extract, ByteArray.copySlice]
          by_cases hq : f = l.take 4
          · have heq : (f == (s.extract i (i + 4)).toList) = true := by rw [hex, hq]; simp
            have hE2 := hE.out
            rw [cand_yes (l := l) (n := 4) (r := r) (by rw [hll.out]; omega) hsc (by rw [← hf]; exact hq), atEnd] at hE2
            subst hE2
            clear hE hN hno hcd hsc hr hf hq hex
            have k1 : (i : Int) + 4 ≤ (s.size : Int) := by omega
            have k2 : (0 : Int) ≤ (i : Int) + 4 := by omega
            have k3 : (i : Int) ≤ (i : Int) + 4 := by omega
            have k4 : ((i : Int) + 4).toNat = i + 4 := by omega
            have k5 : IntKind.i64.wrap ((i : Int) + 4) = (i : Int) + 4 := IntWalk.i64_in _ (by omega)
            refine wp_region_held_drew (S := fun w' => w.grownBy w' none) (by kernel_rfl) gD (fun hS0 => ?_)
            refine wpAnyH_take (i := 0) (oi := ⟨some 57, _, _, _, _, _⟩) (v := ?_) rfl (by kernel_rfl) (by kernel_rfl) (by kernel_rfl) (fun _ _ _ h => h) (Or.inl ⟨by rfl, ?_⟩) (by assumption) ?_
            rotate_left
            · (intro w hSw; (try dsimp only at hSw); go_simp; try with_reducible rfl)
            try simp only [Act.put, List.setIfInBounds_toArray, List.set_cons_zero, List.set_cons_succ]
            refine wpAnyH_ready (rs := [1]) (by kernel_rfl) (by simp) ?_
            refine AllReadyH.cons rfl (fun K hK => ?_) AllReadyH.nil
            go_simp
            refine (hSc _).mono ?_
            rintro e w3 ⟨rfl, rfl⟩
            go_wp2_with fail
            refine hK.out _ _ gD (fun hS3 => ?_)
            clear hK
            refine wpAnyH_take (i := 2) (oi := ⟨some 59, _, _, _, _, _⟩) (v := ?_) rfl (by kernel_rfl) (by kernel_rfl) (by kernel_rfl) (fun _ _ _ h => h) (Or.inl ⟨by rfl, ?_⟩) (by assumption) ?_
            rotate_left
            · (intro w hSw; (try dsimp only at hSw); go_simp; try with_reducible rfl)
            try simp only [Act.put, List.setIfInBounds_toArray, List.set_cons_zero, List.set_cons_succ]
            refine wpAnyH_take (i := 3) (oi := ⟨some 60, _, _, _, _, _⟩) (v := ?_) rfl (by kernel_rfl) (by kernel_rfl) (by kernel_rfl) (fun _ _ _ h => h) (Or.inl ⟨by rfl, ?_⟩) (by assumption) ?_
            rotate_left
            · (intro w hSw; (try dsimp only at hSw); go_simp; try with_reducible rfl)
            try simp only [Act.put, List.setIfInBounds_toArray, List.set_cons_zero, List.set_cons_succ]
            refine wpAnyH_take (i := 6) (oi := ⟨some 63, _, _, _, _, _⟩) (v := ?_) rfl (by kernel_rfl) (by kernel_rfl) (by kernel_rfl) (fun _ _ _ h => h) (Or.inl ⟨by rfl, ?_⟩) (by assumption) ?_
            rotate_left
            · (intro w hSw; (try dsimp only at hSw); go_simp; try with_reducible rfl)
            try simp only [Act.put, List.setIfInBounds_toArray, List.set_cons_zero, List.set_cons_succ]
            refine wpAnyH_take (i := 7) (oi := ⟨some 64, _, _, _, _, _⟩) (v := ?_) rfl (by kernel_rfl) (by kernel_rfl) (by kernel_rfl) (fun _ _ _ h => h) (Or.inl ⟨by rfl, ?_⟩) (by assumption) ?_
            rotate_left
            · (intro w hSw; (try dsimp only at hSw); go_simp; try with_reducible rfl)
            try simp only [Act.put, List.setIfInBounds_toArray, List.set_cons_zero, List.set_cons_succ]
            refine wpAnyH_take (i := 8) (oi := ⟨some 65, _, _, _, _, _⟩) (v := ?_) rfl (by kernel_rfl) (by kernel_rfl) (by kernel_rfl) (fun _ _ _ h => h) (Or.inl ⟨by rfl, ?_⟩) (by assumption) ?_
            rotate_left
            · (intro w hSw; (try dsimp only at hSw); go_simp; try with_reducible rfl)
            try simp only [Act.put, List.setIfInBounds_toArray, List.set_cons_zero, List.set_cons_succ]
            refine wpAnyH_take (i := 9) (oi := ⟨some 66, _, _, _, _, _⟩) (v := ?_) rfl (by kernel_rfl) (by kernel_rfl) (by kernel_rfl) (fun _ _ _ h => h) (Or.inl ⟨by rfl, ?_⟩) (by assumption) ?_
            rotate_left
            · (intro w hSw; (try dsimp only at hSw); go_simp; try with_reducible rfl)
            try simp only [Act.put, List.setIfInBounds_toArray, List.set_cons_zero, List.set_cons_succ]
            refine wpAnyH_take (i := 10) (oi := ⟨some 67, _, _, _, _, _⟩) (v := ?_) rfl (by kernel_rfl) (by kernel_rfl) (by kernel_rfl) (fun _ _ _ h => h) (Or.inl ⟨by rfl, ?_⟩) (by assumption) ?_
            rotate_left
            · (intro w hSw; (try dsimp only at hSw); go_simp; try with_reducible rfl)
            try simp only [Act.put, List.setIfInBounds_toArray, List.set_cons_zero, List.set_cons_succ]
            refine wpAnyH_take (i := 11) (oi := ⟨some 68, _, _, _, _, _⟩) (v := ?_) rfl (by kernel_rfl) (by kernel_rfl) (by kernel_rfl) (fun _ _ _ h => h) (Or.inl ⟨by rfl, ?_⟩) (by assumption) ?_
            rotate_left
            · (intro w hSw; (try dsimp only at hSw); go_simp; try with_reducible rfl)
            try simp only [Act.put, List.setIfInBounds_toArray, List.set_cons_zero, List.set_cons_succ]
            refine wpAnyH_ready (rs := [4]) (by kernel_rfl) (by simp) ?_
            refine AllReadyH.cons rfl (fun K hK => ?_) AllReadyH.nil
            go_simp
            refine (hfm _).mono ?_
            rintro e w4 ⟨v4, rfl, ho4, hg4⟩
            have hg5 := gnew gD hg4 (by simp)
            have hcv4 := conv_of ho4.reads
            go_wp2_with fail
            refine hK.out _ _ hg5 (fun hS4 => ?_)
            clear hK
            refine wpAnyH_ready (rs := [5]) (by kernel_rfl) (by simp) ?_
            refine AllReadyH.cons rfl (fun K hK => ?_) AllReadyH.nil
            go_simp
            refine hK.out _ _ hg5 (fun hS5 => ?_)
            clear hK
            refine wpAnyH_take (i := 12) (oi := ⟨some 69, _, _, _, _, _⟩) (v := ?_) rfl (by kernel_rfl) (by kernel_rfl) (by kernel_rfl) (fun _ _ _ h => h) (Or.inl ⟨by rfl, ?_⟩) (by assumption) ?_
            rotate_left
            · (intro w hSw; (try dsimp only at hSw); go_simp; try with_reducible rfl)
            try simp only [Act.put, List.setIfInBounds_toArray, List.set_cons_zero, List.set_cons_succ]
            refine wpAnyH_take (i := 13) (oi := ⟨some 70, _, _, _, _, _⟩) (v := ?_) rfl (by kernel_rfl) (by kernel_rfl) (by kernel_rfl) (fun _ _ _ h => h) (Or.inl ⟨by rfl, ?_⟩) (by assumption) ?_
            rotate_left
            · (intro w hSw; (try dsimp only at hSw); go_simp; try with_reducible rfl)
            try simp only [Act.put, List.setIfInBounds_toArray, List.set_cons_zero, List.set_cons_succ]
            refine wpAnyH_done (by kernel_rfl) ?_ _
            clear k5 k4
            go_wp2_with fail
            go_ret2
            exact ⟨rfl, hg5⟩
          · have heq : (f == (s.extract i (i + 4)).toList) = false := by rw [hex]; simpa using hq
            have hN2 : ∀ r m, dec l = some (r, m) → 5 ≤ m := by
              intro r' m h
              have h1 := hN.out r' m h
              rcases Nat.lt_or_ge 4 m with h2 | h2
              · exact h2
              · obtain rfl : m = 4 := by omega
                obtain ⟨q1, q2, q3⟩ := hno r' h
                rw [hcd] at q1
                obtain rfl : r = r' := by omega
                exact absurd (hf.trans q3) hq
            replace hN2 := Lib.hid hN2
            clear hE hN hno hcd hsc hr hf hq hex
            have k1 : (i : Int) + 4 ≤ (s.size : Int) := by omega
            have k2 : (0 : Int) ≤ (i : Int) + 4 := by omega
            have k3 : (i : Int) ≤ (i : Int) + 4 := by omega
            have k4 : ((i : Int) + 4).toNat = i + 4 := by omega
            have k5 : IntKind.i64.wrap ((i : Int) + 4) = (i : Int) + 4 := IntWalk.i64_in _ (by omega)
            refine wp_region_held_drew (S := fun w' => w.grownBy w' none) (by kernel_rfl) gD (fun hS0 => ?_)
            refine wpAnyH_take (i := 0) (oi := ⟨some 57, _, _, _, _, _⟩) (v := ?_) rfl (by kernel_rfl) (by kernel_rfl) (by kernel_rfl) (fun _ _ _ h => h) (Or.inl ⟨by rfl, ?_⟩) (by assumption) ?_
            rotate_left
            · (intro w hSw; (try dsimp only at hSw); go_simp; try with_reducible rfl)
            try simp only [Act.put, List.setIfInBounds_toArray, List.set_cons_zero, List.set_cons_succ]
            refine wpAnyH_ready (rs := [1]) (by kernel_rfl) (by simp) ?_
            refine AllReadyH.cons rfl (fun K hK => ?_) AllReadyH.nil
            go_simp
            refine (hSc _).mono ?_
            rintro e w3 ⟨rfl, rfl⟩
            go_wp2_with fail
            refine hK.out _ _ gD (fun hS3 => ?_)
            clear hK
            refine wpAnyH_take (i := 2) (oi := ⟨some 59, _, _, _, _, _⟩) (v := ?_) rfl (by kernel_rfl) (by kernel_rfl) (by kernel_rfl) (fun _ _ _ h => h) (Or.inl ⟨by rfl, ?_⟩) (by assumption) ?_
            rotate_left
            · (intro w hSw; (try dsimp only at hSw); go_simp; try with_reducible rfl)
            try simp only [Act.put, List.setIfInBounds_toArray, List.set_cons_zero, List.set_cons_succ]
            refine wpAnyH_take (i := 3) (oi := ⟨some 60, _, _, _, _, _⟩) (v := ?_) rfl (by kernel_rfl) (by kernel_rfl) (by kernel_rfl) (fun _ _ _ h => h) (Or.inl ⟨by rfl, ?_⟩) (by assumption) ?_
            rotate_left
            · (intro w hSw; (try dsimp only at hSw); go_simp; try with_reducible rfl)
            try simp only [Act.put, List.setIfInBounds_toArray, List.set_cons_zero, List.set_cons_succ]
            refine wpAnyH_take (i := 6) (oi := ⟨some 63, _, _, _, _, _⟩) (v := ?_) rfl (by kernel_rfl) (by kernel_rfl) (by kernel_rfl) (fun _ _ _ h => h) (Or.inl ⟨by rfl, ?_⟩) (by assumption) ?_
            rotate_left
            · (intro w hSw; (try dsimp only at hSw); go_simp; try with_reducible rfl)
            try simp only [Act.put, List.setIfInBounds_toArray, List.set_cons_zero, List.set_cons_succ]
            refine wpAnyH_take (i := 7) (oi := ⟨some 64, _, _, _, _, _⟩) (v := ?_) rfl (by kernel_rfl) (by kernel_rfl) (by kernel_rfl) (fun _ _ _ h => h) (Or.inl ⟨by rfl, ?_⟩) (by assumption) ?_
            rotate_left
            · (intro w hSw; (try dsimp only at hSw); go_simp; try with_reducible rfl)
            try simp only [Act.put, List.setIfInBounds_toArray, List.set_cons_zero, List.set_cons_succ]
            refine wpAnyH_take (i := 8) (oi := ⟨some 65, _, _, _, _, _⟩) (v := ?_) rfl (by kernel_rfl) (by kernel_rfl) (by kernel_rfl) (fun _ _ _ h => h) (Or.inl ⟨by rfl, ?_⟩) (by assumption) ?_
            rotate_left
            · (intro w hSw; (try dsimp only at hSw); go_simp; try with_reducible rfl)
            try simp only [Act.put, List.setIfInBounds_toArray, List.set_cons_zero, List.set_cons_succ]
            refine wpAnyH_take (i := 9) (oi := ⟨some 66, _, _, _, _, _⟩) (v := ?_) rfl (by kernel_rfl) (by kernel_rfl) (by kernel_rfl) (fun _ _ _ h => h) (Or.inl ⟨by rfl, ?_⟩) (by assumption) ?_
            rotate_left
            · (intro w hSw; (try dsimp only at hSw); go_simp; try with_reducible rfl)
            try simp only [Act.put, List.setIfInBounds_toArray, List.set_cons_zero, List.set_cons_succ]
            refine wpAnyH_take (i := 10) (oi := ⟨some 67, _, _, _, _, _⟩) (v := ?_) rfl (by kernel_rfl) (by kernel_rfl) (by kernel_rfl) (fun _ _ _ h => h) (Or.inl ⟨by rfl, ?_⟩) (by assumption) ?_
            rotate_left
            · (intro w hSw; (try dsimp only at hSw); go_simp; try with_reducible rfl)
            try simp only [Act.put, List.setIfInBounds_toArray, List.set_cons_zero, List.set_cons_succ]
            refine wpAnyH_take (i := 11) (oi := ⟨some 68, _, _, _, _, _⟩) (v := ?_) rfl (by kernel_rfl) (by kernel_rfl) (by kernel_rfl) (fun _ _ _ h => h) (Or.inl ⟨by rfl, ?_⟩) (by assumption) ?_
            rotate_left
            · (intro w hSw; (try dsimp only at hSw); go_simp; try with_reducible rfl)
            try simp only [Act.put, List.setIfInBounds_toArray, List.set_cons_zero, List.set_cons_succ]
            refine wpAnyH_ready (rs := [4]) (by kernel_rfl) (by simp) ?_
            refine AllReadyH.cons rfl (fun K hK => ?_) AllReadyH.nil
            go_simp
            refine (hfm _).mono ?_
            rintro e w4 ⟨v4, rfl, ho4, hg4⟩
            have hg5 := gnew gD hg4 (by simp)
            have hcv4 := conv_of ho4.reads
            go_wp2_with fail
            refine hK.out _ _ hg5 (fun hS4 => ?_)
            clear hK
            refine wpAnyH_ready (rs := [5]) (by kernel_rfl) (by simp) ?_
            refine AllReadyH.cons rfl (fun K hK => ?_) AllReadyH.nil
            go_simp
            refine hK.out _ _ hg5 (fun hS5 => ?_)
            clear hK
            refine wpAnyH_take (i := 12) (oi := ⟨some 69, _, _, _, _, _⟩) (v := ?_) rfl (by kernel_rfl) (by kernel_rfl) (by kernel_rfl) (fun _ _ _ h => h) (Or.inl ⟨by rfl, ?_⟩) (by assumption) ?_
            rotate_left
            · (intro w hSw; (try dsimp only at hSw); go_simp; try with_reducible rfl)
            try simp only [Act.put, List.setIfInBounds_toArray, List.set_cons_zero, List.set_cons_succ]
            refine wpAnyH_take (i := 13) (oi := ⟨some 70, _, _, _, _, _⟩) (v := ?_) rfl (by kernel_rfl) (by kernel_rfl) (by kernel_rfl) (fun _ _ _ h => h) (Or.inl ⟨by rfl, ?_⟩) (by assumption) ?_
            rotate_left
            · (intro w hSw; (try dsimp only at hSw); go_simp; try with_reducible rfl)
            try simp only [Act.put, List.setIfInBounds_toArray, List.set_cons_zero, List.set_cons_succ]
            refine wpAnyH_done (by kernel_rfl) ?_ _
            clear k5 k4
            go_wp2_with fail
            exact ⟨⟨5, rfl, by omega, by omega, hN2, hg5⟩, by simp [RowKit.intOf]⟩
        · have hsf : scalar R = false := by simpa using hsc
          rw [hsf] at hSc
          have hN2 : ∀ r m, dec l = some (r, m) → 5 ≤ m := by
            intro r' m h
            have h1 := hN.out r' m h
            rcases Nat.lt_or_ge 4 m with h2 | h2
            · exact h2
            · obtain rfl : m = 4 := by omega
              obtain ⟨q1, q2, q3⟩ := hno r' h
              rw [hcd] at q1
              rw [q1] at hsc
              exact absurd q2 hsc
          replace hN2 := Lib.hid hN2
          clear hE hN hno hcd hsc hsf
          go_quiet ((go_at_call 33; exact Calls.quiet_of_same ((hSc _).mono fun e w' ⟨q1, q2⟩ => ⟨q1, q2.symm⟩)))
          go_wp2_with fail
          exact ⟨⟨5, rfl, by omega, by omega, hN2, gdrewN hg _⟩, by simp [RowKit.intOf]⟩
      · have hdn : dec l = none := by
          cases hd : dec l with
          | none => rfl
          | some x =>
            obtain ⟨r, m⟩ := x
            have q1 := hN.out r m hd
            have q2 := dec_some hd
            have q3 := hll.out
            omega
        have hE2 := hE.out
        rw [hdn, atEnd] at hE2
        subst hE2
        clear hE hN hdn
        go_wp2
        go_ret2
        exact ⟨rfl, hg⟩
    · have hdn : dec l = none := by
        cases hd : dec l with
        | none => rfl
        | some x =>
          obtain ⟨r, m⟩ := x
          have q1 := hN.out r m hd
          have q2 := dec_some hd
          omega
      have hE2 := hE.out
      rw [hdn, atEnd] at hE2
      subst hE2
      clear hE hN hdn
      go_wp2
      go_ret2
      exact ⟨rfl, hg⟩
end Go.Proofs.YtpdacbiiaglodaaGreat.U
