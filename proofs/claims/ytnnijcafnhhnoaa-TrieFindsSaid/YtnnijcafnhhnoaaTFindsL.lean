/-
  LAYER 9 (trie): the law TrieFinds, walked.
-/
import Derived.Test.YtnnijcafnhhnoaaTUni
import Derived.Test.YtnnijcafnhhnoaaTMakesL
namespace Go.Proofs.Ytnnijcafnhhnoaa
set_option maxRecDepth 100000
open Go.RowKit Go.Lib
attribute [local go_sem] Oper.semAt_some

set_option maxHeartbeats 16000000 in
theorem TrieFinds_walk (W : World) (v : Value) (L : List Ent) (h : EntsR (fun k => k < W.heap.size) W v L) (vc : Value) (l : List Int) (hl : SR (fun k => k < W.heap.size) 1 W vc l.length (rc l)) :
    Calls Try.prog 4 #[v, vc] W fun e W' => e = .returned (.bool true) ∧ Below W.heap.size W W' := by
  obtain ⟨a, c, rfl, hc, hm⟩ : ∃ a c, v = .slice a L.length c ∧ L.length ≤ c ∧ c ≤ maxLen := by obtain ⟨vs, _, h2, _⟩ := h; exact h2.form
  obtain ⟨pa, pc', rfl, hpc, hpm⟩ := hl.form
  unfold maxLen at hm hpm
  have hrd : ∀ w', W.grownBy w' none → EntsR (fun k => k < W.heap.size) w' (.slice a L.length c) L := fun w' g => h.new g
  have hrl : ∀ w', W.grownBy w' none → SR (fun k => k < W.heap.size) 1 w' (.slice pa l.length pc') l.length (rc l) := fun w' g => hl.new g
  obtain ⟨n, hn⟩ : ∃ n, n = L.length := ⟨_, rfl⟩
  obtain ⟨np, hnp⟩ : ∃ n, n = l.length := ⟨_, rfl⟩
  have hnew := fun w' (g : W.grownBy w' none) => new_any (.slice a L.length c) L w' (by
    obtain ⟨vs, q1, q2, q3⟩ := hrd w' g
    exact ⟨vs, q1, q2.weak (fun b hb => Nat.lt_of_lt_of_le hb g.size), fun i x p e1 e2 => ⟨(q3 i x p e1 e2).1.weak (fun b hb => Nat.lt_of_lt_of_le hb g.size), (q3 i x p e1 e2).2.weak (fun b hb => Nat.lt_of_lt_of_le hb g.size)⟩⟩)
  have hck := fun w' (g : W.grownBy w' none) => refTrie_check _ _ L w' (hrd w' g)
  have hfw := fun w' (g : W.grownBy w' none) => few_any _ _ L w' (hrd w' g)
  have hcut := fun k (hk : k ≤ l.length) => cut_from pa l.length pc' k hk
  rw [← hn] at hc hrd hnew hck hfw ⊢
  rw [← hnp] at hpc hrl hcut ⊢
  replace hn := Lib.hid hn
  replace hnp := Lib.hid hnp
  replace hrd := Lib.hid hrd
  replace hrl := Lib.hid hrl
  replace hcut := Lib.hid hcut
  clear h hl
  have finish : ∀ w', W.grownBy w' none → Below W.heap.size W w' := fun w' g => gbelow g (Nat.le_refl _) (by simp)
  replace finish := Lib.hid finish
  have hA := fun w => tawake_any w
  obtain ⟨nk, hnk⟩ : ∃ k, k = (newAll L).1 := ⟨_, rfl⟩
  obtain ⟨ne, hne⟩ : ∃ k, k = (newAll L).2 := ⟨_, rfl⟩
  rw [← hnk, ← hne] at hnew hck
  replace hnk := Lib.hid hnk
  replace hne := Lib.hid hne
  go_enter Try.func4, Try.ntmps4
  go_wp2_with (go_at_call 7; refine (hA _).mono ?_; rintro e w1 ⟨rfl, g1⟩)
  refine (hck _ g1).mono ?_
  rintro e w2 ⟨rfl, g2⟩
  have gW2 := g1.trans g2
  have hfw2 := hfw _ gW2
  clear hck hfw hA
  go_wp2_with fail
  refine hfw2.mono ?_
  clear hfw2
  rintro e w3 ⟨b, rfl, g3⟩
  have gW3 := gW2.trans g3
  have hnw := hnew _ gW3
  clear hnew
  cases b with
  | false =>
    clear hnw
    go_wp2_with fail
    go_ret
    exact ⟨rfl, finish.out _ gW3⟩
  | true =>
    by_cases hz : ne = 0
    · by_cases hbig : 500 < np
      · have hbb : decide (500 < (np : Int)) = true := by simp; omega
        subst hz
        clear hnw
        go_wp2_with fail
        go_ret
        exact ⟨rfl, finish.out _ gW3⟩
      · have hbb : decide (500 < (np : Int)) = false := by simp; omega
        have hgd := new_good (by rw [← hne.out]; exact hz)
        subst hz
        have hgood := Lib.hid hgd.2
        clear hgd
        have hpo : ∀ po w4, NewQ w3 L 0 po w4 → W.grownBy w4 none ∧ ∃ t rt ve nd mp, po = some ⟨t, 0, none⟩ ∧ Hid (TrieAt (fun k => w3.heap.size ≤ k) w4 t L 0 rt ve nd mp) := fun po w4 hq => by
          refine ⟨gW3.trans (hq.1.grownB (fun k h => h)), ?_⟩
          rcases hq.2 with ⟨_, h⟩ | ⟨h, _⟩
          · exact h
          · exact absurd rfl h
        replace hpo := Lib.hid hpo
        go_wp2_with (go_at_call 9; refine hnw.mono ?_; rintro e w4 ⟨po, rfl, hq⟩; obtain ⟨gW4, t, rt, ve, nd, mp, rfl, hT4⟩ := hpo.out po w4 hq; clear hq hnw hpo; replace gW4 := Lib.hid gW4)
        have htq := hT4.out.tq
        have hWt : W.heap.size ≤ t := Nat.le_trans gW3.size htq
        go_loopw [10] (fun vi wr => ∃ i : Nat, vi = .int .i64 (i : Int) ∧ i ≤ 20 ∧ i ≤ np + 1 ∧ Hid (TrieAt (fun k => w3.heap.size ≤ k) wr t L (2 * (i : Int)) rt ve nd mp) ∧ Hid (W.grownBy wr none)) (fun vi _ => 21 - (RowKit.intOf vi).toNat)
        case atStart => exact ⟨0, rfl, by omega, by omega, Lib.hid (by simpa using hT4.out), gW4⟩
        case round =>
          obtain ⟨i, rfl, hi1, hi2, hT, hG⟩ := hrel
          by_cases hlt : i ≤ np ∧ i < 20
          · obtain ⟨h1, h2⟩ := hlt
            have hb1 : decide ((i : Int) ≤ (np : Int)) = true := by simp; omega
            have hb2 : decide ((i : Int) < 20) = true := by simp; omega
            obtain ⟨ca, hcrun, hcrd⟩ := hcut.out i h1
            have htl := hT.out.tr.lt
            have hpiece : ∀ w', W.grownBy w' none → SR (fun k => k < W.heap.size) 1 w' (.slice ca (np - i) (pc' - i)) (l.drop i).length (rc (l.drop i)) := fun w' g => hcrd _ _ _ (by rw [← hnp.out]; exact hrl.out w' g)
            have hP : ∀ k, k < W.heap.size → k ≠ t := fun k hk => by omega
            have hgt : ∀ {A B : World}, W.grownBy A none → A.grownBy B (some t) → W.grownBy B none := fun h g => gnew h g (fun r e => by cases e; left; omega)
            obtain ⟨fb, hfb⟩ : ∃ fb, fb = (findEnt L (l.drop i)).isSome := ⟨_, rfl⟩
            have h1a := get_uni hgood.out _ (l.drop i) wr hT.out (hpiece wr hG.out) hP (by omega) (by omega)
            go_wp2_with fail
            refine h1a.mono ?_
            clear h1a
            rintro e w5 ⟨a5, m5, c5, rfl, o5, T5, g5⟩
            have gW5 := hgt hG.out g5
            have h2a := rget_uni _ _ (l.drop i) w5 (hrd.out w5 gW5) (hpiece w5 gW5)
            replace T5 := Lib.hid T5
            replace o5 := Lib.hid o5
            rw [← hfb]
            go_wp2_with fail
            refine h2a.mono ?_
            clear h2a
            rintro e w6 ⟨a6, m6, c6, rfl, o6, g6⟩
            rw [← hfb]
            replace hfb := Lib.hid hfb
            have gW6 := gW5.trans g6
            have h3a := long_uni hgood.out _ (l.drop i) w6 (T5.out.new g6) (hpiece w6 gW6) hP (by omega) (by omega)
            replace o6 := Lib.hid o6
            generalize hle : lastEnt L (l.drop i) ((l.drop i).length + 1) = oe at h3a
            go_wp2_with fail
            refine h3a.mono ?_
            clear h3a
            rintro e w7 ⟨a7, m7, c7, rfl, o7, T7, g7⟩
            have gW7 := hgt gW6 g7
            have h4a := rlong_uni hgood.out _ _ (l.drop i) w7 (hrd.out w7 gW7) (hpiece w7 gW7)
            rw [hle] at h4a
            replace hle := Lib.hid hle
            replace T7 := Lib.hid T7
            replace o7 := Lib.hid o7
            go_wp2_with fail
            refine h4a.mono ?_
            clear h4a
            rintro e w8 ⟨a8, m8, c8, rfl, o8, g8⟩
            have gW8 := gW7.trans g8
            replace o8 := Lib.hid o8
            have hnt : ∀ {k : Nat}, k < W.heap.size → some k ≠ some t := fun hk e => by cases e; omega
            have k68 : ∀ X, w8.grownBy X none → ∀ k, k < w6.heap.size → k ≠ t → X.heap[k]? = w6.heap[k]? := fun X g k hk hne => (((g7.trans (gbut' g8)).trans (gbut' g)).block k hk (fun e => hne (by cases e; rfl)))
            have hs1 : ∀ X, w8.grownBy X none → Calls Try.prog 14 #[.slice a5 m5 c5, .slice a6 m6 c6] X fun e w' => e = .returned (.bool true) ∧ X.grownBy w' none := fun X g => by
              have q := same_any _ _ _ _ (elsOf (findEnt L (l.drop i))) (elsOf (findEnt L (l.drop i))) X (o5.out.heap (w' := X) (fun k hk hlk => (k68 X g k (Nat.lt_of_lt_of_le hlk g6.size) (by omega)).trans (g6.block k hlk (by simp))))
                (o6.out.heap (w' := X) (fun k hk hlk => k68 X g k hlk (by omega)))
              rwa [show decide (elsOf (findEnt L (l.drop i)) = elsOf (findEnt L (l.drop i))) = true by simp] at q
            have hs2 : ∀ X, w8.grownBy X none → Calls Try.prog 14 #[.slice a7 m7 c7, .slice a8 m8 c8] X fun e w' => e = .returned (.bool true) ∧ X.grownBy w' none := fun X g => by
              have q := same_any _ _ _ _ (elsOf oe) (elsOf oe) X (o7.out.new (g8.trans g)) (o8.out.new g)
              rwa [show decide (elsOf oe = elsOf oe) = true by simp] at q
            obtain ⟨mq, hmq⟩ : ∃ q, q = moreThan L (l.drop i) := ⟨_, rfl⟩
            have hbg : ∀ X, w8.grownBy X none → Calls Try.prog 18 #[.pointer (some ⟨t, 0, none⟩), .slice ca (np - i) (pc' - i)] X fun e w' => e = .returned (.bool mq) ∧ X.grownBy w' none := fun X g => by
              rw [hmq]
              exact begins_any _ (l.drop i) X (T7.out.new (g8.trans g)) (hpiece X (gW8.trans g))
            have hrb : ∀ X, w8.grownBy X none → Calls Try.prog 19 #[.slice a n c, .slice ca (np - i) (pc' - i)] X fun e w' => e = .returned (.bool mq) ∧ X.grownBy w' none := fun X g => by
              rw [hmq, ← mor_eq]
              exact rbegins_any _ _ _ _ L (l.drop i) X (hrd.out X (gW8.trans g)) (hpiece X (gW8.trans g))
            have hTF : ∀ X, w8.grownBy X none → Hid (TrieAt (fun k => w3.heap.size ≤ k) X t L (2 * (((i + 1 : Nat) : Int))) rt ve nd mp) ∧ Hid (W.grownBy X none) := fun X g => by
              refine ⟨Lib.hid ?_, Lib.hid (gW8.trans g)⟩
              have := T7.out.new (g8.trans g)
              rwa [show 2 * (i : Int) + 1 + 1 = 2 * ((i + 1 : Nat) : Int) by omega] at this
            replace hmq := Lib.hid hmq
            replace hTF := Lib.hid hTF
            have hfm : (mq != mq) = false := by simp
            clear k68 hpiece hrd hrl T5 T7 o5 o6 o7 o8 hgt hP hcrd hT hG
            have hfk : ((lenOf oe : Int) != (lenOf oe : Int)) = false := by simp
            cases fb
            all_goals
              go_wp2_with fail
              refine wp_region_held_drew (S := fun _ => True) (by kernel_rfl) trivial (fun hS0 => ?_)
              obtain ⟨V, hV⟩ : ∃ V, V = w8.drew := ⟨_, rfl⟩
              have gV : w8.grownBy V none := by rw [hV]; exact gdrew (World.grownBy.refl w8 none)
              rw [← hV]
              clear hV
              refine wpAnyH_take (i := 0) (oi := ⟨some 92, _, _, _, _, _⟩) (v := ?_) rfl (by kernel_rfl) (by kernel_rfl) (by kernel_rfl) (fun _ _ _ h => h) (Or.inl ⟨by rfl, ?_⟩) (by assumption) ?_
              rotate_left
              · (intro w hSw; (try dsimp only at hSw); go_simp; try with_reducible rfl)
              try simp only [Act.put, List.setIfInBounds_toArray, List.set_cons_zero, List.set_cons_succ]
              refine wpAnyH_take (i := 1) (oi := ⟨some 93, _, _, _, _, _⟩) (v := ?_) rfl (by kernel_rfl) (by kernel_rfl) (by kernel_rfl) (fun _ _ _ h => h) (Or.inl ⟨by rfl, ?_⟩) (by assumption) ?_
              rotate_left
              · (intro w hSw; (try dsimp only at hSw); go_simp; try with_reducible rfl)
              try simp only [Act.put, List.setIfInBounds_toArray, List.set_cons_zero, List.set_cons_succ]
              refine wpAnyH_take (i := 2) (oi := ⟨some 94, _, _, _, _, _⟩) (v := ?_) rfl (by kernel_rfl) (by kernel_rfl) (by kernel_rfl) (fun _ _ _ h => h) (Or.inl ⟨by rfl, ?_⟩) (by assumption) ?_
              rotate_left
              · (intro w hSw; (try dsimp only at hSw); go_simp; try with_reducible rfl)
              try simp only [Act.put, List.setIfInBounds_toArray, List.set_cons_zero, List.set_cons_succ]
              refine wpAnyH_take (i := 3) (oi := ⟨some 95, _, _, _, _, _⟩) (v := ?_) rfl (by kernel_rfl) (by kernel_rfl) (by kernel_rfl) (fun _ _ _ h => h) (Or.inl ⟨by rfl, ?_⟩) (by assumption) ?_
              rotate_left
              · (intro w hSw; (try dsimp only at hSw); go_simp; try with_reducible rfl)
              try simp only [Act.put, List.setIfInBounds_toArray, List.set_cons_zero, List.set_cons_succ]
              refine wpAnyH_take (i := 4) (oi := ⟨some 96, _, _, _, _, _⟩) (v := ?_) rfl (by kernel_rfl) (by kernel_rfl) (by kernel_rfl) (fun _ _ _ h => h) (Or.inl ⟨by rfl, ?_⟩) (by assumption) ?_
              rotate_left
              · (intro w hSw; (try dsimp only at hSw); go_simp; try with_reducible rfl)
              try simp only [Act.put, List.setIfInBounds_toArray, List.set_cons_zero, List.set_cons_succ]
              refine wpAnyH_take (i := 5) (oi := ⟨some 97, _, _, _, _, _⟩) (v := ?_) rfl (by kernel_rfl) (by kernel_rfl) (by kernel_rfl) (fun _ _ _ h => h) (Or.inl ⟨by rfl, ?_⟩) (by assumption) ?_
              rotate_left
              · (intro w hSw; (try dsimp only at hSw); go_simp; try with_reducible rfl)
              try simp only [Act.put, List.setIfInBounds_toArray, List.set_cons_zero, List.set_cons_succ]
              refine wpAnyH_ready (rs := [6]) (by kernel_rfl) (by simp) ?_
              refine AllReadyH.cons rfl (fun K hK => ?_) AllReadyH.nil
              go_simp
              refine (hs1 V gV).mono ?_
              rintro e v1 ⟨rfl, gv1⟩
              have gv1 := gV.trans gv1
              refine hK.out _ _ trivial (fun _ => ?_)
              clear hK
              refine wpAnyH_take (i := 7) (oi := ⟨some 99, _, _, _, _, _⟩) (v := ?_) rfl (by kernel_rfl) (by kernel_rfl) (by kernel_rfl) (fun _ _ _ h => h) (Or.inl ⟨by rfl, ?_⟩) (by assumption) ?_
              rotate_left
              · (intro w hSw; (try dsimp only at hSw); go_simp; try with_reducible rfl)
              try simp only [Act.put, List.setIfInBounds_toArray, List.set_cons_zero, List.set_cons_succ]
              refine wpAnyH_take (i := 8) (oi := ⟨some 100, _, _, _, _, _⟩) (v := ?_) rfl (by kernel_rfl) (by kernel_rfl) (by kernel_rfl) (fun _ _ _ h => h) (Or.inl ⟨by rfl, ?_⟩) (by assumption) ?_
              rotate_left
              · (intro w hSw; (try dsimp only at hSw); go_simp; try with_reducible rfl)
              try simp only [Act.put, List.setIfInBounds_toArray, List.set_cons_zero, List.set_cons_succ]
              refine wpAnyH_take (i := 9) (oi := ⟨some 101, _, _, _, _, _⟩) (v := ?_) rfl (by kernel_rfl) (by kernel_rfl) (by kernel_rfl) (fun _ _ _ h => h) (Or.inl ⟨by rfl, ?_⟩) (by assumption) ?_
              rotate_left
              · (intro w hSw; (try dsimp only at hSw); go_simp; try with_reducible rfl)
              try simp only [Act.put, List.setIfInBounds_toArray, List.set_cons_zero, List.set_cons_succ]
              refine wpAnyH_take (i := 10) (oi := ⟨some 102, _, _, _, _, _⟩) (v := ?_) rfl (by kernel_rfl) (by kernel_rfl) (by kernel_rfl) (fun _ _ _ h => h) (Or.inl ⟨by rfl, ?_⟩) (by assumption) ?_
              rotate_left
              · (intro w hSw; (try dsimp only at hSw); go_simp; try with_reducible rfl)
              try simp only [Act.put, List.setIfInBounds_toArray, List.set_cons_zero, List.set_cons_succ]
              refine wpAnyH_take (i := 11) (oi := ⟨some 103, _, _, _, _, _⟩) (v := ?_) rfl (by kernel_rfl) (by kernel_rfl) (by kernel_rfl) (fun _ _ _ h => h) (Or.inl ⟨by rfl, ?_⟩) (by assumption) ?_
              rotate_left
              · (intro w hSw; (try dsimp only at hSw); go_simp; try with_reducible rfl)
              try simp only [Act.put, List.setIfInBounds_toArray, List.set_cons_zero, List.set_cons_succ]
              refine wpAnyH_take (i := 12) (oi := ⟨some 104, _, _, _, _, _⟩) (v := ?_) rfl (by kernel_rfl) (by kernel_rfl) (by kernel_rfl) (fun _ _ _ h => h) (Or.inl ⟨by rfl, ?_⟩) (by assumption) ?_
              rotate_left
              · (intro w hSw; (try dsimp only at hSw); go_simp; try with_reducible rfl)
              try simp only [Act.put, List.setIfInBounds_toArray, List.set_cons_zero, List.set_cons_succ]
              refine wpAnyH_take (i := 13) (oi := ⟨some 105, _, _, _, _, _⟩) (v := ?_) rfl (by kernel_rfl) (by kernel_rfl) (by kernel_rfl) (fun _ _ _ h => h) (Or.inl ⟨by rfl, ?_⟩) (by assumption) ?_
              rotate_left
              · (intro w hSw; (try dsimp only at hSw); go_simp; try with_reducible rfl)
              try simp only [Act.put, List.setIfInBounds_toArray, List.set_cons_zero, List.set_cons_succ]
              refine wpAnyH_take (i := 14) (oi := ⟨some 106, _, _, _, _, _⟩) (v := ?_) rfl (by kernel_rfl) (by kernel_rfl) (by kernel_rfl) (fun _ _ _ h => h) (Or.inl ⟨by rfl, ?_⟩) (by assumption) ?_
              rotate_left
              · (intro w hSw; (try dsimp only at hSw); go_simp; try with_reducible rfl)
              try simp only [Act.put, List.setIfInBounds_toArray, List.set_cons_zero, List.set_cons_succ]
              refine wpAnyH_take (i := 15) (oi := ⟨some 107, _, _, _, _, _⟩) (v := ?_) rfl (by kernel_rfl) (by kernel_rfl) (by kernel_rfl) (fun _ _ _ h => h) (Or.inl ⟨by rfl, ?_⟩) (by assumption) ?_
              rotate_left
              · (intro w hSw; (try dsimp only at hSw); go_simp; try with_reducible rfl)
              try simp only [Act.put, List.setIfInBounds_toArray, List.set_cons_zero, List.set_cons_succ]
              refine wpAnyH_take (i := 16) (oi := ⟨some 108, _, _, _, _, _⟩) (v := ?_) rfl (by kernel_rfl) (by kernel_rfl) (by kernel_rfl) (fun _ _ _ h => h) (Or.inl ⟨by rfl, ?_⟩) (by assumption) ?_
              rotate_left
              · (intro w hSw; (try dsimp only at hSw); go_simp; try with_reducible rfl)
              try simp only [Act.put, List.setIfInBounds_toArray, List.set_cons_zero, List.set_cons_succ]
              refine wpAnyH_ready (rs := [17]) (by kernel_rfl) (by simp) ?_
              refine AllReadyH.cons rfl (fun K hK => ?_) AllReadyH.nil
              go_simp
              refine (hs2 v1 gv1).mono ?_
              rintro e v2 ⟨rfl, gv2⟩
              have gv2 := gv1.trans gv2
              refine hK.out _ _ trivial (fun _ => ?_)
              clear hK
              refine wpAnyH_take (i := 18) (oi := ⟨some 110, _, _, _, _, _⟩) (v := ?_) rfl (by kernel_rfl) (by kernel_rfl) (by kernel_rfl) (fun _ _ _ h => h) (Or.inl ⟨by rfl, ?_⟩) (by assumption) ?_
              rotate_left
              · (intro w hSw; (try dsimp only at hSw); go_simp; try with_reducible rfl)
              try simp only [Act.put, List.setIfInBounds_toArray, List.set_cons_zero, List.set_cons_succ]
              refine wpAnyH_take (i := 19) (oi := ⟨some 111, _, _, _, _, _⟩) (v := ?_) rfl (by kernel_rfl) (by kernel_rfl) (by kernel_rfl) (fun _ _ _ h => h) (Or.inl ⟨by rfl, ?_⟩) (by assumption) ?_
              rotate_left
              · (intro w hSw; (try dsimp only at hSw); go_simp; try with_reducible rfl)
              try simp only [Act.put, List.setIfInBounds_toArray, List.set_cons_zero, List.set_cons_succ]
              refine wpAnyH_take (i := 20) (oi := ⟨some 112, _, _, _, _, _⟩) (v := ?_) rfl (by kernel_rfl) (by kernel_rfl) (by kernel_rfl) (fun _ _ _ h => h) (Or.inl ⟨by rfl, ?_⟩) (by assumption) ?_
              rotate_left
              · (intro w hSw; (try dsimp only at hSw); go_simp; try with_reducible rfl)
              try simp only [Act.put, List.setIfInBounds_toArray, List.set_cons_zero, List.set_cons_succ]
              refine wpAnyH_take (i := 21) (oi := ⟨some 113, _, _, _, _, _⟩) (v := ?_) rfl (by kernel_rfl) (by kernel_rfl) (by kernel_rfl) (fun _ _ _ h => h) (Or.inl ⟨by rfl, ?_⟩) (by assumption) ?_
              rotate_left
              · (intro w hSw; (try dsimp only at hSw); go_simp; try with_reducible rfl)
              try simp only [Act.put, List.setIfInBounds_toArray, List.set_cons_zero, List.set_cons_succ]
              refine wpAnyH_take (i := 22) (oi := ⟨some 114, _, _, _, _, _⟩) (v := ?_) rfl (by kernel_rfl) (by kernel_rfl) (by kernel_rfl) (fun _ _ _ h => h) (Or.inl ⟨by rfl, ?_⟩) (by assumption) ?_
              rotate_left
              · (intro w hSw; (try dsimp only at hSw); go_simp; try with_reducible rfl)
              try simp only [Act.put, List.setIfInBounds_toArray, List.set_cons_zero, List.set_cons_succ]
              refine wpAnyH_take (i := 23) (oi := ⟨some 115, _, _, _, _, _⟩) (v := ?_) rfl (by kernel_rfl) (by kernel_rfl) (by kernel_rfl) (fun _ _ _ h => h) (Or.inl ⟨by rfl, ?_⟩) (by assumption) ?_
              rotate_left
              · (intro w hSw; (try dsimp only at hSw); go_simp; try with_reducible rfl)
              try simp only [Act.put, List.setIfInBounds_toArray, List.set_cons_zero, List.set_cons_succ]
              refine wpAnyH_take (i := 24) (oi := ⟨some 116, _, _, _, _, _⟩) (v := ?_) rfl (by kernel_rfl) (by kernel_rfl) (by kernel_rfl) (fun _ _ _ h => h) (Or.inl ⟨by rfl, ?_⟩) (by assumption) ?_
              rotate_left
              · (intro w hSw; (try dsimp only at hSw); go_simp; try with_reducible rfl)
              try simp only [Act.put, List.setIfInBounds_toArray, List.set_cons_zero, List.set_cons_succ]
              refine wpAnyH_take (i := 26) (oi := ⟨some 118, _, _, _, _, _⟩) (v := ?_) rfl (by kernel_rfl) (by kernel_rfl) (by kernel_rfl) (fun _ _ _ h => h) (Or.inl ⟨by rfl, ?_⟩) (by assumption) ?_
              rotate_left
              · (intro w hSw; (try dsimp only at hSw); go_simp; try with_reducible rfl)
              try simp only [Act.put, List.setIfInBounds_toArray, List.set_cons_zero, List.set_cons_succ]
              refine wpAnyH_take (i := 27) (oi := ⟨some 119, _, _, _, _, _⟩) (v := ?_) rfl (by kernel_rfl) (by kernel_rfl) (by kernel_rfl) (fun _ _ _ h => h) (Or.inl ⟨by rfl, ?_⟩) (by assumption) ?_
              rotate_left
              · (intro w hSw; (try dsimp only at hSw); go_simp; try with_reducible rfl)
              try simp only [Act.put, List.setIfInBounds_toArray, List.set_cons_zero, List.set_cons_succ]
              refine wpAnyH_take (i := 28) (oi := ⟨some 120, _, _, _, _, _⟩) (v := ?_) rfl (by kernel_rfl) (by kernel_rfl) (by kernel_rfl) (fun _ _ _ h => h) (Or.inl ⟨by rfl, ?_⟩) (by assumption) ?_
              rotate_left
              · (intro w hSw; (try dsimp only at hSw); go_simp; try with_reducible rfl)
              try simp only [Act.put, List.setIfInBounds_toArray, List.set_cons_zero, List.set_cons_succ]
              refine wpAnyH_take (i := 29) (oi := ⟨some 121, _, _, _, _, _⟩) (v := ?_) rfl (by kernel_rfl) (by kernel_rfl) (by kernel_rfl) (fun _ _ _ h => h) (Or.inl ⟨by rfl, ?_⟩) (by assumption) ?_
              rotate_left
              · (intro w hSw; (try dsimp only at hSw); go_simp; try with_reducible rfl)
              try simp only [Act.put, List.setIfInBounds_toArray, List.set_cons_zero, List.set_cons_succ]
              refine wpAnyH_ready (rs := [25]) (by kernel_rfl) (by simp) ?_
              refine AllReadyH.cons rfl (fun K hK => ?_) AllReadyH.nil
              go_simp
              refine (hbg v2 gv2).mono ?_
              rintro e v3 ⟨rfl, gv3⟩
              have gv3 := gv2.trans gv3
              refine hK.out _ _ trivial (fun _ => ?_)
              clear hK
              refine wpAnyH_ready (rs := [30]) (by kernel_rfl) (by simp) ?_
              refine AllReadyH.cons rfl (fun K hK => ?_) AllReadyH.nil
              go_simp
              refine (hrb v3 gv3).mono ?_
              rintro e v4 ⟨rfl, gv4⟩
              have gv4 := gv3.trans gv4
              refine hK.out _ _ trivial (fun _ => ?_)
              clear hK
              refine wpAnyH_take (i := 31) (oi := ⟨some 123, _, _, _, _, _⟩) (v := ?_) rfl (by kernel_rfl) (by kernel_rfl) (by kernel_rfl) (fun _ _ _ h => h) (Or.inl ⟨by rfl, ?_⟩) (by assumption) ?_
              rotate_left
              · (intro w hSw; (try dsimp only at hSw); go_simp; try with_reducible rfl)
              try simp only [Act.put, List.setIfInBounds_toArray, List.set_cons_zero, List.set_cons_succ]
              refine wpAnyH_take (i := 32) (oi := ⟨some 124, _, _, _, _, _⟩) (v := ?_) rfl (by kernel_rfl) (by kernel_rfl) (by kernel_rfl) (fun _ _ _ h => h) (Or.inl ⟨by rfl, ?_⟩) (by assumption) ?_
              rotate_left
              · (intro w hSw; (try dsimp only at hSw); go_simp; try with_reducible rfl)
              try simp only [Act.put, List.setIfInBounds_toArray, List.set_cons_zero, List.set_cons_succ]
              refine wpAnyH_done (by kernel_rfl) ?_ _
              obtain ⟨t1, t2⟩ := hTF.out v4 gv4
              go_wp2_with fail
              exact ⟨⟨i + 1, by go_num, by omega, by omega, t1, t2⟩, by simp [RowKit.intOf]; omega⟩
          · have hlt2 : np < i ∨ (i ≤ np ∧ 20 ≤ i) := by omega
            clear hlt
            rcases hlt2 with h1 | ⟨h1, h2⟩
            · have hb1 : decide ((i : Int) ≤ (np : Int)) = false := by simp; omega
              go_wp2_with fail
              go_ret
              exact ⟨rfl, finish.out _ hG.out⟩
            · have hb1 : decide ((i : Int) ≤ (np : Int)) = true := by simp; omega
              have hb2 : decide ((i : Int) < 20) = false := by simp; omega
              go_wp2_with fail
              go_ret
              exact ⟨rfl, finish.out _ hG.out⟩
    · have hneb : (ne != 0) = true := by simpa using hz
      clear hnw hz
      go_wp2_with fail
      go_ret
      exact ⟨rfl, finish.out _ gW3⟩
end Go.Proofs.Ytnnijcafnhhnoaa
