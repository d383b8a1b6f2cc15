/-
  LAYER 9 (trie): the law TrieEach, walked.
-/
import Derived.Test.YtlnplompnabmlaaRA19
import Derived.Test.YtlnplompnabmlaaRA14
import Derived.Test.YtlnplompnabmlaaRA17
import Derived.Deep.SlicePairs
import Derived.Deep.Matrix
import Derived.OpenShut
import Derived.ProofKit
namespace Go.Proofs.Ytlnplompnabmlaa
set_option maxRecDepth 100000
open Go.RowKit Go.Lib
attribute [local go_sem] Oper.semAt_some

theorem nilEach (q3 q2 : Nat) (w : World) : (binOp .eql 46 (.func (.func 49) #[] #[.pointer (some ⟨q3, 0, none⟩), .pointer (some ⟨q2, 0, none⟩)]) .nilFunc).run Try.prog w = .ok (.bool false) w := by kernel_rfl
theorem nilUnder (eb : Nat) (w : World) : (binOp .eql 49 (.func (.func 40) #[] #[.pointer (some ⟨eb, 0, none⟩)]) .nilFunc).run Try.prog w = .ok (.bool false) w := by kernel_rfl

theorem two_own {A B : World} {bx k : Nat} {u v : Value} {o : Obj} (h2 : Two A bx u v) (g : A.grownBy B (some k)) (ho : A.heap[k]? = some o) (hc : o.isCells = false) : Two B bx u v := by
  have hne : bx ≠ k := fun e => by
    rw [← e, show A.heap[bx]? = _ from h2] at ho
    cases ho
    cases hc
  exact (g.block bx h2.lt (fun e => hne (by simpa using e))).trans h2

set_option maxHeartbeats 16000000 in
theorem each_law (W : World) (v : Value) (L : List Ent) (h : EntsR (fun k => k < W.heap.size) W v L) (vc : Value) (l : List Int) (hl : SR (fun k => k < W.heap.size) 1 W vc l.length (rc l)) :
    CallsIn Fence.wide 20 Try.prog 5 #[v, vc] W fun e W' => e = .returned (.bool true) ∧ Below W.heap.size W W' := by
  obtain ⟨a, c, rfl, hc, hm⟩ : ∃ a c, v = .slice a L.length c ∧ L.length ≤ c ∧ c ≤ maxLen := by obtain ⟨vs, _, h2, _⟩ := h; exact h2.form
  obtain ⟨pa, pc', rfl, hpc, hpm⟩ := hl.form
  clear hm hpm
  have hrd : ∀ w', W.grownBy w' none → EntsR (fun k => k < W.heap.size) w' (.slice a L.length c) L := fun w' g => h.new g
  have hrl : ∀ w', W.grownBy w' none → SR (fun k => k < W.heap.size) 1 w' (.slice pa l.length pc') l.length (rc l) := fun w' g => hl.new g
  obtain ⟨n, hn⟩ : ∃ n, n = L.length := ⟨_, rfl⟩
  obtain ⟨np, hnp⟩ : ∃ n, n = l.length := ⟨_, rfl⟩
  have hnew := fun w' (g : W.grownBy w' none) => new_any (.slice a L.length c) L w' (by
    obtain ⟨vs, q1, q2, q3⟩ := hrd w' g
    exact ⟨vs, q1, q2.weak (fun b hb => Nat.lt_of_lt_of_le hb g.size), fun i x p e1 e2 => ⟨(q3 i x p e1 e2).1.weak (fun b hb => Nat.lt_of_lt_of_le hb g.size), (q3 i x p e1 e2).2.weak (fun b hb => Nat.lt_of_lt_of_le hb g.size)⟩⟩)
  have hck := fun w' (g : W.grownBy w' none) => refTrie_check _ _ L w' (hrd w' g)
  have hfw := fun w' (g : W.grownBy w' none) => few_any _ _ L w' (hrd w' g)
  rw [← hn] at hc hrd hnew hck hfw ⊢
  rw [← hnp] at hpc hrl ⊢
  replace hn := Lib.hid hn
  replace hnp := Lib.hid hnp
  replace hrd := Lib.hid hrd
  replace hrl := Lib.hid hrl
  clear h hl hc hpc
  have finish : ∀ w', W.grownBy w' none → Below W.heap.size W w' := fun w' g => gbelow g (Nat.le_refl _) (by simp)
  replace finish := Lib.hid finish
  have hA := fun w => tawake_any w
  obtain ⟨nk, hnk⟩ : ∃ k, k = (newAll L).1 := ⟨_, rfl⟩
  obtain ⟨ne, hne⟩ : ∃ k, k = (newAll L).2 := ⟨_, rfl⟩
  rw [← hnk, ← hne] at hnew hck
  replace hnk := Lib.hid hnk
  replace hne := Lib.hid hne
  -- the two boxes in front
  obtain ⟨W0, hW0⟩ : ∃ W0, W0 = W.alloc (.cells #[.slice a n c] 22) := ⟨_, rfl⟩
  obtain ⟨W1, hW1⟩ : ∃ W1, W1 = W0.alloc (.cells #[.bool false] 4) := ⟨_, rfl⟩
  have s0 : W0.heap.size = W.heap.size + 1 := by rw [hW0]; simp
  have s1 : W1.heap.size = W.heap.size + 2 := by rw [hW1]; simp [s0]
  have g0 : W.grownBy W0 none := by rw [hW0]; exact World.grownBy_alloc _ _ _
  have g1' : W0.grownBy W1 none := by rw [hW1]; exact World.grownBy_alloc _ _ _
  have eL0 : Box W0 W.heap.size 22 (.slice a n c) := by rw [hW0]; exact World.alloc_heap_new W _
  have eR : Box W1 (W.heap.size + 1) 4 (.bool false) := by rw [hW1, ← s0]; exact World.alloc_heap_new W0 _
  have eL := eL0.new g1'
  have gW1 := g0.trans g1'
  replace s0 := Lib.hid s0
  replace s1 := Lib.hid s1
  clear eL0 g0 g1'
  refine callsIn_of_wp_marks Try.func5 rfl trivial ?_ rfl
  simp only [Try.ntmps5, List.size_toArray, List.length_cons, List.length_nil, Nat.reduceAdd, Nat.reduceSub, Array.replicate_succ, Array.replicate_zero, List.push_toArray, List.append_toArray, List.nil_append, List.cons_append]
  gi_wp2_with fail
  rw [← hW0, ← hW1]
  replace hW0 := Lib.hid hW0
  replace hW1 := Lib.hid hW1
  refine ⟨trivial, ?_⟩
  refine (callsIn_wide.2 (hA _)).mono ?_
  clear hA
  rintro e w1 ⟨rfl, g1⟩
  have gw1 := gW1.trans g1
  have eL1 := eL.new g1
  have eR1 := eR.new g1
  have l1 := eL1.c0
  have hck1 := hck _ gw1
  clear hck eL eR
  gi_wp2_with fail
  refine ⟨trivial, ?_⟩
  refine (callsIn_wide.2 hck1).mono ?_
  clear hck1
  rintro e w2 ⟨rfl, g2⟩
  have gw2 := gw1.trans g2
  have eL2 := eL1.new g2
  have eR2 := eR1.new g2
  have l2 := eL2.c0
  have hfw2 := hfw _ gw2
  clear hfw eL1 eR1 l1 gw1 g1 g2
  gi_wp2_with fail
  refine ⟨trivial, ?_⟩
  refine (callsIn_wide.2 hfw2).mono ?_
  clear hfw2
  rintro e w3 ⟨b, rfl, g3⟩
  have gw3 := gw2.trans g3
  have eL3 := eL2.new g3
  have eR3 := eR2.new g3
  have l3 := eL3.c0
  have r3 := eR3.c0
  have f3 := eR3.free 0
  have hnw := hnew _ gw3
  clear hnew eL2 eR2 l2 gw2 g3
  -- an early 'true'
  have early : Hid (∀ w, W.grownBy w none → Box w (W.heap.size + 1) 4 (.bool false) → (w.setCell ⟨W.heap.size + 1, 0, none⟩ (.bool true)).cell? ⟨W.heap.size + 1, 0, none⟩ = some (.bool true) ∧ Below W.heap.size W (w.setCell ⟨W.heap.size + 1, 0, none⟩ (.bool true))) := Lib.hid fun w g hB =>
    ⟨(hB.set (.bool true)).c0, (finish.out w g).setCell (p := ⟨W.heap.size + 1, 0, none⟩) (by show W.heap.size ≤ W.heap.size + 1; omega) (.bool true)⟩
  cases b with
  | false =>
    obtain ⟨q1, q2⟩ := early.out w3 gw3 eR3
    clear hnw
    gi_wp2_with fail
    generalize w3.setCell ⟨W.heap.size + 1, 0, none⟩ (.bool true) = W11 at q1 q2 ⊢
    simp [bodyPostM, LeavesInM, LeavesIn, results, Try.results5, go_sem, q1]
    exact q2
  | true =>
    by_cases hz : ne = 0
    · by_cases hbig : 500 < np
      · have hbb : decide (500 < (np : Int)) = true := by simp; omega
        subst hz
        obtain ⟨q1, q2⟩ := early.out w3 gw3 eR3
        clear hnw
        gi_wp2_with fail
        generalize w3.setCell ⟨W.heap.size + 1, 0, none⟩ (.bool true) = W11 at q1 q2 ⊢
        simp [bodyPostM, LeavesInM, LeavesIn, results, Try.results5, go_sem, q1]
        exact q2
      · have hbb : decide (500 < (np : Int)) = false := by simp; omega
        have hgd := new_good (by rw [← hne.out]; exact hz)
        subst hz
        have hlen : n ≤ 4000 := by rw [hn.out]; exact hgd.1
        have hgood := Lib.hid hgd.2
        clear hgd
        have hpo : ∀ po w4, NewQ w3 L 0 po w4 → w3.grownBy w4 none ∧ ∃ t rt ve nd mp, po = some ⟨t, 0, none⟩ ∧ Hid (TrieAt (fun k => w3.heap.size ≤ k) w4 t L 0 rt ve nd mp) := fun po w4 hq => by
          refine ⟨hq.1.grownB (fun k h => h), ?_⟩
          rcases hq.2 with ⟨_, h⟩ | ⟨h, _⟩
          · exact h
          · exact absurd rfl h
        gi_wp2_with fail
        refine ⟨trivial, ?_⟩
        refine (callsIn_wide.2 hnw).mono ?_
        clear hnw
        rintro e w4 ⟨po, rfl, hq⟩
        obtain ⟨g4, t, rt, ve, nd, mp, rfl, hT4⟩ := hpo po w4 hq
        clear hq hpo early
        have gw4 := gw3.trans g4
        have eL4 := eL3.new g4
        have eR4 := eR3.new g4
        have hE4 := each_any hT4.out
        clear eL3 eR3 l3 r3 f3 gw3 g4
        gi_wp2_with fail
        refine ⟨trivial, ?_⟩
        refine (callsIn_wide.2 hE4).mono ?_
        clear hE4
        rintro e w5 ⟨q3, q2, rfl, b53, b52, g5⟩
        have hT5 := Lib.hid (hT4.out.new g5)
        have gw5 := gw4.trans g5
        have eL5 := eL4.new g5
        have eR5 := eR4.new g5
        have hU5 := under_any (P := fun k => k < W.heap.size) hT5.out (.slice pa np pc') l (by rw [← hnp.out]; exact hrl.out _ gw5)
        clear eL4 eR4 hT4 gw4 g5
        gi_wp2_with fail
        refine ⟨trivial, ?_⟩
        refine (callsIn_wide.2 hU5).mono ?_
        clear hU5
        rintro e w6 ⟨eb, u3, u2, rfl, beb, bu3, bu2, g6⟩
        have hT6 := Lib.hid (hT5.out.new g6)
        have gw6 := gw5.trans g6
        have eL6 := eL5.new g6
        have eR6 := eR5.new g6
        have b63 := b53.new g6
        have b62 := b52.new g6
        clear eL5 eR5 hT5 gw5 g6 b53 b52
        have hne1 := nilEach q3 q2
        have hne2 := nilUnder eb
        gi_wp2_with fail
        obtain ⟨O, hO, hm⟩ := order_ex hgood.out.nd L.length (by simp)
        obtain ⟨UE, hUE⟩ : ∃ U, U = numsU (L.map (·.codes)) O [] := ⟨_, rfl⟩
        obtain ⟨UU, hUU⟩ : ∃ U, U = numsU (L.map (·.codes)) O l := ⟨_, rfl⟩
        have FE : FromOk L UE 16 (fun k => k < w6.heap.size) q3 q2 w6 := by
          rw [hUE]
          exact fromOk_made hT6.out.low hgood.out (by rw [← hn.out]; exact hlen) hO hm [] _ (fun _ h => h) q3 q2 16 (by omega) b63 b62 b63.lt b62.lt
        have FU : FromOk L UU 15 (fun k => k < w6.heap.size) u3 u2 w6 := by
          rw [hUU]
          exact fromOk_made hT6.out.low hgood.out (by rw [← hn.out]; exact hlen) hO hm l _ (fun _ h => h) u3 u2 15 (by omega) bu3 bu2 bu3.lt bu2.lt
        have OO := Lib.hid (And.intro hO (And.intro hm (And.intro hUE hUU)))
        replace FE := Lib.hid FE
        replace FU := Lib.hid FU
        clear hO hm hUE hUU b63 b62 bu3 bu2 hT6 hne1 hne2
        refine range_break (by decide) rfl (by omega) (gf := 49) (lb := #[.pointer (some ⟨q3, 0, none⟩), .pointer (some ⟨q2, 0, none⟩)]) rfl trivial (enters_of Try.func49 (by kernel_rfl) rfl)
          (FE.out w6 _ (ZK.refl _ _) (fun _ h => h)) (fun _ h => h) (fun _ => rfl) (fun _ _ _ _ _ _ h g ho hc => h.own g ho hc) (fun _ _ _ _ h g => h.new g) _ (fun _ _ h => h) (fun _ _ h => wpIn_exit (by simpa [Exit.inBlock] using h)) ?_
        intro D1 w7 hD1 g7 hM1
        dsimp only
        gi_wp2_with fail
        refine range_break (by decide) rfl (by omega) (gf := 40) (lb := #[.pointer (some ⟨eb, 0, none⟩)]) rfl trivial (enters_of Try.func40 (by kernel_rfl) rfl)
          (under1_made L UU 15 (fun k => k < w6.heap.size) eb u3 u2 w7 (FU.out.zk (ZK.of g7 (by simp)) (fun _ h => h)) (beb.new g7) beb.lt) (fun _ h => Nat.lt_of_lt_of_le h g7.size) (fun _ => rfl) (fun _ _ _ _ _ _ h g ho hc => h.own g ho hc) (fun _ _ _ _ h g => h.new g) _ (fun _ _ h => h) (fun _ _ h => wpIn_exit (by simpa [Exit.inBlock] using h)) ?_
        intro D2 w8 hD2 g8 hM2
        have g68 := g7.trans g8
        have gw8 := gw6.trans g68
        have hM1' := (g8.block D1 (lt_of_block hM1) (by simp)).trans hM1
        have hD12 : D1 < D2 := Nat.lt_of_lt_of_le (lt_of_block hM1) hD2
        have eL8 := eL6.new g68
        have eR8 := eR6.new g68
        have beb8 := beb.new g68
        have l8 := eL8.c0
        have hOr := rOrder_any (fun k => k < W.heap.size) (.slice a n c) L w8 (hrd.out _ gw8) hgood.out.nd (by rw [← hn.out]; exact hlen)
        have hWL : W.heap.size + 1 < w6.heap.size := eR6.lt
        have hebl : eb < w6.heap.size := beb.lt
        have MM := Lib.hid (And.intro hM1' (And.intro hM2 (And.intro hD12 (And.intro hD1 (Nat.le_trans hD1 (Nat.le_of_lt hD12))))))
        have DD : Hid (w6.heap.size ≤ D1) := Lib.hid hD1
        replace g68 := Lib.hid g68
        replace gw8 := Lib.hid gw8
        clear eL6 eR6 beb g7 g8 hM1 hM2 hM1' hD1 hD2 hD12 gw6
        dsimp only
        gi_wp2_with fail
        refine ⟨trivial, ?_⟩
        refine (callsIn_wide.2 hOr).mono ?_
        clear hOr
        rintro e w9 ⟨vo, O', rfl, hO', hS', hm', hl', g9⟩
        obtain rfl : O' = O := strict_eq _ _ hS' OO.out.1 (fun i => by rw [hm', OO.out.2.1])
        obtain ⟨ao, co, rfl⟩ := hO'.form
        rw [hl', ← hn.out] at hO' ⊢
        replace hl' := Lib.hid hl'
        clear hS' hm'
        have eL9 := eL8.new g9
        have eR9 := eR8.new g9
        have beb9 := beb8.new g9
        clear eL8 eR8 beb8 l8
        gi_wp2_with fail
        obtain ⟨X1, hX1⟩ : ∃ X, X = w9.alloc (.cells #[.slice ao n co] 51) := ⟨_, rfl⟩
        obtain ⟨X2, hX2⟩ : ∃ X, X = X1.alloc (.cells #[.int .i64 0] 3) := ⟨_, rfl⟩
        have z1 : X1.heap.size = w9.heap.size + 1 := by rw [hX1]; simp
        have z2 : X2.heap.size = w9.heap.size + 2 := by rw [hX2]; simp [z1]
        have x1 : w9.grownBy X1 none := by rw [hX1]; exact World.grownBy_alloc _ _ _
        have x2 : X1.grownBy X2 none := by rw [hX2]; exact World.grownBy_alloc _ _ _
        have bw1 : Box X1 w9.heap.size 51 (.slice ao n co) := by rw [hX1]; exact World.alloc_heap_new w9 _
        have bk : Box X2 (w9.heap.size + 1) 3 (.int .i64 0) := by rw [hX2, ← z1]; exact World.alloc_heap_new X1 _
        have bw := bw1.new x2
        have x9 := x1.trans x2
        rw [← hX1, ← hX2]
        obtain ⟨wb, hwb⟩ : ∃ wb, wb = w9.heap.size := ⟨_, rfl⟩
        rw [← hwb] at bw bk ⊢
        obtain ⟨kb, hkb⟩ : ∃ kb, kb = wb + 1 := ⟨_, rfl⟩
        rw [← hkb] at bk ⊢
        have gwX : W.grownBy X2 none := (gw8.out.trans g9).trans x9
        have g6X : w6.grownBy X2 none := (g68.out.trans g9).trans x9
        have hgk : ∀ g, (Value.slice ao n co).ownBlock = some g → g < kb := fun g hg => by have := (World.ownsRow.lt hO' g hg).2; omega
        have hO' := hO'.new x9
        have eLX := eL9.new x9
        have eRX := eR9.new x9
        have bebX := beb9.new x9
        have hs9 := g9.size
        have hs68 := g68.out.size
        have MX : Hid (X2.heap[D1]? = some (.deferred (some [])) ∧ X2.heap[D2]? = some (.deferred (some [])) ∧ D1 < D2 ∧ w6.heap.size ≤ D1 ∧ D2 < kb) := Lib.hid (by
          obtain ⟨m1, m2, m3, m4, m5⟩ := MM.out
          have g8X := g9.trans x9
          exact ⟨(g8X.block D1 (lt_of_block m1) (by simp)).trans m1, (g8X.block D2 (lt_of_block m2) (by simp)).trans m2, m3, m4, by have := lt_of_block m2; omega⟩)
        have hkX : kb < X2.heap.size := by omega
        have hk6 : w6.heap.size ≤ kb := by omega
        have hwk : wb < kb := by omega
        have hUEl : UE.length = n ∧ ∀ (k i : Nat), UE[k]? = some (i : Int) → O'[k]? = some i := by
          rw [OO.out.2.2.1]
          unfold numsU
          rw [under_nil]
          refine ⟨by rw [List.length_map, hl'.out, hn.out], fun k i h => ?_⟩
          rw [List.getElem?_map] at h
          obtain ⟨y, h1, h2⟩ := Option.map_eq_some_iff.1 h
          obtain rfl : y = i := by omega
          exact h1
        have UL := Lib.hid hUEl
        -- what holds while the rounds go, the counter's box aside
        have ST : Hid (∀ A, X2.grownBy A (some kb) → W.grownBy A none ∧ Box A W.heap.size 22 (.slice a n c) ∧ Box A (W.heap.size + 1) 4 (.bool false) ∧ Box A wb 51 (.slice ao n co) ∧ NumsO A w8.heap.size (.slice ao n co) O' ∧ w6.grownBy A none ∧
            A.heap[D1]? = some (.deferred (some [])) ∧ A.heap[D2]? = some (.deferred (some []))) := Lib.hid fun A g => by
          have hne : ∀ k, k ≠ kb → some kb ≠ some k := fun k h e => h (by cases e; rfl)
          obtain ⟨m1, m2, m3, m4, m5⟩ := MX.out
          refine ⟨gnew gwX g (fun r e => by cases e; left; omega), eLX.kept g (hne _ (by omega)), eRX.kept g (hne _ (by omega)), bw.kept g (hne _ (by omega)), hO'.kept g ?_, gnew g6X g (fun r e => by cases e; left; omega), (g.block D1 (lt_of_block m1) (fun e => by cases e; omega)).trans m1, (g.block D2 (lt_of_block m2) (fun e => by cases e; omega)).trans m2⟩
          cases hb : (Value.slice ao n co).ownBlock with
          | none => exact .inl rfl
          | some g' => exact .inr (fun e => by cases e; have := hgk kb hb; omega)
        have B6 := Lib.hid (And.intro bebX (And.intro hk6 hkX))
        have MK : Hid (D1 < kb ∧ D2 < kb ∧ D1 < D2) := Lib.hid (by obtain ⟨m1, m2, m3, m4, m5⟩ := MX.out; exact ⟨by omega, m5, m3⟩)
        replace g6X := Lib.hid g6X
        replace gwX := Lib.hid gwX
        clear hX1 hX2 z1 z2 x1 x2 bw1 x9 hwb hkb g9 hgk eLX eRX bebX hs9 hs68 eL9 eR9 beb9 MM hUEl hO' bw g68 gw8 MX
        refine range_tellsZB (a := _) (w := X2) (α := Tl) rfl (by omega) (gf := 49) (lb := #[.pointer (some ⟨q3, 0, none⟩), .pointer (some ⟨q2, 0, none⟩)]) rfl trivial (enters_of Try.func49 (by kernel_rfl) rfl)
          (FE.out X2 _ (ZK.of g6X.out (by simp)) (fun _ h => h)) (fun k h => Nat.lt_of_lt_of_le h g6X.out.size) (fun _ => rfl) (fun _ _ _ _ _ _ h g ho hc => h.own g ho hc)
          (fun Z' (pre : List Tl) A => ¬ Z' kb ∧ Box A kb 3 (.int .i64 (pre.length : Int)) ∧ X2.grownBy A (some kb)) (fun _ _ _ _ => False)
          (fun _ _ _ h => h.2.2.size) ?hI3 ?hIx3 ⟨by have := B6.out.2.1; omega, bk, gbut' (World.grownBy.refl _ _)⟩
          ?fr3 (fun (x : Tl) bx A => Two A bx (.slice x.a x.n x.n) (.slice x.b x.m x.m))
          (fun _ _ _ _ h g => h.new g) ?hAx3 ?assign3 ?body3 ?done3 ?stop3
        case hI3 =>
          refine ⟨fun Z' Z'' s A B h g h1 h2 => ⟨fun e => ?_, h.2.1.new g, h.2.2.trans (gbut' g)⟩, fun Z' s A B q h hq hn' g => ⟨h.1, h.2.1.kept g (fun e => by cases e; exact h.1 hq), ?_⟩⟩
          · rcases h2 _ e with e | e
            · exact h.1 e
            · have := h.2.1.lt; omega
          · exact gnew h.2.2 g (fun r e => by cases e; left; omega)
        case hIx3 => exact fun c => ⟨fun _ _ _ _ _ h _ _ _ => h.elim, fun _ _ _ _ _ h _ _ _ => h.elim⟩
        case hAx3 =>
          intro x bx A B k o h2 g ho hc
          exact two_own h2 g ho hc
        case assign3 =>
          intro l' x W' K hK
          unfold nEnc
          gi_wp2_with fail
          have hT := World.alloc_heap_new W' (.cells #[.slice x.a x.n x.n, .slice x.b x.m x.m] 35)
          generalize W'.heap.size = bx at hT ⊢
          exact hK bx _ (World.grownBy_alloc W' _ none) hT
        case body3 =>
          rintro l2 Z' pre x bx A hZ0 hZl ⟨i1, i2, i3⟩ hok hx2 hsz
          obtain ⟨gA, bL, bR, bW, bO, g6A, m1, m2⟩ := ST.out A i3
          obtain ⟨ok1, ok2, e, hxe, hn1, hn2, so1, so2⟩ := hok
          obtain ⟨xi, xa, xn, xb, xm⟩ := x
          dsimp only at ok1 ok2 hxe hn1 hn2 so1 so2 hx2
          subst hn1 hn2
          obtain ⟨k, hk⟩ : ∃ k, k = pre.length := ⟨_, rfl⟩
          rw [← hk] at i2 ok2
          have hOk := UL.out.2 _ _ ok2
          have hkn : k < n := by have := (List.getElem?_eq_some_iff.1 hOk).1; have := hl'.out; have := hn.out; omega
          have hin : xi < n := by have := (List.getElem?_eq_some_iff.1 hxe).1; have := hn.out; omega
          have gd : A.grownBy A.drew none := gdrew (World.grownBy.refl A none)
          obtain ⟨g, rfl, -, -, -, d1, -⟩ := (bO.new gd).at hOk
          obtain ⟨b, off, a1, c1, a2, c2, rfl, e1, e2, eR⟩ := ents_both (hrd.out _ (gA.trans gd)) hxe
          have hSm := rSameE_any _ _ _ _ _ _ e A.drew ⟨so1.reads.new gd, so2.reads.new gd⟩ eR
          have x0 := (hx2.new gd).c0
          have x1 := (hx2.new gd).c1
          have k0 := (i2.new gd).c0
          have w0 := (bW.new gd).c0
          have l0 := (bL.new gd).c0
          have hS0' : A.drew.cell? ⟨kb, 0, none⟩ = some (.int .i64 (k : Int)) ∧ A.drew.cell? ⟨wb, 0, none⟩ = some (.slice (some ⟨g, 0, none⟩) n co) ∧ A.drew.cell? ⟨g, k, none⟩ = some (.int .i64 (xi : Int)) ∧ A.drew.cell? ⟨bx, 0, none⟩ = some (.slice xa e.codes.length e.codes.length) ∧ A.drew.cell? ⟨bx, 1, none⟩ = some (.slice xb e.els.length e.els.length) ∧
            A.drew.cell? ⟨W.heap.size, 0, none⟩ = some (.slice (some ⟨b, off, none⟩) n c) ∧ A.drew.cell? ⟨b, off + xi * 2, none⟩ = some (.slice a1 e.codes.length c1) ∧ A.drew.cell? ⟨b, off + xi * 2 + 1, none⟩ = some (.slice a2 e.els.length c2) := ⟨k0, w0, by simpa using d1, x0, x1, l0, e1, e2⟩
          have hdec : decide (n ≤ k) = false := by simp; omega
          have hwk1 : IntKind.i64.wrap ((k : Int) + 1) = (k : Int) + 1 := IntWalk.i64_in _ (by omega)
          have BB := Lib.hid (And.intro i1 (And.intro i2 (And.intro i3 (And.intro hk gd))))
          generalize e.codes.length = nc at *
          generalize e.els.length = nel at *
          clear i1 i2 i3 hk gd bL bR bW bO g6A m1 m2 gA ok1 ok2 hxe so1 so2 hOk d1 e1 e2 eR x0 x1 k0 w0 l0 hx2
          gi_wp2_with fail
          refine wpIn_noPanicT ?_
          refine wpIn_region_held (S := fun V => V.cell? ⟨kb, 0, none⟩ = some (.int .i64 (k : Int)) ∧ V.cell? ⟨wb, 0, none⟩ = some (.slice (some ⟨g, 0, none⟩) n co) ∧ V.cell? ⟨g, k, none⟩ = some (.int .i64 (xi : Int)) ∧ V.cell? ⟨bx, 0, none⟩ = some (.slice xa nc nc) ∧ V.cell? ⟨bx, 1, none⟩ = some (.slice xb nel nel) ∧
            V.cell? ⟨W.heap.size, 0, none⟩ = some (.slice (some ⟨b, off, none⟩) n c) ∧ V.cell? ⟨b, off + xi * 2, none⟩ = some (.slice a1 nc c1) ∧ V.cell? ⟨b, off + xi * 2 + 1, none⟩ = some (.slice a2 nel c2)) (by kernel_rfl) hS0' (fun hS0 => ?_)
          refine wpAnyHIn_take (i := 0) (oi := ⟨some 71, _, _, _, _, _⟩) (v := ?_) rfl (by kernel_rfl) (by kernel_rfl) (by kernel_rfl) (by kernel_rfl) (fun _ _ _ h => h) (fun _ => rfl) (Or.inl ⟨by rfl, ?_⟩) (by assumption) ?_
          rotate_left
          · (intro w hSw; (try dsimp only at hSw); go_simp; try with_reducible rfl)
          try simp only [Act.put, List.setIfInBounds_toArray, List.set_cons_zero, List.set_cons_succ]
          refine wpAnyHIn_take (i := 1) (oi := ⟨some 72, _, _, _, _, _⟩) (v := ?_) rfl (by kernel_rfl) (by kernel_rfl) (by kernel_rfl) (by kernel_rfl) (fun _ _ _ h => h) (fun _ => rfl) (Or.inl ⟨by rfl, ?_⟩) (by assumption) ?_
          rotate_left
          · (intro w hSw; (try dsimp only at hSw); go_simp; try with_reducible rfl)
          try simp only [Act.put, List.setIfInBounds_toArray, List.set_cons_zero, List.set_cons_succ]
          refine wpAnyHIn_take (i := 2) (oi := ⟨some 73, _, _, _, _, _⟩) (v := ?_) rfl (by kernel_rfl) (by kernel_rfl) (by kernel_rfl) (by kernel_rfl) (fun _ _ _ h => h) (fun _ => rfl) (Or.inl ⟨by rfl, ?_⟩) (by assumption) ?_
          rotate_left
          · (intro w hSw; (try dsimp only at hSw); go_simp; try with_reducible rfl)
          try simp only [Act.put, List.setIfInBounds_toArray, List.set_cons_zero, List.set_cons_succ]
          refine wpAnyHIn_take (i := 3) (oi := ⟨some 74, _, _, _, _, _⟩) (v := ?_) rfl (by kernel_rfl) (by kernel_rfl) (by kernel_rfl) (by kernel_rfl) (fun _ _ _ h => h) (fun _ => rfl) (Or.inl ⟨by rfl, ?_⟩) (by assumption) ?_
          rotate_left
          · (intro w hSw; (try dsimp only at hSw); go_simp; try with_reducible rfl)
          try simp only [Act.put, List.setIfInBounds_toArray, List.set_cons_zero, List.set_cons_succ]
          refine wpAnyHIn_take (i := 4) (oi := ⟨some 75, _, _, _, _, _⟩) (v := ?_) rfl (by kernel_rfl) (by kernel_rfl) (by kernel_rfl) (by kernel_rfl) (fun _ _ _ h => h) (fun _ => rfl) (Or.inl ⟨by rfl, ?_⟩) (by assumption) ?_
          rotate_left
          · (intro w hSw; (try dsimp only at hSw); go_simp; try with_reducible rfl)
          try simp only [Act.put, List.setIfInBounds_toArray, List.set_cons_zero, List.set_cons_succ]
          refine wpAnyHIn_take (i := 5) (oi := ⟨some 76, _, _, _, _, _⟩) (v := ?_) rfl (by kernel_rfl) (by kernel_rfl) (by kernel_rfl) (by kernel_rfl) (fun _ _ _ h => h) (fun _ => rfl) (Or.inl ⟨by rfl, ?_⟩) (by assumption) ?_
          rotate_left
          · (intro w hSw; (try dsimp only at hSw); go_simp; try with_reducible rfl)
          try simp only [Act.put, List.setIfInBounds_toArray, List.set_cons_zero, List.set_cons_succ]
          refine wpAnyHIn_take (i := 6) (oi := ⟨some 77, _, _, _, _, _⟩) (v := ?_) rfl (by kernel_rfl) (by kernel_rfl) (by kernel_rfl) (by kernel_rfl) (fun _ _ _ h => h) (fun _ => rfl) (Or.inl ⟨by rfl, ?_⟩) (by assumption) ?_
          rotate_left
          · (intro w hSw; (try dsimp only at hSw); go_simp; try with_reducible rfl)
          try simp only [Act.put, List.setIfInBounds_toArray, List.set_cons_zero, List.set_cons_succ]
          refine wpAnyHIn_take (i := 7) (oi := ⟨some 78, _, _, _, _, _⟩) (v := ?_) rfl (by kernel_rfl) (by kernel_rfl) (by kernel_rfl) (by kernel_rfl) (fun _ _ _ h => h) (fun _ => rfl) (Or.inl ⟨by rfl, ?_⟩) (by assumption) ?_
          rotate_left
          · (intro w hSw; (try dsimp only at hSw); go_simp; try with_reducible rfl)
          try simp only [Act.put, List.setIfInBounds_toArray, List.set_cons_zero, List.set_cons_succ]
          refine wpAnyHIn_take (i := 8) (oi := ⟨some 79, _, _, _, _, _⟩) (v := ?_) rfl (by kernel_rfl) (by kernel_rfl) (by kernel_rfl) (by kernel_rfl) (fun _ _ _ h => h) (fun _ => rfl) (Or.inl ⟨by rfl, ?_⟩) (by assumption) ?_
          rotate_left
          · (intro w hSw; (try dsimp only at hSw); go_simp; try with_reducible rfl)
          try simp only [Act.put, List.setIfInBounds_toArray, List.set_cons_zero, List.set_cons_succ]
          refine wpAnyHIn_take (i := 9) (oi := ⟨some 80, _, _, _, _, _⟩) (v := ?_) rfl (by kernel_rfl) (by kernel_rfl) (by kernel_rfl) (by kernel_rfl) (fun _ _ _ h => h) (fun _ => rfl) (Or.inl ⟨by rfl, ?_⟩) (by assumption) ?_
          rotate_left
          · (intro w hSw; (try dsimp only at hSw); go_simp; try with_reducible rfl)
          try simp only [Act.put, List.setIfInBounds_toArray, List.set_cons_zero, List.set_cons_succ]
          refine wpAnyHIn_take (i := 10) (oi := ⟨some 81, _, _, _, _, _⟩) (v := ?_) rfl (by kernel_rfl) (by kernel_rfl) (by kernel_rfl) (by kernel_rfl) (fun _ _ _ h => h) (fun _ => rfl) (Or.inl ⟨by rfl, ?_⟩) (by assumption) ?_
          rotate_left
          · (intro w hSw; (try dsimp only at hSw); go_simp; try with_reducible rfl)
          try simp only [Act.put, List.setIfInBounds_toArray, List.set_cons_zero, List.set_cons_succ]
          refine wpAnyHIn_take (i := 11) (oi := ⟨some 82, _, _, _, _, _⟩) (v := ?_) rfl (by kernel_rfl) (by kernel_rfl) (by kernel_rfl) (by kernel_rfl) (fun _ _ _ h => h) (fun _ => rfl) (Or.inl ⟨by rfl, ?_⟩) (by assumption) ?_
          rotate_left
          · (intro w hSw; (try dsimp only at hSw); go_simp; try with_reducible rfl)
          try simp only [Act.put, List.setIfInBounds_toArray, List.set_cons_zero, List.set_cons_succ]
          refine wpAnyHIn_take (i := 12) (oi := ⟨some 83, _, _, _, _, _⟩) (v := ?_) rfl (by kernel_rfl) (by kernel_rfl) (by kernel_rfl) (by kernel_rfl) (fun _ _ _ h => h) (fun _ => rfl) (Or.inl ⟨by rfl, ?_⟩) (by assumption) ?_
          rotate_left
          · (intro w hSw; (try dsimp only at hSw); go_simp; try with_reducible rfl)
          try simp only [Act.put, List.setIfInBounds_toArray, List.set_cons_zero, List.set_cons_succ]
          refine wpAnyHIn_take (i := 13) (oi := ⟨some 84, _, _, _, _, _⟩) (v := ?_) rfl (by kernel_rfl) (by kernel_rfl) (by kernel_rfl) (by kernel_rfl) (fun _ _ _ h => h) (fun _ => rfl) (Or.inl ⟨by rfl, ?_⟩) (by assumption) ?_
          rotate_left
          · (intro w hSw; (try dsimp only at hSw); go_simp; try with_reducible rfl)
          try simp only [Act.put, List.setIfInBounds_toArray, List.set_cons_zero, List.set_cons_succ]
          refine wpAnyHIn_take (i := 14) (oi := ⟨some 85, _, _, _, _, _⟩) (v := ?_) rfl (by kernel_rfl) (by kernel_rfl) (by kernel_rfl) (by kernel_rfl) (fun _ _ _ h => h) (fun _ => rfl) (Or.inl ⟨by rfl, ?_⟩) (by assumption) ?_
          rotate_left
          · (intro w hSw; (try dsimp only at hSw); go_simp; try with_reducible rfl)
          try simp only [Act.put, List.setIfInBounds_toArray, List.set_cons_zero, List.set_cons_succ]
          refine wpAnyHIn_take (i := 15) (oi := ⟨some 86, _, _, _, _, _⟩) (v := ?_) rfl (by kernel_rfl) (by kernel_rfl) (by kernel_rfl) (by kernel_rfl) (fun _ _ _ h => h) (fun _ => rfl) (Or.inl ⟨by rfl, ?_⟩) (by assumption) ?_
          rotate_left
          · (intro w hSw; (try dsimp only at hSw); go_simp; try with_reducible rfl)
          try simp only [Act.put, List.setIfInBounds_toArray, List.set_cons_zero, List.set_cons_succ]
          refine wpAnyHIn_take (i := 16) (oi := ⟨some 87, _, _, _, _, _⟩) (v := ?_) rfl (by kernel_rfl) (by kernel_rfl) (by kernel_rfl) (by kernel_rfl) (fun _ _ _ h => h) (fun _ => rfl) (Or.inl ⟨by rfl, ?_⟩) (by assumption) ?_
          rotate_left
          · (intro w hSw; (try dsimp only at hSw); go_simp; try with_reducible rfl)
          try simp only [Act.put, List.setIfInBounds_toArray, List.set_cons_zero, List.set_cons_succ]
          refine wpAnyHIn_take (i := 17) (oi := ⟨some 88, _, _, _, _, _⟩) (v := ?_) rfl (by kernel_rfl) (by kernel_rfl) (by kernel_rfl) (by kernel_rfl) (fun _ _ _ h => h) (fun _ => rfl) (Or.inl ⟨by rfl, ?_⟩) (by assumption) ?_
          rotate_left
          · (intro w hSw; (try dsimp only at hSw); go_simp; try with_reducible rfl)
          try simp only [Act.put, List.setIfInBounds_toArray, List.set_cons_zero, List.set_cons_succ]
          refine wpAnyHIn_next (i := 18) (by kernel_rfl) rfl (by rfl) (fun K hK => ?_)
          go_simp
          refine ⟨trivial, (callsIn_wide.2 hSm).mono ?_⟩
          rintro e' A2 ⟨rfl, g2⟩
          have hc2 : ∀ {p : Addr} {u : Value}, A.drew.cell? p = some u → A2.cell? p = some u := fun h => g2.cell h (by simp)
          refine hK.out _ _ ⟨hc2 hS0.1, hc2 hS0.2.1, hc2 hS0.2.2.1, hc2 hS0.2.2.2.1, hc2 hS0.2.2.2.2.1, hc2 hS0.2.2.2.2.2.1, hc2 hS0.2.2.2.2.2.2.1, hc2 hS0.2.2.2.2.2.2.2⟩ (fun hS1 => ?_)
          clear hK
          refine wpAnyHIn_take (i := 19) (oi := ⟨some 90, _, _, _, _, _⟩) (v := ?_) rfl (by kernel_rfl) (by kernel_rfl) (by kernel_rfl) (by kernel_rfl) (fun _ _ _ h => h) (fun _ => rfl) (Or.inl ⟨by rfl, ?_⟩) (by assumption) ?_
          rotate_left
          · (intro w hSw; (try dsimp only at hSw); go_simp; try with_reducible rfl)
          try simp only [Act.put, List.setIfInBounds_toArray, List.set_cons_zero, List.set_cons_succ]
          refine wpAnyHIn_take (i := 20) (oi := ⟨some 91, _, _, _, _, _⟩) (v := ?_) rfl (by kernel_rfl) (by kernel_rfl) (by kernel_rfl) (by kernel_rfl) (fun _ _ _ h => h) (fun _ => rfl) (Or.inl ⟨by rfl, ?_⟩) (by assumption) ?_
          rotate_left
          · (intro w hSw; (try dsimp only at hSw); go_simp; try with_reducible rfl)
          try simp only [Act.put, List.setIfInBounds_toArray, List.set_cons_zero, List.set_cons_succ]
          refine wpAnyHIn_done (by kernel_rfl) ?_ _
          refine noPanicT ?_
          obtain ⟨i1, i2, i3, hk, gd⟩ := BB.out
          have bk2 := i2.new (gd.trans g2)
          have k2 := bk2.c0
          have f2 := bk2.free 0
          have bk3 := bk2.set (.int .i64 ((k : Int) + 1))
          have gst : A2.grownBy (A2.setCell ⟨kb, 0, none⟩ (.int .i64 ((k : Int) + 1))) (some kb) := gset (World.grownBy.refl A2 (some kb)) 0 _
          have F : Hid (ZK Z' A (A2.setCell ⟨kb, 0, none⟩ (.int .i64 ((k : Int) + 1))) ∧ ¬ Z' kb ∧ Box (A2.setCell ⟨kb, 0, none⟩ (.int .i64 ((k : Int) + 1))) kb 3 (.int .i64 (((pre ++ [(⟨xi, xa, nc, xb, nel⟩ : Tl)]).length : Nat) : Int)) ∧ X2.grownBy (A2.setCell ⟨kb, 0, none⟩ (.int .i64 ((k : Int) + 1))) (some kb)) := Lib.hid (by
            refine ⟨(ZK.of (gd.trans g2) (by simp)).trans (ZK.of gst (fun q e => by cases e; exact i1)), i1, ?_, (i3.trans (gbut' (gd.trans g2))).trans gst⟩
            have : (((pre ++ [(⟨xi, xa, nc, xb, nel⟩ : Tl)]).length : Nat) : Int) = (k : Int) + 1 := by rw [List.length_append, ← hk]; simp
            rw [this]
            exact bk3)
          clear hS0 hS1 hS0' i1 i2 i3 hk gd bk2 bk3 gst g2 hSm BB hc2
          gi_wp2_with fail
          exact F.out
        case stop3 =>
          rintro D c7 Z' pre' A B hD hZD hz' hzl' _ h
          exact h.elim
        case done3 =>
          rintro D3 Z' xs A B hD3 hZD hz' hzl' hxs ⟨i1, i2, i3⟩ hg hM3
          obtain ⟨gB, bL, bR, bW, bO, g6B, m1, m2⟩ := ST.out B i3
          have hxl : xs.length = n := by
            have := congrArg List.length (show xs.map (fun y : Tl => (y.i : Int)) = UE from hxs)
            rw [List.length_map, UL.out.1] at this
            exact this
          rw [hxl] at i2
          have hUn := rUnder_any (fun k => k < W.heap.size) (fun k => k < W.heap.size) (.slice a n c) (.slice pa np pc') L l B (hrd.out _ gB) (by rw [← hnp.out]; exact hrl.out _ gB) hgood.out.nd (by rw [← hn.out]; exact hlen)
          have l0 := bL.c0
          have bebB := B6.out.1.kept i3 (fun e => by have := B6.out.2.1; cases e; omega)
          have hD1k : D1 < kb ∧ D2 < kb ∧ D1 < D2 ∧ kb < D3 := ⟨MK.out.1, MK.out.2.1, MK.out.2.2, by have := B6.out.2.2; omega⟩
          have BB := Lib.hid (And.intro gB (And.intro bL (And.intro bR (And.intro bW (And.intro g6B (And.intro m1 (And.intro m2 (And.intro hM3 (And.intro i2 (And.intro bebB hD1k))))))))))
          clear gB bL bR bW bO g6B m1 m2 hM3 i1 i2 i3 hD3 hZD hz' hzl' hxs hg bebB hD1k hxl ST
          dsimp only
          gi_wp2_with fail
          refine ⟨trivial, ?_⟩
          refine (callsIn_wide.2 hUn).mono ?_
          clear hUn l0
          rintro e Y0 ⟨vp, O2, rfl, hS2, hm2, hP, gY⟩
          obtain rfl : O2 = O' := strict_eq _ _ hS2 OO.out.1 (fun i => by rw [hm2, OO.out.2.1])
          obtain ⟨ap, cp, rfl⟩ := hP.form
          have hUUl : UU.length = (underL (codesAt (L.map (·.codes))) O2 l).length ∧ ∀ (k i : Nat), UU[k]? = some (i : Int) → (underL (codesAt (L.map (·.codes))) O2 l)[k]? = some i := by
            rw [OO.out.2.2.2]
            unfold numsU
            refine ⟨by rw [List.length_map], fun k i h => ?_⟩
            rw [List.getElem?_map] at h
            obtain ⟨y, h1, h2⟩ := Option.map_eq_some_iff.1 h
            obtain rfl : y = i := by omega
            exact h1
          generalize underL (codesAt (L.map (·.codes))) O2 l = PL at hP hUUl ⊢
          obtain ⟨m, hmm⟩ : ∃ m, m = PL.length := ⟨_, rfl⟩
          rw [← hmm] at hP hUUl ⊢
          have hm3 : m ≤ n := by
            rw [← hUUl.1, OO.out.2.2.2]
            unfold numsU underL
            rw [List.length_map]
            exact Nat.le_trans (List.length_filter_le _ _) (by rw [hl'.out, ← hn.out]; exact Nat.le_refl _)
          clear hS2 hm2
          replace hmm := Lib.hid hmm
          obtain ⟨gB, bL, bR, bW, g6B, m1, m2, m3, bk, bebB, hD1, hD2, hD12, hD3⟩ := BB.out
          gi_wp2_with fail
          obtain ⟨X3, hX3⟩ : ∃ X, X = Y0.alloc (.cells #[.slice ap m cp] 51) := ⟨_, rfl⟩
          obtain ⟨X4, hX4⟩ : ∃ X, X = X3.alloc (.cells #[.int .i64 0] 3) := ⟨_, rfl⟩
          have z3 : X3.heap.size = Y0.heap.size + 1 := by rw [hX3]; simp
          have z4 : X4.heap.size = Y0.heap.size + 2 := by rw [hX4]; simp [z3]
          have x3 : Y0.grownBy X3 none := by rw [hX3]; exact World.grownBy_alloc _ _ _
          have x4 : X3.grownBy X4 none := by rw [hX4]; exact World.grownBy_alloc _ _ _
          have bp3 : Box X3 Y0.heap.size 51 (.slice ap m cp) := by rw [hX3]; exact World.alloc_heap_new Y0 _
          have bn : Box X4 (Y0.heap.size + 1) 3 (.int .i64 0) := by rw [hX4, ← z3]; exact World.alloc_heap_new X3 _
          have bp := bp3.new x4
          have y9 := x3.trans x4
          rw [← hX3, ← hX4]
          obtain ⟨pb, hpb⟩ : ∃ pb, pb = Y0.heap.size := ⟨_, rfl⟩
          rw [← hpb] at bp bn ⊢
          obtain ⟨nb, hnb⟩ : ∃ nb, nb = pb + 1 := ⟨_, rfl⟩
          rw [← hnb] at bn ⊢
          have gBX : B.grownBy X4 none := gY.trans y9
          have gwX4 : W.grownBy X4 none := gB.trans gBX
          have g6X4 : w6.grownBy X4 none := g6B.trans gBX
          have hgn : ∀ g, (Value.slice ap m cp).ownBlock = some g → g < nb := fun g hg => by have := (World.ownsRow.lt hP g hg).2; omega
          have hP4 := hP.new y9
          have hbs := gY.size
          have hB6 := g6B.size
          have hnX : nb < X4.heap.size := by omega
          have hn6 : w6.heap.size ≤ nb := by omega
          have hD3B := lt_of_block m3
          have hkB := bk.lt
          have hwB := bW.lt
          have ST2 : Hid (∀ A, X4.grownBy A (some nb) → W.grownBy A none ∧ Box A W.heap.size 22 (.slice a n c) ∧ Box A (W.heap.size + 1) 4 (.bool false) ∧ Box A pb 51 (.slice ap m cp) ∧ NumsO A B.heap.size (.slice ap m cp) PL ∧ Box A kb 3 (.int .i64 (n : Int)) ∧ Box A wb 51 (.slice ao n co) ∧
              A.heap[D1]? = some (.deferred (some [])) ∧ A.heap[D2]? = some (.deferred (some [])) ∧ A.heap[D3]? = some (.deferred (some []))) := Lib.hid fun A g => by
            have hne : ∀ k, k ≠ nb → some nb ≠ some k := fun k h e => h (by cases e; rfl)
            refine ⟨gnew gwX4 g (fun r e => by cases e; left; omega), (bL.new gBX).kept g (hne _ (by omega)), (bR.new gBX).kept g (hne _ (by omega)), bp.kept g (hne _ (by omega)), hP4.kept g ?_, (bk.new gBX).kept g (hne _ (by omega)), (bW.new gBX).kept g (hne _ (by omega)), ?_, ?_, ?_⟩
            · cases hb : (Value.slice ap m cp).ownBlock with
              | none => exact .inl rfl
              | some g' => exact .inr (fun e => by cases e; have := hgn nb hb; omega)
            · exact (g.block D1 (Nat.lt_of_lt_of_le (lt_of_block m1) gBX.size) (fun e => by cases e; omega)).trans ((gBX.block D1 (lt_of_block m1) (by simp)).trans m1)
            · exact (g.block D2 (Nat.lt_of_lt_of_le (lt_of_block m2) gBX.size) (fun e => by cases e; omega)).trans ((gBX.block D2 (lt_of_block m2) (by simp)).trans m2)
            · exact (g.block D3 (Nat.lt_of_lt_of_le (lt_of_block m3) gBX.size) (fun e => by cases e; omega)).trans ((gBX.block D3 (lt_of_block m3) (by simp)).trans m3)
          have bebX4 := bebB.new gBX
          have B7 := Lib.hid (And.intro hn6 (And.intro hnX (And.intro hD12 (And.intro hD2 (And.intro hD3 (show D3 < nb by omega))))))
          replace g6X4 := Lib.hid g6X4
          replace hUUl := Lib.hid hUUl
          clear hX3 hX4 z3 z4 x3 x4 bp3 y9 hpb hnb gBX gwX4 hgn hP4 hbs hB6 hn6 hnX hD3B hkB hwB hP bp gY gB bL bR bW g6B m1 m2 m3 bk bebB hD1 hD2 hD12 hD3 BB MK B6
          refine range_tellsZB (a := _) (w := X4) (α := Tl) rfl (by omega) (gf := 40) (lb := #[.pointer (some ⟨eb, 0, none⟩)]) rfl trivial (enters_of Try.func40 (by kernel_rfl) rfl)
            (under1_made L UU 15 (fun k => k < w6.heap.size) eb u3 u2 X4 (FU.out.zk (ZK.of g6X4.out (by simp)) (fun _ h => h)) bebX4 hebl) (fun k h => Nat.lt_of_lt_of_le h g6X4.out.size) (fun _ => rfl) (fun _ _ _ _ _ _ h g ho hc => h.own g ho hc)
            (fun Z' (pre : List Tl) A => ¬ Z' nb ∧ Box A nb 3 (.int .i64 (pre.length : Int)) ∧ X4.grownBy A (some nb)) (fun _ _ _ _ => False)
            (fun _ _ _ h => h.2.2.size) ?hI4 ?hIx4 ⟨by have := B7.out.1; omega, bn, gbut' (World.grownBy.refl _ _)⟩
            ?fr4 (fun (x : Tl) bx A => Two A bx (.slice x.a x.n x.n) (.slice x.b x.m x.m))
            (fun _ _ _ _ h g => h.new g) ?hAx4 ?assign4 ?body4 ?done4 ?stop4
          case hI4 =>
            have hnX := B7.out.2.1
            refine ⟨fun Z' Z'' s A B h g h1 h2 => ⟨fun e => ?_, h.2.1.new g, h.2.2.trans (gbut' g)⟩, fun Z' s A B q h hq hn' g => ⟨h.1, h.2.1.kept g (fun e => by cases e; exact h.1 hq), ?_⟩⟩
            · rcases h2 _ e with e | e
              · exact h.1 e
              · have := h.2.1.lt; omega
            · exact gnew h.2.2 g (fun r e => by cases e; left; omega)
          case hIx4 => exact fun c => ⟨fun _ _ _ _ _ h _ _ _ => h.elim, fun _ _ _ _ _ h _ _ _ => h.elim⟩
          case hAx4 =>
            intro x bx A B k o h2 g ho hc
            exact two_own h2 g ho hc
          case assign4 =>
            intro l' x W' K hK
            unfold eEnc
            gi_wp2_with fail
            have hT := World.alloc_heap_new W' (.cells #[.slice x.a x.n x.n, .slice x.b x.m x.m] 35)
            generalize W'.heap.size = bx at hT ⊢
            exact hK bx _ (World.grownBy_alloc W' _ none) hT
          case body4 =>
            rintro l2 Z' pre x bx A hZ0 hZl ⟨i1, i2, i3⟩ hok hx2 hsz
            obtain ⟨gA, bL, bR, bP, bO, bk4, bW4, m1, m2, m3⟩ := ST2.out A i3
            obtain ⟨ok1, ok2, e, hxe, hn1, hn2, so1, so2⟩ := hok
            obtain ⟨xi, xa, xn, xb, xm⟩ := x
            dsimp only at ok1 ok2 hxe hn1 hn2 so1 so2 hx2
            subst hn1 hn2
            obtain ⟨k, hk⟩ : ∃ k, k = pre.length := ⟨_, rfl⟩
            rw [← hk] at i2 ok2
            have hOk := hUUl.out.2 _ _ ok2
            have hkn : k < m := by rw [hmm.out]; exact (List.getElem?_eq_some_iff.1 hOk).1
            have hin : xi < n := by have := (List.getElem?_eq_some_iff.1 hxe).1; have := hn.out; omega
            have gd : A.grownBy A.drew none := gdrew (World.grownBy.refl A none)
            obtain ⟨g, rfl, -, -, -, d1, -⟩ := (bO.new gd).at hOk
            obtain ⟨b, off, a1, c1, a2, c2, rfl, e1, e2, eR⟩ := ents_both (hrd.out _ (gA.trans gd)) hxe
            have hSm := rSameE_any _ _ _ _ _ _ e A.drew ⟨so1.reads.new gd, so2.reads.new gd⟩ eR
            have x0 := (hx2.new gd).c0
            have x1 := (hx2.new gd).c1
            have k0 := (i2.new gd).c0
            have w0 := (bP.new gd).c0
            have l0 := (bL.new gd).c0
            have hS0' : A.drew.cell? ⟨nb, 0, none⟩ = some (.int .i64 (k : Int)) ∧ A.drew.cell? ⟨pb, 0, none⟩ = some (.slice (some ⟨g, 0, none⟩) m cp) ∧ A.drew.cell? ⟨g, k, none⟩ = some (.int .i64 (xi : Int)) ∧ A.drew.cell? ⟨bx, 0, none⟩ = some (.slice xa e.codes.length e.codes.length) ∧ A.drew.cell? ⟨bx, 1, none⟩ = some (.slice xb e.els.length e.els.length) ∧
              A.drew.cell? ⟨W.heap.size, 0, none⟩ = some (.slice (some ⟨b, off, none⟩) n c) ∧ A.drew.cell? ⟨b, off + xi * 2, none⟩ = some (.slice a1 e.codes.length c1) ∧ A.drew.cell? ⟨b, off + xi * 2 + 1, none⟩ = some (.slice a2 e.els.length c2) := ⟨k0, w0, d1, x0, x1, l0, e1, e2⟩
            have hdec : decide (m ≤ k) = false := by simp; omega
            have hwk1 : IntKind.i64.wrap ((k : Int) + 1) = (k : Int) + 1 := IntWalk.i64_in _ (by omega)
            have BB := Lib.hid (And.intro i1 (And.intro i2 (And.intro i3 (And.intro hk gd))))
            generalize e.codes.length = nc at *
            generalize e.els.length = nel at *
            clear i1 i2 i3 hk gd bL bR bP bO bk4 bW4 m1 m2 m3 gA ok1 ok2 hxe so1 so2 hOk d1 e1 e2 eR x0 x1 k0 w0 l0 hx2
            gi_wp2_with fail
            refine wpIn_noPanicT ?_
            refine wpIn_region_held (S := fun V => V.cell? ⟨nb, 0, none⟩ = some (.int .i64 (k : Int)) ∧ V.cell? ⟨pb, 0, none⟩ = some (.slice (some ⟨g, 0, none⟩) m cp) ∧ V.cell? ⟨g, k, none⟩ = some (.int .i64 (xi : Int)) ∧ V.cell? ⟨bx, 0, none⟩ = some (.slice xa nc nc) ∧ V.cell? ⟨bx, 1, none⟩ = some (.slice xb nel nel) ∧
              V.cell? ⟨W.heap.size, 0, none⟩ = some (.slice (some ⟨b, off, none⟩) n c) ∧ V.cell? ⟨b, off + xi * 2, none⟩ = some (.slice a1 nc c1) ∧ V.cell? ⟨b, off + xi * 2 + 1, none⟩ = some (.slice a2 nel c2)) (by kernel_rfl) hS0' (fun hS0 => ?_)
            refine wpAnyHIn_take (i := 0) (oi := ⟨some 99, _, _, _, _, _⟩) (v := ?_) rfl (by kernel_rfl) (by kernel_rfl) (by kernel_rfl) (by kernel_rfl) (fun _ _ _ h => h) (fun _ => rfl) (Or.inl ⟨by rfl, ?_⟩) (by assumption) ?_
            rotate_left
            · (intro w hSw; (try dsimp only at hSw); go_simp; try with_reducible rfl)
            try simp only [Act.put, List.setIfInBounds_toArray, List.set_cons_zero, List.set_cons_succ]
            refine wpAnyHIn_take (i := 1) (oi := ⟨some 100, _, _, _, _, _⟩) (v := ?_) rfl (by kernel_rfl) (by kernel_rfl) (by kernel_rfl) (by kernel_rfl) (fun _ _ _ h => h) (fun _ => rfl) (Or.inl ⟨by rfl, ?_⟩) (by assumption) ?_
            rotate_left
            · (intro w hSw; (try dsimp only at hSw); go_simp; try with_reducible rfl)
            try simp only [Act.put, List.setIfInBounds_toArray, List.set_cons_zero, List.set_cons_succ]
            refine wpAnyHIn_take (i := 2) (oi := ⟨some 101, _, _, _, _, _⟩) (v := ?_) rfl (by kernel_rfl) (by kernel_rfl) (by kernel_rfl) (by kernel_rfl) (fun _ _ _ h => h) (fun _ => rfl) (Or.inl ⟨by rfl, ?_⟩) (by assumption) ?_
            rotate_left
            · (intro w hSw; (try dsimp only at hSw); go_simp; try with_reducible rfl)
            try simp only [Act.put, List.setIfInBounds_toArray, List.set_cons_zero, List.set_cons_succ]
            refine wpAnyHIn_take (i := 3) (oi := ⟨some 102, _, _, _, _, _⟩) (v := ?_) rfl (by kernel_rfl) (by kernel_rfl) (by kernel_rfl) (by kernel_rfl) (fun _ _ _ h => h) (fun _ => rfl) (Or.inl ⟨by rfl, ?_⟩) (by assumption) ?_
            rotate_left
            · (intro w hSw; (try dsimp only at hSw); go_simp; try with_reducible rfl)
            try simp only [Act.put, List.setIfInBounds_toArray, List.set_cons_zero, List.set_cons_succ]
            refine wpAnyHIn_take (i := 4) (oi := ⟨some 103, _, _, _, _, _⟩) (v := ?_) rfl (by kernel_rfl) (by kernel_rfl) (by kernel_rfl) (by kernel_rfl) (fun _ _ _ h => h) (fun _ => rfl) (Or.inl ⟨by rfl, ?_⟩) (by assumption) ?_
            rotate_left
            · (intro w hSw; (try dsimp only at hSw); go_simp; try with_reducible rfl)
            try simp only [Act.put, List.setIfInBounds_toArray, List.set_cons_zero, List.set_cons_succ]
            refine wpAnyHIn_take (i := 5) (oi := ⟨some 104, _, _, _, _, _⟩) (v := ?_) rfl (by kernel_rfl) (by kernel_rfl) (by kernel_rfl) (by kernel_rfl) (fun _ _ _ h => h) (fun _ => rfl) (Or.inl ⟨by rfl, ?_⟩) (by assumption) ?_
            rotate_left
            · (intro w hSw; (try dsimp only at hSw); go_simp; try with_reducible rfl)
            try simp only [Act.put, List.setIfInBounds_toArray, List.set_cons_zero, List.set_cons_succ]
            refine wpAnyHIn_take (i := 6) (oi := ⟨some 105, _, _, _, _, _⟩) (v := ?_) rfl (by kernel_rfl) (by kernel_rfl) (by kernel_rfl) (by kernel_rfl) (fun _ _ _ h => h) (fun _ => rfl) (Or.inl ⟨by rfl, ?_⟩) (by assumption) ?_
            rotate_left
            · (intro w hSw; (try dsimp only at hSw); go_simp; try with_reducible rfl)
            try simp only [Act.put, List.setIfInBounds_toArray, List.set_cons_zero, List.set_cons_succ]
            refine wpAnyHIn_take (i := 7) (oi := ⟨some 106, _, _, _, _, _⟩) (v := ?_) rfl (by kernel_rfl) (by kernel_rfl) (by kernel_rfl) (by kernel_rfl) (fun _ _ _ h => h) (fun _ => rfl) (Or.inl ⟨by rfl, ?_⟩) (by assumption) ?_
            rotate_left
            · (intro w hSw; (try dsimp only at hSw); go_simp; try with_reducible rfl)
            try simp only [Act.put, List.setIfInBounds_toArray, List.set_cons_zero, List.set_cons_succ]
            refine wpAnyHIn_take (i := 8) (oi := ⟨some 107, _, _, _, _, _⟩) (v := ?_) rfl (by kernel_rfl) (by kernel_rfl) (by kernel_rfl) (by kernel_rfl) (fun _ _ _ h => h) (fun _ => rfl) (Or.inl ⟨by rfl, ?_⟩) (by assumption) ?_
            rotate_left
            · (intro w hSw; (try dsimp only at hSw); go_simp; try with_reducible rfl)
            try simp only [Act.put, List.setIfInBounds_toArray, List.set_cons_zero, List.set_cons_succ]
            refine wpAnyHIn_take (i := 9) (oi := ⟨some 108, _, _, _, _, _⟩) (v := ?_) rfl (by kernel_rfl) (by kernel_rfl) (by kernel_rfl) (by kernel_rfl) (fun _ _ _ h => h) (fun _ => rfl) (Or.inl ⟨by rfl, ?_⟩) (by assumption) ?_
            rotate_left
            · (intro w hSw; (try dsimp only at hSw); go_simp; try with_reducible rfl)
            try simp only [Act.put, List.setIfInBounds_toArray, List.set_cons_zero, List.set_cons_succ]
            refine wpAnyHIn_take (i := 10) (oi := ⟨some 109, _, _, _, _, _⟩) (v := ?_) rfl (by kernel_rfl) (by kernel_rfl) (by kernel_rfl) (by kernel_rfl) (fun _ _ _ h => h) (fun _ => rfl) (Or.inl ⟨by rfl, ?_⟩) (by assumption) ?_
            rotate_left
            · (intro w hSw; (try dsimp only at hSw); go_simp; try with_reducible rfl)
            try simp only [Act.put, List.setIfInBounds_toArray, List.set_cons_zero, List.set_cons_succ]
            refine wpAnyHIn_take (i := 11) (oi := ⟨some 110, _, _, _, _, _⟩) (v := ?_) rfl (by kernel_rfl) (by kernel_rfl) (by kernel_rfl) (by kernel_rfl) (fun _ _ _ h => h) (fun _ => rfl) (Or.inl ⟨by rfl, ?_⟩) (by assumption) ?_
            rotate_left
            · (intro w hSw; (try dsimp only at hSw); go_simp; try with_reducible rfl)
            try simp only [Act.put, List.setIfInBounds_toArray, List.set_cons_zero, List.set_cons_succ]
            refine wpAnyHIn_take (i := 12) (oi := ⟨some 111, _, _, _, _, _⟩) (v := ?_) rfl (by kernel_rfl) (by kernel_rfl) (by kernel_rfl) (by kernel_rfl) (fun _ _ _ h => h) (fun _ => rfl) (Or.inl ⟨by rfl, ?_⟩) (by assumption) ?_
            rotate_left
            · (intro w hSw; (try dsimp only at hSw); go_simp; try with_reducible rfl)
            try simp only [Act.put, List.setIfInBounds_toArray, List.set_cons_zero, List.set_cons_succ]
            refine wpAnyHIn_next (i := 13) (by kernel_rfl) rfl (by rfl) (fun K hK => ?_)
            go_simp
            refine ⟨trivial, (callsIn_wide.2 hSm).mono ?_⟩
            rintro e' A2 ⟨rfl, g2⟩
            have hc2 : ∀ {p : Addr} {u : Value}, A.drew.cell? p = some u → A2.cell? p = some u := fun h => g2.cell h (by simp)
            refine hK.out _ _ ⟨hc2 hS0.1, hc2 hS0.2.1, hc2 hS0.2.2.1, hc2 hS0.2.2.2.1, hc2 hS0.2.2.2.2.1, hc2 hS0.2.2.2.2.2.1, hc2 hS0.2.2.2.2.2.2.1, hc2 hS0.2.2.2.2.2.2.2⟩ (fun hS1 => ?_)
            clear hK
            refine wpAnyHIn_take (i := 14) (oi := ⟨some 113, _, _, _, _, _⟩) (v := ?_) rfl (by kernel_rfl) (by kernel_rfl) (by kernel_rfl) (by kernel_rfl) (fun _ _ _ h => h) (fun _ => rfl) (Or.inl ⟨by rfl, ?_⟩) (by assumption) ?_
            rotate_left
            · (intro w hSw; (try dsimp only at hSw); go_simp; try with_reducible rfl)
            try simp only [Act.put, List.setIfInBounds_toArray, List.set_cons_zero, List.set_cons_succ]
            refine wpAnyHIn_take (i := 15) (oi := ⟨some 114, _, _, _, _, _⟩) (v := ?_) rfl (by kernel_rfl) (by kernel_rfl) (by kernel_rfl) (by kernel_rfl) (fun _ _ _ h => h) (fun _ => rfl) (Or.inl ⟨by rfl, ?_⟩) (by assumption) ?_
            rotate_left
            · (intro w hSw; (try dsimp only at hSw); go_simp; try with_reducible rfl)
            try simp only [Act.put, List.setIfInBounds_toArray, List.set_cons_zero, List.set_cons_succ]
            refine wpAnyHIn_done (by kernel_rfl) ?_ _
            refine noPanicT ?_
            obtain ⟨i1, i2, i3, hk, gd⟩ := BB.out
            have bk2 := i2.new (gd.trans g2)
            have k2 := bk2.c0
            have f2 := bk2.free 0
            have bk3 := bk2.set (.int .i64 ((k : Int) + 1))
            have gst : A2.grownBy (A2.setCell ⟨nb, 0, none⟩ (.int .i64 ((k : Int) + 1))) (some nb) := gset (World.grownBy.refl A2 (some nb)) 0 _
            have F : Hid (ZK Z' A (A2.setCell ⟨nb, 0, none⟩ (.int .i64 ((k : Int) + 1))) ∧ ¬ Z' nb ∧ Box (A2.setCell ⟨nb, 0, none⟩ (.int .i64 ((k : Int) + 1))) nb 3 (.int .i64 (((pre ++ [(⟨xi, xa, nc, xb, nel⟩ : Tl)]).length : Nat) : Int)) ∧ X4.grownBy (A2.setCell ⟨nb, 0, none⟩ (.int .i64 ((k : Int) + 1))) (some nb)) := Lib.hid (by
              refine ⟨(ZK.of (gd.trans g2) (by simp)).trans (ZK.of gst (fun q e => by cases e; exact i1)), i1, ?_, (i3.trans (gbut' (gd.trans g2))).trans gst⟩
              have : (((pre ++ [(⟨xi, xa, nc, xb, nel⟩ : Tl)]).length : Nat) : Int) = (k : Int) + 1 := by rw [List.length_append, ← hk]; simp
              rw [this]
              exact bk3)
            clear hS0 hS1 hS0' i1 i2 i3 hk gd bk2 bk3 gst g2 hSm BB hc2
            gi_wp2_with fail
            exact F.out
          case stop4 =>
            rintro D c7 Z' pre' A B hD hZD hz' hzl' _ h
            exact h.elim
          case done4 =>
            rintro D4 Z' xs A B2 hD4 hZD hz' hzl' hxs ⟨i1, i2, i3⟩ hg hM4
            obtain ⟨gB, bL, bR, bP, bO, bk4, bW4, m1, m2, m3⟩ := ST2.out B2 i3
            have hxl : xs.length = m := by
              have := congrArg List.length (show xs.map (fun y : Tl => (y.i : Int)) = UU from hxs)
              rw [List.length_map, hUUl.out.1] at this
              exact this
            rw [hxl] at i2
            have c1 := bk4.c0
            have c2 := bW4.c0
            have c3 := i2.c0
            have c4 := bP.c0
            have r0 := bR.c0
            have f0 := bR.free 0
            have hBr := bR.set (.bool true)
            have hbr := (finish.out _ gB).setCell (p := ⟨W.heap.size + 1, 0, none⟩) (by show W.heap.size ≤ W.heap.size + 1; omega) (.bool true)
            have hsz4 := B7.out
            have hoth : ∀ k, k ≠ W.heap.size + 1 → (B2.setCell ⟨W.heap.size + 1, 0, none⟩ (.bool true)).heap[k]? = B2.heap[k]? := fun k hk => Below.heap_setCell _ _ _ _ (fun e => hk (by simpa using e))
            have MF : Hid (Marked [D4, D3, D2, D1] (B2.setCell ⟨W.heap.size + 1, 0, none⟩ (.bool true)) ∧ Box (B2.setCell ⟨W.heap.size + 1, 0, none⟩ (.bool true)) (W.heap.size + 1) 4 (.bool true) ∧ Below W.heap.size W (B2.setCell ⟨W.heap.size + 1, 0, none⟩ (.bool true)) ∧ ∀ D ∈ [D4, D3, D2, D1], W.heap.size + 1 < D) := Lib.hid (by
              obtain ⟨q1, q2, q3, q4, q5, q6⟩ := hsz4
              have hd1 : W.heap.size + 1 < D1 := by have := hWL; have := DD.out; omega
              refine ⟨⟨by simp; omega, fun D hD => ?_⟩, hBr, hbr, fun D hD => ?_⟩
              · simp at hD
                rcases hD with rfl | rfl | rfl | rfl
                · exact (hoth _ (by omega)).trans hM4
                · exact (hoth _ (by omega)).trans m3
                · exact (hoth _ (by omega)).trans m2
                · exact (hoth _ (by omega)).trans m1
              · simp at hD
                rcases hD with rfl | rfl | rfl | rfl <;> omega)
            clear gB bL bR bP bO bk4 bW4 m1 m2 m3 i1 i2 i3 hM4 hBr hbr hsz4 hoth hxl hD4 hZD hz' hzl' hxs hg
            dsimp only
            gi_wp2_with fail
            obtain ⟨f1, f2, f3, f4⟩ := MF.out
            generalize B2.setCell ⟨W.heap.size + 1, 0, none⟩ (.bool true) = B3 at f1 f2 f3 ⊢
            refine leaves_with (fun w => Box w (W.heap.size + 1) 4 (.bool true) ∧ Below W.heap.size W w) [D4, D3, D2, D1] B3 f1 ⟨f2, f3⟩
              (fun D hD w h hb => ⟨(World.putObj_heap_other (Nat.ne_of_lt (f4 D hD))).trans h.1, h.2.trans (gbelow (grownBy_putObj' w D _) h.2.size (by have := f4 D hD; simp; omega))⟩)
              (fun w' h => ⟨.bool true, ?_, rfl, h.2⟩)
            have hc := h.1.c0
            simp [results, Try.results5, go_sem, hc]
    · have hzb : (ne == 0) = false := by simpa using hz
      obtain ⟨q1, q2⟩ := early.out w3 gw3 eR3
      clear hnw
      gi_wp2_with fail
      generalize w3.setCell ⟨W.heap.size + 1, 0, none⟩ (.bool true) = W11 at q1 q2 ⊢
      simp [bodyPostM, LeavesInM, LeavesIn, results, Try.results5, go_sem, q1]
      exact q2

theorem TrieEach_walk (W : World) (v : Value) (L : List Ent) (h : EntsR (fun k => k < W.heap.size) W v L) (vc : Value) (l : List Int) (hl : SR (fun k => k < W.heap.size) 1 W vc l.length (rc l)) :
    Calls Try.prog 5 #[v, vc] W fun e W' => e = .returned (.bool true) ∧ Below W.heap.size W W' := callsIn_wide.1 (each_law W v L h vc l hl)
end Go.Proofs.Ytlnplompnabmlaa

/-
  LAYER 9 (trie): ARGUMENTS OF A LAW, OPENED: slices of entries, of code points that came in.
-/
namespace Go.Proofs.Ytlnplompnabmlaa
set_option maxRecDepth 100000
open Go.ChangeShapes Go.WideShapes Go.ChangeAt Go.RowKit

/-- A slice whose elements' cells are known one by one. -/
theorem sr_of_cells {w : World} {k : Nat} {a : Addr} {n c : Nat} {cs : List Value} (hk : 0 < k) (hl : cs.length = n * k) (hc : n ≤ c) (hm : c ≤ maxLen) (h : ∀ i j, i < n → j < k → ∃ u, cs[i * k + j]? = some u ∧ w.cell? ((a.add (i * k)).add j) = some u) :
    SR (fun b => b < w.heap.size) k w (.slice (some a) n c) n cs := by
  refine ⟨hl, some a, c, rfl, hc, hm, (fun e => by cases e), fun hn => ?_⟩
  obtain ⟨u0, _, h0⟩ := h 0 0 (by omega) hk
  have hsp := World.cell?_spot h0
  obtain ⟨b, off, sp⟩ := a
  have hs : sp = none := by
    unfold Addr.add at hsp
    split at hsp <;> simp_all
  subst hs
  have e : ∀ o i, (⟨b, o, none⟩ : Addr).add i = ⟨b, o + i, none⟩ := fun o i => by unfold Addr.add; split <;> simp_all
  rw [e, e] at h0
  have hb := World.block_lt_of_cell? w _ h0
  refine ⟨b, off, rfl, hb, hb, fun m u hu => ?_⟩
  have hml : m < n * k := by rw [← hl]; exact (List.getElem?_eq_some_iff.1 hu).1
  have hd : m / k < n := Nat.div_lt_of_lt_mul (by rw [Nat.mul_comm]; exact hml)
  obtain ⟨v, h1, h2⟩ := h (m / k) (m % k) hd (Nat.mod_lt _ hk)
  have he : m / k * k + m % k = m := by rw [Nat.mul_comm]; exact Nat.div_add_mod m k
  rw [he, hu] at h1
  cases h1
  rw [e, e, Nat.add_assoc, he] at h2
  exact h2
theorem choose_list {α : Type} {n : Nat} {p : Nat → α → Prop} (h : ∀ i, i < n → ∃ x, p i x) : ∃ l : List α, l.length = n ∧ ∀ i x, l[i]? = some x → p i x := by
  induction n with
  | zero => exact ⟨[], rfl, fun i x h => by simp at h⟩
  | succ n ih =>
    obtain ⟨l, h1, h2⟩ := ih (fun i hi => h i (by omega))
    obtain ⟨x, hx⟩ := h n (by omega)
    refine ⟨l ++ [x], by simp [h1], fun i y hy => ?_⟩
    by_cases hi : i < n
    · rw [List.getElem?_append_left (by omega)] at hy
      exact h2 i y hy
    · have hin : i = n := by
        have := (List.getElem?_eq_some_iff.1 hy).1
        simp at this
        omega
      subst hin
      rw [List.getElem?_append_right (by omega), h1] at hy
      simp at hy
      subst hy
      exact hx

section
variable {H : Type} {enc : TypeId × Value → H} {W : World} {base : Nat} {sp : Nat → Bool} {held : Bool} {fuel : Nat} {cs : List Value} {x : DataW H × List MemPlace}
theorem rc_open (h : DataW.trod enc Try.prog W base sp held fuel 32 cs = some x) : ∃ v l, cs = [v] ∧ SR (fun b => b < W.heap.size) 1 W v l.length (rc l) := by
  rcases Deep.open_slice Try.underlying32 h with ⟨h0, _⟩ | ⟨a, len, cap, m, n, D, Pl, rfl, hb, hl, hm, hmm, rfl, hx⟩
  · exact ⟨_, [], h0, SR.nil _ _ _⟩
  have hlm : len ≤ m := by rw [hmm]; split <;> omega
  obtain ⟨l, hll, hl2⟩ := choose_list (α := Int) (n := len) (p := fun i z => W.cell? ((a.add (i * 1)).add 0) = some (.int .i32 z)) (fun i hi => by
    obtain ⟨cs', h1, h2⟩ := hx i (by omega)
    have ce : Try.prog.cellsOf 21 = 1 := by kernel_rfl
    rw [ce] at h1
    obtain ⟨_, hlen, hcell⟩ := World.cells?_some h1
    obtain ⟨z, e1, _, _⟩ := DataW.trod_int Try.underlying21 h2
    have h3 := hcell 0 (by omega)
    subst e1
    exact ⟨z, by simpa using h3⟩)
  subst hll
  refine ⟨_, l, rfl, sr_of_cells (by omega) (by rw [rc_len]; omega) hl hm (fun i j hi hj => ?_)⟩
  obtain rfl : j = 0 := by omega
  refine ⟨.int .i32 l[i], by simp [rc, hi], hl2 i _ (List.getElem?_eq_getElem hi)⟩
theorem ec_open (h : DataW.trod enc Try.prog W base sp held fuel 33 cs = some x) : ∃ v l, cs = [v] ∧ SR (fun b => b < W.heap.size) 4 W v l.length (ec l) := by
  rcases Deep.open_slice Try.underlying33 h with ⟨h0, _⟩ | ⟨a, len, cap, m, n, D, Pl, rfl, hb, hl, hm, hmm, rfl, hx⟩
  · exact ⟨_, [], h0, SR.nil _ _ _⟩
  have hlm : len ≤ m := by rw [hmm]; split <;> omega
  obtain ⟨l, hll, hl2⟩ := choose_list (α := El) (n := len) (p := fun i z => W.cell? ((a.add (i * 4)).add 0) = some (.int .i64 z.p) ∧ W.cell? ((a.add (i * 4)).add 1) = some (.int .i64 z.s) ∧ W.cell? ((a.add (i * 4)).add 2) = some (.int .i64 z.t) ∧ W.cell? ((a.add (i * 4)).add 3) = some (.bool z.v)) (fun i hi => by
    obtain ⟨cs', h1, h2⟩ := hx i (by omega)
    have ce : Try.prog.cellsOf 66 = 4 := by kernel_rfl
    rw [ce] at h1
    obtain ⟨_, hlen, hcell⟩ := World.cells?_some h1
    obtain ⟨xs, k, hk, hxy, _, hxl, hf⟩ := DataW.trod_struct Try.underlying66 h2
    have hci : Try.prog.cellsOf 3 = 1 := by kernel_rfl
    have hcb : Try.prog.cellsOf 4 = 1 := by kernel_rfl
    match xs, hxl, cs', hlen with
    | [y0, y1, y2, y3], _, [v0, v1, v2, v3], _ =>
      have g0 := hf 0 _ rfl
      have g1 := hf 1 _ rfl
      have g2 := hf 2 _ rfl
      have g3 := hf 3 _ rfl
      simp [hci, hcb] at g0 g1 g2 g3
      obtain ⟨n0, e0, _, _⟩ := DataW.trod_int Try.underlying3 g0
      obtain ⟨n1, e1, _, _⟩ := DataW.trod_int Try.underlying3 g1
      obtain ⟨n2, e2, _, _⟩ := DataW.trod_int Try.underlying3 g2
      obtain ⟨b3, e3, _⟩ := DataW.trod_bool Try.underlying4 g3
      simp at e0 e1 e2 e3
      subst e0 e1 e2 e3
      have c0 := hcell 0 (by omega)
      have c1 := hcell 1 (by omega)
      have c2 := hcell 2 (by omega)
      have c3 := hcell 3 (by omega)
      exact ⟨⟨n0, n1, n2, b3⟩, by simpa using c0, by simpa using c1, by simpa using c2, by simpa using c3⟩)
  subst hll
  refine ⟨_, l, rfl, sr_of_cells (by omega) (ec_len l) hl hm (fun i j hi hj => ?_)⟩
  obtain ⟨q0, q1, q2, q3⟩ := hl2 i _ (List.getElem?_eq_getElem hi)
  obtain ⟨r0, r1, r2, r3⟩ := ec_at l i _ (List.getElem?_eq_getElem hi)
  match j, hj with
  | 0, _ => exact ⟨_, r0, q0⟩
  | 1, _ => exact ⟨_, r1, q1⟩
  | 2, _ => exact ⟨_, r2, q2⟩
  | 3, _ => exact ⟨_, r3, q3⟩
theorem ent_open (h : DataW.trod enc Try.prog W base sp held fuel 22 cs = some x) : ∃ v L, cs = [v] ∧ EntsR (fun b => b < W.heap.size) W v L := by
  rcases Deep.open_slice Try.underlying22 h with ⟨h0, _⟩ | ⟨a, len, cap, m, n, D, Pl, rfl, hb, hl, hm, hmm, rfl, hx⟩
  · exact ⟨_, [], h0, [], rfl, SR.nil _ _ _, fun i x p h => by simp at h⟩
  have hlm : len ≤ m := by rw [hmm]; split <;> omega
  obtain ⟨l, hll, hl2⟩ := choose_list (α := (Value × Value) × Ent) (n := len) (p := fun i z => W.cell? ((a.add (i * 2)).add 0) = some z.1.1 ∧ W.cell? ((a.add (i * 2)).add 1) = some z.1.2 ∧ EntR (fun b => b < W.heap.size) W z.1.1 z.1.2 z.2) (fun i hi => by
    obtain ⟨cs', h1, h2⟩ := hx i (by omega)
    have ce : Try.prog.cellsOf 35 = 2 := by kernel_rfl
    rw [ce] at h1
    obtain ⟨_, hlen, hcell⟩ := World.cells?_some h1
    obtain ⟨xs, k, hk, hxy, _, hxl, hf⟩ := DataW.trod_struct Try.underlying35 h2
    have hc0 : Try.prog.cellsOf 32 = 1 := by kernel_rfl
    have hc1 : Try.prog.cellsOf 33 = 1 := by kernel_rfl
    match xs, hxl, cs', hlen with
    | [y0, y1], _, [v0, v1], _ =>
      have g0 := hf 0 _ rfl
      have g1 := hf 1 _ rfl
      simp [hc0, hc1] at g0 g1
      obtain ⟨u0, l0, e0, s0⟩ := rc_open g0
      obtain ⟨u1, l1, e1, s1⟩ := ec_open g1
      simp at e0 e1
      subst e0 e1
      have c0 := hcell 0 (by omega)
      have c1 := hcell 1 (by omega)
      exact ⟨((v0, v1), ⟨l0, l1⟩), by simpa using c0, by simpa using c1, s0, s1⟩)
  subst hll
  refine ⟨_, l.map (·.2), rfl, l.map (·.1), by simp, ?_, ?_⟩
  · rw [List.length_map]
    refine sr_of_cells (by omega) (by rw [pc_len, List.length_map]) hl hm (fun i j hi hj => ?_)
    obtain ⟨q0, q1, _⟩ := hl2 i _ (List.getElem?_eq_getElem hi)
    obtain ⟨r0, r1⟩ := pc_at (l.map (·.1)) i l[i].1 (by simp [hi])
    match j, hj with
    | 0, _ => exact ⟨_, r0, q0⟩
    | 1, _ => exact ⟨_, r1, q1⟩
  · intro i y p hy hp
    rw [List.getElem?_map] at hy hp
    obtain ⟨z, hz, rfl⟩ := Option.map_eq_some_iff.1 hy
    rw [hz] at hp
    simp at hp
    subst hp
    exact (hl2 i z hz).2.2
end
theorem ents_arg {H : Type} {enc : TypeId × Value → H} {W : World} {sp : Nat → Bool} {v : Value} {d : DataW H} {ps : List MemPlace} (h : DataW.Trod enc Try.prog W 0 sp true 22 v d ps) (hv : ∃ a l c, v = .slice a l c) : ∃ L, EntsR (fun b => b < W.heap.size) W v L := by
  obtain ⟨fuel, hf⟩ := h
  obtain ⟨a, l, c, rfl⟩ := hv
  obtain ⟨v', L, e, hL⟩ := ent_open hf
  simp [Value.cells] at e
  subst e
  exact ⟨L, hL⟩
theorem codes_arg {H : Type} {enc : TypeId × Value → H} {W : World} {sp : Nat → Bool} {v : Value} {d : DataW H} {ps : List MemPlace} (h : DataW.Trod enc Try.prog W 0 sp true 32 v d ps) (hv : ∃ a l c, v = .slice a l c) : ∃ l, SR (fun b => b < W.heap.size) 1 W v l.length (rc l) := by
  obtain ⟨fuel, hf⟩ := h
  obtain ⟨a, l, c, rfl⟩ := hv
  obtain ⟨v', L, e, hL⟩ := rc_open hf
  simp [Value.cells] at e
  subst e
  exact ⟨L, hL⟩
end Go.Proofs.Ytlnplompnabmlaa
