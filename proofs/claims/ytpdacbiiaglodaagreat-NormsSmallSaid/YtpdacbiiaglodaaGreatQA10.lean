/-
  LAYER 5 (norms): classes may be.
-/
import Derived.Test.YtpdacbiiaglodaaGreatQA06
import Derived.LoopTactic
import Derived.Test.YtpdacbiiaglodaaGreatQA09
import Derived.WalkKit
import Derived.Test.YtpdacbiiaglodaaGreatQA01
namespace Go.Proofs.YtpdacbiiaglodaaGreat
set_option maxRecDepth 100000
open Go.RowKit Go.Lib

theorem scal_range {r : Int} (h : scal r = true) : 0 ≤ r ∧ r ≤ 1114111 := by
  simp only [scal, decide_eq_true_eq] at h
  omega

set_option maxHeartbeats 4000000 in
theorem classesMayBe_ok (vc vd : Value) (c : List Cls) (w : World) (hT : Tri .i64 w vc c) (hok : clsOk 0 c = true) :
    Calls Tryz.prog 123 #[datV vc vd] w fun e w' => e = .returned (.bool true) ∧ w.grownBy w' none := by
  obtain ⟨a, cap, rfl, h1, h2⟩ := hT.form
  unfold maxLen at h2
  have hTH := Lib.hid hT
  have hokH := Lib.hid hok
  have g0 := World.grownBy_alloc w (.cells #[.slice a c.length cap, vd] 33) none
  clear hT hok
  unfold datV
  go_enter Tryz.func123, Tryz.ntmps123
  go_wp2
  go_loopw [9, 3] (fun vi vl wr => ∃ (i : Nat) (L : Int), vi = .int .i64 (i : Int) ∧ vl = .int .i32 L ∧ i ≤ c.length ∧ Hid (clsOk L (c.drop i) = true) ∧ w.grownBy wr none) (fun vi _ _ => c.length - (RowKit.intOf vi).toNat)
  case atStart => exact ⟨0, 0, rfl, rfl, Nat.zero_le _, Lib.hid hokH.out, g0⟩
  case round =>
    obtain ⟨i, L, rfl, rfl, hi, hL, hg⟩ := hrel
    by_cases hlt : i < c.length
    · obtain ⟨x, hx⟩ : ∃ x, c[i] = x := ⟨_, rfl⟩
      obtain ⟨b, off, rfl, c1, c2, c3⟩ := (hTH.out.all hg).get hlt
      rw [hx] at c1 c2 c3
      have hLo := hL.out
      rw [List.drop_eq_getElem_cons hlt, hx, clsOk, Bool.and_eq_true] at hLo
      have hL2 := Lib.hid hLo.2
      have h3 := hLo.1
      simp only [clOk, Bool.and_eq_true, decide_eq_true_eq] at h3
      obtain ⟨⟨⟨⟨⟨s1, s2⟩, s3⟩, s4⟩, s5⟩, s6⟩ := h3
      have S1 := fun w => scal_utf.Scalar x.1 w
      have S2 := fun w => scal_utf.Scalar x.2.1 w
      have r1 := scal_range s1
      have r2 := scal_range s2
      rw [s1] at S1
      rw [s2] at S2
      clear hL hLo s1 s2 hx
      go_wp2_with (first
        | (go_at_call_of 68 (Value.int IntKind.i32 x.1); refine (S1 _).mono ?_; rintro e w' ⟨rfl, rfl⟩)
        | (go_at_call_of 68 (Value.int IntKind.i32 x.2.1); refine (S2 _).mono ?_; rintro e w' ⟨rfl, rfl⟩))
      exact ⟨⟨i + 1, x.2.1 + 1, by go_num, rfl, by omega, hL2, galloc hg _⟩, by simp [RowKit.intOf]; omega⟩
    · obtain rfl : i = c.length := by omega
      clear hL hlt
      go_wp2
      go_ret
      exact ⟨rfl, hg⟩
end Go.Proofs.YtpdacbiiaglodaaGreat

/-
  LAYER 5 (norms): decompositions may be.
-/
namespace Go.Proofs.YtpdacbiiaglodaaGreat
set_option maxRecDepth 100000
open Go.RowKit Go.Lib
attribute [local go_sem] Oper.semAt_some

set_option maxHeartbeats 8000000 in
theorem decsMayBe_in (vc vd : Value) (c : List Cls) (d : List Dec) (w : World) (hT : Dat w vc vd c d) (hok : clsOk 0 c = true) (hlen : c.length ≤ 4000) (hd : decsOk c d 0 d = true) :
    CallsIn Fence.wide 8 Tryz.prog 124 #[datV vc vd] w fun e w' => e = .returned (.bool true) ∧ w.grownBy w' none := by
  obtain ⟨hTc, hTd⟩ := hT
  obtain ⟨a, cp, rfl, hc, hm⟩ := hTd.form
  obtain ⟨ac, cc, rfl, _, _⟩ := hTc.form
  have hrise := decsOk_rise hd
  have hE := fun w => each_any (.slice ac c.length cc) (.slice a d.length cp) w ⟨_, _, _, rfl⟩
  have hS := fun w hr => steps_any (.slice ac c.length cc) (.slice a d.length cp) d w hr hrise
  have hvb : d ≠ [] → ∀ k, (Value.slice a d.length cp).ownBlock = some k → k < w.heap.size := fun hne k e => hTd.lt hne k e
  obtain ⟨W0, hW0⟩ : ∃ W0, W0 = (w.alloc (.cells #[.slice ac c.length cc, .slice a d.length cp] 33)).alloc (.cells #[.bool false] 4) := ⟨_, rfl⟩
  have hs0 : W0.heap.size = w.heap.size + 2 := by rw [hW0]; simp
  have hg0 : w.grownBy W0 none := by rw [hW0]; exact galloc (World.grownBy_alloc w _ none) _
  have hd0 : W0.heap[w.heap.size]? = some (.cells #[.slice ac c.length cc, .slice a d.length cp] 33) := by
    rw [hW0]
    exact ((World.grownBy_alloc (w.alloc (.cells #[.slice ac c.length cc, .slice a d.length cp] 33)) _ none).block w.heap.size (by simp) (by simp)).trans (World.alloc_heap_new w _)
  have hr0 : Boxed W0 (w.heap.size + 1) 4 (.bool false) := by
    rw [hW0]
    have := Boxed.new (w.alloc (.cells #[.slice ac c.length cc, .slice a d.length cp] 33)) 4 (.bool false)
    rwa [World.size_alloc] at this
  have hS0 := hS W0 (hTd.all hg0)
  replace hW0 := Lib.hid hW0
  unfold datV at hE hS0 ⊢
  refine callsIn_of_wp_marks Tryz.func124 rfl trivial ?_ rfl
  simp only [Tryz.ntmps124, List.size_toArray, List.length_cons, List.length_nil, Nat.reduceAdd, Nat.reduceSub, Array.replicate_succ, Array.replicate_zero, List.push_toArray, List.append_toArray, List.nil_append, List.cons_append]
  have dcell : ∀ W, W0.grownBy W none → W.heap[w.heap.size]? = some (.cells #[.slice ac c.length cc, .slice a d.length cp] 33) := fun W hg => (hg.block w.heap.size (by omega) (by simp)).trans hd0
  gi_wp2_with (first
    | (refine ⟨trivial, ?_⟩; rw [← hW0.out]; gi_at_call 89; refine (callsIn_wide.2 hS0).mono ?_; rintro e w1 ⟨m, rfl, hm1, hEn, hg1⟩; have k := dcell _ hg1; have k0 : w1.cell? ⟨w.heap.size, 0, none⟩ = some (.slice ac c.length cc) := by { simp [World.cell?, k] }; have k1 : w1.cell? ⟨w.heap.size, 1, none⟩ = some (.slice a d.length cp) := by { simp [World.cell?, k] }; have hlt1 : w.heap.size < w1.heap.size := by { have := hg1.size; omega }; have hlt2 : w.heap.size < w1.heap.size + 1 := by { omega })
    | (refine ⟨trivial, ?_⟩; gi_at_call 56; refine (callsIn_wide.2 (hE _)).mono ?_; rintro e w3 ⟨p, rfl, hp, hb, hg3⟩))
  obtain ⟨W2, hW2⟩ : ∃ W2, W2 = (w1.alloc (.cells #[.map (some m)] 148)).alloc (.cells #[.int .i32 0] 21) := ⟨_, rfl⟩
  rw [← hW2] at hp hg3
  have hg2 : w1.grownBy W2 none := by rw [hW2]; exact galloc (World.grownBy_alloc w1 _ none) _
  have hs2 : W2.heap.size = w1.heap.size + 2 := by rw [hW2]; simp
  have hb2 : Boxed W2 w1.heap.size 148 (.map (some m)) := by rw [hW2]; exact (Boxed.new w1 _ _).alloc _
  have hl2 : Boxed W2 (w1.heap.size + 1) 21 (.int .i32 0) := by
    rw [hW2]
    have := Boxed.new (w1.alloc (.cells #[.map (some m)] 148)) 21 (.int .i32 0)
    rwa [World.size_alloc] at this
  clear hW2 k k0 k1 hlt2
  have hs3 := hg3.size
  have hpl := hb.lt
  have hml := hEn.lt
  have hTd3 := ((hTd.all hg0).all hg1).all (hg2.trans hg3)
  have hTell := dvals1_tells 4 p w3.heap.size (w1.heap.size + 1) _ d w3 hb hTd3 (by omega) (fun hne k e => by have := hvb hne k e; omega)
  have hg13 : W0.grownBy w3 none := hg1.trans (hg2.trans hg3)
  refine range_tells4 (a := _) (w := w3) (α := Dec) rfl (by omega) (gf := 133) (lb := #[.pointer (some ⟨p, 0, none⟩)]) rfl trivial (enters_of Tryz.func133 (by kernel_rfl) rfl)
    hTell (by simp) (fun _ => rfl) (fun _ _ _ _ _ _ h _ _ _ => h)
    (fun pre W => Hid (pre = d.take pre.length) ∧ Ents W m (ents d) ∧ Boxed W w1.heap.size 148 (.map (some m)) ∧ (∃ L, Boxed W (w1.heap.size + 1) 21 (.int .i32 L) ∧ Hid (decsOk c d L (d.drop pre.length) = true)) ∧ W0.grownBy W none ∧ w3.heap.size ≤ W.heap.size) (fun _ _ _ => False)
    ?hI (fun _ _ _ _ _ h _ _ => h.elim) ⟨Lib.hid rfl, (hEn.kept hg2 (by simp)).kept hg3 (by simp), hb2.kept hg3 (by simp), ⟨0, hl2.kept hg3 (by simp), Lib.hid hd⟩, hg13, Nat.le_refl _⟩
    (fun x a' W => ∃ q, D3 W q x ∧ a' = { tmps := #[.agg #[.slice ac c.length cc, .slice a d.length cp], .pointer (some ⟨w.heap.size, 0, none⟩), .pointer (some ⟨w.heap.size + 1, 0, none⟩), .pointer (some ⟨w1.heap.size, 0, none⟩), .pointer (some ⟨w1.heap.size + 1, 0, none⟩), .pointer (some ⟨q, 0, none⟩), .agg #[.slice ac c.length cc, .slice a d.length cp], .map (some m), .agg #[.slice ac c.length cc, .slice a d.length cp], .func (.func 133) #[] #[.pointer (some ⟨p, 0, none⟩)], dAgg x, undef, undef, undef, undef, undef, undef, undef, undef, undef, undef, undef, undef, undef, undef, undef, undef, undef, undef, undef, undef, undef, undef, undef, undef, undef], defers := [] })
    (fun _ _ _ _ h _ => h) ?hAx ?assign ?body ?done ?stop
  case hI =>
    rintro pre A B k ⟨h0, h1, h2, ⟨L, h3, h4⟩, h5, h6⟩ hg' hk
    have hk2 : ∀ q, k = some q → w3.heap.size ≤ q := by
      rintro q rfl
      rcases hk with hk | ⟨q', hk, hq, _⟩
      · cases hk
      · cases hk; exact hq
    exact ⟨h0, h1.kept hg' (fun e => by have := hk2 _ e; omega), h2.kept hg' (fun e => by have := hk2 _ e.symm; omega), ⟨L, h3.kept hg' (fun e => by have := hk2 _ e.symm; omega), h4⟩, gnew h5 hg' (fun q e => .inl (by have := hk2 _ e; have := hg13.size; omega)), Nat.le_trans h6 hg'.size⟩
  case hAx =>
    rintro x a' A B k o ⟨q, hc', rfl⟩ hg' hk ho
    refine ⟨q, hc'.kept hg' (fun e => ?_), rfl⟩
    cases e
    cases (hk.symm.trans hc')
    cases ho
  case assign =>
    intro l x W K hK
    unfold dEnc dAgg
    gi_wp2_with fail
    refine hK _ _ (World.grownBy_alloc W _ none) ⟨W.heap.size, D3.new W x, ?_⟩
    rfl
  case body =>
    rintro l2 pre x a' W ⟨h0, h1, h2, ⟨L, h3, h4⟩, h5, h6⟩ hget ⟨q, hx, rfl⟩ hsz
    have hnx := Lib.hid (take_next h0.out hget)
    obtain ⟨hlt, hxx⟩ := List.getElem?_eq_some_iff.1 hget
    have h4o := h4.out
    rw [List.drop_eq_getElem_cons hlt, hxx, decsOk, Bool.and_eq_true] at h4o
    have hL2 : Hid (decsOk c d (x.1 + 1) (d.drop (pre ++ [x]).length) = true) := Lib.hid (by rw [List.length_append]; exact h4o.2)
    have hdo := h4o.1
    simp only [decOk, Bool.and_eq_true, decide_eq_true_eq] at hdo
    obtain ⟨⟨⟨d1, d2⟩, d3, d4⟩, d5⟩ := hdo
    have hx1 : 0 ≤ x.1 ∧ x.1 ≤ 1114111 := by
      simp only [codesOk, Bool.and_eq_true] at d2
      exact scal_range d2.1.1.1.1.1.1
    have C1 := fun w => codesMayBe_ok x w d2
    have C2 := fun V (hg : W.grownBy V none) => mayBe_ok m d x V (h1.kept hg (by simp)) d3 d4
    have C3 := fun V (hg : W.grownBy V none) => beginsWell_ok m (.slice ac c.length cc) (.slice a d.length cp) c d x V (((hTc.all hg0).all h5).all hg) ⟨_, _, _, rfl⟩ hok hlen (h1.kept hg (by simp)) d4 d5
    unfold dAgg at C1 C2
    unfold datV dAgg at C3
    have cf : ∀ V, W.grownBy V none → (V.cell? ⟨w.heap.size, 0, none⟩ = some (.slice ac c.length cc) ∧ V.cell? ⟨w.heap.size, 1, none⟩ = some (.slice a d.length cp)) ∧ V.cell? ⟨w1.heap.size, 0, none⟩ = some (.map (some m)) ∧ (V.cell? ⟨w1.heap.size + 1, 0, none⟩ = some (.int .i32 L) ∧ V.frozen? ⟨w1.heap.size + 1, 0, none⟩ = false) ∧ V.cell? ⟨q, 0, none⟩ = some (.int .i32 x.1) ∧ V.cell? ⟨q, 1, none⟩ = some (.int .i32 x.2.1) ∧ V.cell? ⟨q, 2, none⟩ = some (.int .i32 x.2.2) := by
      intro V hg
      have k := dcell _ (h5.trans hg)
      have kx := hx.kept hg (by simp)
      exact ⟨⟨by simp [World.cell?, k], by simp [World.cell?, k]⟩, (h2.kept hg (by simp)).cell, ⟨(h3.kept hg (by simp)).cell, (h3.kept hg (by simp)).frozen⟩, kx.c0, kx.c1, kx.c2⟩
    obtain ⟨⟨a0, a1⟩, a2, ⟨a3, a4⟩, a5, a6, a7⟩ := cf W (World.grownBy.refl W none)
    clear hTell hTc hTd hTd3 hvb hb2 hl2 hb hE hS hS0 h4o hd
    gi_wp2_with (first
      | (refine ⟨trivial, ?_⟩; gi_at_call 153; refine (callsIn_wide.2 (C1 _)).mono ?_; rintro e V1 ⟨rfl, v1⟩; obtain ⟨⟨a0, a1⟩, a2, ⟨a3, a4⟩, a5, a6, a7⟩ := cf V1 v1)
      | (refine ⟨trivial, ?_⟩; gi_at_call 154; refine (callsIn_wide.2 (C2 _ v1)).mono ?_; rintro e V2 ⟨rfl, v2⟩; replace v2 := v1.trans v2; obtain ⟨⟨a0, a1⟩, a2, ⟨a3, a4⟩, a5, a6, a7⟩ := cf V2 v2)
      | (refine ⟨trivial, ?_⟩; gi_at_call 155; refine (callsIn_wide.2 (C3 _ v2)).mono ?_; rintro e V3 ⟨rfl, v3⟩; replace v3 := v2.trans v3; obtain ⟨⟨a0, a1⟩, a2, ⟨a3, a4⟩, a5, a6, a7⟩ := cf V3 v3))
    have gs := gset (gbut v3 (some (w1.heap.size + 1))) 0 (.int .i32 (x.1 + 1))
    exact ⟨KeepsFrom.of_grownBy gs (fun j e => by cases e; omega), KeptX.grown gs hsz (.inl rfl), hnx, h1.kept gs (by simp; omega), h2.kept gs (by simp), ⟨x.1 + 1, (h3.kept v3 (by simp)).set _, hL2⟩, gnew h5 gs (fun r e => by cases e; left; have := hg1.size; omega), Nat.le_trans h6 gs.size⟩
  case stop =>
    rintro D c' pre Wd W15 hD _ h _ _
    exact h.elim
  case done =>
    rintro D xs Wd W15 hD hS ⟨h0, h1, h2, ⟨L, h3, h4⟩, h5, h6⟩ hg' hM
    have r1 := (hr0.kept h5 (by simp)).cell
    have r2 := (hr0.kept h5 (by simp)).frozen
    have gs := grownBy_setCell' W15 (w.heap.size + 1) (.bool true)
    have hM2 : (W15.setCell ⟨w.heap.size + 1, 0, none⟩ (.bool true)).heap[D]? = some (.deferred (some [])) := (gs.block D (Array.getElem?_eq_some_iff.1 hM).1 (by simp; omega)).trans hM
    have hb2' := (hr0.kept h5 (by simp)).set (.bool true)
    have gp := grownBy_putObj' (W15.setCell ⟨w.heap.size + 1, 0, none⟩ (.bool true)) D (.deferred none)
    have hb3' := (hb2'.kept gp (by simp; omega)).cell
    have hfin : w.grownBy ((W15.setCell ⟨w.heap.size + 1, 0, none⟩ (.bool true)).putObj D (.deferred none)) none :=
      gnew (gnew (hg0.trans h5) gs (fun r e => by cases e; left; omega)) gp (fun r e => by cases e; left; omega)
    clear gp gs hg' hTell hE hS0 hr0
    gi_wp2_with fail
    refine ⟨by simp, .inl ⟨_, _, rfl, run_takeDeferred hM2, ?_⟩⟩
    simp [LeavesInM, LeavesIn, results, Tryz.results124, go_sem, hb3']
    exact hfin
theorem decsMayBe_ok (vc vd : Value) (c : List Cls) (d : List Dec) (w : World) (hT : Dat w vc vd c d) (hok : clsOk 0 c = true) (hlen : c.length ≤ 4000) (hd : decsOk c d 0 d = true) :
    Calls Tryz.prog 124 #[datV vc vd] w fun e w' => e = .returned (.bool true) ∧ w.grownBy w' none := callsIn_wide.1 (decsMayBe_in vc vd c d w hT hok hlen hd)

theorem good_parts {c : List Cls} {d : List Dec} (h : good c d = true) : c.length ≤ 4000 ∧ d.length ≤ 8000 ∧ clsOk 0 c = true ∧ decsOk c d 0 d = true := by
  simp only [good, Bool.and_eq_true, decide_eq_true_eq] at h
  exact ⟨h.1.1.1, h.1.1.2, h.1.2, h.2⟩

set_option maxHeartbeats 1000000 in
theorem check_ok (vc vd : Value) (c : List Cls) (d : List Dec) (w : World) (hT : Dat w vc vd c d) (h : good c d = true) :
    Calls Tryz.prog 78 #[datV vc vd] w fun e w' => e = .returned (.int .i64 0) ∧ w.grownBy w' none := by
  obtain ⟨h1, h2, h3, h4⟩ := good_parts h
  obtain ⟨a, cp, rfl, hc, hm⟩ := hT.2.form
  obtain ⟨ac, cc, rfl, _, _⟩ := hT.1.form
  have g0 := World.grownBy_alloc w (.cells #[.slice ac c.length cc, .slice a d.length cp] 33) none
  have C1 := fun W (hg : w.grownBy W none) => classesMayBe_ok (.slice ac c.length cc) (.slice a d.length cp) c W (hT.1.all hg) h3
  have C2 := fun W (hg : w.grownBy W none) => decsMayBe_ok (.slice ac c.length cc) (.slice a d.length cp) c d W (hT.all hg) h3 h1 h4
  have cf : ∀ V, (w.alloc (.cells #[.slice ac c.length cc, .slice a d.length cp] 33)).grownBy V none → V.cell? ⟨w.heap.size, 0, none⟩ = some (.slice ac c.length cc) ∧ V.cell? ⟨w.heap.size, 1, none⟩ = some (.slice a d.length cp) := by
    intro V hg
    have k := (hg.block w.heap.size (by simp) (by simp)).trans (World.alloc_heap_new w _)
    exact ⟨by simp [World.cell?, k], by simp [World.cell?, k]⟩
  obtain ⟨a0, a1⟩ := cf _ (World.grownBy.refl _ none)
  clear h h3 h4 hT
  unfold datV at C1 C2 ⊢
  go_enter Tryz.func78, Tryz.ntmps78
  go_wp2_with (first
    | (go_at_call 123; refine (C1 _ g0).mono ?_; rintro e V1 ⟨rfl, v1⟩; obtain ⟨a0, a1⟩ := cf V1 v1; have gv1 := g0.trans v1)
    | (go_at_call 124; refine (C2 _ gv1).mono ?_; rintro e V2 ⟨rfl, v2⟩))
  go_ret
  exact ⟨rfl, gv1.trans v2⟩
end Go.Proofs.YtpdacbiiaglodaaGreat

/-
  LAYER 3 (crc): THE PLAIN MATHEMATICS: a sum's bit, its byte, the table's numbers; that the table's step is eight bits' steps; that steps are one to one. No program is named here.
-/
namespace Go.Proofs.YtpdacbiiaglodaaGreat
set_option maxRecDepth 100000

/-- One bit of CRC-32C, bits reflected. -/
def rnd (c : Nat) : Nat := if c % 2 = 1 then c / 2 ^^^ 0x82F63B78 else c / 2
def rnds : Nat → Nat → Nat
  | 0, c => c
  | k + 1, c => rnds k (rnd c)

theorem xor_cancel {a b c : Nat} (h : a ^^^ c = b ^^^ c) : a = b := by
  have := congrArg (· ^^^ c) h
  simpa [Nat.xor_assoc] using this
theorem xor_half (a b : Nat) : (a ^^^ b) / 2 = a / 2 ^^^ b / 2 := by
  apply Nat.eq_of_testBit_eq
  intro i
  simp [Nat.testBit_xor, Nat.testBit_div_two]
theorem xor_par (a b : Nat) : (a ^^^ b) % 2 = (a % 2 + b % 2) % 2 := by
  have h := Nat.testBit_xor a b 0
  simp only [Nat.testBit_zero] at h
  rcases Nat.mod_two_eq_zero_or_one a with ha | ha <;> rcases Nat.mod_two_eq_zero_or_one b with hb | hb <;> rcases Nat.mod_two_eq_zero_or_one (a ^^^ b) with hc | hc <;> simp [ha, hb, hc] at h ⊢

theorem rnd_xor (a b : Nat) : rnd (a ^^^ b) = rnd a ^^^ rnd b := by
  unfold rnd
  rw [xor_half]
  have h := xor_par a b
  rcases Nat.mod_two_eq_zero_or_one a with ha | ha <;> rcases Nat.mod_two_eq_zero_or_one b with hb | hb <;> simp only [ha, hb] at h ⊢ <;> simp [h]
  · rw [Nat.xor_assoc]
  · rw [Nat.xor_assoc, Nat.xor_comm (b / 2), Nat.xor_assoc]
  · rw [show a / 2 ^^^ 0x82F63B78 ^^^ (b / 2 ^^^ 0x82F63B78) = a / 2 ^^^ b / 2 ^^^ (0x82F63B78 ^^^ 0x82F63B78) by ac_rfl, Nat.xor_self, Nat.xor_zero]
theorem rnds_xor : ∀ (k a b : Nat), rnds k (a ^^^ b) = rnds k a ^^^ rnds k b
  | 0, _, _ => rfl
  | k + 1, a, b => by rw [rnds, rnds, rnds, rnd_xor]; exact rnds_xor k _ _
theorem rnds_add : ∀ (j k a : Nat), rnds (j + k) a = rnds k (rnds j a)
  | 0, k, a => by rw [Nat.zero_add]; rfl
  | j + 1, k, a => by rw [Nat.add_right_comm]; exact rnds_add j k _
theorem rnd_two (a : Nat) : rnd (2 * a) = a := by unfold rnd; rw [if_neg (by omega)]; omega
theorem rnds_pow : ∀ (k a : Nat), rnds k (2 ^ k * a) = a
  | 0, a => by simp [rnds]
  | k + 1, a => by rw [rnds, Nat.pow_succ', Nat.mul_assoc, rnd_two]; exact rnds_pow k a
theorem rnd_lt {c : Nat} (h : c < 4294967296) : rnd c < 4294967296 := by
  unfold rnd
  split
  · exact Nat.xor_lt_two_pow (n := 32) (by omega) (by decide)
  · omega
theorem rnds_lt : ∀ (k : Nat) {c : Nat}, c < 4294967296 → rnds k c < 4294967296
  | 0, _, h => h
  | k + 1, _, h => rnds_lt k (rnd_lt h)

/-- One byte more. -/
def byt (c x : Nat) : Nat := rnds 8 (c ^^^ x)
theorem byt_lt {c x : Nat} (h : c < 4294967296) (hx : x < 256) : byt c x < 4294967296 := rnds_lt 8 (Nat.xor_lt_two_pow (n := 32) h (by omega))

theorem split_low (n : Nat) : n = (256 * (n / 256)) ^^^ (n % 256) := by
  apply Nat.eq_of_testBit_eq
  intro i
  rw [Nat.testBit_xor, show (256 : Nat) = 2 ^ 8 from rfl, Nat.testBit_mod_two_pow, Nat.testBit_two_pow_mul, Nat.testBit_div_two_pow]
  by_cases h : 8 ≤ i
  · simp [h, show ¬ i < 8 by omega, show i - 8 + 8 = i by omega]
  · simp [h, show i < 8 by omega]
theorem xor_div256 (a b : Nat) (hb : b < 256) : (a ^^^ b) / 256 = a / 256 := by
  apply Nat.eq_of_testBit_eq
  intro i
  rw [show (256 : Nat) = 2 ^ 8 from rfl, Nat.testBit_div_two_pow, Nat.testBit_div_two_pow, Nat.testBit_xor, Nat.testBit_lt_two_pow (x := b) (i := i + 8) (Nat.lt_of_lt_of_le hb (by rw [show 256 = 2 ^ 8 from rfl]; exact Nat.pow_le_pow_right (by decide) (by omega)))]
  simp
theorem xor_mod256 (a b : Nat) (hb : b < 256) : (a ^^^ b) % 256 = a % 256 ^^^ b := by
  rw [show (256 : Nat) = 2 ^ 8 from rfl, Nat.xor_mod_two_pow, Nat.mod_eq_of_lt (a := b) (by simpa using hb)]
/-- The table's step is eight bits' steps. -/
theorem byt_table (c x : Nat) (hx : x < 256) : byt c x = c / 256 ^^^ rnds 8 (c % 256 ^^^ x) := by
  unfold byt
  rw [split_low (c ^^^ x), rnds_xor, show 256 = 2 ^ 8 from rfl, rnds_pow, ← show 256 = 2 ^ 8 from rfl, xor_div256 _ _ hx, xor_mod256 _ _ hx]

/-- Bytes more. -/
def bytes (c : Nat) (bs : List UInt8) : Nat := bs.foldl (fun c u => byt c u.toNat) c
theorem bytes_snoc (c : Nat) (bs : List UInt8) (u : UInt8) : bytes c (bs ++ [u]) = byt (bytes c bs) u.toNat := by simp [bytes]
theorem bytes_append (c : Nat) (a b : List UInt8) : bytes c (a ++ b) = bytes (bytes c a) b := by simp [bytes]
theorem bytes_lt : ∀ (bs : List UInt8) {c : Nat}, c < 4294967296 → bytes c bs < 4294967296
  | [], _, h => h
  | u :: bs, _, h => bytes_lt bs (byt_lt h u.toNat_lt)

def not32 (c : Nat) : Nat := 4294967295 - c
theorem not32_not32 {c : Nat} (h : c < 4294967296) : not32 (not32 c) = c := by unfold not32; omega
theorem not32_lt (c : Nat) : not32 c < 4294967296 := by unfold not32; omega
/-- Extend, Sum. -/
def ext (s : Nat) (bs : List UInt8) : Nat := not32 (bytes (not32 s) bs)
def sum (bs : List UInt8) : Nat := ext 0 bs
theorem ext_lt (s : Nat) (bs : List UInt8) : ext s bs < 4294967296 := not32_lt _
theorem ext_ext (s : Nat) (a b : List UInt8) : ext (ext s a) b = ext s (a ++ b) := by
  unfold ext
  rw [not32_not32 (bytes_lt a (not32_lt s)), bytes_append]

/-- Steps are one to one. -/
theorem rnd_inj {a b : Nat} (ha : a < 4294967296) (hb : b < 4294967296) (h : rnd a = rnd b) : a = b := by
  have top : ∀ c : Nat, c < 4294967296 → (rnd c).testBit 31 = decide (c % 2 = 1) := by
    intro c hc
    unfold rnd
    have h0 : (c / 2).testBit 31 = false := Nat.testBit_lt_two_pow (by rw [show (2 : Nat) ^ 31 = 2147483648 from rfl]; omega)
    split
    · rename_i h1
      rw [Nat.testBit_xor, h0, show Nat.testBit 0x82F63B78 31 = true by decide]
      simp [h1]
    · rename_i h1
      simp [h0, h1]
  have hp : decide (a % 2 = 1) = decide (b % 2 = 1) := by rw [← top a ha, ← top b hb, h]
  unfold rnd at h
  by_cases h1 : a % 2 = 1
  · have h2 : b % 2 = 1 := by simpa [h1] using hp
    rw [if_pos h1, if_pos h2] at h
    have := xor_cancel h
    omega
  · have h2 : ¬ b % 2 = 1 := by simpa [h1] using hp
    rw [if_neg h1, if_neg h2] at h
    omega
theorem rnds_inj : ∀ (k : Nat) {a b : Nat}, a < 4294967296 → b < 4294967296 → rnds k a = rnds k b → a = b
  | 0, _, _, _, _, h => h
  | k + 1, _, _, ha, hb, h => rnd_inj ha hb (rnds_inj k (rnd_lt ha) (rnd_lt hb) h)
theorem byt_inj {a b x : Nat} (ha : a < 4294967296) (hb : b < 4294967296) (hx : x < 256) (h : byt a x = byt b x) : a = b := by
  have := rnds_inj 8 (Nat.xor_lt_two_pow (n := 32) ha (by omega)) (Nat.xor_lt_two_pow (n := 32) hb (by omega)) h
  exact xor_cancel this
theorem bytes_inj : ∀ (bs : List UInt8) {a b : Nat}, a < 4294967296 → b < 4294967296 → bytes a bs = bytes b bs → a = b
  | [], _, _, _, _, h => h
  | u :: bs, _, _, ha, hb, h => byt_inj ha hb u.toNat_lt (bytes_inj bs (byt_lt ha u.toNat_lt) (byt_lt hb u.toNat_lt) h)

/-- Mask, Unmask. -/
def rotR (s : Nat) : Nat := s / 32768 + s % 32768 * 131072
def rotL (t : Nat) : Nat := t % 131072 * 32768 + t / 131072
theorem rotR_lt {s : Nat} (h : s < 4294967296) : rotR s < 4294967296 := by unfold rotR; omega
theorem rotL_lt {s : Nat} (h : s < 4294967296) : rotL s < 4294967296 := by unfold rotL; omega
theorem rotL_rotR {s : Nat} (h : s < 4294967296) : rotL (rotR s) = s := by unfold rotL rotR; omega
theorem rotR_rotL {s : Nat} (h : s < 4294967296) : rotR (rotL s) = s := by unfold rotL rotR; omega
theorem shl17 (s : Nat) : s * 131072 % 4294967296 = s % 32768 * 131072 := by omega
theorem shl15 (s : Nat) : s * 32768 % 4294967296 = s % 131072 * 32768 := by omega
def mask (s : Nat) : Nat := (rotR s + 0xA282EAD8) % 4294967296
def unmask (m : Nat) : Nat := rotL ((m + 4294967296 - 0xA282EAD8) % 4294967296)
theorem unmask_mask {s : Nat} (h : s < 4294967296) : unmask (mask s) = s := by
  have h1 := rotR_lt h
  unfold unmask mask
  rw [show ((rotR s + 0xA282EAD8) % 4294967296 + 4294967296 - 0xA282EAD8) % 4294967296 = rotR s by omega]
  exact rotL_rotR h
theorem mask_unmask {m : Nat} (h : m < 4294967296) : mask (unmask m) = m := by
  unfold unmask mask
  rw [rotR_rotL (by omega)]
  omega
theorem mask_lt (s : Nat) : mask s < 4294967296 := Nat.mod_lt _ (by decide)
theorem unmask_lt (m : Nat) : unmask m < 4294967296 := rotL_lt (Nat.mod_lt _ (by decide))
end Go.Proofs.YtpdacbiiaglodaaGreat

/-
  LAYER 3 (crc): the table: what its block holds; New; isMade.
-/
namespace Go.Proofs.YtpdacbiiaglodaaGreat
set_option maxRecDepth 100000
open Go.RowKit Go.Lib

/-- A table's block: made; the Once's done and lock; how often; the numbers. -/
def Tab (w : World) (t : Nat) (m : Bool) (d s k : Int) (f : Nat → Nat) : Prop :=
  ∃ cs : Array Value, w.heap[t]? = some (.cells cs 205 (0, 0)) ∧ cs.size = 261 ∧ cs[0]? = some (.bool m) ∧ cs[1]? = some (.int .u32 d) ∧ cs[2]? = some (.int .i32 s) ∧ cs[4]? = some (.int .i64 k) ∧
    ∀ i, i < 256 → cs[5 + i]? = some (.int .u32 (f i : Int))

section
variable {w w' : World} {t : Nat} {m : Bool} {d s k : Int} {f : Nat → Nat}
theorem Tab.made (h : Tab w t m d s k f) : w.cell? ⟨t, 0, none⟩ = some (.bool m) := by obtain ⟨cs, h1, h2, h3, h4, h5, h6, h7⟩ := h; simp [World.cell?, h1, h3]
theorem Tab.done (h : Tab w t m d s k f) : w.cell? ⟨t, 1, none⟩ = some (.int .u32 d) := by obtain ⟨cs, h1, h2, h3, h4, h5, h6, h7⟩ := h; simp [World.cell?, h1, h4]
theorem Tab.state (h : Tab w t m d s k f) : w.cell? ⟨t, 2, none⟩ = some (.int .i32 s) := by obtain ⟨cs, h1, h2, h3, h4, h5, h6, h7⟩ := h; simp [World.cell?, h1, h5]
theorem Tab.times (h : Tab w t m d s k f) : w.cell? ⟨t, 4, none⟩ = some (.int .i64 k) := by obtain ⟨cs, h1, h2, h3, h4, h5, h6, h7⟩ := h; simp [World.cell?, h1, h6]
theorem Tab.num (h : Tab w t m d s k f) {i : Nat} (hi : i < 256) : w.cell? ⟨t, 5 + i, none⟩ = some (.int .u32 (f i : Int)) := by obtain ⟨cs, h1, h2, h3, h4, h5, h6, h7⟩ := h; simp [World.cell?, h1, h7 i hi]
theorem Tab.free (h : Tab w t m d s k f) (o : Nat) : w.frozen? ⟨t, o, none⟩ = false := by obtain ⟨cs, h1, _⟩ := h; simp [World.frozen?, h1]
theorem Tab.lt (h : Tab w t m d s k f) : t < w.heap.size := by obtain ⟨cs, h1, _⟩ := h; exact lt_of_block h1
theorem Tab.setDone (h : Tab w t m d s k f) (x : Int) : Tab (w.setCell ⟨t, 1, none⟩ (.int .u32 x)) t m x s k f := by
  obtain ⟨cs, h1, h2, h3, h4, h5, h6, h7⟩ := h
  refine ⟨_, heap_setCell_same w t 1 _ _ _ h1, by simpa using h2, by simpa [Array.getElem?_setIfInBounds] using h3, by simp [h2], by simpa [Array.getElem?_setIfInBounds] using h5, by simpa [Array.getElem?_setIfInBounds] using h6, fun i hi => ?_⟩
  rw [Array.getElem?_setIfInBounds, if_neg (by omega)]; exact h7 i hi
theorem Tab.setState (h : Tab w t m d s k f) (x : Int) : Tab (w.setCell ⟨t, 2, none⟩ (.int .i32 x)) t m d x k f := by
  obtain ⟨cs, h1, h2, h3, h4, h5, h6, h7⟩ := h
  refine ⟨_, heap_setCell_same w t 2 _ _ _ h1, by simpa using h2, by simpa [Array.getElem?_setIfInBounds] using h3, by simpa [Array.getElem?_setIfInBounds] using h4, by simp [h2], by simpa [Array.getElem?_setIfInBounds] using h6, fun i hi => ?_⟩
  rw [Array.getElem?_setIfInBounds, if_neg (by omega)]; exact h7 i hi
theorem Tab.setTimes (h : Tab w t m d s k f) (x : Int) : Tab (w.setCell ⟨t, 4, none⟩ (.int .i64 x)) t m d s x f := by
  obtain ⟨cs, h1, h2, h3, h4, h5, h6, h7⟩ := h
  refine ⟨_, heap_setCell_same w t 4 _ _ _ h1, by simpa using h2, by simpa [Array.getElem?_setIfInBounds] using h3, by simpa [Array.getElem?_setIfInBounds] using h4, by simpa [Array.getElem?_setIfInBounds] using h5, by simp [h2], fun i hi => ?_⟩
  rw [Array.getElem?_setIfInBounds, if_neg (by omega)]; exact h7 i hi
theorem Tab.setNum (h : Tab w t m d s k f) {j : Nat} (hj : j < 256) (x : Nat) : Tab (w.setCell ⟨t, 5 + j, none⟩ (.int .u32 (x : Int))) t m d s k (fun i => if i = j then x else f i) := by
  obtain ⟨cs, h1, h2, h3, h4, h5, h6, h7⟩ := h
  refine ⟨_, heap_setCell_same w t (5 + j) _ _ _ h1, by simpa using h2, ?_, ?_, ?_, ?_, fun i hi => ?_⟩
  · rw [Array.getElem?_setIfInBounds, if_neg (by omega)]; exact h3
  · rw [Array.getElem?_setIfInBounds, if_neg (by omega)]; exact h4
  · rw [Array.getElem?_setIfInBounds, if_neg (by omega)]; exact h5
  · rw [Array.getElem?_setIfInBounds, if_neg (by omega)]; exact h6
  · rw [Array.getElem?_setIfInBounds]
    by_cases e : i = j
    · subst e; simp [h2]; omega
    · rw [if_neg (by omega)]; simpa [e] using h7 i hi
theorem Tab.kept {row : Option Nat} (h : Tab w t m d s k f) (hg : w.grownBy w' row) (hne : row ≠ some t) : Tab w' t m d s k f := by
  obtain ⟨cs, h1, h2⟩ := h
  exact ⟨cs, (hg.block t (lt_of_block h1) (fun e => hne e.symm)).trans h1, h2⟩
theorem Tab.new (h : Tab w t m d s k f) (hg : w.grownBy w' none) : Tab w' t m d s k f := h.kept hg (by simp)
theorem Tab.below {B : Nat} (h : Tab w t m d s k f) (hb : Below B w w') (hB : t < B) : Tab w' t m d s k f := by
  obtain ⟨cs, h1, h2⟩ := h
  exact ⟨cs, (hb.block t hB).trans h1, h2⟩
theorem Tab.same (h : Tab w t m d s k f) {g : Nat → Nat} (e : ∀ i, i < 256 → g i = f i) : Tab w t m d s k g := by
  obtain ⟨cs, h1, h2, h3, h4, h5, h6, h7⟩ := h
  exact ⟨cs, h1, h2, h3, h4, h5, h6, fun i hi => by rw [e i hi]; exact h7 i hi⟩
end

theorem zeroTab : (List.range 256).map (fun i => Tryz.zeroCells205[5 + i]?) = List.replicate 256 (some (.int .u32 0)) := by kernel_rfl
theorem zeroTab_head : (Tryz.zeroCells205.size, Tryz.zeroCells205[0]?, Tryz.zeroCells205[1]?, Tryz.zeroCells205[2]?, Tryz.zeroCells205[4]?) = (261, some (.bool false), some (.int .u32 0), some (.int .i32 0), some (.int .i64 0)) := by kernel_rfl
theorem zero_num {i : Nat} (hi : i < 256) : Tryz.zeroCells205[5 + i]? = some (.int .u32 0) := by
  have h := congrArg (fun l => l[i]?) zeroTab
  simp only [List.getElem?_map, List.getElem?_range hi, Option.map_some, List.getElem?_replicate, if_pos hi, Option.some.injEq] at h
  exact h
theorem tab_made (w : World) : Tab (w.alloc (.cells (Tryz.zeroCells205.setIfInBounds 0 (.bool true)) 205)) w.heap.size true 0 0 0 (fun _ => 0) := by
  have h := zeroTab_head
  simp only [Prod.mk.injEq] at h
  obtain ⟨h0, h1, h2, h3, h4⟩ := h
  refine ⟨_, heap_alloc_new w _, by simp [h0], by simp [h0], by simpa [Array.getElem?_setIfInBounds] using h2, by simpa [Array.getElem?_setIfInBounds] using h3, by simpa [Array.getElem?_setIfInBounds] using h4, fun i hi => ?_⟩
  rw [Array.getElem?_setIfInBounds, if_neg (by omega)]; exact zero_num hi

set_option maxHeartbeats 1000000 in
theorem crcNew_any (w : World) : Calls Tryz.prog 114 #[] w fun e w' => ∃ t, e = .returned (.pointer (some ⟨t, 0, none⟩)) ∧ w.heap.size ≤ t ∧ Tab w' t true 0 0 0 (fun _ => 0) ∧ w.grownBy w' none := by
  go_enter Tryz.func114, Tryz.ntmps114
  go_wp2
  go_ret
  exact ⟨_, rfl, Nat.le_refl _, tab_made w, galloc (World.grownBy.refl _ _) _⟩

set_option maxHeartbeats 1000000 in
theorem crcIsMade (t : Nat) (m : Bool) (w : World) (hm : w.cell? ⟨t, 0, none⟩ = some (.bool m)) : Calls Tryz.prog 170 #[.pointer (some ⟨t, 0, none⟩)] w fun e w' => e = .returned (.bool m) ∧ w = w' := by
  cases m
  · go_enter Tryz.func170, Tryz.ntmps170
    go_wp2
    go_ret
    exact ⟨rfl, rfl⟩
  · go_enter Tryz.func170, Tryz.ntmps170
    go_wp2
    go_ret
    exact ⟨rfl, rfl⟩
theorem crcIsMade_nil (w : World) : Calls Tryz.prog 170 #[.pointer none] w fun e w' => e = .returned (.bool false) ∧ w = w' := by
  go_enter Tryz.func170, Tryz.ntmps170
  go_wp2
  go_ret
  exact ⟨rfl, rfl⟩
end Go.Proofs.YtpdacbiiaglodaaGreat
