/-
  LAYER 5 (norms): decompositions may be.
-/
import Derived.Test.YtpdacbiiaglodaaGreatQE15
import Derived.Test.YtpdacbiiaglodaaGreatQE04
import Derived.Test.YtpdacbiiaglodaaGreatQE09
import Derived.Laws.BitsAllLaws
import Derived.Laws.LoneSync
import Derived.LoopTactic
import Derived.Lib.Hide
import Derived.Tactics
import Derived.Tactics2
import Derived.Defers
import Derived.Laws.Pointers
import Derived.RegionTactic
import Derived.RegionCalls
import Derived.ChangeAlike
namespace Go.Proofs.YtpdacbiiaglodaaGreat
set_option maxRecDepth 100000
open Go.RowKit Go.Lib
attribute [local go_sem] Oper.semAt_some

set_option maxHeartbeats 8000000 in
theorem decsMayBe_in (vc vd : Value) (c : List Cls) (d : List Dec) (w : World) (hT : Dat w vc vd c d) (hok : clsOk 0 c = true) (hlen : c.length ≤ 4000) (hd : decsOk c d 0 d = true) :
    CallsIn Fence.wide 8 Tryz.prog 124 #[datV vc vd] w fun e w' => e = .returned (.bool true) ∧ w.grownBy w' none := by
  obtain ⟨hTc, hTd⟩ := hT
  obtain ⟨a, cp, rfl, hc, hm⟩ := hTd.form
  obtain ⟨ac, cc, rfl, _, _⟩ := hTc.form
  have hrise := decsOk_rise hd
  have hE := fun w => each_any (.slice ac c.length cc) (.slice a d.length cp) w ⟨_, _, _, rfl⟩
  have hS := fun w hr => steps_any (.slice ac c.length cc) (.slice a d.length cp) d w hr hrise
  have hvb : d ≠ [] → ∀ k, (Value.slice a d.length cp).ownBlock = some k → k < w.heap.size := fun hne k e => hTd.lt hne k e
  obtain ⟨W0, hW0⟩ : ∃ W0, W0 = (w.alloc (.cells #[.slice ac c.length cc, .slice a d.length cp] 33)).alloc (.cells #[.bool false] 4) := ⟨_, rfl⟩
  have hs0 : W0.heap.size = w.heap.size + 2 := by rw [hW0]; simp
  have hg0 : w.grownBy W0 none := by rw [hW0]; exact galloc (World.grownBy_alloc w _ none) _
  have hd0 : W0.heap[w.heap.size]? = some (.cells #[.slice ac c.length cc, .slice a d.length cp] 33) := by
    rw [hW0]
    exact ((World.grownBy_alloc (w.alloc (.cells #[.slice ac c.length cc, .slice a d.length cp] 33)) _ none).block w.heap.size (by simp) (by simp)).trans (World.alloc_heap_new w _)
  have hr0 : Boxed W0 (w.heap.size + 1) 4 (.bool false) := by
    rw [hW0]
    have := Boxed.new (w.alloc (.cells #[.slice ac c.length cc, .slice a d.length cp] 33)) 4 (.bool false)
    rwa [World.size_alloc] at this
  have hS0 := hS W0 (hTd.all hg0)
  replace hW0 := Lib.hid hW0
  unfold datV at hE hS0 ⊢
  refine callsIn_of_wp_marks Tryz.func124 rfl trivial ?_ rfl
  simp only [Tryz.ntmps124, List.size_toArray, List.length_cons, List.length_nil, Nat.reduceAdd, Nat.reduceSub, Array.replicate_succ, Array.replicate_zero, List.push_toArray, List.append_toArray, List.nil_append, List.cons_append]
  have dcell : ∀ W, W0.grownBy W none → W.heap[w.heap.size]? = some (.cells #[.slice ac c.length cc, .slice a d.length cp] 33) := fun W hg => (hg.block w.heap.size (by omega) (by simp)).trans hd0
  gi_wp2_with (first
    | (refine ⟨trivial, ?_⟩; rw [← hW0.out]; gi_at_call 89; refine (callsIn_wide.2 hS0).mono ?_; rintro e w1 ⟨m, rfl, hm1, hEn, hg1⟩; have k := dcell _ hg1; have k0 : w1.cell? ⟨w.heap.size, 0, none⟩ = some (.slice ac c.length cc) := by { simp [World.cell?, k] }; have k1 : w1.cell? ⟨w.heap.size, 1, none⟩ = some (.slice a d.length cp) := by { simp [World.cell?, k] }; have hlt1 : w.heap.size < w1.heap.size := by { have := hg1.size; omega }; have hlt2 : w.heap.size < w1.heap.size + 1 := by { omega })
    | (refine ⟨trivial, ?_⟩; gi_at_call 56; refine (callsIn_wide.2 (hE _)).mono ?_; rintro e w3 ⟨p, rfl, hp, hb, hg3⟩))
  obtain ⟨W2, hW2⟩ : ∃ W2, W2 = (w1.alloc (.cells #[.map (some m)] 148)).alloc (.cells #[.int .i32 0] 21) := ⟨_, rfl⟩
  rw [← hW2] at hp hg3
  have hg2 : w1.grownBy W2 none := by rw [hW2]; exact galloc (World.grownBy_alloc w1 _ none) _
  have hs2 : W2.heap.size = w1.heap.size + 2 := by rw [hW2]; simp
  have hb2 : Boxed W2 w1.heap.size 148 (.map (some m)) := by rw [hW2]; exact (Boxed.new w1 _ _).alloc _
  have hl2 : Boxed W2 (w1.heap.size + 1) 21 (.int .i32 0) := by
    rw [hW2]
    have := Boxed.new (w1.alloc (.cells #[.map (some m)] 148)) 21 (.int .i32 0)
    rwa [World.size_alloc] at this
  clear hW2 k k0 k1 hlt2
  have hs3 := hg3.size
  have hpl := hb.lt
  have hml := hEn.lt
  have hTd3 := ((hTd.all hg0).all hg1).all (hg2.trans hg3)
  have hTell := dvals1_tells 4 p w3.heap.size (w1.heap.size + 1) _ d w3 hb hTd3 (by omega) (fun hne k e => by have := hvb hne k e; omega)
  have hg13 : W0.grownBy w3 none := hg1.trans (hg2.trans hg3)
  refine range_tells4 (a := _) (w := w3) (α := Dec) rfl (by omega) (gf := 133) (lb := #[.pointer (some ⟨p, 0, none⟩)]) rfl trivial (enters_of Tryz.func133 (by kernel_rfl) rfl)
    hTell (by simp) (fun _ => rfl) (fun _ _ _ _ _ _ h _ _ _ => h)
    (fun pre W => Hid (pre = d.take pre.length) ∧ Ents W m (ents d) ∧ Boxed W w1.heap.size 148 (.map (some m)) ∧ (∃ L, Boxed W (w1.heap.size + 1) 21 (.int .i32 L) ∧ Hid (decsOk c d L (d.drop pre.length) = true)) ∧ W0.grownBy W none ∧ w3.heap.size ≤ W.heap.size) (fun _ _ _ => False)
    ?hI (fun _ _ _ _ _ h _ _ => h.elim) ⟨Lib.hid rfl, (hEn.kept hg2 (by simp)).kept hg3 (by simp), hb2.kept hg3 (by simp), ⟨0, hl2.kept hg3 (by simp), Lib.hid hd⟩, hg13, Nat.le_refl _⟩
    (fun x a' W => ∃ q, D3 W q x ∧ a' = { tmps := #[.agg #[.slice ac c.length cc, .slice a d.length cp], .pointer (some ⟨w.heap.size, 0, none⟩), .pointer (some ⟨w.heap.size + 1, 0, none⟩), .pointer (some ⟨w1.heap.size, 0, none⟩), .pointer (some ⟨w1.heap.size + 1, 0, none⟩), .pointer (some ⟨q, 0, none⟩), .agg #[.slice ac c.length cc, .slice a d.length cp], .map (some m), .agg #[.slice ac c.length cc, .slice a d.length cp], .func (.func 133) #[] #[.pointer (some ⟨p, 0, none⟩)], dAgg x, undef, undef, undef, undef, undef, undef, undef, undef, undef, undef, undef, undef, undef, undef, undef, undef, undef, undef, undef, undef, undef, undef, undef, undef, undef], defers := [] })
    (fun _ _ _ _ h _ => h) ?hAx ?assign ?body ?done ?stop
  case hI =>
    rintro pre A B k ⟨h0, h1, h2, ⟨L, h3, h4⟩, h5, h6⟩ hg' hk
    have hk2 : ∀ q, k = some q → w3.heap.size ≤ q := by
      rintro q rfl
      rcases hk with hk | ⟨q', hk, hq, _⟩
      · cases hk
      · cases hk; exact hq
    exact ⟨h0, h1.kept hg' (fun e => by have := hk2 _ e; omega), h2.kept hg' (fun e => by have := hk2 _ e.symm; omega), ⟨L, h3.kept hg' (fun e => by have := hk2 _ e.symm; omega), h4⟩, gnew h5 hg' (fun q e => .inl (by have := hk2 _ e; have := hg13.size; omega)), Nat.le_trans h6 hg'.size⟩
  case hAx =>
    rintro x a' A B k o ⟨q, hc', rfl⟩ hg' hk ho
    refine ⟨q, hc'.kept hg' (fun e => ?_), rfl⟩
    cases e
    cases (hk.symm.trans hc')
    cases ho
  case assign =>
    intro l x W K hK
    unfold dEnc dAgg
    gi_wp2_with fail
    refine hK _ _ (World.grownBy_alloc W _ none) ⟨W.heap.size, D3.new W x, ?_⟩
    rfl
  case body =>
    rintro l2 pre x a' W ⟨h0, h1, h2, ⟨L, h3, h4⟩, h5, h6⟩ hget ⟨q, hx, rfl⟩ hsz
    have hnx := Lib.hid (take_next h0.out hget)
    obtain ⟨hlt, hxx⟩ := List.getElem?_eq_some_iff.1 hget
    have h4o := h4.out
    rw [List.drop_eq_getElem_cons hlt, hxx, decsOk, Bool.and_eq_true] at h4o
    have hL2 : Hid (decsOk c d (x.1 + 1) (d.drop (pre ++ [x]).length) = true) := Lib.hid (by rw [List.length_append]; exact h4o.2)
    have hdo := h4o.1
    simp only [decOk, Bool.and_eq_true, decide_eq_true_eq] at hdo
    obtain ⟨⟨⟨d1, d2⟩, d3, d4⟩, d5⟩ := hdo
    have hx1 : 0 ≤ x.1 ∧ x.1 ≤ 1114111 := by
      simp only [codesOk, Bool.and_eq_true] at d2
      exact scal_range d2.1.1.1.1.1.1
    have C1 := fun w => codesMayBe_ok x w d2
    have C2 := fun V (hg : W.grownBy V none) => mayBe_ok m d x V (h1.kept hg (by simp)) d3 d4
    have C3 := fun V (hg : W.grownBy V none) => beginsWell_ok m (.slice ac c.length cc) (.slice a d.length cp) c d x V (((hTc.all hg0).all h5).all hg) ⟨_, _, _, rfl⟩ hok hlen (h1.kept hg (by simp)) d4 d5
    unfold dAgg at C1 C2
    unfold datV dAgg at C3
    have cf : ∀ V, W.grownBy V none → (V.cell? ⟨w.heap.size, 0, none⟩ = some (.slice ac c.length cc) ∧ V.cell? ⟨w.heap.size, 1, none⟩ = some (.slice a d.length cp)) ∧ V.cell? ⟨w1.heap.size, 0, none⟩ = some (.map (some m)) ∧ (V.cell? ⟨w1.heap.size + 1, 0, none⟩ = some (.int .i32 L) ∧ V.frozen? ⟨w1.heap.size + 1, 0, none⟩ = false) ∧ V.cell? ⟨q, 0, none⟩ = some (.int .i32 x.1) ∧ V.cell? ⟨q, 1, none⟩ = some (.int .i32 x.2.1) ∧ V.cell? ⟨q, 2, none⟩ = some (.int .i32 x.2.2) := by
      intro V hg
      have k := dcell _ (h5.trans hg)
      have kx := hx.kept hg (by simp)
      exact ⟨⟨by simp [World.cell?, k], by simp [World.cell?, k]⟩, (h2.kept hg (by simp)).cell, ⟨(h3.kept hg (by simp)).cell, (h3.kept hg (by simp)).frozen⟩, kx.c0, kx.c1, kx.c2⟩
    obtain ⟨⟨a0, a1⟩, a2, ⟨a3, a4⟩, a5, a6, a7⟩ := cf W (World.grownBy.refl W none)
    clear hTell hTc hTd hTd3 hvb hb2 hl2 hb hE hS hS0 h4o hd
    gi_wp2_with (first
      | (refine ⟨trivial, ?_⟩; gi_at_call 153; refine (callsIn_wide.2 (C1 _)).mono ?_; rintro e V1 ⟨rfl, v1⟩; obtain ⟨⟨a0, a1⟩, a2, ⟨a3, a4⟩, a5, a6, a7⟩ := cf V1 v1)
      | (refine ⟨trivial, ?_⟩; gi_at_call 154; refine (callsIn_wide.2 (C2 _ v1)).mono ?_; rintro e V2 ⟨rfl, v2⟩; replace v2 := v1.trans v2; obtain ⟨⟨a0, a1⟩, a2, ⟨a3, a4⟩, a5, a6, a7⟩ := cf V2 v2)
      | (refine ⟨trivial, ?_⟩; gi_at_call 155; refine (callsIn_wide.2 (C3 _ v2)).mono ?_; rintro e V3 ⟨rfl, v3⟩; replace v3 := v2.trans v3; obtain ⟨⟨a0, a1⟩, a2, ⟨a3, a4⟩, a5, a6, a7⟩ := cf V3 v3))
    have gs := gset (gbut v3 (some (w1.heap.size + 1))) 0 (.int .i32 (x.1 + 1))
    exact ⟨KeepsFrom.of_grownBy gs (fun j e => by cases e; omega), KeptX.grown gs hsz (.inl rfl), hnx, h1.kept gs (by simp; omega), h2.kept gs (by simp), ⟨x.1 + 1, (h3.kept v3 (by simp)).set _, hL2⟩, gnew h5 gs (fun r e => by cases e; left; have := hg1.size; omega), Nat.le_trans h6 gs.size⟩
  case stop =>
    rintro D c' pre Wd W15 hD _ h _ _
    exact h.elim
  case done =>
    rintro D xs Wd W15 hD hS ⟨h0, h1, h2, ⟨L, h3, h4⟩, h5, h6⟩ hg' hM
    have r1 := (hr0.kept h5 (by simp)).cell
    have r2 := (hr0.kept h5 (by simp)).frozen
    have gs := grownBy_setCell' W15 (w.heap.size + 1) (.bool true)
    have hM2 : (W15.setCell ⟨w.heap.size + 1, 0, none⟩ (.bool true)).heap[D]? = some (.deferred (some [])) := (gs.block D (Array.getElem?_eq_some_iff.1 hM).1 (by simp; omega)).trans hM
    have hb2' := (hr0.kept h5 (by simp)).set (.bool true)
    have gp := grownBy_putObj' (W15.setCell ⟨w.heap.size + 1, 0, none⟩ (.bool true)) D (.deferred none)
    have hb3' := (hb2'.kept gp (by simp; omega)).cell
    have hfin : w.grownBy ((W15.setCell ⟨w.heap.size + 1, 0, none⟩ (.bool true)).putObj D (.deferred none)) none :=
      gnew (gnew (hg0.trans h5) gs (fun r e => by cases e; left; omega)) gp (fun r e => by cases e; left; omega)
    clear gp gs hg' hTell hE hS0 hr0
    gi_wp2_with fail
    refine ⟨by simp, .inl ⟨_, _, rfl, run_takeDeferred hM2, ?_⟩⟩
    simp [LeavesInM, LeavesIn, results, Tryz.results124, go_sem, hb3']
    exact hfin
theorem decsMayBe_ok (vc vd : Value) (c : List Cls) (d : List Dec) (w : World) (hT : Dat w vc vd c d) (hok : clsOk 0 c = true) (hlen : c.length ≤ 4000) (hd : decsOk c d 0 d = true) :
    Calls Tryz.prog 124 #[datV vc vd] w fun e w' => e = .returned (.bool true) ∧ w.grownBy w' none := callsIn_wide.1 (decsMayBe_in vc vd c d w hT hok hlen hd)

theorem good_parts {c : List Cls} {d : List Dec} (h : good c d = true) : c.length ≤ 4000 ∧ d.length ≤ 8000 ∧ clsOk 0 c = true ∧ decsOk c d 0 d = true := by
  simp only [good, Bool.and_eq_true, decide_eq_true_eq] at h
  exact ⟨h.1.1.1, h.1.1.2, h.1.2, h.2⟩

set_option maxHeartbeats 1000000 in
theorem check_ok (vc vd : Value) (c : List Cls) (d : List Dec) (w : World) (hT : Dat w vc vd c d) (h : good c d = true) :
    Calls Tryz.prog 78 #[datV vc vd] w fun e w' => e = .returned (.int .i64 0) ∧ w.grownBy w' none := by
  obtain ⟨h1, h2, h3, h4⟩ := good_parts h
  obtain ⟨a, cp, rfl, hc, hm⟩ := hT.2.form
  obtain ⟨ac, cc, rfl, _, _⟩ := hT.1.form
  have g0 := World.grownBy_alloc w (.cells #[.slice ac c.length cc, .slice a d.length cp] 33) none
  have C1 := fun W (hg : w.grownBy W none) => classesMayBe_ok (.slice ac c.length cc) (.slice a d.length cp) c W (hT.1.all hg) h3
  have C2 := fun W (hg : w.grownBy W none) => decsMayBe_ok (.slice ac c.length cc) (.slice a d.length cp) c d W (hT.all hg) h3 h1 h4
  have cf : ∀ V, (w.alloc (.cells #[.slice ac c.length cc, .slice a d.length cp] 33)).grownBy V none → V.cell? ⟨w.heap.size, 0, none⟩ = some (.slice ac c.length cc) ∧ V.cell? ⟨w.heap.size, 1, none⟩ = some (.slice a d.length cp) := by
    intro V hg
    have k := (hg.block w.heap.size (by simp) (by simp)).trans (World.alloc_heap_new w _)
    exact ⟨by simp [World.cell?, k], by simp [World.cell?, k]⟩
  obtain ⟨a0, a1⟩ := cf _ (World.grownBy.refl _ none)
  clear h h3 h4 hT
  unfold datV at C1 C2 ⊢
  go_enter Tryz.func78, Tryz.ntmps78
  go_wp2_with (first
    | (go_at_call 123; refine (C1 _ g0).mono ?_; rintro e V1 ⟨rfl, v1⟩; obtain ⟨a0, a1⟩ := cf V1 v1; have gv1 := g0.trans v1)
    | (go_at_call 124; refine (C2 _ gv1).mono ?_; rintro e V2 ⟨rfl, v2⟩))
  go_ret
  exact ⟨rfl, gv1.trans v2⟩
end Go.Proofs.YtpdacbiiaglodaaGreat

/-
  LAYER 3 (crc): the table: what its block holds; New; isMade.
-/
namespace Go.Proofs.YtpdacbiiaglodaaGreat
set_option maxRecDepth 100000
open Go.RowKit Go.Lib

/-- A table's block: made; the Once's done and lock; how often; the numbers. -/
def Tab (w : World) (t : Nat) (m : Bool) (d s k : Int) (f : Nat → Nat) : Prop :=
  ∃ cs : Array Value, w.heap[t]? = some (.cells cs 205 (0, 0)) ∧ cs.size = 261 ∧ cs[0]? = some (.bool m) ∧ cs[1]? = some (.int .u32 d) ∧ cs[2]? = some (.int .i32 s) ∧ cs[4]? = some (.int .i64 k) ∧
    ∀ i, i < 256 → cs[5 + i]? = some (.int .u32 (f i : Int))

section
variable {w w' : World} {t : Nat} {m : Bool} {d s k : Int} {f : Nat → Nat}
theorem Tab.made (h : Tab w t m d s k f) : w.cell? ⟨t, 0, none⟩ = some (.bool m) := by obtain ⟨cs, h1, h2, h3, h4, h5, h6, h7⟩ := h; simp [World.cell?, h1, h3]
theorem Tab.done (h : Tab w t m d s k f) : w.cell? ⟨t, 1, none⟩ = some (.int .u32 d) := by obtain ⟨cs, h1, h2, h3, h4, h5, h6, h7⟩ := h; simp [World.cell?, h1, h4]
theorem Tab.state (h : Tab w t m d s k f) : w.cell? ⟨t, 2, none⟩ = some (.int .i32 s) := by obtain ⟨cs, h1, h2, h3, h4, h5, h6, h7⟩ := h; simp [World.cell?, h1, h5]
theorem Tab.times (h : Tab w t m d s k f) : w.cell? ⟨t, 4, none⟩ = some (.int .i64 k) := by obtain ⟨cs, h1, h2, h3, h4, h5, h6, h7⟩ := h; simp [World.cell?, h1, h6]
theorem Tab.num (h : Tab w t m d s k f) {i : Nat} (hi : i < 256) : w.cell? ⟨t, 5 + i, none⟩ = some (.int .u32 (f i : Int)) := by obtain ⟨cs, h1, h2, h3, h4, h5, h6, h7⟩ := h; simp [World.cell?, h1, h7 i hi]
theorem Tab.free (h : Tab w t m d s k f) (o : Nat) : w.frozen? ⟨t, o, none⟩ = false := by obtain ⟨cs, h1, _⟩ := h; simp [World.frozen?, h1]
theorem Tab.lt (h : Tab w t m d s k f) : t < w.heap.size := by obtain ⟨cs, h1, _⟩ := h; exact lt_of_block h1
theorem Tab.setDone (h : Tab w t m d s k f) (x : Int) : Tab (w.setCell ⟨t, 1, none⟩ (.int .u32 x)) t m x s k f := by
  obtain ⟨cs, h1, h2, h3, h4, h5, h6, h7⟩ := h
  refine ⟨_, heap_setCell_same w t 1 _ _ _ h1, by simpa using h2, by simpa [Array.getElem?_setIfInBounds] using h3, by simp [h2], by simpa [Array.getElem?_setIfInBounds] using h5, by simpa [Array.getElem?_setIfInBounds] using h6, fun i hi => ?_⟩
  rw [Array.getElem?_setIfInBounds, if_neg (by omega)]; exact h7 i hi
theorem Tab.setState (h : Tab w t m d s k f) (x : Int) : Tab (w.setCell ⟨t, 2, none⟩ (.int .i32 x)) t m d x k f := by
  obtain ⟨cs, h1, h2, h3, h4, h5, h6, h7⟩ := h
  refine ⟨_, heap_setCell_same w t 2 _ _ _ h1, by simpa using h2, by simpa [Array.getElem?_setIfInBounds] using h3, by simpa [Array.getElem?_setIfInBounds] using h4, by simp [h2], by simpa [Array.getElem?_setIfInBounds] using h6, fun i hi => ?_⟩
  rw [Array.getElem?_setIfInBounds, if_neg (by omega)]; exact h7 i hi
theorem Tab.setTimes (h : Tab w t m d s k f) (x : Int) : Tab (w.setCell ⟨t, 4, none⟩ (.int .i64 x)) t m d s x f := by
  obtain ⟨cs, h1, h2, h3, h4, h5, h6, h7⟩ := h
  refine ⟨_, heap_setCell_same w t 4 _ _ _ h1, by simpa using h2, by simpa [Array.getElem?_setIfInBounds] using h3, by simpa [Array.getElem?_setIfInBounds] using h4, by simpa [Array.getElem?_setIfInBounds] using h5, by simp [h2], fun i hi => ?_⟩
  rw [Array.getElem?_setIfInBounds, if_neg (by omega)]; exact h7 i hi
theorem Tab.setNum (h : Tab w t m d s k f) {j : Nat} (hj : j < 256) (x : Nat) : Tab (w.setCell ⟨t, 5 + j, none⟩ (.int .u32 (x : Int))) t m d s k (fun i => if i = j then x else f i) := by
  obtain ⟨cs, h1, h2, h3, h4, h5, h6, h7⟩ := h
  refine ⟨_, heap_setCell_same w t (5 + j) _ _ _ h1, by simpa using h2, ?_, ?_, ?_, ?_, fun i hi => ?_⟩
  · rw [Array.getElem?_setIfInBounds, if_neg (by omega)]; exact h3
  · rw [Array.getElem?_setIfInBounds, if_neg (by omega)]; exact h4
  · rw [Array.getElem?_setIfInBounds, if_neg (by omega)]; exact h5
  · rw [Array.getElem?_setIfInBounds, if_neg (by omega)]; exact h6
  · rw [Array.getElem?_setIfInBounds]
    by_cases e : i = j
    · subst e; simp [h2]; omega
    · rw [if_neg (by omega)]; simpa [e] using h7 i hi
theorem Tab.kept {row : Option Nat} (h : Tab w t m d s k f) (hg : w.grownBy w' row) (hne : row ≠ some t) : Tab w' t m d s k f := by
  obtain ⟨cs, h1, h2⟩ := h
  exact ⟨cs, (hg.block t (lt_of_block h1) (fun e => hne e.symm)).trans h1, h2⟩
theorem Tab.new (h : Tab w t m d s k f) (hg : w.grownBy w' none) : Tab w' t m d s k f := h.kept hg (by simp)
theorem Tab.below {B : Nat} (h : Tab w t m d s k f) (hb : Below B w w') (hB : t < B) : Tab w' t m d s k f := by
  obtain ⟨cs, h1, h2⟩ := h
  exact ⟨cs, (hb.block t hB).trans h1, h2⟩
theorem Tab.same (h : Tab w t m d s k f) {g : Nat → Nat} (e : ∀ i, i < 256 → g i = f i) : Tab w t m d s k g := by
  obtain ⟨cs, h1, h2, h3, h4, h5, h6, h7⟩ := h
  exact ⟨cs, h1, h2, h3, h4, h5, h6, fun i hi => by rw [e i hi]; exact h7 i hi⟩
end

theorem zeroTab : (List.range 256).map (fun i => Tryz.zeroCells205[5 + i]?) = List.replicate 256 (some (.int .u32 0)) := by kernel_rfl
theorem zeroTab_head : (Tryz.zeroCells205.size, Tryz.zeroCells205[0]?, Tryz.zeroCells205[1]?, Tryz.zeroCells205[2]?, Tryz.zeroCells205[4]?) = (261, some (.bool false), some (.int .u32 0), some (.int .i32 0), some (.int .i64 0)) := by kernel_rfl
theorem zero_num {i : Nat} (hi : i < 256) : Tryz.zeroCells205[5 + i]? = some (.int .u32 0) := by
  have h := congrArg (fun l => l[i]?) zeroTab
  simp only [List.getElem?_map, List.getElem?_range hi, Option.map_some, List.getElem?_replicate, if_pos hi, Option.some.injEq] at h
  exact h
theorem tab_made (w : World) : Tab (w.alloc (.cells (Tryz.zeroCells205.setIfInBounds 0 (.bool true)) 205)) w.heap.size true 0 0 0 (fun _ => 0) := by
  have h := zeroTab_head
  simp only [Prod.mk.injEq] at h
  obtain ⟨h0, h1, h2, h3, h4⟩ := h
  refine ⟨_, heap_alloc_new w _, by simp [h0], by simp [h0], by simpa [Array.getElem?_setIfInBounds] using h2, by simpa [Array.getElem?_setIfInBounds] using h3, by simpa [Array.getElem?_setIfInBounds] using h4, fun i hi => ?_⟩
  rw [Array.getElem?_setIfInBounds, if_neg (by omega)]; exact zero_num hi

set_option maxHeartbeats 1000000 in
theorem crcNew_any (w : World) : Calls Tryz.prog 114 #[] w fun e w' => ∃ t, e = .returned (.pointer (some ⟨t, 0, none⟩)) ∧ w.heap.size ≤ t ∧ Tab w' t true 0 0 0 (fun _ => 0) ∧ w.grownBy w' none := by
  go_enter Tryz.func114, Tryz.ntmps114
  go_wp2
  go_ret
  exact ⟨_, rfl, Nat.le_refl _, tab_made w, galloc (World.grownBy.refl _ _) _⟩

set_option maxHeartbeats 1000000 in
theorem crcIsMade (t : Nat) (m : Bool) (w : World) (hm : w.cell? ⟨t, 0, none⟩ = some (.bool m)) : Calls Tryz.prog 170 #[.pointer (some ⟨t, 0, none⟩)] w fun e w' => e = .returned (.bool m) ∧ w = w' := by
  cases m
  · go_enter Tryz.func170, Tryz.ntmps170
    go_wp2
    go_ret
    exact ⟨rfl, rfl⟩
  · go_enter Tryz.func170, Tryz.ntmps170
    go_wp2
    go_ret
    exact ⟨rfl, rfl⟩
theorem crcIsMade_nil (w : World) : Calls Tryz.prog 170 #[.pointer none] w fun e w' => e = .returned (.bool false) ∧ w = w' := by
  go_enter Tryz.func170, Tryz.ntmps170
  go_wp2
  go_ret
  exact ⟨rfl, rfl⟩
end Go.Proofs.YtpdacbiiaglodaaGreat

/-
  LAYER 3 (crc): reckon: the table's numbers.
-/
namespace Go.Proofs.YtpdacbiiaglodaaGreat
set_option maxRecDepth 100000
open Go.RowKit Go.Lib

theorem rnds_succ (j c : Nat) : rnds (j + 1) c = rnd (rnds j c) := rnds_add j 1 c
theorem and_one (c : Nat) (h : c < 4294967296) : bits .and .u32 (c : Int) 1 = ((c % 2 : Nat) : Int) := by
  rw [show (1 : Int) = ((1 : Nat) : Int) from rfl, u32_and_nat c 1 h (by decide), Nat.and_one_is_mod]

theorem xor_poly (c : Nat) (h : c < 4294967296) : bits .xor .u32 ((c : Int) / 2) 2197175160 = ((c / 2 ^^^ 0x82F63B78 : Nat) : Int) := by
  rw [show ((c : Int) / 2) = ((c / 2 : Nat) : Int) by omega, show (2197175160 : Int) = ((2197175160 : Nat) : Int) from rfl, u32_xor_nat (c / 2) 2197175160 (by omega) (by decide)]

set_option maxHeartbeats 4000000 in
theorem reckon_any (t : Nat) (d s k : Int) (f : Nat → Nat) (w : World) (hT : Tab w t true d s k f) :
    Calls Tryz.prog 171 #[.pointer (some ⟨t, 0, none⟩)] w fun e w' => e = .returned (.tuple #[]) ∧ w.grownBy w' (some t) ∧ Tab w' t true d s (wrap64 (k + 1)) (rnds 8) := by
  go_enter Tryz.func171, Tryz.ntmps171
  go_wp2
  go_loopw [5] (fun vi wr => ∃ i : Nat, i ≤ 256 ∧ vi = .int .i64 (i : Int) ∧ w.grownBy wr (some t) ∧ Tab wr t true d s k (fun j => if j < i then rnds 8 j else f j)) (fun vi _ => 256 - (RowKit.intOf vi).toNat)
  case atStart => exact ⟨0, by omega, rfl, World.grownBy.refl _ _, hT.same (by intros; rfl)⟩
  case round =>
    clear hT
    obtain ⟨i, hi, rfl, hg, hT⟩ := hrel
    by_cases hlt : i < 256
    · go_wp2
      go_loop [3, 10] (fun n c => ∃ j : Nat, j ≤ 8 ∧ c = .int .i64 (j : Int) ∧ n = .int .u32 ((rnds j i : Nat) : Int)) (fun _ c => 8 - (RowKit.intOf c).toNat)
      case atStart => exact ⟨0, by omega, rfl, by simp [rnds]⟩
      case round =>
        obtain ⟨j, hj, rfl, rfl⟩ := hrel
        by_cases hj8 : j < 8
        · have hs := Lib.hid (rnds_succ j i)
          have hl := rnds_lt j (show i < 4294967296 by omega)
          generalize rnds j i = c at hs hl ⊢
          have ha := and_one c hl
          by_cases ho : c % 2 = 1
          · rw [ho] at ha
            go_wp2
            refine ⟨⟨j + 1, by omega, by go_num, ?_⟩, by simp [RowKit.intOf]; omega⟩
            rw [hs.out, xor_poly c hl]
            unfold rnd
            rw [if_pos ho]
          · have ho' : c % 2 = 0 := by omega
            rw [ho'] at ha
            go_wp2
            refine ⟨⟨j + 1, by omega, by go_num, ?_⟩, by simp [RowKit.intOf]; omega⟩
            rw [hs.out]
            unfold rnd
            rw [if_neg ho]
            simp
        · have hj : j = 8 := by omega
          subst hj
          have hc := hT.num hlt
          have hf := hT.free (5 + i)
          go_wp2
          have hT' := hT.setNum hlt (rnds 8 i)
          refine ⟨⟨i + 1, by omega, by go_num, gset hg _ _, hT'.same fun j hj => ?_⟩, by simp [RowKit.intOf]; omega⟩
          by_cases e : j = i
          · subst e; simp
          · simp [e, show j < i + 1 ↔ j < i by omega]
    · have hi : i = 256 := by omega
      subst hi
      have hc := hT.times
      have hf := hT.free 4
      have hadd := run_call_add (P := Tryz.prog) Tryz.func208 (by kernel_rfl) (by kernel_rfl) (by kernel_rfl) .i64 (by kernel_rfl) (y := 1) (s := IntKind.i64.wrap (k + 1)) hc hf (by simp [go_sem])
      go_wp2
      go_end0
      exact ⟨rfl, gset hg _ _, (hT.setTimes _).same fun j hj => (if_pos hj).symm⟩
end Go.Proofs.YtpdacbiiaglodaaGreat

/-
  LAYER 3 (crc): sync.Once over a table: the lock, the loads, doSlow, Do; begin.
-/
namespace Go.Proofs.YtpdacbiiaglodaaGreat
set_option maxRecDepth 100000
open Go.RowKit Go.Lib

theorem disable (w : World) : (callFunc 185 #[]).run Tryz.prog w = .ok (.value (.tuple #[])) w := run_call_mark0 Tryz.func185 (by kernel_rfl) (by kernel_rfl) (by kernel_rfl) .disable (by kernel_rfl) w
theorem enable (w : World) : (callFunc 187 #[]).run Tryz.prog w = .ok (.value (.tuple #[])) w := run_call_mark0 Tryz.func187 (by kernel_rfl) (by kernel_rfl) (by kernel_rfl) .enable (by kernel_rfl) w
theorem acquire (a : Addr) (w : World) : (callFunc 188 #[.pointer (some a)]).run Tryz.prog w = .ok (.value (.tuple #[])) w := run_call_marked Tryz.func188 (by kernel_rfl) (by kernel_rfl) (by kernel_rfl) .acquire (by kernel_rfl) a w
theorem releaseMerge (a : Addr) (w : World) : (callFunc 190 #[.pointer (some a)]).run Tryz.prog w = .ok (.value (.tuple #[])) w := run_call_marked Tryz.func190 (by kernel_rfl) (by kernel_rfl) (by kernel_rfl) .releaseMerge (by kernel_rfl) a w

/-- '(*sync/atomic.Bool).Store(true)', entered as a deferred call: the cell holds 1. -/
theorem store_deferred (a : Addr) (x : Value) (u : FrameMode) (w : World) (hc : w.cell? a = some x) (hz : w.frozen? a = false) :
    CallsD Tryz.prog 131 #[.pointer (some a), .bool true] u w fun e u' w' => u' = u ∧ (e = .returned (.tuple #[]) ∧ w' = w.drew.setCell a (.int .u32 1)) := by
  have hc' : w.drew.cell? a = some x := by go_simp
  have hz' : w.drew.frozen? a = false := by go_simp
  have hst := run_call_store (P := Tryz.prog) Tryz.func162 (by kernel_rfl) (by kernel_rfl) (by kernel_rfl) (by kernel_rfl) (k := .u32) (y := 1) hc' hz'
  go_enter_d Tryz.func131, Tryz.ntmps131
  go_wp2
  go_region_calls
  all_goals (go_end0; exact ⟨rfl, rfl⟩)

/-- '(*sync.Mutex).Unlock', entered as a deferred call, the lock held and nobody waiting (state 1): state 0. -/
theorem unlock_deferred (a : Addr) (u : FrameMode) (w : World) (hc : w.cell? a = some (.int .i32 1)) (hz : w.frozen? a = false) :
    CallsD Tryz.prog 130 #[.pointer (some a)] u w fun e u' w' => u' = u ∧ (e = .returned (.tuple #[]) ∧ w' = w.setCell a (.int .i32 0)) := by
  have hd := disable
  have he := enable
  have hr := releaseMerge
  have hadd := run_call_add (P := Tryz.prog) Tryz.func191 (by kernel_rfl) (by kernel_rfl) (by kernel_rfl) .i32 (by kernel_rfl) (y := -1) (s := 0) hc hz (by simp [go_sem]; rfl)
  have hcv := run_convert_to_unsafe (P := Tryz.prog) (src := 232) (dst := 236) Tryz.underlying232 Tryz.underlying236 (by kernel_rfl) hc
  go_enter_d Tryz.func130, Tryz.ntmps130
  go_wp2
  go_end0
  go_wp2
  go_end0
  exact ⟨rfl, rfl⟩

/-- '(*sync.Mutex).Lock', the lock free (state 0): state 1. -/
theorem lock_free (a : Addr) (w : World) (hc : w.cell? a = some (.int .i32 0)) (hz : w.frozen? a = false) :
    Calls Tryz.prog 129 #[.pointer (some a)] w fun e w' => e = .returned (.tuple #[]) ∧ w' = w.setCell a (.int .i32 1) := by
  have hd := disable
  have he := enable
  have ha := acquire
  have hcas := run_call_cas_hit (P := Tryz.prog) Tryz.func186 (by kernel_rfl) (by kernel_rfl) (by kernel_rfl) .i32 (by kernel_rfl) (y := 1) hc hz
  have hc' : (w.setCell a (.int .i32 1)).cell? a = some (.int .i32 1) := World.cell?_setCell_same w a _ hc
  have hcv := run_convert_to_unsafe (P := Tryz.prog) (src := 232) (dst := 236) Tryz.underlying232 Tryz.underlying236 (by kernel_rfl) hc'
  go_enter Tryz.func129, Tryz.ntmps129
  go_wp2
  first | go_end0 | (simp only [Exit.inBlock, Exit.then]; refine bodyPost_ret (results_none rfl _ _ _) rfl ?_) | refine bodyPost_ret (results_none rfl _ _ _) rfl ?_
  go_wp2
  go_end0
  exact ⟨rfl, rfl⟩

set_option maxHeartbeats 4000000 in
/-- doSlow, not yet done and the lock free: the numbers are reckoned; then 'done' is stored, the lock is let go. -/
theorem slow_any (t : Nat) (f : Nat → Nat) (w : World) (hT : Tab w t true 0 0 0 f) :
    Calls Tryz.prog 88 #[.pointer (some ⟨t, 1, none⟩), .func (.func 171) #[.pointer (some ⟨t, 0, none⟩)] #[]] w fun e w' => e = .returned (.tuple #[]) ∧ w.grownBy w' (some t) ∧ Tab w' t true 1 0 1 (rnds 8) := by
  have hT1 := hT.setState 1
  have hs := hT.state
  have hf := hT.free 2
  have hl := run_call_load (P := Tryz.prog) Tryz.func128 (by kernel_rfl) (by kernel_rfl) (by kernel_rfl) .u32 (by kernel_rfl) hT1.done
  have hg1 : w.grownBy (w.setCell ⟨t, 2, none⟩ (.int .i32 1)) (some t) := gset (World.grownBy.refl _ _) _ _
  have hre := reckon_any t 0 1 0 f _ hT1
  have hnot : ∀ (x : Bool) (w : World), (Op.unary .not (.bool x)).run Tryz.prog w = .ok (.bool (!x)) w := fun _ _ => rfl
  go_enter_defers Tryz.func88, Tryz.ntmps88
  go_wp2_with (first | (go_at_call 129; refine (lock_free ⟨t, 2, none⟩ _ hs hf).mono ?_; rintro e w' ⟨rfl, rfl⟩) | (go_at_call 171; refine hre.mono ?_; rintro e w2 ⟨rfl, hg2, hT2⟩) | (go_at_call 87; go_in))
  -- the door: two deferred calls, the last laid first
  rw [show wrap64 (0 + 1) = 1 by unfold wrap64; rfl] at hT2
  refine leaves_cons (f := 131) (args := #[.pointer (some ⟨t, 1, none⟩), .bool true]) (by simp) (by simp [go_sem]) ?_
  refine (store_deferred ⟨t, 1, none⟩ _ .returning _ hT2.done (hT2.free 1)).mono ?_
  rintro e u' w'' ⟨rfl, rfl, rfl⟩
  have hT3 := (hT2.new (gdrew (World.grownBy.refl w2 none))).setDone 1
  refine leaves_cons (f := 130) (args := #[.pointer (some ⟨t, 2, none⟩)]) (by simp [settle]) (by simp [go_sem]) ?_
  refine (unlock_deferred ⟨t, 2, none⟩ _ _ hT3.state (hT3.free 2)).mono ?_
  rintro e u' w'' ⟨rfl, rfl, rfl⟩
  have hT4 : Tab _ t true 1 0 1 (rnds 8) := hT3.setState 0
  have hg4 := gset (gset (gdrew (hg1.trans hg2)) 1 (.int .u32 1)) 2 (.int .i32 0)
  simp [Leaves, settle, results, Tryz.results88]
  exact ⟨hg4, hT4⟩

set_option maxHeartbeats 4000000 in
theorem do_first (t : Nat) (f : Nat → Nat) (w : World) (hT : Tab w t true 0 0 0 f) :
    Calls Tryz.prog 49 #[.pointer (some ⟨t, 1, none⟩), .func (.func 171) #[.pointer (some ⟨t, 0, none⟩)] #[]] w fun e w' => e = .returned (.tuple #[]) ∧ w.grownBy w' (some t) ∧ Tab w' t true 1 0 1 (rnds 8) := by
  have hl := run_call_load (P := Tryz.prog) Tryz.func128 (by kernel_rfl) (by kernel_rfl) (by kernel_rfl) .u32 (by kernel_rfl) hT.done
  have hsl := slow_any t f w hT
  have hnot : ∀ (x : Bool) (w : World), (Op.unary .not (.bool x)).run Tryz.prog w = .ok (.bool (!x)) w := fun _ _ => rfl
  go_enter Tryz.func49, Tryz.ntmps49
  go_wp2_with (first | (go_at_call 88; refine hsl.mono ?_; rintro e w2 ⟨rfl, hg2, hT2⟩) | (go_at_call 87; go_in))
  go_end0
  exact ⟨rfl, hg2, hT2⟩

theorem do_done (t : Nat) (m : Bool) (s k : Int) (f : Nat → Nat) (fv : Value) (w : World) (hT : Tab w t m 1 s k f) :
    Calls Tryz.prog 49 #[.pointer (some ⟨t, 1, none⟩), fv] w fun e w' => e = .returned (.tuple #[]) ∧ w = w' := by
  have hl := run_call_load (P := Tryz.prog) Tryz.func128 (by kernel_rfl) (by kernel_rfl) (by kernel_rfl) .u32 (by kernel_rfl) hT.done
  have hnot : ∀ (x : Bool) (w : World), (Op.unary .not (.bool x)).run Tryz.prog w = .ok (.bool (!x)) w := fun _ _ => rfl
  go_enter Tryz.func49, Tryz.ntmps49
  go_wp2_with (go_at_call 87; go_in)
  go_end0
  exact ⟨rfl, rfl⟩

/-- A table, done or not. -/
def Tbl (w : World) (t : Nat) (dn : Bool) : Prop := if dn = true then Tab w t true 1 0 1 (rnds 8) else Tab w t true 0 0 0 (fun _ => 0)
theorem Tbl.made {w : World} {t : Nat} {dn : Bool} (h : Tbl w t dn) : w.cell? ⟨t, 0, none⟩ = some (.bool true) := by
  unfold Tbl at h; split at h <;> exact h.made
theorem Tbl.lt {w : World} {t : Nat} {dn : Bool} (h : Tbl w t dn) : t < w.heap.size := by
  unfold Tbl at h; split at h <;> exact h.lt
theorem Tbl.kept {w w' : World} {t : Nat} {dn : Bool} {row : Option Nat} (h : Tbl w t dn) (hg : w.grownBy w' row) (hne : row ≠ some t) : Tbl w' t dn := by
  unfold Tbl at h ⊢; split at h
  · rename_i e; rw [if_pos e]; exact h.kept hg hne
  · rename_i e; rw [if_neg e]; exact h.kept hg hne
theorem Tbl.new {w w' : World} {t : Nat} {dn : Bool} (h : Tbl w t dn) (hg : w.grownBy w' none) : Tbl w' t dn := h.kept hg (by simp)

theorem Do_any (t : Nat) (dn : Bool) (w : World) (hT : Tbl w t dn) :
    Calls Tryz.prog 49 #[.pointer (some ⟨t, 1, none⟩), .func (.func 171) #[.pointer (some ⟨t, 0, none⟩)] #[]] w fun e w' => e = .returned (.tuple #[]) ∧ w.grownBy w' (some t) ∧ Tbl w' t true := by
  cases dn
  · exact do_first t _ w hT
  · exact (do_done t true 0 1 _ _ w hT).mono fun e w' ⟨h1, h2⟩ => ⟨h1, h2 ▸ World.grownBy.refl _ _, h2 ▸ hT⟩

/-- begin: whether there is a table; its numbers are there once a byte has come. -/
theorem begin_none (p : Value) (v : Value) (w : World) (hm : Calls Tryz.prog 170 #[p] w fun e w' => e = .returned (.bool false) ∧ w = w') :
    Calls Tryz.prog 140 #[p, v] w fun e w' => e = .returned (.bool false) ∧ w = w' := by
  go_enter Tryz.func140, Tryz.ntmps140
  go_wp2_with (go_at_call 170; refine hm.mono ?_; rintro e w' ⟨rfl, rfl⟩)
  go_ret
  exact ⟨rfl, rfl⟩

set_option maxHeartbeats 4000000 in
theorem begin_any (t : Nat) (dn : Bool) (a : Option Addr) (l c : Nat) (w : World) (hT : Tbl w t dn) :
    Calls Tryz.prog 140 #[.pointer (some ⟨t, 0, none⟩), .slice a l c] w fun e w' => e = .returned (.bool true) ∧ w.grownBy w' (some t) ∧ Tbl w' t (dn || decide (0 < l)) := by
  have hmf : ∀ (fn : Fn) (first cap : Array Value) (w : World), (Instr.makeFunc fn first cap).run Tryz.prog w = .ok (.func fn first cap) w := fun _ _ _ _ => rfl
  have hI := crcIsMade t true w hT.made
  by_cases h : 0 < l
  · have h1 : decide ((0 : Int) < (l : Int)) = true := by simpa using h
    have h2 : decide (0 < l) = true := by simpa using h
    have hD := Do_any t dn w hT
    rw [h2, Bool.or_true]
    clear h
    go_enter Tryz.func140, Tryz.ntmps140
    go_wp2_with (first | (go_at_call 170; refine hI.mono ?_; rintro e w' ⟨rfl, rfl⟩) | (go_at_call 49; refine hD.mono ?_; rintro e w2 ⟨rfl, hg2, hT2⟩))
    go_ret
    exact ⟨rfl, hg2, hT2⟩
  · have h1 : decide ((0 : Int) < (l : Int)) = false := by simpa using (by omega : l = 0)
    have h2 : decide (0 < l) = false := by simpa using (by omega : l = 0)
    rw [h2, Bool.or_false]
    clear h
    go_enter Tryz.func140, Tryz.ntmps140
    go_wp2_with (go_at_call 170; refine hI.mono ?_; rintro e w' ⟨rfl, rfl⟩)
    go_ret
    exact ⟨rfl, World.grownBy.refl _ _, hT⟩

theorem begin_done (t : Nat) (a : Option Addr) (l c : Nat) (w : World) (hT : Tbl w t true) :
    Calls Tryz.prog 140 #[.pointer (some ⟨t, 0, none⟩), .slice a l c] w fun e w' => e = .returned (.bool true) ∧ w = w' := by
  have hmf : ∀ (fn : Fn) (first cap : Array Value) (w : World), (Instr.makeFunc fn first cap).run Tryz.prog w = .ok (.func fn first cap) w := fun _ _ _ _ => rfl
  have hI := crcIsMade t true w hT.made
  by_cases h : 0 < l
  · have h1 : decide ((0 : Int) < (l : Int)) = true := by simpa using h
    have h2 : decide (0 < l) = true := by simpa using h
    have hD := fun fv => do_done t true 0 1 (rnds 8) fv w hT
    clear h
    go_enter Tryz.func140, Tryz.ntmps140
    go_wp2_with (first | (go_at_call 170; refine hI.mono ?_; rintro e w' ⟨rfl, rfl⟩) | (go_at_call 49; refine (hD _).mono ?_; rintro e w2 ⟨rfl, rfl⟩))
    go_ret
    exact ⟨rfl, rfl⟩
  · have h1 : decide ((0 : Int) < (l : Int)) = false := by simpa using (by omega : l = 0)
    have h2 : decide (0 < l) = false := by simpa using (by omega : l = 0)
    clear h
    go_enter Tryz.func140, Tryz.ntmps140
    go_wp2_with (go_at_call 170; refine hI.mono ?_; rintro e w' ⟨rfl, rfl⟩)
    go_ret
    exact ⟨rfl, rfl⟩

end Go.Proofs.YtpdacbiiaglodaaGreat
