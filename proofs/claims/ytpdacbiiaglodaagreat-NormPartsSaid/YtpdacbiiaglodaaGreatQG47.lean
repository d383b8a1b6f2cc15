/-
  LAYER 6 (norm): the law NormParts.
-/
import Derived.Test.YtpdacbiiaglodaaGreatQG41
import Derived.Test.YtpdacbiiaglodaaGreatQG46
import Derived.Test.YtpdacbiiaglodaaGreatQG38
import Derived.RangeFuncBound
namespace Go.Proofs.YtpdacbiiaglodaaGreat
set_option maxRecDepth 100000
open Go.RowKit Go.Lib
attribute [local go_sem] Oper.semAt_some

theorem parts_none (w : World) (vc vd vl : Value) (c : List Cls) (d : List Dec) (l : List Int) (hT : Dat w vc vd c d) (hR : RS w vl l) (h : 200 < c.length ∨ 200 < d.length ∨ good c d = false) :
    CallsIn Fence.wide 21 Tryz.prog 6 #[vc, vd, vl] w fun e w' => e = .returned (.bool true) ∧ Below w.heap.size w w' := by
  have hA := fun w => mawake_any w
  have hD := fun W (hg : w.grownBy W none) => data_no vc vd c d W (hT.all hg) h
  obtain ⟨a1, c1, rfl, _, _⟩ := hT.1.form
  obtain ⟨a2, c2, rfl, _, _⟩ := hT.2.form
  obtain ⟨a3, c3, rfl, _⟩ := hR
  clear h hT
  generalize c.length = cl at *
  generalize d.length = dl at *
  generalize l.length = n at *
  refine callsIn_of_wp_marks Tryz.func6 rfl trivial ?_ rfl
  simp only [Tryz.ntmps6, List.size_toArray, List.length_cons, List.length_nil, Nat.reduceAdd, Nat.reduceSub, Array.replicate_succ, Array.replicate_zero, List.push_toArray, List.append_toArray, List.nil_append, List.cons_append]
  obtain ⟨W0, hW0⟩ : ∃ W0, W0 = w.alloc (.cells #[.bool false] 4) := ⟨_, rfl⟩
  have hg0 : w.grownBy W0 none := by rw [hW0]; exact World.grownBy_alloc _ _ none
  have hR0 : Boxed W0 w.heap.size 4 (.bool false) := by rw [hW0]; exact Boxed.new _ _ _
  replace hW0 := Lib.hid hW0
  gi_wp2_with fail
  rw [← hW0.out]
  gi_wp2_with (first
    | (refine ⟨trivial, ?_⟩; gi_at_call 19; refine (callsIn_wide.2 (hA _)).mono ?_; rintro e w1 ⟨rfl, hg1⟩; have hgw1 := hg0.trans hg1; have hD1 := hD w1 hgw1; have hR1 := hR0.kept hg1 (by simp))
    | (refine ⟨trivial, ?_⟩; gi_at_call 27; refine (callsIn_wide.2 hD1).mono ?_; rintro e w2 ⟨rfl, hg2⟩; have g3 := World.grownBy_alloc w2 (.cells #[.slice none 0 0, .slice none 0 0] 59) none; have hgw2 := (hgw1.trans hg2).trans g3; have hR2 := (hR1.kept hg2 (by simp)).kept g3 (by simp); have rc := hR2.cell; have rf := hR2.frozen))
  have hBr := hR2.set (.bool true)
  have hbr := (belowg' hgw2).setCell (p := ⟨w.heap.size, 0, none⟩) (Nat.le_refl _) (.bool true)
  have hc11 := hBr.cell
  clear hBr
  generalize (w2.alloc (.cells #[.slice none 0 0, .slice none 0 0] 59)).setCell ⟨w.heap.size, 0, none⟩ (.bool true) = W11 at hc11 hbr ⊢
  simp [bodyPostM, LeavesInM, LeavesIn, results, Tryz.results6, go_sem, hc11]
  exact hbr
theorem parts_long (w : World) (vc vd vl : Value) (c : List Cls) (d : List Dec) (l : List Int) (hT : Dat w vc vd c d) (hR : RS w vl l) (h : good c d = true) (hc : c.length ≤ 200) (hd : d.length ≤ 200) (hl : 500 < l.length) :
    CallsIn Fence.wide 21 Tryz.prog 6 #[vc, vd, vl] w fun e w' => e = .returned (.bool true) ∧ Below w.heap.size w w' := by
  have hA := fun w => mawake_any w
  have hD := fun W (hg : w.grownBy W none) => data_any vc vd c d W (hT.all hg) h hc hd
  have hdn : decide ((500 : Int) < (l.length : Int)) = true := by simp; omega
  obtain ⟨a1, c1, rfl, _, _⟩ := hT.1.form
  obtain ⟨a2, c2, rfl, _, _⟩ := hT.2.form
  obtain ⟨a3, c3, rfl, _⟩ := hR
  clear h hT
  generalize c.length = cl at *
  generalize d.length = dl at *
  generalize l.length = n at *
  refine callsIn_of_wp_marks Tryz.func6 rfl trivial ?_ rfl
  simp only [Tryz.ntmps6, List.size_toArray, List.length_cons, List.length_nil, Nat.reduceAdd, Nat.reduceSub, Array.replicate_succ, Array.replicate_zero, List.push_toArray, List.append_toArray, List.nil_append, List.cons_append]
  obtain ⟨W0, hW0⟩ : ∃ W0, W0 = w.alloc (.cells #[.bool false] 4) := ⟨_, rfl⟩
  have hg0 : w.grownBy W0 none := by rw [hW0]; exact World.grownBy_alloc _ _ none
  have hR0 : Boxed W0 w.heap.size 4 (.bool false) := by rw [hW0]; exact Boxed.new _ _ _
  replace hW0 := Lib.hid hW0
  gi_wp2_with fail
  rw [← hW0.out]
  gi_wp2_with (first
    | (refine ⟨trivial, ?_⟩; gi_at_call 19; refine (callsIn_wide.2 (hA _)).mono ?_; rintro e w1 ⟨rfl, hg1⟩; have hgw1 := hg0.trans hg1; have hD1 := hD w1 hgw1; have hR1 := hR0.kept hg1 (by simp))
    | (refine ⟨trivial, ?_⟩; gi_at_call 27; refine (callsIn_wide.2 hD1).mono ?_; rintro e w2 ⟨m, rfl, _, _, hg2⟩; have g3 := World.grownBy_alloc w2 (.cells #[.slice a1 cl c1, .slice a2 dl c2] 59) none; have hgw2 := (hgw1.trans hg2).trans g3; have hR2 := (hR1.kept hg2 (by simp)).kept g3 (by simp); have rc := hR2.cell; have rf := hR2.frozen))
  have hBr := hR2.set (.bool true)
  have hbr := (belowg' hgw2).setCell (p := ⟨w.heap.size, 0, none⟩) (Nat.le_refl _) (.bool true)
  have hc11 := hBr.cell
  clear hBr
  generalize (w2.alloc (.cells #[.slice a1 cl c1, .slice a2 dl c2] 59)).setCell ⟨w.heap.size, 0, none⟩ (.bool true) = W11 at hc11 hbr ⊢
  simp [bodyPostM, LeavesInM, LeavesIn, results, Tryz.results6, go_sem, hc11]
  exact hbr
theorem eq_nilSeq (w : World) (p q : Option Addr) : (binOp .eql 82 (.func (.func 64) #[] #[.pointer p, .pointer q]) .nilFunc).run Tryz.prog w = .ok (.bool false) w := by rfl

set_option maxHeartbeats 8000000 in
theorem parts_walk (w : World) (vc vd vl : Value) (c : List Cls) (d : List Dec) (l : List Int) (hT : Dat w vc vd c d) (hR : RS w vl l) (h : good c d = true) (hc : c.length ≤ 200) (hd : d.length ≤ 200) (hl : l.length ≤ 500) :
    CallsIn Fence.wide 21 Tryz.prog 6 #[vc, vd, vl] w fun e w' => e = .returned (.bool true) ∧ Below w.heap.size w w' := by
  have hA := fun w => mawake_any w
  have hD := fun W (hg : w.grownBy W none) => data_any vc vd c d W (hT.all hg) h hc hd
  have rP := fun W (hg : w.grownBy W none) => rParts_any vc vd vl c d l W (hT.all hg) h (hR.new hg) (by omega)
  have nP := fun p F W hN (hg : w.grownBy W none) hv => nparts_any p vl (clsOf c) (told' d) F l W hN (hR.new hg) (by omega) hv (told_length d)
  have nI := fun p F bl bn b a hb hm hl => parts1_tellsW p (clsOf c) (told' d) F bl bn b _ a (dOf (clsOf c) (told' d) l) hb (Nat.le_refl _) hm hl
  have hOkk : Hid (∀ (pre : List (List Int × Option Addr)) (x : List Int × Option Addr) (A B : World) (k : Nat) (o : Obj), POk (clsOf c) (dOf (clsOf c) (told' d) l) pre x A → A.grownBy B (some k) → A.heap[k]? = some o → o.isCells = false → POk (clsOf c) (dOf (clsOf c) (told' d) l) pre x B) := Lib.hid fun pre x A B k o h1 h2 h3 h4 => ⟨h1.1.heap (fun hn j e => h2.block j (h1.1.lt hn j e) (fun e' => by
    cases e'
    obtain ⟨a', c', e1, _, _, _, hh⟩ := h1.1
    obtain ⟨b, off, e2, hcell⟩ := hh hn
    simp only [Value.slice.injEq] at e1
    obtain ⟨rfl, _, _⟩ := e1
    rw [e2] at e
    simp [Value.ownBlock] at e
    subst e
    obtain ⟨y, t, hy⟩ := List.exists_cons_of_ne_nil hn
    have := hcell 0 y (by rw [hy]; rfl)
    simp only [World.cell?, h3] at this
    cases o <;> simp_all [Obj.isCells])), h1.2⟩
  have hOk0 : Hid (∀ (pre : List (List Int × Option Addr)) (x : List Int × Option Addr) (A B : World), POk (clsOf c) (dOf (clsOf c) (told' d) l) pre x A → A.grownBy B none → POk (clsOf c) (dOf (clsOf c) (told' d) l) pre x B) := Lib.hid fun pre x A B h1 h2 => ⟨h1.1.new h2, h1.2⟩
  have hRlt := Lib.hid hR.lt
  have hdn : decide ((500 : Int) < (l.length : Int)) = false := by simp; omega
  obtain ⟨a1, c1, rfl, _, _⟩ := hT.1.form
  obtain ⟨a2, c2, rfl, _, _⟩ := hT.2.form
  obtain ⟨a3, c3, rfl, _⟩ := id hR
  clear h hT hR hc hd
  generalize c.length = cl at *
  generalize d.length = dl at *
  generalize hDD : dOf (clsOf c) (told' d) l = DD at *
  generalize clsOf c = f at *
  generalize told' d = df at *
  clear hDD
  replace nP := Lib.hid nP
  replace rP := Lib.hid rP
  replace nI := Lib.hid nI
  generalize l.length = n at *
  have hnf := eq_nilSeq
  refine callsIn_of_wp_marks Tryz.func6 rfl trivial ?_ rfl
  simp only [Tryz.ntmps6, List.size_toArray, List.length_cons, List.length_nil, Nat.reduceAdd, Nat.reduceSub, Array.replicate_succ, Array.replicate_zero, List.push_toArray, List.append_toArray, List.nil_append, List.cons_append]
  obtain ⟨W0, hW0⟩ : ∃ W0, W0 = w.alloc (.cells #[.bool false] 4) := ⟨_, rfl⟩
  have hg0 : w.grownBy W0 none := by rw [hW0]; exact World.grownBy_alloc _ _ none
  have hR0 : Boxed W0 w.heap.size 4 (.bool false) := by rw [hW0]; exact Boxed.new _ _ _
  replace hW0 := Lib.hid hW0
  gi_wp2_with fail
  rw [← hW0.out]
  gi_wp2_with (first
    | (refine ⟨trivial, ?_⟩; gi_at_call 19; refine (callsIn_wide.2 (hA _)).mono ?_; rintro e w1 ⟨rfl, hg1⟩; have hgw1 := hg0.trans hg1; have hD1 := hD w1 hgw1; have hR1 := hR0.kept hg1 (by simp); clear hA hD)
    | (refine ⟨trivial, ?_⟩; gi_at_call 27; refine (callsIn_wide.2 hD1).mono ?_; rintro e w2 ⟨pn, rfl, hm, ⟨F, hN2, _⟩, hg2⟩; have hgb := World.grownBy_alloc w2 (.cells #[.slice a1 cl c1, .slice a2 dl c2] 59) none; have hgw2 := (hgw1.trans hg2).trans hgb; obtain ⟨k0, k1, _⟩ := pair_new w2 (.slice a1 cl c1) (.slice a2 dl c2) 59; have hrP := rP.out _ hgw2; have hR2 := (hR1.kept hg2 (by simp)).kept hgb (by simp); have hpn := nd_plt hN2 pn rfl; have hND := Lib.hid (hN2.new hgb); have hz1 := hg1.size; clear hD1 hN2)
    | (refine ⟨trivial, ?_⟩; gi_at_call 28; refine (callsIn_wide.2 hrP).mono ?_; rintro e w5 ⟨wv, B, rfl, hPR, hBB, hg5⟩; obtain ⟨aw, cw, rfl⟩ := hPR.form; obtain ⟨mp, hmp⟩ : ∃ mp, mp = (pcs f DD).length := ⟨_, rfl⟩; rw [← hmp] at hPR ⊢; have HMP := Lib.hid hmp; have hg6 := World.grownBy_alloc w5 (.cells #[.slice aw mp cw] 79) none; have hgw5 := (hgw2.trans hg5).trans hg6; have hnP := nP.out (.pointer (some ⟨pn, 0, none⟩)) F _ ((hND.out.new hg5).new hg6) hgw5 (fun hne k e e' => by cases e'; have := hRlt.out hne pn e; have := hg0.size; omega); have hR5 := (hR2.kept hg5 (by simp)).kept hg6 (by simp); have hwb := Boxed.new w5 79 (.slice aw mp cw); have hPRn := Lib.hid (hPR.new hg6); have hz5 := hg5.size; clear hrP hmp hPR)
    | (refine ⟨trivial, ?_⟩; gi_at_call 29; refine (callsIn_wide.2 hnP).mono ?_; rintro e w6 ⟨bn, bl, a, b, F', rfl, hPW, hab, hdl, hgx⟩; clear hnP))
  have hzb : w2.heap.size < w5.heap.size := by rw [World.size_alloc] at hz5; omega
  rw [World.size_alloc] at hBB
  have hr0 : w.heap.size < W0.heap.size := hR0.lt
  have hR6 : Boxed w6 w.heap.size 4 (.bool false) := (hgx.block _ hR5.lt (fun e => by cases e; omega)).trans hR5
  have hwb6 : Boxed w6 w5.heap.size 79 (.slice aw mp cw) := (hgx.block _ hwb.lt (fun e => by cases e; omega)).trans hwb
  have hb6 : Below w.heap.size w w6 := belowg' (((GX.of hgw5 (by simp)).trans hgx (fun k e => .inl e) : GX (fun k => (.pointer (some ⟨pn, 0, none⟩) : Value) = .pointer (some ⟨k, 0, none⟩)) w w6).one (fun k e => by cases e; right; omega))
  have hWant : Hid (∀ i s, (pcs f DD)[i]? = some s → ∃ g c u, (.slice aw mp cw : Value) = .slice (some ⟨g, 0, none⟩) mp c ∧ w6.cell? ⟨g, i, none⟩ = some u ∧ RS w6 u s) := Lib.hid fun i s hs => by
    obtain ⟨g, c, u, e1, e2, e3⟩ := hPRn.out.get hs
    rw [← HMP.out] at e1
    have hgB : B ≤ g := hPRn.out.size g (by rw [e1]; rfl)
    have hgl := World.block_lt_of_cell? _ _ e2
    refine ⟨g, c, u, e1, ?_, e3.ro.reads.heap fun hn k e => hgx.block k (e3.lt k e).2 (fun e' => by cases e'; have := (e3.lt pn e).1; omega)⟩
    rw [World.cell?_of_block (a := ⟨g, i, none⟩) (hgx.block g hgl (fun e' => by cases e'; omega))]
    exact e2
  have HPW := Lib.hid hPW
  have hmpb : mp ≤ 28672 := by rw [HMP.out]; exact Nat.le_trans (pcs_len f DD) hdl
  have hpmx : Hid (∀ s, s ∈ pcs f DD → s.length ≤ 28672) := Lib.hid fun s hs => Nat.le_trans (pcs_max f _ s hs) hdl
  have TL := Lib.hid (nI.out (.pointer (some ⟨pn, 0, none⟩)) F' bl bn b a hab (by unfold maxLen; omega) (by omega))
  have hwr : w.heap.size < w6.heap.size := hR6.lt
  have hww : w5.heap.size < w6.heap.size := hwb6.lt
  have hrw : w.heap.size ≠ w5.heap.size := by have := hR5.lt; have := hgw5.size; rw [World.size_alloc] at this; omega
  clear nI nP rP hPW hab hdl hgx hPRn hwb hR5 hgw5 hND hR2 hgw2 hgb hg2 hz1 hz5 hzb hBB hr0 hpn hm hg5 hg6 hR0 hR1 hg0 hg1 hgw1 k0 k1 hRlt hW0
  refine range_tellsW (a := _) (w := w6) (α := List Int × Option Addr) rfl (by omega) (gf := 64) (lb := #[.pointer (some ⟨bn, 0, none⟩), .pointer (some ⟨bl, 0, none⟩)]) rfl trivial (enters_of Tryz.func64 (by kernel_rfl) rfl)
    TL.out (fun _ => rfl) hOkk.out (fun _ V => w6.grownBy V none) (fun c _ V => c = .exit 0 ∧ w6.grownBy V none) (fun _ V h => HPW.out.new h) (fun _ _ h => h.size)
    (fun _ A B k h hg hk => gnew h hg (fun r e => .inl (by rcases hk with h | ⟨q, h, h', _⟩ <;> rw [h] at e <;> cases e; exact h')))
    (fun _ _ A B k h hg hk => ⟨h.1, gnew h.2 hg (fun r e => .inl (by rcases hk with h | ⟨q, h, h', _⟩ <;> rw [h] at e <;> cases e; exact h'))⟩)
    (World.grownBy.refl _ _) (fun _ _ _ => True) hOk0.out (fun _ _ _ _ _ _ _ _ _ _ => trivial) ?assign ?body ?done ?stop
  case assign =>
    intro g x W K hK
    unfold sEnc
    gi_wp2_with fail
    exact hK _ _ (World.grownBy.refl W none) trivial
  case body =>
    intro g pre x a' W hI _ _ _
    gi_wp2_with fail
    exact ⟨KF.refl _ _, rfl, hI⟩
  case done =>
    rintro D xs Wd W15 hD _ hk15 hg' hM
    clear hg'
    have hDl := lt_of_block hM
    obtain ⟨W16, hW16⟩ : ∃ W16, W16 = W15.alloc (.cells #[.int .i64 0] 3) := ⟨_, rfl⟩
    have hBi : Boxed W16 W15.heap.size 3 (.int .i64 0) := by rw [hW16]; exact Boxed.new W15 _ _
    have g16 : W15.grownBy W16 none := by rw [hW16]; exact World.grownBy_alloc W15 _ none
    have hsi := hBi.lt
    have h15 := hk15.size
    have hM16 : W16.heap[D]? = some (.deferred (some [])) := (g16.block D hDl (by simp)).trans hM
    have g316 := hk15.trans g16
    replace hW16 := Lib.hid hW16
    clear hM g16
    gi_wp2_with fail
    rw [← hW16.out]
    have up : Hid (∀ V, GX (fun k => k = W15.heap.size) W16 V → w6.grownBy V none) := Lib.hid fun V hg => ((GX.of g316 (by simp)).trans hg (fun k e => .inr (by omega)) : GX (fun _ => False) w6 V).one (fun k e => e.elim)
    have hTell2 := TL.out
    refine range_tellsW (a := _) (w := W16) (α := List Int × Option Addr) rfl (by omega) (gf := 64) (lb := #[.pointer (some ⟨bn, 0, none⟩), .pointer (some ⟨bl, 0, none⟩)]) rfl trivial (enters_of Tryz.func64 (by kernel_rfl) rfl)
      hTell2 (fun _ => rfl) hOkk.out
      (fun pre V => Boxed V W15.heap.size 3 (.int .i64 (pre.length : Int)) ∧ GX (fun k => k = W15.heap.size) W16 V) (fun _ _ _ => False)
      (fun pre V h => HPW.out.new (up.out V h.2)) (fun _ _ h => h.2.size)
      (fun pre A B k h hg hk => ⟨h.1.kept hg (fun e => by rcases hk with h | ⟨q, h, h', _⟩ <;> rw [h] at e <;> cases e; omega), h.2.step hg (fun q e => .inr (by rcases hk with h | ⟨q', h, h', _⟩ <;> rw [h] at e <;> cases e; exact h'))⟩)
      (fun _ _ _ _ _ h _ _ => h.elim) ⟨hBi, GX.refl _ _⟩ (fun x a' _ => a' = { tmps := #[.slice a1 cl c1, .slice a2 dl c2, .slice a3 n c3, undef, undef, undef, .pointer (some ⟨w.heap.size, 0, none⟩), .pointer (some ⟨pn, 0, none⟩), .pointer (some ⟨w2.heap.size, 0, none⟩), .bool true, .pointer (some ⟨w5.heap.size, 0, none⟩), .func (.func 64) #[] #[.pointer (some ⟨bn, 0, none⟩), .pointer (some ⟨bl, 0, none⟩)], .pointer (some ⟨W15.heap.size, 0, none⟩), .slice x.2 x.1.length x.1.length, .bool true, .bool false, .tuple #[.pointer (some ⟨pn, 0, none⟩), .agg #[.slice a1 cl c1, .slice a2 dl c2], .bool true], .slice a1 cl c1, .slice a2 dl c2, .tuple #[.pointer (some ⟨pn, 0, none⟩), .agg #[.slice a1 cl c1, .slice a2 dl c2], .bool true], .pointer (some ⟨pn, 0, none⟩), .agg #[.slice a1 cl c1, .slice a2 dl c2], .bool true, .bool true, .bool false, .bool false, .slice a3 n c3, .int .i64 (n : Int), .bool false, .bool false, .agg #[.slice a1 cl c1, .slice a2 dl c2], .slice a3 n c3, .slice aw mp cw, .pointer (some ⟨pn, 0, none⟩), .slice a3 n c3, .func (.func 64) #[] #[.pointer (some ⟨bn, 0, none⟩), .pointer (some ⟨bl, 0, none⟩)], .func (.func 64) #[] #[.pointer (some ⟨bn, 0, none⟩), .pointer (some ⟨bl, 0, none⟩)], .bool false, .func (.func 64) #[] #[.pointer (some ⟨bn, 0, none⟩), .pointer (some ⟨bl, 0, none⟩)], undef, .func (.func 64) #[] #[.pointer (some ⟨bn, 0, none⟩), .pointer (some ⟨bl, 0, none⟩)], .slice x.2 x.1.length x.1.length, undef, undef, undef, undef, undef, undef, undef, undef, undef, undef, undef, undef, undef, undef, undef, undef, undef, undef, undef], defers := [] }) hOk0.out (fun _ _ _ _ _ _ h _ _ _ => h) ?assign2 ?body2 ?done2 ?stop2
    case assign2 =>
      intro g x W K hK
      unfold sEnc
      gi_wp2_with fail
      exact hK _ _ (World.grownBy.refl W none) rfl
    case stop2 =>
      rintro D2 c pre W W' _ _ h _
      exact h.elim
    case body2 =>
      rintro g pre x a' V ⟨hBk, hG⟩ ⟨hrs, hps⟩ rfl hsz
      obtain ⟨s, ax⟩ := x
      dsimp only at hrs hps ⊢
      have g6 := up.out V hG
      have hlt : pre.length < mp := by rw [HMP.out]; exact (List.getElem?_eq_some_iff.1 hps).1
      have hsl := hpmx.out s (List.mem_of_getElem? hps)
      obtain ⟨gw, cw', u, e1, e2, e3⟩ := hWant.out _ _ hps
      simp only [Value.slice.injEq] at e1
      obtain ⟨rfl, _, rfl⟩ := e1
      have r1 := (hwb6.kept g6 (by simp)).cell
      have r2 := hBk.cell
      have r3 := g6.cell e2 (by simp)
      have hsm := runes_same _ _ s V hrs (e3.new g6) (by omega)
      obtain ⟨au, cu, rfl, _⟩ := e3
      have hlen : ((pre ++ [(s, ax)] : List (List Int × Option Addr)).length : Int) = (pre.length : Int) + 1 := by simp
      generalize pre.length = k at *
      generalize s.length = m at *
      have hge : decide (mp ≤ k) = false := by simp; omega
      have HBk := Lib.hid hBk
      have HG := Lib.hid hG
      replace hlen := Lib.hid hlen
      clear hps hrs g6 e2 hBk hG hsl hTell2 hBi hM16 hDl g316
      gi_wp2_with (refine ⟨trivial, ?_⟩; gi_at_call 30; refine (callsIn_wide.2 hsm).mono ?_; rintro e V5 ⟨rfl, q, rfl⟩; have g5 := gdrewN (World.grownBy.refl V none) q; have kB := HBk.out.kept g5 (by simp); have kc := kB.cell; have kf := kB.frozen; generalize V.drewN q = V5 at *)
      have gs := gset (gbut g5 (some W15.heap.size)) 0 (.int .i64 ((k : Int) + 1))
      refine ⟨KF.of gs (fun j e => by cases e; exact hsi), ?_, HG.out.step gs (fun j e => by cases e; exact .inl rfl)⟩
      rw [hlen.out]
      exact kB.set _
    case done2 =>
      rintro D2 xs V V17 hD2 hS ⟨hBi17, hG17⟩ hg17 hM2
      have hxl : xs.length = mp := by rw [HMP.out]; exact hS
      rw [hxl] at hBi17
      have g6 := up.out V17 hG17
      have r1 := (hwb6.kept g6 (by simp)).cell
      have r2 := hBi17.cell
      have hR17 := hR6.kept g6 (by simp)
      have kR := hR17.cell
      have kF := hR17.frozen
      have hM1 : V17.heap[D]? = some (.deferred (some [])) := (hG17.block D (by omega) (by omega)).trans hM16
      have hDD : D ≠ D2 := by omega
      have hwD : w.heap.size ≠ D := by omega
      have hwD2 : w.heap.size ≠ D2 := by omega
      have hb17 := hb6.trans (gbelow g6 hb6.size (by simp))
      clear hTell2 hBi hM16 hg17 hS hxl hBi17 hG17 g6 hDl g316
      gi_wp2_with fail
      have hbr := hb17.setCell (p := ⟨w.heap.size, 0, none⟩) (Nat.le_refl _) (.bool true)
      have hBr := hR17.set (.bool true)
      have x2 := (KeepsOthers.setCell V17 ⟨w.heap.size, 0, none⟩ (.bool true)).same D2 _ hM2 rfl
      have x1 := (KeepsOthers.setCell V17 ⟨w.heap.size, 0, none⟩ (.bool true)).same D _ hM1 rfl
      clear hR17 hb17 hM1 hM2 kR kF r1 r2
      generalize V17.setCell ⟨w.heap.size, 0, none⟩ (.bool true) = W18 at x1 x2 hBr hbr ⊢
      refine ⟨by simp, .inl ⟨_, _, rfl, run_takeDeferred x2, ?_⟩⟩
      have x3 : (W18.putObj D2 (.deferred none)).heap[D]? = some (.deferred (some [])) := (World.putObj_heap_other hDD).trans x1
      refine ⟨by simp, .inl ⟨_, _, rfl, run_takeDeferred x3, ?_⟩⟩
      have hB19 : Boxed ((W18.putObj D2 (.deferred none)).putObj D (.deferred none)) w.heap.size 4 (.bool true) := (World.putObj_heap_other hwD).trans ((World.putObj_heap_other hwD2).trans hBr)
      have hb19 : Below w.heap.size w ((W18.putObj D2 (.deferred none)).putObj D (.deferred none)) :=
        (hbr.trans (gbelow (grownBy_putObj' W18 D2 _) hbr.size (by simp; omega))).trans (gbelow (grownBy_putObj' _ D _) (by simpa [World.putObj] using hbr.size) (by simp; omega))
      have hc19 := hB19.cell
      clear hB19 hBr hbr x1 x2 x3
      generalize (W18.putObj D2 (.deferred none)).putObj D (.deferred none) = W19 at hc19 hb19 ⊢
      simp [LeavesInM, LeavesIn, results, Tryz.results6, go_sem, hc19]
      exact hb19
  case stop =>
    rintro D c' xs Wd W15 hD _ ⟨rfl, hk15⟩ hg' hM
    clear hg'
    have hDl := lt_of_block hM
    obtain ⟨W16, hW16⟩ : ∃ W16, W16 = W15.alloc (.cells #[.int .i64 0] 3) := ⟨_, rfl⟩
    have hBi : Boxed W16 W15.heap.size 3 (.int .i64 0) := by rw [hW16]; exact Boxed.new W15 _ _
    have g16 : W15.grownBy W16 none := by rw [hW16]; exact World.grownBy_alloc W15 _ none
    have hsi := hBi.lt
    have h15 := hk15.size
    have hM16 : W16.heap[D]? = some (.deferred (some [])) := (g16.block D hDl (by simp)).trans hM
    have g316 := hk15.trans g16
    replace hW16 := Lib.hid hW16
    clear hM g16
    gi_wp2_with fail
    rw [← hW16.out]
    have up : Hid (∀ V, GX (fun k => k = W15.heap.size) W16 V → w6.grownBy V none) := Lib.hid fun V hg => ((GX.of g316 (by simp)).trans hg (fun k e => .inr (by omega)) : GX (fun _ => False) w6 V).one (fun k e => e.elim)
    have hTell2 := TL.out
    refine range_tellsW (a := _) (w := W16) (α := List Int × Option Addr) rfl (by omega) (gf := 64) (lb := #[.pointer (some ⟨bn, 0, none⟩), .pointer (some ⟨bl, 0, none⟩)]) rfl trivial (enters_of Tryz.func64 (by kernel_rfl) rfl)
      hTell2 (fun _ => rfl) hOkk.out
      (fun pre V => Boxed V W15.heap.size 3 (.int .i64 (pre.length : Int)) ∧ GX (fun k => k = W15.heap.size) W16 V) (fun _ _ _ => False)
      (fun pre V h => HPW.out.new (up.out V h.2)) (fun _ _ h => h.2.size)
      (fun pre A B k h hg hk => ⟨h.1.kept hg (fun e => by rcases hk with h | ⟨q, h, h', _⟩ <;> rw [h] at e <;> cases e; omega), h.2.step hg (fun q e => .inr (by rcases hk with h | ⟨q', h, h', _⟩ <;> rw [h] at e <;> cases e; exact h'))⟩)
      (fun _ _ _ _ _ h _ _ => h.elim) ⟨hBi, GX.refl _ _⟩ (fun x a' _ => a' = { tmps := #[.slice a1 cl c1, .slice a2 dl c2, .slice a3 n c3, undef, undef, undef, .pointer (some ⟨w.heap.size, 0, none⟩), .pointer (some ⟨pn, 0, none⟩), .pointer (some ⟨w2.heap.size, 0, none⟩), .bool true, .pointer (some ⟨w5.heap.size, 0, none⟩), .func (.func 64) #[] #[.pointer (some ⟨bn, 0, none⟩), .pointer (some ⟨bl, 0, none⟩)], .pointer (some ⟨W15.heap.size, 0, none⟩), .slice x.2 x.1.length x.1.length, .bool true, .bool false, .tuple #[.pointer (some ⟨pn, 0, none⟩), .agg #[.slice a1 cl c1, .slice a2 dl c2], .bool true], .slice a1 cl c1, .slice a2 dl c2, .tuple #[.pointer (some ⟨pn, 0, none⟩), .agg #[.slice a1 cl c1, .slice a2 dl c2], .bool true], .pointer (some ⟨pn, 0, none⟩), .agg #[.slice a1 cl c1, .slice a2 dl c2], .bool true, .bool true, .bool false, .bool false, .slice a3 n c3, .int .i64 (n : Int), .bool false, .bool false, .agg #[.slice a1 cl c1, .slice a2 dl c2], .slice a3 n c3, .slice aw mp cw, .pointer (some ⟨pn, 0, none⟩), .slice a3 n c3, .func (.func 64) #[] #[.pointer (some ⟨bn, 0, none⟩), .pointer (some ⟨bl, 0, none⟩)], .func (.func 64) #[] #[.pointer (some ⟨bn, 0, none⟩), .pointer (some ⟨bl, 0, none⟩)], .bool false, .func (.func 64) #[] #[.pointer (some ⟨bn, 0, none⟩), .pointer (some ⟨bl, 0, none⟩)], undef, .func (.func 64) #[] #[.pointer (some ⟨bn, 0, none⟩), .pointer (some ⟨bl, 0, none⟩)], .slice x.2 x.1.length x.1.length, undef, undef, undef, undef, undef, undef, undef, undef, undef, undef, undef, undef, undef, undef, undef, undef, undef, undef, undef], defers := [] }) hOk0.out (fun _ _ _ _ _ _ h _ _ _ => h) ?assign3 ?body3 ?done3 ?stop3
    case assign3 =>
      intro g x W K hK
      unfold sEnc
      gi_wp2_with fail
      exact hK _ _ (World.grownBy.refl W none) rfl
    case stop3 =>
      rintro D2 c pre W W' _ _ h _
      exact h.elim
    case body3 =>
      rintro g pre x a' V ⟨hBk, hG⟩ ⟨hrs, hps⟩ rfl hsz
      obtain ⟨s, ax⟩ := x
      dsimp only at hrs hps ⊢
      have g6 := up.out V hG
      have hlt : pre.length < mp := by rw [HMP.out]; exact (List.getElem?_eq_some_iff.1 hps).1
      have hsl := hpmx.out s (List.mem_of_getElem? hps)
      obtain ⟨gw, cw', u, e1, e2, e3⟩ := hWant.out _ _ hps
      simp only [Value.slice.injEq] at e1
      obtain ⟨rfl, _, rfl⟩ := e1
      have r1 := (hwb6.kept g6 (by simp)).cell
      have r2 := hBk.cell
      have r3 := g6.cell e2 (by simp)
      have hsm := runes_same _ _ s V hrs (e3.new g6) (by omega)
      obtain ⟨au, cu, rfl, _⟩ := e3
      have hlen : ((pre ++ [(s, ax)] : List (List Int × Option Addr)).length : Int) = (pre.length : Int) + 1 := by simp
      generalize pre.length = k at *
      generalize s.length = m at *
      have hge : decide (mp ≤ k) = false := by simp; omega
      have HBk := Lib.hid hBk
      have HG := Lib.hid hG
      replace hlen := Lib.hid hlen
      clear hps hrs g6 e2 hBk hG hsl hTell2 hBi hM16 hDl g316
      gi_wp2_with (refine ⟨trivial, ?_⟩; gi_at_call 30; refine (callsIn_wide.2 hsm).mono ?_; rintro e V5 ⟨rfl, q, rfl⟩; have g5 := gdrewN (World.grownBy.refl V none) q; have kB := HBk.out.kept g5 (by simp); have kc := kB.cell; have kf := kB.frozen; generalize V.drewN q = V5 at *)
      have gs := gset (gbut g5 (some W15.heap.size)) 0 (.int .i64 ((k : Int) + 1))
      refine ⟨KF.of gs (fun j e => by cases e; exact hsi), ?_, HG.out.step gs (fun j e => by cases e; exact .inl rfl)⟩
      rw [hlen.out]
      exact kB.set _
    case done3 =>
      rintro D2 xs V V17 hD2 hS ⟨hBi17, hG17⟩ hg17 hM2
      have hxl : xs.length = mp := by rw [HMP.out]; exact hS
      rw [hxl] at hBi17
      have g6 := up.out V17 hG17
      have r1 := (hwb6.kept g6 (by simp)).cell
      have r2 := hBi17.cell
      have hR17 := hR6.kept g6 (by simp)
      have kR := hR17.cell
      have kF := hR17.frozen
      have hM1 : V17.heap[D]? = some (.deferred (some [])) := (hG17.block D (by omega) (by omega)).trans hM16
      have hDD : D ≠ D2 := by omega
      have hwD : w.heap.size ≠ D := by omega
      have hwD2 : w.heap.size ≠ D2 := by omega
      have hb17 := hb6.trans (gbelow g6 hb6.size (by simp))
      clear hTell2 hBi hM16 hg17 hS hxl hBi17 hG17 g6 hDl g316
      gi_wp2_with fail
      have hbr := hb17.setCell (p := ⟨w.heap.size, 0, none⟩) (Nat.le_refl _) (.bool true)
      have hBr := hR17.set (.bool true)
      have x2 := (KeepsOthers.setCell V17 ⟨w.heap.size, 0, none⟩ (.bool true)).same D2 _ hM2 rfl
      have x1 := (KeepsOthers.setCell V17 ⟨w.heap.size, 0, none⟩ (.bool true)).same D _ hM1 rfl
      clear hR17 hb17 hM1 hM2 kR kF r1 r2
      generalize V17.setCell ⟨w.heap.size, 0, none⟩ (.bool true) = W18 at x1 x2 hBr hbr ⊢
      refine ⟨by simp, .inl ⟨_, _, rfl, run_takeDeferred x2, ?_⟩⟩
      have x3 : (W18.putObj D2 (.deferred none)).heap[D]? = some (.deferred (some [])) := (World.putObj_heap_other hDD).trans x1
      refine ⟨by simp, .inl ⟨_, _, rfl, run_takeDeferred x3, ?_⟩⟩
      have hB19 : Boxed ((W18.putObj D2 (.deferred none)).putObj D (.deferred none)) w.heap.size 4 (.bool true) := (World.putObj_heap_other hwD).trans ((World.putObj_heap_other hwD2).trans hBr)
      have hb19 : Below w.heap.size w ((W18.putObj D2 (.deferred none)).putObj D (.deferred none)) :=
        (hbr.trans (gbelow (grownBy_putObj' W18 D2 _) hbr.size (by simp; omega))).trans (gbelow (grownBy_putObj' _ D _) (by simpa [World.putObj] using hbr.size) (by simp; omega))
      have hc19 := hB19.cell
      clear hB19 hBr hbr x1 x2 x3
      generalize (W18.putObj D2 (.deferred none)).putObj D (.deferred none) = W19 at hc19 hb19 ⊢
      simp [LeavesInM, LeavesIn, results, Tryz.results6, go_sem, hc19]
      exact hb19

theorem NormParts_walk (w : World) (a1 : Option Addr) (l1 c1 : Nat) (c : List Cls) (hc : Tri .i64 w (.slice a1 l1 c1) c) (a2 : Option Addr) (l2 c2 : Nat) (d : List Dec) (hd : Tri .i32 w (.slice a2 l2 c2) d) (a3 : Option Addr) (l3 c3 : Nat) (l : List Int) (hl : RS w (.slice a3 l3 c3) l) :
    Calls Tryz.prog 6 #[.slice a1 l1 c1, .slice a2 l2 c2, .slice a3 l3 c3] w fun e w' => e = .returned (.bool true) ∧ Below w.heap.size w w' := by
  by_cases h1 : 200 < c.length ∨ 200 < d.length ∨ good c d = false
  · exact callsIn_wide.1 (parts_none w _ _ _ c d l ⟨hc, hd⟩ hl h1)
  · have hg : good c d = true := by
      cases h : good c d with
      | true => rfl
      | false => exact absurd (.inr (.inr h)) h1
    have k1 : c.length ≤ 200 := by omega
    have k2 : d.length ≤ 200 := by omega
    by_cases h2 : 500 < l.length
    · exact callsIn_wide.1 (parts_long w _ _ _ c d l ⟨hc, hd⟩ hl hg k1 k2 h2)
    · exact callsIn_wide.1 (parts_walk w _ _ _ c d l ⟨hc, hd⟩ hl hg k1 k2 (by omega))
end Go.Proofs.YtpdacbiiaglodaaGreat
