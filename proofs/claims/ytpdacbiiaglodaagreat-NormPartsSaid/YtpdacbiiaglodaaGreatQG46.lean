/-
  LAYER 5 (norms): the reference's Check and Build, of data that may not be.
-/
import Derived.Test.YtpdacbiiaglodaaGreatQG42
import Derived.Test.YtpdacbiiaglodaaGreatQG45
import Derived.Test.YtpdacbiiaglodaaGreatQG31
import Derived.Test.YtpdacbiiaglodaaGreatQG35
import Derived.Test.YtpdacbiiaglodaaGreatQG37
import Derived.ProofKit
import Derived.OpenShut
import Derived.Test.YtpdacbiiaglodaaGreatQG11
import Derived.Test.YtpdacbiiaglodaaGreatQG38
import Derived.Deep.SlicePairs
namespace Go.Proofs.YtpdacbiiaglodaaGreat
set_option maxRecDepth 100000
open Go.RowKit Go.Lib

theorem decsOk_of {c : List Cls} {d : List Dec} : ∀ {l : List Dec} {L : Int}, decs1 L l = true → l.all (ok3 c d) = true → decsOk c d L l = true
  | [], _, _, _ => rfl
  | x :: t, L, h1, h2 => by
    rw [decs1, Bool.and_eq_true, Bool.and_eq_true] at h1
    rw [List.all_cons, Bool.and_eq_true] at h2
    rw [decsOk, Bool.and_eq_true]
    refine ⟨?_, decsOk_of h1.2 h2.2⟩
    have hc := h1.1.2
    have ho := h2.1
    simp only [cod1, Bool.and_eq_true] at hc
    obtain ⟨⟨⟨⟨⟨s1, s2⟩, s3⟩, s4⟩, s5⟩, s6⟩ := hc
    simp only [ok3, Bool.and_eq_true, Bool.or_eq_true] at ho
    obtain ⟨⟨hB, hm⟩, hb⟩ := ho
    have hs7 : (!syl x.2.2) = true := by
      rcases hB with h | ⟨_, h⟩
      · rw [decide_eq_true_eq] at h; rw [h]; rfl
      · exact h
    have hbO : bOk d x = true := by
      rw [bOk, Bool.or_eq_true]
      rcases hB with h | ⟨h, _⟩
      · exact .inl h
      · exact .inr h
    simp [decOk, codesOk, h1.1.1, s1, s2, s3, s4, s5, s6, hs7, hbO, hm, hb] 
theorem bad_cases {c : List Cls} {d : List Dec} (h : good c d = false) : (4000 < c.length ∨ 8000 < d.length) ∨ (c.length ≤ 4000 ∧ d.length ≤ 8000 ∧ (clsOk 0 c = false ∨ (clsOk 0 c = true ∧ (decs1 0 d = false ∨ (decs1 0 d = true ∧ d.all (ok3 c d) = false))))) := by
  by_cases h1 : c.length ≤ 4000
  · by_cases h2 : d.length ≤ 8000
    · right
      refine ⟨h1, h2, ?_⟩
      cases h3 : clsOk 0 c with
      | false => exact .inl rfl
      | true =>
        right
        refine ⟨rfl, ?_⟩
        cases h4 : decs1 0 d with
        | false => exact .inl rfl
        | true =>
          right
          refine ⟨rfl, ?_⟩
          cases h5 : d.all (ok3 c d) with
          | false => rfl
          | true =>
            have := decsOk_of h4 h5
            simp [good, h1, h2, h3, this] at h
    · left; omega
  · left; omega

theorem refCheck_bad (vc vd : Value) (c : List Cls) (d : List Dec) (w : World) (hT : Dat w vc vd c d) (h : good c d = false) :
    Calls Tryz.prog 42 #[vc, vd] w fun e w' => ∃ n : Int, n ≠ 0 ∧ e = .returned (.int .i64 n) ∧ w.grownBy w' none := by
  rcases bad_cases h with h1 | ⟨h1, h2, h3 | ⟨h3, h4 | ⟨h4, h5⟩⟩⟩
  · exact (refCheck_long vc vd c d w hT h1).mono fun e w' ⟨q1, q2⟩ => ⟨2, by decide, q1, q2⟩
  · exact (refCheck_cls vc vd c d w hT h1 h2 h3).mono fun e w' ⟨q1, q2⟩ => ⟨51, by decide, q1, q2⟩
  · exact (refCheck_dec vc vd c d w hT h1 h2 h3 h4).mono fun e w' ⟨q1, q2⟩ => ⟨52, by decide, q1, q2⟩
  · exact (refCheck_end vc vd c d w hT h1 h2 h3 h4 h5).mono fun e w' ⟨q1, q2⟩ => ⟨52, by decide, q1, q2⟩

set_option maxHeartbeats 1000000 in
theorem refBuild_bad (vc vd : Value) (c : List Cls) (d : List Dec) (w : World) (hT : Dat w vc vd c d) (h : good c d = false) :
    Calls Tryz.prog 12 #[vc, vd] w fun e w' => ∃ n : Int, n ≠ 0 ∧ e = .returned (.tuple #[.slice none 0 0, .int .i64 n]) ∧ w.grownBy w' none := by
  have hC := refCheck_bad vc vd c d w hT h
  obtain ⟨a1, c1, rfl, _, _⟩ := hT.1.form
  obtain ⟨a2, c2, rfl, _, _⟩ := hT.2.form
  clear hT h
  generalize c.length = cl at hC ⊢
  generalize d.length = dl at hC ⊢
  go_enter Tryz.func12, Tryz.ntmps12
  go_wp2_with (go_at_call 42; refine hC.mono ?_; rintro e w1 ⟨n, hn, rfl, hg1⟩; have hn1 : (n != 0) = true := by { simpa using hn }; replace hn := Lib.hid hn)
  go_ret2
  exact ⟨n, hn.out, rfl, hg1⟩
end Go.Proofs.YtpdacbiiaglodaaGreat

/-
  LAYER 6 (norm): the laws' data, where it may not be.
-/
namespace Go.Proofs.YtpdacbiiaglodaaGreat
set_option maxRecDepth 100000
open Go.RowKit Go.Lib

theorem data_end {w W : World} (hg : w.grownBy W none) (hk : W.heap[w.heap.size]? = some (.cells #[.slice none 0 0, .slice none 0 0] 59 (0, 0))) :
    w.grownBy ((W.setCell ⟨w.heap.size, 0, none⟩ (.slice none 0 0)).setCell ⟨w.heap.size, 1, none⟩ (.slice none 0 0)) none ∧ ((W.setCell ⟨w.heap.size, 0, none⟩ (.slice none 0 0)).setCell ⟨w.heap.size, 1, none⟩ (.slice none 0 0)).heap[w.heap.size]? = some (.cells #[.slice none 0 0, .slice none 0 0] 59 (0, 0)) := by
  have gs0 : W.grownBy (W.setCell ⟨w.heap.size, 0, none⟩ (.slice none 0 0)) (some w.heap.size) := gset (World.grownBy.refl W _) 0 _
  have gs := gset gs0 1 (.slice none 0 0)
  have e0 := heap_setCell_same W w.heap.size 0 _ _ (.slice none 0 0) hk
  have e1 := heap_setCell_same _ w.heap.size 1 _ _ (.slice none 0 0) e0
  exact ⟨gnew hg gs (fun r e => by cases e; left; exact Nat.le_refl _), e1⟩

set_option maxHeartbeats 4000000 in
theorem data_no (vc vd : Value) (c : List Cls) (d : List Dec) (w : World) (hT : Dat w vc vd c d) (h : 200 < c.length ∨ 200 < d.length ∨ good c d = false) :
    Calls Tryz.prog 27 #[vc, vd] w fun e w' => e = .returned (.tuple #[.pointer none, .agg #[.slice none 0 0, .slice none 0 0], .bool false]) ∧ w.grownBy w' none := by
  have hB := fun W (hg : w.grownBy W none) (hb : good c d = false) => refBuild_bad vc vd c d W (hT.all hg) hb
  obtain ⟨a1, c1, rfl, _, _⟩ := hT.1.form
  obtain ⟨a2, c2, rfl, _, _⟩ := hT.2.form
  generalize hcl : c.length = cl at hB h ⊢
  generalize hdl : d.length = dl at hB h ⊢
  clear hcl hdl hT
  have hgA := World.grownBy_alloc w (.cells #[.slice none 0 0, .slice none 0 0] 59) none
  have hkA := World.alloc_heap_new w (.cells #[.slice none 0 0, .slice none 0 0] 59)
  have h3 : (decide ((200 : Int) < (cl : Int)) = true) ∨ (decide ((200 : Int) < (cl : Int)) = false ∧ decide ((200 : Int) < (dl : Int)) = true) ∨ (decide ((200 : Int) < (cl : Int)) = false ∧ decide ((200 : Int) < (dl : Int)) = false ∧ good c d = false) := by
    by_cases p1 : 200 < cl
    · left; simp; omega
    · by_cases p2 : 200 < dl
      · right; left; simp; omega
      · right; right; exact ⟨by simp; omega, by simp; omega, by rcases h with h | h | h; omega; omega; exact h⟩
  clear h
  have n0 : (w.alloc (.cells #[.slice none 0 0, .slice none 0 0] 59)).cell? ⟨w.heap.size, 0, none⟩ = some (.slice none 0 0) := (pair_new w _ _ _).1
  have n1 : (w.alloc (.cells #[.slice none 0 0, .slice none 0 0] 59)).cell? ⟨w.heap.size, 1, none⟩ = some (.slice none 0 0) := (pair_new w _ _ _).2.1
  rcases h3 with e1 | ⟨e1, e2⟩ | ⟨e1, e2, hb⟩
  · clear hB hkA
    go_enter Tryz.func27, Tryz.ntmps27
    go_wp2_with fail
    generalize w.alloc (.cells #[.slice none 0 0, .slice none 0 0] 59) = W at n0 n1 hgA ⊢
    refine bodyPost_ret (v := .tuple #[.pointer none, .agg #[.slice none 0 0, .slice none 0 0], .bool false]) (by simp [results, Tryz.results27, go_sem, n0, n1]) rfl ⟨rfl, hgA⟩
  · clear hB hkA
    go_enter Tryz.func27, Tryz.ntmps27
    go_wp2_with fail
    generalize w.alloc (.cells #[.slice none 0 0, .slice none 0 0] 59) = W at n0 n1 hgA ⊢
    refine bodyPost_ret (v := .tuple #[.pointer none, .agg #[.slice none 0 0, .slice none 0 0], .bool false]) (by simp [results, Tryz.results27, go_sem, n0, n1]) rfl ⟨rfl, hgA⟩
  · have hBb := hB _ hgA hb
    clear hB hb n0 n1
    replace hkA := Lib.hid hkA
    replace hgA := Lib.hid hgA
    go_enter Tryz.func27, Tryz.ntmps27
    go_wp2_with fail
    go_at_call 12
    refine hBb.mono ?_
    rintro e w1 ⟨n, hn, rfl, hg1⟩
    clear hBb
    have hn1 : (n != 0) = true := by simpa using hn
    have kd := (hg1.block w.heap.size (by simp) (by simp)).trans hkA.out
    have d0 : w1.cell? ⟨w.heap.size, 0, none⟩ = some (.slice none 0 0) := by simp [World.cell?, kd]
    have d1 : w1.cell? ⟨w.heap.size, 1, none⟩ = some (.slice none 0 0) := by simp [World.cell?, kd]
    have f0 : ∀ i, w1.frozen? ⟨w.heap.size, i, none⟩ = false := by simp [World.frozen?, kd]
    obtain ⟨q1, q2⟩ := data_end (hgA.out.trans hg1) kd
    replace hn := Lib.hid hn
    replace q1 := Lib.hid q1
    replace q2 := Lib.hid q2
    replace kd := Lib.hid kd
    go_wp2_with fail
    have q3 := q1.out
    have q4 := q2.out
    generalize (w1.setCell ⟨w.heap.size, 0, none⟩ (.slice none 0 0)).setCell ⟨w.heap.size, 1, none⟩ (.slice none 0 0) = V at q3 q4 ⊢
    refine bodyPost_ret (v := .tuple #[.pointer none, .agg #[.slice none 0 0, .slice none 0 0], .bool false]) (by simp [results, Tryz.results27, go_sem, World.cell?, q4]) rfl ⟨rfl, q3⟩
end Go.Proofs.YtpdacbiiaglodaaGreat

/-
  ARGUMENTS OF A LAW, OPENED: a slice of runes that came in reads as runes.
-/
namespace Go.Proofs.YtpdacbiiaglodaaGreat.U
set_option maxRecDepth 100000
open Go.ChangeShapes Go.WideShapes Go.ChangeAt Go.RowKit

theorem runes_arg {H : Type} {enc : TypeId × Value → H} {W : World} {base : Nat} {sp : Nat → Bool} {a : Option Addr} {l c : Nat} {d : DataW H} {ps : List MemPlace}
    (hok : Value.okWide Tryz.prog W .any base 50 (.slice a l c)) (h : DataW.Trod enc Tryz.prog W 0 sp true 50 (.slice a l c) d ps) : ∃ bs, Runes W (.slice a l c) bs := by
  obtain ⟨fuel, hf⟩ := h
  rcases open_ints Tryz.underlying50 Tryz.underlying21 (by kernel_rfl) hf with ⟨hcs, _⟩ | ⟨x, l', c', zs, hcs, _, hl, hm, hz, _, hcell, hwz⟩
  · simp [Value.cells] at hcs
    obtain ⟨rfl, rfl, rfl⟩ := hcs
    exact ⟨[], .inl ⟨rfl, rfl⟩⟩
  · simp [Value.cells] at hcs
    obtain ⟨rfl, rfl, rfl⟩ := hcs
    have hs : x.spot = none := by
      simp only [Value.okWide, Tryz.underlying50, Cell.okWide, Cell.ok, World.has] at hok
      exact hok.2.2.2.1
    obtain ⟨b, off, spot⟩ := x
    subst hs
    have hzl : l ≤ zs.length := by rw [hz]; split <;> omega
    have hlen : (runeCells (zs.take l)).length = l := by simp [runeCells]; omega
    refine ⟨zs.take l, .inr ⟨b, off, c, ?_, by omega, hm, fun i u hu => ?_⟩⟩
    · rw [hlen]
    · have hi : i < l := by have := (List.getElem?_eq_some_iff.1 hu).1; omega
      have hc := hcell i (by omega)
      have e : (⟨b, off, none⟩ : Addr).add i = ⟨b, off + i, none⟩ := by unfold Addr.add; split <;> simp_all
      rw [e] at hc
      have hgz : zs[i]? = some (zs.getD i 0) := by rw [List.getD_eq_getElem?_getD, List.getElem?_eq_getElem (by omega)]; rfl
      simp only [runeCells, List.getElem?_map, List.getElem?_take, if_pos hi, hgz, Option.map_some, Option.some.injEq] at hu
      subst hu
      exact hc
end Go.Proofs.YtpdacbiiaglodaaGreat.U

/-
  LAYER 6 (norm): ARGUMENTS OF A LAW, OPENED: slices of classes, of decompositions, of code points that came in.
-/
namespace Go.Proofs.YtpdacbiiaglodaaGreat
set_option maxRecDepth 100000
open Go.ChangeShapes Go.WideShapes Go.ChangeAt Go.RowKit

/-- A slice of structs of three cells each, opened at every index below its length. -/
theorem open_threes {H : Type} {enc : TypeId × Value → H} {P : Program} {w : World} {base : Nat} {spare : Nat → Bool} {held : Bool} {t e : TypeId} {f0 f1 f2 : Field} {fuel : Nat} {cs : List Value} {x : DataW H × List MemPlace}
    (ht : P.underlying t = some (.slice e)) (he : P.underlying e = some (.struct #[f0, f1, f2])) (ce : P.cellsOf e = 3) (o0 : f0.offset = 0) (o1 : f1.offset = 1) (o2 : f2.offset = 2) (c0 : P.cellsOf f0.type = 1) (c1 : P.cellsOf f1.type = 1) (c2 : P.cellsOf f2.type = 1)
    (h : DataW.trod enc P w base spare held fuel t cs = some x) :
    cs = [.slice none 0 0] ∨ ∃ (a : Addr) (len cap n : Nat), cs = [.slice (some a) len cap] ∧ len ≤ cap ∧ cap ≤ maxLen ∧ ∀ i, i < len → ∃ v0 v1 v2 y0 y1 y2, w.cell? (a.add (i * 3)) = some v0 ∧ w.cell? (a.add (i * 3 + 1)) = some v1 ∧ w.cell? (a.add (i * 3 + 2)) = some v2 ∧
      DataW.trod enc P w base spare held n f0.type [v0] = some y0 ∧ DataW.trod enc P w base spare held n f1.type [v1] = some y1 ∧ DataW.trod enc P w base spare held n f2.type [v2] = some y2 := by
  rcases Deep.open_slice ht h with ⟨h0, _⟩ | ⟨a, len, cap, m, n, D, Pl, rfl, hb, hl, hm, hmm, rfl, hx⟩
  · exact .inl h0
  refine .inr ⟨a, len, cap, n - 1, rfl, hl, hm, fun i hi => ?_⟩
  have hlm : len ≤ m := by rw [hmm]; split <;> omega
  obtain ⟨cs', h1, h2⟩ := hx i (by omega)
  rw [ce] at h1
  obtain ⟨_, hlen, hcell⟩ := World.cells?_some h1
  obtain ⟨xs, k, hk, hxy, _, hxl, hf⟩ := DataW.trod_struct he h2
  have hk' : k = n - 1 := by omega
  subst hk'
  match xs, hxl, cs', hlen with
  | [y0, y1, y2], _, [v0, v1, v2], _ =>
    have g0 := hf 0 f0 rfl
    have g1 := hf 1 f1 rfl
    have g2 := hf 2 f2 rfl
    simp [o0, o1, o2, c0, c1, c2] at g0 g1 g2
    have e0 := hcell 0 (by omega)
    have e1 := hcell 1 (by omega)
    have e2 := hcell 2 (by omega)
    rw [Deep.add_add] at e0 e1 e2
    exact ⟨v0, v1, v2, y0, y1, y2, by simpa using e0, by simpa using e1, by simpa using e2, g0, g1, g2⟩

theorem cls_arg {H : Type} {enc : TypeId × Value → H} {W : World} {base : Nat} {sp : Nat → Bool} {a : Option Addr} {l c : Nat} {d : DataW H} {ps : List MemPlace}
    (hok : Value.okWide Tryz.prog W .any base 23 (.slice a l c)) (h : DataW.Trod enc Tryz.prog W 0 sp true 23 (.slice a l c) d ps) : ∃ L, Tri .i64 W (.slice a l c) L := by
  obtain ⟨fuel, hf⟩ := h
  rcases open_threes Tryz.underlying23 Tryz.underlying104 (by kernel_rfl) rfl rfl rfl (by kernel_rfl) (by kernel_rfl) (by kernel_rfl) hf with hcs | ⟨x, l', c', n, hcs, hl, hm, hcell⟩
  · simp [Value.cells] at hcs
    obtain ⟨rfl, rfl, rfl⟩ := hcs
    exact ⟨[], .inl ⟨rfl, rfl⟩⟩
  · simp [Value.cells] at hcs
    obtain ⟨rfl, rfl, rfl⟩ := hcs
    have hs : x.spot = none := by
      simp only [Value.okWide, Tryz.underlying23, Cell.okWide, Cell.ok, World.has] at hok
      exact hok.2.2.2.1
    obtain ⟨b, off, spot⟩ := x
    subst hs
    have e : ∀ i, (⟨b, off, none⟩ : Addr).add i = ⟨b, off + i, none⟩ := fun i => by unfold Addr.add; split <;> simp_all
    obtain ⟨q, hq⟩ := Deep.choose_lt (α := Int × Int × Int) (n := l) (p := fun i x => W.cell? ⟨b, off + i * 3, none⟩ = some (.int .i32 x.1) ∧ W.cell? ⟨b, off + i * 3 + 1, none⟩ = some (.int .i32 x.2.1) ∧ W.cell? ⟨b, off + i * 3 + 2, none⟩ = some (.int .i64 x.2.2)) (fun i hi => by
      obtain ⟨v0, v1, v2, y0, y1, y2, c0, c1, c2, t0, t1, t2⟩ := hcell i hi
      obtain ⟨x1, e1, _, _⟩ := DataW.trod_int Tryz.underlying21 t0
      obtain ⟨x2, e2, _, _⟩ := DataW.trod_int Tryz.underlying21 t1
      obtain ⟨x3, e3, _, _⟩ := DataW.trod_int Tryz.underlying3 t2
      simp only [List.cons.injEq, and_true] at e1 e2 e3
      subst e1 e2 e3
      rw [e] at c0 c1 c2
      rw [← Nat.add_assoc] at c1 c2
      exact ⟨(x1, x2, x3), c0, c1, c2⟩)
    refine ⟨(List.range l).map q, .inr ⟨b, off, c, by simp, by simpa using hl, hm, fun i u hu => ?_⟩⟩
    simp only [List.getElem?_map] at hu
    obtain ⟨j, hj, hj2⟩ := Option.map_eq_some_iff.1 hu
    obtain ⟨hi, rfl⟩ := List.getElem?_eq_some_iff.1 hj
    simp only [List.length_range] at hi
    simp only [List.getElem_range] at hj2
    subst hj2
    exact hq i hi
theorem dec_arg {H : Type} {enc : TypeId × Value → H} {W : World} {base : Nat} {sp : Nat → Bool} {a : Option Addr} {l c : Nat} {d : DataW H} {ps : List MemPlace}
    (hok : Value.okWide Tryz.prog W .any base 24 (.slice a l c)) (h : DataW.Trod enc Tryz.prog W 0 sp true 24 (.slice a l c) d ps) : ∃ L, Tri .i32 W (.slice a l c) L := by
  obtain ⟨fuel, hf⟩ := h
  rcases open_threes Tryz.underlying24 Tryz.underlying106 (by kernel_rfl) rfl rfl rfl (by kernel_rfl) (by kernel_rfl) (by kernel_rfl) hf with hcs | ⟨x, l', c', n, hcs, hl, hm, hcell⟩
  · simp [Value.cells] at hcs
    obtain ⟨rfl, rfl, rfl⟩ := hcs
    exact ⟨[], .inl ⟨rfl, rfl⟩⟩
  · simp [Value.cells] at hcs
    obtain ⟨rfl, rfl, rfl⟩ := hcs
    have hs : x.spot = none := by
      simp only [Value.okWide, Tryz.underlying24, Cell.okWide, Cell.ok, World.has] at hok
      exact hok.2.2.2.1
    obtain ⟨b, off, spot⟩ := x
    subst hs
    have e : ∀ i, (⟨b, off, none⟩ : Addr).add i = ⟨b, off + i, none⟩ := fun i => by unfold Addr.add; split <;> simp_all
    obtain ⟨q, hq⟩ := Deep.choose_lt (α := Int × Int × Int) (n := l) (p := fun i x => W.cell? ⟨b, off + i * 3, none⟩ = some (.int .i32 x.1) ∧ W.cell? ⟨b, off + i * 3 + 1, none⟩ = some (.int .i32 x.2.1) ∧ W.cell? ⟨b, off + i * 3 + 2, none⟩ = some (.int .i32 x.2.2)) (fun i hi => by
      obtain ⟨v0, v1, v2, y0, y1, y2, c0, c1, c2, t0, t1, t2⟩ := hcell i hi
      obtain ⟨x1, e1, _, _⟩ := DataW.trod_int Tryz.underlying21 t0
      obtain ⟨x2, e2, _, _⟩ := DataW.trod_int Tryz.underlying21 t1
      obtain ⟨x3, e3, _, _⟩ := DataW.trod_int Tryz.underlying21 t2
      simp only [List.cons.injEq, and_true] at e1 e2 e3
      subst e1 e2 e3
      rw [e] at c0 c1 c2
      rw [← Nat.add_assoc] at c1 c2
      exact ⟨(x1, x2, x3), c0, c1, c2⟩)
    refine ⟨(List.range l).map q, .inr ⟨b, off, c, by simp, by simpa using hl, hm, fun i u hu => ?_⟩⟩
    simp only [List.getElem?_map] at hu
    obtain ⟨j, hj, hj2⟩ := Option.map_eq_some_iff.1 hu
    obtain ⟨hi, rfl⟩ := List.getElem?_eq_some_iff.1 hj
    simp only [List.length_range] at hi
    simp only [List.getElem_range] at hj2
    subst hj2
    exact hq i hi

theorem rs_arg {H : Type} {enc : TypeId × Value → H} {W : World} {base : Nat} {sp : Nat → Bool} {a : Option Addr} {l c : Nat} {d : DataW H} {ps : List MemPlace}
    (hok : Value.okWide Tryz.prog W .any base 50 (.slice a l c)) (h : DataW.Trod enc Tryz.prog W 0 sp true 50 (.slice a l c) d ps) : ∃ bs, RS W (.slice a l c) bs := by
  obtain ⟨bs, h⟩ := U.runes_arg hok h
  exact ⟨bs, rs_of_row h⟩
end Go.Proofs.YtpdacbiiaglodaaGreat
