/-
  LAYER 6 (norm), plain: what putting a list in order keeps.
-/
import Derived.Test.YtpdacbiiaglodaaGreatQC23
import Derived.Test.YtpdacbiiaglodaaGreatQC33
import Derived.ProofKit
import Derived.OpenShut
import Derived.Test.YtpdacbiiaglodaaGreatQC13
import Derived.Test.YtpdacbiiaglodaaGreatQC34
import Derived.Deep.SlicePairs
import Derived.Test.YtpdacbiiaglodaaGreatQC41
namespace Go.Proofs.YtpdacbiiaglodaaGreat
set_option maxRecDepth 100000

section
variable (f : Int → Int)
theorem insR_starter (out : List Int) (r : Int) (i : Nat) (u : Int) (h : (out ++ [r])[i]? = some u) (hu : f u = 0) : (insR f out r)[i]? = some u := by
  obtain ⟨S1, S2, e, q1, q2, _⟩ := insR_split f out r
  subst e
  rw [q1]
  by_cases hi : i < S1.length
  · rw [List.getElem?_append_left hi]
    rwa [List.append_assoc, List.getElem?_append_left hi] at h
  · cases S2 with
    | nil => simpa using h
    | cons y t =>
      have hy := q2 y (by simp)
      rw [List.append_assoc, List.getElem?_append_right (by omega)] at h
      have hm := List.mem_of_getElem? h
      rcases List.mem_append.1 hm with hm | hm
      · have := q2 u hm; omega
      · simp only [List.mem_cons, List.not_mem_nil, or_false] at hm
        subst hm; omega
theorem foldl_starter : ∀ (l out : List Int) (i : Nat) (u : Int), (out ++ l)[i]? = some u → f u = 0 → (l.foldl (insR f) out)[i]? = some u
  | [], out, i, u, h, _ => by simpa using h
  | x :: t, out, i, u, h, hu => by
    rw [List.foldl_cons]
    refine foldl_starter t _ i u ?_ hu
    have hl := insR_length f out x
    by_cases hi : i < out.length + 1
    · rw [List.getElem?_append_left (by omega)]
      refine insR_starter f out x i u ?_ hu
      rwa [← List.singleton_append, ← List.append_assoc, List.getElem?_append_left (by simp; omega)] at h
    · rw [List.getElem?_append_right (by omega), hl]
      rw [← List.singleton_append, ← List.append_assoc, List.getElem?_append_right (by simp; omega)] at h
      simpa using h
theorem ord_starter (l : List Int) (i : Nat) (u : Int) (h : l[i]? = some u) (hu : f u = 0) : (ord f l)[i]? = some u := foldl_starter f l [] i u (by simpa using h) hu

/-- Of one class, or a starter. -/
def pk (k : Int) (u : Int) : Bool := decide (f u = k) || decide (f u = 0)
theorem insR_fil (k : Int) (out : List Int) (r : Int) : (insR f out r).filter (pk f k) = out.filter (pk f k) ++ [r].filter (pk f k) := by
  obtain ⟨S1, S2, e, q1, q2, _⟩ := insR_split f out r
  subst e
  rw [q1, List.filter_append, List.filter_append, List.append_assoc]
  congr 1
  cases hp : pk f k r with
  | false => simp [hp]
  | true =>
    have : S2.filter (pk f k) = [] := by
      rw [List.filter_eq_nil_iff]
      intro y hy
      have := q2 y hy
      simp only [pk, Bool.or_eq_true, decide_eq_true_eq] at hp ⊢
      omega
    simp [hp, this]
theorem foldl_fil (k : Int) : ∀ (l out : List Int), (l.foldl (insR f) out).filter (pk f k) = out.filter (pk f k) ++ l.filter (pk f k)
  | [], out => by simp
  | x :: t, out => by
    rw [List.foldl_cons, foldl_fil k t, insR_fil, List.append_assoc, ← List.filter_append]
    rfl
theorem ord_fil (k : Int) (l : List Int) : (ord f l).filter (pk f k) = l.filter (pk f k) := by simpa [ord] using foldl_fil f k l []
theorem Chn.get : ∀ {l : List Int} (i : Nat) (x y : Int), Chn f l → l[i]? = some x → l[i + 1]? = some y → ¬ (0 < f y ∧ f y < f x)
  | [], _, _, _, _, h, _ => by simp at h
  | a :: t, 0, x, y, h, h1, h2 => by
    simp only [List.getElem?_cons_zero, Option.some.injEq] at h1
    subst h1
    refine h.1 y ?_
    cases t with
    | nil => simp at h2
    | cons z t => simpa using h2
  | a :: t, i + 1, x, y, h, h1, h2 => Chn.get i x y h.2 (by simpa using h1) (by simpa using h2)
theorem fil_snoc (k : Int) (l : List Int) (i : Nat) (u : Int) (h : l[i]? = some u) : (l.take (i + 1)).filter (pk f k) = (l.take i).filter (pk f k) ++ if pk f k u = true then [u] else [] := by
  rw [List.take_add_one, h, List.filter_append]
  cases hp : pk f k u <;> simp [hp]
end
end Go.Proofs.YtpdacbiiaglodaaGreat

/-
  ARGUMENTS OF A LAW, OPENED: a slice of runes that came in reads as runes.
-/
namespace Go.Proofs.YtpdacbiiaglodaaGreat.U
set_option maxRecDepth 100000
open Go.ChangeShapes Go.WideShapes Go.ChangeAt Go.RowKit

theorem runes_arg {H : Type} {enc : TypeId × Value → H} {W : World} {base : Nat} {sp : Nat → Bool} {a : Option Addr} {l c : Nat} {d : DataW H} {ps : List MemPlace}
    (hok : Value.okWide Tryz.prog W .any base 50 (.slice a l c)) (h : DataW.Trod enc Tryz.prog W 0 sp true 50 (.slice a l c) d ps) : ∃ bs, Runes W (.slice a l c) bs := by
  obtain ⟨fuel, hf⟩ := h
  rcases open_ints Tryz.underlying50 Tryz.underlying21 (by kernel_rfl) hf with ⟨hcs, _⟩ | ⟨x, l', c', zs, hcs, _, hl, hm, hz, _, hcell, hwz⟩
  · simp [Value.cells] at hcs
    obtain ⟨rfl, rfl, rfl⟩ := hcs
    exact ⟨[], .inl ⟨rfl, rfl⟩⟩
  · simp [Value.cells] at hcs
    obtain ⟨rfl, rfl, rfl⟩ := hcs
    have hs : x.spot = none := by
      simp only [Value.okWide, Tryz.underlying50, Cell.okWide, Cell.ok, World.has] at hok
      exact hok.2.2.2.1
    obtain ⟨b, off, spot⟩ := x
    subst hs
    have hzl : l ≤ zs.length := by rw [hz]; split <;> omega
    have hlen : (runeCells (zs.take l)).length = l := by simp [runeCells]; omega
    refine ⟨zs.take l, .inr ⟨b, off, c, ?_, by omega, hm, fun i u hu => ?_⟩⟩
    · rw [hlen]
    · have hi : i < l := by have := (List.getElem?_eq_some_iff.1 hu).1; omega
      have hc := hcell i (by omega)
      have e : (⟨b, off, none⟩ : Addr).add i = ⟨b, off + i, none⟩ := by unfold Addr.add; split <;> simp_all
      rw [e] at hc
      have hgz : zs[i]? = some (zs.getD i 0) := by rw [List.getD_eq_getElem?_getD, List.getElem?_eq_getElem (by omega)]; rfl
      simp only [runeCells, List.getElem?_map, List.getElem?_take, if_pos hi, hgz, Option.map_some, Option.some.injEq] at hu
      subst hu
      exact hc
end Go.Proofs.YtpdacbiiaglodaaGreat.U

/-
  LAYER 6 (norm): ARGUMENTS OF A LAW, OPENED: slices of classes, of decompositions, of code points that came in.
-/
namespace Go.Proofs.YtpdacbiiaglodaaGreat
set_option maxRecDepth 100000
open Go.ChangeShapes Go.WideShapes Go.ChangeAt Go.RowKit

/-- A slice of structs of three cells each, opened at every index below its length. -/
theorem open_threes {H : Type} {enc : TypeId × Value → H} {P : Program} {w : World} {base : Nat} {spare : Nat → Bool} {held : Bool} {t e : TypeId} {f0 f1 f2 : Field} {fuel : Nat} {cs : List Value} {x : DataW H × List MemPlace}
    (ht : P.underlying t = some (.slice e)) (he : P.underlying e = some (.struct #[f0, f1, f2])) (ce : P.cellsOf e = 3) (o0 : f0.offset = 0) (o1 : f1.offset = 1) (o2 : f2.offset = 2) (c0 : P.cellsOf f0.type = 1) (c1 : P.cellsOf f1.type = 1) (c2 : P.cellsOf f2.type = 1)
    (h : DataW.trod enc P w base spare held fuel t cs = some x) :
    cs = [.slice none 0 0] ∨ ∃ (a : Addr) (len cap n : Nat), cs = [.slice (some a) len cap] ∧ len ≤ cap ∧ cap ≤ maxLen ∧ ∀ i, i < len → ∃ v0 v1 v2 y0 y1 y2, w.cell? (a.add (i * 3)) = some v0 ∧ w.cell? (a.add (i * 3 + 1)) = some v1 ∧ w.cell? (a.add (i * 3 + 2)) = some v2 ∧
      DataW.trod enc P w base spare held n f0.type [v0] = some y0 ∧ DataW.trod enc P w base spare held n f1.type [v1] = some y1 ∧ DataW.trod enc P w base spare held n f2.type [v2] = some y2 := by
  rcases Deep.open_slice ht h with ⟨h0, _⟩ | ⟨a, len, cap, m, n, D, Pl, rfl, hb, hl, hm, hmm, rfl, hx⟩
  · exact .inl h0
  refine .inr ⟨a, len, cap, n - 1, rfl, hl, hm, fun i hi => ?_⟩
  have hlm : len ≤ m := by rw [hmm]; split <;> omega
  obtain ⟨cs', h1, h2⟩ := hx i (by omega)
  rw [ce] at h1
  obtain ⟨_, hlen, hcell⟩ := World.cells?_some h1
  obtain ⟨xs, k, hk, hxy, _, hxl, hf⟩ := DataW.trod_struct he h2
  have hk' : k = n - 1 := by omega
  subst hk'
  match xs, hxl, cs', hlen with
  | [y0, y1, y2], _, [v0, v1, v2], _ =>
    have g0 := hf 0 f0 rfl
    have g1 := hf 1 f1 rfl
    have g2 := hf 2 f2 rfl
    simp [o0, o1, o2, c0, c1, c2] at g0 g1 g2
    have e0 := hcell 0 (by omega)
    have e1 := hcell 1 (by omega)
    have e2 := hcell 2 (by omega)
    rw [Deep.add_add] at e0 e1 e2
    exact ⟨v0, v1, v2, y0, y1, y2, by simpa using e0, by simpa using e1, by simpa using e2, g0, g1, g2⟩

theorem cls_arg {H : Type} {enc : TypeId × Value → H} {W : World} {base : Nat} {sp : Nat → Bool} {a : Option Addr} {l c : Nat} {d : DataW H} {ps : List MemPlace}
    (hok : Value.okWide Tryz.prog W .any base 23 (.slice a l c)) (h : DataW.Trod enc Tryz.prog W 0 sp true 23 (.slice a l c) d ps) : ∃ L, Tri .i64 W (.slice a l c) L := by
  obtain ⟨fuel, hf⟩ := h
  rcases open_threes Tryz.underlying23 Tryz.underlying104 (by kernel_rfl) rfl rfl rfl (by kernel_rfl) (by kernel_rfl) (by kernel_rfl) hf with hcs | ⟨x, l', c', n, hcs, hl, hm, hcell⟩
  · simp [Value.cells] at hcs
    obtain ⟨rfl, rfl, rfl⟩ := hcs
    exact ⟨[], .inl ⟨rfl, rfl⟩⟩
  · simp [Value.cells] at hcs
    obtain ⟨rfl, rfl, rfl⟩ := hcs
    have hs : x.spot = none := by
      simp only [Value.okWide, Tryz.underlying23, Cell.okWide, Cell.ok, World.has] at hok
      exact hok.2.2.2.1
    obtain ⟨b, off, spot⟩ := x
    subst hs
    have e : ∀ i, (⟨b, off, none⟩ : Addr).add i = ⟨b, off + i, none⟩ := fun i => by unfold Addr.add; split <;> simp_all
    obtain ⟨q, hq⟩ := Deep.choose_lt (α := Int × Int × Int) (n := l) (p := fun i x => W.cell? ⟨b, off + i * 3, none⟩ = some (.int .i32 x.1) ∧ W.cell? ⟨b, off + i * 3 + 1, none⟩ = some (.int .i32 x.2.1) ∧ W.cell? ⟨b, off + i * 3 + 2, none⟩ = some (.int .i64 x.2.2)) (fun i hi => by
      obtain ⟨v0, v1, v2, y0, y1, y2, c0, c1, c2, t0, t1, t2⟩ := hcell i hi
      obtain ⟨x1, e1, _, _⟩ := DataW.trod_int Tryz.underlying21 t0
      obtain ⟨x2, e2, _, _⟩ := DataW.trod_int Tryz.underlying21 t1
      obtain ⟨x3, e3, _, _⟩ := DataW.trod_int Tryz.underlying3 t2
      simp only [List.cons.injEq, and_true] at e1 e2 e3
      subst e1 e2 e3
      rw [e] at c0 c1 c2
      rw [← Nat.add_assoc] at c1 c2
      exact ⟨(x1, x2, x3), c0, c1, c2⟩)
    refine ⟨(List.range l).map q, .inr ⟨b, off, c, by simp, by simpa using hl, hm, fun i u hu => ?_⟩⟩
    simp only [List.getElem?_map] at hu
    obtain ⟨j, hj, hj2⟩ := Option.map_eq_some_iff.1 hu
    obtain ⟨hi, rfl⟩ := List.getElem?_eq_some_iff.1 hj
    simp only [List.length_range] at hi
    simp only [List.getElem_range] at hj2
    subst hj2
    exact hq i hi
theorem dec_arg {H : Type} {enc : TypeId × Value → H} {W : World} {base : Nat} {sp : Nat → Bool} {a : Option Addr} {l c : Nat} {d : DataW H} {ps : List MemPlace}
    (hok : Value.okWide Tryz.prog W .any base 24 (.slice a l c)) (h : DataW.Trod enc Tryz.prog W 0 sp true 24 (.slice a l c) d ps) : ∃ L, Tri .i32 W (.slice a l c) L := by
  obtain ⟨fuel, hf⟩ := h
  rcases open_threes Tryz.underlying24 Tryz.underlying106 (by kernel_rfl) rfl rfl rfl (by kernel_rfl) (by kernel_rfl) (by kernel_rfl) hf with hcs | ⟨x, l', c', n, hcs, hl, hm, hcell⟩
  · simp [Value.cells] at hcs
    obtain ⟨rfl, rfl, rfl⟩ := hcs
    exact ⟨[], .inl ⟨rfl, rfl⟩⟩
  · simp [Value.cells] at hcs
    obtain ⟨rfl, rfl, rfl⟩ := hcs
    have hs : x.spot = none := by
      simp only [Value.okWide, Tryz.underlying24, Cell.okWide, Cell.ok, World.has] at hok
      exact hok.2.2.2.1
    obtain ⟨b, off, spot⟩ := x
    subst hs
    have e : ∀ i, (⟨b, off, none⟩ : Addr).add i = ⟨b, off + i, none⟩ := fun i => by unfold Addr.add; split <;> simp_all
    obtain ⟨q, hq⟩ := Deep.choose_lt (α := Int × Int × Int) (n := l) (p := fun i x => W.cell? ⟨b, off + i * 3, none⟩ = some (.int .i32 x.1) ∧ W.cell? ⟨b, off + i * 3 + 1, none⟩ = some (.int .i32 x.2.1) ∧ W.cell? ⟨b, off + i * 3 + 2, none⟩ = some (.int .i32 x.2.2)) (fun i hi => by
      obtain ⟨v0, v1, v2, y0, y1, y2, c0, c1, c2, t0, t1, t2⟩ := hcell i hi
      obtain ⟨x1, e1, _, _⟩ := DataW.trod_int Tryz.underlying21 t0
      obtain ⟨x2, e2, _, _⟩ := DataW.trod_int Tryz.underlying21 t1
      obtain ⟨x3, e3, _, _⟩ := DataW.trod_int Tryz.underlying21 t2
      simp only [List.cons.injEq, and_true] at e1 e2 e3
      subst e1 e2 e3
      rw [e] at c0 c1 c2
      rw [← Nat.add_assoc] at c1 c2
      exact ⟨(x1, x2, x3), c0, c1, c2⟩)
    refine ⟨(List.range l).map q, .inr ⟨b, off, c, by simp, by simpa using hl, hm, fun i u hu => ?_⟩⟩
    simp only [List.getElem?_map] at hu
    obtain ⟨j, hj, hj2⟩ := Option.map_eq_some_iff.1 hu
    obtain ⟨hi, rfl⟩ := List.getElem?_eq_some_iff.1 hj
    simp only [List.length_range] at hi
    simp only [List.getElem_range] at hj2
    subst hj2
    exact hq i hi

theorem rs_arg {H : Type} {enc : TypeId × Value → H} {W : World} {base : Nat} {sp : Nat → Bool} {a : Option Addr} {l c : Nat} {d : DataW H} {ps : List MemPlace}
    (hok : Value.okWide Tryz.prog W .any base 50 (.slice a l c)) (h : DataW.Trod enc Tryz.prog W 0 sp true 50 (.slice a l c) d ps) : ∃ bs, RS W (.slice a l c) bs := by
  obtain ⟨bs, h⟩ := U.runes_arg hok h
  exact ⟨bs, rs_of_row h⟩
end Go.Proofs.YtpdacbiiaglodaaGreat

/-
  LAYER 6 (norm): the reference's data: Class, Decomp.
-/
namespace Go.Proofs.YtpdacbiiaglodaaGreat
set_option maxRecDepth 100000
open Go.RowKit Go.Lib

theorem rCls_any (vc vd : Value) (c : List Cls) (d : List Dec) (r : Int) (w : World) (hT : Dat w vc vd c d) :
    Calls Tryz.prog 40 #[.agg #[vc, vd], .int .i32 r] w fun e w' => e = .returned (.int .i64 (clsOf c r)) ∧ w.grownBy w' none := by
  have hC := fun W (hg : w.grownBy W none) => refClass_any vc c r W (hT.1.all hg)
  obtain ⟨a1, c1, rfl, _, _⟩ := hT.1.form
  obtain ⟨a2, c2, rfl, _, _⟩ := hT.2.form
  generalize c.length = cl at hC ⊢
  generalize d.length = dl at hC ⊢
  have hgA := World.grownBy_alloc w (.cells #[.slice a1 cl c1, .slice a2 dl c2] 59) none
  obtain ⟨n0, n1, m0⟩ := pair_new w (.slice a1 cl c1) (.slice a2 dl c2) 59
  have hCA := hC _ hgA
  clear hT hC
  go_enter Tryz.func40, Tryz.ntmps40
  go_wp2_with (go_at_call 76; refine hCA.mono ?_; rintro e w1 ⟨rfl, hg1⟩)
  go_ret
  exact ⟨rfl, hgA.trans hg1⟩

theorem refDecomp_any (vd : Value) (c : List Cls) (d : List Dec) (r : Int) (w : World) (hT : Tri .i32 w vd d) (h : good c d = true) :
    Calls Tryz.prog 109 #[vd, .int .i32 r] w fun e w' => ∃ v, e = .returned v ∧ w'.ownsRow w.heap.size 21 1 v (told' d r).length (rCells (told' d r)) ∧ w.grownBy w' none := by
  obtain ⟨g1, g2, g3, g4⟩ := good_parts h
  have hsyl : ∀ y ∈ d, syl y.1 = false := fun y hy => by
    have := decsOk_mem g4 y hy
    simp only [decOk, codesOk, Bool.and_eq_true, Bool.not_eq_true'] at this
    exact this.1.1.2.1.1.1.1.1.2
  have hmb : ∀ y ∈ d, mb d 4 y = true := fun y hy => by
    have := decsOk_mem g4 y hy
    simp only [decOk, Bool.and_eq_true] at this
    exact this.1.2.2
  have hD := refDeep_ok vd d hsyl 4 r w (Nat.le_refl _) hT (fun y hy => hmb y (by unfold stp at hy; exact List.mem_of_find?_eq_some hy))
  have e : dval d 4 r = told' d r := by unfold dval told'; cases stp d r <;> rfl
  rw [e] at hD
  obtain ⟨a2, c2, rfl, _, _⟩ := hT.form
  generalize d.length = dl at hD ⊢
  clear h g1 g2 g3 g4 hT hsyl hmb e
  go_enter Tryz.func109, Tryz.ntmps109
  go_wp2_with (go_at_call 83; refine hD.mono ?_; rintro e w1 ⟨v1, rfl, ho1, hg1⟩)
  go_ret
  exact ⟨v1, rfl, ho1, hg1⟩

theorem rDec_any (vc vd : Value) (c : List Cls) (d : List Dec) (r : Int) (w : World) (hT : Dat w vc vd c d) (h : good c d = true) :
    Calls Tryz.prog 70 #[.agg #[vc, vd], .int .i32 r] w fun e w' => ∃ v, e = .returned v ∧ w'.ownsRow w.heap.size 21 1 v (told' d r).length (rCells (told' d r)) ∧ w.grownBy w' none := by
  have hC := fun W (hg : w.grownBy W none) => refDecomp_any vd c d r W (hT.2.all hg) h
  obtain ⟨a1, c1, rfl, _, _⟩ := hT.1.form
  obtain ⟨a2, c2, rfl, _, _⟩ := hT.2.form
  generalize c.length = cl at hC ⊢
  generalize d.length = dl at hC ⊢
  have hgA := World.grownBy_alloc w (.cells #[.slice a1 cl c1, .slice a2 dl c2] 59) none
  obtain ⟨n0, n1, m0⟩ := pair_new w (.slice a1 cl c1) (.slice a2 dl c2) 59
  have hCA := hC _ hgA
  clear hT hC h
  go_enter Tryz.func70, Tryz.ntmps70
  go_wp2_with (go_at_call 109; refine hCA.mono ?_; rintro e w1 ⟨v1, rfl, ho1, hg1⟩)
  go_ret
  exact ⟨v1, rfl, ownLow ho1 (hgA.size), hgA.trans hg1⟩
end Go.Proofs.YtpdacbiiaglodaaGreat
