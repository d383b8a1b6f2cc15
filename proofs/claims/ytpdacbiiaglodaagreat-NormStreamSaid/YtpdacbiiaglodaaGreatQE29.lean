/-
  LAYER 6 (norm): the laws' data.
-/
import Derived.Test.YtpdacbiiaglodaaGreatQE21
import Derived.Test.YtpdacbiiaglodaaGreatQE23
import Derived.Test.YtpdacbiiaglodaaGreatQE24
import Derived.Test.YtpdacbiiaglodaaGreatQE28
import Derived.Test.YtpdacbiiaglodaaGreatQE04
import Derived.Test.YtpdacbiiaglodaaGreatQE10
import Derived.Shelf.SlSortCmp.HeapSortK
namespace Go.Proofs.YtpdacbiiaglodaaGreat
set_option maxRecDepth 100000
open Go.RowKit Go.Lib

theorem pair_new (w : World) (a b : Value) (t : TypeId) : (w.alloc (.cells #[a, b] t)).cell? ⟨w.heap.size, 0, none⟩ = some a ∧ (w.alloc (.cells #[a, b] t)).cell? ⟨w.heap.size, 1, none⟩ = some b ∧ ∀ i, (w.alloc (.cells #[a, b] t)).frozen? ⟨w.heap.size, i, none⟩ = false := by
  have kn := World.alloc_heap_new w (.cells #[a, b] t)
  refine ⟨?_, ?_, fun i => ?_⟩
  · simp only [World.cell?, kn]; rfl
  · simp only [World.cell?, kn]; rfl
  · simp only [World.frozen?, kn]; simp
/-- Fresh data: of the blocks before theirs, only such with a code point in it. -/
def intAt (w : World) (k : Nat) : Prop := ∃ i x, w.cell? ⟨k, i, none⟩ = some (.int .i32 x)
def footI (w : World) (n k : Nat) : Prop := k = n ∨ (k < n ∧ intAt w k)
theorem pair_noint {w : World} {q : Nat} {a b a' b' : Nat} {p p' : Option Addr} {t : TypeId} {z : Nat × Nat} (h : w.heap[q]? = some (.cells #[.slice p a b, .slice p' a' b'] t z)) : ¬ intAt w q := by
  rintro ⟨i, x, hi⟩
  simp only [World.cell?, h] at hi
  match i with
  | 0 => simp at hi
  | 1 => simp at hi
  | i + 2 => simp at hi
theorem tri_int {k : IntKind} {w : World} {v : Value} {l : List (Int × Int × Int)} (h : Tri k w v l) (hn : l ≠ []) : ∀ q, v.ownBlock = some q → intAt w q := by
  rcases h with ⟨rfl, h⟩ | ⟨b, off, cap, rfl, _, _, hc⟩
  · exact absurd h hn
  · intro q hq
    simp [Value.ownBlock] at hq
    subst hq
    obtain ⟨x, t, rfl⟩ := List.exists_cons_of_ne_nil hn
    exact ⟨_, _, (hc 0 x rfl).1⟩
theorem Nrm.footI {w : World} {n : Nat} {c : List Cls} {d : List Dec} (h : Nrm w n c d false) : NrmF w n c d false (footI w n) := by
  obtain ⟨vc, vd, mv, h1, h2, h3, h4, h5, h6⟩ := h
  exact ⟨vc, vd, mv, h1, fun a k e => ⟨h2 a k e, .inr ⟨h2 a k e, tri_int h1.1 a k e⟩⟩, fun a k e => ⟨h3 a k e, .inr ⟨h3 a k e, tri_int h1.2 a k e⟩⟩, h4, .inl rfl, h5, (fun e => by cases e), fun k hk => by rcases hk with rfl | ⟨hk, _⟩; exact h4.lt; exact Nat.lt_trans hk h4.lt⟩

set_option maxHeartbeats 4000000 in
theorem data_any (vc vd : Value) (c : List Cls) (d : List Dec) (w : World) (hT : Dat w vc vd c d) (h : good c d = true) (hc : c.length ≤ 200) (hd : d.length ≤ 200) :
    Calls Tryz.prog 27 #[vc, vd] w fun e w' => ∃ n, e = .returned (.tuple #[.pointer (some ⟨n, 0, none⟩), .agg #[vc, vd], .bool true]) ∧ w.heap.size ≤ n ∧ (∃ F : Nat → Prop, ND (.pointer (some ⟨n, 0, none⟩)) (clsOf c) (told' d) F w' ∧ ∀ k, k < w.heap.size → F k → intAt w k) ∧ w.grownBy w' none := by
  have hB := fun W (hg : w.grownBy W none) => refBuild_ok vc vd c d W (hT.all hg) h
  have hL := fun v W hr => Load_ok v c d W hr h
  obtain ⟨a1, c1, rfl, _, _⟩ := hT.1.form
  obtain ⟨a2, c2, rfl, _, _⟩ := hT.2.form
  generalize hfr : frame (payload c d) = FR at hB hL
  generalize hcl : c.length = cl at hB hc ⊢
  generalize hdl : d.length = dl at hB hd ⊢
  have HF := Lib.hid h
  clear hfr hcl hdl hT h
  go_enter Tryz.func27, Tryz.ntmps27
  go_wp2_with fail
  go_at_call 12
  refine (hB _ (World.grownBy_alloc w _ none)).mono ?_
  rintro e w1 ⟨v1, rfl, hr1, hg1⟩
  clear hB
  go_wp2_with fail
  go_at_call 41
  refine (hL _ _ hr1).mono ?_
  rintro e w2 ⟨n, rfl, hn, hN, hg2⟩
  clear hL
  have kd := ((hg1.trans hg2).block w.heap.size (by simp) (by simp)).trans (World.alloc_heap_new w _)
  have d0 : w2.cell? ⟨w.heap.size, 0, none⟩ = some (.slice none 0 0) := by simp [World.cell?, kd]
  have d1 : w2.cell? ⟨w.heap.size, 1, none⟩ = some (.slice none 0 0) := by simp [World.cell?, kd]
  have f0 : ∀ i, w2.frozen? ⟨w.heap.size, i, none⟩ = false := by simp [World.frozen?, kd]
  have HN := Lib.hid hN
  clear hN
  go_wp2_with fail
  have gs0 : w2.grownBy (w2.setCell ⟨w.heap.size, 0, none⟩ (.slice a1 cl c1)) (some w.heap.size) := gset (World.grownBy.refl w2 _) 0 _
  have gs : w2.grownBy ((w2.setCell ⟨w.heap.size, 0, none⟩ (.slice a1 cl c1)).setCell ⟨w.heap.size, 1, none⟩ (.slice a2 dl c2)) (some w.heap.size) := gset gs0 1 _
  have hs1 := hg1.size
  rw [World.size_alloc] at hs1
  have hg : w.grownBy w2 none := ((World.grownBy_alloc w _ none).trans hg1).trans hg2
  have e0 := heap_setCell_same w2 w.heap.size 0 _ _ (.slice a1 cl c1) kd
  have e1 := heap_setCell_same _ w.heap.size 1 _ _ (.slice a2 dl c2) e0
  refine bodyPost_ret (v := .tuple #[.pointer (some ⟨n, 0, none⟩), .agg #[.slice a1 cl c1, .slice a2 dl c2], .bool true]) (by simp [results, Tryz.results27, go_sem, World.cell?, e1]) rfl ⟨n, rfl, by omega, ⟨footI w2 n, .inr ⟨n, c, d, false, rfl, HN.out.footI.grown gs ?_, HF.out, rfl, rfl⟩, ?_⟩, gnew hg gs (fun r e => by cases e; left; omega)⟩
  · intro k e hf
    cases e
    rcases hf with h | ⟨_, i, x, h⟩
    · omega
    · simp only [World.cell?, kd] at h
      match i with
      | 0 => simp at h
      | 1 => simp at h
      | i + 2 => simp at h
  · intro k hk hf
    rcases hf with h | ⟨_, i, x, h⟩
    · omega
    · exact ⟨i, x, by rw [← h]; exact (World.cell?_of_block (a := ⟨k, i, none⟩) (hg.block k hk (by simp))).symm⟩

set_option maxHeartbeats 4000000 in
theorem small_any (w : World) :
    Calls Tryz.prog 20 #[] w fun e w' => ∃ n vc vd, e = .returned (.tuple #[.pointer (some ⟨n, 0, none⟩), .agg #[vc, vd]]) ∧ w.heap.size ≤ n ∧ Dat w' vc vd smallC smallD ∧ (∃ F : Nat → Prop, ND (.pointer (some ⟨n, 0, none⟩)) (clsOf smallC) (told' smallD) F w' ∧ ∀ k, k < w.heap.size → F k → intAt w k) ∧ w.grownBy w' none := by
  have hR := fun w => refSmall_any w
  have hD := fun vc vd w hT => data_any vc vd smallC smallD w hT small_good (by decide) (by decide)
  generalize smallC = sc at hR hD ⊢
  generalize smallD = sd at hR hD ⊢
  go_enter Tryz.func20, Tryz.ntmps20
  go_wp2_with fail
  go_at_call 11
  refine (hR _).mono ?_
  rintro e w1 ⟨vc, vd, rfl, hT, hg1⟩
  clear hR
  obtain ⟨x1, y1, rfl, _, _⟩ := hT.1.form
  obtain ⟨x2, y2, rfl, _, _⟩ := hT.2.form
  generalize hl1 : sc.length = l1 at hT
  generalize hl2 : sd.length = l2 at hT
  replace hl1 := Lib.hid hl1
  replace hl2 := Lib.hid hl2
  go_wp2_with fail
  go_at_call 27
  refine (hD _ _ _ hT).mono ?_
  rintro e w2 ⟨n, rfl, hn, hN, hg2⟩
  clear hD
  have HN := Lib.hid hN
  clear hN
  go_wp2_with fail
  have hga := World.grownBy_alloc w2 (.cells #[.slice x1 l1 y1, .slice x2 l2 y2] 59) none
  obtain ⟨n0, n1, m0⟩ := pair_new w2 (.slice x1 l1 y1) (.slice x2 l2 y2) 59
  generalize w2.alloc (.cells #[.slice x1 l1 y1, .slice x2 l2 y2] 59) = W at n0 n1 m0 hga ⊢
  have kd := (((hg1.trans hg2).trans hga).block w.heap.size (by simp) (by simp)).trans (World.alloc_heap_new w _)
  have d0 : W.cell? ⟨w.heap.size, 0, none⟩ = some (.slice none 0 0) := by simp [World.cell?, kd]
  have d1 : W.cell? ⟨w.heap.size, 1, none⟩ = some (.slice none 0 0) := by simp [World.cell?, kd]
  have f0 : ∀ i, W.frozen? ⟨w.heap.size, i, none⟩ = false := by simp [World.frozen?, kd]
  go_region
  go_wp2_with fail
  have gs0 : W.grownBy (W.setCell ⟨w.heap.size, 0, none⟩ (.slice x1 l1 y1)) (some w.heap.size) := gset (World.grownBy.refl W _) 0 _
  have gs1 : W.grownBy ((W.setCell ⟨w.heap.size, 0, none⟩ (.slice x1 l1 y1)).setCell ⟨w.heap.size, 1, none⟩ (.slice x2 l2 y2)) (some w.heap.size) := gset gs0 1 _
  have gs := gdrew gs1
  have kd1 := (hg1.block w.heap.size (by simp) (by simp)).trans (World.alloc_heap_new w _)
  have hni := pair_noint kd1
  have e0 := heap_setCell_same W w.heap.size 0 _ _ (.slice x1 l1 y1) kd
  have e1 := heap_setCell_same _ w.heap.size 1 _ _ (.slice x2 l2 y2) e0
  have hs1 := hg1.size
  rw [World.size_alloc] at hs1
  have hw1 : w.grownBy w1 none := (World.grownBy_alloc w _ none).trans hg1
  have hg : w.grownBy W none := (hw1.trans hg2).trans hga
  have e2 : (((W.setCell ⟨w.heap.size, 0, none⟩ (.slice x1 l1 y1)).setCell ⟨w.heap.size, 1, none⟩ (.slice x2 l2 y2)).drew).heap[w.heap.size]? = _ := e1
  generalize ((W.setCell ⟨w.heap.size, 0, none⟩ (.slice x1 l1 y1)).setCell ⟨w.heap.size, 1, none⟩ (.slice x2 l2 y2)).drew = V at gs e2 ⊢
  refine bodyPost_ret (v := .tuple #[.pointer (some ⟨n, 0, none⟩), .agg #[.slice x1 l1 y1, .slice x2 l2 y2]]) (by simp [results, Tryz.results20, go_sem, World.cell?, e2]) rfl ⟨n, _, _, rfl, by omega, ?_, ?_, gnew hg gs (fun r e => by cases e; left; omega)⟩
  · have hg3 := hg2.trans hga
    have key : ∀ k, k < w1.heap.size → intAt w1 k → V.heap[k]? = w1.heap[k]? := fun k hk hi => (gs.block k (Nat.lt_of_lt_of_le hk hg3.size) (fun e => by cases e; exact hni hi)).trans (hg3.block k hk (by simp))
    exact ⟨hT.1.heap fun a k e => key k (hT.1.lt a k e) (tri_int hT.1 a k e), hT.2.heap fun a k e => key k (hT.2.lt a k e) (tri_int hT.2 a k e)⟩
  · obtain ⟨F, hF1, hF2⟩ := HN.out
    refine ⟨F, (hF1.new hga).grown gs (fun k e => by cases e; exact fun hf => hni (hF2 _ (by omega) hf)), fun k hk hf => ?_⟩
    obtain ⟨i, x, h⟩ := hF2 k (by omega) hf
    exact ⟨i, x, by rw [← h]; exact (World.cell?_of_block (a := ⟨k, i, none⟩) (hw1.block k hk (by simp))).symm⟩
end Go.Proofs.YtpdacbiiaglodaaGreat

/-
  LAYER 6 (norm): the reference's data: Class, Decomp.
-/
namespace Go.Proofs.YtpdacbiiaglodaaGreat
set_option maxRecDepth 100000
open Go.RowKit Go.Lib

theorem rCls_any (vc vd : Value) (c : List Cls) (d : List Dec) (r : Int) (w : World) (hT : Dat w vc vd c d) :
    Calls Tryz.prog 40 #[.agg #[vc, vd], .int .i32 r] w fun e w' => e = .returned (.int .i64 (clsOf c r)) ∧ w.grownBy w' none := by
  have hC := fun W (hg : w.grownBy W none) => refClass_any vc c r W (hT.1.all hg)
  obtain ⟨a1, c1, rfl, _, _⟩ := hT.1.form
  obtain ⟨a2, c2, rfl, _, _⟩ := hT.2.form
  generalize c.length = cl at hC ⊢
  generalize d.length = dl at hC ⊢
  have hgA := World.grownBy_alloc w (.cells #[.slice a1 cl c1, .slice a2 dl c2] 59) none
  obtain ⟨n0, n1, m0⟩ := pair_new w (.slice a1 cl c1) (.slice a2 dl c2) 59
  have hCA := hC _ hgA
  clear hT hC
  go_enter Tryz.func40, Tryz.ntmps40
  go_wp2_with (go_at_call 76; refine hCA.mono ?_; rintro e w1 ⟨rfl, hg1⟩)
  go_ret
  exact ⟨rfl, hgA.trans hg1⟩

theorem refDecomp_any (vd : Value) (c : List Cls) (d : List Dec) (r : Int) (w : World) (hT : Tri .i32 w vd d) (h : good c d = true) :
    Calls Tryz.prog 109 #[vd, .int .i32 r] w fun e w' => ∃ v, e = .returned v ∧ w'.ownsRow w.heap.size 21 1 v (told' d r).length (rCells (told' d r)) ∧ w.grownBy w' none := by
  obtain ⟨g1, g2, g3, g4⟩ := good_parts h
  have hsyl : ∀ y ∈ d, syl y.1 = false := fun y hy => by
    have := decsOk_mem g4 y hy
    simp only [decOk, codesOk, Bool.and_eq_true, Bool.not_eq_true'] at this
    exact this.1.1.2.1.1.1.1.1.2
  have hmb : ∀ y ∈ d, mb d 4 y = true := fun y hy => by
    have := decsOk_mem g4 y hy
    simp only [decOk, Bool.and_eq_true] at this
    exact this.1.2.2
  have hD := refDeep_ok vd d hsyl 4 r w (Nat.le_refl _) hT (fun y hy => hmb y (by unfold stp at hy; exact List.mem_of_find?_eq_some hy))
  have e : dval d 4 r = told' d r := by unfold dval told'; cases stp d r <;> rfl
  rw [e] at hD
  obtain ⟨a2, c2, rfl, _, _⟩ := hT.form
  generalize d.length = dl at hD ⊢
  clear h g1 g2 g3 g4 hT hsyl hmb e
  go_enter Tryz.func109, Tryz.ntmps109
  go_wp2_with (go_at_call 83; refine hD.mono ?_; rintro e w1 ⟨v1, rfl, ho1, hg1⟩)
  go_ret
  exact ⟨v1, rfl, ho1, hg1⟩

theorem rDec_any (vc vd : Value) (c : List Cls) (d : List Dec) (r : Int) (w : World) (hT : Dat w vc vd c d) (h : good c d = true) :
    Calls Tryz.prog 70 #[.agg #[vc, vd], .int .i32 r] w fun e w' => ∃ v, e = .returned v ∧ w'.ownsRow w.heap.size 21 1 v (told' d r).length (rCells (told' d r)) ∧ w.grownBy w' none := by
  have hC := fun W (hg : w.grownBy W none) => refDecomp_any vd c d r W (hT.2.all hg) h
  obtain ⟨a1, c1, rfl, _, _⟩ := hT.1.form
  obtain ⟨a2, c2, rfl, _, _⟩ := hT.2.form
  generalize c.length = cl at hC ⊢
  generalize d.length = dl at hC ⊢
  have hgA := World.grownBy_alloc w (.cells #[.slice a1 cl c1, .slice a2 dl c2] 59) none
  obtain ⟨n0, n1, m0⟩ := pair_new w (.slice a1 cl c1) (.slice a2 dl c2) 59
  have hCA := hC _ hgA
  clear hT hC h
  go_enter Tryz.func70, Tryz.ntmps70
  go_wp2_with (go_at_call 109; refine hCA.mono ?_; rintro e w1 ⟨v1, rfl, ho1, hg1⟩)
  go_ret
  exact ⟨v1, rfl, ownLow ho1 (hgA.size), hgA.trans hg1⟩
end Go.Proofs.YtpdacbiiaglodaaGreat

/-
  LAYER 6 (norm): the stable sort's row (code points with their classes): what its bodies lean on, its comparison, insertion, exchange of ranges.
-/
namespace Go.Proofs.YtpdacbiiaglodaaGreat
set_option maxRecDepth 100000
open Go.Shelf Go.RowKit Go.Lib Go.Sort

def ins_ren : Go.Shelf.Ren := ⟨fun | 20 => 168 | n => n, fun | 22 => 168 | 24 => 170 | 25 => 173 | n => n, fun | n => n⟩
theorem insL : SlLaysF0.n20 Tryz.prog ins_ren := {
  mixed := by kernel_rfl
  f20 := ⟨Tryz.f168.name, by kernel_rfl, Tryz.func168.trans (congrArg some (by kernel_rfl))⟩
  t0 := Tryz.underlying0
  a0 := Tryz.isAgg0
  z0 := Tryz.sizeOf0
  v0 := Tryz.zeroValue0
  t3 := Tryz.underlying3
  a3 := Tryz.isAgg3
  z3 := Tryz.sizeOf3
  v3 := Tryz.zeroValue3
  t4 := Tryz.underlying4
  a4 := Tryz.isAgg4
  z4 := Tryz.sizeOf4
  v4 := Tryz.zeroValue4
  t22 := Tryz.underlying168
  a22 := Tryz.isAgg168
  z22 := Tryz.sizeOf168
  v22 := Tryz.zeroValue168
  t25 := Tryz.underlying173
  a25 := Tryz.isAgg173
  z25 := Tryz.sizeOf173
  v25 := Tryz.zeroValue173 }

/-- A code point with its class, in memory. -/
def kEnc (x : Int × Int) : List Value := [.int .i32 x.1, .int .i64 x.2]
/-- How two compare. -/
def kCmp (x y : Int × Int) : Int := Lib.compareInt x.2 y.2
theorem kCmp_lt (x y : Int × Int) : kCmp x y < 0 ↔ x.2 < y.2 := by
  unfold kCmp Lib.compareInt
  split
  · simp; omega
  · split <;> simp <;> omega
theorem ltOf_key (x y : Int × Int) : ltOf kCmp x y = true ↔ x.2 < y.2 := by
  unfold ltOf
  rw [decide_eq_true_eq]
  exact kCmp_lt x y
theorem kEnc_length (x : Int × Int) : (kEnc x).length = 2 := rfl
theorem kEnc_one (x : Int × Int) : ∀ v ∈ kEnc x, v.oneCell' = true := by
  intro v hv
  simp only [kEnc, List.mem_cons, List.not_mem_nil, or_false] at hv
  rcases hv with rfl | rfl <;> rfl

theorem kClosure (x y : Int × Int) (W : World) : Calls Tryz.prog 112 #[.agg #[.int .i32 x.1, .int .i64 x.2], .agg #[.int .i32 y.1, .int .i64 y.2]] W fun e w' => e = .returned (.int .i64 (kCmp x y)) ∧ ∃ q os', w' = grow (W.drewN q) os' := by
  have hcon := fun W' => Tryz.cmp_Compare_int x.2 y.2 W'
  unfold kCmp
  generalize Lib.compareInt x.2 y.2 = r at hcon ⊢
  go_enter Tryz.func112, Tryz.ntmps112
  go_wp2_with (go_at_call 113; refine (hcon _).mono ?_; rintro e w' ⟨rfl, rfl⟩)
  go_ret
  exact ⟨rfl, 0, _, by rw [alloc_eq_grow, alloc_eq_grow, grow_grow]; rfl⟩
theorem kCmpLays (blk off size : Nat) (w : World) : CmpLays Tryz.prog 112 #[] kEnc 2 kCmp blk off size w :=
  fun _ _ _ _ x y => kClosure x y _
theorem enters_kcmp : ∀ args w, (callFunc 112 args).run Tryz.prog w = .ok (.enter 112 args) w := enters_of Tryz.func112 (by kernel_rfl) rfl

/-- A row of them, among the worlds of its sort. -/
abbrev KRow (w0 : World) (blk off : Nat) (dk : Array (Int × Int)) (W : World) : Prop := SWK kEnc 2 w0 blk off dk W
abbrev KBase (w0 : World) (blk off : Nat) (d0 : Array (Int × Int)) : Prop := RowK kEnc 2 w0 blk off d0

theorem insertion_any (w0 w : World) (blk off cap : Nat) (d0 d : Array (Int × Int)) (X T Y : List (Int × Int)) (R : KBase w0 blk off d0) (hs : d0.size = d.size) (S : KRow w0 blk off d w) (hd : d.toList = X ++ (T ++ Y)) (hsz : d.size < 4611686018427387904) (a b : Nat) (ha : a = X.length) (hb : b = X.length + T.length) :
    Calls Tryz.prog 168 #[.slice (some ⟨blk, off, none⟩) d.size cap, .int .i64 a, .int .i64 b, .func (.func 112) #[] #[]] w fun e w' =>
      e = .returned (.tuple #[]) ∧ ∃ d' M, d'.toList = X ++ (M ++ Y) ∧ StM (fun x => x.2) T M ∧ KRow w0 blk off d' w' := by
  subst ha hb
  have hl : d.size = X.length + T.length + Y.length := by rw [size_list d _ hd]; simp; omega
  refine (AnyQ.insertionSortCmpFunc insL 2 Tryz.isAgg170 Tryz.sizeOf170 kEnc kEnc_length kEnc_one kCmp 112 #[] blk off cap X.length (X.length + T.length) d w enters_kcmp (kCmpLays _ _ _ _) (S.holds R.hblk R.hH hs.symm) (S.lt R.hblk) (by omega) (by omega) hsz).mono ?_
  rintro e w' ⟨rfl, n, os, rfl⟩
  obtain ⟨M, m1, m2⟩ := insertion_list (key := fun x : Int × Int => x.2) ltOf_key X T Y d hd
  refine ⟨rfl, _, M, m2, m1, S.on R.hblk n _ os ?_⟩
  rw [size_list _ _ m2, hl]
  have := m1.2.2
  simp
  omega
end Go.Proofs.YtpdacbiiaglodaaGreat

/-
  LAYER 6 (norm): the stable sort's exchange of two ranges.
-/
namespace Go.Proofs.YtpdacbiiaglodaaGreat
set_option maxRecDepth 100000
open Go.Shelf Go.RowKit Go.Lib Go.Sort

set_option maxHeartbeats 4000000 in
theorem swapRange_gen {Pg : Program} {α : Type} [Inhabited α] {enc : α → List Value} {k : Nat} (Lt : SlLaysF0.n20 Pg ins_ren) (aE : ∀ w, (isAgg 170).run Pg w = .ok true w) (zE : ∀ w, (Go.sizeOf 170).run Pg w = .ok k w)
    (FG : Pg.funcs[207]? = some Tryz.f207) (cf : Value) (w0 w : World) (blk off cap : Nat) (d0 d : Array α) (X P Z Q Y : List α) (R : RowK enc k w0 blk off d0) (hs : d0.size = d.size) (S : SWK enc k w0 blk off d w) (hd : d.toList = X ++ (P ++ (Z ++ (Q ++ Y)))) (he : P.length = Q.length) (hsz : d.size < 4611686018427387904)
    (a b n : Nat) (ha : a = X.length) (hb : b = X.length + P.length + Z.length) (hn : n = P.length) :
    Calls Pg 207 #[.slice (some ⟨blk, off, none⟩) d.size cap, .int .i64 a, .int .i64 b, .int .i64 n, cf] w fun e w' =>
      e = .returned (.tuple #[]) ∧ ∃ d', d'.toList = X ++ (Q ++ (Z ++ (P ++ Y))) ∧ d'.size = d.size ∧ SWK enc k w0 blk off d' w' := by
  have hl : d.size = X.length + P.length + Z.length + Q.length + Y.length := by rw [size_list d _ hd]; simp; omega
  have S0 : Aside (SWK enc k w0 blk off d w) := S
  clear S
  have HP : Hid (∀ (d' : Array α) (i : Nat), i < n → d'.toList = X ++ (Q.take i ++ (P.drop i ++ (Z ++ (P.take i ++ (Q.drop i ++ Y))))) → (swp d' (a + i) (b + i)).toList = X ++ (Q.take (i + 1) ++ (P.drop (i + 1) ++ (Z ++ (P.take (i + 1) ++ (Q.drop (i + 1) ++ Y)))))) := fun d' i hi h => by
    rw [ha, hb]; exact swapRange_step X P Z Q Y d' i (by omega) he h
  have hd0 : d.toList = X ++ (Q.take 0 ++ (P.drop 0 ++ (Z ++ (P.take 0 ++ (Q.drop 0 ++ Y))))) := by rw [hd]; simp
  have hfin : ∀ d' : Array α, d'.toList = X ++ (Q.take n ++ (P.drop n ++ (Z ++ (P.take n ++ (Q.drop n ++ Y))))) → d'.toList = X ++ (Q ++ (Z ++ (P ++ Y))) := fun d' h => by
    rw [h, hn, List.take_length, List.drop_length, he, List.take_length, List.drop_length]; simp
  have HF : Hid _ := hfin
  have hab : a + n ≤ d.size := by omega
  have hbb : b + n ≤ d.size := by omega
  generalize hL : (fun i : Nat => X ++ (Q.take i ++ (P.drop i ++ (Z ++ (P.take i ++ (Q.drop i ++ Y)))))) = L at *
  have HP' : Hid (∀ (d' : Array α) (i : Nat), i < n → d'.toList = L i → (swp d' (a + i) (b + i)).toList = L (i + 1)) := fun d' i hi h => by rw [← hL] at h ⊢; exact HP.out d' i hi h
  have HD0 : Hid (d.toList = L 0) := by show _ = _; rw [← hL]; exact hd0
  have HF' : Hid (∀ d' : Array α, d'.toList = L n → d'.toList = X ++ (Q ++ (Z ++ (P ++ Y)))) := fun d' h => by rw [← hL] at h; exact HF.out d' h
  clear HP HF hfin hd0 hL hl hd ha hb hn he
  have mixed := Lt.mixed; have t0 : Pg.underlying 0 = _ := Lt.t0; have a0 : ∀ w, (isAgg 0).run Pg w = _ := Lt.a0; have z0 : ∀ w, (Go.sizeOf 0).run Pg w = _ := Lt.z0; have v0 : ∀ w, (zeroValue 0).run Pg w = _ := Lt.v0; have t3 : Pg.underlying 3 = _ := Lt.t3; have a3 : ∀ w, (isAgg 3).run Pg w = _ := Lt.a3; have z3 : ∀ w, (Go.sizeOf 3).run Pg w = _ := Lt.z3; have v3 : ∀ w, (zeroValue 3).run Pg w = _ := Lt.v3; have t4 : Pg.underlying 4 = _ := Lt.t4; have a4 : ∀ w, (isAgg 4).run Pg w = _ := Lt.a4; have z4 : ∀ w, (Go.sizeOf 4).run Pg w = _ := Lt.z4; have v4 : ∀ w, (zeroValue 4).run Pg w = _ := Lt.v4; have t22 : Pg.underlying 168 = some (TypeDesc.slice 170) := Lt.t22; have a22 : ∀ w, (isAgg 168).run Pg w = _ := Lt.a22; have z22 : ∀ w, (Go.sizeOf 168).run Pg w = _ := Lt.z22; have v22 : ∀ w, (zeroValue 168).run Pg w = _ := Lt.v22
  go_enter FG, Tryz.ntmps207
  go_wp2
  go_loopg [10] n (fun kx s10 wr => ∃ (i : Nat) (dk : Array α), s10 = .int .i64 i ∧ i ≤ n ∧ n - i ≤ kx ∧ dk.size = d.size ∧ Aside (SWK enc k w0 blk off dk wr) ∧ Hid (dk.toList = L i))
  case atStart => exact ⟨0, d, rfl, by omega, by omega, rfl, S0, HD0⟩
  case round =>
    clear S0
    obtain ⟨i, dk, rfl, hin, hkx, hds, S1, HL⟩ := hrel
    by_cases hlt : i < n
    · have hltz : (i : Int) < (n : Int) := by omega
      go_wp2_with fail
      have ea : ((a : Int) + (i : Int)).toNat = a + i := by omega
      have pa : (0 : Int) ≤ (a : Int) + (i : Int) := by omega
      have ba : (a : Int) + (i : Int) < (d.size : Int) := by omega
      have ra : IntKind.i64.wrap ((a : Int) + (i : Int)) = (a : Int) + (i : Int) := by rw [IntKind.wrap_i64]; omega
      have ec : ((b : Int) + (i : Int)).toNat = b + i := by omega
      have pc : (0 : Int) ≤ (b : Int) + (i : Int) := by omega
      have bc : (b : Int) + (i : Int) < (d.size : Int) := by omega
      have rc : IntKind.i64.wrap ((b : Int) + (i : Int)) = (b : Int) + (i : Int) := by rw [IntKind.wrap_i64]; omega
      have S2 : Aside (SWK enc k w0 blk off (swp dk (a + i) (b + i)) ((wr.drew.setCells blk (off + (a + i) * k) (enc dk[b + i]!)).setCells blk (off + (b + i) * k) (enc dk[a + i]!))) := S1.out.swapped R (a + i) (b + i) (by omega) (by omega)
      have la := S1.out.ld1 R (by omega) Pg (a + i) (by omega)
      have lb := S1.out.ld1 R (by omega) Pg (b + i) (by omega)
      have sa := S1.out.st1 R (by omega) Pg (a + i) (by omega) dk[b + i]!
      have sb := S1.out.st2 R (by omega) Pg (a + i) (b + i) (by omega) (by omega) dk[b + i]! dk[a + i]!
      have na : (enc dk[a + i]!).length = k := R.hk _
      have nb : (enc dk[b + i]!).length = k := R.hk _
      have HN : Hid ((swp dk (a + i) (b + i)).toList = L (i + 1)) := HP'.out dk i hlt HL.out
      clear HL
      generalize enc dk[a + i]! = cI at S2 la sb na
      generalize enc dk[b + i]! = cJ at S2 lb sa sb nb
      clear S1
      go_wp2_with fail
      go_big_region_o
      clear la lb sa sb
      generalize (wr.drew.setCells blk (off + (a + i) * k) cJ).setCells blk (off + (b + i) * k) cI = w2 at S2 ⊢
      go_wp2
      go_roundg (n - (i + 1))
      case measure => omega
      case rel => exact ⟨i + 1, swp dk (a + i) (b + i), by simp, by omega, Nat.le_refl _, by rw [size_swp]; exact hds, S2, HN⟩
    · have hi : i = n := by omega
      subst hi
      go_wp2
      go_end0
      exact ⟨rfl, dk, HF'.out dk HL.out, hds, S1.out⟩

theorem swapRange_z {Pg : Program} {α : Type} [Inhabited α] {enc : α → List Value} {k : Nat} (Lt : SlLaysF0.n20 Pg ins_ren) (aE : ∀ w, (isAgg 170).run Pg w = .ok true w) (zE : ∀ w, (Go.sizeOf 170).run Pg w = .ok k w)
    (FG : Pg.funcs[207]? = some Tryz.f207) (cf : Value) (w0 w : World) (blk off cap : Nat) (d0 d : Array α) (X P Z Q Y : List α) (R : RowK enc k w0 blk off d0) (hs : d0.size = d.size) (S : SWK enc k w0 blk off d w) (hd : d.toList = X ++ (P ++ (Z ++ (Q ++ Y)))) (he : P.length = Q.length) (hsz : d.size < 4611686018427387904)
    (za zb zn : Int) (ha : za = X.length) (hb : zb = X.length + P.length + Z.length) (hn : zn = P.length) :
    Calls Pg 207 #[.slice (some ⟨blk, off, none⟩) d.size cap, .int .i64 za, .int .i64 zb, .int .i64 zn, cf] w fun e w' =>
      e = .returned (.tuple #[]) ∧ ∃ d', d'.toList = X ++ (Q ++ (Z ++ (P ++ Y))) ∧ d'.size = d.size ∧ SWK enc k w0 blk off d' w' := by
  have := swapRange_gen Lt aE zE FG cf w0 w blk off cap d0 d X P Z Q Y R hs S hd he hsz X.length (X.length + P.length + Z.length) P.length rfl rfl rfl
  rwa [← ha, show ((X.length + P.length + Z.length : Nat) : Int) = zb by omega, ← hn] at this
end Go.Proofs.YtpdacbiiaglodaaGreat
