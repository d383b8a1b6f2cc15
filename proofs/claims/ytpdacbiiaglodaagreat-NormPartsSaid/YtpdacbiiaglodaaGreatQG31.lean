/-
  LAYER 6 (norm): the laws' data.
-/
import Derived.Test.YtpdacbiiaglodaaGreatQG17
import Derived.Test.YtpdacbiiaglodaaGreatQG25
import Derived.Test.YtpdacbiiaglodaaGreatQG26
import Derived.Test.YtpdacbiiaglodaaGreatQG30
import Derived.Test.YtpdacbiiaglodaaGreatQG23
import Derived.Deep.RegionHeld
import Derived.Laws.AppendOwnNone
import Derived.Maps.AppendAt
import Derived.ArgAppend
namespace Go.Proofs.YtpdacbiiaglodaaGreat
set_option maxRecDepth 100000
open Go.RowKit Go.Lib

theorem pair_new (w : World) (a b : Value) (t : TypeId) : (w.alloc (.cells #[a, b] t)).cell? ⟨w.heap.size, 0, none⟩ = some a ∧ (w.alloc (.cells #[a, b] t)).cell? ⟨w.heap.size, 1, none⟩ = some b ∧ ∀ i, (w.alloc (.cells #[a, b] t)).frozen? ⟨w.heap.size, i, none⟩ = false := by
  have kn := World.alloc_heap_new w (.cells #[a, b] t)
  refine ⟨?_, ?_, fun i => ?_⟩
  · simp only [World.cell?, kn]; rfl
  · simp only [World.cell?, kn]; rfl
  · simp only [World.frozen?, kn]; simp
/-- Fresh data: of the blocks before theirs, only such with a code point in it. -/
def intAt (w : World) (k : Nat) : Prop := ∃ i x, w.cell? ⟨k, i, none⟩ = some (.int .i32 x)
def footI (w : World) (n k : Nat) : Prop := k = n ∨ (k < n ∧ intAt w k)
theorem pair_noint {w : World} {q : Nat} {a b a' b' : Nat} {p p' : Option Addr} {t : TypeId} {z : Nat × Nat} (h : w.heap[q]? = some (.cells #[.slice p a b, .slice p' a' b'] t z)) : ¬ intAt w q := by
  rintro ⟨i, x, hi⟩
  simp only [World.cell?, h] at hi
  match i with
  | 0 => simp at hi
  | 1 => simp at hi
  | i + 2 => simp at hi
theorem tri_int {k : IntKind} {w : World} {v : Value} {l : List (Int × Int × Int)} (h : Tri k w v l) (hn : l ≠ []) : ∀ q, v.ownBlock = some q → intAt w q := by
  rcases h with ⟨rfl, h⟩ | ⟨b, off, cap, rfl, _, _, hc⟩
  · exact absurd h hn
  · intro q hq
    simp [Value.ownBlock] at hq
    subst hq
    obtain ⟨x, t, rfl⟩ := List.exists_cons_of_ne_nil hn
    exact ⟨_, _, (hc 0 x rfl).1⟩
theorem Nrm.footI {w : World} {n : Nat} {c : List Cls} {d : List Dec} (h : Nrm w n c d false) : NrmF w n c d false (footI w n) := by
  obtain ⟨vc, vd, mv, h1, h2, h3, h4, h5, h6⟩ := h
  exact ⟨vc, vd, mv, h1, fun a k e => ⟨h2 a k e, .inr ⟨h2 a k e, tri_int h1.1 a k e⟩⟩, fun a k e => ⟨h3 a k e, .inr ⟨h3 a k e, tri_int h1.2 a k e⟩⟩, h4, .inl rfl, h5, (fun e => by cases e), fun k hk => by rcases hk with rfl | ⟨hk, _⟩; exact h4.lt; exact Nat.lt_trans hk h4.lt⟩

set_option maxHeartbeats 4000000 in
theorem data_any (vc vd : Value) (c : List Cls) (d : List Dec) (w : World) (hT : Dat w vc vd c d) (h : good c d = true) (hc : c.length ≤ 200) (hd : d.length ≤ 200) :
    Calls Tryz.prog 27 #[vc, vd] w fun e w' => ∃ n, e = .returned (.tuple #[.pointer (some ⟨n, 0, none⟩), .agg #[vc, vd], .bool true]) ∧ w.heap.size ≤ n ∧ (∃ F : Nat → Prop, ND (.pointer (some ⟨n, 0, none⟩)) (clsOf c) (told' d) F w' ∧ ∀ k, k < w.heap.size → F k → intAt w k) ∧ w.grownBy w' none := by
  have hB := fun W (hg : w.grownBy W none) => refBuild_ok vc vd c d W (hT.all hg) h
  have hL := fun v W hr => Load_ok v c d W hr h
  obtain ⟨a1, c1, rfl, _, _⟩ := hT.1.form
  obtain ⟨a2, c2, rfl, _, _⟩ := hT.2.form
  generalize hfr : frame (payload c d) = FR at hB hL
  generalize hcl : c.length = cl at hB hc ⊢
  generalize hdl : d.length = dl at hB hd ⊢
  have HF := Lib.hid h
  clear hfr hcl hdl hT h
  go_enter Tryz.func27, Tryz.ntmps27
  go_wp2_with fail
  go_at_call 12
  refine (hB _ (World.grownBy_alloc w _ none)).mono ?_
  rintro e w1 ⟨v1, rfl, hr1, hg1⟩
  clear hB
  go_wp2_with fail
  go_at_call 41
  refine (hL _ _ hr1).mono ?_
  rintro e w2 ⟨n, rfl, hn, hN, hg2⟩
  clear hL
  have kd := ((hg1.trans hg2).block w.heap.size (by simp) (by simp)).trans (World.alloc_heap_new w _)
  have d0 : w2.cell? ⟨w.heap.size, 0, none⟩ = some (.slice none 0 0) := by simp [World.cell?, kd]
  have d1 : w2.cell? ⟨w.heap.size, 1, none⟩ = some (.slice none 0 0) := by simp [World.cell?, kd]
  have f0 : ∀ i, w2.frozen? ⟨w.heap.size, i, none⟩ = false := by simp [World.frozen?, kd]
  have HN := Lib.hid hN
  clear hN
  go_wp2_with fail
  have gs0 : w2.grownBy (w2.setCell ⟨w.heap.size, 0, none⟩ (.slice a1 cl c1)) (some w.heap.size) := gset (World.grownBy.refl w2 _) 0 _
  have gs : w2.grownBy ((w2.setCell ⟨w.heap.size, 0, none⟩ (.slice a1 cl c1)).setCell ⟨w.heap.size, 1, none⟩ (.slice a2 dl c2)) (some w.heap.size) := gset gs0 1 _
  have hs1 := hg1.size
  rw [World.size_alloc] at hs1
  have hg : w.grownBy w2 none := ((World.grownBy_alloc w _ none).trans hg1).trans hg2
  have e0 := heap_setCell_same w2 w.heap.size 0 _ _ (.slice a1 cl c1) kd
  have e1 := heap_setCell_same _ w.heap.size 1 _ _ (.slice a2 dl c2) e0
  refine bodyPost_ret (v := .tuple #[.pointer (some ⟨n, 0, none⟩), .agg #[.slice a1 cl c1, .slice a2 dl c2], .bool true]) (by simp [results, Tryz.results27, go_sem, World.cell?, e1]) rfl ⟨n, rfl, by omega, ⟨footI w2 n, .inr ⟨n, c, d, false, rfl, HN.out.footI.grown gs ?_, HF.out, rfl, rfl⟩, ?_⟩, gnew hg gs (fun r e => by cases e; left; omega)⟩
  · intro k e hf
    cases e
    rcases hf with h | ⟨_, i, x, h⟩
    · omega
    · simp only [World.cell?, kd] at h
      match i with
      | 0 => simp at h
      | 1 => simp at h
      | i + 2 => simp at h
  · intro k hk hf
    rcases hf with h | ⟨_, i, x, h⟩
    · omega
    · exact ⟨i, x, by rw [← h]; exact (World.cell?_of_block (a := ⟨k, i, none⟩) (hg.block k hk (by simp))).symm⟩

set_option maxHeartbeats 4000000 in
theorem small_any (w : World) :
    Calls Tryz.prog 20 #[] w fun e w' => ∃ n vc vd, e = .returned (.tuple #[.pointer (some ⟨n, 0, none⟩), .agg #[vc, vd]]) ∧ w.heap.size ≤ n ∧ Dat w' vc vd smallC smallD ∧ (∃ F : Nat → Prop, ND (.pointer (some ⟨n, 0, none⟩)) (clsOf smallC) (told' smallD) F w' ∧ ∀ k, k < w.heap.size → F k → intAt w k) ∧ w.grownBy w' none := by
  have hR := fun w => refSmall_any w
  have hD := fun vc vd w hT => data_any vc vd smallC smallD w hT small_good (by decide) (by decide)
  generalize smallC = sc at hR hD ⊢
  generalize smallD = sd at hR hD ⊢
  go_enter Tryz.func20, Tryz.ntmps20
  go_wp2_with fail
  go_at_call 11
  refine (hR _).mono ?_
  rintro e w1 ⟨vc, vd, rfl, hT, hg1⟩
  clear hR
  obtain ⟨x1, y1, rfl, _, _⟩ := hT.1.form
  obtain ⟨x2, y2, rfl, _, _⟩ := hT.2.form
  generalize hl1 : sc.length = l1 at hT
  generalize hl2 : sd.length = l2 at hT
  replace hl1 := Lib.hid hl1
  replace hl2 := Lib.hid hl2
  go_wp2_with fail
  go_at_call 27
  refine (hD _ _ _ hT).mono ?_
  rintro e w2 ⟨n, rfl, hn, hN, hg2⟩
  clear hD
  have HN := Lib.hid hN
  clear hN
  go_wp2_with fail
  have hga := World.grownBy_alloc w2 (.cells #[.slice x1 l1 y1, .slice x2 l2 y2] 59) none
  obtain ⟨n0, n1, m0⟩ := pair_new w2 (.slice x1 l1 y1) (.slice x2 l2 y2) 59
  generalize w2.alloc (.cells #[.slice x1 l1 y1, .slice x2 l2 y2] 59) = W at n0 n1 m0 hga ⊢
  have kd := (((hg1.trans hg2).trans hga).block w.heap.size (by simp) (by simp)).trans (World.alloc_heap_new w _)
  have d0 : W.cell? ⟨w.heap.size, 0, none⟩ = some (.slice none 0 0) := by simp [World.cell?, kd]
  have d1 : W.cell? ⟨w.heap.size, 1, none⟩ = some (.slice none 0 0) := by simp [World.cell?, kd]
  have f0 : ∀ i, W.frozen? ⟨w.heap.size, i, none⟩ = false := by simp [World.frozen?, kd]
  go_region
  go_wp2_with fail
  have gs0 : W.grownBy (W.setCell ⟨w.heap.size, 0, none⟩ (.slice x1 l1 y1)) (some w.heap.size) := gset (World.grownBy.refl W _) 0 _
  have gs1 : W.grownBy ((W.setCell ⟨w.heap.size, 0, none⟩ (.slice x1 l1 y1)).setCell ⟨w.heap.size, 1, none⟩ (.slice x2 l2 y2)) (some w.heap.size) := gset gs0 1 _
  have gs := gdrew gs1
  have kd1 := (hg1.block w.heap.size (by simp) (by simp)).trans (World.alloc_heap_new w _)
  have hni := pair_noint kd1
  have e0 := heap_setCell_same W w.heap.size 0 _ _ (.slice x1 l1 y1) kd
  have e1 := heap_setCell_same _ w.heap.size 1 _ _ (.slice x2 l2 y2) e0
  have hs1 := hg1.size
  rw [World.size_alloc] at hs1
  have hw1 : w.grownBy w1 none := (World.grownBy_alloc w _ none).trans hg1
  have hg : w.grownBy W none := (hw1.trans hg2).trans hga
  have e2 : (((W.setCell ⟨w.heap.size, 0, none⟩ (.slice x1 l1 y1)).setCell ⟨w.heap.size, 1, none⟩ (.slice x2 l2 y2)).drew).heap[w.heap.size]? = _ := e1
  generalize ((W.setCell ⟨w.heap.size, 0, none⟩ (.slice x1 l1 y1)).setCell ⟨w.heap.size, 1, none⟩ (.slice x2 l2 y2)).drew = V at gs e2 ⊢
  refine bodyPost_ret (v := .tuple #[.pointer (some ⟨n, 0, none⟩), .agg #[.slice x1 l1 y1, .slice x2 l2 y2]]) (by simp [results, Tryz.results20, go_sem, World.cell?, e2]) rfl ⟨n, _, _, rfl, by omega, ?_, ?_, gnew hg gs (fun r e => by cases e; left; omega)⟩
  · have hg3 := hg2.trans hga
    have key : ∀ k, k < w1.heap.size → intAt w1 k → V.heap[k]? = w1.heap[k]? := fun k hk hi => (gs.block k (Nat.lt_of_lt_of_le hk hg3.size) (fun e => by cases e; exact hni hi)).trans (hg3.block k hk (by simp))
    exact ⟨hT.1.heap fun a k e => key k (hT.1.lt a k e) (tri_int hT.1 a k e), hT.2.heap fun a k e => key k (hT.2.lt a k e) (tri_int hT.2 a k e)⟩
  · obtain ⟨F, hF1, hF2⟩ := HN.out
    refine ⟨F, (hF1.new hga).grown gs (fun k e => by cases e; exact fun hf => hni (hF2 _ (by omega) hf)), fun k hk hf => ?_⟩
    obtain ⟨i, x, h⟩ := hF2 k (by omega) hf
    exact ⟨i, x, by rw [← h]; exact (World.cell?_of_block (a := ⟨k, i, none⟩) (hw1.block k hk (by simp))).symm⟩
end Go.Proofs.YtpdacbiiaglodaaGreat

/-
  LAYER 6 (norm): the reference's data: Class, Decomp.
-/
namespace Go.Proofs.YtpdacbiiaglodaaGreat
set_option maxRecDepth 100000
open Go.RowKit Go.Lib

theorem rCls_any (vc vd : Value) (c : List Cls) (d : List Dec) (r : Int) (w : World) (hT : Dat w vc vd c d) :
    Calls Tryz.prog 40 #[.agg #[vc, vd], .int .i32 r] w fun e w' => e = .returned (.int .i64 (clsOf c r)) ∧ w.grownBy w' none := by
  have hC := fun W (hg : w.grownBy W none) => refClass_any vc c r W (hT.1.all hg)
  obtain ⟨a1, c1, rfl, _, _⟩ := hT.1.form
  obtain ⟨a2, c2, rfl, _, _⟩ := hT.2.form
  generalize c.length = cl at hC ⊢
  generalize d.length = dl at hC ⊢
  have hgA := World.grownBy_alloc w (.cells #[.slice a1 cl c1, .slice a2 dl c2] 59) none
  obtain ⟨n0, n1, m0⟩ := pair_new w (.slice a1 cl c1) (.slice a2 dl c2) 59
  have hCA := hC _ hgA
  clear hT hC
  go_enter Tryz.func40, Tryz.ntmps40
  go_wp2_with (go_at_call 76; refine hCA.mono ?_; rintro e w1 ⟨rfl, hg1⟩)
  go_ret
  exact ⟨rfl, hgA.trans hg1⟩

theorem refDecomp_any (vd : Value) (c : List Cls) (d : List Dec) (r : Int) (w : World) (hT : Tri .i32 w vd d) (h : good c d = true) :
    Calls Tryz.prog 109 #[vd, .int .i32 r] w fun e w' => ∃ v, e = .returned v ∧ w'.ownsRow w.heap.size 21 1 v (told' d r).length (rCells (told' d r)) ∧ w.grownBy w' none := by
  obtain ⟨g1, g2, g3, g4⟩ := good_parts h
  have hsyl : ∀ y ∈ d, syl y.1 = false := fun y hy => by
    have := decsOk_mem g4 y hy
    simp only [decOk, codesOk, Bool.and_eq_true, Bool.not_eq_true'] at this
    exact this.1.1.2.1.1.1.1.1.2
  have hmb : ∀ y ∈ d, mb d 4 y = true := fun y hy => by
    have := decsOk_mem g4 y hy
    simp only [decOk, Bool.and_eq_true] at this
    exact this.1.2.2
  have hD := refDeep_ok vd d hsyl 4 r w (Nat.le_refl _) hT (fun y hy => hmb y (by unfold stp at hy; exact List.mem_of_find?_eq_some hy))
  have e : dval d 4 r = told' d r := by unfold dval told'; cases stp d r <;> rfl
  rw [e] at hD
  obtain ⟨a2, c2, rfl, _, _⟩ := hT.form
  generalize d.length = dl at hD ⊢
  clear h g1 g2 g3 g4 hT hsyl hmb e
  go_enter Tryz.func109, Tryz.ntmps109
  go_wp2_with (go_at_call 83; refine hD.mono ?_; rintro e w1 ⟨v1, rfl, ho1, hg1⟩)
  go_ret
  exact ⟨v1, rfl, ho1, hg1⟩

theorem rDec_any (vc vd : Value) (c : List Cls) (d : List Dec) (r : Int) (w : World) (hT : Dat w vc vd c d) (h : good c d = true) :
    Calls Tryz.prog 70 #[.agg #[vc, vd], .int .i32 r] w fun e w' => ∃ v, e = .returned v ∧ w'.ownsRow w.heap.size 21 1 v (told' d r).length (rCells (told' d r)) ∧ w.grownBy w' none := by
  have hC := fun W (hg : w.grownBy W none) => refDecomp_any vd c d r W (hT.2.all hg) h
  obtain ⟨a1, c1, rfl, _, _⟩ := hT.1.form
  obtain ⟨a2, c2, rfl, _, _⟩ := hT.2.form
  generalize c.length = cl at hC ⊢
  generalize d.length = dl at hC ⊢
  have hgA := World.grownBy_alloc w (.cells #[.slice a1 cl c1, .slice a2 dl c2] 59) none
  obtain ⟨n0, n1, m0⟩ := pair_new w (.slice a1 cl c1) (.slice a2 dl c2) 59
  have hCA := hC _ hgA
  clear hT hC h
  go_enter Tryz.func70, Tryz.ntmps70
  go_wp2_with (go_at_call 109; refine hCA.mono ?_; rintro e w1 ⟨v1, rfl, ho1, hg1⟩)
  go_ret
  exact ⟨v1, rfl, ownLow ho1 (hgA.size), hgA.trans hg1⟩
end Go.Proofs.YtpdacbiiaglodaaGreat

/-
  LAYER 6 (norm): streams: made, pushed to, ended.
-/
namespace Go.Proofs.YtpdacbiiaglodaaGreat
set_option maxRecDepth 100000
open Go.RowKit Go.Lib

/-- Code points in a row of the call's own. -/
def OwnN (w : World) (B : Nat) (v : Value) (l : List Int) : Prop := w.ownsRow B 21 1 v l.length (rCells l)
theorem OwnN.ro {B : Nat} {w : World} {v : Value} {l : List Int} (h : OwnN w B v l) : RO B w v l := ro_of_owns h
theorem rCells_append (l f : List Int) : rCells (l ++ f) = rCells l ++ rCells f := by simp [rCells]
theorem rCells_len (l : List Int) : (rCells l).length = l.length := by simp [rCells]
theorem rCells_one (l : List Int) : ∀ u ∈ rCells l, u.oneCell' = true := by
  intro u hu
  simp only [rCells, List.mem_map] at hu
  obtain ⟨x, _, rfl⟩ := hu
  rfl
theorem OwnN.form {w : World} {B : Nat} {v : Value} {l : List Int} (h : OwnN w B v l) : ∃ a c, v = .slice a l.length c := by
  obtain ⟨a, c, rfl, _⟩ := h.ro
  exact ⟨a, c, rfl⟩
theorem OwnN.none (w : World) (B : Nat) : OwnN w B (.slice none 0 0) [] := ⟨rfl, .inl ⟨rfl, rfl⟩⟩

theorem wpList_append_rs (w : World) {ops : Array Oper} {rest : List Oper} {o : Oper} {a : Act} {Q : Exit → Act → World → Prop} (hgd : o.guard = none) (s x : Operand) (t : TypeId)
    (ho : o.op = .call { callee := .builtin .append, args := #[s, x], argTypes := #[t, t] })
    (base : Nat) (ht : Tryz.prog.underlying t = some (.slice 21))
    (v : Value) (l : List Int) (hs : a.eval s = v) (hown : OwnN w base v l) (xv : Value) (f : List Int) (hx : a.eval x = xv) (hr : RS w xv f)
    (hlim : l.length + f.length ≤ 1099511627776) (hbase : base ≤ w.heap.size)
    (h : ∀ v' w', OwnN w' base v' (l ++ f) → w.grownBy w' v.ownBlock → (v'.ownBlock = v.ownBlock ∨ ∃ k, v'.ownBlock = some k ∧ w.heap.size ≤ k) → wpList Tryz.prog ops Q rest (a.put o.dst v') w') : wpList Tryz.prog ops Q (o :: rest) a w := by
  obtain ⟨i0, hi, hz0, hz1, hz2⟩ := infoRune_parts
  obtain ⟨xa, c, rfl, h1, h2, h3, h4⟩ := hr
  cases xa with
  | none =>
    have hf : f = [] := by
      by_cases hf : f = []
      · exact hf
      · obtain ⟨b, off, e, _⟩ := h4 hf; cases e
    subst hf
    obtain rfl := h3 rfl
    exact wpList_append_own_none hgd s x t ho base 21 i0 1 ht hi v l.length (rCells l) hs hown hx (h v w (by simpa using hown) (World.grownBy.refl _ _) (.inl rfl))
  | some ad =>
    refine wpList_append_own_at w hgd s x t ho base 21 i0 (.int .i32 0) 1 4 ht hi hz0 hz1 hz2 rfl (by decide) v l.length (rCells l) hs hown ad f.length c (rCells f) hx (by rw [rCells_len]; omega) ?_ (rCells_one f) (by unfold maxLen; omega) (by omega) hbase fun v' w' h2 h3 _ h4 => h v' w' ?_ h3 (h4.imp id fun h => ⟨_, h, Nat.le_refl _⟩)
    · intro j u hu
      by_cases hf : f = []
      · subst hf; simp [rCells] at hu
      · obtain ⟨b, off, e, hc⟩ := h4 hf
        cases e
        simp only [rCells, List.getElem?_map, Option.map_eq_some_iff] at hu
        obtain ⟨y, q1, rfl⟩ := hu
        rw [show (⟨b, off, none⟩ : Addr).add j = ⟨b, off + j, none⟩ by unfold Addr.add; split <;> simp_all]
        exact hc j y q1
    · unfold OwnN
      rw [rCells_append, List.length_append]
      exact h2

/-! ### A stream in memory -/
def StmAt (w : World) (s : Nat) (p hv : Value) : Prop := w.heap[s]? = some (.cells #[.bool true, p, hv] 97 (0, 0))
section
variable {w w' : World} {s : Nat} {p hv : Value}
theorem StmAt.made (h : StmAt w s p hv) : w.cell? ⟨s, 0, none⟩ = some (.bool true) := by simp [World.cell?, show _ = _ from h]
theorem StmAt.data (h : StmAt w s p hv) : w.cell? ⟨s, 1, none⟩ = some p := by simp [World.cell?, show _ = _ from h]
theorem StmAt.held (h : StmAt w s p hv) : w.cell? ⟨s, 2, none⟩ = some hv := by simp [World.cell?, show _ = _ from h]
theorem StmAt.free (h : StmAt w s p hv) (o : Nat) : w.frozen? ⟨s, o, none⟩ = false := by simp [World.frozen?, show _ = _ from h]
theorem StmAt.lt (h : StmAt w s p hv) : s < w.heap.size := (Array.getElem?_eq_some_iff.1 h).1
theorem StmAt.kept {q : Option Nat} (h : StmAt w s p hv) (hg : w.grownBy w' q) (hq : q ≠ some s) : StmAt w' s p hv := (hg.block s h.lt (fun e => hq e.symm)).trans h
theorem StmAt.setHeld (h : StmAt w s p hv) (x : Value) : StmAt (w.setCell ⟨s, 2, none⟩ x) s p x := heap_setCell_same w s 2 _ _ _ h
end
/-- A stream that somebody made: its data, what it holds. -/
structure Strm (w : World) (s : Nat) (p : Value) (cf : Int → Int) (df : Int → List Int) (F : Nat → Prop) (hv : Value) (held : List Int) : Prop where
  at_ : StmAt w s p hv
  own : OwnN w (s + 1) hv held
  nd : ND p cf df F w
  notS : ¬ F s
  notB : ∀ k, hv.ownBlock = some k → ¬ F k

theorem sMade (s : Nat) (m : Bool) (w : World) (hc : w.cell? ⟨s, 0, none⟩ = some (.bool m)) : Calls Tryz.prog 67 #[.pointer (some ⟨s, 0, none⟩)] w fun e w' => e = .returned (.bool m) ∧ w = w' := by
  go_enter Tryz.func67, Tryz.ntmps67
  go_wp2
  go_ret
  exact ⟨rfl, rfl⟩
theorem sMade_nil (w : World) : Calls Tryz.prog 67 #[.pointer none] w fun e w' => e = .returned (.bool false) ∧ w = w' := by
  go_enter Tryz.func67, Tryz.ntmps67
  go_wp2
  go_ret
  exact ⟨rfl, rfl⟩
theorem new_any' (q : Option Addr) (w : World) : Calls Tryz.prog 31 #[.pointer q] w fun e w' => e = .returned (.pointer (some ⟨w.heap.size, 0, none⟩)) ∧ StmAt w' w.heap.size (.pointer q) (.slice none 0 0) ∧ w.grownBy w' none := by
  go_enter Tryz.func31, Tryz.ntmps31
  go_wp2
  go_ret
  exact ⟨rfl, World.alloc_heap_new w _, World.grownBy_alloc w _ none⟩
theorem new_strm (p : Value) (cf : Int → Int) (df : Int → List Int) (F : Nat → Prop) (w : World) (h : ND p cf df F w) : Calls Tryz.prog 31 #[p] w fun e w' => e = .returned (.pointer (some ⟨w.heap.size, 0, none⟩)) ∧ Strm w' w.heap.size p cf df F (.slice none 0 0) [] ∧ w.grownBy w' none := by
  have hlt := h.lt
  obtain ⟨q, rfl⟩ := h.form
  refine (new_any' q w).mono ?_
  rintro e w' ⟨rfl, h1, h2⟩
  exact ⟨rfl, ⟨h1, OwnN.none _ _, h.new h2, fun hf => by have := hlt _ hf; omega, fun k e => by cases e⟩, h2⟩

set_option maxHeartbeats 2000000 in
theorem end_any (s : Nat) (p : Value) (cf : Int → Int) (df : Int → List Int) (F : Nat → Prop) (hv : Value) (held : List Int) (w : World) (h : Strm w s p cf df F hv held) (hlen : held.length < 1099511627776) :
    Calls Tryz.prog 36 #[.pointer (some ⟨s, 0, none⟩)] w fun e w' => ∃ a, e = .returned (.slice a held.length held.length) ∧ RO w.heap.size w' (.slice a held.length held.length) (ord cf held) ∧ Strm w' s p cf df F (.slice none 0 0) [] ∧ w.grownBy w' (some s) := by
  have hm := sMade s true w h.at_.made
  have hO := fun W (hg : w.grownBy W none) => order_any p hv cf df F held W (h.nd.new hg) (h.own.ro.reads.new hg) hlen
  have c1 := h.at_.data
  have c2 := h.at_.held
  have f2 := h.at_.free 2
  have hlt := h.at_.lt
  obtain ⟨ha, hc, rfl⟩ := h.own.form
  have H := Lib.hid h
  clear h
  obtain ⟨n, hn⟩ : ∃ n, n = held.length := ⟨_, rfl⟩
  rw [← hn] at hO c2 ⊢
  have HN := Lib.hid hn
  clear hn
  have gd := gdrew (World.grownBy.refl w none)
  go_enter Tryz.func36, Tryz.ntmps36
  go_wp2_with (go_at_call 67; refine hm.mono ?_; rintro e w' ⟨rfl, rfl⟩)
  refine wp_region_held_drew (S := fun W => w.grownBy W none ∧ W.cell? ⟨s, 1, none⟩ = some p ∧ W.cell? ⟨s, 2, none⟩ = some (.slice ha n hc)) (by kernel_rfl) ⟨gd, gd.cell c1 (by simp), gd.cell c2 (by simp)⟩ (fun hS0 => ?_)
  refine wpAnyH_take (i := 0) (oi := ⟨some 7, _, _, _, _, _⟩) (v := ?_) rfl (by kernel_rfl) (by kernel_rfl) (by kernel_rfl) (fun _ _ _ h => h) (Or.inl ⟨by rfl, ?_⟩) (by assumption) ?_
  rotate_left
  · (intro w hSw; (try dsimp only at hSw); go_simp; try with_reducible rfl)
  try simp only [Act.put, List.setIfInBounds_toArray, List.set_cons_zero, List.set_cons_succ]
  refine wpAnyH_take (i := 1) (oi := ⟨some 8, _, _, _, _, _⟩) (v := ?_) rfl (by kernel_rfl) (by kernel_rfl) (by kernel_rfl) (fun _ _ _ h => h) (Or.inl ⟨by rfl, ?_⟩) (by assumption) ?_
  rotate_left
  · (intro w hSw; (try dsimp only at hSw); go_simp; try with_reducible rfl)
  try simp only [Act.put, List.setIfInBounds_toArray, List.set_cons_zero, List.set_cons_succ]
  refine wpAnyH_take (i := 2) (oi := ⟨some 9, _, _, _, _, _⟩) (v := ?_) rfl (by kernel_rfl) (by kernel_rfl) (by kernel_rfl) (fun _ _ _ h => h) (Or.inl ⟨by rfl, ?_⟩) (by assumption) ?_
  rotate_left
  · (intro w hSw; (try dsimp only at hSw); go_simp; try with_reducible rfl)
  try simp only [Act.put, List.setIfInBounds_toArray, List.set_cons_zero, List.set_cons_succ]
  refine wpAnyH_take (i := 3) (oi := ⟨some 10, _, _, _, _, _⟩) (v := ?_) rfl (by kernel_rfl) (by kernel_rfl) (by kernel_rfl) (fun _ _ _ h => h) (Or.inl ⟨by rfl, ?_⟩) (by assumption) ?_
  rotate_left
  · (intro w hSw; (try dsimp only at hSw); go_simp; try with_reducible rfl)
  try simp only [Act.put, List.setIfInBounds_toArray, List.set_cons_zero, List.set_cons_succ]
  refine wpAnyH_take (i := 4) (oi := ⟨some 11, _, _, _, _, _⟩) (v := ?_) rfl (by kernel_rfl) (by kernel_rfl) (by kernel_rfl) (fun _ _ _ h => h) (Or.inl ⟨by rfl, ?_⟩) (by assumption) ?_
  rotate_left
  · (intro w hSw; (try dsimp only at hSw); go_simp; try with_reducible rfl)
  try simp only [Act.put, List.setIfInBounds_toArray, List.set_cons_zero, List.set_cons_succ]
  refine wpAnyH_take (i := 5) (oi := ⟨some 12, _, _, _, _, _⟩) (v := ?_) rfl (by kernel_rfl) (by kernel_rfl) (by kernel_rfl) (fun _ _ _ h => h) (Or.inl ⟨by rfl, ?_⟩) (by assumption) ?_
  rotate_left
  · (intro w hSw; (try dsimp only at hSw); go_simp; try with_reducible rfl)
  try simp only [Act.put, List.setIfInBounds_toArray, List.set_cons_zero, List.set_cons_succ]
  refine wpAnyH_take (i := 6) (oi := ⟨some 13, _, _, _, _, _⟩) (v := ?_) rfl (by kernel_rfl) (by kernel_rfl) (by kernel_rfl) (fun _ _ _ h => h) (Or.inl ⟨by rfl, ?_⟩) (by assumption) ?_
  rotate_left
  · (intro w hSw; (try dsimp only at hSw); go_simp; try with_reducible rfl)
  try simp only [Act.put, List.setIfInBounds_toArray, List.set_cons_zero, List.set_cons_succ]
  refine wpAnyH_take (i := 7) (oi := ⟨some 14, _, _, _, _, _⟩) (v := ?_) rfl (by kernel_rfl) (by kernel_rfl) (by kernel_rfl) (fun _ _ _ h => h) (Or.inl ⟨by rfl, ?_⟩) (by assumption) ?_
  rotate_left
  · (intro w hSw; (try dsimp only at hSw); go_simp; try with_reducible rfl)
  try simp only [Act.put, List.setIfInBounds_toArray, List.set_cons_zero, List.set_cons_succ]
  refine wpAnyH_ready (rs := [8]) (by kernel_rfl) (by simp) ?_
  refine AllReadyH.cons rfl (fun K hK => ?_) AllReadyH.nil
  go_simp
  refine (hO _ gd).mono ?_
  rintro e w2 ⟨a2, rfl, hr2, hg2⟩
  have g2 := gd.trans hg2
  have f2' : w2.frozen? ⟨s, 2, none⟩ = false := by rw [World.frozen?_of_block (a := ⟨s, 2, none⟩) (g2.block s hlt (by simp))]; exact f2
  have hS2 : w2.cell? ⟨s, 2, none⟩ = some (.slice ha n hc) := g2.cell c2 (by simp)
  go_wp2_with fail
  refine hK.out _ _ ⟨g2, g2.cell c1 (by simp), hS2⟩ (fun hS3 => ?_)
  clear hK
  refine wpAnyH_ready (rs := [9]) (by kernel_rfl) (by simp) ?_
  refine AllReadyH.cons rfl (fun K hK => ?_) AllReadyH.nil
  go_simp
  refine hK.out _ _ hS3 (fun hS4 => ?_)
  clear hK
  refine wpAnyH_done (by kernel_rfl) ?_ _
  have hA2 := H.out.at_.kept g2 (by simp)
  have hr2' : RO w.heap.size w2 (.slice a2 n n) (ord cf held) := hr2.low (Nat.le_refl _)
  replace hr2 := Lib.hid hr2'
  clear hr2' hS3 hS4 hS0 c1 c2 f2 hO hm
  go_wp2
  go_ret
  have g3 := gset (gbut g2 (some s)) 2 (.slice none 0 0)
  refine ⟨a2, rfl, hr2.out.kept (gset (World.grownBy.refl w2 _) 2 (.slice none 0 0)) (fun k e => by cases e; exact .inl hlt), ⟨hA2.setHeld _, OwnN.none _ _, H.out.nd.grown g3 (fun k e => by cases e; exact H.out.notS), H.out.notS, fun k e => by cases e⟩, g3⟩

theorem held_any (s : Nat) (p : Value) (cf : Int → Int) (df : Int → List Int) (F : Nat → Prop) (hv : Value) (held : List Int) (w : World) (h : Strm w s p cf df F hv held) :
    Calls Tryz.prog 34 #[.pointer (some ⟨s, 0, none⟩)] w fun e w' => e = .returned (.int .i64 held.length) ∧ w = w' := by
  have hm := sMade s true w h.at_.made
  have c2 := h.at_.held
  obtain ⟨ha, hc, rfl⟩ := h.own.form
  clear h
  generalize held.length = n at c2 ⊢
  go_enter Tryz.func34, Tryz.ntmps34
  go_wp2_with (go_at_call 67; refine hm.mono ?_; rintro e w' ⟨rfl, rfl⟩)
  go_ret
  exact ⟨rfl, rfl⟩
end Go.Proofs.YtpdacbiiaglodaaGreat

/-
  LAYER 6 (norm): append and slicing of code points, as laws for one operation (in a region whose reads are taken first).
-/
namespace Go.Proofs.YtpdacbiiaglodaaGreat
set_option maxRecDepth 100000
open Go.RowKit Go.Lib

theorem wp_app_rs (w : World) {o : Oper} {a : Act} {K : Act → World → Prop} {Q : Exit → Act → World → Prop} (s x : Operand) (t : TypeId)
    (ho : o.op = .call { callee := .builtin .append, args := #[s, x], argTypes := #[t, t] })
    (base : Nat) (ht : Tryz.prog.underlying t = some (.slice 21))
    (v : Value) (l : List Int) (hs : a.eval s = v) (hown : OwnN w base v l) (xv : Value) (f : List Int) (hx : a.eval x = xv) (hr : RS w xv f)
    (hlim : l.length + f.length ≤ 1099511627776) (hbase : base ≤ w.heap.size)
    (h : ∀ v' w', OwnN w' base v' (l ++ f) → w.grownBy w' v.ownBlock → (v'.ownBlock = v.ownBlock ∨ ∃ k, v'.ownBlock = some k ∧ w.heap.size ≤ k) → K (a.put o.dst v') w') : Oper.wp Tryz.prog o a w K Q := by
  obtain ⟨i0, hi, hz0, hz1, hz2⟩ := infoRune_parts
  obtain ⟨xa, c, rfl, h1, h2, h3, h4⟩ := hr
  cases xa with
  | none =>
    have hf : f = [] := by
      by_cases hf : f = []
      · exact hf
      · obtain ⟨b, off, e, _⟩ := h4 hf; cases e
    subst hf
    obtain rfl := h3 rfl
    have hrun := run_append_owned_none (P := Tryz.prog) (w := w) base t o.type 21 i0 1 ht hi v l.length (rCells l) hown
    unfold Oper.wp
    simp [execOp, ho, resolve, invoke, builtin, hs, hx, hrun, Result.andThen]
    exact h _ _ (by simpa using hown) (World.grownBy.refl _ _) (.inl rfl)
  | some ad =>
    obtain ⟨v', w', hr, g2, g3, _, g5⟩ := run_append_own_at (P := Tryz.prog) w base t o.type 21 i0 (.int .i32 0) 1 4 ht hi hz0 hz1 hz2 rfl (by decide) v l.length (rCells l) hown ad f.length c (rCells f) (by rw [rCells_len]; omega) (by
      intro j u hu
      by_cases hf : f = []
      · subst hf; simp [rCells] at hu
      · obtain ⟨b, off, e, hc⟩ := h4 hf
        cases e
        simp only [rCells, List.getElem?_map, Option.map_eq_some_iff] at hu
        obtain ⟨y, q1, rfl⟩ := hu
        rw [show (⟨b, off, none⟩ : Addr).add j = ⟨b, off + j, none⟩ by unfold Addr.add; split <;> simp_all]
        exact hc j y q1) (rCells_one f) (by unfold maxLen; omega) (by omega) hbase
    unfold Oper.wp execOp
    simp only [ho, resolve, invoke, builtin, Sem.run_bind, Sem.run_pure, Result.andThen_ok, List.map_toArray, List.map_cons, List.map_nil, hs, hx, hr]
    refine h v' w' ?_ g3 (g5.imp id fun h => ⟨_, h, Nat.le_refl _⟩)
    unfold OwnN
    rw [rCells_append, List.length_append]
    exact g2

/-- append(s[:k:k], x...) where x is not empty: a row of its own, new. -/
theorem wp_app_mid (w : World) {o : Oper} {a : Act} {K : Act → World → Prop} {Q : Exit → Act → World → Prop} (s x : Operand) (t : TypeId)
    (ho : o.op = .call { callee := .builtin .append, args := #[s, x], argTypes := #[t, t] })
    (ht : Tryz.prog.underlying t = some (.slice 21))
    (ao : Option Addr) (l : List Int) (k : Nat) (hk : k = l.length) (hs : a.eval s = .slice ao k k) (hR : RS w (.slice ao k k) l) (xv : Value) (f : List Int) (hx : a.eval x = xv) (hr : RS w xv f) (hf : f ≠ [])
    (hlim : l.length + f.length ≤ 1099511627776)
    (h : ∀ v' w', OwnN w' w.heap.size v' (l ++ f) → w.grownBy w' none → K (a.put o.dst v') w') : Oper.wp Tryz.prog o a w K Q := by
  subst hk
  obtain ⟨i0, hi, hz0, hz1, hz2⟩ := infoRune_parts
  obtain ⟨xa, c, rfl, h1, h2, h3, h4⟩ := hr
  obtain ⟨b, off, rfl, hc⟩ := h4 hf
  have hpos := List.length_pos_iff.2 hf
  have hn : ∀ j u, (rCells f)[j]? = some u → w.cell? ((⟨b, off, none⟩ : Addr).add j) = some u := by
    intro j u hu
    simp only [rCells, List.getElem?_map, Option.map_eq_some_iff] at hu
    obtain ⟨y, q1, rfl⟩ := hu
    rw [show (⟨b, off, none⟩ : Addr).add j = ⟨b, off + j, none⟩ by unfold Addr.add; split <;> simp_all]
    exact hc j y q1
  obtain ⟨a', c', e, g1, g2, g3, g4⟩ := hR
  simp only [Value.slice.injEq] at e
  obtain ⟨rfl, _, rfl⟩ := e
  cases ao with
  | some ad =>
    obtain ⟨v', w', hrun, r1, r2⟩ := run_append_arg_grows (P := Tryz.prog) w t o.type 21 i0 (.int .i32 0) 1 4 ht hi hz0 hz1 hz2 rfl (by decide) ad l.length l.length (rCells l) (by rw [rCells_len]; omega) (by
      intro j u hu
      by_cases hl : l = []
      · subst hl; simp [rCells] at hu
      · obtain ⟨b', off', e', hc'⟩ := g4 hl
        cases e'
        simp only [rCells, List.getElem?_map, Option.map_eq_some_iff] at hu
        obtain ⟨y, q1, rfl⟩ := hu
        rw [show (⟨b', off', none⟩ : Addr).add j = ⟨b', off' + j, none⟩ by unfold Addr.add; split <;> simp_all]
        exact hc' j y q1) ⟨b, off, none⟩ f.length c (rCells f) (by rw [rCells_len]; omega) hn (by omega) (by unfold maxLen; omega) (by omega)
    unfold Oper.wp
    simp [execOp, ho, resolve, invoke, builtin, hs, hx, hrun, Result.andThen]
    refine h _ _ ?_ r2
    unfold OwnN
    rw [rCells_append, List.length_append]
    exact r1
  | none =>
    have hl := g3 rfl
    obtain rfl : l = [] := List.length_eq_zero_iff.1 hl
    refine wp_app_rs w s x t ho w.heap.size ht (.slice none 0 0) [] hs (OwnN.none _ _) _ f hx ⟨_, c, rfl, h1, h2, h3, h4⟩ hlim (Nat.le_refl _) fun v' w' q1 q2 _ => h v' w' q1 q2

/-- 's[:k:k]'. -/
theorem run_rs_hm (a : Option Addr) (l c k : Nat) (h : k ≤ c) (w : World) : (Instr.slice 50 (.slice a l c) none (some (.int .i64 (k : Int))) (some (.int .i64 (k : Int)))).run Tryz.prog w = .ok (.slice a k k) w := by
  have he : Tryz.prog.underlying 50 = some (.slice (Tryz.prog.elem 50)) := by simp [go_sem]
  rw [run_slice_hm w 50 a l c he .i64 .i64 (k : Int) (k : Int) (by omega) (by omega) (by omega)]
  have hz : (sizeOf (Tryz.prog.elem 50)).run Tryz.prog w = .ok 1 w := by simp [go_sem]
  rw [hz]
  simp only [Result.andThen_ok, sliced, Int.toNat_natCast, Nat.sub_zero, Nat.zero_mul]
  split
  · rfl
  · cases a <;> simp [Addr.add]
/-- 's[k:]'. -/
theorem run_rs_lo (a : Option Addr) (l c k : Nat) (h : k ≤ l) (w : World) : (Instr.slice 50 (.slice a l c) (some (.int .i64 (k : Int))) none none).run Tryz.prog w = .ok (.slice (if c = k then a else a.map (·.add k)) (l - k) (c - k)) w := by
  have he : Tryz.prog.underlying 50 = some (.slice (Tryz.prog.elem 50)) := by simp [go_sem]
  rw [run_slice_l w 50 a l c he .i64 (k : Int) (by omega) (by omega)]
  have hz : (sizeOf (Tryz.prog.elem 50)).run Tryz.prog w = .ok 1 w := by simp [go_sem]
  rw [hz]
  simp only [Result.andThen_ok, sliced, Int.toNat_natCast, Nat.mul_one]
theorem RS.low {w : World} {a : Option Addr} {n c : Nat} {l : List Int} (h : RS w (.slice a n c) l) {k : Nat} (hk : k ≤ n) : RS w (.slice a k k) (l.take k) := by
  obtain ⟨a', c', e, h1, h2, h3, h4⟩ := h
  simp only [Value.slice.injEq] at e
  obtain ⟨rfl, rfl, rfl⟩ := e
  have hl : (l.take k).length = k := by rw [List.length_take]; omega
  refine ⟨_, k, by rw [hl], by omega, by omega, fun e => by have := h3 e; omega, fun hne => ?_⟩
  obtain ⟨b, off, e, hc⟩ := h4 (by rintro rfl; simp at hne)
  refine ⟨b, off, e, fun i u hu => ?_⟩
  rw [List.getElem?_take] at hu
  split at hu
  · exact hc i u hu
  · cases hu
theorem RS.high {w : World} {a : Option Addr} {n c : Nat} {l : List Int} (h : RS w (.slice a n c) l) {k : Nat} (hk : k ≤ n) : RS w (.slice (if c = k then a else a.map (·.add k)) (n - k) (c - k)) (l.drop k) := by
  obtain ⟨a', c', e, h1, h2, h3, h4⟩ := h
  simp only [Value.slice.injEq] at e
  obtain ⟨rfl, rfl, rfl⟩ := e
  have hl : (l.drop k).length = l.length - k := List.length_drop
  refine ⟨_, c - k, by rw [hl], by omega, by omega, fun e => ?_, fun hne => ?_⟩
  · split at e
    · have := h3 e; omega
    · cases a with
      | none => have := h3 rfl; omega
      | some x => cases e
  · have hlt : k < l.length := by
      have := List.length_pos_iff.2 hne
      omega
    obtain ⟨b, off, rfl, hc⟩ := h4 (by rintro rfl; simp at hlt)
    rw [if_neg (by omega)]
    refine ⟨b, off + k, by simp only [Option.map_some, Option.some.injEq]; unfold Addr.add; split <;> simp_all, fun i u hu => ?_⟩
    rw [List.getElem?_drop] at hu
    rw [Nat.add_assoc]
    exact hc (k + i) u hu
end Go.Proofs.YtpdacbiiaglodaaGreat

/-
  LAYER 6 (norm): Push.
-/
namespace Go.Proofs.YtpdacbiiaglodaaGreat
set_option maxRecDepth 100000
open Go.RowKit Go.Lib

/-- Grown, and of the elder blocks only those of P turned. -/
structure GX (P : Nat → Prop) (a b : World) : Prop where
  os : b.os = a.os
  tape : b.tape = a.tape
  output : b.output = a.output
  size : a.heap.size ≤ b.heap.size
  block : ∀ k, k < a.heap.size → ¬ P k → b.heap[k]? = a.heap[k]?
theorem GX.of {P : Nat → Prop} {a b : World} {q : Option Nat} (h : a.grownBy b q) (hq : ∀ k, q = some k → P k) : GX P a b := ⟨h.os, h.tape, h.output, h.size, fun k hk hp => h.block k hk (fun e => hp (hq k e.symm))⟩
theorem GX.refl (P : Nat → Prop) (a : World) : GX P a a := GX.of (World.grownBy.refl a none) (by simp)
theorem GX.step {P : Nat → Prop} {a b c : World} {q : Option Nat} (h : GX P a b) (g : b.grownBy c q) (hq : ∀ k, q = some k → P k ∨ a.heap.size ≤ k) : GX P a c :=
  ⟨g.os.trans h.os, g.tape.trans h.tape, g.output.trans h.output, Nat.le_trans h.size g.size, fun k hk hp => (g.block k (Nat.lt_of_lt_of_le hk h.size) (fun e => by rcases hq k e.symm with h | h; exact hp h; omega)).trans (h.block k hk hp)⟩
theorem GX.trans {P Q : Nat → Prop} {a b c : World} (h : GX P a b) (g : GX Q b c) (hq : ∀ k, Q k → P k ∨ a.heap.size ≤ k) : GX P a c :=
  ⟨g.os.trans h.os, g.tape.trans h.tape, g.output.trans h.output, Nat.le_trans h.size g.size, fun k hk hp => (g.block k (Nat.lt_of_lt_of_le hk h.size) (fun hf => by rcases hq k hf with h | h; exact hp h; omega)).trans (h.block k hk hp)⟩
theorem GX.one {P : Nat → Prop} {a b : World} {q : Option Nat} (h : GX P a b) (hq : ∀ k, P k → q = some k ∨ a.heap.size ≤ k) : a.grownBy b q := ⟨h.os, h.tape, h.output, h.size, fun k hk hne => h.block k hk (fun hf => by rcases hq k hf with h | h; exact hne h.symm; omega)⟩

theorem psh_one (cf : Int → Int) (held : List Int) (A : List Int) (x : Int) : psh cf held (A ++ [x]) = if cf x = 0 then ((psh cf held A).1 ++ ord cf (psh cf held A).2, [x]) else ((psh cf held A).1, (psh cf held A).2 ++ [x]) := by
  rw [psh_append]
  simp only [psh]
  split <;> simp
theorem psh_len (cf : Int → Int) : ∀ (xs held : List Int), (psh cf held xs).1.length + (psh cf held xs).2.length = held.length + xs.length
  | [], held => by simp [psh]
  | x :: t, held => by
    rw [psh]
    split
    · have := psh_len cf t [x]
      simp only [List.length_append, ord_length, List.length_cons, List.length_nil] at this ⊢
      omega
    · have := psh_len cf t (held ++ [x])
      simp only [List.length_append, List.length_cons, List.length_nil] at this ⊢
      omega

theorem OwnN.lt {w : World} {B : Nat} {v : Value} {l : List Int} (h : OwnN w B v l) : ∀ k, v.ownBlock = some k → B ≤ k ∧ k < w.heap.size := by
  obtain ⟨_, ⟨rfl, _⟩ | ⟨g, cap, cur, rfl, hB, hgg, _⟩⟩ := h
  · intro k e; cases e
  · intro k e
    simp [Value.ownBlock] at e
    subst e
    exact ⟨hB, (Array.getElem?_eq_some_iff.1 hgg).1⟩
theorem OwnN.kept {w w' : World} {B : Nat} {v : Value} {l : List Int} {q : Option Nat} (h : OwnN w B v l) (hg : w.grownBy w' q) (hne : ∀ k, v.ownBlock = some k → q ≠ some k) : OwnN w' B v l :=
  World.ownsRow.kept h hg (by
    cases hv : v.ownBlock with
    | none => exact .inl rfl
    | some k => exact .inr (fun e => hne k hv e.symm))
theorem Strm.grown {w w' : World} {s : Nat} {p : Value} {cf : Int → Int} {df : Int → List Int} {F : Nat → Prop} {hv : Value} {held : List Int} {q : Option Nat} (h : Strm w s p cf df F hv held) (hg : w.grownBy w' q) (h1 : q ≠ some s) (h2 : ∀ k, q = some k → ¬ F k) (h3 : ∀ k, hv.ownBlock = some k → q ≠ some k) : Strm w' s p cf df F hv held :=
  ⟨h.at_.kept hg h1, h.own.kept hg h3, h.nd.grown hg h2, h.notS, h.notB⟩
theorem Strm.new {w w' : World} {s : Nat} {p : Value} {cf : Int → Int} {df : Int → List Int} {F : Nat → Prop} {hv : Value} {held : List Int} (h : Strm w s p cf df F hv held) (hg : w.grownBy w' none) : Strm w' s p cf df F hv held := h.grown hg (by simp) (by simp) (by simp)

/-- A code point laid behind what is held. -/
theorem held_push {w2 W W6 W7 : World} {s B : Nat} {p : Value} {cf : Int → Int} {df : Int → List Int} {F : Nat → Prop} {hv hv1 ov v7 : Value} {o h1 : List Int} {x : Int} (hB : B = w2.heap.size)
    (o1 : OwnN W B ov o) (o2 : Strm W s p cf df F hv1 h1) (o3 : ∀ k, hv1.ownBlock = some k → hv.ownBlock = some k ∨ B ≤ k) (o4 : ∀ k, ov.ownBlock = some k → hv1.ownBlock ≠ some k) (o5 : GX (fun k => k = s ∨ hv.ownBlock = some k) w2 W)
    (hsB : s < B) (hF : ∀ k, F k → k < B) (g6 : W.grownBy W6 none) (g7 : W6.grownBy W7 hv1.ownBlock) (a7 : OwnN W7 (s + 1) v7 (h1 ++ [x])) (b7 : v7.ownBlock = hv1.ownBlock ∨ ∃ k, v7.ownBlock = some k ∧ W6.heap.size ≤ k) :
    OwnN (W7.setCell ⟨s, 2, none⟩ v7) B ov o ∧ Strm (W7.setCell ⟨s, 2, none⟩ v7) s p cf df F v7 (h1 ++ [x]) ∧ (∀ k, v7.ownBlock = some k → hv.ownBlock = some k ∨ B ≤ k) ∧ (∀ k, ov.ownBlock = some k → v7.ownBlock ≠ some k) ∧ GX (fun k => k = s ∨ hv.ownBlock = some k) w2 (W7.setCell ⟨s, 2, none⟩ v7) := by
  have gs := grownBy_setCell' W7 s v7
  have gs2 : W7.grownBy (W7.setCell ⟨s, 2, none⟩ v7) (some s) := gset (World.grownBy.refl W7 _) 2 v7
  have hl1 := o2.own.lt
  have hl0 := o1.lt
  have hs1 : hv1.ownBlock ≠ some s := fun e => by have := (hl1 s e).1; omega
  have hsz := o5.size
  have hB7 : ∀ k, v7.ownBlock = some k → hv1.ownBlock = some k ∨ W.heap.size ≤ k := fun k e => by
    rcases b7 with h | ⟨k', h, h'⟩
    · exact .inl (h ▸ e)
    · rw [h] at e; cases e; exact .inr (Nat.le_trans g6.size h')
  refine ⟨((o1.kept g6 (by simp)).kept g7 (fun k e => o4 k e)).kept gs2 (fun k e e' => by cases e'; have := (hl0 s e).1; omega), ⟨(((o2.at_.kept g6 (by simp)).kept g7 hs1).setHeld v7), a7.kept gs2 (fun k e e' => by cases e'; have := (a7.lt s e).1; omega), ((o2.nd.new g6).grown g7 (fun k e => o2.notB k e)).grown gs2 (fun k e => by cases e; exact o2.notS), o2.notS, fun k e hf => ?_⟩, fun k e => ?_, fun k e e' => ?_, (o5.step g6 (by simp)).step g7 (fun k e => ?_) |>.step gs2 (fun k e => by cases e; exact .inl (.inl rfl))⟩
  · rcases hB7 k e with h | h
    · exact o2.notB k h hf
    · have := hF k hf; omega
  · rcases hB7 k e with h | h
    · exact o3 k h
    · right; omega
  · rcases hB7 k e' with h | h
    · exact o4 k e h
    · have := (hl0 k e).2; omega
  · rcases o3 k e with h | h
    · exact .inl (.inr h)
    · right; omega

theorem rs_lit (x : Int) (w : World) : RS (w.alloc (.cells #[.int .i32 x] 21)) (.slice (some ⟨w.heap.size, 0, none⟩) 1 1) [x] := by
  refine ⟨_, 1, rfl, Nat.le_refl _, by unfold maxLen; omega, (fun e => by cases e), fun _ => ⟨_, 0, rfl, fun i u hu => ?_⟩⟩
  have hn := World.alloc_heap_new w (.cells #[.int .i32 x] 21)
  cases i with
  | zero => simp at hu; subst hu; simp only [World.cell?, hn]; rfl
  | succ i => simp at hu
theorem Strm.noS {w : World} {s : Nat} {p : Value} {cf : Int → Int} {df : Int → List Int} {F : Nat → Prop} {hv : Value} {held : List Int} (h : Strm w s p cf df F hv held) : hv.ownBlock ≠ some s := fun e => by have := (h.own.lt s e).1; omega

/-- Between the rounds of Push. -/
def PInv (s : Nat) (p : Value) (cf : Int → Int) (df : Int → List Int) (F : Nat → Prop) (hv : Value) (held : List Int) (w2 : World) (A : List Int) (ov : Value) (W : World) : Prop :=
  ∃ hv', OwnN W w2.heap.size ov (psh cf held A).1 ∧ Strm W s p cf df F hv' (psh cf held A).2 ∧ (∀ k, hv'.ownBlock = some k → hv.ownBlock = some k ∨ w2.heap.size ≤ k) ∧ (∀ k, ov.ownBlock = some k → hv'.ownBlock ≠ some k) ∧ GX (fun k => k = s ∨ hv.ownBlock = some k) w2 W

set_option maxHeartbeats 8000000 in
theorem push_walk (s : Nat) (p : Value) (cf : Int → Int) (df : Int → List Int) (F : Nat → Prop) (hv : Value) (held : List Int) (r : Int) (w : World) (h : Strm w s p cf df F hv held) (hsc : scal r = true) (hlen : held.length + (df r).length < 1099511627776) (xs : List Int) (hxs : xs = df r) :
    Calls Tryz.prog 32 #[.pointer (some ⟨s, 0, none⟩), .int .i32 r] w fun e w' => ∃ a n, e = .returned (.tuple #[.slice a n n, .int .i64 0]) ∧ n = (psh cf held xs).1.length ∧ RO w.heap.size w' (.slice a n n) (psh cf held xs).1 ∧ ∃ hv' F', Strm w' s p cf df F' hv' (psh cf held xs).2 ∧ (∀ k, F k → F' k) ∧ (∀ k, F' k → F k ∨ w.heap.size ≤ k) ∧
      (∀ k, hv'.ownBlock = some k → hv.ownBlock = some k ∨ w.heap.size ≤ k) ∧ GX (fun k => p = .pointer (some ⟨k, 0, none⟩) ∨ k = s ∨ hv.ownBlock = some k) w w' := by
  have hm := sMade s true w h.at_.made
  have hS := fun w => scal_utf.Scalar r w
  rw [hsc] at hS
  have hD := nd_decomp r h.nd
  rw [← hxs] at hD hlen
  have c1 := h.at_.data
  have hlt := h.at_.lt
  have hFl := h.nd.lt
  obtain ⟨hx1, hx2⟩ : True ∧ True := ⟨trivial, trivial⟩
  have H := Lib.hid h
  clear h hsc hxs hx1 hx2
  go_enter Tryz.func32, Tryz.ntmps32
  go_wp2_with (first
    | (go_at_call 67; refine hm.mono ?_; rintro e w' ⟨rfl, rfl⟩)
    | (go_at_call 68; refine (hS _).mono ?_; rintro e w' ⟨rfl, rfl⟩)
    | (go_at_call 14; refine hD.mono ?_; rintro e w2 ⟨v2, rfl, hR2, ⟨q2, hg2, hq2⟩, F', f1, f2, hN2⟩; obtain ⟨db, dc, rfl, hdb, hdne, hdl, hdm, hdc⟩ := hR2))
  have hsz2 := hg2.size
  have hhl := H.out.own.lt
  have hdb2 : db < w2.heap.size := by
    obtain ⟨u, t, rfl⟩ := List.exists_cons_of_ne_nil hdne
    exact World.block_lt_of_cell? w2 _ (hdc 0 u rfl)
  have HDC := Lib.hid hdc
  have hF2 := hN2.lt
  have P0 : PInv s p cf df F' hv held w2 [] (.slice none 0 0) w2 := by
    refine ⟨hv, OwnN.none _ _, ⟨H.out.at_.kept hg2 (fun e => H.out.notS (hq2 s e).1), H.out.own.kept hg2 (fun k e e' => H.out.notB k e (hq2 k e').1), hN2, fun hf => ?_, fun k e hf => ?_⟩, fun k e => .inl e, (fun k e => by cases e), GX.refl _ _⟩
    · rcases f2 s hf with h | h
      · exact H.out.notS h
      · omega
    · rcases f2 k hf with h | h
      · exact H.out.notB k e h
      · have := (hhl k e).2; omega
  have HF := Lib.hid (And.intro f1 f2)
  have HG := Lib.hid (And.intro hg2 hq2)
  obtain ⟨N, hN⟩ : ∃ N, N = xs.length := ⟨_, rfl⟩
  rw [← hN] at hdl hlen ⊢
  have HN := Lib.hid hN
  replace P0 : Aside (PInv s p cf df F' hv held w2 (xs.take 0) (.slice none 0 0) w2) := P0
  clear hN hdc f1 f2 hg2 hq2 hm hS hD c1 hN2
  go_loopg [6, 22] N (fun kx s6 s22 wr => ∃ (i : Nat), s22 = .int .i64 (i : Int) ∧ i ≤ N ∧ N - i ≤ kx ∧ Aside (PInv s p cf df F' hv held w2 (xs.take i) s6 wr))
  case atStart => exact ⟨0, rfl, Nat.zero_le _, Nat.le_refl _, P0⟩
  case round =>
    clear P0
    obtain ⟨i, rfl, hin, hkx, hP⟩ := hrel
    by_cases hlt2 : i < N
    · have hltz : (i : Int) < (N : Int) := by omega
      obtain ⟨x, hx⟩ : ∃ x, xs[i]? = some x := ⟨_, List.getElem?_eq_getElem (by have := HN.out; omega)⟩
      have ht : xs.take (i + 1) = xs.take i ++ [x] := by rw [List.take_add_one, hx]; rfl
      have HT := Lib.hid ht
      clear ht
      obtain ⟨hv1, o1, o2, o3, o4, o5⟩ := hP.out
      have hln := psh_len cf (xs.take i) held
      rw [List.length_take] at hln
      have hpe := psh_one cf held (xs.take i) x
      rw [← HT.out] at hpe
      generalize hpo : psh cf held (xs.take i) = po at o1 o2 hln hpe
      obtain ⟨o, h1⟩ := po
      dsimp only at o1 o2 hln hpe
      have HPE := Lib.hid hpe
      have dc : wr.cell? ⟨db, i, none⟩ = some (.int .i32 x) := by
        rw [World.cell?_of_block (a := ⟨db, i, none⟩) (o5.block db hdb2 (fun hh => by rcases hh with h | h; omega; have := (hhl db h).2; omega))]
        exact HDC.out i x hx
      have c1 := o2.at_.data
      have hlN := HN.out
      have hSt := nd_starter x o2.nd
      have hsW := o2.at_.lt
      have hbo : o.length + h1.length ≤ held.length + N := by omega
      clear hpe hpo hx hP hln hlN
      by_cases hz : cf x = 0
      · have hzb : (cf x == 0) = true := by simp [hz]
        rw [hzb] at hSt
        rw [if_pos hz] at HPE
        obtain ⟨a1, n1, rfl⟩ := o2.own.form
        obtain ⟨ao, no, rfl⟩ := o1.form
        obtain ⟨O1, O2, O3, O4, O5⟩ : Hid _ ∧ Hid _ ∧ Hid _ ∧ Hid _ ∧ Hid _ := ⟨Lib.hid o1, Lib.hid o2, Lib.hid o3, Lib.hid o4, Lib.hid o5⟩
        have hE := fun W (hg : wr.grownBy W none) => end_any s p cf df F' _ h1 W (o2.new hg) (by omega)
        have hsz5 := o5.size
        clear o1 o2 o3 o4 o5 hz hzb
        go_wp2_with (first
          | (go_at_call 16; refine hSt.mono ?_; rintro e w3 ⟨rfl, hg3⟩)
          | (go_at_call 36; refine (hE _ hg3).mono ?_; rintro e w4 ⟨a4, rfl, hr4, S4, hg4⟩; have oo4 := (O1.out.kept hg3 (by simp)).kept hg4 (fun k e e' => by cases e'; have := (O1.out.lt s e).1; omega))
          | (at_builtin; refine wpList_append_rs _ rfl _ _ 50 rfl w2.heap.size Tryz.underlying50 (.slice ao o.length no) o rfl oo4 (.slice a4 h1.length h1.length) (ord cf h1) rfl hr4.reads (by rw [ord_length]; omega) (by have := hg3.size; have := hg4.size; omega) ?_; intro v5 w5 ho5 hg5 hb5; obtain ⟨a5, m5, rfl⟩ := ho5.form; have S5 := S4.grown hg5 (fun e => by have := (oo4.lt s e).1; omega) (fun k e hf => by have := (oo4.lt k e).1; have := hF2 k hf; omega) (fun k e => by cases e); have k2 := S5.at_.held)
          | (at_builtin; refine wpList_append_rs _ rfl _ _ 50 rfl (s + 1) Tryz.underlying50 (.slice none 0 0) [] rfl ((S5.new (World.grownBy_alloc _ (.cells #[.int .i32 x] 21) none)).own) _ [x] rfl (rs_lit x _) (by simp; try omega) (by have := S5.at_.lt; rw [World.size_alloc]; omega) ?_; intro v7 w7 ho7 hg7 hb7; obtain ⟨a7, m7, rfl⟩ := ho7.form; have A7 := (S5.at_.kept (World.grownBy_alloc _ (.cells #[.int .i32 x] 21) none) (by simp)).kept hg7 S5.noS; have c7 := A7.held; have f7 := A7.free 2))
        have X5 : GX (fun k => k = s ∨ hv.ownBlock = some k) w2 w5 := ((O5.out.step hg3 (by simp)).step hg4 (fun k e => by cases e; exact .inl (.inl rfl))).step hg5 (fun k e => .inr (O1.out.lt k e).1)
        have Q := held_push (x := x) (hv := hv) (hv1 := .slice none 0 0) rfl ho5 S5 (fun k e => by cases e) (fun k e e' => by cases e') X5 (by omega) hF2 (World.grownBy_alloc w5 (.cells #[.int .i32 x] 21) none) hg7 ho7 hb7
        rw [List.nil_append] at Q
        have QP : Aside (PInv s p cf df F' hv held w2 (xs.take (i + 1)) (.slice a5 (o ++ ord cf h1).length m5) (w7.setCell ⟨s, 2, none⟩ (.slice a7 ([] ++ [x] : List Int).length m7))) := by
          show PInv _ _ _ _ _ _ _ _ _ _ _
          unfold PInv
          rw [HPE.out]
          exact ⟨_, Q⟩
        clear Q X5
        go_roundg (N - (i + 1))
        case measure => omega
        case rel => exact ⟨i + 1, by first | rfl | go_num, by omega, Nat.le_refl _, by have := QP; simp only [List.length_append, List.length_cons, List.length_nil, Nat.zero_add] at this; exact this⟩
      · have hzb : (cf x == 0) = false := by simp [hz]
        rw [hzb] at hSt
        rw [if_neg hz] at HPE
        obtain ⟨a1, n1, rfl⟩ := o2.own.form
        obtain ⟨ao, no, rfl⟩ := o1.form
        obtain ⟨O1, O2, O3, O4, O5⟩ : Hid _ ∧ Hid _ ∧ Hid _ ∧ Hid _ ∧ Hid _ := ⟨Lib.hid o1, Lib.hid o2, Lib.hid o3, Lib.hid o4, Lib.hid o5⟩
        clear o1 o2 o3 o4 o5 hz hzb
        have hsz5 := O5.out.size
        go_wp2_with (first
          | (go_at_call 16; refine hSt.mono ?_; rintro e w3 ⟨rfl, hg3⟩; have S3 := O2.out.new hg3; have k2 := S3.at_.held)
          | (at_builtin; refine wpList_append_rs _ rfl _ _ 50 rfl (s + 1) Tryz.underlying50 (.slice a1 h1.length n1) h1 rfl ((S3.new (World.grownBy_alloc _ (.cells #[.int .i32 x] 21) none)).own) _ [x] rfl (rs_lit x _) (by simp; try omega) (by have := S3.at_.lt; rw [World.size_alloc]; omega) ?_; intro v7 w7 ho7 hg7 hb7; obtain ⟨a7, m7, rfl⟩ := ho7.form; have A7 := (S3.at_.kept (World.grownBy_alloc _ (.cells #[.int .i32 x] 21) none) (by simp)).kept hg7 S3.noS; have c7 := A7.held; have f7 := A7.free 2))
        have X3 : GX (fun k => k = s ∨ hv.ownBlock = some k) w2 w3 := O5.out.step hg3 (by simp)
        have Q := held_push (x := x) (hv := hv) rfl (O1.out.kept hg3 (by simp)) S3 O3.out O4.out X3 (by omega) hF2 (World.grownBy_alloc w3 (.cells #[.int .i32 x] 21) none) hg7 ho7 hb7
        have QP : Aside (PInv s p cf df F' hv held w2 (xs.take (i + 1)) (.slice ao o.length no) (w7.setCell ⟨s, 2, none⟩ (.slice a7 (h1 ++ [x]).length m7))) := by
          show PInv _ _ _ _ _ _ _ _ _ _ _
          unfold PInv
          rw [HPE.out]
          exact ⟨_, Q⟩
        clear Q X3
        go_roundg (N - (i + 1))
        case measure => omega
        case rel => exact ⟨i + 1, by first | rfl | go_num, by omega, Nat.le_refl _, by have := QP; simp only [List.length_append, List.length_cons, List.length_nil, Nat.zero_add] at this; exact this⟩
    · obtain rfl : N = i := by omega
      obtain ⟨hv1, o1, o2, o3, o4, o5⟩ := hP.out
      have htk : xs.take N = xs := by rw [HN.out, List.take_length]
      rw [htk] at o1 o2
      have hcl := fun W => clip_any w2.heap.size u6 (psh cf held xs).1 W
      obtain ⟨ao, no, rfl⟩ := o1.form
      have hln := psh_len cf xs held
      have hlN := HN.out
      have hC := clip_any w2.heap.size _ (psh cf held xs).1 wr o1.ro (by omega)
      have HH := Lib.hid (And.intro o2 (And.intro o3 o5))
      obtain ⟨m, hm⟩ : ∃ m, m = (psh cf held xs).1.length := ⟨_, rfl⟩
      rw [← hm] at hC ⊢
      have HM := Lib.hid hm
      clear hm hcl hP o1 o2 o3 o4 o5 htk hln hlN
      go_wp2_with (go_at_call 69; refine hC.mono ?_; rintro e w3 ⟨a3, rfl, hr3, rfl⟩)
      go_ret2
      obtain ⟨o2, o3, o5⟩ := HH.out
      refine ⟨a3, m, rfl, HM.out, hr3.low hsz2, hv1, F', o2, HF.out.1, HF.out.2, fun k e => ?_, ?_⟩
      · rcases o3 k e with h | h
        · exact .inl h
        · right; omega
      · refine GX.trans (GX.of HG.out.1 (fun k e => .inl (HG.out.2 k e).2)) o5 (fun k hk => .inl (.inr hk))

theorem push_any (s : Nat) (p : Value) (cf : Int → Int) (df : Int → List Int) (F : Nat → Prop) (hv : Value) (held : List Int) (r : Int) (w : World) (h : Strm w s p cf df F hv held) (hsc : scal r = true) (hlen : held.length + (df r).length < 1099511627776) :
    Calls Tryz.prog 32 #[.pointer (some ⟨s, 0, none⟩), .int .i32 r] w fun e w' => ∃ a n, e = .returned (.tuple #[.slice a n n, .int .i64 0]) ∧ n = (psh cf held (df r)).1.length ∧ RO w.heap.size w' (.slice a n n) (psh cf held (df r)).1 ∧ ∃ hv' F', Strm w' s p cf df F' hv' (psh cf held (df r)).2 ∧ (∀ k, F k → F' k) ∧ (∀ k, F' k → F k ∨ w.heap.size ≤ k) ∧
      (∀ k, hv'.ownBlock = some k → hv.ownBlock = some k ∨ w.heap.size ≤ k) ∧ GX (fun k => p = .pointer (some ⟨k, 0, none⟩) ∨ k = s ∨ hv.ownBlock = some k) w w' := push_walk s p cf df F hv held r w h hsc hlen _ rfl
theorem push_none (s : Nat) (r : Int) (w : World) (h : scal r = false) (hm : w.cell? ⟨s, 0, none⟩ = some (.bool true)) :
    Calls Tryz.prog 32 #[.pointer (some ⟨s, 0, none⟩), .int .i32 r] w fun e w' => e = .returned (.tuple #[.slice none 0 0, .int .i64 41]) ∧ w = w' := by
  have hm := sMade s true w hm
  have hS := fun w => scal_utf.Scalar r w
  rw [h] at hS
  go_enter Tryz.func32, Tryz.ntmps32
  go_wp2_with (first
    | (go_at_call 67; refine hm.mono ?_; rintro e w' ⟨rfl, rfl⟩)
    | (go_at_call 68; refine (hS _).mono ?_; rintro e w' ⟨rfl, rfl⟩))
  go_ret2
  exact ⟨rfl, rfl⟩
theorem push_unmade (p : Value) (r : Int) (w : World) (hm : Calls Tryz.prog 67 #[p] w fun e w' => e = .returned (.bool false) ∧ w = w') :
    Calls Tryz.prog 32 #[p, .int .i32 r] w fun e w' => e = .returned (.tuple #[.slice none 0 0, .int .i64 60]) ∧ w = w' := by
  go_enter Tryz.func32, Tryz.ntmps32
  go_wp2_with (go_at_call 67; refine hm.mono ?_; rintro e w' ⟨rfl, rfl⟩)
  go_ret2
  exact ⟨rfl, rfl⟩
theorem end_unmade (p : Value) (w : World) (hm : Calls Tryz.prog 67 #[p] w fun e w' => e = .returned (.bool false) ∧ w = w') :
    Calls Tryz.prog 36 #[p] w fun e w' => e = .returned (.slice none 0 0) ∧ w = w' := by
  go_enter Tryz.func36, Tryz.ntmps36
  go_wp2_with (go_at_call 67; refine hm.mono ?_; rintro e w' ⟨rfl, rfl⟩)
  go_ret
  exact ⟨rfl, rfl⟩
theorem held_unmade (p : Value) (w : World) (hm : Calls Tryz.prog 67 #[p] w fun e w' => e = .returned (.bool false) ∧ w = w') :
    Calls Tryz.prog 34 #[p] w fun e w' => e = .returned (.int .i64 0) ∧ w = w' := by
  go_enter Tryz.func34, Tryz.ntmps34
  go_wp2_with (go_at_call 67; refine hm.mono ?_; rintro e w' ⟨rfl, rfl⟩)
  go_ret
  exact ⟨rfl, rfl⟩
end Go.Proofs.YtpdacbiiaglodaaGreat
