/-
  LAYER 6 (norm): the laws' data.
-/
import Derived.Test.YtpdacbiiaglodaaGreatQC23
import Derived.Test.YtpdacbiiaglodaaGreatQC35
import Derived.Test.YtpdacbiiaglodaaGreatQC36
import Derived.Test.YtpdacbiiaglodaaGreatQC40
import Derived.Test.YtpdacbiiaglodaaGreatQC34
namespace Go.Proofs.YtpdacbiiaglodaaGreat
set_option maxRecDepth 100000
open Go.RowKit Go.Lib

theorem pair_new (w : World) (a b : Value) (t : TypeId) : (w.alloc (.cells #[a, b] t)).cell? ⟨w.heap.size, 0, none⟩ = some a ∧ (w.alloc (.cells #[a, b] t)).cell? ⟨w.heap.size, 1, none⟩ = some b ∧ ∀ i, (w.alloc (.cells #[a, b] t)).frozen? ⟨w.heap.size, i, none⟩ = false := by
  have kn := World.alloc_heap_new w (.cells #[a, b] t)
  refine ⟨?_, ?_, fun i => ?_⟩
  · simp only [World.cell?, kn]; rfl
  · simp only [World.cell?, kn]; rfl
  · simp only [World.frozen?, kn]; simp
/-- Fresh data: of the blocks before theirs, only such with a code point in it. -/
def intAt (w : World) (k : Nat) : Prop := ∃ i x, w.cell? ⟨k, i, none⟩ = some (.int .i32 x)
def footI (w : World) (n k : Nat) : Prop := k = n ∨ (k < n ∧ intAt w k)
theorem pair_noint {w : World} {q : Nat} {a b a' b' : Nat} {p p' : Option Addr} {t : TypeId} {z : Nat × Nat} (h : w.heap[q]? = some (.cells #[.slice p a b, .slice p' a' b'] t z)) : ¬ intAt w q := by
  rintro ⟨i, x, hi⟩
  simp only [World.cell?, h] at hi
  match i with
  | 0 => simp at hi
  | 1 => simp at hi
  | i + 2 => simp at hi
theorem tri_int {k : IntKind} {w : World} {v : Value} {l : List (Int × Int × Int)} (h : Tri k w v l) (hn : l ≠ []) : ∀ q, v.ownBlock = some q → intAt w q := by
  rcases h with ⟨rfl, h⟩ | ⟨b, off, cap, rfl, _, _, hc⟩
  · exact absurd h hn
  · intro q hq
    simp [Value.ownBlock] at hq
    subst hq
    obtain ⟨x, t, rfl⟩ := List.exists_cons_of_ne_nil hn
    exact ⟨_, _, (hc 0 x rfl).1⟩
theorem Nrm.footI {w : World} {n : Nat} {c : List Cls} {d : List Dec} (h : Nrm w n c d false) : NrmF w n c d false (footI w n) := by
  obtain ⟨vc, vd, mv, h1, h2, h3, h4, h5, h6⟩ := h
  exact ⟨vc, vd, mv, h1, fun a k e => ⟨h2 a k e, .inr ⟨h2 a k e, tri_int h1.1 a k e⟩⟩, fun a k e => ⟨h3 a k e, .inr ⟨h3 a k e, tri_int h1.2 a k e⟩⟩, h4, .inl rfl, h5, (fun e => by cases e), fun k hk => by rcases hk with rfl | ⟨hk, _⟩; exact h4.lt; exact Nat.lt_trans hk h4.lt⟩

set_option maxHeartbeats 4000000 in
theorem data_any (vc vd : Value) (c : List Cls) (d : List Dec) (w : World) (hT : Dat w vc vd c d) (h : good c d = true) (hc : c.length ≤ 200) (hd : d.length ≤ 200) :
    Calls Tryz.prog 27 #[vc, vd] w fun e w' => ∃ n, e = .returned (.tuple #[.pointer (some ⟨n, 0, none⟩), .agg #[vc, vd], .bool true]) ∧ w.heap.size ≤ n ∧ (∃ F : Nat → Prop, ND (.pointer (some ⟨n, 0, none⟩)) (clsOf c) (told' d) F w' ∧ ∀ k, k < w.heap.size → F k → intAt w k) ∧ w.grownBy w' none := by
  have hB := fun W (hg : w.grownBy W none) => refBuild_ok vc vd c d W (hT.all hg) h
  have hL := fun v W hr => Load_ok v c d W hr h
  obtain ⟨a1, c1, rfl, _, _⟩ := hT.1.form
  obtain ⟨a2, c2, rfl, _, _⟩ := hT.2.form
  generalize hfr : frame (payload c d) = FR at hB hL
  generalize hcl : c.length = cl at hB hc ⊢
  generalize hdl : d.length = dl at hB hd ⊢
  have HF := Lib.hid h
  clear hfr hcl hdl hT h
  go_enter Tryz.func27, Tryz.ntmps27
  go_wp2_with fail
  go_at_call 12
  refine (hB _ (World.grownBy_alloc w _ none)).mono ?_
  rintro e w1 ⟨v1, rfl, hr1, hg1⟩
  clear hB
  go_wp2_with fail
  go_at_call 41
  refine (hL _ _ hr1).mono ?_
  rintro e w2 ⟨n, rfl, hn, hN, hg2⟩
  clear hL
  have kd := ((hg1.trans hg2).block w.heap.size (by simp) (by simp)).trans (World.alloc_heap_new w _)
  have d0 : w2.cell? ⟨w.heap.size, 0, none⟩ = some (.slice none 0 0) := by simp [World.cell?, kd]
  have d1 : w2.cell? ⟨w.heap.size, 1, none⟩ = some (.slice none 0 0) := by simp [World.cell?, kd]
  have f0 : ∀ i, w2.frozen? ⟨w.heap.size, i, none⟩ = false := by simp [World.frozen?, kd]
  have HN := Lib.hid hN
  clear hN
  go_wp2_with fail
  have gs0 : w2.grownBy (w2.setCell ⟨w.heap.size, 0, none⟩ (.slice a1 cl c1)) (some w.heap.size) := gset (World.grownBy.refl w2 _) 0 _
  have gs : w2.grownBy ((w2.setCell ⟨w.heap.size, 0, none⟩ (.slice a1 cl c1)).setCell ⟨w.heap.size, 1, none⟩ (.slice a2 dl c2)) (some w.heap.size) := gset gs0 1 _
  have hs1 := hg1.size
  rw [World.size_alloc] at hs1
  have hg : w.grownBy w2 none := ((World.grownBy_alloc w _ none).trans hg1).trans hg2
  have e0 := heap_setCell_same w2 w.heap.size 0 _ _ (.slice a1 cl c1) kd
  have e1 := heap_setCell_same _ w.heap.size 1 _ _ (.slice a2 dl c2) e0
  refine bodyPost_ret (v := .tuple #[.pointer (some ⟨n, 0, none⟩), .agg #[.slice a1 cl c1, .slice a2 dl c2], .bool true]) (by simp [results, Tryz.results27, go_sem, World.cell?, e1]) rfl ⟨n, rfl, by omega, ⟨footI w2 n, .inr ⟨n, c, d, false, rfl, HN.out.footI.grown gs ?_, HF.out, rfl, rfl⟩, ?_⟩, gnew hg gs (fun r e => by cases e; left; omega)⟩
  · intro k e hf
    cases e
    rcases hf with h | ⟨_, i, x, h⟩
    · omega
    · simp only [World.cell?, kd] at h
      match i with
      | 0 => simp at h
      | 1 => simp at h
      | i + 2 => simp at h
  · intro k hk hf
    rcases hf with h | ⟨_, i, x, h⟩
    · omega
    · exact ⟨i, x, by rw [← h]; exact (World.cell?_of_block (a := ⟨k, i, none⟩) (hg.block k hk (by simp))).symm⟩

set_option maxHeartbeats 4000000 in
theorem small_any (w : World) :
    Calls Tryz.prog 20 #[] w fun e w' => ∃ n vc vd, e = .returned (.tuple #[.pointer (some ⟨n, 0, none⟩), .agg #[vc, vd]]) ∧ w.heap.size ≤ n ∧ Dat w' vc vd smallC smallD ∧ (∃ F : Nat → Prop, ND (.pointer (some ⟨n, 0, none⟩)) (clsOf smallC) (told' smallD) F w' ∧ ∀ k, k < w.heap.size → F k → intAt w k) ∧ w.grownBy w' none := by
  have hR := fun w => refSmall_any w
  have hD := fun vc vd w hT => data_any vc vd smallC smallD w hT small_good (by decide) (by decide)
  generalize smallC = sc at hR hD ⊢
  generalize smallD = sd at hR hD ⊢
  go_enter Tryz.func20, Tryz.ntmps20
  go_wp2_with fail
  go_at_call 11
  refine (hR _).mono ?_
  rintro e w1 ⟨vc, vd, rfl, hT, hg1⟩
  clear hR
  obtain ⟨x1, y1, rfl, _, _⟩ := hT.1.form
  obtain ⟨x2, y2, rfl, _, _⟩ := hT.2.form
  generalize hl1 : sc.length = l1 at hT
  generalize hl2 : sd.length = l2 at hT
  replace hl1 := Lib.hid hl1
  replace hl2 := Lib.hid hl2
  go_wp2_with fail
  go_at_call 27
  refine (hD _ _ _ hT).mono ?_
  rintro e w2 ⟨n, rfl, hn, hN, hg2⟩
  clear hD
  have HN := Lib.hid hN
  clear hN
  go_wp2_with fail
  have hga := World.grownBy_alloc w2 (.cells #[.slice x1 l1 y1, .slice x2 l2 y2] 59) none
  obtain ⟨n0, n1, m0⟩ := pair_new w2 (.slice x1 l1 y1) (.slice x2 l2 y2) 59
  generalize w2.alloc (.cells #[.slice x1 l1 y1, .slice x2 l2 y2] 59) = W at n0 n1 m0 hga ⊢
  have kd := (((hg1.trans hg2).trans hga).block w.heap.size (by simp) (by simp)).trans (World.alloc_heap_new w _)
  have d0 : W.cell? ⟨w.heap.size, 0, none⟩ = some (.slice none 0 0) := by simp [World.cell?, kd]
  have d1 : W.cell? ⟨w.heap.size, 1, none⟩ = some (.slice none 0 0) := by simp [World.cell?, kd]
  have f0 : ∀ i, W.frozen? ⟨w.heap.size, i, none⟩ = false := by simp [World.frozen?, kd]
  go_region
  go_wp2_with fail
  have gs0 : W.grownBy (W.setCell ⟨w.heap.size, 0, none⟩ (.slice x1 l1 y1)) (some w.heap.size) := gset (World.grownBy.refl W _) 0 _
  have gs1 : W.grownBy ((W.setCell ⟨w.heap.size, 0, none⟩ (.slice x1 l1 y1)).setCell ⟨w.heap.size, 1, none⟩ (.slice x2 l2 y2)) (some w.heap.size) := gset gs0 1 _
  have gs := gdrew gs1
  have kd1 := (hg1.block w.heap.size (by simp) (by simp)).trans (World.alloc_heap_new w _)
  have hni := pair_noint kd1
  have e0 := heap_setCell_same W w.heap.size 0 _ _ (.slice x1 l1 y1) kd
  have e1 := heap_setCell_same _ w.heap.size 1 _ _ (.slice x2 l2 y2) e0
  have hs1 := hg1.size
  rw [World.size_alloc] at hs1
  have hw1 : w.grownBy w1 none := (World.grownBy_alloc w _ none).trans hg1
  have hg : w.grownBy W none := (hw1.trans hg2).trans hga
  have e2 : (((W.setCell ⟨w.heap.size, 0, none⟩ (.slice x1 l1 y1)).setCell ⟨w.heap.size, 1, none⟩ (.slice x2 l2 y2)).drew).heap[w.heap.size]? = _ := e1
  generalize ((W.setCell ⟨w.heap.size, 0, none⟩ (.slice x1 l1 y1)).setCell ⟨w.heap.size, 1, none⟩ (.slice x2 l2 y2)).drew = V at gs e2 ⊢
  refine bodyPost_ret (v := .tuple #[.pointer (some ⟨n, 0, none⟩), .agg #[.slice x1 l1 y1, .slice x2 l2 y2]]) (by simp [results, Tryz.results20, go_sem, World.cell?, e2]) rfl ⟨n, _, _, rfl, by omega, ?_, ?_, gnew hg gs (fun r e => by cases e; left; omega)⟩
  · have hg3 := hg2.trans hga
    have key : ∀ k, k < w1.heap.size → intAt w1 k → V.heap[k]? = w1.heap[k]? := fun k hk hi => (gs.block k (Nat.lt_of_lt_of_le hk hg3.size) (fun e => by cases e; exact hni hi)).trans (hg3.block k hk (by simp))
    exact ⟨hT.1.heap fun a k e => key k (hT.1.lt a k e) (tri_int hT.1 a k e), hT.2.heap fun a k e => key k (hT.2.lt a k e) (tri_int hT.2 a k e)⟩
  · obtain ⟨F, hF1, hF2⟩ := HN.out
    refine ⟨F, (hF1.new hga).grown gs (fun k e => by cases e; exact fun hf => hni (hF2 _ (by omega) hf)), fun k hk hf => ?_⟩
    obtain ⟨i, x, h⟩ := hF2 k (by omega) hf
    exact ⟨i, x, by rw [← h]; exact (World.cell?_of_block (a := ⟨k, i, none⟩) (hw1.block k hk (by simp))).symm⟩
end Go.Proofs.YtpdacbiiaglodaaGreat

/-
  LAYER 6 (norm): awake: the chapter's examples.
-/
namespace Go.Proofs.YtpdacbiiaglodaaGreat
set_option maxRecDepth 100000
open Go.RowKit Go.Lib

def cS : Int → Int := clsOf smallC
def dS : Int → List Int := told' smallD
theorem aw1 : ([7853] : List Int).flatMap dS = [97, 803, 770] := by decide +kernel
theorem aw1' : ord cS [97, 803, 770] = [97, 803, 770] := by decide +kernel
theorem aw2 : ([97, 770, 803] : List Int).flatMap dS = [97, 770, 803] := by decide +kernel
theorem aw2' : ord cS [97, 770, 803] = [97, 803, 770] := by decide +kernel
theorem aw3 : psh cS [] (dS 97) = ([], [97]) := by decide +kernel
theorem aw3' : (dS 97).length = 1 := by decide +kernel
theorem aw4 : U.tot [97, 204, 130, 204, 163] = 5 := by decide +kernel
theorem aw5 : U.runes [97, 204, 130, 204, 163] = [97, 770, 803] := by decide +kernel
theorem aw6 : U.enc [97, 803, 770] = [97, 204, 163, 204, 130] := by decide +kernel
theorem aw7 : U.allSc [97, 803, 770] := (by decide +kernel : ∀ r ∈ ([97, 803, 770] : List Int), U.scalar r = true)

theorem ND.plt {p : Value} {cf : Int → Int} {df : Int → List Int} {F : Nat → Prop} {w : World} (hN : ND p cf df F w) : ∀ k, p = .pointer (some ⟨k, 0, none⟩) → k < w.heap.size := by
  intro k e
  rcases hN with ⟨rfl, _⟩ | ⟨n, c, d, dn, rfl, hf, _⟩
  · cases e
  · cases e; obtain ⟨_, _, _, _, _, _, h6, _⟩ := hf.nrm; exact h6.lt

theorem aw_nfd (p : Value) (F : Nat → Prop) (W : World) (hN : ND p cS dS F W) :
    Calls Tryz.prog 38 #[p, .slice (some ⟨W.heap.size, 0, none⟩) 1 1] (W.alloc (.cells #[.int .i32 7853] 21)) fun e w' => ∃ b, e = .returned (.tuple #[.slice (some ⟨b, 0, none⟩) 3 3, .int .i64 0]) ∧ W.heap.size ≤ b ∧ b < w'.heap.size ∧ w'.cell? ⟨b, 1, none⟩ = some (.int .i32 803) ∧ ∃ F' : Nat → Prop, ND p cS dS F' w' ∧ GX (fun k => p = .pointer (some ⟨k, 0, none⟩)) W w' := by
  have hga := World.grownBy_alloc W (.cells #[.int .i32 7853] 21) none
  have hpl := hN.plt
  refine (nfd_any p _ cS dS F [7853] _ (hN.new hga) (rs_lit 7853 W) (by decide) (by simp) (fun _ k e e' => ?_) (by rw [aw1]; decide)).mono ?_
  · have := hpl k e'
    cases e
    exact absurd this (Nat.lt_irrefl _)
  rintro e w' ⟨a, n, rfl, hn, ho, F', hN', _, _, hx⟩
  rw [aw1] at hn ho
  rw [aw1'] at ho
  obtain rfl : n = 3 := hn
  obtain ⟨a', c', hv, _, _, _, h⟩ := ho
  obtain ⟨b, rfl, hb1, hb2, hb3⟩ := h (by simp)
  simp only [Value.slice.injEq] at hv
  obtain ⟨rfl, _, _⟩ := hv
  refine ⟨b, rfl, Nat.le_trans hga.size hb1, hb2, (hb3 1 803 rfl).1, F', hN', (GX.of hga (by simp)).trans hx (fun k e => .inl e)⟩
theorem aw_text (p : Value) (F : Nat → Prop) (W : World) (hN : ND p cS dS F W) :
    Calls Tryz.prog 21 #[p, .string ⟨#[97, 204, 130, 204, 163]⟩] W fun e w' => e = .returned (.tuple #[.string ⟨#[97, 204, 163, 204, 130]⟩, .int .i64 0]) ∧ ∃ F' : Nat → Prop, ND p cS dS F' w' ∧ GX (fun k => p = .pointer (some ⟨k, 0, none⟩)) W w' := by
  refine (text_ok p cS dS F ⟨#[97, 204, 130, 204, 163]⟩ W hN (by decide) aw4 [97, 770, 803] aw5 (by decide) (by decide) [97, 803, 770] (by rw [aw2]; exact aw2') (by rw [aw2]; decide) (by simp) aw7).mono ?_
  rintro e w' ⟨rfl, F', hN', _, _, hx⟩
  exact ⟨by rw [aw6], F', hN', hx⟩
theorem aw_push (s : Nat) (p : Value) (F : Nat → Prop) (W : World) (hS : Strm W s p cS dS F (.slice none 0 0) []) :
    Calls Tryz.prog 32 #[.pointer (some ⟨s, 0, none⟩), .int .i32 97] W fun e w' => ∃ a, e = .returned (.tuple #[.slice a 0 0, .int .i64 0]) ∧ ∃ hv' F', Strm w' s p cS dS F' hv' [97] ∧ GX (fun k => p = .pointer (some ⟨k, 0, none⟩) ∨ k = s) W w' := by
  refine (push_any s p cS dS F _ [] 97 W hS (by decide) (by rw [aw3']; decide)).mono ?_
  rintro e w' ⟨a, n, rfl, hn, _, hv', F', h1, _, _, _, hx⟩
  rw [aw3] at hn h1
  obtain rfl : n = 0 := hn
  exact ⟨a, rfl, hv', F', h1, (GX.refl _ W).trans hx (fun k e => .inl (by rcases e with h | h | h; exact .inl h; exact .inr h; cases h))⟩
end Go.Proofs.YtpdacbiiaglodaaGreat

/-
  LAYER 6 (norm): awake.
-/
namespace Go.Proofs.YtpdacbiiaglodaaGreat
set_option maxRecDepth 100000
open Go.RowKit Go.Lib

set_option maxHeartbeats 4000000 in
theorem mawake_any (w : World) : Calls Tryz.prog 19 #[] w fun e w' => e = .returned (.bool true) ∧ w.grownBy w' none := by
  have hSm := fun w => small_any w
  rw [show clsOf smallC = cS from rfl, show told' smallD = dS from rfl] at hSm
  generalize smallC = sc at hSm
  generalize smallD = sd at hSm
  have hN1 := fun p F W h => aw_nfd p F W h
  have hN2 := fun p F W h => aw_text p F W h
  have hN3 := fun p F W h => new_strm p cS dS F W h
  have hN4 := fun s p F W h => aw_push s p F W h
  have hN5 := fun s p F hv W h => held_any s p cS dS F hv [97] W h
  generalize cS = cf at *
  generalize dS = df at *
  go_enter Tryz.func19, Tryz.ntmps19
  go_wp2_with fail
  go_at_call 20
  refine (hSm _).mono ?_
  rintro e w1 ⟨n, vc, vd, rfl, hn, hT, ⟨F, hN, _⟩, hg1⟩
  clear hSm
  obtain ⟨x1, y1, rfl, _, _⟩ := hT.1.form
  obtain ⟨x2, y2, rfl, _, _⟩ := hT.2.form
  clear hT
  generalize sc.length = l1
  generalize sd.length = l2
  obtain ⟨A, hA⟩ : ∃ A, A = w1.alloc (.cells #[.slice x1 l1 y1, .slice x2 l2 y2] 59) := ⟨_, rfl⟩
  have hgA : w1.grownBy A none := by rw [hA]; exact World.grownBy_alloc _ _ none
  have hnA := hN.plt n rfl
  have hAs := Lib.hid (show A.heap.size = w1.heap.size + 1 by rw [hA]; exact World.size_alloc _ _)
  replace hN := Lib.hid (hN.new hgA)
  replace hA := Lib.hid hA
  go_wp2_with fail
  rw [← hA.out, ← hAs.out]
  go_at_call 38
  refine (hN1 _ _ _ hN.out).mono ?_
  rintro e w2 ⟨b, rfl, hb1, hb2, hb3, F2, hN2', hx2⟩
  clear hN1 hN
  replace hN2' := Lib.hid hN2'
  replace hb3 := Lib.hid hb3
  go_wp2_with fail
  go_at_call 21
  refine (hN2 _ _ _ hN2'.out).mono ?_
  rintro e w3 ⟨rfl, F3, hN3', hx3⟩
  clear hN2 hN2'
  replace hN3' := Lib.hid hN3'
  go_wp2_with fail
  go_at_call 31
  refine (hN3 _ _ _ hN3'.out).mono ?_
  rintro e w4 ⟨rfl, hS4, hg4⟩
  clear hN3 hN3'
  replace hS4 := Lib.hid hS4
  go_wp2_with fail
  go_at_call 32
  refine (hN4 _ _ _ _ hS4.out).mono ?_
  rintro e w5 ⟨a5, rfl, hv5, F5, hS5, hx5⟩
  clear hN4 hS4
  have hsA := hgA.size
  have hs1 := hg1.size
  have hs3 := hx3.size
  have hs4 := hg4.size
  have hH := hN5 _ _ _ _ _ hS5
  have hc3 : w5.cell? ⟨b, 1, none⟩ = some (.int .i32 803) := by
    have k3 := hx3.block b hb2 (fun e => by cases e; omega)
    have k4 := hg4.block b (by omega) (by simp)
    have k5 := hx5.block b (by omega) (fun e => by rcases e with e | e; cases e; omega; omega)
    rw [World.cell?_of_block (a := ⟨b, 1, none⟩) (k5.trans (k4.trans k3))]
    exact hb3.out
  clear hN5
  have hgx : GX (fun k => w.heap.size ≤ k) w w5 := ((((((GX.of hg1 (by simp)).step hgA (by simp)).trans hx2 (fun k e => by cases e; right; omega)).trans hx3 (fun k e => by cases e; right; omega)).step hg4 (by simp)).trans hx5 (fun k e => by rcases e with e | e; cases e; right; omega; right; have := hx2.size; omega))
  go_wp2_with (go_at_call 34; refine hH.mono ?_; rintro e w6 ⟨rfl, rfl⟩)
  go_ret
  exact ⟨rfl, hgx.one (fun k h => .inr h)⟩
end Go.Proofs.YtpdacbiiaglodaaGreat
