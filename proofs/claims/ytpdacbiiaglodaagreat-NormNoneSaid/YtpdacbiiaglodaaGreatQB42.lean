/-
  LAYER 6 (norm): awake: the chapter's examples.
-/
import Derived.Test.YtpdacbiiaglodaaGreatQB29
import Derived.Test.YtpdacbiiaglodaaGreatQB41
import Derived.Test.YtpdacbiiaglodaaGreatQB33
import Derived.Test.YtpdacbiiaglodaaGreatQB37
namespace Go.Proofs.YtpdacbiiaglodaaGreat
set_option maxRecDepth 100000
open Go.RowKit Go.Lib

def cS : Int → Int := clsOf smallC
def dS : Int → List Int := told' smallD
theorem aw1 : ([7853] : List Int).flatMap dS = [97, 803, 770] := by decide +kernel
theorem aw1' : ord cS [97, 803, 770] = [97, 803, 770] := by decide +kernel
theorem aw2 : ([97, 770, 803] : List Int).flatMap dS = [97, 770, 803] := by decide +kernel
theorem aw2' : ord cS [97, 770, 803] = [97, 803, 770] := by decide +kernel
theorem aw3 : psh cS [] (dS 97) = ([], [97]) := by decide +kernel
theorem aw3' : (dS 97).length = 1 := by decide +kernel
theorem aw4 : U.tot [97, 204, 130, 204, 163] = 5 := by decide +kernel
theorem aw5 : U.runes [97, 204, 130, 204, 163] = [97, 770, 803] := by decide +kernel
theorem aw6 : U.enc [97, 803, 770] = [97, 204, 163, 204, 130] := by decide +kernel
theorem aw7 : U.allSc [97, 803, 770] := (by decide +kernel : ∀ r ∈ ([97, 803, 770] : List Int), U.scalar r = true)

theorem ND.plt {p : Value} {cf : Int → Int} {df : Int → List Int} {F : Nat → Prop} {w : World} (hN : ND p cf df F w) : ∀ k, p = .pointer (some ⟨k, 0, none⟩) → k < w.heap.size := by
  intro k e
  rcases hN with ⟨rfl, _⟩ | ⟨n, c, d, dn, rfl, hf, _⟩
  · cases e
  · cases e; obtain ⟨_, _, _, _, _, _, h6, _⟩ := hf.nrm; exact h6.lt

theorem aw_nfd (p : Value) (F : Nat → Prop) (W : World) (hN : ND p cS dS F W) :
    Calls Tryz.prog 38 #[p, .slice (some ⟨W.heap.size, 0, none⟩) 1 1] (W.alloc (.cells #[.int .i32 7853] 21)) fun e w' => ∃ b, e = .returned (.tuple #[.slice (some ⟨b, 0, none⟩) 3 3, .int .i64 0]) ∧ W.heap.size ≤ b ∧ b < w'.heap.size ∧ w'.cell? ⟨b, 1, none⟩ = some (.int .i32 803) ∧ ∃ F' : Nat → Prop, ND p cS dS F' w' ∧ GX (fun k => p = .pointer (some ⟨k, 0, none⟩)) W w' := by
  have hga := World.grownBy_alloc W (.cells #[.int .i32 7853] 21) none
  have hpl := hN.plt
  refine (nfd_any p _ cS dS F [7853] _ (hN.new hga) (rs_lit 7853 W) (by decide) (by simp) (fun _ k e e' => ?_) (by rw [aw1]; decide)).mono ?_
  · have := hpl k e'
    cases e
    exact absurd this (Nat.lt_irrefl _)
  rintro e w' ⟨a, n, rfl, hn, ho, F', hN', _, _, hx⟩
  rw [aw1] at hn ho
  rw [aw1'] at ho
  obtain rfl : n = 3 := hn
  obtain ⟨a', c', hv, _, _, _, h⟩ := ho
  obtain ⟨b, rfl, hb1, hb2, hb3⟩ := h (by simp)
  simp only [Value.slice.injEq] at hv
  obtain ⟨rfl, _, _⟩ := hv
  refine ⟨b, rfl, Nat.le_trans hga.size hb1, hb2, (hb3 1 803 rfl).1, F', hN', (GX.of hga (by simp)).trans hx (fun k e => .inl e)⟩
theorem aw_text (p : Value) (F : Nat → Prop) (W : World) (hN : ND p cS dS F W) :
    Calls Tryz.prog 21 #[p, .string ⟨#[97, 204, 130, 204, 163]⟩] W fun e w' => e = .returned (.tuple #[.string ⟨#[97, 204, 163, 204, 130]⟩, .int .i64 0]) ∧ ∃ F' : Nat → Prop, ND p cS dS F' w' ∧ GX (fun k => p = .pointer (some ⟨k, 0, none⟩)) W w' := by
  refine (text_ok p cS dS F ⟨#[97, 204, 130, 204, 163]⟩ W hN (by decide) aw4 [97, 770, 803] aw5 (by decide) (by decide) [97, 803, 770] (by rw [aw2]; exact aw2') (by rw [aw2]; decide) (by simp) aw7).mono ?_
  rintro e w' ⟨rfl, F', hN', _, _, hx⟩
  exact ⟨by rw [aw6], F', hN', hx⟩
theorem aw_push (s : Nat) (p : Value) (F : Nat → Prop) (W : World) (hS : Strm W s p cS dS F (.slice none 0 0) []) :
    Calls Tryz.prog 32 #[.pointer (some ⟨s, 0, none⟩), .int .i32 97] W fun e w' => ∃ a, e = .returned (.tuple #[.slice a 0 0, .int .i64 0]) ∧ ∃ hv' F', Strm w' s p cS dS F' hv' [97] ∧ GX (fun k => p = .pointer (some ⟨k, 0, none⟩) ∨ k = s) W w' := by
  refine (push_any s p cS dS F _ [] 97 W hS (by decide) (by rw [aw3']; decide)).mono ?_
  rintro e w' ⟨a, n, rfl, hn, _, hv', F', h1, _, _, _, hx⟩
  rw [aw3] at hn h1
  obtain rfl : n = 0 := hn
  exact ⟨a, rfl, hv', F', h1, (GX.refl _ W).trans hx (fun k e => .inl (by rcases e with h | h | h; exact .inl h; exact .inr h; cases h))⟩
end Go.Proofs.YtpdacbiiaglodaaGreat

/-
  LAYER 6 (norm): awake.
-/
namespace Go.Proofs.YtpdacbiiaglodaaGreat
set_option maxRecDepth 100000
open Go.RowKit Go.Lib

set_option maxHeartbeats 4000000 in
theorem mawake_any (w : World) : Calls Tryz.prog 19 #[] w fun e w' => e = .returned (.bool true) ∧ w.grownBy w' none := by
  have hSm := fun w => small_any w
  rw [show clsOf smallC = cS from rfl, show told' smallD = dS from rfl] at hSm
  generalize smallC = sc at hSm
  generalize smallD = sd at hSm
  have hN1 := fun p F W h => aw_nfd p F W h
  have hN2 := fun p F W h => aw_text p F W h
  have hN3 := fun p F W h => new_strm p cS dS F W h
  have hN4 := fun s p F W h => aw_push s p F W h
  have hN5 := fun s p F hv W h => held_any s p cS dS F hv [97] W h
  generalize cS = cf at *
  generalize dS = df at *
  go_enter Tryz.func19, Tryz.ntmps19
  go_wp2_with fail
  go_at_call 20
  refine (hSm _).mono ?_
  rintro e w1 ⟨n, vc, vd, rfl, hn, hT, ⟨F, hN, _⟩, hg1⟩
  clear hSm
  obtain ⟨x1, y1, rfl, _, _⟩ := hT.1.form
  obtain ⟨x2, y2, rfl, _, _⟩ := hT.2.form
  clear hT
  generalize sc.length = l1
  generalize sd.length = l2
  obtain ⟨A, hA⟩ : ∃ A, A = w1.alloc (.cells #[.slice x1 l1 y1, .slice x2 l2 y2] 59) := ⟨_, rfl⟩
  have hgA : w1.grownBy A none := by rw [hA]; exact World.grownBy_alloc _ _ none
  have hnA := hN.plt n rfl
  have hAs := Lib.hid (show A.heap.size = w1.heap.size + 1 by rw [hA]; exact World.size_alloc _ _)
  replace hN := Lib.hid (hN.new hgA)
  replace hA := Lib.hid hA
  go_wp2_with fail
  rw [← hA.out, ← hAs.out]
  go_at_call 38
  refine (hN1 _ _ _ hN.out).mono ?_
  rintro e w2 ⟨b, rfl, hb1, hb2, hb3, F2, hN2', hx2⟩
  clear hN1 hN
  replace hN2' := Lib.hid hN2'
  replace hb3 := Lib.hid hb3
  go_wp2_with fail
  go_at_call 21
  refine (hN2 _ _ _ hN2'.out).mono ?_
  rintro e w3 ⟨rfl, F3, hN3', hx3⟩
  clear hN2 hN2'
  replace hN3' := Lib.hid hN3'
  go_wp2_with fail
  go_at_call 31
  refine (hN3 _ _ _ hN3'.out).mono ?_
  rintro e w4 ⟨rfl, hS4, hg4⟩
  clear hN3 hN3'
  replace hS4 := Lib.hid hS4
  go_wp2_with fail
  go_at_call 32
  refine (hN4 _ _ _ _ hS4.out).mono ?_
  rintro e w5 ⟨a5, rfl, hv5, F5, hS5, hx5⟩
  clear hN4 hS4
  have hsA := hgA.size
  have hs1 := hg1.size
  have hs3 := hx3.size
  have hs4 := hg4.size
  have hH := hN5 _ _ _ _ _ hS5
  have hc3 : w5.cell? ⟨b, 1, none⟩ = some (.int .i32 803) := by
    have k3 := hx3.block b hb2 (fun e => by cases e; omega)
    have k4 := hg4.block b (by omega) (by simp)
    have k5 := hx5.block b (by omega) (fun e => by rcases e with e | e; cases e; omega; omega)
    rw [World.cell?_of_block (a := ⟨b, 1, none⟩) (k5.trans (k4.trans k3))]
    exact hb3.out
  clear hN5
  have hgx : GX (fun k => w.heap.size ≤ k) w w5 := ((((((GX.of hg1 (by simp)).step hgA (by simp)).trans hx2 (fun k e => by cases e; right; omega)).trans hx3 (fun k e => by cases e; right; omega)).step hg4 (by simp)).trans hx5 (fun k e => by rcases e with e | e; cases e; right; omega; right; have := hx2.size; omega))
  go_wp2_with (go_at_call 34; refine hH.mono ?_; rintro e w6 ⟨rfl, rfl⟩)
  go_ret
  exact ⟨rfl, hgx.one (fun k h => .inr h)⟩
end Go.Proofs.YtpdacbiiaglodaaGreat

/-
  LAYER 6 (norm): the laws' comparison of two lists.
-/
namespace Go.Proofs.YtpdacbiiaglodaaGreat
set_option maxRecDepth 100000
open Go.RowKit Go.Lib

theorem RS.cell {w : World} {a : Option Addr} {n c : Nat} {l : List Int} (h : RS w (.slice a n c) l) {i : Nat} {r : Int} (hr : l[i]? = some r) : ∃ b off, a = some ⟨b, off, none⟩ ∧ w.cell? ⟨b, off + i, none⟩ = some (.int .i32 r) := by
  obtain ⟨a', c', e, _, _, _, h1⟩ := h
  cases e
  obtain ⟨b, off, h2, h3⟩ := h1 (by rintro rfl; simp at hr)
  exact ⟨b, off, h2, h3 i r hr⟩

set_option maxRecDepth 100000 in
set_option maxHeartbeats 2000000 in
theorem runes_same (vx vy : Value) (x : List Int) (w : World) (hx : RS w vx x) (hy : RS w vy x) (hlx : x.length < 1099511627776) :
    Calls Tryz.prog 30 #[vx, vy] w fun e w' => e = .returned (.bool true) ∧ ∃ m, w' = w.drewN m := by
  obtain ⟨ax, cx, rfl, _⟩ := id hx
  obtain ⟨ay, cy, rfl, _⟩ := id hy
  have hget : ∀ i, i < x.length → ∃ a, x[i]? = some a := fun i h => ⟨_, List.getElem?_eq_getElem h⟩
  generalize hn : x.length = n at hx hy hlx hget ⊢
  clear hn
  go_enter Tryz.func30, Tryz.ntmps30
  go_wp2
  go_loopw [13] (fun vi wr => ∃ i p : Nat, vi = .int .i64 (i : Int) ∧ i ≤ n ∧ wr = w.drewN p) (fun vi _ => n - (RowKit.intOf vi).toNat)
  case atStart => exact ⟨0, 0, rfl, Nat.zero_le _, rfl⟩
  case round =>
    obtain ⟨i, p, rfl, hi, rfl⟩ := hrel
    by_cases h1 : i < n
    · obtain ⟨a, ha⟩ := hget i h1
      obtain ⟨bx, ox, rfl, kx⟩ := hx.cell ha
      obtain ⟨by', oy, rfl, ky⟩ := hy.cell ha
      clear ha hx hy hget
      go_wp2
      go_quiet (fail)
      go_wp2
      go_roundw
      case rel => exact ⟨i + 1, _, by go_num, by omega, rfl⟩
      case measure => simp [RowKit.intOf]; omega
    · clear hx hy hget
      go_wp2
      go_ret
      exact ⟨rfl, p, rfl⟩
end Go.Proofs.YtpdacbiiaglodaaGreat

/-
  LAYER 6 (norm): the law NormNone.
-/
namespace Go.Proofs.YtpdacbiiaglodaaGreat
set_option maxRecDepth 100000
open Go.RowKit Go.Lib

set_option maxHeartbeats 1000000 in
theorem scal4 (r : Int) (w : World) : Calls Tryz.prog 33 #[.int .i32 r] w fun e w' => e = .returned (.bool (scal r)) ∧ w = w' := by
  by_cases h1 : 0 ≤ r
  all_goals by_cases h2 : r < 55296
  all_goals by_cases h3 : 57343 < r
  all_goals by_cases h4 : r ≤ 1114111
  all_goals (try omega)
  all_goals
    go_enter Tryz.func33, Tryz.ntmps33
    go_wp2
  all_goals
    go_ret
    simp [scal, *]

/-- NFD without data: the list itself. -/
theorem nfd_none (r : Int) (w : World) (h : scal r = true) :
    Calls Tryz.prog 38 #[.pointer none, .slice (some ⟨w.heap.size, 0, none⟩) 1 1] (w.alloc (.cells #[.int .i32 r] 21)) fun e w' => ∃ a, e = .returned (.tuple #[.slice a 1 1, .int .i64 0]) ∧ RS w' (.slice a 1 1) [r] ∧ w.grownBy w' none := by
  have hga := World.grownBy_alloc w (.cells #[.int .i32 r] 21) none
  have e1 : ord (fun _ => 0) [r] = [r] := rfl
  have hN : ND (.pointer none) (fun _ => 0) (fun r => [r]) (fun _ => False) (w.alloc (.cells #[.int .i32 r] 21)) := .inl ⟨rfl, rfl, rfl, fun k h => h.elim⟩
  refine (nfd_any _ _ _ _ _ [r] _ hN (rs_lit r w) (by simp [allSc, h]) (by simp) (by simp) (by simp)).mono ?_
  rintro e w' ⟨a, n, rfl, hn, ho, F', _, _, _, hx⟩
  obtain rfl : n = 1 := hn
  refine ⟨a, rfl, ?_, ((GX.of hga (by simp)).trans hx (fun k e => by cases e) : GX (fun _ => False) w w').one (fun k e => e.elim)⟩
  have := ho.reads
  simpa [e1] using this

set_option maxHeartbeats 8000000 in
theorem NormNone_walk (w : World) (r : Int) (_h : (Lit.int .i32 r).wf = true) : Calls Tryz.prog 8 #[.int .i32 r] w fun e w' => e = .returned (.bool true) ∧ Below w.heap.size w w' := by
  have hA := fun w => mawake_any w
  have hU := fun w => sMade_nil w
  have hSc := fun w => scal4 r w
  have hNF := fun w h => nfd_none r w h
  go_enter Tryz.func8, Tryz.ntmps8
  go_wp2_with fail
  go_at_call 19
  refine (hA _).mono ?_
  rintro e w1 ⟨rfl, hg1⟩
  clear hA
  go_wp2_with fail
  obtain ⟨W, hW⟩ : ∃ W, W = (w1.alloc (.cells #[.bool false, .pointer none, .slice none 0 0] 97)).alloc (.cells #[.pointer none, .pointer (some ⟨w1.heap.size, 0, none⟩)] 86) := ⟨_, rfl⟩
  have hgW : w1.grownBy W none := by rw [hW]; exact (World.grownBy_alloc w1 _ none).trans (World.grownBy_alloc _ _ none)
  have hk1 : W.heap[w1.heap.size + 1]? = some (.cells #[.pointer none, .pointer (some ⟨w1.heap.size, 0, none⟩)] 86 (0, 0)) := by
    have := World.alloc_heap_new (w1.alloc (.cells #[.bool false, .pointer none, .slice none 0 0] 97)) (.cells #[.pointer none, .pointer (some ⟨w1.heap.size, 0, none⟩)] 86)
    rw [World.size_alloc] at this
    rw [hW]; exact this
  have hk0 : W.heap[w1.heap.size]? = some (.cells #[.bool false, .pointer none, .slice none 0 0] 97 (0, 0)) := by
    rw [hW]
    exact ((World.grownBy_alloc _ _ none).block _ (by rw [World.size_alloc]; omega) (by simp)).trans (World.alloc_heap_new w1 _)
  rw [← hW]
  have hc0 : W.cell? ⟨w1.heap.size + 1, 0, none⟩ = some (.pointer none) := by simp [World.cell?, hk1]
  have hc1 : W.cell? ⟨w1.heap.size + 1, 1, none⟩ = some (.pointer (some ⟨w1.heap.size, 0, none⟩)) := by simp [World.cell?, hk1]
  have hm0 := sMade w1.heap.size false W (by simp [World.cell?, hk0])
  have hm1 := hU W
  clear hW hk1 hk0 hU
  generalize w1.heap.size = s1 at hc0 hc1 hm0 ⊢
  have hscr : scal r = true ∨ scal r = false := by cases scal r <;> simp
  go_loop [17] (fun vi => ∃ i : Nat, vi = .int .i64 (i : Int) ∧ i ≤ 2) (fun vi => 2 - (RowKit.intOf vi).toNat)
  case atStart => exact ⟨0, rfl, by omega⟩
  case round =>
    obtain ⟨i, rfl, hi⟩ := hrel
    by_cases h1 : i < 2
    · have hP : ∃ q, W.cell? ⟨s1 + 1, i, none⟩ = some (.pointer q) ∧ Calls Tryz.prog 67 #[.pointer q] W fun e w' => e = .returned (.bool false) ∧ W = w' := by
        match i, h1 with
        | 0, _ => exact ⟨_, hc0, hm1⟩
        | 1, _ => exact ⟨_, hc1, hm0⟩
      obtain ⟨q, hcq, hmq⟩ := hP
      have p1 := push_unmade (.pointer q) r W hmq
      have p2 := end_unmade (.pointer q) W hmq
      have p3 := held_unmade (.pointer q) W hmq
      clear hmq hm0 hm1 hc0 hc1 hNF hSc
      go_wp2_with (first
        | (go_at_call 32; refine p1.mono ?_; rintro e w' ⟨rfl, rfl⟩)
        | (go_at_call 36; refine p2.mono ?_; rintro e w' ⟨rfl, rfl⟩)
        | (go_at_call 34; refine p3.mono ?_; rintro e w' ⟨rfl, rfl⟩))
      go_round
      case rel => exact ⟨i + 1, by go_num, by omega⟩
      case measure => simp [RowKit.intOf]; omega
    · clear hm0 hm1 hc0 hc1
      have hS := hSc W
      clear hSc
      rcases hscr with hs | hs
      · rw [hs] at hS
        have hN := hNF W hs
        clear hNF hs
        go_wp2_with (first
          | (go_at_call 33; refine hS.mono ?_; rintro e w' ⟨rfl, rfl⟩)
          | (go_at_call 38; refine hN.mono ?_; rintro e w2 ⟨a2, rfl, hR2, hg2⟩; replace hR2 := Lib.hid hR2; have hrl := rs_lit r w2; have hsm := runes_same _ _ [r] _ (hR2.out.new (World.grownBy_alloc w2 (.cells #[.int .i32 r] 21) none)) hrl (by simp); clear hrl)
          | (go_at_call 30; refine hsm.mono ?_; rintro e w3 ⟨rfl, m, rfl⟩))
        go_ret
        exact ⟨rfl, belowg' (gdrewN (((hg1.trans hgW).trans hg2).trans (World.grownBy_alloc w2 _ none)) m)⟩
      · rw [hs] at hS
        clear hNF hs
        go_wp2_with (go_at_call 33; refine hS.mono ?_; rintro e w' ⟨rfl, rfl⟩)
        go_ret
        exact ⟨rfl, belowg' (hg1.trans hgW)⟩
end Go.Proofs.YtpdacbiiaglodaaGreat
