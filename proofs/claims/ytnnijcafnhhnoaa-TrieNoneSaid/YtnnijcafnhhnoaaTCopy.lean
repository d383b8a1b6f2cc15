/-
  LAYER 9 (trie): an entry's copy; which entries may be.
-/
import Derived.Test.YtnnijcafnhhnoaaTClone
import Derived.Test.YtnnijcafnhhnoaaTCheckA
import Derived.Deep.RegionHeld3
import Derived.Deep.RegionHeld
namespace Go.Proofs.Ytnnijcafnhhnoaa
set_option maxRecDepth 100000
open Go.RowKit Go.Lib
attribute [local go_sem] Oper.semAt_some

/-- A block of two cells. -/
def Two (w : World) (q : Nat) (a b : Value) : Prop := w.heap[q]? = some (.cells #[a, b] 35 (0, 0))
section
variable {w w' : World} {q : Nat} {a b : Value}
theorem Two.c0 (h : Two w q a b) : w.cell? ⟨q, 0, none⟩ = some a := by simp [World.cell?, show _ = _ from h]
theorem Two.c1 (h : Two w q a b) : w.cell? ⟨q, 1, none⟩ = some b := by simp [World.cell?, show _ = _ from h]
theorem Two.free (h : Two w q a b) (o : Nat) : w.frozen? ⟨q, o, none⟩ = false := by simp [World.frozen?, show _ = _ from h]
theorem Two.lt (h : Two w q a b) : q < w.heap.size := lt_of_block h
theorem Two.s0 (h : Two w q a b) (x : Value) : Two (w.setCell ⟨q, 0, none⟩ x) q x b := heap_setCell_same w q 0 _ _ _ h
theorem Two.s1 (h : Two w q a b) (x : Value) : Two (w.setCell ⟨q, 1, none⟩ x) q a x := heap_setCell_same w q 1 _ _ _ h
theorem Two.new (h : Two w q a b) (hg : w.grownBy w' none) : Two w' q a b := (hg.block q h.lt (by simp)).trans h
theorem Two.kept {r : Option Nat} (h : Two w q a b) (hg : w.grownBy w' r) (hr : r ≠ some q) : Two w' q a b := (hg.block q h.lt (fun e => hr e.symm)).trans h
end

theorem gbut' {a b : World} {r : Option Nat} (h : a.grownBy b none) : a.grownBy b r := ⟨h.os, h.tape, h.output, h.size, fun k hk _ => h.block k hk (by simp)⟩
set_option maxHeartbeats 4000000 in
theorem copied_any (P : Nat → Prop) (vc ve : Value) (x : Ent) (w : World) (h : EntR P w vc ve x) (h1 : x.codes.length < 1099511627776) (h2 : x.els.length < 1099511627776) :
    Calls Try.prog 44 #[.agg #[vc, ve]] w fun e w' => ∃ a b, e = .returned (.agg #[.slice a x.codes.length x.codes.length, .slice b x.els.length x.els.length]) ∧
      SO (fun k => w.heap.size ≤ k) 21 1 w' (.slice a x.codes.length x.codes.length) x.codes.length (rc x.codes) ∧ SO (fun k => w.heap.size ≤ k) 66 4 w' (.slice b x.els.length x.els.length) x.els.length (ec x.els) ∧ w.grownBy w' none := by
  have gA := World.grownBy_alloc w (.cells #[vc, ve] 35) none
  have sA : (w.alloc (.cells #[vc, ve] 35)).heap.size = w.heap.size + 1 := by simp
  have eA : Two (w.alloc (.cells #[vc, ve] 35)) w.heap.size vc ve := World.alloc_heap_new w _
  obtain ⟨W0, hW0⟩ : ∃ W0, W0 = w.alloc (.cells #[vc, ve] 35) := ⟨_, rfl⟩
  rw [← hW0] at gA sA eA
  have gB := World.grownBy_alloc W0 (.cells #[.slice none 0 0, .slice none 0 0] 35) none
  have sB : (W0.alloc (.cells #[.slice none 0 0, .slice none 0 0] 35)).heap.size = w.heap.size + 2 := by simp [sA]
  have eB : Two (W0.alloc (.cells #[.slice none 0 0, .slice none 0 0] 35)) (w.heap.size + 1) (.slice none 0 0) (.slice none 0 0) := by rw [← sA]; exact World.alloc_heap_new W0 _
  have eA := eA.new gB
  have gW := gA.trans gB
  go_enter Try.func44, Try.ntmps44
  go_wp2_with fail
  rw [← hW0]
  clear hW0 gA gB sA
  generalize W0.alloc (.cells #[.slice none 0 0, .slice none 0 0] 35) = W at *
  refine wp_region_held_drew (S := fun w' => W.grownBy w' (some (w.heap.size + 1)) ∧ w'.cell? ⟨w.heap.size, 0, none⟩ = some vc ∧ w'.cell? ⟨w.heap.size, 1, none⟩ = some ve) (by kernel_rfl) ⟨gdrew (World.grownBy.refl W _), eA.c0, eA.c1⟩ (fun hS0 => ?_)
  refine wpAnyH_take (i := 0) (oi := ⟨some 3, _, _, _, _, _⟩) (v := ?_) rfl (by kernel_rfl) (by kernel_rfl) (by kernel_rfl) (fun _ _ _ h => h) (Or.inl ⟨by rfl, ?_⟩) (by assumption) ?_
  rotate_left
  · (intro w hSw; (try dsimp only at hSw); go_simp; try with_reducible rfl)
  try simp only [Act.put, List.setIfInBounds_toArray, List.set_cons_zero, List.set_cons_succ]
  refine wpAnyH_take (i := 1) (oi := ⟨some 4, _, _, _, _, _⟩) (v := ?_) rfl (by kernel_rfl) (by kernel_rfl) (by kernel_rfl) (fun _ _ _ h => h) (Or.inl ⟨by rfl, ?_⟩) (by assumption) ?_
  rotate_left
  · (intro w hSw; (try dsimp only at hSw); go_simp; try with_reducible rfl)
  try simp only [Act.put, List.setIfInBounds_toArray, List.set_cons_zero, List.set_cons_succ]
  refine wpAnyH_take (i := 3) (oi := ⟨some 6, _, _, _, _, _⟩) (v := ?_) rfl (by kernel_rfl) (by kernel_rfl) (by kernel_rfl) (fun _ _ _ h => h) (Or.inl ⟨by rfl, ?_⟩) (by assumption) ?_
  rotate_left
  · (intro w hSw; (try dsimp only at hSw); go_simp; try with_reducible rfl)
  try simp only [Act.put, List.setIfInBounds_toArray, List.set_cons_zero, List.set_cons_succ]
  refine wpAnyH_take (i := 4) (oi := ⟨some 7, _, _, _, _, _⟩) (v := ?_) rfl (by kernel_rfl) (by kernel_rfl) (by kernel_rfl) (fun _ _ _ h => h) (Or.inl ⟨by rfl, ?_⟩) (by assumption) ?_
  rotate_left
  · (intro w hSw; (try dsimp only at hSw); go_simp; try with_reducible rfl)
  try simp only [Act.put, List.setIfInBounds_toArray, List.set_cons_zero, List.set_cons_succ]
  refine wpAnyH_ready (rs := [2]) (by kernel_rfl) (by simp) ?_
  refine AllReadyH.cons rfl (fun K hK => ?_) AllReadyH.nil
  go_simp
  have gV : W.grownBy W.drew none := gdrew (World.grownBy.refl W none)
  refine (copy_rc P vc x.codes _ (h.1.new (gW.trans gV)) h1).mono ?_
  rintro e w1 ⟨a, rfl, o1, g1⟩
  have gV1 := gV.trans g1
  refine hK.out _ _ ⟨gbut' gV1, (eA.new gV1).c0, (eA.new gV1).c1⟩ (fun _ => ?_)
  clear hK
  refine wpAnyH_ready (rs := [5]) (by kernel_rfl) (by simp) ?_
  refine AllReadyH.cons rfl (fun K hK => ?_) AllReadyH.nil
  go_simp
  refine (copy_ec P ve x.els _ (h.2.new (gW.trans gV1)) h2).mono ?_
  rintro e w2 ⟨b, rfl, o2, g2⟩
  have gV2 := gV1.trans g2
  have hS2 : W.grownBy w2 (some (w.heap.size + 1)) ∧ w2.cell? ⟨w.heap.size, 0, none⟩ = some vc ∧ w2.cell? ⟨w.heap.size, 1, none⟩ = some ve := ⟨gbut' gV2, (eA.new gV2).c0, (eA.new gV2).c1⟩
  refine hK.out _ _ hS2 (fun _ => ?_)
  clear hK
  have e3 := eB.new gV2
  have z0 := e3.c0
  have z1 := e3.c1
  have f0 := e3.free 0
  have f1 := e3.free 1
  have e4 := (e3.s0 (.slice a x.codes.length x.codes.length))
  have z2 := e4.c1
  have f2 := e4.free 1
  have e5 := e4.s1 (.slice b x.els.length x.els.length)
  have r0 := e5.c0
  have r1 := e5.c1
  have gs := gset (gset (World.grownBy.refl w2 (some (w.heap.size + 1))) 0 (.slice a x.codes.length x.codes.length)) 1 (.slice b x.els.length x.els.length)
  have hWs : w.heap.size + 2 ≤ W.heap.size := by omega
  have p1 := o1.heap (w' := (w2.setCell ⟨w.heap.size + 1, 0, none⟩ (.slice a x.codes.length x.codes.length)).setCell ⟨w.heap.size + 1, 1, none⟩ (.slice b x.els.length x.els.length)) (fun k cur hk hb => by
    have hkl := lt_of_block hb
    have hs3 := gV.size
    have hs4 := g2.size
    exact (gs.block k (by omega) (fun e => by simp at e; omega)).trans (g2.block k hkl (by simp)))
  have p2 := o2.heap (w' := (w2.setCell ⟨w.heap.size + 1, 0, none⟩ (.slice a x.codes.length x.codes.length)).setCell ⟨w.heap.size + 1, 1, none⟩ (.slice b x.els.length x.els.length)) (fun k cur hk hb => by
    have hkl := lt_of_block hb
    have hs3 := gV1.size
    exact gs.block k hkl (fun e => by simp at e; omega))
  have hs3 := gV.size
  have hs4 := gV1.size
  have hs5 := gW.size
  have p1 := p1.weak (Q := fun k => w.heap.size ≤ k) (fun k hk => by omega)
  have p2 := p2.weak (Q := fun k => w.heap.size ≤ k) (fun k hk => by omega)
  have hgF : w.grownBy ((w2.setCell ⟨w.heap.size + 1, 0, none⟩ (.slice a x.codes.length x.codes.length)).setCell ⟨w.heap.size + 1, 1, none⟩ (.slice b x.els.length x.els.length)) none := gnew (gW.trans gV2) gs (fun r e => by simp at e; left; omega)
  have hSf : W.grownBy ((w2.setCell ⟨w.heap.size + 1, 0, none⟩ (.slice a x.codes.length x.codes.length)).setCell ⟨w.heap.size + 1, 1, none⟩ (.slice b x.els.length x.els.length)) (some (w.heap.size + 1)) ∧ ((w2.setCell ⟨w.heap.size + 1, 0, none⟩ (.slice a x.codes.length x.codes.length)).setCell ⟨w.heap.size + 1, 1, none⟩ (.slice b x.els.length x.els.length)).cell? ⟨w.heap.size, 0, none⟩ = some vc ∧ ((w2.setCell ⟨w.heap.size + 1, 0, none⟩ (.slice a x.codes.length x.codes.length)).setCell ⟨w.heap.size + 1, 1, none⟩ (.slice b x.els.length x.els.length)).cell? ⟨w.heap.size, 1, none⟩ = some ve := by
    have e := ((eA.new gV2).kept gs (by simp))
    exact ⟨(gbut' gV2).trans gs, e.c0, e.c1⟩
  refine wpAnyH_take (i := 6) (oi := ⟨some 9, _, _, _, _, _⟩) (v := ?_) rfl (by kernel_rfl) (by kernel_rfl) (by kernel_rfl) (fun _ _ _ h => h) (Or.inl ⟨by rfl, ?_⟩) (by assumption) ?_
  rotate_left
  · (intro w hSw; (try dsimp only at hSw); go_simp; try with_reducible rfl)
  try simp only [Act.put, List.setIfInBounds_toArray, List.set_cons_zero, List.set_cons_succ]
  refine wpAnyH_ready (rs := [7]) (by kernel_rfl) (by simp) ?_
  refine AllReadyH.cons rfl (fun K hK => ?_) AllReadyH.nil
  go_simp
  refine hK.out _ _ hSf (fun _ => ?_)
  clear hK
  refine wpAnyH_done (by kernel_rfl) ?_ _
  go_wp2
  refine bodyPost_ret (v := .agg #[.slice a x.codes.length x.codes.length, .slice b x.els.length x.els.length]) (by simp [results, Try.results44, go_sem, r0, r1]) rfl ?_
  exact ⟨_, _, rfl, p1, p2, hgF⟩
end Go.Proofs.Ytnnijcafnhhnoaa
