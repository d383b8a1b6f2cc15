/-
  LAYER 9 (trie): find; an entry's elements.
-/
import Derived.Test.YtnnijcafnhhnoaaTWalk
namespace Go.Proofs.Ytnnijcafnhhnoaa
set_option maxRecDepth 100000
open Go.RowKit Go.Lib
attribute [local go_sem] Oper.semAt_some

theorem walk_nobody (po : Option Addr) (v fv : Value) (w : World) (h : NonePtr w po) :
    Calls Try.prog 35 #[.pointer po, v, fv] w fun e w' => e = .returned (.tuple #[]) ∧ w = w' := by
  have hm := isMade_nobody po w h
  clear h
  go_enter Try.func35, Try.ntmps35
  go_wp2_with (go_at_call 30; refine hm.mono ?_; rintro e w' ⟨rfl, rfl⟩)
  refine bodyPost_ret (results_none rfl _ _ _) rfl ?_
  exact ⟨rfl, rfl⟩

/-- One cell in a block of its own. -/
def Box (w : World) (b : Nat) (e : TypeId) (v : Value) : Prop := w.heap[b]? = some (.cells #[v] e (0, 0))
section
variable {w w' : World} {b : Nat} {e : TypeId} {v : Value}
theorem Box.c0 (h : Box w b e v) : w.cell? ⟨b, 0, none⟩ = some v := by simp [World.cell?, show _ = _ from h]
theorem Box.free (h : Box w b e v) (o : Nat) : w.frozen? ⟨b, o, none⟩ = false := by simp [World.frozen?, show _ = _ from h]
theorem Box.lt (h : Box w b e v) : b < w.heap.size := lt_of_block h
theorem Box.set (h : Box w b e v) (x : Value) : Box (w.setCell ⟨b, 0, none⟩ x) b e x := heap_setCell_same w b 0 _ _ _ h
theorem Box.kept {r : Option Nat} (h : Box w b e v) (hg : w.grownBy w' r) (hr : r ≠ some b) : Box w' b e v := (hg.block b h.lt (fun e => hr e.symm)).trans h
theorem Box.new (h : Box w b e v) (hg : w.grownBy w' none) : Box w' b e v := h.kept hg (by simp)
end

theorem NonePtr.new {w w' : World} {po : Option Addr} (h : NonePtr w po) (g : w.grownBy w' none) : NonePtr w' po :=
  h.imp id (fun ⟨z, ve, n, e, hz⟩ => ⟨z, ve, n, e, (g.block z hz.lt (by simp)).trans hz⟩)

set_option maxHeartbeats 1000000 in
theorem find_nobody (po : Option Addr) (v : Value) (w : World) (h : NonePtr w po) (hv : ∃ a n c, v = .slice a n c) :
    Calls Try.prog 32 #[.pointer po, v] w fun e w' => e = .returned (.pointer none) ∧ w.grownBy w' none := by
  obtain ⟨a, n, c, rfl⟩ := hv
  have g1 := World.grownBy_alloc w (.cells #[.slice a n c] 32) none
  have g2 := galloc g1 (.cells #[.pointer none] 55)
  have e1 : Box ((w.alloc (.cells #[.slice a n c] 32)).alloc (.cells #[.pointer none] 55)) w.heap.size 32 (.slice a n c) := ((World.grownBy_alloc (w.alloc (.cells #[.slice a n c] 32)) (.cells #[.pointer none] 55) none).block _ (by simp) (by simp)).trans (World.alloc_heap_new w _)
  have e2 : Box ((w.alloc (.cells #[.slice a n c] 32)).alloc (.cells #[.pointer none] 55)) (w.heap.size + 1) 55 (.pointer none) := by
    have := World.alloc_heap_new (w.alloc (.cells #[.slice a n c] 32)) (.cells #[.pointer none] 55)
    rw [World.size_alloc] at this
    exact this
  have hW := fun fv => walk_nobody po (.slice a n c) fv _ (h.new g2)
  have c1 := e1.c0
  have c2 := e2.c0
  clear e1 e2 h
  obtain ⟨W, hWd⟩ : ∃ W, W = (w.alloc (.cells #[.slice a n c] 32)).alloc (.cells #[.pointer none] 55) := ⟨_, rfl⟩
  rw [← hWd] at g2 hW c1 c2
  go_enter Try.func32, Try.ntmps32
  go_wp2_with fail
  rw [← hWd]
  clear hWd g1
  refine (hW _).mono ?_
  rintro e w' ⟨rfl, rfl⟩
  go_wp2
  go_ret
  exact ⟨rfl, g2⟩

/-- What a closure of find has found behind i nodes. -/
def foundV (nd : List Int → Option Nat) (l : List Int) (i : Nat) : Value := if i = l.length + 1 then ptrV (nd l) else .pointer none
def FindS (w : World) (v : Value) (Q P : Nat → Prop) (t : Nat) (L : List Ent) (n : Int) (rt : Nat) (ve : Value) (nd mp : List Int → Option Nat) (l : List Int) (b : Nat) (i : Nat) (W : World) : Prop :=
  TrieAt Q W t L n rt ve nd mp ∧ SR P 1 W v l.length (rc l) ∧ Box W b 32 v ∧ Box W (b + 1) 55 (foundV nd l i) ∧ w.grownBy W none ∧ i ≤ l.length + 1

set_option maxHeartbeats 2000000 in
theorem find_sees (w : World) (v : Value) (Q P : Nat → Prop) (t : Nat) (L : List Ent) (n : Int) (rt : Nat) (ve : Value) (nd mp : List Int → Option Nat) (l : List Int) (b : Nat) (hb : w.heap.size ≤ b) (h0 : TrieAt Q w t L n rt ve nd mp) (hv0 : SR P 1 w v l.length (rc l)) :
    SeesOk 46 (.pointer (some ⟨b, 0, none⟩)) (.pointer (some ⟨b + 1, 0, none⟩)) Q P t L n rt ve nd mp v l (FindS w v Q P t L n rt ve nd mp l b) where
  enter := fun args W => by kernel_rfl
  at_ := fun i W h => h.1
  rd := fun i W h => h.2.1
  call := fun i c W h hi hc => by
    obtain ⟨hT, hv, b1, b2, hg, _⟩ := h
    have hfin : ∀ x, x = foundV nd l (i + 1) → FindS w v Q P t L n rt ve nd mp l b (i + 1) (W.setCell ⟨b + 1, 0, none⟩ x) := fun x hx => by
      have g := gnew hg (gset (World.grownBy.refl W (some (b + 1))) 0 x) (fun r e => by simp at e; left; omega)
      exact ⟨h0.new g, hv0.new g, b1.kept (gset (World.grownBy.refl W (some (b + 1))) 0 x) (by simp), by rw [← hx]; exact b2.set x, g, by omega⟩
    have hkeep : i ≠ l.length → FindS w v Q P t L n rt ve nd mp l b (i + 1) W := fun hne => by
      refine ⟨hT, hv, b1, ?_, hg, by omega⟩
      have e : foundV nd l (i + 1) = foundV nd l i := by unfold foundV; rw [if_neg (by omega), if_neg (by omega)]
      rw [e]; exact b2
    have c1 := b1.c0
    have f2 := b2.free 0
    have c2 := b2.c0
    obtain ⟨a, cap, hve, _⟩ := hv.form
    rw [hve] at c1
    clear hve
    by_cases he : i = l.length
    · have hf2 := hfin (.pointer (some ⟨c, 0, none⟩)) (by unfold foundV; rw [if_pos (by omega)]; subst he; rw [List.take_length] at hc; rw [hc]; rfl)
      have hq : ((i : Int) == (l.length : Int)) = true := by simp [he]
      replace hf2 := Lib.hid hf2
      replace he := Lib.hid he
      clear hfin hkeep hT hv hv0 h0 b1 b2
      generalize foundV nd l i = fv at c2
      go_enter Try.func46, Try.ntmps46
      go_wp2
      go_end0
      exact ⟨rfl, hf2.out⟩
    · have hk := Lib.hid (hkeep he)
      have hq : ((i : Int) == (l.length : Int)) = false := by simp; omega
      clear hfin hkeep hT hv hv0 h0 b1 b2
      go_enter Try.func46, Try.ntmps46
      go_wp2
      go_end0
      exact ⟨rfl, hk.out⟩

theorem far_full {Q : Nat → Prop} {w : World} {t : Nat} {L : List Ent} {n : Int} {rt : Nat} {ve : Value} {nd mp : List Int → Option Nat} (h : TrieAt Q w t L n rt ve nd mp) {l : List Int} {m : Nat} (hf : Far nd l m) : foundV nd l m = ptrV (nd l) := by
  unfold foundV
  by_cases e : m = l.length + 1
  · rw [if_pos e]
  · rw [if_neg e]
    obtain ⟨h1, h2, h3⟩ := hf
    have h4 := h3 (by omega)
    cases hl : nd l with
    | none => rfl
    | some b =>
      exfalso
      have h5 := (h.dom l).1 (by rw [hl]; simp)
      have h6 : l.take m <+: l := List.take_prefix _ _
      refine (h.dom (l.take m)).2 ?_ h4
      rcases h5 with e | ⟨x, hx, hp⟩
      · left; rw [e]; simp
      · exact .inr ⟨x, hx, h6.trans hp⟩

set_option maxHeartbeats 2000000 in
theorem find_any (Q P : Nat → Prop) (t : Nat) (L : List Ent) (n : Int) (rt : Nat) (ve : Value) (nd mp : List Int → Option Nat) (v : Value) (l : List Int) (w : World) (h : TrieAt Q w t L n rt ve nd mp) (hv : SR P 1 w v l.length (rc l)) :
    Calls Try.prog 32 #[.pointer (some ⟨t, 0, none⟩), v] w fun e w' => e = .returned (ptrV (nd l)) ∧ w.grownBy w' none := by
  have hS := find_sees w v Q P t L n rt ve nd mp l w.heap.size (Nat.le_refl _) h hv
  have hv0 := hv
  obtain ⟨a, c, rfl, _⟩ := hv.form
  have g1 := World.grownBy_alloc w (.cells #[.slice a l.length c] 32) none
  have g2 := galloc g1 (.cells #[.pointer none] 55)
  have e1 : Box ((w.alloc (.cells #[.slice a l.length c] 32)).alloc (.cells #[.pointer none] 55)) w.heap.size 32 (.slice a l.length c) := ((World.grownBy_alloc (w.alloc (.cells #[.slice a l.length c] 32)) (.cells #[.pointer none] 55) none).block _ (by simp) (by simp)).trans (World.alloc_heap_new w _)
  have e2 : Box ((w.alloc (.cells #[.slice a l.length c] 32)).alloc (.cells #[.pointer none] 55)) (w.heap.size + 1) 55 (.pointer none) := by
    have := World.alloc_heap_new (w.alloc (.cells #[.slice a l.length c] 32)) (.cells #[.pointer none] 55)
    rw [World.size_alloc] at this
    exact this
  have hst : FindS w (.slice a l.length c) Q P t L n rt ve nd mp l w.heap.size 0 ((w.alloc (.cells #[.slice a l.length c] 32)).alloc (.cells #[.pointer none] 55)) :=
    ⟨h.new g2, hv.new g2, e1, by unfold foundV; rw [if_neg (by omega)]; exact e2, g2, by omega⟩
  have hW := walk_any _ _ _ Q P t L n rt ve nd mp _ l _ hS _ hst
  have c1 := e1.c0
  obtain ⟨po, hpo⟩ : ∃ po, ptrV (nd l) = .pointer po := by cases nd l <;> exact ⟨_, rfl⟩
  rw [hpo]
  replace hpo := Lib.hid hpo
  clear e1 e2 hst hv hv0 hS g1 g2
  obtain ⟨W, hWd⟩ : ∃ W, W = (w.alloc (.cells #[.slice a l.length c] 32)).alloc (.cells #[.pointer none] 55) := ⟨_, rfl⟩
  rw [← hWd] at hW c1
  go_enter Try.func32, Try.ntmps32
  go_wp2_with fail
  rw [← hWd]
  clear hWd
  refine hW.mono ?_
  rintro e w' ⟨rfl, m, ⟨q1, q2, q3, q4, q5, _⟩, hfar⟩
  rw [far_full q1 hfar, hpo.out] at q4
  have d := q4.c0
  clear hpo q4
  go_wp2
  go_ret
  exact ⟨rfl, q5⟩
end Go.Proofs.Ytnnijcafnhhnoaa
