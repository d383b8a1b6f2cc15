/-
  LAYER 9 (trie): Longest of a trie that New made.
-/
import Derived.Test.YtnnijcafnhhnoaaTLong
namespace Go.Proofs.Ytnnijcafnhhnoaa
set_option maxRecDepth 100000
open Go.RowKit Go.Lib
attribute [local go_sem] Oper.semAt_some

section
variable {Q P : Nat → Prop} {t : Nat} {L : List Ent} {n : Int} {rt : Nat} {ve : Value} {nd mp : List Int → Option Nat}
/-- What Longest's walk leaves. -/
theorem long_walk (v : Value) (l : List Int) (w : World) (h : TrieAt Q w t L n rt ve nd mp) (hv : SR P 1 w v l.length (rc l)) :
    Calls Try.prog 35 #[.pointer (some ⟨t, 0, none⟩), v, .func (.func 36) #[] #[.pointer (some ⟨w.heap.size, 0, none⟩), .pointer (some ⟨w.heap.size + 1, 0, none⟩)]] ((w.alloc (.cells #[.int .i64 0] 3)).alloc (.cells #[.pointer none] 55)) fun e w' => e = .returned (.tuple #[]) ∧
      ∃ m, LongS w v Q P t L n rt ve nd mp l w.heap.size m w' ∧ lastEnt L l (l.length + 1) = lastEnt L l m := by
  have hS := long_sees w v l w.heap.size (Nat.le_refl _) h hv
  have g1 := World.grownBy_alloc w (.cells #[.int .i64 0] 3) none
  have g2 := galloc g1 (.cells #[.pointer none] 55)
  have e1 : Box ((w.alloc (.cells #[.int .i64 0] 3)).alloc (.cells #[.pointer none] 55)) w.heap.size 3 (.int .i64 0) := ((World.grownBy_alloc (w.alloc (.cells #[.int .i64 0] 3)) (.cells #[.pointer none] 55) none).block _ (by simp) (by simp)).trans (World.alloc_heap_new w _)
  have e2 : Box ((w.alloc (.cells #[.int .i64 0] 3)).alloc (.cells #[.pointer none] 55)) (w.heap.size + 1) 55 (.pointer none) := by
    have := World.alloc_heap_new (w.alloc (.cells #[.int .i64 0] 3)) (.cells #[.pointer none] 55)
    rw [World.size_alloc] at this
    exact this
  refine (walk_any _ _ _ Q P t L n rt ve nd mp _ l _ hS _ ⟨h.new g2, hv.new g2, e1, e2, g2, by omega⟩).mono ?_
  rintro e w' ⟨rfl, m, q, hf⟩
  exact ⟨rfl, m, q, last_far h hf⟩

set_option maxHeartbeats 4000000 in
theorem longest_none (v : Value) (l : List Int) (w : World) (h : TrieAt Q w t L n rt ve nd mp) (hv : SR P 1 w v l.length (rc l)) (hP : ∀ k, P k → k ≠ t) (h0 : 0 ≤ n) (h1 : n < 4611686018427387904) (hf : lastEnt L l (l.length + 1) = none) :
    Calls Try.prog 13 #[.pointer (some ⟨t, 0, none⟩), v] w fun e w' => e = .returned (.tuple #[.int .i64 0, .slice none 0 0]) ∧ TrieAt Q w' t L (n + 1) rt ve nd mp ∧ w.grownBy w' (some t) := by
  have hC := count_made t rt ve n w h.tr h0 h1
  have hT1 := h.counted (n + 1)
  have g1 := gset (World.grownBy.refl w (some t)) 2 (.int .i64 (n + 1))
  have hv1 := hv.heap (w' := w.setCell ⟨t, 2, none⟩ (.int .i64 (n + 1))) (fun k hk hl => g1.block k hl (fun e => hP k hk (by cases e; rfl)))
  generalize w.setCell ⟨t, 2, none⟩ (.int .i64 (n + 1)) = W at *
  have hW := long_walk v l W hT1 hv1
  rw [hf] at hW
  replace hT1 := Lib.hid hT1
  clear hv hv1 hf
  obtain ⟨W2, hW2⟩ : ∃ W2, W2 = (W.alloc (.cells #[.int .i64 0] 3)).alloc (.cells #[.pointer none] 55) := ⟨_, rfl⟩
  rw [← hW2] at hW
  go_enter Try.func13, Try.ntmps13
  go_wp2_with (go_at_call 31; refine hC.mono ?_; rintro e w2 ⟨rfl, rfl⟩)
  rw [← hW2]
  clear hW2 hC
  refine hW.mono ?_
  rintro e w' ⟨rfl, m, ⟨q1, q2, q3, q4, q5, q6⟩, hl⟩
  rcases best_spec q1 l m q6 with ⟨_, e2⟩ | ⟨x, i, b, e1, _⟩
  · rw [e2] at q3 q4
    have c1 := q4.c0
    unfold ptrV at c1
    dsimp only at c1
    replace q1 := Lib.hid q1
    clear q2 q3 q4 hl e2 h
    go_wp2
    go_ret2
    exact ⟨rfl, q1.out, g1.trans (gbut' q5)⟩
  · rw [e1] at hl; cases hl

set_option maxHeartbeats 4000000 in
theorem longest_some (v : Value) (l : List Int) (x : Ent) (w : World) (h : TrieAt Q w t L n rt ve nd mp) (hv : SR P 1 w v l.length (rc l)) (hP : ∀ k, P k → k ≠ t) (h0 : 0 ≤ n) (h1 : n < 4611686018427387904) (hf : lastEnt L l (l.length + 1) = some x) (hlen : x.els.length < 1099511627776) :
    Calls Try.prog 13 #[.pointer (some ⟨t, 0, none⟩), v] w fun e w' => ∃ a, e = .returned (.tuple #[.int .i64 (x.codes.length : Int), .slice a x.els.length x.els.length]) ∧ SO (fun k => w.heap.size ≤ k) 66 4 w' (.slice a x.els.length x.els.length) x.els.length (ec x.els) ∧ TrieAt Q w' t L (n + 1) rt ve nd mp ∧ w.grownBy w' (some t) := by
  have hC := count_made t rt ve n w h.tr h0 h1
  have hT1 := h.counted (n + 1)
  have g1 := gset (World.grownBy.refl w (some t)) 2 (.int .i64 (n + 1))
  have hv1 := hv.heap (w' := w.setCell ⟨t, 2, none⟩ (.int .i64 (n + 1))) (fun k hk hl => g1.block k hl (fun e => hP k hk (by cases e; rfl)))
  generalize w.setCell ⟨t, 2, none⟩ (.int .i64 (n + 1)) = W at *
  have hW := long_walk v l W hT1 hv1
  rw [hf] at hW
  replace hT1 := Lib.hid hT1
  clear hv hv1 hf
  obtain ⟨W2, hW2⟩ : ∃ W2, W2 = (W.alloc (.cells #[.int .i64 0] 3)).alloc (.cells #[.pointer none] 55) := ⟨_, rfl⟩
  rw [← hW2] at hW
  go_enter Try.func13, Try.ntmps13
  go_wp2_with (go_at_call 31; refine hC.mono ?_; rintro e w2 ⟨rfl, rfl⟩)
  rw [← hW2]
  clear hW2 hC
  refine hW.mono ?_
  rintro e w' ⟨rfl, m, ⟨q1, q2, q3, q4, q5, q6⟩, hl⟩
  rcases best_spec q1 l m q6 with ⟨e1, _⟩ | ⟨y, i, b, e1, e2, hi, hnd, hfe⟩
  · rw [e1] at hl; cases hl
  · rw [e1] at hl
    cases hl
    rw [e2] at q3 q4
    obtain ⟨b', j, r1, r2, r3, r4⟩ := found_node q1 hfe
    obtain rfl : b = b' := by rw [hnd] at r1; cases r1; rfl
    have hil : x.codes.length = i := by rw [r4, List.length_take]; omega
    subst hil
    have gV : w'.grownBy w'.drew none := gdrew (World.grownBy.refl w' none)
    have hEl := elements_any (l.take x.codes.length) b j x w'.drew (q1.new gV) hnd r2 r3 hlen
    have c0 := q3.c0
    have c1 := q4.c0
    have d0 := (q3.new gV).c0
    have d1 := (q4.new gV).c0
    unfold ptrV at c1 d1
    dsimp only at c1 d1 c0 d0
    replace q1 := Lib.hid q1
    clear q2 q3 q4 e2 h e1 hfe r1 r2 r3 r4 hnd
    go_wp2_with fail
    refine wp_region_held_drew (S := fun X => X.cell? ⟨w2.heap.size, 0, none⟩ = some (.int .i64 (x.codes.length : Int)) ∧ X.cell? ⟨w2.heap.size + 1, 0, none⟩ = some (.pointer (some ⟨b, 0, none⟩))) (by kernel_rfl) ⟨d0, d1⟩ (fun hS0 => ?_)
    generalize w'.drew = V at *
    refine wpAnyH_take (i := 0) (oi := ⟨some 16, _, _, _, _, _⟩) (v := ?_) rfl (by kernel_rfl) (by kernel_rfl) (by kernel_rfl) (fun _ _ _ h => h) (Or.inl ⟨by rfl, ?_⟩) (by assumption) ?_
    rotate_left
    · (intro w hSw; (try dsimp only at hSw); go_simp; try with_reducible rfl)
    try simp only [Act.put, List.setIfInBounds_toArray, List.set_cons_zero, List.set_cons_succ]
    refine wpAnyH_take (i := 1) (oi := ⟨some 17, _, _, _, _, _⟩) (v := ?_) rfl (by kernel_rfl) (by kernel_rfl) (by kernel_rfl) (fun _ _ _ h => h) (Or.inl ⟨by rfl, ?_⟩) (by assumption) ?_
    rotate_left
    · (intro w hSw; (try dsimp only at hSw); go_simp; try with_reducible rfl)
    try simp only [Act.put, List.setIfInBounds_toArray, List.set_cons_zero, List.set_cons_succ]
    refine wpAnyH_take (i := 2) (oi := ⟨some 18, _, _, _, _, _⟩) (v := ?_) rfl (by kernel_rfl) (by kernel_rfl) (by kernel_rfl) (fun _ _ _ h => h) (Or.inl ⟨by rfl, ?_⟩) (by assumption) ?_
    rotate_left
    · (intro w hSw; (try dsimp only at hSw); go_simp; try with_reducible rfl)
    try simp only [Act.put, List.setIfInBounds_toArray, List.set_cons_zero, List.set_cons_succ]
    refine wpAnyH_ready (rs := [3]) (by kernel_rfl) (by simp) ?_
    refine AllReadyH.cons rfl (fun K hK => ?_) AllReadyH.nil
    go_simp
    refine hEl.mono ?_
    rintro e w5 ⟨a, rfl, o5, g5⟩
    have hS5 : w5.cell? ⟨w2.heap.size, 0, none⟩ = some (.int .i64 (x.codes.length : Int)) ∧ w5.cell? ⟨w2.heap.size + 1, 0, none⟩ = some (.pointer (some ⟨b, 0, none⟩)) := ⟨g5.cell d0 (by simp), g5.cell d1 (by simp)⟩
    refine hK.out _ _ hS5 (fun _ => ?_)
    clear hK
    refine wpAnyH_ready (rs := [4]) (by kernel_rfl) (by simp) ?_
    refine AllReadyH.cons rfl (fun K hK => ?_) AllReadyH.nil
    go_simp
    refine hK.out _ _ hS5 (fun _ => ?_)
    clear hK
    refine wpAnyH_ready (rs := [5]) (by kernel_rfl) (by simp) ?_
    refine AllReadyH.cons rfl (fun K hK => ?_) AllReadyH.nil
    go_simp
    refine hK.out _ _ hS5 (fun _ => ?_)
    clear hK
    refine wpAnyH_done (by kernel_rfl) ?_ _
    go_wp2
    go_ret2
    exact ⟨_, rfl, o5.weak (fun k hk => Nat.le_trans (Nat.le_trans g1.size (Nat.le_trans q5.size gV.size)) hk), (q1.out.new gV).new g5, ((g1.trans (gbut' q5)).trans (gbut' gV)).trans (gbut' g5)⟩
end
end Go.Proofs.Ytnnijcafnhhnoaa
