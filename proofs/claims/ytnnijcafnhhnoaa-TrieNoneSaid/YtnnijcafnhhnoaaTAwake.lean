/-
  LAYER 9 (trie): chapter 9's example.
-/
import Derived.Test.YtnnijcafnhhnoaaTLong2
namespace Go.Proofs.Ytnnijcafnhhnoaa
set_option maxRecDepth 100000
open Go.RowKit Go.Lib
attribute [local go_sem] Oper.semAt_some

theorem GP.grownB {P : Nat → Prop} {w w' : World} (h : GP P w w') (hP : ∀ k, P k → w.heap.size ≤ k) : w.grownBy w' none :=
  ⟨h.1, h.2.1, h.2.2.1, h.2.2.2.1, fun k hk _ => h.2.2.2.2 k hk (fun e => by have := hP k e; omega)⟩
/-- A row that was just laid. -/
theorem sr_lit {P : Nat → Prop} {k : Nat} {w : World} {b n : Nat} {cs : Array Value} {e : TypeId} (h : w.heap[b]? = some (.cells cs e (0, 0))) (hP : P b) (hl : cs.toList.length = n * k) (hn : n ≤ 1000) : SR P k w (.slice (some ⟨b, 0, none⟩) n n) n cs.toList := by
  refine ⟨hl, _, n, rfl, Nat.le_refl _, by unfold maxLen; omega, (fun e => by cases e), fun _ => ⟨b, 0, rfl, hP, lt_of_block h, fun i u hu => ?_⟩⟩
  rw [Nat.zero_add]
  simp only [World.cell?, h]
  simpa using hu
theorem TrieAt.len {Q : Nat → Prop} {w : World} {t : Nat} {L : List Ent} {n : Int} {rt : Nat} {ve : Value} {nd mp : List Int → Option Nat} (h : TrieAt Q w t L n rt ve nd mp) : ∃ a c, ve = .slice a L.length c := by
  obtain ⟨vs, _, h2, _⟩ := h.ents
  exact rowForm h2

def aw1 : Ent := ⟨[97], []⟩
def aw2 : Ent := ⟨[99, 104], [⟨1, 1, 1, false⟩]⟩
def aw3 : Ent := ⟨[99], []⟩
theorem aw_all : newAll [aw1, aw2, aw3] = (0, 0) := by decide
theorem aw_last : lastEnt [aw1, aw2, aw3] [99, 104, 97] ([99, 104, 97].length + 1) = some aw2 := rfl
theorem aw_more : moreThan [aw1, aw2, aw3] [99] = true := by decide

set_option maxHeartbeats 4000000 in
theorem tawake_any (w : World) : Calls Try.prog 7 #[] w fun e w' => e = .returned (.bool true) ∧ w.grownBy w' none := by
  obtain ⟨A1, hA1⟩ : ∃ A, A = w.alloc (.cells #[.int .i32 97] 21) := ⟨_, rfl⟩
  obtain ⟨A2, hA2⟩ : ∃ A, A = A1.alloc (.cells #[.int .i32 99, .int .i32 104] 21) := ⟨_, rfl⟩
  obtain ⟨A3, hA3⟩ : ∃ A, A = A2.alloc (.cells #[.int .i64 1, .int .i64 1, .int .i64 1, .bool false] 66) := ⟨_, rfl⟩
  obtain ⟨A4, hA4⟩ : ∃ A, A = A3.alloc (.cells #[.int .i32 99] 21) := ⟨_, rfl⟩
  obtain ⟨A5, hA5⟩ : ∃ A, A = A4.alloc (.cells #[.slice (some ⟨w.heap.size, 0, none⟩) 1 1, .slice none 0 0, .slice (some ⟨w.heap.size + 1, 0, none⟩) 2 2, .slice (some ⟨w.heap.size + 2, 0, none⟩) 1 1, .slice (some ⟨w.heap.size + 3, 0, none⟩) 1 1, .slice none 0 0] 35) := ⟨_, rfl⟩
  have z1 : A1.heap.size = w.heap.size + 1 := by rw [hA1]; simp
  have z2 : A2.heap.size = w.heap.size + 2 := by rw [hA2]; simp [z1]
  have z3 : A3.heap.size = w.heap.size + 3 := by rw [hA3]; simp [z2]
  have z4 : A4.heap.size = w.heap.size + 4 := by rw [hA4]; simp [z3]
  have z5 : A5.heap.size = w.heap.size + 5 := by rw [hA5]; simp [z4]
  have g1 : w.grownBy A1 none := by rw [hA1]; exact World.grownBy_alloc _ _ _
  have g2 : A1.grownBy A2 none := by rw [hA2]; exact World.grownBy_alloc _ _ _
  have g3 : A2.grownBy A3 none := by rw [hA3]; exact World.grownBy_alloc _ _ _
  have g4 : A3.grownBy A4 none := by rw [hA4]; exact World.grownBy_alloc _ _ _
  have g5 : A4.grownBy A5 none := by rw [hA5]; exact World.grownBy_alloc _ _ _
  have b1 : A1.heap[w.heap.size]? = some (.cells #[.int .i32 97] 21 (0, 0)) := by rw [hA1]; exact World.alloc_heap_new _ _
  have b2 : A2.heap[w.heap.size + 1]? = some (.cells #[.int .i32 99, .int .i32 104] 21 (0, 0)) := by rw [hA2, ← z1]; exact World.alloc_heap_new _ _
  have b3 : A3.heap[w.heap.size + 2]? = some (.cells #[.int .i64 1, .int .i64 1, .int .i64 1, .bool false] 66 (0, 0)) := by rw [hA3, ← z2]; exact World.alloc_heap_new _ _
  have b4 : A4.heap[w.heap.size + 3]? = some (.cells #[.int .i32 99] 21 (0, 0)) := by rw [hA4, ← z3]; exact World.alloc_heap_new _ _
  have b5 : A5.heap[w.heap.size + 4]? = some (.cells #[.slice (some ⟨w.heap.size, 0, none⟩) 1 1, .slice none 0 0, .slice (some ⟨w.heap.size + 1, 0, none⟩) 2 2, .slice (some ⟨w.heap.size + 2, 0, none⟩) 1 1, .slice (some ⟨w.heap.size + 3, 0, none⟩) 1 1, .slice none 0 0] 35 (0, 0)) := by rw [hA5, ← z4]; exact World.alloc_heap_new _ _
  have g25 := (g2.trans g3).trans (g4.trans g5)
  have c1 := (g25.block _ (lt_of_block b1) (by simp)).trans b1
  have c2 := ((g3.trans (g4.trans g5)).block _ (lt_of_block b2) (by simp)).trans b2
  have c3 := ((g4.trans g5).block _ (lt_of_block b3) (by simp)).trans b3
  have c4 := (g5.block _ (lt_of_block b4) (by simp)).trans b4
  have gA : w.grownBy A5 none := g1.trans g25
  have hE : EntsR (fun k => k < A5.heap.size) A5 (.slice (some ⟨w.heap.size + 4, 0, none⟩) 3 3) [aw1, aw2, aw3] := by
    refine ⟨[(.slice (some ⟨w.heap.size, 0, none⟩) 1 1, .slice none 0 0), (.slice (some ⟨w.heap.size + 1, 0, none⟩) 2 2, .slice (some ⟨w.heap.size + 2, 0, none⟩) 1 1), (.slice (some ⟨w.heap.size + 3, 0, none⟩) 1 1, .slice none 0 0)], rfl, ?_, ?_⟩
    · have := sr_lit (P := fun k => k < A5.heap.size) (k := 2) (n := 3) b5 (by omega) rfl (by omega)
      simpa [pc] using this
    · intro i x p hx hp
      match i, hx, hp with
      | 0, hx, hp =>
        simp at hx hp
        subst hx hp
        have := sr_lit (P := fun k => k < A5.heap.size) (k := 1) (n := 1) c1 (by omega) rfl (by omega)
        exact ⟨this, SR.nil _ _ _⟩
      | 1, hx, hp =>
        simp at hx hp
        subst hx hp
        have q1 := sr_lit (P := fun k => k < A5.heap.size) (k := 1) (n := 2) c2 (by omega) rfl (by omega)
        have q2 := sr_lit (P := fun k => k < A5.heap.size) (k := 4) (n := 1) c3 (by omega) rfl (by omega)
        exact ⟨q1, q2⟩
      | 2, hx, hp =>
        simp at hx hp
        subst hx hp
        have := sr_lit (P := fun k => k < A5.heap.size) (k := 1) (n := 1) c4 (by omega) rfl (by omega)
        exact ⟨this, SR.nil _ _ _⟩
  have hNew := new_any _ _ A5 hE
  rw [aw_all] at hNew
  dsimp only at hNew
  clear hE c1 c2 c3 c4 g25 b1 b2 b3 b4 b5 g1 g2 g3 g4 g5
  have hz0 : ((0 : Nat) : Int) = 0 := rfl
  rw [hz0] at hNew
  clear hz0
  go_enter Try.func7, Try.ntmps7
  go_wp2_with fail
  rw [← hA1, ← hA2, ← hA3, ← hA4, ← hA5]
  clear hA1 hA2 hA3 hA4 hA5 z1 z2 z3 z4
  refine hNew.mono ?_
  clear hNew
  rintro e w1 ⟨po, rfl, hg, hor⟩
  obtain ⟨t, rt, ve, nd, mp, rfl, hT⟩ : ∃ t rt ve nd mp, po = some ⟨t, 0, none⟩ ∧ TrieAt (fun k => A5.heap.size ≤ k) w1 t [aw1, aw2, aw3] 0 rt ve nd mp := by
    rcases hor with ⟨_, h⟩ | ⟨h, _⟩
    · exact h
    · exact absurd rfl h
  have gw1 : w.grownBy w1 none := gA.trans (hg.grownB (fun k h => h))
  have hlen := hT.len
  obtain ⟨va, vc, rfl⟩ := hlen
  have ht1 := hT.tr.lt
  clear hor hg
  go_wp2_with fail
  obtain ⟨B1, hB1⟩ : ∃ B, B = w1.alloc (.cells #[.int .i32 99, .int .i32 104, .int .i32 97] 21) := ⟨_, rfl⟩
  have gB1 : w1.grownBy B1 none := by rw [hB1]; exact World.grownBy_alloc _ _ _
  have bB1 : B1.heap[w1.heap.size]? = some (.cells #[.int .i32 99, .int .i32 104, .int .i32 97] 21 (0, 0)) := by rw [hB1]; exact World.alloc_heap_new _ _
  have hTB := hT.new gB1
  have hlo := longest_some (P := fun k => k = w1.heap.size) _ [99, 104, 97] aw2 B1 hTB (sr_lit (k := 1) (n := 3) bB1 rfl rfl (by omega)) (fun k e => by omega) (by omega) (by omega) aw_last (by decide)
  rw [← hB1]
  clear hB1 hT
  refine hlo.mono ?_
  clear hlo
  rintro e w2 ⟨a2, rfl, _, hT2, g2⟩
  have hz0 : ((aw2.codes.length : Nat) : Int) = 2 := rfl
  have hz1 : aw2.els.length = 1 := rfl
  rw [hz0, hz1]
  clear hz0 hz1
  have gw2 : w.grownBy w2 none := gnew (gw1.trans gB1) g2 (fun r e => by cases e; left; exact Nat.le_trans gA.size hTB.tq)
  have hz2 : ((0 : Int) + 1) = 1 := rfl
  rw [hz2] at hT2
  clear hz2
  have ht2 := hT2.tr.lt
  have hln := fun W (g : w2.grownBy W none) => len_made t rt va [aw1, aw2, aw3].length vc 1 W ((hT2.new g).tr)
  have hz3 : (([aw1, aw2, aw3].length : Nat) : Int) = 3 := rfl
  rw [hz3] at hln
  have hask := fun W (g : w2.grownBy W none) => asked_made t rt _ 1 W ((hT2.new g).tr)
  obtain ⟨B2, hB2⟩ : ∃ B, B = w2.alloc (.cells #[.int .i32 99] 21) := ⟨_, rfl⟩
  have gB2 : w2.grownBy B2 none := by rw [hB2]; exact World.grownBy_alloc _ _ _
  have bB2 : B2.heap[w2.heap.size]? = some (.cells #[.int .i32 99] 21 (0, 0)) := by rw [hB2]; exact World.alloc_heap_new _ _
  have hbg := begins_any (P := fun k => k = w2.heap.size) _ [99] B2 (hT2.new gB2) (sr_lit (k := 1) (n := 1) bB2 rfl rfl (by omega))
  rw [aw_more] at hbg
  clear hT2 hTB
  go_wp2_with fail
  rw [← hB2]
  clear hB2
  refine hbg.mono ?_
  clear hbg
  rintro e w3 ⟨rfl, g3⟩
  have gg3 := gB2.trans g3
  have hln3 := hln _ gg3
  have hask3 := hask _ gg3
  clear hln hask
  go_wp2_with first
    | (go_at_call 11; refine hln3.mono ?_; rintro e w4 ⟨rfl, rfl⟩)
    | (go_at_call 15; refine hask3.mono ?_; rintro e w5 ⟨rfl, rfl⟩)
  go_ret
  exact ⟨rfl, gw2.trans gg3⟩
end Go.Proofs.Ytnnijcafnhhnoaa
