/-
  LAYER 9 (trie): Longest.
-/
import Derived.Test.YtnnijcafnhhnoaaTTell
namespace Go.Proofs.Ytnnijcafnhhnoaa
set_option maxRecDepth 100000
open Go.RowKit Go.Lib
attribute [local go_sem] Oper.semAt_some

def best (nd : List Int → Option Nat) (nm : List Int → Int) (l : List Int) : Nat → Nat × Option Nat
  | 0 => (0, none)
  | i + 1 => if nm (l.take i) ≠ -1 then (i, nd (l.take i)) else best nd nm l i
/-- The entry of the longest beginning of l among those of fewer than m code points. -/
def lastEnt (L : List Ent) (l : List Int) : Nat → Option Ent
  | 0 => none
  | i + 1 => (findEnt L (l.take i)).or (lastEnt L l i)

section
variable {Q P : Nat → Prop} {t : Nat} {L : List Ent} {n : Int} {rt : Nat} {ve : Value} {nd mp : List Int → Option Nat}
theorem best_spec {w : World} (h : TrieAt Q w t L n rt ve nd mp) (l : List Int) : ∀ m, m ≤ l.length + 1 → (lastEnt L l m = none ∧ best nd (nmL L) l m = (0, none)) ∨ ∃ (x : Ent) (i b : Nat), lastEnt L l m = some x ∧ best nd (nmL L) l m = (i, some b) ∧ i ≤ l.length ∧ nd (l.take i) = some b ∧ findEnt L (l.take i) = some x
  | 0, _ => .inl ⟨rfl, rfl⟩
  | m + 1, hm => by
    rw [lastEnt, best]
    rcases nmL_find L (l.take m) with ⟨h1, h2⟩ | ⟨i, x, h1, h2, h3⟩
    · rw [h1, h2]
      simpa using best_spec h l m (by omega)
    · obtain ⟨b, j, q1, _⟩ := found_node h h1
      rw [h1, h2, if_pos (by omega)]
      exact .inr ⟨x, m, b, rfl, by rw [q1], by omega, q1, h1⟩
theorem last_far {w : World} (h : TrieAt Q w t L n rt ve nd mp) {l : List Int} {m : Nat} (hf : Far nd l m) : lastEnt L l (l.length + 1) = lastEnt L l m := by
  obtain ⟨h1, h2, h3⟩ := hf
  have key : ∀ d, m + d ≤ l.length + 1 → lastEnt L l (m + d) = lastEnt L l m := by
    intro d
    induction d with
    | zero => intro _; rfl
    | succ d ih =>
      intro hle
      obtain ⟨k, hkd⟩ : ∃ k, k = m + d := ⟨_, rfl⟩
      rw [← Nat.add_assoc] at hle ⊢
      rw [← hkd] at ih hle ⊢
      have hnone : nd (l.take k) = none := by
        cases hc : nd (l.take k) with
        | none => rfl
        | some b =>
          exfalso
          have h5 := (h.dom _).1 (by rw [hc]; simp)
          have h6 : l.take m <+: l.take k := by
            rw [List.prefix_take_iff]
            refine ⟨List.take_prefix _ _, by rw [List.length_take]; omega⟩
          refine (h.dom (l.take m)).2 ?_ (h3 (by omega))
          rcases h5 with e | ⟨x, hx, hp⟩
          · left
            rw [e] at h6
            exact List.prefix_nil.1 h6
          · exact .inr ⟨x, hx, h6.trans hp⟩
      have hfe : findEnt L (l.take k) = none := by
        cases hc : findEnt L (l.take k) with
        | none => rfl
        | some x =>
          obtain ⟨b, i, q1, _⟩ := found_node h hc
          rw [hnone] at q1
          cases q1
      rw [lastEnt, hfe]
      exact ih (by omega)
  have := key (l.length + 1 - m) (by omega)
  rwa [show m + (l.length + 1 - m) = l.length + 1 by omega] at this

def LongS (w : World) (v : Value) (Q P : Nat → Prop) (t : Nat) (L : List Ent) (n : Int) (rt : Nat) (ve : Value) (nd mp : List Int → Option Nat) (l : List Int) (b : Nat) (i : Nat) (W : World) : Prop :=
  TrieAt Q W t L n rt ve nd mp ∧ SR P 1 W v l.length (rc l) ∧ Box W b 3 (.int .i64 ((best nd (nmL L) l i).1 : Int)) ∧ Box W (b + 1) 55 (ptrV (best nd (nmL L) l i).2) ∧ w.grownBy W none ∧ i ≤ l.length + 1

set_option maxHeartbeats 2000000 in
theorem long_sees (w : World) (v : Value) (l : List Int) (b : Nat) (hb : w.heap.size ≤ b) (h0 : TrieAt Q w t L n rt ve nd mp) (hv0 : SR P 1 w v l.length (rc l)) :
    SeesOk 36 (.pointer (some ⟨b, 0, none⟩)) (.pointer (some ⟨b + 1, 0, none⟩)) Q P t L n rt ve nd mp v l (LongS w v Q P t L n rt ve nd mp l b) where
  enter := fun args W => by kernel_rfl
  at_ := fun i W h => h.1
  rd := fun i W h => h.2.1
  call := fun i c W h hi hc => by
    obtain ⟨hT, hv, b1, b2, hg, _⟩ := h
    have hE := ends_any c _ _ W (hT.tree.node _ _ hc).2
    have c1 := b1.c0
    have f1 := b1.free 0
    by_cases hn : nmL L (l.take i) = -1
    · have e : best nd (nmL L) l (i + 1) = best nd (nmL L) l i := by rw [best, if_neg (by omega)]
      have hfin : LongS w v Q P t L n rt ve nd mp l b (i + 1) W := ⟨hT, hv, by rw [e]; exact b1, by rw [e]; exact b2, hg, by omega⟩
      rw [hn] at hE
      have e1 : ((-1 : Int) != -1) = false := rfl
      rw [e1] at hE
      replace hfin := Lib.hid hfin
      clear hT hv b1 b2 hg h0 hv0 hn e e1 hc c1 f1
      go_enter Try.func36, Try.ntmps36
      go_wp2_with (go_at_call 33; refine hE.mono ?_; rintro e w4 ⟨rfl, rfl⟩)
      go_end0
      exact ⟨rfl, hfin.out⟩
    · have e : best nd (nmL L) l (i + 1) = (i, some c) := by rw [best, if_pos hn, hc]
      have hs1 : Box (W.setCell ⟨b, 0, none⟩ (.int .i64 (i : Int))) b 3 (.int .i64 (i : Int)) := b1.set _
      have g1 := gset (World.grownBy.refl W (some b)) 0 (.int .i64 (i : Int))
      have hs2 : Box (W.setCell ⟨b, 0, none⟩ (.int .i64 (i : Int))) (b + 1) 55 _ := b2.kept g1 (by simp)
      have d2 := hs2.c0
      have f2 := hs2.free 0
      have hs3 := hs2.set (.pointer (some ⟨c, 0, none⟩))
      have g2 := gset (World.grownBy.refl (W.setCell ⟨b, 0, none⟩ (.int .i64 (i : Int))) (some (b + 1))) 0 (.pointer (some ⟨c, 0, none⟩))
      have hs4 := hs1.kept g2 (by simp)
      have gF := gnew (gnew hg g1 (fun r e => by simp at e; left; omega)) g2 (fun r e => by simp at e; left; omega)
      have hfin : LongS w v Q P t L n rt ve nd mp l b (i + 1) ((W.setCell ⟨b, 0, none⟩ (.int .i64 (i : Int))).setCell ⟨b + 1, 0, none⟩ (.pointer (some ⟨c, 0, none⟩))) :=
        ⟨h0.new gF, hv0.new gF, by rw [e]; exact hs4, by rw [e]; exact hs3, gF, by omega⟩
      have e1 : (nmL L (l.take i) != -1) = true := by simpa using hn
      rw [e1] at hE
      replace hfin := Lib.hid hfin
      generalize ptrV (best nd (nmL L) l i).2 = pp at d2
      generalize ((best nd (nmL L) l i).1 : Int) = pq at c1
      clear hT hv b1 b2 hg h0 hv0 hn e e1 hc hs1 hs2 hs3 hs4 g1 g2 gF
      go_enter Try.func36, Try.ntmps36
      go_wp2_with (go_at_call 33; refine hE.mono ?_; rintro e w4 ⟨rfl, rfl⟩)
      go_end0
      exact ⟨rfl, hfin.out⟩

theorem longest_nobody (po : Option Addr) (v : Value) (w : World) (h : NonePtr w po) (hv : ∃ a n c, v = .slice a n c) :
    Calls Try.prog 13 #[.pointer po, v] w fun e w' => e = .returned (.tuple #[.int .i64 0, .slice none 0 0]) ∧ w.grownBy w' none := by
  have hC := count_nobody po w h
  obtain ⟨a, n, c, rfl⟩ := hv
  have g1 := World.grownBy_alloc w (.cells #[.int .i64 0] 3) none
  have g2 := galloc g1 (.cells #[.pointer none] 55)
  have e2 : Box ((w.alloc (.cells #[.int .i64 0] 3)).alloc (.cells #[.pointer none] 55)) (w.heap.size + 1) 55 (.pointer none) := by
    have := World.alloc_heap_new (w.alloc (.cells #[.int .i64 0] 3)) (.cells #[.pointer none] 55)
    rw [World.size_alloc] at this
    exact this
  have hW := fun fv => walk_nobody po (.slice a n c) fv _ (h.new g2)
  have c2 := e2.c0
  clear e2 h
  obtain ⟨W, hWd⟩ : ∃ W, W = (w.alloc (.cells #[.int .i64 0] 3)).alloc (.cells #[.pointer none] 55) := ⟨_, rfl⟩
  rw [← hWd] at g2 hW c2
  go_enter Try.func13, Try.ntmps13
  go_wp2_with (go_at_call 31; refine hC.mono ?_; rintro e w2 ⟨rfl, rfl⟩)
  rw [← hWd]
  clear hWd g1 hC
  refine (hW _).mono ?_
  rintro e w' ⟨rfl, rfl⟩
  go_wp2
  go_ret2
  exact ⟨rfl, g2⟩
end
end Go.Proofs.Ytnnijcafnhhnoaa
