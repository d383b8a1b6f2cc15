/-
  LAYER 9 (trie): Under of a trie that nobody made; a trie's blocks all lie where they lie.
-/
import Derived.Test.YtnnijcafnhhnoaaTNoneI
import Derived.Test.YtnnijcafnhhnoaaTAwake
import Derived.Laws.EntriesVeiled
namespace Go.Proofs.Ytnnijcafnhhnoaa
set_option maxRecDepth 100000
open Go.RowKit Go.Lib
attribute [local go_sem] Oper.semAt_some

theorem from_any (pt pn : Option Addr) (w : World) : Calls Try.prog 39 #[.pointer pt, .pointer pn] w fun e w' => e = .returned (.func (.func 49) #[] #[.pointer (some ⟨w.heap.size + 1, 0, none⟩), .pointer (some ⟨w.heap.size, 0, none⟩)]) ∧
    Box w' (w.heap.size + 1) 55 (.pointer pn) ∧ Box w' w.heap.size 25 (.pointer pt) ∧ w.grownBy w' none ∧ w'.heap.size = w.heap.size + 2 := by
  have g1 := World.grownBy_alloc w (.cells #[.pointer pt] 25) none
  have e1 : Box (w.alloc (.cells #[.pointer pt] 25)) w.heap.size 25 (.pointer pt) := World.alloc_heap_new w _
  have s1 : (w.alloc (.cells #[.pointer pt] 25)).heap.size = w.heap.size + 1 := by simp
  have g2 := World.grownBy_alloc (w.alloc (.cells #[.pointer pt] 25)) (.cells #[.pointer pn] 55) none
  have e2 : Box ((w.alloc (.cells #[.pointer pt] 25)).alloc (.cells #[.pointer pn] 55)) (w.heap.size + 1) 55 (.pointer pn) := by rw [← s1]; exact World.alloc_heap_new _ _
  have e3 := e1.new g2
  go_enter Try.func39, Try.ntmps39
  go_wp2
  go_ret
  exact ⟨rfl, e2, e3, g1.trans g2, by simp⟩

theorem under_nobody (po : Option Addr) (v : Value) (w : World) (h : NonePtr w po) (hv : ∃ a n c, v = .slice a n c) :
    Calls Try.prog 21 #[.pointer po, v] w fun e w' => ∃ eb q3 q2, e = .returned (.func (.func 40) #[] #[.pointer (some ⟨eb, 0, none⟩)]) ∧
      Box w' eb 46 (.func (.func 49) #[] #[.pointer (some ⟨q3, 0, none⟩), .pointer (some ⟨q2, 0, none⟩)]) ∧ Box w' q3 55 (.pointer none) ∧ w.grownBy w' none := by
  have hF := find_nobody po v w h hv
  obtain ⟨a, n, c, rfl⟩ := hv
  clear h
  go_enter Try.func21, Try.ntmps21
  go_wp2_with first
    | (go_at_call 32; refine hF.mono ?_; clear hF; rintro e w1 ⟨rfl, g1⟩)
    | (go_at_call 39; refine (from_any _ _ _).mono ?_; rintro e w2 ⟨rfl, e3, e2, g2, s2⟩; clear s2)
  have g3 := World.grownBy_alloc w2 (.cells #[.func (.func 49) #[] #[.pointer (some ⟨w1.heap.size + 1, 0, none⟩), .pointer (some ⟨w1.heap.size, 0, none⟩)]] 46) none
  have e4 : Box (w2.alloc (.cells #[.func (.func 49) #[] #[.pointer (some ⟨w1.heap.size + 1, 0, none⟩), .pointer (some ⟨w1.heap.size, 0, none⟩)]] 46)) w2.heap.size 46 _ := World.alloc_heap_new w2 _
  go_ret
  exact ⟨_, _, _, rfl, e4, e3.new g3, (g1.trans g2).trans g3⟩

theorem SO.low {P : Nat → Prop} {e : TypeId} {k n : Nat} {w : World} {v : Value} {cs : List Value} (h : SO P e k w v n cs) : SO (fun b => b < w.heap.size) e k w v n cs := by
  obtain ⟨h0, a, c, h1, h2, h3, h4, h5⟩ := h
  exact ⟨h0, a, c, h1, h2, h3, h4, fun hn => by obtain ⟨b, cur, q1, q2, q3⟩ := h5 hn; exact ⟨b, cur, q1, lt_of_block q3.1, q3⟩⟩
theorem TrieAt.low {Q : Nat → Prop} {w : World} {t : Nat} {L : List Ent} {n : Int} {rt : Nat} {ve : Value} {nd mp : List Int → Option Nat} (h : TrieAt Q w t L n rt ve nd mp) : TrieAt (fun k => k < w.heap.size) w t L n rt ve nd mp :=
  { tr := h.tr
    tq := h.tr.lt
    root := h.root
    tree := { h.tree with
      node := fun p b e => ⟨h.tree.lt ⟨p, .inl e⟩, (h.tree.node p b e).2⟩
      kids := fun p m e => ⟨h.tree.lt ⟨p, .inr e⟩, (h.tree.kids p m e).2⟩ }
    dom := h.dom
    ents := by
      obtain ⟨vs, h1, h2, h3, h4⟩ := h.ents
      exact ⟨vs, h1, h2, fun k e => by obtain ⟨cur, hc⟩ := own_cells h2 e; exact lt_of_block hc, fun i x p q1 q2 => ⟨(h4 i x p q1 q2).1.low, (h4 i x p q1 q2).2.low⟩⟩ }
end Go.Proofs.Ytnnijcafnhhnoaa
