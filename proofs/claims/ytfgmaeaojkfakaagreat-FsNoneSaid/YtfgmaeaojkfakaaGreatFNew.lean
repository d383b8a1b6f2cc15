/-
  LAYER 1 (fs): New; the block that a file system is; isMade, Dead, Ops, survivors.
-/
import Derived.Test.YtfgmaeaojkfakaaGreatFPlan
namespace Go.Proofs.YtfgmaeaojkfakaaGreat
set_option maxRecDepth 100000
open Go.RowKit Go.Lib
attribute [local go_sem] Oper.semAt_some

/-- A plan that a file system holds: its five cells. -/
structure PlV where
  c : Int
  k : Value
  f : Value
  u : Value
  r : Int

/-- The block of a file system. -/
def FsAt (w : World) (q : Nat) (dead : Bool) (p : PlV) (ops : Int) (d s : Nat) (mv : Value) : Prop :=
  w.heap[q]? = some (.cells #[.bool true, .bool dead, .int .i64 p.c, p.k, p.f, p.u, .int .i64 p.r, .int .i64 ops, .map (some d), .map (some s), mv] 72 (0, 0))
section
variable {w : World} {q : Nat} {dead : Bool} {p : PlV} {ops : Int} {d s : Nat} {mv : Value}
theorem FsAt.made (h : FsAt w q dead p ops d s mv) : w.cell? ⟨q, 0, none⟩ = some (.bool true) := by simp [World.cell?, show _ = _ from h]
theorem FsAt.isDead (h : FsAt w q dead p ops d s mv) : w.cell? ⟨q, 1, none⟩ = some (.bool dead) := by simp [World.cell?, show _ = _ from h]
theorem FsAt.count (h : FsAt w q dead p ops d s mv) : w.cell? ⟨q, 7, none⟩ = some (.int .i64 ops) := by simp [World.cell?, show _ = _ from h]
theorem FsAt.dir (h : FsAt w q dead p ops d s mv) : w.cell? ⟨q, 8, none⟩ = some (.map (some d)) := by simp [World.cell?, show _ = _ from h]
theorem FsAt.safe (h : FsAt w q dead p ops d s mv) : w.cell? ⟨q, 9, none⟩ = some (.map (some s)) := by simp [World.cell?, show _ = _ from h]
theorem FsAt.moves (h : FsAt w q dead p ops d s mv) : w.cell? ⟨q, 10, none⟩ = some mv := by simp [World.cell?, show _ = _ from h]
theorem FsAt.free (h : FsAt w q dead p ops d s mv) (o : Nat) : w.frozen? ⟨q, o, none⟩ = false := by simp [World.frozen?, show _ = _ from h]
theorem FsAt.lt (h : FsAt w q dead p ops d s mv) : q < w.heap.size := lt_of_block h
theorem FsAt.kept {w' : World} {row : Option Nat} (h : FsAt w q dead p ops d s mv) (hg : w.grownBy w' row) (hne : row ≠ some q) : FsAt w' q dead p ops d s mv := (hg.block q h.lt (fun e => hne e.symm)).trans h

theorem isMade_fs (w : World) (h : FsAt w q dead p ops d s mv) :
    Calls Tryz.prog 54 #[.pointer (some ⟨q, 0, none⟩)] w fun e w' => e = .returned (.bool true) ∧ w = w' := by
  have h0 := h.made
  go_enter Tryz.func54, Tryz.ntmps54
  go_wp2
  go_ret
  exact ⟨rfl, rfl⟩

theorem dead_fs (w : World) (h : FsAt w q dead p ops d s mv) :
    Calls Tryz.prog 21 #[.pointer (some ⟨q, 0, none⟩)] w fun e w' => e = .returned (.bool dead) ∧ w = w' := by
  have h1 := h.isDead
  go_enter Tryz.func21, Tryz.ntmps21
  go_wp2_with (go_at_call 54; refine (isMade_fs _ h).mono ?_; rintro e w' ⟨rfl, rfl⟩)
  go_ret
  exact ⟨rfl, rfl⟩
end

theorem survivors_any (k n : Int) (hn : 0 ≤ n) (hm : n < 4611686018427387904) (hk : k ≤ 9223372036854775807) (w : World) :
    Calls Tryz.prog 88 #[.int .i64 k, .int .i64 n] w fun e w' => e = .returned (.int .i64 (if k < 0 then n else k % (n + 1))) ∧ w = w' := by
  by_cases h : k < 0
  · go_enter Tryz.func88, Tryz.ntmps88
    go_wp2
    go_ret
    exact ⟨rfl, rfl⟩
  · go_enter Tryz.func88, Tryz.ntmps88
    go_wp2
    go_ret
    exact ⟨rfl, rfl⟩

theorem rowMono {W : World} {B B' n : Nat} {v : Value} {xs : List Value} (h : W.ownsRow B 3 1 v n xs) (hB : B' ≤ B) : W.ownsRow B' 3 1 v n xs := by
  obtain ⟨q1, q2 | ⟨g, cap, cur, q3, q4, q5⟩⟩ := h
  · exact ⟨q1, .inl q2⟩
  · exact ⟨q1, .inr ⟨g, cap, cur, q3, by omega, q5⟩⟩

set_option maxHeartbeats 4000000 in
theorem new_any (vk vf vu : Value) (p : Pl) (w : World) (hk : Ints w vk p.keep) (hf : Ints w vf p.fail) (hu : Ints w vu p.full)
    (lk : p.keep.length * 8 ≤ 140737488351232) (lf : p.fail.length * 8 ≤ 140737488351232) (lu : p.full.length * 8 ≤ 140737488351232) :
    Calls Tryz.prog 12 #[.agg #[.int .i64 p.crash, vk, vf, vu, .int .i64 p.room]] w fun e w' => ∃ (q d s : Nat) (k' f' u' : Value), e = .returned (.pointer (some ⟨q, 0, none⟩)) ∧ FsAt w' q false ⟨p.crash, k', f', u', p.room⟩ 0 d s (.slice none 0 0) ∧
      w'.heap[d]? = some (.map #[] 0) ∧ w'.heap[s]? = some (.map #[] 0) ∧ d ≠ s ∧ w.heap.size ≤ q ∧ w.heap.size ≤ d ∧ w.heap.size ≤ s ∧
      w'.ownsRow w.heap.size 3 1 k' p.keep.length (p.keep.map intV) ∧ w'.ownsRow w.heap.size 3 1 f' p.fail.length ((inOrd p.fail).map intV) ∧ w'.ownsRow w.heap.size 3 1 u' p.full.length ((inOrd p.full).map intV) ∧ w.grownBy w' none := by
  have hP := ownPlan_any vk vf vu p _ (hk.all (World.grownBy_alloc w (.cells #[.int .i64 p.crash, vk, vf, vu, .int .i64 p.room] 24) none)) (hf.all (World.grownBy_alloc w _ none)) (hu.all (World.grownBy_alloc w _ none)) lk lf lu
  have hmm : ∀ (t : TypeId) (w : World), (Instr.makeMap t none).run Tryz.prog w = .ok (.map (some w.heap.size)) (w.alloc (.map #[] 0)) := fun _ _ => rfl
  rw [World.size_alloc] at hP
  go_enter Tryz.func12, Tryz.ntmps12
  go_wp2_with (go_at_call 37; refine hP.mono ?_; clear hP; rintro e w1 ⟨k', f', u', rfl, ok, of, ou, g1⟩; obtain ⟨bk, dk, rfl⟩ := rowForm ok; obtain ⟨bf, df, rfl⟩ := rowForm of; obtain ⟨bu, du, rfl⟩ := rowForm ou)
  have gw1 : w.grownBy w1 none := (World.grownBy_alloc w _ none).trans g1
  have hs1 := gw1.size
  obtain ⟨W3, hW3⟩ : ∃ W3, W3 = ((w1.alloc (.map #[] 0)).alloc (.map #[] 0)).alloc (.cells #[.bool true, .bool false, .int .i64 p.crash, .slice bk p.keep.length dk, .slice bf p.fail.length df, .slice bu p.full.length du, .int .i64 p.room, .int .i64 0, .map (some w1.heap.size), .map (some (w1.heap.size + 1)), .slice none 0 0] 72) := ⟨_, rfl⟩
  rw [← hW3]
  have g3 : w1.grownBy W3 none := by rw [hW3]; exact galloc (galloc (World.grownBy_alloc w1 _ none) _) _
  have s1 : (w1.alloc (.map #[] 0)).heap.size = w1.heap.size + 1 := World.size_alloc ..
  have s2 : ((w1.alloc (.map #[] 0)).alloc (.map #[] 0)).heap.size = w1.heap.size + 1 + 1 := by rw [World.size_alloc, World.size_alloc]
  have hD : W3.heap[w1.heap.size]? = some (.map #[] 0) := by
    rw [hW3]
    exact ((galloc (World.grownBy_alloc (w1.alloc (.map #[] 0)) (.map #[] 0) none) _).block w1.heap.size (by rw [s1]; omega) (by simp)).trans (World.alloc_heap_new w1 _)
  have hS : W3.heap[w1.heap.size + 1]? = some (.map #[] 0) := by
    rw [hW3]
    have h := World.alloc_heap_new (w1.alloc (.map #[] 0)) (.map #[] 0)
    rw [s1] at h
    exact ((World.grownBy_alloc ((w1.alloc (.map #[] 0)).alloc (.map #[] 0)) _ none).block (w1.heap.size + 1) (by rw [s2]; omega) (by simp)).trans h
  have hQ : FsAt W3 (w1.heap.size + 1 + 1) false ⟨p.crash, .slice bk p.keep.length dk, .slice bf p.fail.length df, .slice bu p.full.length du, p.room⟩ 0 w1.heap.size (w1.heap.size + 1) (.slice none 0 0) := by
    unfold FsAt
    rw [hW3]
    have h := World.alloc_heap_new ((w1.alloc (.map #[] 0)).alloc (.map #[] 0)) (.cells #[.bool true, .bool false, .int .i64 p.crash, .slice bk p.keep.length dk, .slice bf p.fail.length df, .slice bu p.full.length du, .int .i64 p.room, .int .i64 0, .map (some w1.heap.size), .map (some (w1.heap.size + 1)), .slice none 0 0] 72)
    rw [s2] at h
    exact h
  have n1 : ∀ v : Value, v.ownBlock = none ∨ v.ownBlock ≠ none := fun v => by cases v.ownBlock <;> simp
  go_ret
  exact ⟨_, _, _, _, _, _, rfl, hQ, hD, hS, by omega, by omega, by omega, by omega, rowMono (ok.kept g3 (n1 _)) (by omega), rowMono (of.kept g3 (n1 _)) (by omega), rowMono (ou.kept g3 (n1 _)) (by omega), gw1.trans g3⟩
end Go.Proofs.YtfgmaeaojkfakaaGreat
