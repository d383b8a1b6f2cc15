/-
  LAYER 1 (fs): the law FsNone, walked.
-/
import Derived.Test.YtfgmaeaojkfakaaGreatFAwake
import Derived.Test.YtfgmaeaojkfakaaGreatFArgs
namespace Go.Proofs.YtfgmaeaojkfakaaGreat
set_option maxRecDepth 100000
open Go.RowKit Go.Lib
attribute [local go_sem] Oper.semAt_some

theorem NonePtr.grown {w w' : World} {po : Option Addr} (h : NonePtr w po) (g : w.grownBy w' none) : NonePtr w' po :=
  h.imp id (fun ⟨z, e, hz⟩ => ⟨z, e, g.cell hz (by simp)⟩)

set_option maxHeartbeats 8000000 in
theorem FsNone_walk (W : World) (k : Int) (nm nt : ByteArray) (da : Option Addr) (dn dc : Nat) (n : Int) (c r : Int) (a1 : Option Addr) (n1 c1 : Nat) (a2 : Option Addr) (n2 c2 : Nat) (a3 : Option Addr) (n3 c3 : Nat)
    (pc pr : Int) (b1 : Option Addr) (m1 d1 : Nat) (b2 : Option Addr) (m2 d2 : Nat) (b3 : Option Addr) (m3 d3 : Nat) :
    Calls Tryz.prog 8 #[.agg #[.int .i64 k, .string nm, .string nt, .slice da dn dc, .int .i64 n, .int .i64 c, .slice a1 n1 c1, .slice a2 n2 c2, .slice a3 n3 c3, .int .i64 r], .agg #[.int .i64 pc, .slice b1 m1 d1, .slice b2 m2 d2, .slice b3 m3 d3, .int .i64 pr]] W fun e W' => e = .returned (.bool true) ∧ Below W.heap.size W W' := by
  have hA := fun w => fawake_any w
  go_enter Tryz.func8, Tryz.ntmps8
  go_wp2_with (go_at_call 10; refine (hA _).mono ?_; clear hA; rintro e w1 ⟨rfl, g1⟩)
  have e0 := World.alloc_heap_new W (.cells #[.int .i64 k, .string nm, .string nt, .slice da dn dc, .int .i64 n, .int .i64 c, .slice a1 n1 c1, .slice a2 n2 c2, .slice a3 n3 c3, .int .i64 r] 34)
  have h0 := World.grownBy_alloc W (.cells #[.int .i64 k, .string nm, .string nt, .slice da dn dc, .int .i64 n, .int .i64 c, .slice a1 n1 c1, .slice a2 n2 c2, .slice a3 n3 c3, .int .i64 r] 34) none
  have s0 : (W.alloc (.cells #[.int .i64 k, .string nm, .string nt, .slice da dn dc, .int .i64 n, .int .i64 c, .slice a1 n1 c1, .slice a2 n2 c2, .slice a3 n3 c3, .int .i64 r] 34)).heap.size = W.heap.size + 1 := by simp
  generalize W.alloc (.cells #[.int .i64 k, .string nm, .string nt, .slice da dn dc, .int .i64 n, .int .i64 c, .slice a1 n1 c1, .slice a2 n2 c2, .slice a3 n3 c3, .int .i64 r] 34) = W0 at *
  have e1 := World.alloc_heap_new W0 (.cells #[.int .i64 pc, .slice b1 m1 d1, .slice b2 m2 d2, .slice b3 m3 d3, .int .i64 pr] 24)
  have h1 := World.grownBy_alloc W0 (.cells #[.int .i64 pc, .slice b1 m1 d1, .slice b2 m2 d2, .slice b3 m3 d3, .int .i64 pr] 24) none
  generalize W0.alloc (.cells #[.int .i64 pc, .slice b1 m1 d1, .slice b2 m2 d2, .slice b3 m3 d3, .int .i64 pr] 24) = W1 at *
  have e2 := World.alloc_heap_new w1 (.cells #[.bool false, .bool false, .int .i64 0, .slice none 0 0, .slice none 0 0, .slice none 0 0, .int .i64 0, .int .i64 0, .map none, .map none, .slice none 0 0] 72)
  have h2 := World.grownBy_alloc w1 (.cells #[.bool false, .bool false, .int .i64 0, .slice none 0 0, .slice none 0 0, .slice none 0 0, .int .i64 0, .int .i64 0, .map none, .map none, .slice none 0 0] 72) none
  have s2 : (w1.alloc (.cells #[.bool false, .bool false, .int .i64 0, .slice none 0 0, .slice none 0 0, .slice none 0 0, .int .i64 0, .int .i64 0, .map none, .map none, .slice none 0 0] 72)).heap.size = w1.heap.size + 1 := by simp
  generalize w1.alloc (.cells #[.bool false, .bool false, .int .i64 0, .slice none 0 0, .slice none 0 0, .slice none 0 0, .int .i64 0, .int .i64 0, .map none, .map none, .slice none 0 0] 72) = W2 at *
  have e3 := World.alloc_heap_new W2 (.cells #[.pointer none, .pointer (some ⟨w1.heap.size, 0, none⟩)] 28)
  have h3 := World.grownBy_alloc W2 (.cells #[.pointer none, .pointer (some ⟨w1.heap.size, 0, none⟩)] 28) none
  generalize W2.alloc (.cells #[.pointer none, .pointer (some ⟨w1.heap.size, 0, none⟩)] 28) = W3 at *
  rw [s0] at e1
  rw [s2] at e3
  have gW3 : W.grownBy W3 none := (((h0.trans h1).trans g1).trans h2).trans h3
  have o3 : W3.heap[W.heap.size]? = _ := (((((h1.trans g1).trans h2).trans h3).block _ (by omega) (by simp)).trans e0)
  have p3 : W3.heap[W.heap.size + 1]? = _ := ((((g1.trans h2).trans h3).block _ (lt_of_block e1) (by simp)).trans e1)
  have z3 : W3.heap[w1.heap.size]? = _ := ((h3.block _ (lt_of_block e2) (by simp)).trans e2)
  clear e0 e1 e2 h0 h1 h2 h3 g1
  go_loopw [7, 8, 9, 10, 11, 19] (fun _ _ _ _ _ vi wr => ∃ i : Nat, vi = .int .i64 (i : Int) ∧ i ≤ 2 ∧ Hid (W3.grownBy wr none)) (fun _ _ _ _ _ vi _ => 2 - (RowKit.intOf vi).toNat)
  case atStart => exact ⟨0, rfl, by omega, Lib.hid (World.grownBy.refl _ _)⟩
  case round =>
    obtain ⟨i, rfl, hi, hG⟩ := hrel
    by_cases hlt : i < 2
    · have o4 := (hG.out.block _ (lt_of_block o3) (by simp)).trans o3
      have p4 := (hG.out.block _ (lt_of_block p3) (by simp)).trans p3
      have z4 := (hG.out.block _ (lt_of_block z3) (by simp)).trans z3
      have s4 := (hG.out.block _ (lt_of_block e3) (by simp)).trans e3
      obtain ⟨po, hpo, hN⟩ : ∃ po, wr.cell? ⟨w1.heap.size + 1, i, none⟩ = some (.pointer po) ∧ NonePtr wr po := by
        match i, hlt with
        | 0, _ => exact ⟨none, by simp [World.cell?, s4], .inl rfl⟩
        | 1, _ => exact ⟨some ⟨w1.heap.size, 0, none⟩, by simp [World.cell?, s4], .inr ⟨_, rfl, by simp [World.cell?, z4]⟩⟩
      have q1 : wr.cell? ⟨W.heap.size, 1, none⟩ = some (.string nm) := by simp [World.cell?, o4]
      have q2 : wr.cell? ⟨W.heap.size, 2, none⟩ = some (.string nt) := by simp [World.cell?, o4]
      have q3 : wr.cell? ⟨W.heap.size, 3, none⟩ = some (.slice da dn dc) := by simp [World.cell?, o4]
      have q4 : wr.cell? ⟨W.heap.size, 4, none⟩ = some (.int .i64 n) := by simp [World.cell?, o4]
      have y0 : wr.cell? ⟨W.heap.size + 1, 0, none⟩ = some (.int .i64 pc) := by simp [World.cell?, p4]
      have y1 : wr.cell? ⟨W.heap.size + 1, 1, none⟩ = some (.slice b1 m1 d1) := by simp [World.cell?, p4]
      have y2 : wr.cell? ⟨W.heap.size + 1, 2, none⟩ = some (.slice b2 m2 d2) := by simp [World.cell?, p4]
      have y3 : wr.cell? ⟨W.heap.size + 1, 3, none⟩ = some (.slice b3 m3 d3) := by simp [World.cell?, p4]
      have y4 : wr.cell? ⟨W.heap.size + 1, 4, none⟩ = some (.int .i64 pr) := by simp [World.cell?, p4]
      clear o4 p4 z4 s4 o3 p3 z3 e3
      go_wp2_with first
        | (go_at_call 17; refine (read_nobody _ _ _ _ _ (by assumption)).mono ?_; rintro e w' ⟨rfl, rfl⟩)
        | (go_at_call 19; refine (size_nobody _ _ _ (by assumption)).mono ?_; rintro e w' ⟨rfl, rfl⟩)
        | (go_at_call 31; refine (create_nobody _ _ _ (by assumption)).mono ?_; rintro e w' ⟨rfl, rfl⟩)
        | (go_at_call 32; refine (append_nobody _ _ _ _ _ _ (by assumption)).mono ?_; rintro e w' ⟨rfl, rfl⟩)
        | (go_at_call 33; refine (cut_nobody _ _ _ _ (by assumption)).mono ?_; rintro e w' ⟨rfl, rfl⟩)
        | (go_at_call 23; refine (sync_nobody _ _ _ (by assumption)).mono ?_; rintro e w' ⟨rfl, rfl⟩)
        | (go_at_call 34; refine (rename_nobody _ _ _ _ (by assumption)).mono ?_; rintro e w' ⟨rfl, rfl⟩)
        | (go_at_call 35; refine (remove_nobody _ _ _ (by assumption)).mono ?_; rintro e w' ⟨rfl, rfl⟩)
        | (go_at_call 24; refine (syncDir_nobody _ _ (by assumption)).mono ?_; rintro e w' ⟨rfl, rfl⟩)
        | (go_at_call 22; refine (files_nobody _ _ (by assumption)).mono ?_; rintro e w' ⟨rfl, rfl⟩)
        | (go_at_call 27; refine (safe_nobody _ _ (by assumption)).mono ?_; rintro e w' ⟨rfl, rfl⟩)
        | (go_at_call 28; refine (ops_nobody _ _ (by assumption)).mono ?_; rintro e w' ⟨rfl, rfl⟩)
        | (go_at_call 21; refine (dead_nobody _ _ (by assumption)).mono ?_; rintro e w' ⟨rfl, rfl⟩)
        | (go_at_call 36; refine (used_nobody _ _ (by assumption)).mono ?_; rintro e w' ⟨rfl, rfl⟩)
        | (go_at_call 29; refine (clone_nobody _ _ (by assumption)).mono ?_; rintro e w' ⟨rfl, rfl⟩)
        | (go_at_call 25; refine (start_nobody _ _ _ _ _ _ _ (by assumption)).mono ?_; rintro e w8 ⟨rfl, g8⟩; have hN8 := hN.grown g8; have hG8 := Lib.hid (hG.out.trans g8))
      exact ⟨⟨i + 1, by go_num, by omega, hG8⟩, by simp [RowKit.intOf]; omega⟩
    · obtain rfl : i = 2 := by omega
      go_wp2
      go_ret
      exact ⟨rfl, gbelow (gW3.trans hG.out) (Nat.le_refl _) (by simp)⟩
end Go.Proofs.YtfgmaeaojkfakaaGreat
