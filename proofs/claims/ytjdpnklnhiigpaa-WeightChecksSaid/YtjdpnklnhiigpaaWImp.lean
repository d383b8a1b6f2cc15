/-
  LAYER 7 (weight): rangeOf, primaries, Implicit of the example; the chapter's example 1.
-/
import Derived.Test.YtjdpnklnhiigpaaWUni
import Derived.Deep.DeepCutAuto
namespace Go.Proofs.Ytjdpnklnhiigpaa
set_option maxRecDepth 100000
open Go.RowKit Go.Lib
attribute [local go_sem] Oper.semAt_some

def ImpAt (w : World) (q : Nat) (f t b : Int) (wh : Bool) : Prop := w.heap[q]? = some (.cells #[.int .i32 f, .int .i32 t, .int .i64 b, .bool wh] 40 (0, 0))
section
variable {w : World} {q : Nat} {f t b : Int} {wh : Bool}
theorem ImpAt.c0 (h : ImpAt w q f t b wh) : w.cell? ⟨q, 0, none⟩ = some (.int .i32 f) := by simp [World.cell?, show _ = _ from h]
theorem ImpAt.c1 (h : ImpAt w q f t b wh) : w.cell? ⟨q, 1, none⟩ = some (.int .i32 t) := by simp [World.cell?, show _ = _ from h]
theorem ImpAt.c2 (h : ImpAt w q f t b wh) : w.cell? ⟨q, 2, none⟩ = some (.int .i64 b) := by simp [World.cell?, show _ = _ from h]
theorem ImpAt.c3 (h : ImpAt w q f t b wh) : w.cell? ⟨q, 3, none⟩ = some (.bool wh) := by simp [World.cell?, show _ = _ from h]
theorem ImpAt.free (h : ImpAt w q f t b wh) (o : Nat) : w.frozen? ⟨q, o, none⟩ = false := by simp [World.frozen?, show _ = _ from h]
theorem ImpAt.lt (h : ImpAt w q f t b wh) : q < w.heap.size := lt_of_block h
theorem ImpAt.kept {w' : World} {row : Option Nat} (h : ImpAt w q f t b wh) (hg : w.grownBy w' row) (hne : row ≠ some q) : ImpAt w' q f t b wh := (hg.block q h.lt (fun e => hne e.symm)).trans h
end
theorem gown {W V : World} {k : Nat} (h : W.grownBy V none) (hk : W.heap.size ≤ k) (a b c d : Value) : W.grownBy ((((V.setCell ⟨k, 0, none⟩ a).setCell ⟨k, 1, none⟩ b).setCell ⟨k, 2, none⟩ c).setCell ⟨k, 3, none⟩ d) none :=
  gnew h (gset (gset (gset (gset (World.grownBy.refl V (some k)) 0 a) 1 b) 2 c) 3 d) (fun r e => by cases e; exact .inl hk)

set_option maxHeartbeats 2000000 in
theorem rangeOf_uni (g : Nat) (w : World) (hU : UniAt w g) :
    Calls Try.prog 32 #[.int .i32 19968, .slice (some ⟨g, 0, none⟩) 4 4] w fun e w' => e = .returned (.agg #[.int .i32 19968, .int .i32 40917, .int .i64 64320, .bool false]) ∧ w.grownBy w' none := by
  have gA := galloc (World.grownBy_alloc w (.cells #[.int .i32 19968] 21) none) (.cells #[.int .i32 0, .int .i32 0, .int .i64 0, .bool false] 40)
  have hB : ((w.alloc (.cells #[.int .i32 19968] 21)).alloc (.cells #[.int .i32 0, .int .i32 0, .int .i64 0, .bool false] 40)).cell? ⟨w.heap.size, 0, none⟩ = some (.int .i32 19968) := by
    have := (World.grownBy_alloc (w.alloc (.cells #[.int .i32 19968] 21)) (.cells #[.int .i32 0, .int .i32 0, .int .i64 0, .bool false] 40) none).cell (v := .int .i32 19968) (a := ⟨w.heap.size, 0, none⟩) (by have h := World.alloc_heap_new w (.cells #[.int .i32 19968] 21); unfold World.cell?; dsimp only; rw [h]; rfl) (by simp)
    exact this
  have hR : ImpAt ((w.alloc (.cells #[.int .i32 19968] 21)).alloc (.cells #[.int .i32 0, .int .i32 0, .int .i64 0, .bool false] 40)) (w.heap.size + 1) 0 0 0 false := by
    have := World.alloc_heap_new (w.alloc (.cells #[.int .i32 19968] 21)) (.cells #[.int .i32 0, .int .i32 0, .int .i64 0, .bool false] 40)
    rw [World.size_alloc] at this
    exact this
  obtain ⟨W, hW⟩ : ∃ W, W = ((w.alloc (.cells #[.int .i32 19968] 21)).alloc (.cells #[.int .i32 0, .int .i32 0, .int .i64 0, .bool false] 40)) := ⟨_, rfl⟩
  rw [← hW] at gA hB hR
  have hUW := hU.kept gA (by simp)
  go_enter Try.func32, Try.ntmps32
  go_upto_region 1 with fail
  rw [← hW]
  clear hW
  go_wp2_with (go_at_call 35; refine (index_uni _ _ _ hB hUW).mono ?_; rintro e w2 ⟨rfl, g2⟩; have hU2 := hUW.kept g2 (by simp); have R2 := hR.kept g2 (by simp); have c0 := hU2.cell (i := 4) (v := .int .i32 19968) rfl; have c1 := hU2.cell (i := 5) (v := .int .i32 40917) rfl; have c2 := hU2.cell (i := 6) (v := .int .i64 64320) rfl; have c3 := hU2.cell (i := 7) (v := .bool false) rfl; have f0 := R2.free 0; have f1 := R2.free 1; have f2 := R2.free 2; have f3 := R2.free 3; have d0 := R2.c0; have d1 := R2.c1; have d2 := R2.c2; have d3 := R2.c3)
  have g3 := gown (gA.trans g2) (k := w.heap.size + 1) (by omega) (.int .i32 19968) (.int .i32 40917) (.int .i64 64320) (.bool false)
  have R3 : ImpAt _ _ 19968 40917 64320 false := heap_setCell_same _ (w.heap.size + 1) 3 _ _ (.bool false) (heap_setCell_same _ _ 2 _ _ (.int .i64 64320) (heap_setCell_same _ _ 1 _ _ (.int .i32 40917) (heap_setCell_same w2 _ 0 _ _ (.int .i32 19968) R2)))
  obtain ⟨X, hX⟩ : ∃ X, X = (((w2.setCell ⟨w.heap.size + 1, 0, none⟩ (.int .i32 19968)).setCell ⟨w.heap.size + 1, 1, none⟩ (.int .i32 40917)).setCell ⟨w.heap.size + 1, 2, none⟩ (.int .i64 64320)).setCell ⟨w.heap.size + 1, 3, none⟩ (.bool false) := ⟨_, rfl⟩
  rw [← hX] at R3 g3 ⊢
  clear hX
  have b0 := R3.c0
  have b1 := R3.c1
  have b2 := R3.c2
  have b3 := R3.c3
  refine bodyPost_ret (v := .agg #[.int .i32 19968, .int .i32 40917, .int .i64 64320, .bool false]) (by simp [results, Try.results32, go_sem, b0, b1, b2, b3]) rfl ?_
  exact ⟨rfl, g3⟩

set_option maxHeartbeats 2000000 in
theorem primaries_uni (w : World) : Calls Try.prog 31 #[.int .i32 19968, .agg #[.int .i32 19968, .int .i32 40917, .int .i64 64320, .bool false]] w fun e w' => e = .returned (.tuple #[.int .i64 64320, .int .i64 52736]) ∧ w.grownBy w' none := by
  have e1 : bits .and .i64 19968 32767 = 19968 := by decide +kernel
  have e2 : bits .or .i64 19968 32768 = 52736 := by decide +kernel
  go_enter Try.func31, Try.ntmps31
  go_wp2
  go_ret2
  exact ⟨rfl, World.grownBy_alloc w _ none⟩

/-- Two elements in a row. -/
def TwoAt (w : World) (q : Nat) : Prop := w.heap[q]? = some (.cells #[.int .i64 64320, .int .i64 32, .int .i64 2, .bool false, .int .i64 52736, .int .i64 0, .int .i64 0, .bool false] 23 (0, 0))

set_option maxHeartbeats 2000000 in
theorem implicit_uni (g : Nat) (w : World) (hU : UniAt w g) :
    Calls Try.prog 19 #[.int .i32 19968, .slice (some ⟨g, 0, none⟩) 4 4] w fun e w' => ∃ q, e = .returned (.slice (some ⟨q, 0, none⟩) 2 2) ∧ TwoAt w' q ∧ w.grownBy w' none := by
  go_enter Try.func19, Try.ntmps19
  go_wp2_with (first
    | (go_at_call 32; refine (rangeOf_uni _ _ hU).mono ?_; rintro e w2 ⟨rfl, g2⟩)
    | (go_at_call 31; refine (primaries_uni _).mono ?_; rintro e w3 ⟨rfl, g3⟩))
  go_ret
  exact ⟨_, rfl, World.alloc_heap_new w3 _, galloc (g2.trans g3) _⟩
end Go.Proofs.Ytjdpnklnhiigpaa
