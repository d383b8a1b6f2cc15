/-
  LAYER 7 (weight): the chapter's examples hold.
-/
import Derived.Test.YtjdpnklnhiigpaaWImp
import Derived.Test.YtjdpnklnhiigpaaWReadE
namespace Go.Proofs.Ytjdpnklnhiigpaa
set_option maxRecDepth 100000
open Go.RowKit Go.Lib
attribute [local go_sem] Oper.semAt_some

/-- '[.1C47.0020.0002]'. -/
def awS : ByteArray := ⟨#[91, 46, 49, 67, 52, 55, 46, 48, 48, 50, 48, 46, 48, 48, 48, 50, 93]⟩
@[go_sem high] theorem fold_awS : (⟨#[91, 46, 49, 67, 52, 55, 46, 48, 48, 50, 48, 46, 48, 48, 48, 50, 93]⟩ : ByteArray) = awS := rfl
theorem awS_show : (⟨(showL 7239 32 2 false).toArray⟩ : ByteArray) = awS := by
  have h : showL 7239 32 2 false = [91, 46, 49, 67, 52, 55, 46, 48, 48, 50, 48, 46, 48, 48, 48, 50, 93] := by decide +kernel
  rw [h]; rfl
theorem awS_form : formOf awS = true := by decide +kernel
theorem awS_rd : rdS awS 2 4 = 7239 ∧ rdS awS 7 4 = 32 ∧ rdS awS 12 4 = 2 ∧ (bAt awS 1 == 42) = false := by decide +kernel

theorem aw_show (w : World) : Calls Try.prog 13 #[.agg #[.int .i64 7239, .int .i64 32, .int .i64 2, .bool false]] w fun e w' => e = .returned (.string awS) ∧ w.grownBy w' none := by
  have h := show_ok 7239 32 2 false w (by decide) (by decide) (by decide)
  rw [awS_show] at h
  exact h
theorem aw_read (w : World) : Calls Try.prog 15 #[.string awS] w fun e w' => e = .returned (.tuple #[.agg #[.int .i64 7239, .int .i64 32, .int .i64 2, .bool false], .int .i64 17, .int .i64 0]) ∧ w.grownBy w' none := by
  have h := read_long awS (by decide +kernel) (by decide +kernel) w
  rw [awS_form, if_pos rfl] at h
  have e : rdEl awS = ⟨7239, 32, 2, false⟩ := by
    unfold rdEl
    rw [awS_rd.1, awS_rd.2.1, awS_rd.2.2.1, awS_rd.2.2.2]
    rfl
  rw [e, show elCheck ⟨7239, 32, 2, false⟩ = 0 by decide, if_pos rfl] at h
  exact h

def twoCells : Array Value := #[.int .i64 64320, .int .i64 32, .int .i64 2, .bool false, .int .i64 52736, .int .i64 0, .int .i64 0, .bool false]
theorem TwoAt.cell {w : World} {g : Nat} (h : TwoAt w g) {i : Nat} {v : Value} (hv : twoCells[i]? = some v) : w.cell? ⟨g, i, none⟩ = some v := by
  have h2 : w.heap[g]? = some (.cells twoCells 23 (0, 0)) := h
  simp [World.cell?, h2, hv]
theorem TwoAt.lt {w : World} {g : Nat} (h : TwoAt w g) : g < w.heap.size := lt_of_block h
theorem TwoAt.kept {w w' : World} {g : Nat} (h : TwoAt w g) (hg : w.grownBy w' none) : TwoAt w' g := (hg.block g h.lt (by simp)).trans h

set_option maxHeartbeats 2000000 in
theorem wawake_any (w : World) : Calls Try.prog 6 #[] w fun e w' => e = .returned (.bool true) ∧ w.grownBy w' none := by
  have hS := fun w => aw_show w
  have hRd := fun w => aw_read w
  obtain ⟨A, hA⟩ : ∃ A, A = awS := ⟨_, rfl⟩
  rw [← hA] at hS hRd
  have hbe : (A.toList == awS.toList) = true := by rw [hA]; simp
  clear hA
  go_enter Try.func6, Try.ntmps6
  go_wp2_with (first
    | (go_at_call 17; refine (unified_any _).mono ?_; rintro e w1 ⟨rfl, hU, g1⟩)
    | (go_at_call 19; refine (implicit_uni _ _ hU).mono ?_; rintro e w2 ⟨q, rfl, hT, g2⟩)
    | (go_at_call 13; refine (hS _).mono ?_; rintro e w3 ⟨rfl, g3⟩)
    | (go_at_call 15; refine (hRd _).mono ?_; rintro e w4 ⟨rfl, g4⟩; have hT4 := (hT.kept g3).kept g4; have c0 := hT4.cell (i := 0) (v := .int .i64 64320) rfl; have c1 := hT4.cell (i := 1) (v := .int .i64 32) rfl; have c2 := hT4.cell (i := 2) (v := .int .i64 2) rfl; have c3 := hT4.cell (i := 3) (v := .bool false) rfl; have c4 := hT4.cell (i := 4) (v := .int .i64 52736) rfl; have ql := hT4.lt; clear hT4))
  go_ret
  exact ⟨rfl, galloc (((g1.trans g2).trans g3).trans g4) _⟩
end Go.Proofs.Ytjdpnklnhiigpaa
