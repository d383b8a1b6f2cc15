/-
  LAYER 4 (utf): the statements' awake.
-/
import Derived.Test.YtmpipgjdnpgemaaUDecode
import Derived.Test.YtmpipgjdnpgemaaULast
namespace Go.Proofs.Ytmpipgjdnpgemaa
set_option maxRecDepth 100000
open Go.RowKit Go.Lib

theorem c1 : tot [97, 255] = 1 := by decide
theorem c2 : tot [226, 130, 172] = 3 := by decide
theorem c3 : runes [226, 130, 172] = [8364] := by decide
theorem c4 : lastv [97, 226, 130, 172] = some (8364, 3) := by decide

theorem a1 (w : World) : Calls Try.prog 9 #[.string ⟨#[97, 255]⟩] w fun e w' => e = .returned (.tuple #[.int .i64 1, .int .i64 40]) ∧ Below w.heap.size w w' := by
  have h := check_bad ⟨#[97, 255]⟩ w (by decide) (by decide)
  simp only [c1] at h
  exact h
theorem a2 (w : World) : Calls Try.prog 11 #[.string ⟨#[226, 130, 172]⟩] w fun e w' => (∃ b off c, e = .returned (.tuple #[.slice (some ⟨b, off, none⟩) 1 c, .int .i64 0, .int .i64 0]) ∧ w'.cell? ⟨b, off, none⟩ = some (.int .i32 8364)) ∧ Below w.heap.size w w' := by
  refine (decode_ok ⟨#[226, 130, 172]⟩ w (by decide) (by decide)).mono ?_
  simp only [c3]
  rintro e w' ⟨v, rfl, hR, hb⟩
  refine ⟨?_, hb⟩
  rcases hR with ⟨_, h⟩ | ⟨b, off, cap, rfl, _, _, hc⟩
  · cases h
  · exact ⟨b, off, cap, rfl, by have := hc 0 _ rfl; simpa using this⟩
theorem a3 (w : World) : Calls Try.prog 16 #[.string ⟨#[97, 226, 130, 172]⟩, .int .i64 4] w fun e w' => e = .returned (.tuple #[.int .i32 8364, .int .i64 3, .int .i64 0]) ∧ Below w.heap.size w w' :=
  lastc_ok ⟨#[97, 226, 130, 172]⟩ 4 8364 3 w (by decide) (by decide) c4

set_option maxRecDepth 100000 in
set_option maxHeartbeats 1000000 in
theorem awake_any (w : World) : Calls Try.prog 8 #[] w fun e w' => e = .returned (.bool true) ∧ Below w.heap.size w w' := by
  go_enter Try.func8, Try.ntmps8
  go_wp2_with (first
    | (go_at_call 9; refine (a1 _).mono ?_; rintro e w1 ⟨rfl, hb1⟩)
    | (go_at_call 11; refine (a2 _).mono ?_; rintro e w2 ⟨⟨b, off, c, rfl, hc⟩, hb2⟩; have hlt := World.block_lt_of_cell? w2 _ hc)
    | (go_at_call 16; refine (a3 _).mono ?_; rintro e w3 ⟨rfl, hb3⟩; have hc3 := (hb3.cell (p := ⟨b, off, none⟩) hlt).trans hc))
  go_ret
  exact ⟨rfl, (hb1.trans (hb2.mono hb1.size)).trans (hb3.mono (Nat.le_trans hb1.size hb2.size))⟩
end Go.Proofs.Ytmpipgjdnpgemaa
