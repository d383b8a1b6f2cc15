/-
  LAYER 1 (fs): a search in a plan's sorted list.
-/
import Derived.Test.YtfgmaeaojkfakaaGreatFOps
namespace Go.Proofs.YtfgmaeaojkfakaaGreat
set_option maxRecDepth 100000
open Go.RowKit Go.Lib
attribute [local go_sem] Oper.semAt_some

theorem inOrd_sorted (zs : List Int) : (inOrd zs).Pairwise (· ≤ ·) := by
  have h := List.pairwise_mergeSort (le := fun x y : Int => decide (x ≤ y)) (fun a b c h1 h2 => by simp at *; omega) (fun a b => by simp; omega) zs
  exact h.imp (fun h => by simpa using h)
theorem inOrd_mem (zs : List Int) (x : Int) : (inOrd zs).contains x = zs.contains x := by
  have h : x ∈ inOrd zs ↔ x ∈ zs := by unfold inOrd; exact List.mem_mergeSort
  rw [Bool.eq_iff_iff]
  simp [h]

theorem search_own (B : Nat) (v : Value) (n : Nat) (zs : List Int) (x : Int) (w : World) (ho : w.ownsRow B 3 1 v n ((inOrd zs).map intV)) (hn : n = zs.length) (hsz : zs.length < 4611686018427387904) :
    Calls Tryz.prog 85 #[v, .int .i64 x] w fun e w' => e = .returned (.tuple #[.int .i64 (((inOrd zs).countP (· < x) : Nat) : Int), .bool (zs.contains x)]) ∧ ∃ m, w' = w.drewN m := by
  subst hn
  have h0 := ho
  obtain ⟨_, ⟨rfl, hn⟩ | ⟨g, cap, cur, rfl, hB, hgg, h1, h2, h3, h4⟩⟩ := ho
  · obtain rfl := List.length_eq_zero_iff.1 hn
    refine (Tryz.slices_BinarySearch_int_empty none 0 x w).mono ?_
    rintro e w' ⟨rfl, rfl⟩
    exact ⟨by simp [inOrd], 0, rfl⟩
  · have hq := Tryz.slices_BinarySearch_int g 0 zs.length cap (inOrd zs) x w (by rw [inOrd_length]; exact Nat.le_refl _) hsz (fun j hj => by
      rw [Nat.zero_add, World.ownsRow.cellAt h0 j (by rw [inOrd_length] at hj; simpa using hj)]
      simp [intV, List.getD_eq_getElem?_getD, List.getElem?_eq_getElem hj]) (by rw [List.take_of_length_le (by rw [inOrd_length]; exact Nat.le_refl _)]; exact inOrd_sorted zs)
    rw [List.take_of_length_le (by rw [inOrd_length]; exact Nat.le_refl _), inOrd_mem] at hq
    exact hq

section
variable {w : World} {q : Nat} {dead : Bool} {p : PlV} {ops : Int} {d s : Nat} {mv : Value}
theorem FsAt.full (h : FsAt w q dead p ops d s mv) : w.cell? ⟨q, 5, none⟩ = some p.u := by simp [World.cell?, show _ = _ from h]
theorem FsAt.fail (h : FsAt w q dead p ops d s mv) : w.cell? ⟨q, 4, none⟩ = some p.f := by simp [World.cell?, show _ = _ from h]
theorem FsAt.keep (h : FsAt w q dead p ops d s mv) : w.cell? ⟨q, 3, none⟩ = some p.k := by simp [World.cell?, show _ = _ from h]
theorem FsAt.crash (h : FsAt w q dead p ops d s mv) : w.cell? ⟨q, 2, none⟩ = some (.int .i64 p.c) := by simp [World.cell?, show _ = _ from h]
theorem FsAt.room (h : FsAt w q dead p ops d s mv) : w.cell? ⟨q, 6, none⟩ = some (.int .i64 p.r) := by simp [World.cell?, show _ = _ from h]

end
end Go.Proofs.YtfgmaeaojkfakaaGreat
