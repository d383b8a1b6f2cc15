/-
  LAYER 4 (utf): the leaves: Scalar (both), goesOn, wide.
-/
import Derived.Test.YtmpipgjdnpgemaaUPure
import Derived.Test.YtmpipgjdnpgemaaRows
import Derived.Test.YtmpipgjdnpgemaaShelf
import Derived.WalkLawsBesides
import Derived.WalkSpells
import Derived.BigQuiet
namespace Go.Proofs.Ytmpipgjdnpgemaa
set_option maxRecDepth 100000
open Go.RowKit Go.Lib

set_option maxHeartbeats 1000000 in
theorem scalar_utf.Scalar (r : Int) (w : World) : Calls Try.prog 23 #[.int .i32 r] w fun e w' => e = .returned (.bool (scalar r)) ∧ w = w' := by
  by_cases h1 : 0 ≤ r
  all_goals by_cases h2 : r < 55296
  all_goals by_cases h3 : 57343 < r
  all_goals by_cases h4 : r ≤ 1114111
  all_goals (try omega)
  all_goals
    go_enter Try.func23, Try.ntmps23
    go_wp2
  all_goals
    go_ret
    simp [scalar, *]
set_option maxHeartbeats 1000000 in
theorem scalar_lecternref04.Scalar (r : Int) (w : World) : Calls Try.prog 24 #[.int .i32 r] w fun e w' => e = .returned (.bool (scalar r)) ∧ w = w' := by
  by_cases h1 : 0 ≤ r
  all_goals by_cases h2 : r < 55296
  all_goals by_cases h3 : 57343 < r
  all_goals by_cases h4 : r ≤ 1114111
  all_goals (try omega)
  all_goals
    go_enter Try.func24, Try.ntmps24
    go_wp2
  all_goals
    go_ret
    simp [scalar, *]

theorem scalar_any (r : Int) (w : World) : Calls Try.prog 23 #[.int .i32 r] w fun e w' => e = .returned (.bool (scalar r)) ∧ w = w' := scalar_utf.Scalar r w
theorem rscalar_any (r : Int) (w : World) : Calls Try.prog 24 #[.int .i32 r] w fun e w' => e = .returned (.bool (scalar r)) ∧ w = w' := scalar_lecternref04.Scalar r w

theorem cont_eq (b : UInt8) : ((b.toNat : Int) / 64 == 2) = cont b := by
  rw [Bool.eq_iff_iff]
  simp [cont]
  omega

set_option maxHeartbeats 1000000 in
theorem goesOn_any (b : UInt8) (w : World) : Calls Try.prog 39 #[.int .u8 (b.toNat : Int)] w fun e w' => e = .returned (.bool (cont b)) ∧ w = w' := by
  have hb := b.toNat_lt
  go_enter Try.func39, Try.ntmps39
  go_wp2
  go_ret
  exact ⟨congrArg (fun x => Ending.returned (Value.bool x)) (cont_eq b), rfl⟩

set_option maxHeartbeats 1000000 in
theorem wide_any (r : Nat) (w : World) : Calls Try.prog 47 #[.int .i32 (r : Int)] w fun e w' => e = .returned (.int .i64 (wideOf r : Int)) ∧ w = w' := by
  by_cases h1 : (r : Int) < 128
  all_goals by_cases h2 : (r : Int) < 2048
  all_goals by_cases h3 : (r : Int) < 65536
  all_goals (try omega)
  all_goals
    go_enter Try.func47, Try.ntmps47
    go_wp2
  all_goals
    go_ret
    simp only [wideOf]
    refine ⟨?_, trivial⟩
    first
      | (rw [if_pos (by omega)]; rfl)
      | (rw [if_neg (by omega), if_pos (by omega)]; rfl)
      | (rw [if_neg (by omega), if_neg (by omega), if_pos (by omega)]; rfl)
      | (rw [if_neg (by omega), if_neg (by omega), if_neg (by omega)]; rfl)
end Go.Proofs.Ytmpipgjdnpgemaa
