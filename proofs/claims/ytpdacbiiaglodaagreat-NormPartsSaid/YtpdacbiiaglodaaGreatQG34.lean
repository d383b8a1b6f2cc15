/-
  LAYER 4 (utf): the leaves: Scalar (both), goesOn, wide.
-/
import Derived.Test.YtpdacbiiaglodaaGreatQG05
import Derived.Test.YtpdacbiiaglodaaGreatRows
import Derived.Test.YtpdacbiiaglodaaGreatQG08
import Derived.WalkLawsBesides
import Derived.WalkSpells
import Derived.BigQuiet
import Derived.IntWalk
import Derived.Outline
import Derived.Defers
import Derived.Recover
import Derived.Laws.Pointers
import Derived.Maps.RangeWalk
import Derived.RangeFuncBox
import Derived.RangeFuncNested
import Derived.Test.YtpdacbiiaglodaaGreatQG06
import Derived.Test.YtpdacbiiaglodaaGreatQG07
import Derived.TacticsInMore
import Derived.BigRegionIn
import Derived.LoopIn
import Derived.LoopNIn
import Derived.OwnWalkIn
namespace Go.Proofs.YtpdacbiiaglodaaGreat.U
set_option maxRecDepth 100000
open Go.RowKit Go.Lib

set_option maxHeartbeats 1000000 in
theorem scalar_utf.Scalar (r : Int) (w : World) : Calls Tryz.prog 68 #[.int .i32 r] w fun e w' => e = .returned (.bool (scalar r)) ∧ w = w' := by
  by_cases h1 : 0 ≤ r
  all_goals by_cases h2 : r < 55296
  all_goals by_cases h3 : 57343 < r
  all_goals by_cases h4 : r ≤ 1114111
  all_goals (try omega)
  all_goals
    go_enter Tryz.func68, Tryz.ntmps68
    go_wp2
  all_goals
    go_ret
    simp [scalar, *]
set_option maxHeartbeats 1000000 in
theorem scalar_lecternref04.Scalar (r : Int) (w : World) : Calls Tryz.prog 33 #[.int .i32 r] w fun e w' => e = .returned (.bool (scalar r)) ∧ w = w' := by
  by_cases h1 : 0 ≤ r
  all_goals by_cases h2 : r < 55296
  all_goals by_cases h3 : 57343 < r
  all_goals by_cases h4 : r ≤ 1114111
  all_goals (try omega)
  all_goals
    go_enter Tryz.func33, Tryz.ntmps33
    go_wp2
  all_goals
    go_ret
    simp [scalar, *]

theorem scalar_any (r : Int) (w : World) : Calls Tryz.prog 68 #[.int .i32 r] w fun e w' => e = .returned (.bool (scalar r)) ∧ w = w' := scalar_utf.Scalar r w
theorem rscalar_any (r : Int) (w : World) : Calls Tryz.prog 33 #[.int .i32 r] w fun e w' => e = .returned (.bool (scalar r)) ∧ w = w' := scalar_lecternref04.Scalar r w

theorem cont_eq (b : UInt8) : ((b.toNat : Int) / 64 == 2) = cont b := by
  rw [Bool.eq_iff_iff]
  simp [cont]
  omega

set_option maxHeartbeats 1000000 in
theorem goesOn_any (b : UInt8) (w : World) : Calls Tryz.prog 165 #[.int .u8 (b.toNat : Int)] w fun e w' => e = .returned (.bool (cont b)) ∧ w = w' := by
  have hb := b.toNat_lt
  go_enter Tryz.func165, Tryz.ntmps165
  go_wp2
  go_ret
  exact ⟨congrArg (fun x => Ending.returned (Value.bool x)) (cont_eq b), rfl⟩

set_option maxHeartbeats 1000000 in
theorem wide_any (r : Nat) (w : World) : Calls Tryz.prog 166 #[.int .i32 (r : Int)] w fun e w' => e = .returned (.int .i64 (wideOf r : Int)) ∧ w = w' := by
  by_cases h1 : (r : Int) < 128
  all_goals by_cases h2 : (r : Int) < 2048
  all_goals by_cases h3 : (r : Int) < 65536
  all_goals (try omega)
  all_goals
    go_enter Tryz.func166, Tryz.ntmps166
    go_wp2
  all_goals
    go_ret
    simp only [wideOf]
    refine ⟨?_, trivial⟩
    first
      | (rw [if_pos (by omega)]; rfl)
      | (rw [if_neg (by omega), if_pos (by omega)]; rfl)
      | (rw [if_neg (by omega), if_neg (by omega), if_pos (by omega)]; rfl)
      | (rw [if_neg (by omega), if_neg (by omega), if_neg (by omega)]; rfl)
end Go.Proofs.YtpdacbiiaglodaaGreat.U

/-
  LAYER 4 (utf): first.
-/
namespace Go.Proofs.YtpdacbiiaglodaaGreat.U
set_option maxRecDepth 100000
open Go.RowKit Go.Lib

def onesN (a : Nat) : Nat := if a < 128 then 0 else if a < 192 then 1 else if a < 224 then 2 else if a < 240 then 3 else if a < 248 then 4 else if a < 252 then 5 else if a < 254 then 6 else if a < 255 then 7 else 8

theorem flip_num : ∀ a : Fin 256, bits .xor .u8 IntKind.u8.max (a.val : Int) = 255 - (a.val : Int) := by decide +kernel
theorem ones_num : ∀ a : Fin 256, (8 - (Lib.bitLen (255 - a.val) : Int)) = (onesN a.val : Int) := by decide +kernel

theorem lead_any (a : UInt8) (w : World) : Calls Tryz.prog 164 #[.int .u8 (bits .xor .u8 IntKind.u8.max (a.toNat : Int))] w fun e w' => e = .returned (.int .i64 (onesN a.toNat : Int)) ∧ w = w' := by
  have ha := a.toNat_lt
  rw [flip_num ⟨a.toNat, ha⟩, ← ones_num ⟨a.toNat, ha⟩]
  have h := Tryz.bits_LeadingZeros8 (255 - (a.toNat : Int)) w (by omega) (by omega)
  rw [show (255 - (a.toNat : Int)).toNat = 255 - a.toNat by omega] at h
  exact h.mono fun e w' ⟨h1, h2⟩ => ⟨h1, h2.symm⟩

theorem head (a : UInt8) (t : List UInt8) : ((onesN a.toNat = 1 ∨ onesN a.toNat = 5 ∨ onesN a.toNat = 6 ∨ onesN a.toNat = 7 ∨ onesN a.toNat = 8) ∧ dec (a :: t) = none) ∨
    (onesN a.toNat = 0 ∧ a.toNat < 128 ∧ dec (a :: t) = fin 1 (acc (a.toNat % 128) 0 t)) ∨ (onesN a.toNat = 2 ∧ dec (a :: t) = fin 2 (acc (a.toNat % 32) 1 t)) ∨
    (onesN a.toNat = 3 ∧ dec (a :: t) = fin 3 (acc (a.toNat % 16) 2 t)) ∨ (onesN a.toNat = 4 ∧ dec (a :: t) = fin 4 (acc (a.toNat % 8) 3 t)) := by
  have ha := a.toNat_lt
  simp only [dec]
  by_cases h1 : a.toNat < 128
  · right; left
    refine ⟨by rw [onesN, if_pos h1], h1, ?_⟩
    rw [if_pos h1, acc, fin, Nat.mod_eq_of_lt h1, scalar_small (by omega), wideOf, if_pos h1]
    rfl
  rw [if_neg h1]
  by_cases h2 : a.toNat < 192
  · left
    rw [if_pos h2]
    exact ⟨.inl (by rw [onesN, if_neg h1, if_pos h2]), rfl⟩
  rw [if_neg h2]
  by_cases h3 : a.toNat < 224
  · right; right; left
    rw [if_pos h3]
    refine ⟨by rw [onesN, if_neg h1, if_neg h2, if_pos h3], ?_⟩
    rw [show a.toNat - 192 = a.toNat % 32 by omega]
  rw [if_neg h3]
  by_cases h4 : a.toNat < 240
  · right; right; right; left
    rw [if_pos h4]
    refine ⟨by rw [onesN, if_neg h1, if_neg h2, if_neg h3, if_pos h4], ?_⟩
    rw [show a.toNat - 224 = a.toNat % 16 by omega]
  rw [if_neg h4]
  by_cases h5 : a.toNat < 248
  · right; right; right; right
    rw [if_pos h5]
    refine ⟨by rw [onesN, if_neg h1, if_neg h2, if_neg h3, if_neg h4, if_pos h5], ?_⟩
    rw [show a.toNat - 240 = a.toNat % 8 by omega]
  rw [if_neg h5]
  left
  refine ⟨?_, rfl⟩
  rw [onesN, if_neg h1, if_neg h2, if_neg h3, if_neg h4, if_neg h5]
  by_cases h6 : a.toNat < 252
  · rw [if_pos h6]; omega
  rw [if_neg h6]
  by_cases h7 : a.toNat < 254
  · rw [if_pos h7]; omega
  rw [if_neg h7]
  by_cases h8 : a.toNat < 255
  · rw [if_pos h8]; omega
  rw [if_neg h8]; omega

theorem and127 : ∀ a : Fin 256, bits .and .u8 (a.val : Int) 127 = ((a.val % 128 : Nat) : Int) := by decide +kernel
theorem pow_two {j : Nat} (h : j ≤ 2) : 128 * 64 ^ j ≤ 524288 := by
  rcases (by omega : j = 0 ∨ j = 1 ∨ j = 2) with rfl | rfl | rfl <;> decide

/-- What first answers: the scalar and its length, or a fault that tells the place. -/
def FirstPost (o : Option (Nat × Nat)) (k : Nat) (w : World) (e : Ending) (w' : World) : Prop :=
  e = (match o with
    | some (r, n) => .returned (.tuple #[.int .i32 (r : Int), .int .i64 (n : Int)])
    | none => .panicked [{ v := .iface 196 (.int .i64 (k : Int)), recovered := false }]) ∧ ∃ m, w' = w.drewN m

theorem str_drop (s : ByteArray) (k : Nat) (hk : k < s.size) : s.data.toList.drop k = s[k] :: s.data.toList.drop (k + 1) := by
  rw [List.drop_eq_getElem_cons (by simpa using hk)]; rfl

set_option maxRecDepth 100000 in
set_option maxHeartbeats 4000000 in
theorem first_any (s : ByteArray) (k : Nat) (o : Option (Nat × Nat)) (w : World) (hs : s.size ≤ maxLen) (hk : k < s.size) (hd : dec (s.data.toList.drop k) = o) :
    Calls Tryz.prog 136 #[.string s, .int .i64 (k : Int)] w (FirstPost o k w) := by
  unfold maxLen at hs
  rw [str_drop s k hk] at hd
  obtain ⟨a, ha⟩ : ∃ a, s[k] = a := ⟨_, rfl⟩
  rw [ha] at hd
  rcases head a (s.data.toList.drop (k + 1)) with ⟨ho, hn⟩ | hgood
  · rw [hn] at hd
    subst hd
    clear hn
    obtain ⟨v, hv⟩ : ∃ v, onesN a.toNat = v := ⟨_, rfl⟩
    rw [hv] at ho
    have hl := fun w => lead_any a w
    rw [hv] at hl
    clear hv
    rcases ho with rfl | rfl | rfl | rfl | rfl
    all_goals
      go_enter Tryz.func136, Tryz.ntmps136
      go_wp2_with (go_at_call 164; refine (hl _).mono ?_; rintro e w' ⟨rfl, rfl⟩)
      exact ⟨rfl, rfl, ⟨0, rfl⟩⟩
  · have ha8 := a.toNat_lt
    obtain ⟨v, hv⟩ : ∃ v, onesN a.toNat = v := ⟨_, rfl⟩
    have hl := fun w => lead_any a w
    rw [hv] at hl hgood
    clear hv
    rcases hgood with ⟨rfl, h128, hg⟩ | ⟨rfl, hg⟩ | ⟨rfl, hg⟩ | ⟨rfl, hg⟩
    · obtain ⟨A, hA⟩ : ∃ A, A = acc (a.toNat % 128) 0 (s.data.toList.drop (k + 1)) := ⟨_, rfl⟩
      rw [← hA] at hg
      rw [hg] at hd
      clear hg
      by_cases hlen : s.size - k < 1
      · have : A = none := by rw [hA]; exact acc_short _ _ _ (by simp; omega)
        subst this
        subst hd
        clear hA
        go_enter Tryz.func136, Tryz.ntmps136
        go_wp2_with (go_at_call 164; refine (hl _).mono ?_; rintro e w' ⟨rfl, rfl⟩)
        all_goals exact ⟨rfl, rfl, ⟨0, rfl⟩⟩
      · have hlen2 : k + 1 ≤ s.size := by omega
        have hmx : max (0 : Int) 1 = 1 := rfl
        clear hlen
        replace hA := Lib.hid hA.symm
        replace hd := Lib.hid hd
        go_enter Tryz.func136, Tryz.ntmps136
        go_wp2_with (go_at_call 164; refine (hl _).mono ?_; rintro e w' ⟨rfl, rfl⟩)
        have h127 := and127 ⟨a.toNat, ha8⟩
        dsimp only at h127
        go_quiet (fail)
        go_wp2
        clear h127 hmx
        go_loopw [8, 9] (fun vr vi wr => ∃ j R p : Nat, vi = .int .i64 ((k + 1 + j : Nat) : Int) ∧ vr = .int .i32 (R : Int) ∧ j ≤ 0 ∧ R < 128 * 64 ^ j ∧ Hid (acc R (0 - j) (s.data.toList.drop (k + 1 + j)) = A) ∧ wr = w.drewN p) (fun _ vi _ => s.size - (RowKit.intOf vi).toNat)
        case atStart => exact ⟨0, a.toNat % 128, nq, by go_num, by go_num, by omega, by omega, hA, rfl⟩
        case round =>
          obtain ⟨j, R, p, rfl, rfl, hj, hR, hAc, rfl⟩ := hrel
          clear hA
          by_cases hjm : j < 0
          · exact absurd hjm (Nat.not_lt_zero _)
          · obtain rfl : j = 0 := by omega
            have hAo := hAc.out
            rw [Nat.sub_self, acc] at hAo
            have ho := hd.out
            rw [← hAo, fin] at ho
            clear hAo hAc hd hjm
            have hRi : R ≤ 33554432 := Nat.le_of_lt (Nat.lt_of_lt_of_le hR (by decide))
            clear hR hj
            have hS := fun w => scalar_any (R : Int) w
            by_cases hsc : scalar (R : Int) = true
            · rw [hsc] at hS
              by_cases hwd : wideOf R = 1
              · rw [hsc, hwd] at ho
                simp only [Bool.and_self, beq_self_eq_true, if_true] at ho
                subst ho
                clear hsc
                have hne : ((1 : Int) != (wideOf R : Int)) = false := by rw [hwd]; rfl
                clear hwd
                go_wp2_with (first
                  | (go_at_call 68; refine (hS _).mono ?_; rintro e w' ⟨rfl, rfl⟩)
                  | (go_at_call 166; refine (wide_any _ _).mono ?_; rintro e w' ⟨rfl, rfl⟩))
                go_ret2
                exact ⟨rfl, ⟨p, rfl⟩⟩
              · rw [hsc, show (wideOf R == 1) = false by simpa using hwd] at ho
                simp only [Bool.and_false, Bool.false_eq_true, if_false] at ho
                subst ho
                clear hsc
                have hne : ((1 : Int) != (wideOf R : Int)) = true := by rw [bne_iff_ne]; omega
                clear hwd
                go_wp2_with (first
                  | (go_at_call 68; refine (hS _).mono ?_; rintro e w' ⟨rfl, rfl⟩)
                  | (go_at_call 166; refine (wide_any _ _).mono ?_; rintro e w' ⟨rfl, rfl⟩))
                exact ⟨rfl, rfl, ⟨p, rfl⟩⟩
            · have hsf : scalar (R : Int) = false := by simpa using hsc
              rw [hsf] at ho hS
              simp only [Bool.false_and, Bool.false_eq_true, if_false] at ho
              subst ho
              clear hsc hsf
              go_wp2_with (go_at_call 68; refine (hS _).mono ?_; rintro e w' ⟨rfl, rfl⟩)
              exact ⟨rfl, rfl, ⟨p, rfl⟩⟩
    · obtain ⟨A, hA⟩ : ∃ A, A = acc (a.toNat % 32) 1 (s.data.toList.drop (k + 1)) := ⟨_, rfl⟩
      rw [← hA] at hg
      rw [hg] at hd
      clear hg
      by_cases hlen : s.size - k < 2
      · have : A = none := by rw [hA]; exact acc_short _ _ _ (by simp; omega)
        subst this
        subst hd
        clear hA
        go_enter Tryz.func136, Tryz.ntmps136
        go_wp2_with (go_at_call 164; refine (hl _).mono ?_; rintro e w' ⟨rfl, rfl⟩)
        all_goals exact ⟨rfl, rfl, ⟨0, rfl⟩⟩
      · have hlen2 : k + 2 ≤ s.size := by omega
        have hmx : max (2 : Int) 1 = 2 := rfl
        clear hlen
        replace hA := Lib.hid hA.symm
        replace hd := Lib.hid hd
        go_enter Tryz.func136, Tryz.ntmps136
        go_wp2_with (go_at_call 164; refine (hl _).mono ?_; rintro e w' ⟨rfl, rfl⟩)
        have h127 := and127 ⟨a.toNat, ha8⟩
        dsimp only at h127
        go_quiet (fail)
        go_wp2
        clear h127 hmx
        go_loopw [8, 9] (fun vr vi wr => ∃ j R p : Nat, vi = .int .i64 ((k + 1 + j : Nat) : Int) ∧ vr = .int .i32 (R : Int) ∧ j ≤ 1 ∧ R < 128 * 64 ^ j ∧ Hid (acc R (1 - j) (s.data.toList.drop (k + 1 + j)) = A) ∧ wr = w.drewN p) (fun _ vi _ => s.size - (RowKit.intOf vi).toNat)
        case atStart => exact ⟨0, a.toNat % 32, nq, by go_num, by go_num, by omega, by omega, hA, rfl⟩
        case round =>
          obtain ⟨j, R, p, rfl, rfl, hj, hR, hAc, rfl⟩ := hrel
          clear hA
          by_cases hjm : j < 1
          · have hRb : R < 524288 := Nat.lt_of_lt_of_le hR (pow_two (by omega))
            obtain ⟨b, hb⟩ : ∃ b, s[k + 1 + j]'(by omega) = b := ⟨_, rfl⟩
            have hb8 := b.toNat_lt
            have hsd := str_drop s (k + 1 + j) (by omega)
            rw [hb] at hsd
            have hAo := hAc.out
            rw [hsd, show 1 - j = (1 - (j + 1)) + 1 by omega, acc] at hAo
            clear hsd hAc
            by_cases hcb : cont b = true
            · rw [if_pos hcb] at hAo
              replace hAo := Lib.hid hAo
              go_wp2_with (go_at_call 165; refine (goesOn_any b _).mono ?_; rintro e w' ⟨rfl, rfl⟩)
              go_roundw
              case rel =>
                simp only [cont, Bool.and_eq_true, decide_eq_true_eq] at hcb
                exact ⟨j + 1, R * 64 + (b.toNat - 128), p, by go_num, congrArg (Value.int .i32) (by omega), by omega, by rw [Nat.pow_succ]; omega, hAo, rfl⟩
              case measure => simp [RowKit.intOf]; omega
            · rw [if_neg hcb] at hAo
              have hcf : cont b = false := by simpa using hcb
              have ho := hd.out
              rw [← hAo] at ho
              subst ho
              clear hAo hcb
              go_wp2_with (go_at_call 165; refine (goesOn_any b _).mono ?_; rintro e w' ⟨rfl, rfl⟩)
              exact ⟨rfl, rfl, ⟨p, rfl⟩⟩
          · obtain rfl : j = 1 := by omega
            have hAo := hAc.out
            rw [Nat.sub_self, acc] at hAo
            have ho := hd.out
            rw [← hAo, fin] at ho
            clear hAo hAc hd hjm
            have hRi : R ≤ 33554432 := Nat.le_of_lt (Nat.lt_of_lt_of_le hR (by decide))
            clear hR hj
            generalize hq : k + 1 + 1 = q
            have hq1 : (k : Int) + 2 ≤ (q : Int) := by omega
            have hq2 : (q : Int) ≤ (k : Int) + 2 := by omega
            clear hq
            have hS := fun w => scalar_any (R : Int) w
            by_cases hsc : scalar (R : Int) = true
            · rw [hsc] at hS
              by_cases hwd : wideOf R = 2
              · rw [hsc, hwd] at ho
                simp only [Bool.and_self, beq_self_eq_true, if_true] at ho
                subst ho
                clear hsc
                have hne : ((2 : Int) != (wideOf R : Int)) = false := by rw [hwd]; rfl
                clear hwd
                go_wp2_with (first
                  | (go_at_call 68; refine (hS _).mono ?_; rintro e w' ⟨rfl, rfl⟩)
                  | (go_at_call 166; refine (wide_any _ _).mono ?_; rintro e w' ⟨rfl, rfl⟩))
                go_ret2
                exact ⟨rfl, ⟨p, rfl⟩⟩
              · rw [hsc, show (wideOf R == 2) = false by simpa using hwd] at ho
                simp only [Bool.and_false, Bool.false_eq_true, if_false] at ho
                subst ho
                clear hsc
                have hne : ((2 : Int) != (wideOf R : Int)) = true := by rw [bne_iff_ne]; omega
                clear hwd
                go_wp2_with (first
                  | (go_at_call 68; refine (hS _).mono ?_; rintro e w' ⟨rfl, rfl⟩)
                  | (go_at_call 166; refine (wide_any _ _).mono ?_; rintro e w' ⟨rfl, rfl⟩))
                exact ⟨rfl, rfl, ⟨p, rfl⟩⟩
            · have hsf : scalar (R : Int) = false := by simpa using hsc
              rw [hsf] at ho hS
              simp only [Bool.false_and, Bool.false_eq_true, if_false] at ho
              subst ho
              clear hsc hsf
              go_wp2_with (go_at_call 68; refine (hS _).mono ?_; rintro e w' ⟨rfl, rfl⟩)
              exact ⟨rfl, rfl, ⟨p, rfl⟩⟩
    · obtain ⟨A, hA⟩ : ∃ A, A = acc (a.toNat % 16) 2 (s.data.toList.drop (k + 1)) := ⟨_, rfl⟩
      rw [← hA] at hg
      rw [hg] at hd
      clear hg
      by_cases hlen : s.size - k < 3
      · have : A = none := by rw [hA]; exact acc_short _ _ _ (by simp; omega)
        subst this
        subst hd
        clear hA
        go_enter Tryz.func136, Tryz.ntmps136
        go_wp2_with (go_at_call 164; refine (hl _).mono ?_; rintro e w' ⟨rfl, rfl⟩)
        all_goals exact ⟨rfl, rfl, ⟨0, rfl⟩⟩
      · have hlen2 : k + 3 ≤ s.size := by omega
        have hmx : max (3 : Int) 1 = 3 := rfl
        clear hlen
        replace hA := Lib.hid hA.symm
        replace hd := Lib.hid hd
        go_enter Tryz.func136, Tryz.ntmps136
        go_wp2_with (go_at_call 164; refine (hl _).mono ?_; rintro e w' ⟨rfl, rfl⟩)
        have h127 := and127 ⟨a.toNat, ha8⟩
        dsimp only at h127
        go_quiet (fail)
        go_wp2
        clear h127 hmx
        go_loopw [8, 9] (fun vr vi wr => ∃ j R p : Nat, vi = .int .i64 ((k + 1 + j : Nat) : Int) ∧ vr = .int .i32 (R : Int) ∧ j ≤ 2 ∧ R < 128 * 64 ^ j ∧ Hid (acc R (2 - j) (s.data.toList.drop (k + 1 + j)) = A) ∧ wr = w.drewN p) (fun _ vi _ => s.size - (RowKit.intOf vi).toNat)
        case atStart => exact ⟨0, a.toNat % 16, nq, by go_num, by go_num, by omega, by omega, hA, rfl⟩
        case round =>
          obtain ⟨j, R, p, rfl, rfl, hj, hR, hAc, rfl⟩ := hrel
          clear hA
          by_cases hjm : j < 2
          · have hRb : R < 524288 := Nat.lt_of_lt_of_le hR (pow_two (by omega))
            obtain ⟨b, hb⟩ : ∃ b, s[k + 1 + j]'(by omega) = b := ⟨_, rfl⟩
            have hb8 := b.toNat_lt
            have hsd := str_drop s (k + 1 + j) (by omega)
            rw [hb] at hsd
            have hAo := hAc.out
            rw [hsd, show 2 - j = (2 - (j + 1)) + 1 by omega, acc] at hAo
            clear hsd hAc
            by_cases hcb : cont b = true
            · rw [if_pos hcb] at hAo
              replace hAo := Lib.hid hAo
              go_wp2_with (go_at_call 165; refine (goesOn_any b _).mono ?_; rintro e w' ⟨rfl, rfl⟩)
              go_roundw
              case rel =>
                simp only [cont, Bool.and_eq_true, decide_eq_true_eq] at hcb
                exact ⟨j + 1, R * 64 + (b.toNat - 128), p, by go_num, congrArg (Value.int .i32) (by omega), by omega, by rw [Nat.pow_succ]; omega, hAo, rfl⟩
              case measure => simp [RowKit.intOf]; omega
            · rw [if_neg hcb] at hAo
              have hcf : cont b = false := by simpa using hcb
              have ho := hd.out
              rw [← hAo] at ho
              subst ho
              clear hAo hcb
              go_wp2_with (go_at_call 165; refine (goesOn_any b _).mono ?_; rintro e w' ⟨rfl, rfl⟩)
              exact ⟨rfl, rfl, ⟨p, rfl⟩⟩
          · obtain rfl : j = 2 := by omega
            have hAo := hAc.out
            rw [Nat.sub_self, acc] at hAo
            have ho := hd.out
            rw [← hAo, fin] at ho
            clear hAo hAc hd hjm
            have hRi : R ≤ 33554432 := Nat.le_of_lt (Nat.lt_of_lt_of_le hR (by decide))
            clear hR hj
            generalize hq : k + 1 + 2 = q
            have hq1 : (k : Int) + 3 ≤ (q : Int) := by omega
            have hq2 : (q : Int) ≤ (k : Int) + 3 := by omega
            clear hq
            have hS := fun w => scalar_any (R : Int) w
            by_cases hsc : scalar (R : Int) = true
            · rw [hsc] at hS
              by_cases hwd : wideOf R = 3
              · rw [hsc, hwd] at ho
                simp only [Bool.and_self, beq_self_eq_true, if_true] at ho
                subst ho
                clear hsc
                have hne : ((3 : Int) != (wideOf R : Int)) = false := by rw [hwd]; rfl
                clear hwd
                go_wp2_with (first
                  | (go_at_call 68; refine (hS _).mono ?_; rintro e w' ⟨rfl, rfl⟩)
                  | (go_at_call 166; refine (wide_any _ _).mono ?_; rintro e w' ⟨rfl, rfl⟩))
                go_ret2
                exact ⟨rfl, ⟨p, rfl⟩⟩
              · rw [hsc, show (wideOf R == 3) = false by simpa using hwd] at ho
                simp only [Bool.and_false, Bool.false_eq_true, if_false] at ho
                subst ho
                clear hsc
                have hne : ((3 : Int) != (wideOf R : Int)) = true := by rw [bne_iff_ne]; omega
                clear hwd
                go_wp2_with (first
                  | (go_at_call 68; refine (hS _).mono ?_; rintro e w' ⟨rfl, rfl⟩)
                  | (go_at_call 166; refine (wide_any _ _).mono ?_; rintro e w' ⟨rfl, rfl⟩))
                exact ⟨rfl, rfl, ⟨p, rfl⟩⟩
            · have hsf : scalar (R : Int) = false := by simpa using hsc
              rw [hsf] at ho hS
              simp only [Bool.false_and, Bool.false_eq_true, if_false] at ho
              subst ho
              clear hsc hsf
              go_wp2_with (go_at_call 68; refine (hS _).mono ?_; rintro e w' ⟨rfl, rfl⟩)
              exact ⟨rfl, rfl, ⟨p, rfl⟩⟩
    · obtain ⟨A, hA⟩ : ∃ A, A = acc (a.toNat % 8) 3 (s.data.toList.drop (k + 1)) := ⟨_, rfl⟩
      rw [← hA] at hg
      rw [hg] at hd
      clear hg
      by_cases hlen : s.size - k < 4
      · have : A = none := by rw [hA]; exact acc_short _ _ _ (by simp; omega)
        subst this
        subst hd
        clear hA
        go_enter Tryz.func136, Tryz.ntmps136
        go_wp2_with (go_at_call 164; refine (hl _).mono ?_; rintro e w' ⟨rfl, rfl⟩)
        all_goals exact ⟨rfl, rfl, ⟨0, rfl⟩⟩
      · have hlen2 : k + 4 ≤ s.size := by omega
        have hmx : max (4 : Int) 1 = 4 := rfl
        clear hlen
        replace hA := Lib.hid hA.symm
        replace hd := Lib.hid hd
        go_enter Tryz.func136, Tryz.ntmps136
        go_wp2_with (go_at_call 164; refine (hl _).mono ?_; rintro e w' ⟨rfl, rfl⟩)
        have h127 := and127 ⟨a.toNat, ha8⟩
        dsimp only at h127
        go_quiet (fail)
        go_wp2
        clear h127 hmx
        go_loopw [8, 9] (fun vr vi wr => ∃ j R p : Nat, vi = .int .i64 ((k + 1 + j : Nat) : Int) ∧ vr = .int .i32 (R : Int) ∧ j ≤ 3 ∧ R < 128 * 64 ^ j ∧ Hid (acc R (3 - j) (s.data.toList.drop (k + 1 + j)) = A) ∧ wr = w.drewN p) (fun _ vi _ => s.size - (RowKit.intOf vi).toNat)
        case atStart => exact ⟨0, a.toNat % 8, nq, by go_num, by go_num, by omega, by omega, hA, rfl⟩
        case round =>
          obtain ⟨j, R, p, rfl, rfl, hj, hR, hAc, rfl⟩ := hrel
          clear hA
          by_cases hjm : j < 3
          · have hRb : R < 524288 := Nat.lt_of_lt_of_le hR (pow_two (by omega))
            obtain ⟨b, hb⟩ : ∃ b, s[k + 1 + j]'(by omega) = b := ⟨_, rfl⟩
            have hb8 := b.toNat_lt
            have hsd := str_drop s (k + 1 + j) (by omega)
            rw [hb] at hsd
            have hAo := hAc.out
            rw [hsd, show 3 - j = (3 - (j + 1)) + 1 by omega, acc] at hAo
            clear hsd hAc
            by_cases hcb : cont b = true
            · rw [if_pos hcb] at hAo
              replace hAo := Lib.hid hAo
              go_wp2_with (go_at_call 165; refine (goesOn_any b _).mono ?_; rintro e w' ⟨rfl, rfl⟩)
              go_roundw
              case rel =>
                simp only [cont, Bool.and_eq_true, decide_eq_true_eq] at hcb
                exact ⟨j + 1, R * 64 + (b.toNat - 128), p, by go_num, congrArg (Value.int .i32) (by omega), by omega, by rw [Nat.pow_succ]; omega, hAo, rfl⟩
              case measure => simp [RowKit.intOf]; omega
            · rw [if_neg hcb] at hAo
              have hcf : cont b = false := by simpa using hcb
              have ho := hd.out
              rw [← hAo] at ho
              subst ho
              clear hAo hcb
              go_wp2_with (go_at_call 165; refine (goesOn_any b _).mono ?_; rintro e w' ⟨rfl, rfl⟩)
              exact ⟨rfl, rfl, ⟨p, rfl⟩⟩
          · obtain rfl : j = 3 := by omega
            have hAo := hAc.out
            rw [Nat.sub_self, acc] at hAo
            have ho := hd.out
            rw [← hAo, fin] at ho
            clear hAo hAc hd hjm
            have hRi : R ≤ 33554432 := Nat.le_of_lt (Nat.lt_of_lt_of_le hR (by decide))
            clear hR hj
            generalize hq : k + 1 + 3 = q
            have hq1 : (k : Int) + 4 ≤ (q : Int) := by omega
            have hq2 : (q : Int) ≤ (k : Int) + 4 := by omega
            clear hq
            have hS := fun w => scalar_any (R : Int) w
            by_cases hsc : scalar (R : Int) = true
            · rw [hsc] at hS
              by_cases hwd : wideOf R = 4
              · rw [hsc, hwd] at ho
                simp only [Bool.and_self, beq_self_eq_true, if_true] at ho
                subst ho
                clear hsc
                have hne : ((4 : Int) != (wideOf R : Int)) = false := by rw [hwd]; rfl
                clear hwd
                go_wp2_with (first
                  | (go_at_call 68; refine (hS _).mono ?_; rintro e w' ⟨rfl, rfl⟩)
                  | (go_at_call 166; refine (wide_any _ _).mono ?_; rintro e w' ⟨rfl, rfl⟩))
                go_ret2
                exact ⟨rfl, ⟨p, rfl⟩⟩
              · rw [hsc, show (wideOf R == 4) = false by simpa using hwd] at ho
                simp only [Bool.and_false, Bool.false_eq_true, if_false] at ho
                subst ho
                clear hsc
                have hne : ((4 : Int) != (wideOf R : Int)) = true := by rw [bne_iff_ne]; omega
                clear hwd
                go_wp2_with (first
                  | (go_at_call 68; refine (hS _).mono ?_; rintro e w' ⟨rfl, rfl⟩)
                  | (go_at_call 166; refine (wide_any _ _).mono ?_; rintro e w' ⟨rfl, rfl⟩))
                exact ⟨rfl, rfl, ⟨p, rfl⟩⟩
            · have hsf : scalar (R : Int) = false := by simpa using hsc
              rw [hsf] at ho hS
              simp only [Bool.false_and, Bool.false_eq_true, if_false] at ho
              subst ho
              clear hsc hsf
              go_wp2_with (go_at_call 68; refine (hS _).mono ?_; rintro e w' ⟨rfl, rfl⟩)
              exact ⟨rfl, rfl, ⟨p, rfl⟩⟩
end Go.Proofs.YtpdacbiiaglodaaGreat.U

/-
  LAYER 4 (utf): caught: the deferred closure (a fault is taken back, or nothing is there), and caught itself.
-/
namespace Go.Proofs.YtpdacbiiaglodaaGreat.U
set_option maxRecDepth 100000
open Go.RowKit Go.Lib

theorem assert_fault (x : Int) (w : World) : (Instr.typeAssert (.iface 196 (.int .i64 x)) 20 196 true).run Tryz.prog w = .ok (.tuple #[.int .i64 x, .bool true]) w := by kernel_rfl
theorem nil_iface (w : World) : (binOp .eql 20 .nilIface .nilIface).run Tryz.prog w = .ok (.bool true) w := by kernel_rfl
theorem fault_iface (x : Int) (w : World) : (binOp .eql 20 (.iface 196 (.int .i64 x)) .nilIface).run Tryz.prog w = .ok (.bool false) w := by kernel_rfl

set_option maxHeartbeats 1000000 in
theorem catch_idle (p q : Addr) (w : World) :
    CallsD Tryz.prog 134 #[.pointer (some p), .pointer (some q)] .returning w fun e u' w' => e = .returned (.tuple #[]) ∧ u' = .returning ∧ w' = w := by
  have hn := nil_iface
  refine callsD_of_wpS Tryz.func134 rfl fun c₀ cs hu => ?_
  simp only [Tryz.ntmps134, List.size_toArray, List.length_cons, List.length_nil, Nat.reduceAdd, Nat.reduceSub, Array.replicate_succ, Array.replicate_zero, List.push_toArray, List.append_toArray, List.nil_append, List.cons_append]
  apply wpS_seq
  apply wpS_region
  simp [wpOpsS, go_sem, recoverD, hu, Exit.thenS]
  refine wpS_of_wp ?_
  go_wp2
  cases c₀
  simp_all [bodyPostS, results, Tryz.results134]

set_option maxHeartbeats 1000000 in
theorem catch_fault (p q : Nat) (vp vq : Value) (x : Int) (older : List PanicEntry) (w : World) (hpq : p ≠ q)
    (hp : w.cell? ⟨p, 0, none⟩ = some vp) (fp : w.frozen? ⟨p, 0, none⟩ = false) (hq : w.cell? ⟨q, 0, none⟩ = some vq) (fq : w.frozen? ⟨q, 0, none⟩ = false) :
    CallsD Tryz.prog 134 #[.pointer (some ⟨p, 0, none⟩), .pointer (some ⟨q, 0, none⟩)] (.panicking ({ v := .iface 196 (.int .i64 x), recovered := false } :: older)) w fun e u' w' =>
      e = .returned (.tuple #[]) ∧ u' = .panicking ({ v := .iface 196 (.int .i64 x), recovered := true } :: older) ∧ w' = (w.setCell ⟨p, 0, none⟩ (.int .i64 x)).setCell ⟨q, 0, none⟩ (.int .i64 40) := by
  have hn := fault_iface
  have hta := assert_fault
  refine callsD_of_wpS Tryz.func134 rfl fun c₀ cs hu => ?_
  simp only [Tryz.ntmps134, List.size_toArray, List.length_cons, List.length_nil, Nat.reduceAdd, Nat.reduceSub, Array.replicate_succ, Array.replicate_zero, List.push_toArray, List.append_toArray, List.nil_append, List.cons_append]
  apply wpS_seq
  apply wpS_region
  simp [wpOpsS, go_sem, recoverD, hu, Exit.thenS]
  refine wpS_of_wp ?_
  go_wp2
  cases c₀
  simp_all [bodyPostS, results, Tryz.results134]

/-- The answer's two cells, new and empty. -/
def two (w : World) : World := (w.alloc (.cells #[.int .i64 0] 3)).alloc (.cells #[.int .i64 0] 62)
/-- .. and filled. -/
def res (w : World) (x e : Int) (w3 : World) : World := (w3.setCell ⟨w.heap.size, 0, none⟩ (.int .i64 x)).setCell ⟨w.heap.size + 1, 0, none⟩ (.int .i64 e)
def Two (w w3 : World) : Prop := Boxed w3 w.heap.size 3 (.int .i64 0) ∧ Boxed w3 (w.heap.size + 1) 62 (.int .i64 0)
theorem two_two (w : World) : Two w (two w) := by
  refine ⟨(Boxed.new w _ _).alloc _, ?_⟩
  have := Boxed.new (w.alloc (.cells #[.int .i64 0] 3)) 62 (.int .i64 0)
  rwa [World.size_alloc] at this
theorem two_grown (w : World) : w.grownBy (two w) none := galloc (World.grownBy_alloc w _ none) _

theorem res_cells {w w3 : World} (x e : Int) (h : Two w w3) : Boxed (res w x e w3) w.heap.size 3 (.int .i64 x) ∧ Boxed (res w x e w3) (w.heap.size + 1) 62 (.int .i64 e) := by
  refine ⟨((h.1).set _).other (by omega) _, ?_⟩
  exact ((h.2).other (by omega) _).set _

set_option maxHeartbeats 1000000 in
theorem caught_ok (f : FuncId) (first cap : Array Value) (w : World) (Q : World → Prop)
    (hent : ∀ (args : Array Value) (w : World), (callFunc f args).run Tryz.prog w = .ok (.enter f args) w)
    (hcall : Calls Tryz.prog f (first ++ cap) (two w) fun e w3 => (∃ v, e = .returned v) ∧ Q w3)
    (hQ : ∀ w3, Q w3 → Two w w3) :
    Calls Tryz.prog 100 #[.func (.func f) first cap] w fun e w' => e = .returned (.tuple #[.int .i64 0, .int .i64 0]) ∧ ∃ w3, Q w3 ∧ w' = res w 0 0 w3 := by
  have hmf : ∀ (fn : Fn) (first cap : Array Value) (w : World), (Instr.makeFunc fn first cap).run Tryz.prog w = .ok (.func fn first cap) w := fun _ _ _ _ => rfl
  unfold two at hcall
  go_enter_defers Tryz.func100, Tryz.ntmps100
  go_wp2
  refine hcall.mono ?_
  rintro e w3 ⟨⟨v, rfl⟩, hq⟩
  have h2 := hQ w3 hq
  have c1 := h2.1.cell
  have c2 := h2.2.cell
  have f1 := h2.1.frozen
  have f2 := h2.2.frozen
  have hR := res_cells 0 0 h2
  clear hcall hQ h2
  go_wp2
  refine leaves_cons (f := 134) (args := #[.pointer (some ⟨w.heap.size, 0, none⟩), .pointer (some ⟨w.heap.size + 1, 0, none⟩)]) (by simp) (by simp [go_sem]) ?_
  refine (catch_idle _ _ _).mono ?_
  rintro e u' w'' ⟨rfl, rfl, rfl⟩
  have d1 := hR.1.cell
  have d2 := hR.2.cell
  unfold res at d1 d2
  refine ⟨.tuple #[.int .i64 0, .int .i64 0], ?_, rfl, w3, hq, rfl⟩
  simp [results, Tryz.results100, go_sem, d1, d2]

set_option maxHeartbeats 1000000 in
theorem caught_bad (f : FuncId) (first cap : Array Value) (x : Int) (w : World) (Q : World → Prop)
    (hent : ∀ (args : Array Value) (w : World), (callFunc f args).run Tryz.prog w = .ok (.enter f args) w)
    (hcall : Calls Tryz.prog f (first ++ cap) (two w) fun e w3 => e = .panicked [{ v := .iface 196 (.int .i64 x), recovered := false }] ∧ Q w3)
    (hQ : ∀ w3, Q w3 → Two w w3) :
    Calls Tryz.prog 100 #[.func (.func f) first cap] w fun e w' => e = .returned (.tuple #[.int .i64 x, .int .i64 40]) ∧ ∃ w3, Q w3 ∧ w' = res w x 40 w3 := by
  have hmf : ∀ (fn : Fn) (first cap : Array Value) (w : World), (Instr.makeFunc fn first cap).run Tryz.prog w = .ok (.func fn first cap) w := fun _ _ _ _ => rfl
  unfold two at hcall
  go_enter_defers Tryz.func100, Tryz.ntmps100
  go_wp2
  refine hcall.mono ?_
  rintro e w3 ⟨rfl, hq⟩
  have h2 := hQ w3 hq
  have hR := res_cells x 40 h2
  clear hcall hQ
  go_wp2
  refine leaves_cons (f := 134) (args := #[.pointer (some ⟨w.heap.size, 0, none⟩), .pointer (some ⟨w.heap.size + 1, 0, none⟩)]) (by simp) (by simp [go_sem]) ?_
  refine (catch_fault _ _ _ _ x [] w3 (by omega) h2.1.cell h2.1.frozen h2.2.cell h2.2.frozen).mono ?_
  rintro e u' w'' ⟨rfl, rfl, rfl⟩
  simp only [settle]
  have d1 := hR.1.cell
  have d2 := hR.2.cell
  unfold res at d1 d2
  refine ⟨.tuple #[.int .i64 x, .int .i64 40], ?_, rfl, w3, hq, rfl⟩
  simp [results, Tryz.results100, go_sem, d1, d2]
end Go.Proofs.YtpdacbiiaglodaaGreat.U

/-
  LAYER 4 (utf): scalars: its iterator tells the scalars with their places, and throws where no form begins.
-/
namespace Go.Proofs.YtpdacbiiaglodaaGreat.U
set_option maxRecDepth 100000
open Go.RowKit Go.Lib
attribute [local go_sem] Oper.semAt_some

def tEnc (x : Told) : Array Value := #[.int .i64 (x.1 : Int), .int .i32 (x.2.1 : Int)]
def tOk (l : List UInt8) (pre : List Told) (x : Told) (_W : World) : Prop := (pls l)[pre.length]? = some x
def tAll (l : List UInt8) (xs : List Told) (_W : World) : Prop := xs = pls l
/-- What is thrown. -/
def thrown (x : Int) : List PanicEntry := [{ v := .iface 196 (.int .i64 x), recovered := false }]
/-- All is told, and nothing is left. -/
def sAll (l : List UInt8) (xs : List Told) (_W : World) : Prop := xs = pls l ∧ tot l = l.length
/-- All is told, and something is left. -/
def sBad (l : List UInt8) (ch : List PanicEntry) (pre : List Told) (_W : World) : Prop := pre = pls l ∧ tot l ≠ l.length ∧ ch = thrown (tot l : Int)

set_option maxHeartbeats 8000000 in
theorem scal1_tells (n : Nat) (b n0 ib : Nat) (s : ByteArray) (w : World) (hw : Boxed w b 9 (.string s)) (hb : b < n0 ∧ b ≠ ib) (hm : s.size ≤ maxLen) :
    TellsP Fence.wide (n + 3) Tryz.prog 135 #[.pointer (some ⟨b, 0, none⟩)] tEnc (tOk s.data.toList) none n0 ib (sAll s.data.toList) (fun _ _ => True) (sBad s.data.toList) w := by
  intro l J Jx W hkx hn0 hJ hJx hY h0
  have hst : Boxed W b 9 (.string s) := (hkx.2 b hb.1 hb.2).trans hw
  have hsz : s.data.toList.length = s.size := by simp
  clear hw hkx
  refine callsIn_of_wp Tryz.func135 rfl trivial ?_ rfl
  simp only [Tryz.ntmps135, List.size_toArray, List.length_cons, List.length_nil, Nat.reduceAdd, Nat.reduceSub, Array.replicate_succ, Array.replicate_zero, List.push_toArray, List.append_toArray, List.nil_append, List.cons_append]
  gi_wp2
  gi_loopw [3] (fun va wr => ∃ (pre : List Told) (k : Nat), va = .int .i64 (k : Int) ∧ k ≤ s.size ∧ Hid (pls s.data.toList = pre ++ places k (rs (s.data.toList.drop k))) ∧ Hid (k + tot (s.data.toList.drop k) = tot s.data.toList) ∧ J pre wr ∧ Boxed wr b 9 (.string s) ∧ n0 ≤ wr.heap.size) (fun va _ => s.size - (RowKit.intOf va).toNat)
  case atStart => exact ⟨[], 0, rfl, Nat.zero_le _, Lib.hid rfl, Lib.hid (by simp), h0, hst, hn0⟩
  case round =>
    clear h0 hst hn0
    obtain ⟨pre, k, rfl, hk, hfr, htt, hj, hst, hn0⟩ := hrel
    have hc := hst.cell
    have hfo := hfr.out
    have hto := htt.out
    have hm' := hm
    unfold maxLen at hm'
    by_cases hlt : k < s.size
    · have hN := fun w => first_any s k _ w hm hlt rfl
      cases hd : dec (s.data.toList.drop k) with
      | none =>
        rw [hd] at hN
        rw [places_none hd, List.append_nil] at hfo
        rw [tot_none hd, Nat.add_zero] at hto
        have hdone : sBad s.data.toList (thrown (k : Int)) pre wr := ⟨hfo.symm, by rw [hsz, ← hto]; omega, by rw [← hto]⟩
        replace hdone := Lib.hid hdone
        clear hd hfr hfo htt hto hsz
        gi_wp2_with (refine ⟨trivial, ?_⟩; gi_at_call 136; refine (callsIn_wide.2 (hN _)).mono ?_; rintro e W2 ⟨rfl, ⟨m, rfl⟩⟩)
        exact ⟨rfl, .inr ⟨_, pre, rfl, hdone.out, hJ _ _ _ hj (gdrewN (World.grownBy.refl _ _) m)⟩⟩
      | some x =>
        obtain ⟨rr, m⟩ := x
        rw [hd] at hN
        have h1 := dec_some hd
        simp at h1
        have hm1 := h1.1
        have hm2 := h1.2.2.1
        rw [places_some hd] at hfo
        rw [tot_some hd, List.drop_drop, ← Nat.add_assoc] at hto
        have hget : (pls s.data.toList)[pre.length]? = some (k, rr, m) := by rw [hfo]; simp
        have hfr2 : Hid (pls s.data.toList = (pre ++ [((k, rr, m) : Told)]) ++ places (k + m) (rs (s.data.toList.drop (k + m)))) := Lib.hid (by rw [hfo]; simp)
        replace hget := Lib.hid hget
        replace hto := Lib.hid hto
        clear hd hfr hfo h1 htt hsz
        gi_wp2_with (refine ⟨trivial, ?_⟩; gi_at_call 136; refine (callsIn_wide.2 (hN _)).mono ?_; rintro e W2 ⟨rfl, ⟨p, rfl⟩⟩; have hgW : wr.grownBy (wr.drewN p) none := gdrewN (World.grownBy.refl _ _) p; have hst2 := hst.kept hgW (by simp); obtain ⟨W2, hW2⟩ : ∃ W2, wr.drewN p = W2 := ⟨_, rfl⟩; rw [hW2] at hgW hst2 ⊢; clear hW2; obtain ⟨fn, tmps, assign, body, hy, hR⟩ := hY pre (k, rr, m) W2 (hJ _ _ _ hj hgW) hget.out (Nat.le_trans hn0 hgW.size); dsimp only [tEnc] at hy)
        refine hR.mono ?_
        rintro e3 W3 (⟨rfl, hj3, hk3⟩ | ⟨rfl, hj3, hk3⟩)
        all_goals gi_wp2
        all_goals first
          | exact ⟨⟨pre ++ [(k, rr, m)], k + m, by go_num, by omega, hfr2, hto, hj3, (hk3.2 b hb.1 hb.2).trans hst2, Nat.le_trans hn0 (Nat.le_trans hgW.size hk3.1)⟩, by simp [RowKit.intOf]; omega⟩
          | (refine bodyPost_ret (results_none rfl _ _ _) rfl ?_; exact .inl ⟨⟨_, rfl⟩, .inr ⟨_, trivial, hj3⟩⟩)
          | (go_end0; exact .inl ⟨⟨_, rfl⟩, .inr ⟨_, trivial, hj3⟩⟩)
    · rw [List.drop_eq_nil_of_le (by simp; omega)] at hfo hto
      have hdone : sAll s.data.toList pre wr := ⟨by rw [hfo]; simp [rs, rsN, places], by rw [hsz, ← hto, tot_nil]; omega⟩
      clear hfr hfo htt hto
      gi_wp2
      all_goals first
        | (refine bodyPost_ret (results_none rfl _ _ _) rfl ?_; exact .inl ⟨⟨_, rfl⟩, .inl ⟨pre, hdone, hj⟩⟩)
        | (go_end0; exact .inl ⟨⟨_, rfl⟩, .inl ⟨pre, hdone, hj⟩⟩)

set_option maxHeartbeats 1000000 in
theorem scalars_any (s : ByteArray) (w : World) :
    Calls Tryz.prog 102 #[.string s] w fun e w' => e = .returned (.func (.func 135) #[] #[.pointer (some ⟨w.heap.size, 0, none⟩)]) ∧ Boxed w' w.heap.size 9 (.string s) ∧ w.grownBy w' none := by
  have hmf : ∀ (fn : Fn) (first cap : Array Value) (w : World), (Instr.makeFunc fn first cap).run Tryz.prog w = .ok (.func fn first cap) w := fun _ _ _ _ => rfl
  go_enter Tryz.func102, Tryz.ntmps102
  go_wp2
  go_ret
  exact ⟨rfl, Boxed.new w _ _, World.grownBy_alloc w _ none⟩
end Go.Proofs.YtpdacbiiaglodaaGreat.U

/-
  LAYER 4 (utf): Check and its closure.
-/
namespace Go.Proofs.YtpdacbiiaglodaaGreat.U
set_option maxRecDepth 100000
open Go.RowKit Go.Lib

/-- What Check's closure answers. -/
def CheckPost (l : List UInt8) (w : World) (e : Ending) (w' : World) : Prop :=
  e = (if tot l = l.length then .returned (.tuple #[]) else .panicked [{ v := .iface 196 (.int .i64 (tot l : Int)), recovered := false }]) ∧ w.grownBy w' none

set_option maxHeartbeats 4000000 in
theorem check1_in (s : ByteArray) (b : Nat) (w : World) (hs : s.size ≤ maxLen) (hb : Boxed w b 9 (.string s)) :
    CallsIn Fence.wide 8 Tryz.prog 101 #[.pointer (some ⟨b, 0, none⟩)] w (CheckPost s.data.toList w) := by
  have hc := hb.cell
  have hbl := hb.lt
  refine callsIn_of_wp_marks Tryz.func101 rfl trivial ?_ rfl
  simp only [Tryz.ntmps101, List.size_toArray, List.length_cons, List.length_nil, Nat.reduceAdd, Nat.reduceSub, Array.replicate_succ, Array.replicate_zero, List.push_toArray, List.append_toArray, List.nil_append, List.cons_append]
  gi_wp2_with (refine ⟨trivial, ?_⟩; gi_at_call 102; refine (callsIn_wide.2 (scalars_any s _)).mono ?_; rintro e w1 ⟨rfl, hb1, hg1⟩)
  clear hc
  have hTell := scal1_tells 4 w.heap.size w1.heap.size w1.heap.size s w1 hb1 ⟨hb1.lt, by have := hb1.lt; omega⟩ hs
  refine range_tellsP (a := _) (w := w1) (α := Told) rfl (by omega) (gf := 135) (lb := #[.pointer (some ⟨w.heap.size, 0, none⟩)]) rfl trivial (enters_of Tryz.func135 (by kernel_rfl) rfl)
    hTell (by simp) (fun _ => rfl) (fun _ _ _ _ _ _ h _ _ _ => h)
    (fun pre W => w1.heap.size ≤ W.heap.size ∧ Below w.heap.size w W) (fun _ _ _ => False)
    ?hI (fun _ _ _ _ _ h _ _ => h.elim) ⟨Nat.le_refl _, belowg' hg1⟩ ?a1 ?assign ?body ?done ?stop ?panic
  case hI =>
    rintro pre A B k ⟨h1, h2⟩ hg hk
    refine ⟨Nat.le_trans h1 hg.size, h2.trans (gbelow hg h2.size ?_)⟩
    rintro q rfl
    rcases hk with hk | ⟨q', hk, hq, _⟩
    · cases hk
    · cases hk; have := hg1.size; omega
  case assign =>
    intro l x W K hK
    dsimp only [tEnc]
    gi_wp2
    exact hK
  case body =>
    rintro l2 pre x W ⟨h1, h2⟩ hget hsz
    gi_wp2_with fail
    exact ⟨KeepsOthers.refl _, KeptX.refl _, h1, h2⟩
  case stop =>
    rintro D c pre Wd W15 hD _ h _ _
    exact h.elim
  case done =>
    rintro D xs Wd W15 hD hS ⟨h1, h2⟩ hg hM
    have gp := grownBy_putObj' W15 D (.deferred none)
    have hb19 := belowg (h2.trans (gbelow gp h2.size (by simp; have := hg1.size; omega))) none
    have hP : CheckPost s.data.toList w (.returned (.tuple #[])) (W15.putObj D (.deferred none)) := ⟨by rw [if_pos hS.2], hb19⟩
    clear gp hb19 h2 hg hTell
    gi_wp2_with fail
    refine ⟨by simp, .inl ⟨_, _, rfl, run_takeDeferred hM, ?_⟩⟩
    simp [LeavesInM, LeavesIn, results, Tryz.results101, go_sem]
    exact hP
  case panic =>
    rintro D ch pre W15 hD hS ⟨h1, h2⟩ hM
    have gp := grownBy_putObj' W15 D (.deferred none)
    have hb19 := belowg (h2.trans (gbelow gp h2.size (by simp; have := hg1.size; omega))) none
    have hP : CheckPost s.data.toList w (.panicked ch) (W15.putObj D (.deferred none)) := ⟨by rw [if_neg hS.2.1, hS.2.2]; rfl, hb19⟩
    clear gp hb19 h2 hTell
    refine ⟨by simp, .inl ⟨_, _, rfl, run_takeDeferred hM, ?_⟩⟩
    simp [LeavesInM, LeavesIn]
    exact hP

theorem check1_any (s : ByteArray) (b : Nat) (w : World) (hs : s.size ≤ maxLen) (hb : Boxed w b 9 (.string s)) :
    Calls Tryz.prog 101 #[.pointer (some ⟨b, 0, none⟩)] w (CheckPost s.data.toList w) := callsIn_wide.1 (check1_in s b w hs hb)

theorem two_drewN {w W : World} (h : Two w W) (m : Nat) : Two w (W.drewN m) := h
theorem two_kept {w W W' : World} (h : Two w W) (hg : W.grownBy W' none) : Two w W' := ⟨h.1.kept hg (by simp), h.2.kept hg (by simp)⟩
theorem res_below {w w3 : World} {B : Nat} (x e : Int) (hB : B ≤ w.heap.size) (h : Below B w w3) : Below B w (res w x e w3) :=
  (h.setCell (p := ⟨w.heap.size, 0, none⟩) hB _).setCell (p := ⟨w.heap.size + 1, 0, none⟩) (by show B ≤ w.heap.size + 1; omega) _

set_option maxHeartbeats 1000000 in
theorem check_ok (s : ByteArray) (w : World) (hs : s.size ≤ maxLen) (h : tot s.data.toList = s.data.toList.length) :
    Calls Tryz.prog 57 #[.string s] w fun e w' => e = .returned (.tuple #[.int .i64 0, .int .i64 0]) ∧ Below w.heap.size w w' := by
  have hmf : ∀ (fn : Fn) (first cap : Array Value) (w : World), (Instr.makeFunc fn first cap).run Tryz.prog w = .ok (.func fn first cap) w := fun _ _ _ _ => rfl
  obtain ⟨w1, hw1⟩ : ∃ w1, w1 = w.alloc (.cells #[.string s] 9) := ⟨_, rfl⟩
  have hb1 : Boxed w1 w.heap.size 9 (.string s) := by rw [hw1]; exact Boxed.new w _ _
  have hg1 : w.grownBy w1 none := by rw [hw1]; exact World.grownBy_alloc w _ none
  have hbt := hb1.kept (two_grown w1) (by simp)
  have hc := caught_ok 101 #[] #[.pointer (some ⟨w.heap.size, 0, none⟩)] w1 (fun w3 => (two w1).grownBy w3 none)
    (enters_of Tryz.func101 (by kernel_rfl) rfl)
    ((check1_any s w.heap.size (two w1) hs hbt).mono fun e w' ⟨h1, h2⟩ => ⟨by rw [if_pos h] at h1; exact ⟨_, h1⟩, h2⟩)
    (fun w3 h => two_kept (two_two w1) h)
  clear hbt hb1
  replace hw1 := Lib.hid hw1
  go_enter Tryz.func57, Tryz.ntmps57
  go_wp2_with fail
  rw [← hw1.out]
  go_wp2_with (go_at_call 100; refine hc.mono ?_; rintro e w' ⟨rfl, ⟨w3, hg3, rfl⟩⟩)
  go_ret2
  exact ⟨rfl, (belowg' hg1).trans (res_below _ _ hg1.size ((belowg' ((two_grown w1).trans hg3)).mono hg1.size))⟩

set_option maxHeartbeats 1000000 in
theorem check_bad (s : ByteArray) (w : World) (hs : s.size ≤ maxLen) (h : tot s.data.toList ≠ s.data.toList.length) :
    Calls Tryz.prog 57 #[.string s] w fun e w' => e = .returned (.tuple #[.int .i64 (tot s.data.toList : Int), .int .i64 40]) ∧ Below w.heap.size w w' := by
  have hmf : ∀ (fn : Fn) (first cap : Array Value) (w : World), (Instr.makeFunc fn first cap).run Tryz.prog w = .ok (.func fn first cap) w := fun _ _ _ _ => rfl
  obtain ⟨w1, hw1⟩ : ∃ w1, w1 = w.alloc (.cells #[.string s] 9) := ⟨_, rfl⟩
  have hb1 : Boxed w1 w.heap.size 9 (.string s) := by rw [hw1]; exact Boxed.new w _ _
  have hg1 : w.grownBy w1 none := by rw [hw1]; exact World.grownBy_alloc w _ none
  have hbt := hb1.kept (two_grown w1) (by simp)
  have hc := caught_bad 101 #[] #[.pointer (some ⟨w.heap.size, 0, none⟩)] (tot s.data.toList : Int) w1 (fun w3 => (two w1).grownBy w3 none)
    (enters_of Tryz.func101 (by kernel_rfl) rfl)
    ((check1_any s w.heap.size (two w1) hs hbt).mono fun e w' ⟨h1, h2⟩ => ⟨by rw [if_neg h] at h1; exact h1, h2⟩)
    (fun w3 h => two_kept (two_two w1) h)
  clear hbt hb1
  replace hw1 := Lib.hid hw1
  go_enter Tryz.func57, Tryz.ntmps57
  go_wp2_with fail
  rw [← hw1.out]
  go_wp2_with (go_at_call 100; refine hc.mono ?_; rintro e w' ⟨rfl, ⟨w3, hg3, rfl⟩⟩)
  go_ret2
  exact ⟨rfl, (belowg' hg1).trans (res_below _ _ hg1.size ((belowg' ((two_grown w1).trans hg3)).mono hg1.size))⟩
end Go.Proofs.YtpdacbiiaglodaaGreat.U
