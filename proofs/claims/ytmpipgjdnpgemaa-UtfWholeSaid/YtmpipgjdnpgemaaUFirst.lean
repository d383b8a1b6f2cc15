/-
  LAYER 4 (utf): first.
-/
import Derived.Test.YtmpipgjdnpgemaaULeaf
import Derived.IntWalk
import Derived.Outline
namespace Go.Proofs.Ytmpipgjdnpgemaa
set_option maxRecDepth 100000
open Go.RowKit Go.Lib

def onesN (a : Nat) : Nat := if a < 128 then 0 else if a < 192 then 1 else if a < 224 then 2 else if a < 240 then 3 else if a < 248 then 4 else if a < 252 then 5 else if a < 254 then 6 else if a < 255 then 7 else 8

theorem flip_num : ∀ a : Fin 256, bits .xor .u8 IntKind.u8.max (a.val : Int) = 255 - (a.val : Int) := by decide +kernel
theorem ones_num : ∀ a : Fin 256, (8 - (Lib.bitLen (255 - a.val) : Int)) = (onesN a.val : Int) := by decide +kernel

theorem lead_any (a : UInt8) (w : World) : Calls Try.prog 46 #[.int .u8 (bits .xor .u8 IntKind.u8.max (a.toNat : Int))] w fun e w' => e = .returned (.int .i64 (onesN a.toNat : Int)) ∧ w = w' := by
  have ha := a.toNat_lt
  rw [flip_num ⟨a.toNat, ha⟩, ← ones_num ⟨a.toNat, ha⟩]
  have h := Try.bits_LeadingZeros8 (255 - (a.toNat : Int)) w (by omega) (by omega)
  rw [show (255 - (a.toNat : Int)).toNat = 255 - a.toNat by omega] at h
  exact h.mono fun e w' ⟨h1, h2⟩ => ⟨h1, h2.symm⟩

theorem head (a : UInt8) (t : List UInt8) : ((onesN a.toNat = 1 ∨ onesN a.toNat = 5 ∨ onesN a.toNat = 6 ∨ onesN a.toNat = 7 ∨ onesN a.toNat = 8) ∧ dec (a :: t) = none) ∨
    (onesN a.toNat = 0 ∧ a.toNat < 128 ∧ dec (a :: t) = fin 1 (acc (a.toNat % 128) 0 t)) ∨ (onesN a.toNat = 2 ∧ dec (a :: t) = fin 2 (acc (a.toNat % 32) 1 t)) ∨
    (onesN a.toNat = 3 ∧ dec (a :: t) = fin 3 (acc (a.toNat % 16) 2 t)) ∨ (onesN a.toNat = 4 ∧ dec (a :: t) = fin 4 (acc (a.toNat % 8) 3 t)) := by
  have ha := a.toNat_lt
  simp only [dec]
  by_cases h1 : a.toNat < 128
  · right; left
    refine ⟨by rw [onesN, if_pos h1], h1, ?_⟩
    rw [if_pos h1, acc, fin, Nat.mod_eq_of_lt h1, scalar_small (by omega), wideOf, if_pos h1]
    rfl
  rw [if_neg h1]
  by_cases h2 : a.toNat < 192
  · left
    rw [if_pos h2]
    exact ⟨.inl (by rw [onesN, if_neg h1, if_pos h2]), rfl⟩
  rw [if_neg h2]
  by_cases h3 : a.toNat < 224
  · right; right; left
    rw [if_pos h3]
    refine ⟨by rw [onesN, if_neg h1, if_neg h2, if_pos h3], ?_⟩
    rw [show a.toNat - 192 = a.toNat % 32 by omega]
  rw [if_neg h3]
  by_cases h4 : a.toNat < 240
  · right; right; right; left
    rw [if_pos h4]
    refine ⟨by rw [onesN, if_neg h1, if_neg h2, if_neg h3, if_pos h4], ?_⟩
    rw [show a.toNat - 224 = a.toNat % 16 by omega]
  rw [if_neg h4]
  by_cases h5 : a.toNat < 248
  · right; right; right; right
    rw [if_pos h5]
    refine ⟨by rw [onesN, if_neg h1, if_neg h2, if_neg h3, if_neg h4, if_pos h5], ?_⟩
    rw [show a.toNat - 240 = a.toNat % 8 by omega]
  rw [if_neg h5]
  left
  refine ⟨?_, rfl⟩
  rw [onesN, if_neg h1, if_neg h2, if_neg h3, if_neg h4, if_neg h5]
  by_cases h6 : a.toNat < 252
  · rw [if_pos h6]; omega
  rw [if_neg h6]
  by_cases h7 : a.toNat < 254
  · rw [if_pos h7]; omega
  rw [if_neg h7]
  by_cases h8 : a.toNat < 255
  · rw [if_pos h8]; omega
  rw [if_neg h8]; omega

theorem and127 : ∀ a : Fin 256, bits .and .u8 (a.val : Int) 127 = ((a.val % 128 : Nat) : Int) := by decide +kernel
theorem pow_two {j : Nat} (h : j ≤ 2) : 128 * 64 ^ j ≤ 524288 := by
  rcases (by omega : j = 0 ∨ j = 1 ∨ j = 2) with rfl | rfl | rfl <;> decide

/-- What first answers: the scalar and its length, or a fault that tells the place. -/
def FirstPost (o : Option (Nat × Nat)) (k : Nat) (w : World) (e : Ending) (w' : World) : Prop :=
  e = (match o with
    | some (r, n) => .returned (.tuple #[.int .i32 (r : Int), .int .i64 (n : Int)])
    | none => .panicked [{ v := .iface 69 (.int .i64 (k : Int)), recovered := false }]) ∧ ∃ m, w' = w.drewN m

theorem str_drop (s : ByteArray) (k : Nat) (hk : k < s.size) : s.data.toList.drop k = s[k] :: s.data.toList.drop (k + 1) := by
  rw [List.drop_eq_getElem_cons (by simpa using hk)]; rfl

set_option maxRecDepth 100000 in
set_option maxHeartbeats 4000000 in
theorem first_any (s : ByteArray) (k : Nat) (o : Option (Nat × Nat)) (w : World) (hs : s.size ≤ maxLen) (hk : k < s.size) (hd : dec (s.data.toList.drop k) = o) :
    Calls Try.prog 36 #[.string s, .int .i64 (k : Int)] w (FirstPost o k w) := by
  unfold maxLen at hs
  rw [str_drop s k hk] at hd
  obtain ⟨a, ha⟩ : ∃ a, s[k] = a := ⟨_, rfl⟩
  rw [ha] at hd
  rcases head a (s.data.toList.drop (k + 1)) with ⟨ho, hn⟩ | hgood
  · rw [hn] at hd
    subst hd
    clear hn
    obtain ⟨v, hv⟩ : ∃ v, onesN a.toNat = v := ⟨_, rfl⟩
    rw [hv] at ho
    have hl := fun w => lead_any a w
    rw [hv] at hl
    clear hv
    rcases ho with rfl | rfl | rfl | rfl | rfl
    all_goals
      go_enter Try.func36, Try.ntmps36
      go_wp2_with (go_at_call 46; refine (hl _).mono ?_; rintro e w' ⟨rfl, rfl⟩)
      exact ⟨rfl, rfl, ⟨0, rfl⟩⟩
  · have ha8 := a.toNat_lt
    obtain ⟨v, hv⟩ : ∃ v, onesN a.toNat = v := ⟨_, rfl⟩
    have hl := fun w => lead_any a w
    rw [hv] at hl hgood
    clear hv
    rcases hgood with ⟨rfl, h128, hg⟩ | ⟨rfl, hg⟩ | ⟨rfl, hg⟩ | ⟨rfl, hg⟩
    · obtain ⟨A, hA⟩ : ∃ A, A = acc (a.toNat % 128) 0 (s.data.toList.drop (k + 1)) := ⟨_, rfl⟩
      rw [← hA] at hg
      rw [hg] at hd
      clear hg
      by_cases hlen : s.size - k < 1
      · have : A = none := by rw [hA]; exact acc_short _ _ _ (by simp; omega)
        subst this
        subst hd
        clear hA
        go_enter Try.func36, Try.ntmps36
        go_wp2_with (go_at_call 46; refine (hl _).mono ?_; rintro e w' ⟨rfl, rfl⟩)
        all_goals exact ⟨rfl, rfl, ⟨0, rfl⟩⟩
      · have hlen2 : k + 1 ≤ s.size := by omega
        have hmx : max (0 : Int) 1 = 1 := rfl
        clear hlen
        replace hA := Lib.hid hA.symm
        replace hd := Lib.hid hd
        go_enter Try.func36, Try.ntmps36
        go_wp2_with (go_at_call 46; refine (hl _).mono ?_; rintro e w' ⟨rfl, rfl⟩)
        have h127 := and127 ⟨a.toNat, ha8⟩
        dsimp only at h127
        go_quiet (fail)
        go_wp2
        clear h127 hmx
        go_loopw [8, 9] (fun vr vi wr => ∃ j R p : Nat, vi = .int .i64 ((k + 1 + j : Nat) : Int) ∧ vr = .int .i32 (R : Int) ∧ j ≤ 0 ∧ R < 128 * 64 ^ j ∧ Hid (acc R (0 - j) (s.data.toList.drop (k + 1 + j)) = A) ∧ wr = w.drewN p) (fun _ vi _ => s.size - (RowKit.intOf vi).toNat)
        case atStart => exact ⟨0, a.toNat % 128, nq, by go_num, by go_num, by omega, by omega, hA, rfl⟩
        case round =>
          obtain ⟨j, R, p, rfl, rfl, hj, hR, hAc, rfl⟩ := hrel
          clear hA
          by_cases hjm : j < 0
          · exact absurd hjm (Nat.not_lt_zero _)
          · obtain rfl : j = 0 := by omega
            have hAo := hAc.out
            rw [Nat.sub_self, acc] at hAo
            have ho := hd.out
            rw [← hAo, fin] at ho
            clear hAo hAc hd hjm
            have hRi : R ≤ 33554432 := Nat.le_of_lt (Nat.lt_of_lt_of_le hR (by decide))
            clear hR hj
            have hS := fun w => scalar_any (R : Int) w
            by_cases hsc : scalar (R : Int) = true
            · rw [hsc] at hS
              by_cases hwd : wideOf R = 1
              · rw [hsc, hwd] at ho
                simp only [Bool.and_self, beq_self_eq_true, if_true] at ho
                subst ho
                clear hsc
                have hne : ((1 : Int) != (wideOf R : Int)) = false := by rw [hwd]; rfl
                clear hwd
                go_wp2_with (first
                  | (go_at_call 23; refine (hS _).mono ?_; rintro e w' ⟨rfl, rfl⟩)
                  | (go_at_call 47; refine (wide_any _ _).mono ?_; rintro e w' ⟨rfl, rfl⟩))
                go_ret2
                exact ⟨rfl, ⟨p, rfl⟩⟩
              · rw [hsc, show (wideOf R == 1) = false by simpa using hwd] at ho
                simp only [Bool.and_false, Bool.false_eq_true, if_false] at ho
                subst ho
                clear hsc
                have hne : ((1 : Int) != (wideOf R : Int)) = true := by rw [bne_iff_ne]; omega
                clear hwd
                go_wp2_with (first
                  | (go_at_call 23; refine (hS _).mono ?_; rintro e w' ⟨rfl, rfl⟩)
                  | (go_at_call 47; refine (wide_any _ _).mono ?_; rintro e w' ⟨rfl, rfl⟩))
                exact ⟨rfl, rfl, ⟨p, rfl⟩⟩
            · have hsf : scalar (R : Int) = false := by simpa using hsc
              rw [hsf] at ho hS
              simp only [Bool.false_and, Bool.false_eq_true, if_false] at ho
              subst ho
              clear hsc hsf
              go_wp2_with (go_at_call 23; refine (hS _).mono ?_; rintro e w' ⟨rfl, rfl⟩)
              exact ⟨rfl, rfl, ⟨p, rfl⟩⟩
    · obtain ⟨A, hA⟩ : ∃ A, A = acc (a.toNat % 32) 1 (s.data.toList.drop (k + 1)) := ⟨_, rfl⟩
      rw [← hA] at hg
      rw [hg] at hd
      clear hg
      by_cases hlen : s.size - k < 2
      · have : A = none := by rw [hA]; exact acc_short _ _ _ (by simp; omega)
        subst this
        subst hd
        clear hA
        go_enter Try.func36, Try.ntmps36
        go_wp2_with (go_at_call 46; refine (hl _).mono ?_; rintro e w' ⟨rfl, rfl⟩)
        all_goals exact ⟨rfl, rfl, ⟨0, rfl⟩⟩
      · have hlen2 : k + 2 ≤ s.size := by omega
        have hmx : max (2 : Int) 1 = 2 := rfl
        clear hlen
        replace hA := Lib.hid hA.symm
        replace hd := Lib.hid hd
        go_enter Try.func36, Try.ntmps36
        go_wp2_with (go_at_call 46; refine (hl _).mono ?_; rintro e w' ⟨rfl, rfl⟩)
        have h127 := and127 ⟨a.toNat, ha8⟩
        dsimp only at h127
        go_quiet (fail)
        go_wp2
        clear h127 hmx
        go_loopw [8, 9] (fun vr vi wr => ∃ j R p : Nat, vi = .int .i64 ((k + 1 + j : Nat) : Int) ∧ vr = .int .i32 (R : Int) ∧ j ≤ 1 ∧ R < 128 * 64 ^ j ∧ Hid (acc R (1 - j) (s.data.toList.drop (k + 1 + j)) = A) ∧ wr = w.drewN p) (fun _ vi _ => s.size - (RowKit.intOf vi).toNat)
        case atStart => exact ⟨0, a.toNat % 32, nq, by go_num, by go_num, by omega, by omega, hA, rfl⟩
        case round =>
          obtain ⟨j, R, p, rfl, rfl, hj, hR, hAc, rfl⟩ := hrel
          clear hA
          by_cases hjm : j < 1
          · have hRb : R < 524288 := Nat.lt_of_lt_of_le hR (pow_two (by omega))
            obtain ⟨b, hb⟩ : ∃ b, s[k + 1 + j]'(by omega) = b := ⟨_, rfl⟩
            have hb8 := b.toNat_lt
            have hsd := str_drop s (k + 1 + j) (by omega)
            rw [hb] at hsd
            have hAo := hAc.out
            rw [hsd, show 1 - j = (1 - (j + 1)) + 1 by omega, acc] at hAo
            clear hsd hAc
            by_cases hcb : cont b = true
            · rw [if_pos hcb] at hAo
              replace hAo := Lib.hid hAo
              go_wp2_with (go_at_call 39; refine (goesOn_any b _).mono ?_; rintro e w' ⟨rfl, rfl⟩)
              go_roundw
              case rel =>
                simp only [cont, Bool.and_eq_true, decide_eq_true_eq] at hcb
                exact ⟨j + 1, R * 64 + (b.toNat - 128), p, by go_num, congrArg (Value.int .i32) (by omega), by omega, by rw [Nat.pow_succ]; omega, hAo, rfl⟩
              case measure => simp [RowKit.intOf]; omega
            · rw [if_neg hcb] at hAo
              have hcf : cont b = false := by simpa using hcb
              have ho := hd.out
              rw [← hAo] at ho
              subst ho
              clear hAo hcb
              go_wp2_with (go_at_call 39; refine (goesOn_any b _).mono ?_; rintro e w' ⟨rfl, rfl⟩)
              exact ⟨rfl, rfl, ⟨p, rfl⟩⟩
          · obtain rfl : j = 1 := by omega
            have hAo := hAc.out
            rw [Nat.sub_self, acc] at hAo
            have ho := hd.out
            rw [← hAo, fin] at ho
            clear hAo hAc hd hjm
            have hRi : R ≤ 33554432 := Nat.le_of_lt (Nat.lt_of_lt_of_le hR (by decide))
            clear hR hj
            generalize hq : k + 1 + 1 = q
            have hq1 : (k : Int) + 2 ≤ (q : Int) := by omega
            have hq2 : (q : Int) ≤ (k : Int) + 2 := by omega
            clear hq
            have hS := fun w => scalar_any (R : Int) w
            by_cases hsc : scalar (R : Int) = true
            · rw [hsc] at hS
              by_cases hwd : wideOf R = 2
              · rw [hsc, hwd] at ho
                simp only [Bool.and_self, beq_self_eq_true, if_true] at ho
                subst ho
                clear hsc
                have hne : ((2 : Int) != (wideOf R : Int)) = false := by rw [hwd]; rfl
                clear hwd
                go_wp2_with (first
                  | (go_at_call 23; refine (hS _).mono ?_; rintro e w' ⟨rfl, rfl⟩)
                  | (go_at_call 47; refine (wide_any _ _).mono ?_; rintro e w' ⟨rfl, rfl⟩))
                go_ret2
                exact ⟨rfl, ⟨p, rfl⟩⟩
              · rw [hsc, show (wideOf R == 2) = false by simpa using hwd] at ho
                simp only [Bool.and_false, Bool.false_eq_true, if_false] at ho
                subst ho
                clear hsc
                have hne : ((2 : Int) != (wideOf R : Int)) = true := by rw [bne_iff_ne]; omega
                clear hwd
                go_wp2_with (first
                  | (go_at_call 23; refine (hS _).mono ?_; rintro e w' ⟨rfl, rfl⟩)
                  | (go_at_call 47; refine (wide_any _ _).mono ?_; rintro e w' ⟨rfl, rfl⟩))
                exact ⟨rfl, rfl, ⟨p, rfl⟩⟩
            · have hsf : scalar (R : Int) = false := by simpa using hsc
              rw [hsf] at ho hS
              simp only [Bool.false_and, Bool.false_eq_true, if_false] at ho
              subst ho
              clear hsc hsf
              go_wp2_with (go_at_call 23; refine (hS _).mono ?_; rintro e w' ⟨rfl, rfl⟩)
              exact ⟨rfl, rfl, ⟨p, rfl⟩⟩
    · obtain ⟨A, hA⟩ : ∃ A, A = acc (a.toNat % 16) 2 (s.data.toList.drop (k + 1)) := ⟨_, rfl⟩
      rw [← hA] at hg
      rw [hg] at hd
      clear hg
      by_cases hlen : s.size - k < 3
      · have : A = none := by rw [hA]; exact acc_short _ _ _ (by simp; omega)
        subst this
        subst hd
        clear hA
        go_enter Try.func36, Try.ntmps36
        go_wp2_with (go_at_call 46; refine (hl _).mono ?_; rintro e w' ⟨rfl, rfl⟩)
        all_goals exact ⟨rfl, rfl, ⟨0, rfl⟩⟩
      · have hlen2 : k + 3 ≤ s.size := by omega
        have hmx : max (3 : Int) 1 = 3 := rfl
        clear hlen
        replace hA := Lib.hid hA.symm
        replace hd := Lib.hid hd
        go_enter Try.func36, Try.ntmps36
        go_wp2_with (go_at_call 46; refine (hl _).mono ?_; rintro e w' ⟨rfl, rfl⟩)
        have h127 := and127 ⟨a.toNat, ha8⟩
        dsimp only at h127
        go_quiet (fail)
        go_wp2
        clear h127 hmx
        go_loopw [8, 9] (fun vr vi wr => ∃ j R p : Nat, vi = .int .i64 ((k + 1 + j : Nat) : Int) ∧ vr = .int .i32 (R : Int) ∧ j ≤ 2 ∧ R < 128 * 64 ^ j ∧ Hid (acc R (2 - j) (s.data.toList.drop (k + 1 + j)) = A) ∧ wr = w.drewN p) (fun _ vi _ => s.size - (RowKit.intOf vi).toNat)
        case atStart => exact ⟨0, a.toNat % 16, nq, by go_num, by go_num, by omega, by omega, hA, rfl⟩
        case round =>
          obtain ⟨j, R, p, rfl, rfl, hj, hR, hAc, rfl⟩ := hrel
          clear hA
          by_cases hjm : j < 2
          · have hRb : R < 524288 := Nat.lt_of_lt_of_le hR (pow_two (by omega))
            obtain ⟨b, hb⟩ : ∃ b, s[k + 1 + j]'(by omega) = b := ⟨_, rfl⟩
            have hb8 := b.toNat_lt
            have hsd := str_drop s (k + 1 + j) (by omega)
            rw [hb] at hsd
            have hAo := hAc.out
            rw [hsd, show 2 - j = (2 - (j + 1)) + 1 by omega, acc] at hAo
            clear hsd hAc
            by_cases hcb : cont b = true
            · rw [if_pos hcb] at hAo
              replace hAo := Lib.hid hAo
              go_wp2_with (go_at_call 39; refine (goesOn_any b _).mono ?_; rintro e w' ⟨rfl, rfl⟩)
              go_roundw
              case rel =>
                simp only [cont, Bool.and_eq_true, decide_eq_true_eq] at hcb
                exact ⟨j + 1, R * 64 + (b.toNat - 128), p, by go_num, congrArg (Value.int .i32) (by omega), by omega, by rw [Nat.pow_succ]; omega, hAo, rfl⟩
              case measure => simp [RowKit.intOf]; omega
            · rw [if_neg hcb] at hAo
              have hcf : cont b = false := by simpa using hcb
              have ho := hd.out
              rw [← hAo] at ho
              subst ho
              clear hAo hcb
              go_wp2_with (go_at_call 39; refine (goesOn_any b _).mono ?_; rintro e w' ⟨rfl, rfl⟩)
              exact ⟨rfl, rfl, ⟨p, rfl⟩⟩
          · obtain rfl : j = 2 := by omega
            have hAo := hAc.out
            rw [Nat.sub_self, acc] at hAo
            have ho := hd.out
            rw [← hAo, fin] at ho
            clear hAo hAc hd hjm
            have hRi : R ≤ 33554432 := Nat.le_of_lt (Nat.lt_of_lt_of_le hR (by decide))
            clear hR hj
            generalize hq : k + 1 + 2 = q
            have hq1 : (k : Int) + 3 ≤ (q : Int) := by omega
            have hq2 : (q : Int) ≤ (k : Int) + 3 := by omega
            clear hq
            have hS := fun w => scalar_any (R : Int) w
            by_cases hsc : scalar (R : Int) = true
            · rw [hsc] at hS
              by_cases hwd : wideOf R = 3
              · rw [hsc, hwd] at ho
                simp only [Bool.and_self, beq_self_eq_true, if_true] at ho
                subst ho
                clear hsc
                have hne : ((3 : Int) != (wideOf R : Int)) = false := by rw [hwd]; rfl
                clear hwd
                go_wp2_with (first
                  | (go_at_call 23; refine (hS _).mono ?_; rintro e w' ⟨rfl, rfl⟩)
                  | (go_at_call 47; refine (wide_any _ _).mono ?_; rintro e w' ⟨rfl, rfl⟩))
                go_ret2
                exact ⟨rfl, ⟨p, rfl⟩⟩
              · rw [hsc, show (wideOf R == 3) = false by simpa using hwd] at ho
                simp only [Bool.and_false, Bool.false_eq_true, if_false] at ho
                subst ho
                clear hsc
                have hne : ((3 : Int) != (wideOf R : Int)) = true := by rw [bne_iff_ne]; omega
                clear hwd
                go_wp2_with (first
                  | (go_at_call 23; refine (hS _).mono ?_; rintro e w' ⟨rfl, rfl⟩)
                  | (go_at_call 47; refine (wide_any _ _).mono ?_; rintro e w' ⟨rfl, rfl⟩))
                exact ⟨rfl, rfl, ⟨p, rfl⟩⟩
            · have hsf : scalar (R : Int) = false := by simpa using hsc
              rw [hsf] at ho hS
              simp only [Bool.false_and, Bool.false_eq_true, if_false] at ho
              subst ho
              clear hsc hsf
              go_wp2_with (go_at_call 23; refine (hS _).mono ?_; rintro e w' ⟨rfl, rfl⟩)
              exact ⟨rfl, rfl, ⟨p, rfl⟩⟩
    · obtain ⟨A, hA⟩ : ∃ A, A = acc (a.toNat % 8) 3 (s.data.toList.drop (k + 1)) := ⟨_, rfl⟩
      rw [← hA] at hg
      rw [hg] at hd
      clear hg
      by_cases hlen : s.size - k < 4
      · have : A = none := by rw [hA]; exact acc_short _ _ _ (by simp; omega)
        subst this
        subst hd
        clear hA
        go_enter Try.func36, Try.ntmps36
        go_wp2_with (go_at_call 46; refine (hl _).mono ?_; rintro e w' ⟨rfl, rfl⟩)
        all_goals exact ⟨rfl, rfl, ⟨0, rfl⟩⟩
      · have hlen2 : k + 4 ≤ s.size := by omega
        have hmx : max (4 : Int) 1 = 4 := rfl
        clear hlen
        replace hA := Lib.hid hA.symm
        replace hd := Lib.hid hd
        go_enter Try.func36, Try.ntmps36
        go_wp2_with (go_at_call 46; refine (hl _).mono ?_; rintro e w' ⟨rfl, rfl⟩)
        have h127 := and127 ⟨a.toNat, ha8⟩
        dsimp only at h127
        go_quiet (fail)
        go_wp2
        clear h127 hmx
        go_loopw [8, 9] (fun vr vi wr => ∃ j R p : Nat, vi = .int .i64 ((k + 1 + j : Nat) : Int) ∧ vr = .int .i32 (R : Int) ∧ j ≤ 3 ∧ R < 128 * 64 ^ j ∧ Hid (acc R (3 - j) (s.data.toList.drop (k + 1 + j)) = A) ∧ wr = w.drewN p) (fun _ vi _ => s.size - (RowKit.intOf vi).toNat)
        case atStart => exact ⟨0, a.toNat % 8, nq, by go_num, by go_num, by omega, by omega, hA, rfl⟩
        case round =>
          obtain ⟨j, R, p, rfl, rfl, hj, hR, hAc, rfl⟩ := hrel
          clear hA
          by_cases hjm : j < 3
          · have hRb : R < 524288 := Nat.lt_of_lt_of_le hR (pow_two (by omega))
            obtain ⟨b, hb⟩ : ∃ b, s[k + 1 + j]'(by omega) = b := ⟨_, rfl⟩
            have hb8 := b.toNat_lt
            have hsd := str_drop s (k + 1 + j) (by omega)
            rw [hb] at hsd
            have hAo := hAc.out
            rw [hsd, show 3 - j = (3 - (j + 1)) + 1 by omega, acc] at hAo
            clear hsd hAc
            by_cases hcb : cont b = true
            · rw [if_pos hcb] at hAo
              replace hAo := Lib.hid hAo
              go_wp2_with (go_at_call 39; refine (goesOn_any b _).mono ?_; rintro e w' ⟨rfl, rfl⟩)
              go_roundw
              case rel =>
                simp only [cont, Bool.and_eq_true, decide_eq_true_eq] at hcb
                exact ⟨j + 1, R * 64 + (b.toNat - 128), p, by go_num, congrArg (Value.int .i32) (by omega), by omega, by rw [Nat.pow_succ]; omega, hAo, rfl⟩
              case measure => simp [RowKit.intOf]; omega
            · rw [if_neg hcb] at hAo
              have hcf : cont b = false := by simpa using hcb
              have ho := hd.out
              rw [← hAo] at ho
              subst ho
              clear hAo hcb
              go_wp2_with (go_at_call 39; refine (goesOn_any b _).mono ?_; rintro e w' ⟨rfl, rfl⟩)
              exact ⟨rfl, rfl, ⟨p, rfl⟩⟩
          · obtain rfl : j = 3 := by omega
            have hAo := hAc.out
            rw [Nat.sub_self, acc] at hAo
            have ho := hd.out
            rw [← hAo, fin] at ho
            clear hAo hAc hd hjm
            have hRi : R ≤ 33554432 := Nat.le_of_lt (Nat.lt_of_lt_of_le hR (by decide))
            clear hR hj
            generalize hq : k + 1 + 3 = q
            have hq1 : (k : Int) + 4 ≤ (q : Int) := by omega
            have hq2 : (q : Int) ≤ (k : Int) + 4 := by omega
            clear hq
            have hS := fun w => scalar_any (R : Int) w
            by_cases hsc : scalar (R : Int) = true
            · rw [hsc] at hS
              by_cases hwd : wideOf R = 4
              · rw [hsc, hwd] at ho
                simp only [Bool.and_self, beq_self_eq_true, if_true] at ho
                subst ho
                clear hsc
                have hne : ((4 : Int) != (wideOf R : Int)) = false := by rw [hwd]; rfl
                clear hwd
                go_wp2_with (first
                  | (go_at_call 23; refine (hS _).mono ?_; rintro e w' ⟨rfl, rfl⟩)
                  | (go_at_call 47; refine (wide_any _ _).mono ?_; rintro e w' ⟨rfl, rfl⟩))
                go_ret2
                exact ⟨rfl, ⟨p, rfl⟩⟩
              · rw [hsc, show (wideOf R == 4) = false by simpa using hwd] at ho
                simp only [Bool.and_false, Bool.false_eq_true, if_false] at ho
                subst ho
                clear hsc
                have hne : ((4 : Int) != (wideOf R : Int)) = true := by rw [bne_iff_ne]; omega
                clear hwd
                go_wp2_with (first
                  | (go_at_call 23; refine (hS _).mono ?_; rintro e w' ⟨rfl, rfl⟩)
                  | (go_at_call 47; refine (wide_any _ _).mono ?_; rintro e w' ⟨rfl, rfl⟩))
                exact ⟨rfl, rfl, ⟨p, rfl⟩⟩
            · have hsf : scalar (R : Int) = false := by simpa using hsc
              rw [hsf] at ho hS
              simp only [Bool.false_and, Bool.false_eq_true, if_false] at ho
              subst ho
              clear hsc hsf
              go_wp2_with (go_at_call 23; refine (hS _).mono ?_; rintro e w' ⟨rfl, rfl⟩)
              exact ⟨rfl, rfl, ⟨p, rfl⟩⟩
end Go.Proofs.Ytmpipgjdnpgemaa
