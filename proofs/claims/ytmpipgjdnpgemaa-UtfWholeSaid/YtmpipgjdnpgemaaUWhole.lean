/-
  LAYER 4 (utf): UtfWhole.
-/
import Derived.Test.YtmpipgjdnpgemaaUAwake
import Derived.Test.YtmpipgjdnpgemaaUWholeP
namespace Go.Proofs.Ytmpipgjdnpgemaa
set_option maxRecDepth 100000
open Go.RowKit Go.Lib

theorem check_some (s : ByteArray) (w : World) (hs : s.size ≤ maxLen) :
    Calls Try.prog 9 #[.string s] w fun e w' => (∃ p x : Int, e = .returned (.tuple #[.int .i64 p, .int .i64 x])) ∧ Below w.heap.size w w' := by
  by_cases h : tot s.data.toList = s.data.toList.length
  · exact (check_ok s w hs h).mono fun e w' ⟨h1, h2⟩ => ⟨⟨_, _, h1⟩, h2⟩
  · exact (check_bad s w hs h).mono fun e w' ⟨h1, h2⟩ => ⟨⟨_, _, h1⟩, h2⟩

theorem below_on {w w1 w2 : World} (h : Below w.heap.size w w1) (k : Below w1.heap.size w1 w2) : Below w.heap.size w w2 := h.trans (k.mono h.size)
theorem size_app (a b : ByteArray) : (a ++ b).size = a.size + b.size := by simp
theorem list_app (a b : ByteArray) : (a ++ b).data.toList = a.data.toList ++ b.data.toList := by simp

set_option maxRecDepth 100000 in
set_option maxHeartbeats 4000000 in
theorem whole_not (a b : ByteArray) (w : World) (hl : a.size + b.size ≤ 2000) (ha : ¬ valid a.data.toList) :
    Calls Try.prog 7 #[.string a, .string b] w fun e w' => e = .returned (.bool true) ∧ Below w.heap.size w w' := by
  have hm : a.size ≤ maxLen := by unfold maxLen; omega
  have hmb : b.size ≤ maxLen := by unfold maxLen; omega
  have hC := fun w => check_bad a w hm ha
  have hB := fun w => check_some b w hmb
  have hAB := fun w => check_some (a ++ b) w (by rw [size_app]; unfold maxLen; omega)
  have hsz : a.data.toList.length = a.size := by simp
  have hTl := tot_length a.data.toList
  have hTlt : tot a.data.toList < a.size := by
    rcases Nat.lt_or_ge (tot a.data.toList) a.size with h | h
    · exact h
    · exact absurd (by unfold valid; omega) ha
  obtain ⟨T, hT⟩ : ∃ T, T = tot a.data.toList := ⟨_, rfl⟩
  rw [← hT] at hC hTlt
  clear hTl
  replace hT := Lib.hid hT
  replace hsz := Lib.hid hsz
  replace ha := Lib.hid ha
  go_enter Try.func7, Try.ntmps7
  go_wp2_with (first
    | (go_at_call 8; refine (awake_any _).mono ?_; rintro e w1 ⟨rfl, hb1⟩)
    | (go_at_call_of 9 (Value.string a); refine (hC _).mono ?_; rintro e w2 ⟨rfl, hb2⟩)
    | (go_at_call_of 9 (Value.string b); refine (hB _).mono ?_; rintro e w3 ⟨⟨p1, x1, rfl⟩, hb3⟩)
    | (go_at_call_of 9 (Value.string (a ++ b)); refine (hAB _).mono ?_; rintro e w4 ⟨⟨p2, x2, rfl⟩, hb4⟩))
  have hbw := below_on (below_on (below_on hb1 hb2) hb3) hb4
  clear hb1 hb2 hb3 hb4
  go_loopw [11] (fun vi wr => ∃ i : Nat, vi = .int .i64 (i : Int) ∧ i ≤ T ∧ Hid (i + tot (a.data.toList.drop i) = T) ∧ Below w.heap.size w wr) (fun vi _ => a.size - (RowKit.intOf vi).toNat)
  case atStart => exact ⟨0, rfl, Nat.zero_le _, Lib.hid (by rw [Nat.zero_add, List.drop_zero]; exact hT.out.symm), hbw⟩
  case round =>
    obtain ⟨i, rfl, hi, hI, hbr⟩ := hrel
    have hlt : i < a.size := by omega
    cases hd : dec (a.data.toList.drop i) with
    | some x =>
      obtain ⟨r, n⟩ := x
      have hN := fun w => next_ok a i r n w hm hlt hd
      have h1 := dec_some hd
      have ht := hI.out
      rw [tot_some hd, List.drop_drop, ← Nat.add_assoc] at ht
      have hle : i + n ≤ T := by omega
      simp only [List.length_drop, hsz.out] at h1
      replace ht := Lib.hid ht
      have hn1 := h1.1
      clear hd h1
      go_wp2_with (go_at_call 14; refine (hN _).mono ?_; rintro e w5 ⟨rfl, hb5⟩)
      go_roundw
      case rel => exact ⟨i + n, by go_num, by omega, ht, below_on hbr hb5⟩
      case measure => simp [RowKit.intOf]; omega
    | none =>
      have hN := fun w => next_bad a i w hm hlt hd
      clear hd
      go_wp2_with (go_at_call 14; refine (hN _).mono ?_; rintro e w5 ⟨rfl, hb5⟩)
      have hb6 := below_on hbr hb5
      clear hbr hb5 hbw hN
      go_loopw [15] (fun vi wr => ∃ k : Nat, vi = .int .i64 (k : Int) ∧ k ≤ a.size ∧ Hid (¬ valid (a.data.toList.take k)) ∧ Below w.heap.size w wr) (fun vi _ => (RowKit.intOf vi).toNat)
      case atStart => exact ⟨a.size, rfl, Nat.le_refl _, Lib.hid (by rw [← hsz.out, List.take_length]; exact ha.out), hb6⟩
      case round =>
        clear hb6
        obtain ⟨k, rfl, hk, hK, hbr⟩ := hrel
        have hk0 : 0 < k := by
          rcases Nat.eq_zero_or_pos k with h | h
          · subst h; exact absurd valid_nil (by simpa using hK.out)
          · exact h
        cases hd : lastAt a k with
        | some x =>
          obtain ⟨r, n⟩ := x
          have hN := fun w => lastc_ok a k r n w hm ⟨hk0, hk⟩ hd
          obtain ⟨q1, q2, q3⟩ := valid_take (l := a.data.toList) (by rw [hsz.out]; exact hk) hd hk0
          have hK2 := Lib.hid (fun h => hK.out (q3.2 h))
          clear hd hK q3
          go_wp2_with (go_at_call 16; refine (hN _).mono ?_; rintro e w7 ⟨rfl, hb7⟩)
          go_roundw
          case rel => exact ⟨k - n, congrArg (Value.int .i64) (by omega), by omega, hK2, below_on hbr hb7⟩
          case measure => simp [RowKit.intOf]; omega
        | none =>
          have hN := fun w => lastc_bad a k w hm ⟨hk0, hk⟩ hd
          clear hd hK
          go_wp2_with (go_at_call 16; refine (hN _).mono ?_; rintro e w7 ⟨rfl, hb7⟩)
          go_ret
          exact ⟨by simp; omega, below_on hbr hb7⟩

set_option maxRecDepth 100000 in
set_option maxHeartbeats 4000000 in
theorem whole_ok (a b : ByteArray) (w : World) (hl : a.size + b.size ≤ 2000) (ha : valid a.data.toList) (hb : valid b.data.toList) :
    Calls Try.prog 7 #[.string a, .string b] w fun e w' => e = .returned (.bool true) ∧ Below w.heap.size w w' := by
  have hm : a.size ≤ maxLen := by unfold maxLen; omega
  have hmb : b.size ≤ maxLen := by unfold maxLen; omega
  have hab : valid (a ++ b).data.toList := by
    rw [list_app, valid_append _ _ _ (Nat.le_refl _) ha]; exact hb
  have hC := fun w => check_ok a w hm ha
  have hB := fun w => check_ok b w hmb hb
  have hAB := fun w => check_ok (a ++ b) w (by rw [size_app]; unfold maxLen; omega) hab
  have hsz : a.data.toList.length = a.size := by simp
  generalize tot (a ++ b).data.toList = T2 at hAB
  generalize tot b.data.toList = T1 at hB
  have hT : tot a.data.toList = a.size := by rw [← hsz]; exact ha
  replace hT := Lib.hid hT
  replace hsz := Lib.hid hsz
  replace ha := Lib.hid ha
  clear hb hab
  go_enter Try.func7, Try.ntmps7
  go_wp2_with (first
    | (go_at_call 8; refine (awake_any _).mono ?_; rintro e w1 ⟨rfl, hb1⟩)
    | (go_at_call_of 9 (Value.string a); refine (hC _).mono ?_; rintro e w2 ⟨rfl, hb2⟩)
    | (go_at_call_of 9 (Value.string b); refine (hB _).mono ?_; rintro e w3 ⟨rfl, hb3⟩)
    | (go_at_call_of 9 (Value.string (a ++ b)); refine (hAB _).mono ?_; rintro e w4 ⟨rfl, hb4⟩))
  have hbw := below_on (below_on (below_on hb1 hb2) hb3) hb4
  clear hb1 hb2 hb3 hb4
  go_loopw [11] (fun vi wr => ∃ i : Nat, vi = .int .i64 (i : Int) ∧ i ≤ a.size ∧ Hid (i + tot (a.data.toList.drop i) = a.size) ∧ Below w.heap.size w wr) (fun vi _ => a.size - (RowKit.intOf vi).toNat)
  case atStart => exact ⟨0, rfl, Nat.zero_le _, Lib.hid (by rw [Nat.zero_add, List.drop_zero]; exact hT.out), hbw⟩
  case round =>
    obtain ⟨i, rfl, hi, hI, hbr⟩ := hrel
    by_cases hlt : i < a.size
    · cases hd : dec (a.data.toList.drop i) with
      | some x =>
        obtain ⟨r, n⟩ := x
        have hN := fun w => next_ok a i r n w hm hlt hd
        have h1 := dec_some hd
        have ht := hI.out
        rw [tot_some hd, List.drop_drop, ← Nat.add_assoc] at ht
        simp only [List.length_drop, hsz.out] at h1
        replace ht := Lib.hid ht
        have hn1 := h1.1
        have hn2 := h1.2.2.1
        clear hd h1
        go_wp2_with (go_at_call 14; refine (hN _).mono ?_; rintro e w5 ⟨rfl, hb5⟩)
        go_roundw
        case rel => exact ⟨i + n, by go_num, by omega, ht, below_on hbr hb5⟩
        case measure => simp [RowKit.intOf]; omega
      | none =>
        have ht := hI.out
        rw [tot_none hd] at ht
        omega
    · obtain rfl : i = a.size := by omega
      clear hlt hI hi hbw
      go_wp2_with fail
      go_loopw [15] (fun vi wr => ∃ k : Nat, vi = .int .i64 (k : Int) ∧ k ≤ a.size ∧ Hid (valid (a.data.toList.take k)) ∧ Below w.heap.size w wr) (fun vi _ => (RowKit.intOf vi).toNat)
      case atStart => exact ⟨a.size, rfl, Nat.le_refl _, Lib.hid (by rw [← hsz.out, List.take_length]; exact ha.out), hbr⟩
      case round =>
        clear hbr
        obtain ⟨k, rfl, hk, hK, hbr⟩ := hrel
        rcases Nat.eq_zero_or_pos k with h0 | hk0
        · subst h0
          clear hK
          go_wp2
          go_ret
          exact ⟨by simp, hbr⟩
        · cases hd : lastAt a k with
          | some x =>
            obtain ⟨r, n⟩ := x
            have hN := fun w => lastc_ok a k r n w hm ⟨hk0, hk⟩ hd
            obtain ⟨q1, q2, q3⟩ := valid_take (l := a.data.toList) (by rw [hsz.out]; exact hk) hd hk0
            have hK2 := Lib.hid (q3.1 hK.out)
            clear hd hK q3
            go_wp2_with (go_at_call 16; refine (hN _).mono ?_; rintro e w7 ⟨rfl, hb7⟩)
            go_roundw
            case rel => exact ⟨k - n, congrArg (Value.int .i64) (by omega), by omega, hK2, below_on hbr hb7⟩
            case measure => simp [RowKit.intOf]; omega
          | none => exact absurd hK.out (not_valid_take (by rw [hsz.out]; exact hk) hd hk0)
set_option maxRecDepth 100000 in
set_option maxHeartbeats 4000000 in
theorem whole_bad (a b : ByteArray) (w : World) (hl : a.size + b.size ≤ 2000) (ha : valid a.data.toList) (hb : ¬valid b.data.toList) :
    Calls Try.prog 7 #[.string a, .string b] w fun e w' => e = .returned (.bool true) ∧ Below w.heap.size w w' := by
  have hm : a.size ≤ maxLen := by unfold maxLen; omega
  have hmb : b.size ≤ maxLen := by unfold maxLen; omega
  have hab : ¬valid (a ++ b).data.toList := by
    rw [list_app, valid_append _ _ _ (Nat.le_refl _) ha]; exact hb
  have hC := fun w => check_ok a w hm ha
  have hB := fun w => check_bad b w hmb hb
  have hAB := fun w => check_bad (a ++ b) w (by rw [size_app]; unfold maxLen; omega) hab
  have hsz : a.data.toList.length = a.size := by simp
  generalize tot (a ++ b).data.toList = T2 at hAB
  generalize tot b.data.toList = T1 at hB
  have hT : tot a.data.toList = a.size := by rw [← hsz]; exact ha
  replace hT := Lib.hid hT
  replace hsz := Lib.hid hsz
  replace ha := Lib.hid ha
  clear hb hab
  go_enter Try.func7, Try.ntmps7
  go_wp2_with (first
    | (go_at_call 8; refine (awake_any _).mono ?_; rintro e w1 ⟨rfl, hb1⟩)
    | (go_at_call_of 9 (Value.string a); refine (hC _).mono ?_; rintro e w2 ⟨rfl, hb2⟩)
    | (go_at_call_of 9 (Value.string b); refine (hB _).mono ?_; rintro e w3 ⟨rfl, hb3⟩)
    | (go_at_call_of 9 (Value.string (a ++ b)); refine (hAB _).mono ?_; rintro e w4 ⟨rfl, hb4⟩))
  have hbw := below_on (below_on (below_on hb1 hb2) hb3) hb4
  clear hb1 hb2 hb3 hb4
  go_loopw [11] (fun vi wr => ∃ i : Nat, vi = .int .i64 (i : Int) ∧ i ≤ a.size ∧ Hid (i + tot (a.data.toList.drop i) = a.size) ∧ Below w.heap.size w wr) (fun vi _ => a.size - (RowKit.intOf vi).toNat)
  case atStart => exact ⟨0, rfl, Nat.zero_le _, Lib.hid (by rw [Nat.zero_add, List.drop_zero]; exact hT.out), hbw⟩
  case round =>
    obtain ⟨i, rfl, hi, hI, hbr⟩ := hrel
    by_cases hlt : i < a.size
    · cases hd : dec (a.data.toList.drop i) with
      | some x =>
        obtain ⟨r, n⟩ := x
        have hN := fun w => next_ok a i r n w hm hlt hd
        have h1 := dec_some hd
        have ht := hI.out
        rw [tot_some hd, List.drop_drop, ← Nat.add_assoc] at ht
        simp only [List.length_drop, hsz.out] at h1
        replace ht := Lib.hid ht
        have hn1 := h1.1
        have hn2 := h1.2.2.1
        clear hd h1
        go_wp2_with (go_at_call 14; refine (hN _).mono ?_; rintro e w5 ⟨rfl, hb5⟩)
        go_roundw
        case rel => exact ⟨i + n, by go_num, by omega, ht, below_on hbr hb5⟩
        case measure => simp [RowKit.intOf]; omega
      | none =>
        have ht := hI.out
        rw [tot_none hd] at ht
        omega
    · obtain rfl : i = a.size := by omega
      clear hlt hI hi hbw
      go_wp2_with fail
      go_loopw [15] (fun vi wr => ∃ k : Nat, vi = .int .i64 (k : Int) ∧ k ≤ a.size ∧ Hid (valid (a.data.toList.take k)) ∧ Below w.heap.size w wr) (fun vi _ => (RowKit.intOf vi).toNat)
      case atStart => exact ⟨a.size, rfl, Nat.le_refl _, Lib.hid (by rw [← hsz.out, List.take_length]; exact ha.out), hbr⟩
      case round =>
        clear hbr
        obtain ⟨k, rfl, hk, hK, hbr⟩ := hrel
        rcases Nat.eq_zero_or_pos k with h0 | hk0
        · subst h0
          clear hK
          go_wp2
          go_ret
          exact ⟨by simp, hbr⟩
        · cases hd : lastAt a k with
          | some x =>
            obtain ⟨r, n⟩ := x
            have hN := fun w => lastc_ok a k r n w hm ⟨hk0, hk⟩ hd
            obtain ⟨q1, q2, q3⟩ := valid_take (l := a.data.toList) (by rw [hsz.out]; exact hk) hd hk0
            have hK2 := Lib.hid (q3.1 hK.out)
            clear hd hK q3
            go_wp2_with (go_at_call 16; refine (hN _).mono ?_; rintro e w7 ⟨rfl, hb7⟩)
            go_roundw
            case rel => exact ⟨k - n, congrArg (Value.int .i64) (by omega), by omega, hK2, below_on hbr hb7⟩
            case measure => simp [RowKit.intOf]; omega
          | none => exact absurd hK.out (not_valid_take (by rw [hsz.out]; exact hk) hd hk0)

set_option maxRecDepth 100000 in
set_option maxHeartbeats 1000000 in
theorem whole_big (a b : ByteArray) (w : World) (hl : 2000 < a.size + b.size) (h1 : a.size ≤ 140737488355328) (h2 : b.size ≤ 140737488355328) :
    Calls Try.prog 7 #[.string a, .string b] w fun e w' => e = .returned (.bool true) ∧ Below w.heap.size w w' := by
  go_enter Try.func7, Try.ntmps7
  go_wp2_with (go_at_call 8; refine (awake_any _).mono ?_; rintro e w1 ⟨rfl, hb1⟩)
  go_ret
  exact ⟨by simp, hb1⟩

theorem UtfWhole_walk (w : World) (a : ByteArray) (h1 : a.size ≤ 140737488351232) (b : ByteArray) (h2 : b.size ≤ 140737488351232) :
    Calls Try.prog 7 #[.string a, .string b] w fun e w' => e = .returned (.bool true) ∧ Below w.heap.size w w' := by
  by_cases hl : a.size + b.size ≤ 2000
  · by_cases ha : valid a.data.toList
    · by_cases hb : valid b.data.toList
      · exact whole_ok a b w hl ha hb
      · exact whole_bad a b w hl ha hb
    · exact whole_not a b w hl ha
  · exact whole_big a b w (by omega) (by omega) (by omega)
end Go.Proofs.Ytmpipgjdnpgemaa
