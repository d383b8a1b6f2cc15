/-
  LAYER 4 (utf): Cut and Count; the reference's Cut and Last.
-/
import Derived.Test.YtmpipgjdnpgemaaUCutP
import Derived.Test.YtmpipgjdnpgemaaURef2
import Derived.Test.YtmpipgjdnpgemaaULast
import Derived.Lib.RuneCount
import Derived.Laws.RangeString
import Derived.Laws.RangeAny
namespace Go.Proofs.Ytmpipgjdnpgemaa
set_option maxRecDepth 100000
open Go.RowKit Go.Lib

theorem runes_len' (s : ByteArray) (hs : s.size ≤ 1048576) : (runes s.data.toList).length ≤ 1048576 := by
  have := tot_runes_le s.data.toList
  have h2 : s.data.toList.length = s.size := by simp
  omega
theorem ext0 (s : ByteArray) : s.extract 0 s.size = s := by
  apply ByteArray.ext
  simp

set_option maxHeartbeats 1000000 in
theorem clone_any (s : ByteArray) (w : World) (hs : s.size ≤ 281474976710656) : Calls Try.prog 40 #[.string s] w fun e w' => e = .returned (.string s) ∧ Below w.heap.size w w' := by
  go_enter Try.func40, Try.ntmps40
  go_wp2_with (go_at_call 48; refine (Try.stringslite_Clone s _ hs).mono ?_; rintro e w1 ⟨rfl, hb⟩)
  go_ret
  exact ⟨rfl, hb⟩

set_option maxRecDepth 100000 in
set_option maxHeartbeats 2000000 in
theorem cut_ok (s : ByteArray) (m : Nat) (w : World) (hs : s.size ≤ 1048576) (_hm : m ≤ 9223372036854775807) (h : tot s.data.toList = s.data.toList.length) :
    Calls Try.prog 18 #[.string s, .int .i64 (m : Int)] w fun e w' => e = .returned (.tuple #[.string (s.extract 0 (cutAt s.data.toList m)), .int .i64 0]) ∧ Below w.heap.size w w' := by
  have hsz : s.data.toList.length = s.size := by simp
  obtain ⟨k1, k2, k3⟩ := cut_back (l := s.data.toList) h m
  have hC := fun w => check_ok s w (by unfold maxLen; omega) h
  rw [hsz] at k1 k2 k3
  obtain ⟨C, hCd⟩ : ∃ C, C = cutAt s.data.toList m := ⟨_, rfl⟩
  rw [← hCd] at k1 k2 k3 ⊢
  have kl : C ≤ s.size := by omega
  have hCl := fun w => clone_any (s.extract 0 C) w (by simp [ByteArray.size_extract]; omega)
  have hmin : (min (m : Int) (s.size : Int)) = ((min m s.size : Nat) : Int) := by omega
  have hmle : min m s.size ≤ s.size := Nat.min_le_right _ _
  generalize min m s.size = E at hmin k1 k2 hmle
  replace k2 := Lib.hid k2
  replace k3 := Lib.hid k3
  clear h hsz hCd
  go_enter Try.func18, Try.ntmps18
  go_wp2_with (go_at_call 9; refine (hC _).mono ?_; rintro e w1 ⟨rfl, hb1⟩)
  go_loopw [8] (fun vi wr => ∃ p : Nat, vi = .int .i64 (p : Int) ∧ C ≤ p ∧ p ≤ E ∧ wr = w1) (fun vi _ => (RowKit.intOf vi).toNat)
  case atStart => exact ⟨E, rfl, k1, Nat.le_refl _, rfl⟩
  case round =>
    obtain ⟨p, rfl, hp1, hp2, rfl⟩ := hrel
    by_cases hlt : C < p
    · obtain ⟨q1, q2⟩ := k2.out p hlt hp2
      obtain ⟨b, hb⟩ : ∃ b, s[p] = b := ⟨_, rfl⟩
      rw [getD_str s p q1, hb] at q2
      clear hmin
      go_wp2_with (go_at_call 39; refine (goesOn_any b _).mono ?_; rintro e w' ⟨rfl, rfl⟩)
      go_roundw
      case rel => exact ⟨p - 1, congrArg (Value.int .i64) (by omega), by omega, by omega, trivial⟩
      case measure => simp [RowKit.intOf]; omega
    · obtain rfl : p = C := by omega
      by_cases hps : p < s.size
      · have q2 := k3.out hps
        obtain ⟨b, hb⟩ : ∃ b, s[p] = b := ⟨_, rfl⟩
        rw [getD_str s p hps, hb] at q2
        clear hmin
        go_wp2_with (first
          | (go_at_call 39; refine (goesOn_any b _).mono ?_; rintro e w' ⟨rfl, rfl⟩)
          | (go_at_call 40; refine (hCl _).mono ?_; rintro e w2 ⟨rfl, hb2⟩))
        go_ret2
        exact ⟨rfl, hb1.trans (hb2.mono hb1.size)⟩
      · have q3 : s.size ≤ p := by omega
        clear hmin hps hlt
        go_wp2_with (go_at_call 40; refine (hCl _).mono ?_; rintro e w2 ⟨rfl, hb2⟩)
        go_ret2
        exact ⟨rfl, hb1.trans (hb2.mono hb1.size)⟩

set_option maxHeartbeats 1000000 in
theorem cut_bad (s : ByteArray) (m : Nat) (w : World) (hs : s.size ≤ 1048576) (h : tot s.data.toList ≠ s.data.toList.length) :
    Calls Try.prog 18 #[.string s, .int .i64 (m : Int)] w fun e w' => e = .returned (.tuple #[.string ⟨#[]⟩, .int .i64 40]) ∧ Below w.heap.size w w' := by
  have hC := fun w => check_bad s w (by unfold maxLen; omega) h
  generalize tot s.data.toList = T at hC
  clear h
  go_enter Try.func18, Try.ntmps18
  go_wp2_with (go_at_call 9; refine (hC _).mono ?_; rintro e w1 ⟨rfl, hb1⟩)
  go_ret2
  exact ⟨rfl, hb1⟩

set_option maxHeartbeats 1000000 in
theorem neg_utf.Cut (s : ByteArray) (m : Int) (w : World) (hm : m < 0) :
    Calls Try.prog 18 #[.string s, .int .i64 m] w fun e w' => e = .returned (.tuple #[.string ⟨#[]⟩, .int .i64 1]) ∧ w = w' := by
  go_enter Try.func18, Try.ntmps18
  go_wp2
  go_ret2
  simp
set_option maxHeartbeats 1000000 in
theorem neg_lecternref04.Cut (s : ByteArray) (m : Int) (w : World) (hm : m < 0) :
    Calls Try.prog 19 #[.string s, .int .i64 m] w fun e w' => e = .returned (.tuple #[.string ⟨#[]⟩, .int .i64 1]) ∧ w = w' := by
  go_enter Try.func19, Try.ntmps19
  go_wp2
  go_ret2
  simp

set_option maxHeartbeats 1000000 in
theorem refCut_bad (s : ByteArray) (m : Nat) (w : World) (hs : s.size ≤ 1048576) (h : tot s.data.toList ≠ s.size) :
    Calls Try.prog 19 #[.string s, .int .i64 (m : Int)] w fun e w' => e = .returned (.tuple #[.string ⟨#[]⟩, .int .i64 40]) ∧ w.grownBy w' none := by
  have hC := fun w => refCheck_bad s w hs h
  generalize tot s.data.toList = T at hC
  clear h
  go_enter Try.func19, Try.ntmps19
  go_wp2_with (go_at_call 10; refine (hC _).mono ?_; rintro e w1 ⟨rfl, hg1⟩)
  go_ret2
  exact ⟨rfl, hg1⟩

set_option maxRecDepth 100000 in
set_option maxHeartbeats 2000000 in
theorem refCut_ok (s : ByteArray) (m : Nat) (w : World) (hs : s.size ≤ 1048576) (hm : m ≤ 9223372036854775807) (h : tot s.data.toList = s.size) :
    Calls Try.prog 19 #[.string s, .int .i64 (m : Int)] w fun e w' => e = .returned (.tuple #[.string (s.extract 0 (cutAt s.data.toList m)), .int .i64 0]) ∧ w.grownBy w' none := by
  have hsz : s.data.toList.length = s.size := by simp
  have hC := fun w => refCheck_ok s w hs h
  obtain ⟨C, hCd⟩ : ∃ C, C = cutAt s.data.toList m := ⟨_, rfl⟩
  rw [← hCd]
  replace hCd := Lib.hid hCd
  have hv : valid s.data.toList := by unfold valid; omega
  replace hv := Lib.hid hv
  clear h hsz
  go_enter Try.func19, Try.ntmps19
  go_wp2_with (go_at_call 10; refine (hC _).mono ?_; rintro e w1 ⟨rfl, hg1⟩)
  go_loopw [8] (fun vi wr => ∃ i : Nat, vi = .int .i64 (i : Int) ∧ i ≤ s.size ∧ i ≤ m ∧ Hid (valid (s.data.toList.drop i)) ∧ Hid (C = i + cutAt (s.data.toList.drop i) (m - i)) ∧ w.grownBy wr none) (fun vi _ => s.size - (RowKit.intOf vi).toNat)
  case atStart => exact ⟨0, rfl, Nat.zero_le _, Nat.zero_le _, Lib.hid (by rw [List.drop_zero]; exact hv.out), Lib.hid (by rw [List.drop_zero, Nat.zero_add, Nat.sub_zero]; exact hCd.out), hg1⟩
  case round =>
    clear hg1
    obtain ⟨i, rfl, hi, him, hV, hI, hg⟩ := hrel
    have hI2 := hI.out
    by_cases hlt : i < s.size
    · have hA := fun w => at_any s i w hs hlt
      cases hd : dec (s.data.toList.drop i) with
      | none =>
        have := (valid_none hd).1 hV.out
        have := congrArg List.length this
        simp at this
        omega
      | some x =>
        obtain ⟨r, n⟩ := x
        rw [hd, atEnd] at hA
        have h1 := dec_some hd
        simp at h1
        have hn1 := h1.1
        have hn2 := h1.2.2.1
        rw [cutAt_some hd, List.drop_drop] at hI2
        have hV2 := (valid_some hd).1 hV.out
        rw [List.drop_drop] at hV2
        replace hV2 := Lib.hid hV2
        clear hd h1 hI hV
        by_cases hnm : n ≤ m - i
        · rw [if_pos hnm, ← Nat.add_assoc, Nat.sub_sub] at hI2
          replace hI2 := Lib.hid hI2
          go_wp2_with (go_at_call 31; refine (hA _).mono ?_; rintro e w5 ⟨rfl, hg5⟩)
          go_roundw
          case rel => exact ⟨i + n, by go_num, by omega, by omega, hV2, hI2, gnew hg hg5 (by simp)⟩
          case measure => simp [RowKit.intOf]; omega
        · rw [if_neg hnm, Nat.add_zero] at hI2
          subst hI2
          go_wp2_with (go_at_call 31; refine (hA _).mono ?_; rintro e w5 ⟨rfl, hg5⟩)
          go_ret2
          exact ⟨rfl, gnew hg hg5 (by simp)⟩
    · have hz : s.data.toList.drop i = [] := List.drop_eq_nil_of_le (by simp; omega)
      rw [hz, cutAt_none rfl, Nat.add_zero] at hI2
      subst hI2
      clear hz hI hV
      go_wp2
      go_ret2
      exact ⟨rfl, hg⟩

set_option maxRecDepth 100000 in
set_option maxHeartbeats 2000000 in
theorem count_ok (s : ByteArray) (w : World) (hs : s.size ≤ 1048576) (h : tot s.data.toList = s.data.toList.length) :
    Calls Try.prog 20 #[.string s] w fun e w' => e = .returned (.tuple #[.int .i64 ((runes s.data.toList).length : Int), .int .i64 0]) ∧ Below w.heap.size w w' := by
  have hC := fun w => check_ok s w (by unfold maxLen; omega) h
  have hln := runes_len' s hs
  obtain ⟨N, hN⟩ : ∃ N, N = (runes s.data.toList).length := ⟨_, rfl⟩
  rw [← hN] at hln ⊢
  have hv : Hid (valid s.data.toList) := Lib.hid h
  replace hN := Lib.hid hN
  clear h
  go_enter Try.func20, Try.ntmps20
  go_wp2_with (go_at_call 9; refine (hC _).mono ?_; rintro e w1 ⟨rfl, hb1⟩)
  go_loopw [6] (fun n wr => ∃ pos acc : Nat, wr = w1.iter s pos ∧ n = .int .i64 (acc : Int) ∧ pos ≤ s.size ∧ Hid (valid (s.data.toList.drop pos)) ∧ Hid (acc + (runes (s.data.toList.drop pos)).length = N) ∧ acc ≤ pos) (fun _ wr => s.size - wr.iterPos w1.heap.size)
  case atStart => exact ⟨0, 0, rfl, rfl, Nat.zero_le _, by rw [List.drop_zero]; exact hv, Lib.hid (by rw [List.drop_zero, Nat.zero_add]; exact hN.out.symm), Nat.le_refl _⟩
  case round =>
    obtain ⟨pos, acc, rfl, rfl, hp, hV, hA, hap⟩ := hrel
    have hA2 := hA.out
    by_cases hlt : pos < s.size
    · cases hd : dec (s.data.toList.drop pos) with
      | none =>
        have := (valid_none hd).1 hV.out
        have := congrArg List.length this
        simp at this
        omega
      | some x =>
        obtain ⟨r, n⟩ := x
        have hdc := dec_decode hd
        have h1 := dec_some hd
        simp at h1
        have hn1 := h1.1
        have hn2 := h1.2.2.1
        rw [runes_some hd, List.drop_drop, List.length_cons] at hA2
        have hA3 : Hid (acc + 1 + (runes (s.data.toList.drop (pos + n))).length = N) := Lib.hid (by omega)
        have hV2 := (valid_some hd).1 hV.out
        rw [List.drop_drop] at hV2
        replace hV2 := Lib.hid hV2
        have hnx : ∀ ty, (Instr.next (.pointer (some ⟨w1.heap.size, 0, none⟩)) true ty).run Try.prog (w1.iter s pos) = _ := fun ty => run_next_any w1 s pos ty hlt
        rw [hdc] at hnx
        clear hdc hd h1 hA hA2 hV
        go_wp2
        go_roundw
        case rel => exact ⟨pos + n, acc + 1, rfl, by go_num, by omega, hV2, hA3, by omega⟩
        case measure => simp; omega
    · have hnx : ∀ ty, (Instr.next (.pointer (some ⟨w1.heap.size, 0, none⟩)) true ty).run Try.prog (w1.iter s pos) = _ := fun ty => run_next_end w1 s pos ty hlt
      rw [List.drop_eq_nil_of_le (by simp; omega), runes_nil, List.length_nil, Nat.add_zero] at hA2
      subst hA2
      clear hA hV
      go_wp2
      go_ret2
      exact ⟨rfl, hb1.trans ((belowg' (World.grownBy_alloc w1 _ none)).mono hb1.size)⟩

set_option maxHeartbeats 1000000 in
theorem count_bad (s : ByteArray) (w : World) (hs : s.size ≤ 1048576) (h : tot s.data.toList ≠ s.data.toList.length) :
    Calls Try.prog 20 #[.string s] w fun e w' => e = .returned (.tuple #[.int .i64 0, .int .i64 40]) ∧ Below w.heap.size w w' := by
  have hC := fun w => check_bad s w (by unfold maxLen; omega) h
  generalize tot s.data.toList = T at hC
  clear h
  go_enter Try.func20, Try.ntmps20
  go_wp2_with (go_at_call 9; refine (hC _).mono ?_; rintro e w1 ⟨rfl, hb1⟩)
  go_ret2
  exact ⟨rfl, hb1⟩

set_option maxRecDepth 100000 in
set_option maxHeartbeats 4000000 in
theorem refLast_any (s : ByteArray) (i : Nat) (w : World) (hs : s.size ≤ 1048576) (h0 : 0 < i) (hi : i ≤ s.size) :
    Calls Try.prog 17 #[.string s, .int .i64 (i : Int)] w fun e w' => e = nextEnd (lastAt s i) ∧ w.grownBy w' none := by
  have hes : (s.extract 0 i).size = i := by simp [ByteArray.size_extract]; omega
  have hne : s.data.toList.take i ≠ [] := by
    intro h
    have := congrArg List.length h
    have h2 : s.data.toList.length = s.size := by simp
    rw [List.length_take, h2, List.length_nil] at this
    omega
  have hlen : (s.data.toList.take i).length = i := by rw [List.length_take]; simp; omega
  have hiff := fun r n => lastv_iff (s.data.toList.take i) r n hne
  rw [hlen] at hiff
  obtain ⟨E, hE⟩ : ∃ E, E = lastAt s i := ⟨_, rfl⟩
  rw [← hE]
  have hiff2 : ∀ r n, E = some (r, n) ↔ n ≤ i ∧ dec ((s.data.toList.take i).drop (i - n)) = some (r, n) := by rw [hE]; exact hiff
  have hA := fun (n : Nat) (h1 : 1 ≤ n) (h2 : n ≤ i) w => at_any (s.extract 0 i) (i - n) w (by omega) (by omega)
  simp only [take_str] at hA
  clear hiff hne hlen hes hE
  replace hiff2 := Lib.hid hiff2
  replace hA := Lib.hid hA
  have d1 : decide ((i : Int) < 1) = false := by simp; omega
  have d2 : decide (s.size < i) = false := by simp; omega
  have d3 : decide ((s.size : Int) < (i : Int)) = false := by simp; omega
  go_enter Try.func17, Try.ntmps17
  go_wp2
  go_loopw [7] (fun vn wr => ∃ n : Nat, vn = .int .i64 (n : Int) ∧ 1 ≤ n ∧ n ≤ 5 ∧ Hid (∀ r m, E = some (r, m) → n ≤ m) ∧ w.grownBy wr none) (fun vn _ => 6 - (RowKit.intOf vn).toNat)
  case atStart => exact ⟨1, rfl, by omega, by omega, Lib.hid (fun r m h => (dec_some ((hiff2.out r m).1 h).2).1), World.grownBy.refl w none⟩
  case round =>
    obtain ⟨n, rfl, h1, h5, hN, hg⟩ := hrel
    by_cases hin : n ≤ 4 ∧ n ≤ i
    · obtain ⟨q1, q2⟩ := hin
      have hAn := hA.out n h1 q2
      have hni : (i : Int) - (n : Int) = ((i - n : Nat) : Int) := by omega
      cases hd : dec ((s.data.toList.take i).drop (i - n)) with
      | none =>
        rw [hd, atEnd] at hAn
        have hN2 : Hid (∀ r m, E = some (r, m) → n + 1 ≤ m) := Lib.hid (by
          intro r m h
          have := hN.out r m h
          rcases Nat.lt_or_ge n m with q | q
          · exact q
          · obtain rfl : m = n := by omega
            rw [((hiff2.out r m).1 h).2] at hd
            cases hd)
        have hnz : ((0 : Int) == (n : Int)) = false := by rw [beq_eq_false_iff_ne]; omega
        rw [← hni] at hAn
        clear hd hN hni
        go_wp2_with (go_at_call 31; refine (hAn _).mono ?_; rintro e w5 ⟨rfl, hg5⟩)
        go_roundw
        case rel => exact ⟨n + 1, by go_num, by omega, by omega, hN2, gnew hg hg5 (by simp)⟩
        case measure => simp [RowKit.intOf]; omega
      | some x =>
        obtain ⟨r, k⟩ := x
        rw [hd, atEnd] at hAn
        rw [← hni] at hAn
        by_cases hkn : k = n
        · subst hkn
          have hEs := (hiff2.out r k).2 ⟨q2, hd⟩
          subst hEs
          clear hd hN hni
          go_wp2_with (go_at_call 31; refine (hAn _).mono ?_; rintro e w5 ⟨rfl, hg5⟩)
          go_ret3
          exact ⟨rfl, gnew hg hg5 (by simp)⟩
        · have hN2 : Hid (∀ r m, E = some (r, m) → n + 1 ≤ m) := Lib.hid (by
            intro r' m h
            have := hN.out r' m h
            rcases Nat.lt_or_ge n m with q | q
            · exact q
            · obtain rfl : m = n := by omega
              rw [((hiff2.out r' m).1 h).2] at hd
              simp only [Option.some.injEq, Prod.mk.injEq] at hd
              exact absurd hd.2.symm hkn)
          have hnz : ((k : Int) == (n : Int)) = false := by rw [beq_eq_false_iff_ne]; omega
          clear hd hN hni hkn
          go_wp2_with (go_at_call 31; refine (hAn _).mono ?_; rintro e w5 ⟨rfl, hg5⟩)
          go_roundw
          case rel => exact ⟨n + 1, by go_num, by omega, by omega, hN2, gnew hg hg5 (by simp)⟩
          case measure => simp [RowKit.intOf]; omega
    · have hEn : E = none := by
        cases hE : E with
        | none => rfl
        | some x =>
          obtain ⟨r, m⟩ := x
          have q1 := hN.out r m hE
          obtain ⟨q2, q3⟩ := (hiff2.out r m).1 hE
          have q4 := dec_some q3
          omega
      subst hEn
      clear hN
      rcases (by omega : 4 < n ∨ (n ≤ 4 ∧ i < n)) with q | ⟨q, q'⟩
      all_goals
        clear hin
        go_wp2
        go_ret3
        exact ⟨rfl, hg⟩

set_option maxHeartbeats 1000000 in
theorem refLast_range (s : ByteArray) (k : Int) (w : World) (hs : s.size ≤ 1048576) (hk : k < 1 ∨ s.size < k) :
    Calls Try.prog 17 #[.string s, .int .i64 k] w fun e w' => e = .returned (.tuple #[.int .i32 0, .int .i64 0, .int .i64 1]) ∧ w = w' := by
  rcases hk with hk | hk
  all_goals
    go_enter Try.func17, Try.ntmps17
    go_wp2
    go_ret3
    simp
end Go.Proofs.Ytmpipgjdnpgemaa
