/-
  LAYER 4 (utf): last, Last and its closure.
-/
import Derived.Test.YtmpipgjdnpgemaaUNext
import Derived.Test.YtmpipgjdnpgemaaULastP
namespace Go.Proofs.Ytmpipgjdnpgemaa
set_option maxRecDepth 100000
open Go.RowKit Go.Lib

theorem getD_str (s : ByteArray) (p : Nat) (h : p < s.size) : s.data.toList.getD p 0 = s[p] := by
  rw [List.getD_eq_getElem?_getD, List.getElem?_eq_getElem (by simpa using h)]; rfl

def lastEnd (S : Nat) : Option (Nat × Nat) → Ending
  | some (r, n) => .returned (.tuple #[.int .i32 (r : Int), .int .i64 (n : Int)])
  | none => .panicked [{ v := .iface 69 (.int .i64 (S : Int)), recovered := false }]
def LastPost (l : List UInt8) (w : World) (e : Ending) (w' : World) : Prop := e = lastEnd (startOf l) (lastv l) ∧ ∃ m, w' = w.drewN m

set_option maxRecDepth 100000 in
set_option maxHeartbeats 4000000 in
theorem last_any (s : ByteArray) (w : World) (hs : s.size ≤ maxLen) (h0 : 0 < s.size) :
    Calls Try.prog 38 #[.string s] w (LastPost s.data.toList w) := by
  have hs0 := hs
  have hsz : s.data.toList.length = s.size := by simp
  obtain ⟨S, hS⟩ : ∃ S, S = startOf s.data.toList := ⟨_, rfl⟩
  have hSl : S < s.size := by
    rw [hS]; unfold startOf
    have := bk_le s.data.toList 4 (s.data.toList.length - 1)
    omega
  have hst : bk s.data.toList 4 (s.size - 1) = S := by rw [hS, startOf, hsz]
  obtain ⟨L, hL⟩ : ∃ L, L = lastv s.data.toList := ⟨_, rfl⟩
  have hlv : L = pickEnd S s.size (dec (s.data.toList.drop S)) := by rw [hL, lastv, ← hS, hsz]
  have hpost : ∀ e w', LastPost s.data.toList w e w' = (e = lastEnd S L ∧ ∃ m, w' = w.drewN m) := by
    intro e w'; rw [LastPost, ← hL, ← hS]
  replace hpost := Lib.hid hpost
  replace hlv := Lib.hid hlv
  replace hst := Lib.hid hst
  clear hL hS
  replace hsz := Lib.hid hsz
  unfold maxLen at hs
  go_enter Try.func38, Try.ntmps38
  go_wp2
  go_loopw [4] (fun vp wr => ∃ p f : Nat, vp = .int .i64 (p : Int) ∧ p < s.size ∧ f + (s.size - p) = 5 ∧ Hid (bk s.data.toList f p = S) ∧ wr = w) (fun vp _ => (RowKit.intOf vp).toNat)
  case atStart => exact ⟨s.size - 1, 4, congrArg (Value.int .i64) (by omega), by omega, by omega, hst, rfl⟩
  case round =>
    obtain ⟨p, f, rfl, hp, hf, hB, rfl⟩ := hrel
    obtain ⟨b, hb⟩ : ∃ b, s[p] = b := ⟨_, rfl⟩
    have hgd := getD_str s p hp
    rw [hb] at hgd
    by_cases hgo : 0 < p ∧ s.size - p < 4 ∧ cont b = true
    · obtain ⟨g1, g2, g3⟩ := hgo
      obtain ⟨f', rfl⟩ : ∃ f', f = f' + 1 := ⟨f - 1, by omega⟩
      have hB' := hB.out
      rw [bk, if_pos ⟨g1, by rw [hsz.out]; exact g2, by rw [hgd]; exact g3⟩] at hB'
      replace hB' := Lib.hid hB'
      clear hgd hB
      go_wp2_with (go_at_call 39; refine (goesOn_any b _).mono ?_; rintro e w' ⟨rfl, rfl⟩)
      go_roundw
      case rel => exact ⟨p - 1, f', congrArg (Value.int .i64) (by omega), by omega, by omega, hB', trivial⟩
      case measure => simp [RowKit.intOf]; omega
    · have hpS : p = S := by
        have hB' := hB.out
        cases f with
        | zero => exact hB'
        | succ f' =>
          rw [bk, if_neg (by rw [hsz.out, hgd]; exact hgo)] at hB'
          exact hB'
      subst hpS
      have hF := fun w => first_any s p _ w hs0 hp rfl
      have hlo := hlv.out
      clear hlv hst hB hgd hf
      by_cases g1 : 0 < p
      · by_cases g2 : s.size - p < 4
        · have g3 : cont b = false := by
            cases hcb : cont b
            · rfl
            · exact absurd ⟨g1, g2, hcb⟩ hgo
          clear hgo
          cases hd : dec (s.data.toList.drop p) with
          | none =>
            rw [hd] at hF hlo
            rw [pickEnd] at hlo
            subst hlo
            clear hd
            go_wp2_with (first
              | (go_at_call 39; refine (goesOn_any b _).mono ?_; rintro e w' ⟨rfl, rfl⟩)
              | (go_at_call 36; refine (hF _).mono ?_; rintro e w' ⟨rfl, ⟨m, rfl⟩⟩))
            refine ⟨rfl, ?_⟩
            rw [hpost.out]
            exact ⟨rfl, _, rfl⟩
          | some x =>
            obtain ⟨r, n⟩ := x
            have h1 := dec_some hd
            rw [hd] at hF hlo
            rw [pickEnd] at hlo
            simp at h1
            clear hd
            by_cases he : p + n = s.size
            · rw [if_pos he] at hlo
              subst hlo
              have hne : ((p : Int) + (n : Int) != (s.size : Int)) = false := by rw [bne_eq_false_iff_eq]; omega
              clear he
              go_wp2_with (first
                | (go_at_call 39; refine (goesOn_any b _).mono ?_; rintro e w' ⟨rfl, rfl⟩)
                | (go_at_call 36; refine (hF _).mono ?_; rintro e w' ⟨rfl, ⟨m, rfl⟩⟩))
              go_ret2
              rw [hpost.out]
              exact ⟨rfl, m, rfl⟩
            · rw [if_neg he] at hlo
              subst hlo
              have hne : ((p : Int) + (n : Int) != (s.size : Int)) = true := by rw [bne_iff_ne]; omega
              clear he
              go_wp2_with (first
                | (go_at_call 39; refine (goesOn_any b _).mono ?_; rintro e w' ⟨rfl, rfl⟩)
                | (go_at_call 36; refine (hF _).mono ?_; rintro e w' ⟨rfl, ⟨m, rfl⟩⟩))
              refine ⟨rfl, ?_⟩
              rw [hpost.out]
              exact ⟨rfl, m, rfl⟩
        · clear hgo
          cases hd : dec (s.data.toList.drop p) with
          | none =>
            rw [hd] at hF hlo
            rw [pickEnd] at hlo
            subst hlo
            clear hd
            go_wp2_with (first
              | (go_at_call 39; refine (goesOn_any b _).mono ?_; rintro e w' ⟨rfl, rfl⟩)
              | (go_at_call 36; refine (hF _).mono ?_; rintro e w' ⟨rfl, ⟨m, rfl⟩⟩))
            refine ⟨rfl, ?_⟩
            rw [hpost.out]
            exact ⟨rfl, _, rfl⟩
          | some x =>
            obtain ⟨r, n⟩ := x
            have h1 := dec_some hd
            rw [hd] at hF hlo
            rw [pickEnd] at hlo
            simp at h1
            clear hd
            by_cases he : p + n = s.size
            · rw [if_pos he] at hlo
              subst hlo
              have hne : ((p : Int) + (n : Int) != (s.size : Int)) = false := by rw [bne_eq_false_iff_eq]; omega
              clear he
              go_wp2_with (first
                | (go_at_call 39; refine (goesOn_any b _).mono ?_; rintro e w' ⟨rfl, rfl⟩)
                | (go_at_call 36; refine (hF _).mono ?_; rintro e w' ⟨rfl, ⟨m, rfl⟩⟩))
              go_ret2
              rw [hpost.out]
              exact ⟨rfl, m, rfl⟩
            · rw [if_neg he] at hlo
              subst hlo
              have hne : ((p : Int) + (n : Int) != (s.size : Int)) = true := by rw [bne_iff_ne]; omega
              clear he
              go_wp2_with (first
                | (go_at_call 39; refine (goesOn_any b _).mono ?_; rintro e w' ⟨rfl, rfl⟩)
                | (go_at_call 36; refine (hF _).mono ?_; rintro e w' ⟨rfl, ⟨m, rfl⟩⟩))
              refine ⟨rfl, ?_⟩
              rw [hpost.out]
              exact ⟨rfl, m, rfl⟩
      · have hp0 : (p : Int) ≤ 0 := by omega
        clear hgo g1
        cases hd : dec (s.data.toList.drop p) with
        | none =>
          rw [hd] at hF hlo
          rw [pickEnd] at hlo
          subst hlo
          clear hd
          go_wp2_with (first
            | (go_at_call 39; refine (goesOn_any b _).mono ?_; rintro e w' ⟨rfl, rfl⟩)
            | (go_at_call 36; refine (hF _).mono ?_; rintro e w' ⟨rfl, ⟨m, rfl⟩⟩))
          refine ⟨rfl, ?_⟩
          rw [hpost.out]
          exact ⟨rfl, _, rfl⟩
        | some x =>
          obtain ⟨r, n⟩ := x
          have h1 := dec_some hd
          rw [hd] at hF hlo
          rw [pickEnd] at hlo
          simp at h1
          clear hd
          by_cases he : p + n = s.size
          · rw [if_pos he] at hlo
            subst hlo
            have hne : ((p : Int) + (n : Int) != (s.size : Int)) = false := by rw [bne_eq_false_iff_eq]; omega
            clear he
            go_wp2_with (first
              | (go_at_call 39; refine (goesOn_any b _).mono ?_; rintro e w' ⟨rfl, rfl⟩)
              | (go_at_call 36; refine (hF _).mono ?_; rintro e w' ⟨rfl, ⟨m, rfl⟩⟩))
            go_ret2
            rw [hpost.out]
            exact ⟨rfl, m, rfl⟩
          · rw [if_neg he] at hlo
            subst hlo
            have hne : ((p : Int) + (n : Int) != (s.size : Int)) = true := by rw [bne_iff_ne]; omega
            clear he
            go_wp2_with (first
              | (go_at_call 39; refine (goesOn_any b _).mono ?_; rintro e w' ⟨rfl, rfl⟩)
              | (go_at_call 36; refine (hF _).mono ?_; rintro e w' ⟨rfl, ⟨m, rfl⟩⟩))
            refine ⟨rfl, ?_⟩
            rw [hpost.out]
            exact ⟨rfl, m, rfl⟩

/-- The form that ends ahead of place k. -/
def lastAt (s : ByteArray) (k : Nat) : Option (Nat × Nat) := lastv (s.data.toList.take k)
theorem take_str (s : ByteArray) (k : Nat) : (s.extract 0 k).data.toList = s.data.toList.take k := by
  simp [ByteArray.extract, ByteArray.copySlice]

set_option maxHeartbeats 1000000 in
theorem last1_ok (s : ByteArray) (k b b2 b3 b4 : Nat) (r n : Nat) (u3 u4 : Value) (w : World) (hs : s.size ≤ maxLen) (hk : 0 < k ∧ k ≤ s.size) (hd : lastAt s k = some (r, n))
    (h1 : Boxed w b 9 (.string s)) (h2 : Boxed w b2 3 (.int .i64 (k : Int))) (h3 : Boxed w b3 21 u3) (h4 : Boxed w b4 3 u4) (hne : b3 ≠ b4) :
    Calls Try.prog 37 #[.pointer (some ⟨b, 0, none⟩), .pointer (some ⟨b2, 0, none⟩), .pointer (some ⟨b3, 0, none⟩), .pointer (some ⟨b4, 0, none⟩)] w fun e w' =>
      e = .returned (.tuple #[]) ∧ ∃ m, w' = ((w.drewN m).setCell ⟨b3, 0, none⟩ (.int .i32 (r : Int))).setCell ⟨b4, 0, none⟩ (.int .i64 (n : Int)) := by
  have c1 := h1.cell
  have c2 := h2.cell
  have c3 := h3.cell
  have c4 := h4.cell
  have f3 := h3.frozen
  have f4 := h4.frozen
  have hsx : (s.extract 0 k).size = k := by simp [ByteArray.size_extract]; omega
  have hF := fun w => last_any (s.extract 0 k) w (by omega) (by omega)
  unfold LastPost at hF
  rw [take_str, show lastv (s.data.toList.take k) = _ from hd] at hF
  replace hF := fun w => (hF w).mono fun e w' h => (show e = _ ∧ _ from h)
  unfold lastEnd at hF
  unfold maxLen at hs
  clear hd hsx
  go_enter Try.func37, Try.ntmps37
  go_wp2_with (go_at_call 38; refine (hF _).mono ?_; rintro e w' ⟨rfl, ⟨m, rfl⟩⟩)
  go_end0
  exact ⟨rfl, m, rfl⟩

set_option maxHeartbeats 1000000 in
theorem last1_bad (s : ByteArray) (k b b2 b3 b4 : Nat) (w : World) (hs : s.size ≤ maxLen) (hk : 0 < k ∧ k ≤ s.size) (hd : lastAt s k = none)
    (h1 : Boxed w b 9 (.string s)) (h2 : Boxed w b2 3 (.int .i64 (k : Int))) :
    Calls Try.prog 37 #[.pointer (some ⟨b, 0, none⟩), .pointer (some ⟨b2, 0, none⟩), .pointer (some ⟨b3, 0, none⟩), .pointer (some ⟨b4, 0, none⟩)] w fun e w' =>
      e = .panicked [{ v := .iface 69 (.int .i64 (startOf (s.data.toList.take k) : Int)), recovered := false }] ∧ ∃ m, w' = w.drewN m := by
  have c1 := h1.cell
  have c2 := h2.cell
  have hsx : (s.extract 0 k).size = k := by simp [ByteArray.size_extract]; omega
  have hF := fun w => last_any (s.extract 0 k) w (by omega) (by omega)
  unfold LastPost at hF
  rw [take_str, show lastv (s.data.toList.take k) = _ from hd] at hF
  replace hF := fun w => (hF w).mono fun e w' h => (show e = _ ∧ _ from h)
  unfold lastEnd at hF
  unfold maxLen at hs
  clear hd hsx
  go_enter Try.func37, Try.ntmps37
  go_wp2_with (go_at_call 38; refine (hF _).mono ?_; rintro e w' ⟨rfl, ⟨m, rfl⟩⟩)
  exact ⟨rfl, rfl, m, rfl⟩

set_option maxRecDepth 100000 in
set_option maxHeartbeats 2000000 in
theorem lastc_ok (s : ByteArray) (k : Nat) (r n : Nat) (w : World) (hs : s.size ≤ maxLen) (hk : 0 < k ∧ k ≤ s.size) (hd : lastAt s k = some (r, n)) :
    Calls Try.prog 16 #[.string s, .int .i64 (k : Int)] w fun e w' => e = .returned (.tuple #[.int .i32 (r : Int), .int .i64 (n : Int), .int .i64 0]) ∧ Below w.heap.size w w' := by
  have hmf : ∀ (fn : Fn) (first cap : Array Value) (w : World), (Instr.makeFunc fn first cap).run Try.prog w = .ok (.func fn first cap) w := fun _ _ _ _ => rfl
  have hs0 := hs
  unfold maxLen at hs0
  obtain ⟨w1, hw1⟩ : ∃ w1, w1 = (((w.alloc (.cells #[.string s] 9)).alloc (.cells #[.int .i64 (k : Int)] 3)).alloc (.cells #[.int .i32 0] 21)).alloc (.cells #[.int .i64 0] 3) := ⟨_, rfl⟩
  have h4 : Four w s (k : Int) w1 := by rw [hw1]; exact four_four w s _
  have hg1 : w.grownBy w1 none := by rw [hw1]; exact four_grown w s _
  have hz : w1.heap.size = w.heap.size + 4 := by rw [hw1]; exact four_size w s _
  have h4t := h4.kept (two_grown w1)
  have hc := caught_ok 37 #[] #[.pointer (some ⟨w.heap.size, 0, none⟩), .pointer (some ⟨w.heap.size + 1, 0, none⟩), .pointer (some ⟨w.heap.size + 1 + 1, 0, none⟩), .pointer (some ⟨w.heap.size + 1 + 1 + 1, 0, none⟩)] w1
    (fun w3 => ∃ m, w3 = (((two w1).drewN m).setCell ⟨w.heap.size + 1 + 1, 0, none⟩ (.int .i32 (r : Int))).setCell ⟨w.heap.size + 1 + 1 + 1, 0, none⟩ (.int .i64 (n : Int)))
    (enters_of Try.func37 (by kernel_rfl) rfl)
    ((last1_ok s k _ _ _ _ r n _ _ (two w1) hs hk hd h4t.1 h4t.2.1 h4t.2.2.1 h4t.2.2.2 (by omega)).mono fun e w' ⟨h1, h2⟩ => ⟨⟨_, h1⟩, h2⟩)
    (by
      rintro w3 ⟨m, rfl⟩
      have ht := two_drewN (two_two w1) m
      exact ⟨(ht.1.other (by omega) _).other (by omega) _, (ht.2.other (by omega) _).other (by omega) _⟩)
  have c1 := h4.1.cell
  have c2 := h4.2.1.cell
  replace hw1 := Lib.hid hw1
  replace hz := Lib.hid hz
  clear hd
  go_enter Try.func16, Try.ntmps16
  go_wp2_with fail
  rw [← hw1.out]
  refine hc.mono ?_
  rintro e w' ⟨rfl, ⟨w3, ⟨m, rfl⟩, rfl⟩⟩
  clear hc c1 c2
  obtain ⟨X, hX⟩ : ∃ X, X = res w1 0 0 ((((two w1).drewN m).setCell ⟨w.heap.size + 1 + 1, 0, none⟩ (.int .i32 (r : Int))).setCell ⟨w.heap.size + 1 + 1 + 1, 0, none⟩ (.int .i64 (n : Int))) := ⟨_, rfl⟩
  have hbX : Below w.heap.size w X := by
    rw [hX]
    exact (belowg' hg1).trans (res_below _ _ hg1.size ((((belowg' (gdrewN (two_grown w1) m)).mono hg1.size).setCell (p := ⟨w.heap.size + 1 + 1, 0, none⟩) (by show _ ≤ w.heap.size + 1 + 1; omega) _).setCell (p := ⟨w.heap.size + 1 + 1 + 1, 0, none⟩) (by show _ ≤ w.heap.size + 1 + 1 + 1; omega) _))
  have hz := hz.out
  have b3 : Boxed X (w.heap.size + 1 + 1) 21 (.int .i32 (r : Int)) := by
    rw [hX]
    exact ((((show Four w s k ((two w1).drewN m) from h4t).2.2.1.set _).other (by omega) _).other (by omega) _).other (by omega) _
  have b4 : Boxed X (w.heap.size + 1 + 1 + 1) 3 (.int .i64 (n : Int)) := by
    rw [hX]
    exact ((((show Four w s k ((two w1).drewN m) from h4t).2.2.2.other (by omega) _).set _).other (by omega) _).other (by omega) _
  rw [← hX]
  clear hX hz h4t h4 hg1 hw1
  have g3 := b3.cell
  have g4 := b4.cell
  have f3 := b3.frozen
  have f4 := b4.frozen
  have hne : w.heap.size + 1 + 1 ≠ w.heap.size + 1 + 1 + 1 := by omega
  go_wp2_with fail
  go_region
  have d3 := ((b3.set (.int .i32 (r : Int))).other (B' := w.heap.size + 1 + 1 + 1) (by omega) (.int .i64 (n : Int))).cell
  have d4 := ((b4.other (B' := w.heap.size + 1 + 1) (by omega) (.int .i32 (r : Int))).set (.int .i64 (n : Int))).cell
  have hbY := (hbX.setCell (p := ⟨w.heap.size + 1 + 1, 0, none⟩) (by show _ ≤ w.heap.size + 1 + 1; omega) (.int .i32 (r : Int))).setCell (p := ⟨w.heap.size + 1 + 1 + 1, 0, none⟩) (by show _ ≤ w.heap.size + 1 + 1 + 1; omega) (.int .i64 (n : Int))
  generalize (X.setCell ⟨w.heap.size + 1 + 1, 0, none⟩ (.int .i32 (r : Int))).setCell ⟨w.heap.size + 1 + 1 + 1, 0, none⟩ (.int .i64 (n : Int)) = Y at d3 d4 hbY ⊢
  go_wp2
  refine bodyPost_ret (v := .tuple #[.int .i32 (r : Int), .int .i64 (n : Int), .int .i64 0]) ?_ rfl ⟨rfl, hbY.drew⟩
  simp [results, Try.results16, go_sem, d3, d4]

set_option maxRecDepth 100000 in
set_option maxHeartbeats 2000000 in
theorem lastc_bad (s : ByteArray) (k : Nat) (w : World) (hs : s.size ≤ maxLen) (hk : 0 < k ∧ k ≤ s.size) (hd : lastAt s k = none) :
    Calls Try.prog 16 #[.string s, .int .i64 (k : Int)] w fun e w' => e = .returned (.tuple #[.int .i32 0, .int .i64 0, .int .i64 40]) ∧ Below w.heap.size w w' := by
  have hmf : ∀ (fn : Fn) (first cap : Array Value) (w : World), (Instr.makeFunc fn first cap).run Try.prog w = .ok (.func fn first cap) w := fun _ _ _ _ => rfl
  have hs0 := hs
  unfold maxLen at hs0
  obtain ⟨w1, hw1⟩ : ∃ w1, w1 = (((w.alloc (.cells #[.string s] 9)).alloc (.cells #[.int .i64 (k : Int)] 3)).alloc (.cells #[.int .i32 0] 21)).alloc (.cells #[.int .i64 0] 3) := ⟨_, rfl⟩
  have h4 : Four w s (k : Int) w1 := by rw [hw1]; exact four_four w s _
  have hg1 : w.grownBy w1 none := by rw [hw1]; exact four_grown w s _
  have hz : w1.heap.size = w.heap.size + 4 := by rw [hw1]; exact four_size w s _
  have h4t := h4.kept (two_grown w1)
  have hc := caught_bad 37 #[] #[.pointer (some ⟨w.heap.size, 0, none⟩), .pointer (some ⟨w.heap.size + 1, 0, none⟩), .pointer (some ⟨w.heap.size + 1 + 1, 0, none⟩), .pointer (some ⟨w.heap.size + 1 + 1 + 1, 0, none⟩)] (startOf (s.data.toList.take k) : Int) w1
    (fun w3 => ∃ m, w3 = (two w1).drewN m)
    (enters_of Try.func37 (by kernel_rfl) rfl)
    (last1_bad s k _ _ _ _ (two w1) hs hk hd h4t.1 h4t.2.1)
    (by
      rintro w3 ⟨m, rfl⟩
      exact two_drewN (two_two w1) m)
  have c1 := h4.1.cell
  have c2 := h4.2.1.cell
  replace hw1 := Lib.hid hw1
  replace hz := Lib.hid hz
  clear hd
  go_enter Try.func16, Try.ntmps16
  go_wp2_with fail
  rw [← hw1.out]
  refine hc.mono ?_
  rintro e w' ⟨rfl, ⟨w3, ⟨m, rfl⟩, rfl⟩⟩
  clear hc c1 c2
  obtain ⟨X, hX⟩ : ∃ X, X = res w1 (startOf (s.data.toList.take k) : Int) 40 ((two w1).drewN m) := ⟨_, rfl⟩
  have hbX : Below w.heap.size w X := by
    rw [hX]
    exact (belowg' hg1).trans (res_below _ _ hg1.size ((belowg' (gdrewN (two_grown w1) m)).mono hg1.size))
  have hz := hz.out
  have b3 : Boxed X (w.heap.size + 1 + 1) 21 (.int .i32 0) := by
    rw [hX]
    exact ((show Four w s k ((two w1).drewN m) from h4t).2.2.1.other (by omega) _).other (by omega) _
  have b4 : Boxed X (w.heap.size + 1 + 1 + 1) 3 (.int .i64 0) := by
    rw [hX]
    exact ((show Four w s k ((two w1).drewN m) from h4t).2.2.2.other (by omega) _).other (by omega) _
  rw [← hX]
  clear hX hz h4t h4 hg1 hw1
  have g3 := b3.cell
  have g4 := b4.cell
  have f3 := b3.frozen
  have f4 := b4.frozen
  have hne : w.heap.size + 1 + 1 ≠ w.heap.size + 1 + 1 + 1 := by omega
  go_wp2_with fail
  go_region
  have d3 := ((b3.set (.int .i32 0)).other (B' := w.heap.size + 1 + 1 + 1) (by omega) (.int .i64 0)).cell
  have d4 := ((b4.other (B' := w.heap.size + 1 + 1) (by omega) (.int .i32 0)).set (.int .i64 0)).cell
  have hbY := (hbX.setCell (p := ⟨w.heap.size + 1 + 1, 0, none⟩) (by show _ ≤ w.heap.size + 1 + 1; omega) (.int .i32 0)).setCell (p := ⟨w.heap.size + 1 + 1 + 1, 0, none⟩) (by show _ ≤ w.heap.size + 1 + 1 + 1; omega) (.int .i64 0)
  generalize (X.setCell ⟨w.heap.size + 1 + 1, 0, none⟩ (.int .i32 0)).setCell ⟨w.heap.size + 1 + 1 + 1, 0, none⟩ (.int .i64 0) = Y at d3 d4 hbY ⊢
  go_wp2
  refine bodyPost_ret (v := .tuple #[.int .i32 0, .int .i64 0, .int .i64 40]) ?_ rfl ⟨rfl, hbY.drew⟩
  simp [results, Try.results16, go_sem, d3, d4]

set_option maxRecDepth 100000 in
set_option maxHeartbeats 2000000 in
theorem lastc_range (s : ByteArray) (k : Int) (w : World) (hs : s.size ≤ maxLen) (hk : k < 1 ∨ s.size < k) :
    Calls Try.prog 16 #[.string s, .int .i64 k] w fun e w' => e = .returned (.tuple #[.int .i32 0, .int .i64 0, .int .i64 1]) ∧ Below w.heap.size w w' := by
  unfold maxLen at hs
  have hbel : Below w.heap.size w ((((w.alloc (.cells #[.string s] 9)).alloc (.cells #[.int .i64 k] 3)).alloc (.cells #[.int .i32 0] 21)).alloc (.cells #[.int .i64 0] 3)) := belowg' (four_grown w s k)
  rcases hk with hk | hk
  all_goals
    go_enter Try.func16, Try.ntmps16
    go_wp2
  all_goals
    refine bodyPost_ret (v := .tuple #[.int .i32 0, .int .i64 0, .int .i64 1]) ?_ rfl ⟨rfl, ?_⟩
  all_goals first
    | (simp [results, Try.results16, go_sem]; done)
    | exact hbel
end Go.Proofs.Ytmpipgjdnpgemaa
