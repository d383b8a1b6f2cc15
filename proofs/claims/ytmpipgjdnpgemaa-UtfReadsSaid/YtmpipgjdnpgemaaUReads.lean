/-
  LAYER 4 (utf): UtfReads.
-/
import Derived.Test.YtmpipgjdnpgemaaUCut
import Derived.Test.YtmpipgjdnpgemaaUOrder
import Derived.Test.YtmpipgjdnpgemaaUAwake
import Derived.OpenShut
namespace Go.Proofs.Ytmpipgjdnpgemaa
set_option maxRecDepth 100000
open Go.RowKit Go.Lib

theorem below_on {w w1 w2 : World} (h : Below w.heap.size w w1) (k : Below w1.heap.size w1 w2) : Below w.heap.size w w2 := h.trans (k.mono h.size)

/-- Both answer the same: Next, Last, Check, Cut, Decode (and Count). -/
theorem both_next (s : ByteArray) (k : Int) (hs : s.size ≤ 3000) : ∃ a b c : Int,
    (∀ w, Calls Try.prog 14 #[.string s, .int .i64 k] w fun e w' => e = .returned (.tuple #[.int .i32 a, .int .i64 b, .int .i64 c]) ∧ Below w.heap.size w w') ∧
    (∀ w, Calls Try.prog 15 #[.string s, .int .i64 k] w fun e w' => e = .returned (.tuple #[.int .i32 a, .int .i64 b, .int .i64 c]) ∧ Below w.heap.size w w') := by
  have hm : s.size ≤ maxLen := by unfold maxLen; omega
  by_cases hk : k < 0 ∨ s.size ≤ k
  · exact ⟨0, 0, 1, fun w => next_range s k w hm hk, fun w => (refNext_range s k w (by omega) hk).mono fun e w' ⟨h1, h2⟩ => ⟨h1, h2 ▸ Below.refl _ _⟩⟩
  · obtain ⟨i, rfl⟩ : ∃ i : Nat, k = (i : Int) := ⟨k.toNat, by omega⟩
    have hi : i < s.size := by omega
    have hr := fun w => refNext_any s i w (by omega) hi
    cases hd : dec (s.data.toList.drop i) with
    | none =>
      rw [hd, nextEnd] at hr
      exact ⟨0, 0, 40, fun w => next_bad s i w hm hi hd, fun w => (hr w).mono fun e w' ⟨h1, h2⟩ => ⟨h1, belowg' h2⟩⟩
    | some x =>
      obtain ⟨r, n⟩ := x
      rw [hd, nextEnd] at hr
      exact ⟨r, n, 0, fun w => next_ok s i r n w hm hi hd, fun w => (hr w).mono fun e w' ⟨h1, h2⟩ => ⟨h1, belowg' h2⟩⟩

theorem both_last (s : ByteArray) (k : Int) (hs : s.size ≤ 3000) : ∃ a b c : Int,
    (∀ w, Calls Try.prog 16 #[.string s, .int .i64 k] w fun e w' => e = .returned (.tuple #[.int .i32 a, .int .i64 b, .int .i64 c]) ∧ Below w.heap.size w w') ∧
    (∀ w, Calls Try.prog 17 #[.string s, .int .i64 k] w fun e w' => e = .returned (.tuple #[.int .i32 a, .int .i64 b, .int .i64 c]) ∧ Below w.heap.size w w') := by
  have hm : s.size ≤ maxLen := by unfold maxLen; omega
  by_cases hk : k < 1 ∨ s.size < k
  · exact ⟨0, 0, 1, fun w => lastc_range s k w hm hk, fun w => (refLast_range s k w (by omega) hk).mono fun e w' ⟨h1, h2⟩ => ⟨h1, h2 ▸ Below.refl _ _⟩⟩
  · obtain ⟨i, rfl⟩ : ∃ i : Nat, k = (i : Int) := ⟨k.toNat, by omega⟩
    have hi : 0 < i ∧ i ≤ s.size := by omega
    have hr := fun w => refLast_any s i w (by omega) hi.1 hi.2
    cases hd : lastAt s i with
    | none =>
      rw [hd, nextEnd] at hr
      exact ⟨0, 0, 40, fun w => lastc_bad s i w hm hi hd, fun w => (hr w).mono fun e w' ⟨h1, h2⟩ => ⟨h1, belowg' h2⟩⟩
    | some x =>
      obtain ⟨r, n⟩ := x
      rw [hd, nextEnd] at hr
      exact ⟨r, n, 0, fun w => lastc_ok s i r n w hm hi hd, fun w => (hr w).mono fun e w' ⟨h1, h2⟩ => ⟨h1, belowg' h2⟩⟩

theorem both_cut (s : ByteArray) (k : Int) (hs : s.size ≤ 3000) (hk : k ≤ 9223372036854775807) : ∃ (u : ByteArray) (c : Int),
    (∀ w, Calls Try.prog 18 #[.string s, .int .i64 k] w fun e w' => e = .returned (.tuple #[.string u, .int .i64 c]) ∧ Below w.heap.size w w') ∧
    (∀ w, Calls Try.prog 19 #[.string s, .int .i64 k] w fun e w' => e = .returned (.tuple #[.string u, .int .i64 c]) ∧ Below w.heap.size w w') := by
  have hsz : s.data.toList.length = s.size := by simp
  by_cases h0 : k < 0
  · exact ⟨_, 1, fun w => (neg_utf.Cut s k w h0).mono fun e w' ⟨h1, h2⟩ => ⟨h1, h2 ▸ Below.refl _ _⟩, fun w => (neg_lecternref04.Cut s k w h0).mono fun e w' ⟨h1, h2⟩ => ⟨h1, h2 ▸ Below.refl _ _⟩⟩
  · obtain ⟨i, rfl⟩ : ∃ i : Nat, k = (i : Int) := ⟨k.toNat, by omega⟩
    by_cases hv : tot s.data.toList = s.size
    · exact ⟨_, 0, fun w => cut_ok s i w (by omega) (by omega) (by rw [hsz]; exact hv), fun w => (refCut_ok s i w (by omega) (by omega) hv).mono fun e w' ⟨h1, h2⟩ => ⟨h1, belowg' h2⟩⟩
    · exact ⟨_, 40, fun w => cut_bad s i w (by omega) (by rw [hsz]; exact hv), fun w => (refCut_bad s i w (by omega) hv).mono fun e w' ⟨h1, h2⟩ => ⟨h1, belowg' h2⟩⟩

theorem both_text (s : ByteArray) (hs : s.size ≤ 3000) : ∃ (p x : Int) (R : List Int), R.length ≤ 1048576 ∧
    (∀ w, Calls Try.prog 9 #[.string s] w fun e w' => e = .returned (.tuple #[.int .i64 p, .int .i64 x]) ∧ Below w.heap.size w w') ∧
    (∀ w, Calls Try.prog 10 #[.string s] w fun e w' => e = .returned (.tuple #[.int .i64 p, .int .i64 x]) ∧ Below w.heap.size w w') ∧
    (∀ w, Calls Try.prog 11 #[.string s] w fun e w' => ∃ v, e = .returned (.tuple #[v, .int .i64 p, .int .i64 x]) ∧ Runes w' v R ∧ Below w.heap.size w w') ∧
    (∀ w, Calls Try.prog 12 #[.string s] w fun e w' => ∃ v, e = .returned (.tuple #[v, .int .i64 p, .int .i64 x]) ∧ Runes w' v R ∧ Below w.heap.size w w') ∧
    (∀ w, Calls Try.prog 20 #[.string s] w fun e w' => e = .returned (.tuple #[.int .i64 (R.length : Int), .int .i64 x]) ∧ Below w.heap.size w w') := by
  have hm : s.size ≤ maxLen := by unfold maxLen; omega
  have hsz : s.data.toList.length = s.size := by simp
  by_cases hv : tot s.data.toList = s.size
  · have hv' : tot s.data.toList = s.data.toList.length := by rw [hsz]; exact hv
    exact ⟨0, 0, runes s.data.toList, runes_len s (by omega), fun w => check_ok s w hm hv', fun w => (refCheck_ok s w (by omega) hv).mono fun e w' ⟨h1, h2⟩ => ⟨h1, belowg' h2⟩,
      fun w => decode_ok s w (by omega) hv', fun w => (refDecode_ok s w (by omega) hv).mono fun e w' ⟨⟨v, h1, h2, _⟩, h3⟩ => ⟨v, h1, h2 rfl, belowg' h3⟩, fun w => count_ok s w (by omega) hv'⟩
  · have hv' : tot s.data.toList ≠ s.data.toList.length := by rw [hsz]; exact hv
    have hnil : ∀ w : World, Runes w (.slice none 0 0) [] := fun w => .inl ⟨rfl, rfl⟩
    exact ⟨tot s.data.toList, 40, [], by simp, fun w => check_bad s w hm hv', fun w => (refCheck_bad s w (by omega) hv).mono fun e w' ⟨h1, h2⟩ => ⟨h1, belowg' h2⟩,
      fun w => (decode_bad s w (by omega) hv').mono fun e w' ⟨h1, h2⟩ => ⟨_, h1, hnil w', h2⟩, fun w => (refDecode_bad s w (by omega) hv).mono fun e w' ⟨⟨v, h1, _, h2⟩, h3⟩ => ⟨v, h1, by rw [h2 (by decide)]; exact hnil w', belowg' h3⟩, fun w => count_bad s w (by omega) hv'⟩

set_option maxRecDepth 100000 in
set_option maxHeartbeats 8000000 in
theorem reads_law (s : ByteArray) (k m : Int) (w : World) (hs : s.size ≤ 3000) (hmm : m ≤ 9223372036854775807) :
    Calls Try.prog 3 #[.string s, .int .i64 k, .int .i64 m] w fun e w' => e = .returned (.bool true) ∧ Below w.heap.size w w' := by
  obtain ⟨p, x, R, hRl, hC, hC', hD, hD', hN⟩ := both_text s hs
  obtain ⟨n1, n2, n3, hX, hX'⟩ := both_next s k hs
  obtain ⟨l1, l2, l3, hL, hL'⟩ := both_last s k hs
  obtain ⟨u, c, hU, hU'⟩ := both_cut s m hs hmm
  have huu : (u.toList == u.toList) = true := by simp
  go_enter Try.func3, Try.ntmps3
  go_wp2_with (first
    | (go_at_call 8; refine (awake_any _).mono ?_; rintro e w1 ⟨rfl, hb1⟩)
    | (go_at_call 9; refine (hC _).mono ?_; rintro e w2 ⟨rfl, hb2⟩; have b2 := below_on hb1 hb2; clear hb1 hb2)
    | (go_at_call 10; refine (hC' _).mono ?_; rintro e w3 ⟨rfl, hb3⟩; have b3 := below_on b2 hb3; clear b2 hb3)
    | (go_at_call 11; refine (hD _).mono ?_; rintro e w4 ⟨v4, rfl, hv4, hb4⟩; have b4 := below_on b3 hb4; clear b3 hb4)
    | (go_at_call 13; refine (same_any _ _ R R _ hv5 hw5 hRl hRl rfl).mono ?_; rintro e w6 ⟨rfl, ⟨q, rfl⟩⟩)
    | (go_at_call 14; refine (hX _).mono ?_; rintro e w7 ⟨rfl, hb7⟩)
    | (go_at_call 15; refine (hX' _).mono ?_; rintro e w8 ⟨rfl, hb8⟩)
    | (go_at_call 16; refine (hL _).mono ?_; rintro e w9 ⟨rfl, hb9⟩)
    | (go_at_call 17; refine (hL' _).mono ?_; rintro e w10 ⟨rfl, hb10⟩)
    | (go_at_call 18; refine (hU _).mono ?_; rintro e w11 ⟨rfl, hb11⟩)
    | (go_at_call 19; refine (hU' _).mono ?_; rintro e w12 ⟨rfl, hb12⟩)
    | (go_at_call 20; refine (hN _).mono ?_; rintro e w13 ⟨rfl, hb13⟩)
    | (go_at_call 12; refine (hD' _).mono ?_; rintro e w5 ⟨v5, rfl, hw5, hb5⟩; have hv5 := hv4.all hb5; have b5 := below_on b4 hb5; obtain ⟨a4, c4, rfl, _⟩ := hv5.form; obtain ⟨a5, c5, rfl, _⟩ := hw5.form; clear b4 hb5))
  refine (hD' _).mono ?_
  rintro e w14 ⟨v14, rfl, -, hb14⟩
  have b6 : Below w.heap.size w (w5.drewN q) := ⟨b5.os, b5.tape, b5.output, b5.size, b5.block⟩
  have b14 := below_on (below_on (below_on (below_on (below_on (below_on (below_on (below_on b6 hb7) hb8) hb9) hb10) hb11) hb12) hb13) hb14
  clear b5 b6 hb7 hb8 hb9 hb10 hb11 hb12 hb13 hb14
  go_wp2
  go_ret
  exact ⟨by simp, b14⟩

set_option maxRecDepth 100000 in
set_option maxHeartbeats 1000000 in
theorem reads_big (s : ByteArray) (k m : Int) (w : World) (hs : 3000 < s.size) (h1 : s.size ≤ 140737488355328) :
    Calls Try.prog 3 #[.string s, .int .i64 k, .int .i64 m] w fun e w' => e = .returned (.bool true) ∧ Below w.heap.size w w' := by
  go_enter Try.func3, Try.ntmps3
  go_wp2_with (go_at_call 8; refine (awake_any _).mono ?_; rintro e w1 ⟨rfl, hb1⟩)
  go_ret
  exact ⟨by simp, hb1⟩

theorem UtfReads_walk (w : World) (s : ByteArray) (h1 : s.size ≤ 140737488351232) (k : Int) (_hk : (Lit.int .i64 k).wf = true) (m : Int) (hm : (Lit.int .i64 m).wf = true) :
    Calls Try.prog 3 #[.string s, .int .i64 k, .int .i64 m] w fun e w' => e = .returned (.bool true) ∧ Below w.heap.size w w' := by
  have hb := bounds_i64 hm
  by_cases h : s.size ≤ 3000
  · exact reads_law s k m w h (by omega)
  · exact reads_big s k m w (by omega) (by omega)
end Go.Proofs.Ytmpipgjdnpgemaa
