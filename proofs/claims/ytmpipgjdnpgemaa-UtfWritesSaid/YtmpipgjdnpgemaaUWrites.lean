/-
  LAYER 4 (utf): UtfWrites.
-/
import Derived.Test.YtmpipgjdnpgemaaUEnc
import Derived.Test.YtmpipgjdnpgemaaUArgs
namespace Go.Proofs.Ytmpipgjdnpgemaa
set_option maxRecDepth 100000
open Go.RowKit Go.Lib

theorem below_on {w w1 w2 : World} (h : Below w.heap.size w w1) (k : Below w1.heap.size w1 w2) : Below w.heap.size w w2 := h.trans (k.mono h.size)

set_option maxRecDepth 100000 in
set_option maxHeartbeats 4000000 in
theorem writes_bad (a : Option Addr) (n c : Nat) (l : List Int) (k : Nat) (w : World) (hv : Runes w (.slice a n c) l) (hl : l.length ≤ 2000) (h : badAt l = some k) :
    Calls Try.prog 4 #[.slice a n c] w fun e w' => e = .returned (.bool true) ∧ Below w.heap.size w w' := by
  obtain ⟨a', c', hf, _⟩ := hv.form
  simp only [Value.slice.injEq] at hf
  obtain ⟨rfl, rfl, rfl⟩ := hf
  have hk : k < l.length := by obtain ⟨r, h1, _⟩ := badAt_some h; exact (List.getElem?_eq_some_iff.1 h1).1
  replace h := Lib.hid h
  go_enter Try.func4, Try.ntmps4
  go_wp2_with (first
    | (go_at_call 8; refine (awake_any _).mono ?_; rintro e w1 ⟨rfl, hb1⟩; have hv1 := hv.all hb1)
    | (go_at_call 21; refine (encode_bad _ l k _ hv1 (by omega) h.out).mono ?_; rintro e w2 ⟨rfl, rfl⟩)
    | (go_at_call 22; refine (refEncode_bad _ l k _ hv1 (by omega) h.out).mono ?_; rintro e w3 ⟨rfl, hg3⟩; have hv3 := hv1.all (belowg' hg3)))
  have hb3 := below_on hb1 (belowg' hg3)
  clear hb1 hg3 hv hv1
  go_loop [45] (fun vi => ∃ i : Nat, vi = .int .i64 (i : Int) ∧ i ≤ l.length) (fun vi => l.length - (RowKit.intOf vi).toNat)
  case atStart => exact ⟨0, rfl, Nat.zero_le _⟩
  case round =>
    obtain ⟨i, rfl, hi⟩ := hrel
    by_cases hlt : i < l.length
    · obtain ⟨r, hr⟩ : ∃ r, l[i]? = some r := ⟨_, List.getElem?_eq_getElem hlt⟩
      obtain ⟨b, off, rfl, hc⟩ := hv3.cell hr
      clear hr hv3
      have hSc := fun w => scalar_any r w
      have hRc := fun w => rscalar_any r w
      generalize scalar r = q at hSc hRc
      have hqq : (q != q) = false := by simp
      go_wp2_with (first
        | (go_at_call 23; refine (hSc _).mono ?_; rintro e w' ⟨rfl, rfl⟩)
        | (go_at_call 24; refine (hRc _).mono ?_; rintro e w' ⟨rfl, rfl⟩))
      go_round
      case rel => exact ⟨i + 1, by go_num, by omega⟩
      case measure => simp [RowKit.intOf]; omega
    · clear hv3
      go_wp2
      go_ret
      exact ⟨by simp, hb3⟩

set_option maxRecDepth 100000 in
set_option maxHeartbeats 4000000 in
theorem writes_ok (a : Option Addr) (n c : Nat) (l : List Int) (w : World) (hv : Runes w (.slice a n c) l) (hl : l.length ≤ 2000) (h : allSc l) :
    Calls Try.prog 4 #[.slice a n c] w fun e w' => e = .returned (.bool true) ∧ Below w.heap.size w w' := by
  obtain ⟨a', c', hf, _⟩ := hv.form
  simp only [Value.slice.injEq] at hf
  obtain ⟨rfl, rfl, rfl⟩ := hf
  obtain ⟨hrb, hva⟩ := enc_back l h
  have hel : (enc l).length ≤ 8000 := by
    have : ∀ (m : List Int), (enc m).length ≤ 4 * m.length := by
      intro m
      induction m with
      | nil => exact Nat.le_refl _
      | cons r m ih =>
        rw [enc_cons, List.length_append, List.length_cons]
        have : (form r.toNat).length ≤ 4 := by rw [form_length]; unfold wideOf; (repeat' split) <;> omega
        omega
    have := this l
    omega
  have hD := fun w => decode_ok ⟨(enc l).toArray⟩ w (by simp [ByteArray.size]; omega) (by simpa [valid] using hva)
  have hE := fun v w (hv : Runes w v l) => encode_ok v l w hv (by omega) h
  have hR := fun v w (hv : Runes w v l) => refEncode_ok v l w hv (by omega) h
  simp only [hrb] at hD
  obtain ⟨S, hS⟩ : ∃ S, S = enc l := ⟨_, rfl⟩
  rw [← hS] at hD hE hR
  have hSS : (S != S) = false := by simp
  replace h := Lib.hid h
  clear hrb hva hel hS
  go_enter Try.func4, Try.ntmps4
  go_wp2_with (first
    | (go_at_call 8; refine (awake_any _).mono ?_; rintro e w1 ⟨rfl, hb1⟩; have hv1 := hv.all hb1)
    | (go_at_call 21; refine (hE _ _ hv1).mono ?_; rintro e w2 ⟨rfl, rfl⟩)
    | (go_at_call 22; refine (hR _ _ hv1).mono ?_; rintro e w3 ⟨rfl, hg3⟩; have hv3 := hv1.all (belowg' hg3)))
  have hb3 := below_on hb1 (belowg' hg3)
  clear hb1 hg3 hv hv1 hE hR
  go_loop [45] (fun vi => ∃ i : Nat, vi = .int .i64 (i : Int) ∧ i ≤ l.length) (fun vi => l.length - (RowKit.intOf vi).toNat)
  case atStart => exact ⟨0, rfl, Nat.zero_le _⟩
  case round =>
    obtain ⟨i, rfl, hi⟩ := hrel
    by_cases hlt : i < l.length
    · obtain ⟨r, hr⟩ : ∃ r, l[i]? = some r := ⟨_, List.getElem?_eq_getElem hlt⟩
      obtain ⟨b, off, rfl, hc⟩ := hv3.cell hr
      clear hr hv3 hD
      have hSc := fun w => scalar_any r w
      have hRc := fun w => rscalar_any r w
      generalize scalar r = q at hSc hRc
      have hqq : (q != q) = false := by simp
      go_wp2_with (first
        | (go_at_call 23; refine (hSc _).mono ?_; rintro e w' ⟨rfl, rfl⟩)
        | (go_at_call 24; refine (hRc _).mono ?_; rintro e w' ⟨rfl, rfl⟩))
      go_round
      case rel => exact ⟨i + 1, by go_num, by omega⟩
      case measure => simp [RowKit.intOf]; omega
    · go_wp2_with (first
        | (go_at_call 11; refine (hD _).mono ?_; rintro e w4 ⟨v4, rfl, hv4, hb4⟩; have hv5 := hv3.all hb4)
        | (go_at_call 13; refine (same_any _ _ l l _ hv4 hv5 (by omega) (by omega) rfl).mono ?_; rintro e w5 ⟨rfl, ⟨m, rfl⟩⟩))
      go_ret
      have q := below_on hb3 hb4
      exact ⟨by simp, ⟨q.os, q.tape, q.output, q.size, q.block⟩⟩

set_option maxHeartbeats 1000000 in
theorem writes_big (a : Option Addr) (n c : Nat) (w : World) (hl : 2000 < n) (h1 : n ≤ maxLen) :
    Calls Try.prog 4 #[.slice a n c] w fun e w' => e = .returned (.bool true) ∧ Below w.heap.size w w' := by
  unfold maxLen at h1
  go_enter Try.func4, Try.ntmps4
  go_wp2_with (go_at_call 8; refine (awake_any _).mono ?_; rintro e w1 ⟨rfl, hb1⟩)
  go_ret
  exact ⟨by simp, hb1⟩

theorem UtfWrites_walk (w : World) (a : Option Addr) (n c : Nat) (l : List Int) (hv : Runes w (.slice a n c) l) :
    Calls Try.prog 4 #[.slice a n c] w fun e w' => e = .returned (.bool true) ∧ Below w.heap.size w w' := by
  obtain ⟨a', c', hf, h1, h2⟩ := hv.form
  simp only [Value.slice.injEq] at hf
  by_cases h : l.length ≤ 2000
  · cases hb : badAt l with
    | none => exact writes_ok a n c l w hv h (badAt_none hb)
    | some k => exact writes_bad a n c l k w hv h hb
  · exact writes_big a n c w (by omega) (by omega)
end Go.Proofs.Ytmpipgjdnpgemaa
