
/-
  LAYER 4 (utf), plain: what the reference reckons of n bytes, and when it is the form at the front.
-/
import Derived.Test.YtnnijcafnhhnoaaUPure
namespace Go.Proofs.Ytnnijcafnhhnoaa.U
set_option maxRecDepth 100000

def byteAt (l : List UInt8) (i : Nat) : Int := ((l.getD i 0).toNat : Int)
def cand (n : Nat) (l : List UInt8) : Int :=
  if n = 1 then byteAt l 0
  else if n = 2 then (byteAt l 0 - 192) * 64 + byteAt l 1 - 128
  else if n = 3 then ((byteAt l 0 - 224) * 64 + byteAt l 1 - 128) * 64 + byteAt l 2 - 128
  else (((byteAt l 0 - 240) * 64 + byteAt l 1 - 128) * 64 + byteAt l 2 - 128) * 64 + byteAt l 3 - 128

theorem byteAt_take {l m : List UInt8} {n : Nat} (h : l.take n = m) {i : Nat} (hi : i < n) : byteAt l i = byteAt m i := by
  subst h
  unfold byteAt
  rw [List.getD_eq_getElem?_getD, List.getD_eq_getElem?_getD, List.getElem?_take_of_lt hi]

theorem cand_form (r : Nat) (hr : r ≤ 1114111) : cand (wideOf r) (form r) = (r : Int) := by
  unfold wideOf form
  by_cases h1 : r < 128
  · rw [if_pos h1, if_pos h1]
    simp only [cand, if_true, byteAt, List.getD_cons_zero, ofNat_toNat (show r < 256 by omega)]
  rw [if_neg h1, if_neg h1]
  by_cases h2 : r < 2048
  · rw [if_pos h2, if_pos h2]
    simp only [cand, byteAt, List.getD_cons_zero, List.getD_cons_succ, ofNat_toNat (show 192 + r / 64 < 256 by omega), ofNat_toNat (show 128 + r % 64 < 256 by omega)]
    rw [if_neg (by omega), if_pos trivial]
    omega
  rw [if_neg h2, if_neg h2]
  by_cases h3 : r < 65536
  · rw [if_pos h3, if_pos h3]
    simp only [cand, byteAt, List.getD_cons_zero, List.getD_cons_succ, ofNat_toNat (show 224 + r / 4096 < 256 by omega), ofNat_toNat (show 128 + r / 64 % 64 < 256 by omega), ofNat_toNat (show 128 + r % 64 < 256 by omega)]
    rw [if_neg (by omega), if_neg (by omega), if_pos trivial]
    omega
  · rw [if_neg h3, if_neg h3]
    simp only [cand, byteAt, List.getD_cons_zero, List.getD_cons_succ, ofNat_toNat (show 240 + r / 262144 < 256 by omega), ofNat_toNat (show 128 + r / 4096 % 64 < 256 by omega), ofNat_toNat (show 128 + r / 64 % 64 < 256 by omega), ofNat_toNat (show 128 + r % 64 < 256 by omega)]
    rw [if_neg (by omega), if_neg (by omega), if_neg (by omega)]
    omega

theorem cand_take {l m : List UInt8} {n : Nat} (h : l.take n = m) (h1 : 1 ≤ n) (h4 : n ≤ 4) : cand n l = cand n m := by
  rcases (by omega : n = 1 ∨ n = 2 ∨ n = 3 ∨ n = 4) with rfl | rfl | rfl | rfl
  · show byteAt l 0 = byteAt m 0
    rw [byteAt_take h (i := 0) (by omega)]
  · show (byteAt l 0 - 192) * 64 + byteAt l 1 - 128 = (byteAt m 0 - 192) * 64 + byteAt m 1 - 128
    rw [byteAt_take h (i := 0) (by omega), byteAt_take h (i := 1) (by omega)]
  · show ((byteAt l 0 - 224) * 64 + byteAt l 1 - 128) * 64 + byteAt l 2 - 128 = ((byteAt m 0 - 224) * 64 + byteAt m 1 - 128) * 64 + byteAt m 2 - 128
    rw [byteAt_take h (i := 0) (by omega), byteAt_take h (i := 1) (by omega), byteAt_take h (i := 2) (by omega)]
  · show (((byteAt l 0 - 240) * 64 + byteAt l 1 - 128) * 64 + byteAt l 2 - 128) * 64 + byteAt l 3 - 128 = (((byteAt m 0 - 240) * 64 + byteAt m 1 - 128) * 64 + byteAt m 2 - 128) * 64 + byteAt m 3 - 128
    rw [byteAt_take h (i := 0) (by omega), byteAt_take h (i := 1) (by omega), byteAt_take h (i := 2) (by omega), byteAt_take h (i := 3) (by omega)]

theorem scalar_nat {c : Int} (h : scalar c = true) : ∃ r : Nat, c = (r : Int) ∧ r ≤ 1114111 := by
  simp [scalar] at h
  exact ⟨c.toNat, by omega, by omega⟩

/-- n bytes at the front are a form just if what is reckoned of them is a scalar whose form they are. -/
theorem cand_yes {l : List UInt8} {n r : Nat} (hn : n ≤ l.length) (hs : scalar (r : Int) = true) (hf : form r = l.take n) : dec l = some (r, n) := by
  refine (dec_iff l r n).2 ⟨hs, ?_, hf.symm⟩
  rw [← form_length, hf, List.length_take]
  omega
theorem cand_no {l : List UInt8} {n r : Nat} (hd : dec l = some (r, n)) : cand n l = (r : Int) ∧ scalar (r : Int) = true ∧ form r = l.take n := by
  obtain ⟨h1, h2, h3⟩ := (dec_iff l r n).1 hd
  have h4 := dec_some hd
  refine ⟨?_, h1, h3.symm⟩
  rw [cand_take h3 h4.1 h4.2.1, ← h2]
  exact cand_form r h4.2.2.2.2.2
end Go.Proofs.Ytnnijcafnhhnoaa.U
