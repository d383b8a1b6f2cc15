
/-
  LAYER 4 (utf), plain: the model's own reading of a text's next rune is that of its form, where there is one; what []rune(s) lays, then.
-/
import Derived.Test.YtnnijcafnhhnoaaURun
import Derived.Test.YtnnijcafnhhnoaaUCand
import Derived.Lib.DecodeN
import GoSem.Conv.StringToRunes
namespace Go.Proofs.Ytnnijcafnhhnoaa.U
set_option maxRecDepth 100000

theorem get_str (s : ByteArray) (i j : Nat) (h : i + j < s.size) : ((s.get! (i + j)).toNat : Int) = byteAt (s.data.toList.drop i) j := by
  unfold byteAt
  rw [List.getD_eq_getElem?_getD, List.getElem?_drop, List.getElem?_eq_getElem (by simpa using h)]
  simp only [Option.getD_some, ByteArray.get!, Array.getElem_toList]
  rw [getElem!_pos s.data (i + j) (by simpa using h)]

theorem dec_decode {s : ByteArray} {i r n : Nat} (h : dec (s.data.toList.drop i) = some (r, n)) : Utf8.decode s i = (r, n) := by
  have hd := dec_some h
  have hlen : n ≤ s.size - i := by have := hd.2.2.1; simpa using this
  have hi : i + n ≤ s.size := by omega
  obtain ⟨h1, h2, h3⟩ := (dec_iff _ _ _).1 h
  have hr : r ≤ 1114111 := hd.2.2.2.2.2
  have hsc : r < 55296 ∨ 57343 < r := by simp [scalar] at h1; omega
  rw [Lib.decode_at]
  generalize hN : s.size - i = N at hlen
  have B : ∀ j, j < n → ((s.get! (i + j)).toNat : Int) = byteAt (form r) j := fun j hj => (get_str s i j (by omega)).trans (byteAt_take h3 hj)
  have B0 := B 0 (by omega)
  simp only [Nat.add_zero] at B0
  generalize (s.get! i).toNat = c0 at B0
  unfold wideOf at h2
  unfold form at B B0
  by_cases q1 : r < 128
  · rw [if_pos q1] at h2 B0
    subst h2
    simp only [byteAt, List.getD_cons_zero, ofNat_toNat (show r < 256 by omega)] at B0
    rw [Lib.decodeN, if_pos (by omega)]
    simp only [Prod.mk.injEq, and_true]; omega
  rw [if_neg q1] at h2 B0
  by_cases q2 : r < 2048
  · rw [if_pos q2] at h2 B0
    subst h2
    have B1 := B 1 (by omega)
    rw [if_neg q1, if_pos q2] at B1
    generalize (s.get! (i + 1)).toNat = c1 at B1
    simp only [byteAt, List.getD_cons_zero, List.getD_cons_succ, ofNat_toNat (show 192 + r / 64 < 256 by omega), ofNat_toNat (show 128 + r % 64 < 256 by omega)] at B0 B1
    rw [Lib.decodeN, if_neg (by omega), if_pos ⟨by omega, by omega, by omega⟩, if_pos (by omega)]
    simp only [Prod.mk.injEq, and_true]; omega
  rw [if_neg q2] at h2 B0
  by_cases q3 : r < 65536
  · rw [if_pos q3] at h2 B0
    subst h2
    have B1 := B 1 (by omega)
    have B2 := B 2 (by omega)
    rw [if_neg q1, if_neg q2, if_pos q3] at B1 B2
    generalize (s.get! (i + 1)).toNat = c1 at B1
    generalize (s.get! (i + 2)).toNat = c2 at B2
    simp only [byteAt, List.getD_cons_zero, List.getD_cons_succ, ofNat_toNat (show 224 + r / 4096 < 256 by omega), ofNat_toNat (show 128 + r / 64 % 64 < 256 by omega), ofNat_toNat (show 128 + r % 64 < 256 by omega)] at B0 B1 B2
    rw [Lib.decodeN, if_neg (by omega), if_neg (by omega), if_pos ⟨by omega, ⟨by omega, by omega⟩, by omega, by omega⟩, if_pos ⟨by omega, by omega⟩]
    simp only [Prod.mk.injEq, and_true]; omega
  · rw [if_neg q3] at h2 B0
    subst h2
    have B1 := B 1 (by omega)
    have B2 := B 2 (by omega)
    have B3 := B 3 (by omega)
    rw [if_neg q1, if_neg q2, if_neg q3] at B1 B2 B3
    generalize (s.get! (i + 1)).toNat = c1 at B1
    generalize (s.get! (i + 2)).toNat = c2 at B2
    generalize (s.get! (i + 3)).toNat = c3 at B3
    simp only [byteAt, List.getD_cons_zero, List.getD_cons_succ, ofNat_toNat (show 240 + r / 262144 < 256 by omega), ofNat_toNat (show 128 + r / 4096 % 64 < 256 by omega), ofNat_toNat (show 128 + r / 64 % 64 < 256 by omega), ofNat_toNat (show 128 + r % 64 < 256 by omega)] at B0 B1 B2 B3
    rw [Lib.decodeN, if_neg (by omega), if_neg (by omega), if_neg (by omega), if_pos ⟨by omega, ⟨by omega, by omega⟩, ⟨by omega, by omega⟩, by omega, by omega⟩, if_pos ⟨by omega, by omega⟩]
    simp only [Prod.mk.injEq, and_true]; omega

/-- A rune's cell. -/
def runeCells (l : List Int) : List Value := l.map (Value.int .i32)
/-- The scalars of a text, from the front. -/
def runes (l : List UInt8) : List Int := (rs l).map fun x => (x.1 : Int)
theorem runes_nil : runes [] = [] := rfl
theorem runes_some {l : List UInt8} {r n : Nat} (h : dec l = some (r, n)) : runes l = (r : Int) :: runes (l.drop n) := by
  unfold runes; rw [rs_some h]; rfl

theorem runesFrom_eq (s : ByteArray) : ∀ (f i : Nat) (acc : Array Value), i ≤ s.size → s.size - i ≤ f → tot (s.data.toList.drop i) = s.size - i →
    Conv.runesFrom s f i acc = acc ++ (runeCells (runes (s.data.toList.drop i))).toArray
  | 0, i, acc, h1, h2, h3 => by
    rw [Conv.runesFrom, List.drop_eq_nil_of_le (by simp; omega)]
    simp [runes_nil, runeCells]
  | f + 1, i, acc, h1, h2, h3 => by
    rw [Conv.runesFrom]
    by_cases hi : i < s.size
    · rw [if_pos hi]
      cases hd : dec (s.data.toList.drop i) with
      | none => rw [tot_none hd] at h3; omega
      | some x =>
        obtain ⟨r, n⟩ := x
        have hs := dec_some hd
        have hl : n ≤ s.size - i := by simpa using hs.2.2.1
        rw [tot_some hd, List.drop_drop] at h3
        rw [dec_decode hd]
        simp only
        rw [runesFrom_eq s f (i + n) _ (by omega) (by omega) (by omega), runes_some hd, List.drop_drop]
        simp [runeCells]
    · rw [if_neg hi, List.drop_eq_nil_of_le (by simp; omega)]
      simp [runes_nil, runeCells]
end Go.Proofs.Ytnnijcafnhhnoaa.U
