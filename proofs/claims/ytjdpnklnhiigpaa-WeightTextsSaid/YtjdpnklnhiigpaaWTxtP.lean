/-
  LAYER 7 (weight): what Read tells, of both; there and back.
-/
import Derived.Test.YtjdpnklnhiigpaaWReadS
namespace Go.Proofs.Ytjdpnklnhiigpaa
set_option maxRecDepth 100000
open Go.RowKit Go.Lib

/-- What Read tells of a text: the element, how many bytes, the error. -/
def rdRes (s : ByteArray) : El × Int × Int :=
  if s.size < 17 then (elNone, 0, 3) else if tests s = true then (if elCheck (rdEl s) = 0 then (rdEl s, 17, 0) else (elNone, 0, elCheck (rdEl s))) else (elNone, 0, 3)

theorem elN : elNone.agg = elNone' := rfl
theorem rd_tuple (s : ByteArray) (h : 17 ≤ s.size) : (if tests s = true then (if elCheck (rdEl s) = 0 then #[(rdEl s).agg, .int .i64 17, .int .i64 0] else #[elNone', .int .i64 0, .int .i64 (elCheck (rdEl s))]) else #[elNone', .int .i64 0, .int .i64 3] : Array Value) = #[(rdRes s).1.agg, .int .i64 (rdRes s).2.1, .int .i64 (rdRes s).2.2] := by
  unfold rdRes
  rw [if_neg (show ¬ s.size < 17 by omega)]
  by_cases h1 : tests s = true
  · by_cases h2 : elCheck (rdEl s) = 0
    · simp only [if_pos h1, if_pos h2]
    · simp only [if_pos h1, if_neg h2, elN]
  · simp only [if_neg h1, elN]

theorem rd_any (s : ByteArray) (hs : s.size ≤ 200000000000000) (w : World) : Calls Try.prog 15 #[.string s] w fun e w' => e = .returned (.tuple #[(rdRes s).1.agg, .int .i64 (rdRes s).2.1, .int .i64 (rdRes s).2.2]) ∧ w.grownBy w' none := by
  by_cases h : s.size < 17
  · have := read_short s h w
    unfold rdRes
    rw [if_pos h]
    exact this
  · have := read_long s (by omega) hs w
    rw [form_tests s (by omega), rd_tuple s (by omega)] at this
    exact this
theorem refRd_any (s : ByteArray) (hs : s.size ≤ 200000000000000) (w : World) : Calls Try.prog 16 #[.string s] w fun e w' => e = .returned (.tuple #[(rdRes s).1.agg, .int .i64 (rdRes s).2.1, .int .i64 (rdRes s).2.2]) ∧ w.grownBy w' none := by
  by_cases h : s.size < 17
  · have := refRead_short s h w
    unfold rdRes
    rw [if_pos h]
    exact this
  · have := refRead_long s (by omega) hs w
    rw [rd_tuple s (by omega)] at this
    exact this

theorem digits_back (n : Nat) (h : n < 65536) : ((dv (hx (n / 4096 % 16)) * 16 + dv (hx (n / 256 % 16))) * 16 + dv (hx (n / 16 % 16))) * 16 + dv (hx (n % 16)) = n := by
  have a := (dv_hx ⟨n / 4096 % 16, by omega⟩).1
  have b := (dv_hx ⟨n / 256 % 16, by omega⟩).1
  have c := (dv_hx ⟨n / 16 % 16, by omega⟩).1
  have d := (dv_hx ⟨n % 16, by omega⟩).1
  dsimp only at a b c d
  rw [a, b, c, d]
  omega
theorem dig_hx (k : Nat) (h : k < 16) : isDig (hx k) = true := (dv_hx ⟨k, h⟩).2.1

theorem show_back (p s t : Nat) (v : Bool) (r : ByteArray) (hp : p < 65536) (hs : s < 65536) (ht : t < 65536) (hok : elCheck ⟨(p : Int), (s : Int), (t : Int), v⟩ = 0) :
    rdRes ((⟨(showL p s t v).toArray⟩ : ByteArray) ++ r) = (⟨(p : Int), (s : Int), (t : Int), v⟩, 17, 0) := by
  obtain ⟨b, hb⟩ : ∃ b, b = (⟨(showL p s t v).toArray⟩ : ByteArray) ++ r := ⟨_, rfl⟩
  rw [← hb]
  have hl : b.data.toList = showL p s t v ++ r.data.toList := by rw [hb]; simp
  have hsz : ¬ b.size < 17 := by
    have : b.size = b.data.toList.length := by simp
    rw [this, hl]
    simp [showL, dg4]
  have hg := bAt_get b
  rw [hl] at hg
  unfold showL dg4 at hg
  have g0 : bAt b 0 = 91 := hg 0
  have g1 : bAt b 1 = (if v = true then 42 else 46) := hg 1
  have g2 : bAt b 2 = hx (p / 4096 % 16) := hg 2
  have g3 : bAt b 3 = hx (p / 256 % 16) := hg 3
  have g4 : bAt b 4 = hx (p / 16 % 16) := hg 4
  have g5 : bAt b 5 = hx (p % 16) := hg 5
  have g6 : bAt b 6 = 46 := hg 6
  have g7 : bAt b 7 = hx (s / 4096 % 16) := hg 7
  have g8 : bAt b 8 = hx (s / 256 % 16) := hg 8
  have g9 : bAt b 9 = hx (s / 16 % 16) := hg 9
  have g10 : bAt b 10 = hx (s % 16) := hg 10
  have g11 : bAt b 11 = 46 := hg 11
  have g12 : bAt b 12 = hx (t / 4096 % 16) := hg 12
  have g13 : bAt b 13 = hx (t / 256 % 16) := hg 13
  have g14 : bAt b 14 = hx (t / 16 % 16) := hg 14
  have g15 : bAt b 15 = hx (t % 16) := hg 15
  have g16 : bAt b 16 = 93 := hg 16
  have r2 : rdS b 2 4 = p := by
    simp only [rdS, Nat.reduceAdd, Nat.zero_mul, Nat.zero_add, g2, g3, g4, g5]
    exact digits_back p hp
  have r7 : rdS b 7 4 = s := by
    simp only [rdS, Nat.reduceAdd, Nat.zero_mul, Nat.zero_add, g7, g8, g9, g10]
    exact digits_back s hs
  have r12 : rdS b 12 4 = t := by
    simp only [rdS, Nat.reduceAdd, Nat.zero_mul, Nat.zero_add, g12, g13, g14, g15]
    exact digits_back t ht
  have hv : (bAt b 1 == 42) = v := by rw [g1]; cases v <;> rfl
  have ht2 : tests b = true := by
    unfold tests
    rw [g0, g6, g11, g16]
    have o2 : okS b 2 4 = true := by simp only [okS, Nat.reduceAdd, g2, g3, g4, g5]; simp [dig_hx _ (Nat.mod_lt _ (show 0 < 16 by decide))]
    have o7 : okS b 7 4 = true := by simp only [okS, Nat.reduceAdd, g7, g8, g9, g10]; simp [dig_hx _ (Nat.mod_lt _ (show 0 < 16 by decide))]
    have o12 : okS b 12 4 = true := by simp only [okS, Nat.reduceAdd, g12, g13, g14, g15]; simp [dig_hx _ (Nat.mod_lt _ (show 0 < 16 by decide))]
    rw [o2, o7, o12, g1]
    cases v <;> rfl
  have he : rdEl b = ⟨(p : Int), (s : Int), (t : Int), v⟩ := by
    unfold rdEl
    rw [r2, r7, r12, hv]
  unfold rdRes
  rw [if_neg hsz, if_pos ht2, he, if_pos hok]
end Go.Proofs.Ytjdpnklnhiigpaa
