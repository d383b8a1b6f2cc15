/-
  LAYER 3 (crc): Extend, Sum: the table's road and the reference's; Mask, Unmask.
-/
import Derived.Test.YtilbccjgaaembaaROnce
namespace Go.Proofs.Ytilbccjgaaembaa
set_option maxRecDepth 100000
open Go.RowKit Go.Lib

/-- A slice whose bytes do not lie in block t. -/
def Off (t : Nat) (v : Value) (bs : List UInt8) : Prop := bs = [] ∨ v.ownBlock ≠ some t
theorem Reads.off {w w' : World} {t : Nat} {v : Value} {bs : List UInt8} (h : Reads w v bs) (ho : Off t v bs) (hg : w.grownBy w' (some t)) : Reads w' v bs := by
  rcases ho with rfl | ho
  · rcases h with ⟨hh, _⟩ | ⟨b, off, c, hh, h1, h2, _⟩
    · exact .inl ⟨hh, rfl⟩
    · exact .inr ⟨b, off, c, hh, h1, h2, fun i u hu => by simp at hu⟩
  · exact h.kept hg (.inr ho)
theorem Reads.get {w : World} {a : Option Addr} {l c : Nat} {bs : List UInt8} (h : Reads w (.slice a l c) bs) {i : Nat} (hi : i < bs.length) :
    ∃ b off, a = some ⟨b, off, none⟩ ∧ w.cell? ⟨b, off + i, none⟩ = some (.int .u8 ((bs[i]).toNat : Int)) := by
  rcases h with ⟨_, rfl⟩ | ⟨b, off, cap, h, _, _, hc⟩
  · simp at hi
  · simp at h
    obtain ⟨rfl, _, _⟩ := h
    exact ⟨b, off, rfl, hc i _ (by rw [List.getElem?_eq_getElem hi])⟩

theorem xor_ones (s : Nat) (h : s < 4294967296) : 4294967295 ^^^ s = not32 s := by
  apply Nat.eq_of_testBit_eq
  intro i
  have e : not32 s = 2 ^ 32 - (s + 1) := by unfold not32; omega
  rw [e, Nat.testBit_two_pow_sub_succ (by omega), Nat.testBit_xor, show (4294967295 : Nat) = 2 ^ 32 - 1 from rfl, Nat.testBit_two_pow_sub_one]
  by_cases hi : i < 32
  · simp [hi]
  · have : s.testBit i = false := Nat.testBit_lt_two_pow (Nat.lt_of_lt_of_le h (by rw [show 4294967296 = 2 ^ 32 from rfl]; exact Nat.pow_le_pow_right (by decide) (by omega)))
    simp [hi, this]
theorem not_u32 (c : Nat) (h : c < 4294967296) : bits .xor .u32 IntKind.u32.max (c : Int) = ((not32 c : Nat) : Int) := by
  rw [show IntKind.u32.max = ((4294967295 : Nat) : Int) from rfl, u32_xor_nat 4294967295 c (by decide) h, xor_ones c h]

set_option maxHeartbeats 4000000 in
theorem Extend_with (t : Nat) (dn : Bool) (row : Option Nat) (s : Nat) (a : Option Addr) (l c : Nat) (bs : List UInt8) (w : World) (hs : s < 4294967296) (hr : Reads w (.slice a l c) bs) (hrow : row = none ∨ (row = some t ∧ Off t (.slice a l c) bs))
    (hB : Calls Try.prog 91 #[.pointer (some ⟨t, 0, none⟩), .slice a l c] w fun e w' => e = .returned (.bool true) ∧ w.grownBy w' row ∧ Tbl w' t dn) (hd : 0 < bs.length → dn = true) :
    Calls Try.prog 54 #[.pointer (some ⟨t, 0, none⟩), .int .u32 (s : Int), .slice a l c] w fun e w' => e = .returned (.int .u32 ((ext s bs : Nat) : Int)) ∧ w.grownBy w' row ∧ Tbl w' t dn := by
  obtain ⟨rfl, hc, hm⟩ := hr.slice
  unfold maxLen at hm
  have hro : ∀ w2, w.grownBy w2 row → Reads w2 (.slice a bs.length c) bs := by
    intro w2 hg
    rcases hrow with rfl | ⟨rfl, ho⟩
    · exact hr.new hg
    · exact hr.off ho hg
  clear hrow
  have hsg : IntKind.u32.signed = false := rfl
  have hn1 := not_u32 s hs
  have hE := Lib.hid (show ext s bs = not32 (bytes (not32 s) bs) from rfl)
  have hlt := not32_lt s
  generalize ext s bs = r at hE ⊢
  generalize not32 s = z at hn1 hE hlt
  go_enter Try.func54, Try.ntmps54
  go_wp2_with (go_at_call 91; refine hB.mono ?_; rintro e w2 ⟨rfl, hg2, hT2⟩; have hr2 := hro _ hg2)
  clear hn1
  go_loop [1, 17] (fun v i => ∃ k : Nat, k ≤ bs.length ∧ i = .int .i64 (k : Int) ∧ v = .int .u32 ((bytes z (bs.take k) : Nat) : Int)) (fun _ i => bs.length - (intOf i).toNat)
  case atStart => exact ⟨0, Nat.zero_le _, rfl, rfl⟩
  case round =>
    obtain ⟨k, hk, rfl, rfl⟩ := hrel
    by_cases hkl : k < bs.length
    · obtain ⟨b, off, rfl, hcell⟩ := hr2.get hkl
      have hstep := Lib.hid (show bytes z (bs.take (k + 1)) = byt (bytes z (bs.take k)) (bs[k]).toNat by rw [List.take_succ_eq_append_getElem hkl, bytes_snoc])
      have hcl := bytes_lt (bs.take k) hlt
      generalize bytes z (bs.take k) = q at hstep hcl ⊢
      have hu := (bs[k]).toNat_lt
      generalize (bs[k]).toNat = u at hcell hstep hu
      have hT3 : Tab w2 t true 1 0 1 (rnds 8) := by
        have := hT2
        rw [hd (by omega)] at this
        exact this
      have hq8 : q % 256 ^^^ u < 256 := Nat.xor_lt_two_pow (n := 8) (by omega) (by omega)
      have hx8 : bits .xor .u8 ((q : Int) % 256) (u : Int) = ((q % 256 ^^^ u : Nat) : Int) := by
        rw [show (q : Int) % 256 = ((q % 256 : Nat) : Int) by omega, u8_xor_nat _ _ (by omega) hu]
      have hx32 : bits .xor .u32 ((q : Int) / 256) ((rnds 8 (q % 256 ^^^ u) : Nat) : Int) = ((byt q u : Nat) : Int) := by
        rw [show (q : Int) / 256 = ((q / 256 : Nat) : Int) by omega, u32_xor_nat _ _ (by omega) (rnds_lt 8 (by omega)), byt_table q u hu]
      generalize byt q u = y at hstep hx32
      generalize q % 256 ^^^ u = j at hx8 hx32 hq8
      have hcT := hT3.num hq8
      generalize rnds 8 j = v at hcT hx32
      clear hT3 hr2 hT2 hg2 hr hro hB hd
      go_wp2
      exact ⟨⟨k + 1, by omega, by go_num, by rw [hstep.out]⟩, by simp [intOf]; omega⟩
    · have hkl : k = bs.length := by omega
      subst hkl
      rw [List.take_length]
      have hn2 := not_u32 _ (bytes_lt bs hlt)
      go_wp2
      go_ret
      exact ⟨by rw [hE.out]; rfl, hg2, hT2⟩

theorem Extend_any (t : Nat) (dn : Bool) (s : Nat) (a : Option Addr) (l c : Nat) (bs : List UInt8) (w : World) (hT : Tbl w t dn) (hs : s < 4294967296) (hr : Reads w (.slice a l c) bs) (ho : Off t (.slice a l c) bs) :
    Calls Try.prog 54 #[.pointer (some ⟨t, 0, none⟩), .int .u32 (s : Int), .slice a l c] w fun e w' => e = .returned (.int .u32 ((ext s bs : Nat) : Int)) ∧ w.grownBy w' (some t) ∧ Tbl w' t (dn || decide (0 < bs.length)) := by
  obtain ⟨rfl, hc, hm⟩ := hr.slice
  exact Extend_with t _ (some t) s a _ c bs w hs hr (.inr ⟨rfl, ho⟩) (begin_any t dn a bs.length c w hT) (fun h => by simp [h])
/-- Of a table whose numbers are there: nothing is turned. -/
theorem Extend_done (t : Nat) (s : Nat) (a : Option Addr) (l c : Nat) (bs : List UInt8) (w : World) (hT : Tbl w t true) (hs : s < 4294967296) (hr : Reads w (.slice a l c) bs) :
    Calls Try.prog 54 #[.pointer (some ⟨t, 0, none⟩), .int .u32 (s : Int), .slice a l c] w fun e w' => e = .returned (.int .u32 ((ext s bs : Nat) : Int)) ∧ w.grownBy w' none ∧ Tbl w' t true :=
  Extend_with t true none s a l c bs w hs hr (.inl rfl) ((begin_done t a l c w hT).mono fun _ _ ⟨h1, h2⟩ => ⟨h1, h2 ▸ World.grownBy.refl _ _, h2 ▸ hT⟩) (fun _ => rfl)

set_option maxHeartbeats 1000000 in
theorem Sum_done (t : Nat) (a : Option Addr) (l c : Nat) (bs : List UInt8) (w : World) (hT : Tbl w t true) (hr : Reads w (.slice a l c) bs) :
    Calls Try.prog 52 #[.pointer (some ⟨t, 0, none⟩), .slice a l c] w fun e w' => e = .returned (.int .u32 ((sum bs : Nat) : Int)) ∧ w.grownBy w' none ∧ Tbl w' t true := by
  have hE := Extend_done t 0 a l c bs w hT (by decide) hr
  rw [show ((0 : Nat) : Int) = 0 from rfl] at hE
  go_enter Try.func52, Try.ntmps52
  go_wp2_with (go_at_call 54; refine hE.mono ?_; rintro e w2 ⟨rfl, hg2, hT2⟩)
  go_ret
  exact ⟨rfl, hg2, hT2⟩

set_option maxHeartbeats 1000000 in
theorem Sum_any (t : Nat) (dn : Bool) (a : Option Addr) (l c : Nat) (bs : List UInt8) (w : World) (hT : Tbl w t dn) (hr : Reads w (.slice a l c) bs) (ho : Off t (.slice a l c) bs) :
    Calls Try.prog 52 #[.pointer (some ⟨t, 0, none⟩), .slice a l c] w fun e w' => e = .returned (.int .u32 ((sum bs : Nat) : Int)) ∧ w.grownBy w' (some t) ∧ Tbl w' t (dn || decide (0 < bs.length)) := by
  have hE := Extend_any t dn 0 a l c bs w hT (by decide) hr ho
  rw [show ((0 : Nat) : Int) = 0 from rfl] at hE
  go_enter Try.func52, Try.ntmps52
  go_wp2_with (go_at_call 54; refine hE.mono ?_; rintro e w2 ⟨rfl, hg2, hT2⟩)
  go_ret
  exact ⟨rfl, hg2, hT2⟩

theorem Extend_none (p : Value) (s : Int) (v : Value) (w : World) (hm : Calls Try.prog 98 #[p] w fun e w' => e = .returned (.bool false) ∧ w = w') :
    Calls Try.prog 54 #[p, .int .u32 s, v] w fun e w' => e = .returned (.int .u32 0) ∧ w = w' := by
  go_enter Try.func54, Try.ntmps54
  go_wp2_with (go_at_call 91; refine (begin_none p v w hm).mono ?_; rintro e w' ⟨rfl, rfl⟩)
  go_ret
  exact ⟨rfl, rfl⟩
theorem Sum_none (p : Value) (v : Value) (w : World) (hm : Calls Try.prog 98 #[p] w fun e w' => e = .returned (.bool false) ∧ w = w') :
    Calls Try.prog 52 #[p, v] w fun e w' => e = .returned (.int .u32 0) ∧ w = w' := by
  go_enter Try.func52, Try.ntmps52
  go_wp2_with (go_at_call 54; refine (Extend_none p 0 v w hm).mono ?_; rintro e w' ⟨rfl, rfl⟩)
  go_ret
  exact ⟨rfl, rfl⟩

/-! The reference's. -/

set_option maxHeartbeats 4000000 in
theorem refTurn_any (c x : Nat) (w : World) (hc : c < 4294967296) (hx : x < 256) :
    Calls Try.prog 92 #[.int .u32 (c : Int), .int .u8 (x : Int)] w fun e w' => e = .returned (.int .u32 ((byt c x : Nat) : Int)) ∧ w = w' := by
  have h0 : bits .xor .u32 (c : Int) (x : Int) = ((c ^^^ x : Nat) : Int) := u32_xor_nat c x hc (by omega)
  have hz := Nat.xor_lt_two_pow (n := 32) hc (show x < 2 ^ 32 by omega)
  have hE := Lib.hid (show byt c x = rnds 8 (c ^^^ x) from rfl)
  generalize byt c x = r at hE ⊢
  generalize c ^^^ x = z at h0 hz hE
  go_enter Try.func92, Try.ntmps92
  go_wp2
  go_loop [0, 5] (fun v i => ∃ j : Nat, j ≤ 8 ∧ i = .int .i64 (j : Int) ∧ v = .int .u32 ((rnds j z : Nat) : Int)) (fun _ i => 8 - (intOf i).toNat)
  case atStart => exact ⟨0, by omega, rfl, rfl⟩
  case round =>
    obtain ⟨j, hj, rfl, rfl⟩ := hrel
    by_cases hj8 : j < 8
    · have hs := Lib.hid (rnds_succ j z)
      have hl := rnds_lt j hz
      generalize rnds j z = q at hs hl ⊢
      have hp := xor_poly q hl
      by_cases ho : q % 2 = 1
      · have h1 : ((q : Int) % 2 == 1) = true := by simp; omega
        go_wp2
        refine ⟨⟨j + 1, by omega, by go_num, ?_⟩, by simp [intOf]; omega⟩
        rw [hs.out]
        unfold rnd
        rw [if_pos ho]
      · have h1 : ((q : Int) % 2 == 1) = false := by simp; omega
        go_wp2
        refine ⟨⟨j + 1, by omega, by go_num, ?_⟩, by simp [intOf]; omega⟩
        rw [hs.out]
        unfold rnd
        rw [if_neg ho]
        simp
    · have hj : j = 8 := by omega
      subst hj
      go_wp2
      go_ret
      exact ⟨by rw [hE.out]; rfl, rfl⟩

set_option maxHeartbeats 4000000 in
theorem refExtend_any (s : Nat) (a : Option Addr) (l c : Nat) (bs : List UInt8) (w : World) (hs : s < 4294967296) (hr : Reads w (.slice a l c) bs) :
    Calls Try.prog 55 #[.int .u32 (s : Int), .slice a l c] w fun e w' => e = .returned (.int .u32 ((ext s bs : Nat) : Int)) ∧ w = w' := by
  obtain ⟨rfl, hc, hm⟩ := hr.slice
  unfold maxLen at hm
  have hsg : IntKind.u32.signed = false := rfl
  have hn1 := not_u32 s hs
  have hE := Lib.hid (show ext s bs = not32 (bytes (not32 s) bs) from rfl)
  have hlt := not32_lt s
  generalize ext s bs = r at hE ⊢
  generalize not32 s = z at hn1 hE hlt
  go_enter Try.func55, Try.ntmps55
  go_wp2
  clear hn1
  go_loop [5, 12] (fun v i => ∃ k : Nat, k ≤ bs.length ∧ i = .int .i64 (k : Int) ∧ v = .int .u32 ((bytes z (bs.take k) : Nat) : Int)) (fun _ i => bs.length - (intOf i).toNat)
  case atStart => exact ⟨0, Nat.zero_le _, rfl, rfl⟩
  case round =>
    obtain ⟨k, hk, rfl, rfl⟩ := hrel
    by_cases hkl : k < bs.length
    · obtain ⟨b, off, rfl, hcell⟩ := hr.get hkl
      have hstep := Lib.hid (show bytes z (bs.take (k + 1)) = byt (bytes z (bs.take k)) (bs[k]).toNat by rw [List.take_succ_eq_append_getElem hkl, bytes_snoc])
      have hcl := bytes_lt (bs.take k) hlt
      generalize bytes z (bs.take k) = q at hstep hcl ⊢
      have hu := (bs[k]).toNat_lt
      generalize (bs[k]).toNat = u at hcell hstep hu
      have hT := refTurn_any q u w hcl hu
      clear hr
      go_wp2_with (go_at_call 92; refine hT.mono ?_; rintro e w' ⟨rfl, rfl⟩)
      exact ⟨⟨k + 1, by omega, by go_num, by rw [hstep.out]⟩, by simp [intOf]; omega⟩
    · have hkl : k = bs.length := by omega
      subst hkl
      rw [List.take_length]
      have hn2 := not_u32 _ (bytes_lt bs hlt)
      go_wp2
      go_ret
      exact ⟨by rw [hE.out]; rfl, rfl⟩

theorem refSum_any (a : Option Addr) (l c : Nat) (bs : List UInt8) (w : World) (hr : Reads w (.slice a l c) bs) :
    Calls Try.prog 53 #[.slice a l c] w fun e w' => e = .returned (.int .u32 ((sum bs : Nat) : Int)) ∧ w = w' := by
  have hE := refExtend_any 0 a l c bs w (by decide) hr
  rw [show ((0 : Nat) : Int) = 0 from rfl] at hE
  go_enter Try.func53, Try.ntmps53
  go_wp2_with (go_at_call 55; refine hE.mono ?_; rintro e w2 ⟨rfl, rfl⟩)
  go_ret
  exact ⟨rfl, rfl⟩
end Go.Proofs.Ytilbccjgaaembaa
