/-
  LAYER 3 (crc): Extend, Sum: the table's road and the reference's; Mask, Unmask.
-/
import Derived.Test.YtpdacbiiaglodaaGreatQE16
import Derived.Test.YtpdacbiiaglodaaGreatQE12
import Derived.Lib.SlBytesConst
import Derived.Test.YtpdacbiiaglodaaGreatQE13
import Derived.Test.YtpdacbiiaglodaaGreatQE14
import Derived.Stop.RegionWithIn
namespace Go.Proofs.YtpdacbiiaglodaaGreat
set_option maxRecDepth 100000
open Go.RowKit Go.Lib

/-- A slice whose bytes do not lie in block t. -/
def Off (t : Nat) (v : Value) (bs : List UInt8) : Prop := bs = [] ∨ v.ownBlock ≠ some t
theorem Reads.off {w w' : World} {t : Nat} {v : Value} {bs : List UInt8} (h : Reads w v bs) (ho : Off t v bs) (hg : w.grownBy w' (some t)) : Reads w' v bs := by
  rcases ho with rfl | ho
  · rcases h with ⟨hh, _⟩ | ⟨b, off, c, hh, h1, h2, _⟩
    · exact .inl ⟨hh, rfl⟩
    · exact .inr ⟨b, off, c, hh, h1, h2, fun i u hu => by simp at hu⟩
  · exact h.kept hg (.inr ho)
theorem Reads.get {w : World} {a : Option Addr} {l c : Nat} {bs : List UInt8} (h : Reads w (.slice a l c) bs) {i : Nat} (hi : i < bs.length) :
    ∃ b off, a = some ⟨b, off, none⟩ ∧ w.cell? ⟨b, off + i, none⟩ = some (.int .u8 ((bs[i]).toNat : Int)) := by
  rcases h with ⟨_, rfl⟩ | ⟨b, off, cap, h, _, _, hc⟩
  · simp at hi
  · simp at h
    obtain ⟨rfl, _, _⟩ := h
    exact ⟨b, off, rfl, hc i _ (by rw [List.getElem?_eq_getElem hi])⟩

theorem xor_ones (s : Nat) (h : s < 4294967296) : 4294967295 ^^^ s = not32 s := by
  apply Nat.eq_of_testBit_eq
  intro i
  have e : not32 s = 2 ^ 32 - (s + 1) := by unfold not32; omega
  rw [e, Nat.testBit_two_pow_sub_succ (by omega), Nat.testBit_xor, show (4294967295 : Nat) = 2 ^ 32 - 1 from rfl, Nat.testBit_two_pow_sub_one]
  by_cases hi : i < 32
  · simp [hi]
  · have : s.testBit i = false := Nat.testBit_lt_two_pow (Nat.lt_of_lt_of_le h (by rw [show 4294967296 = 2 ^ 32 from rfl]; exact Nat.pow_le_pow_right (by decide) (by omega)))
    simp [hi, this]
theorem not_u32 (c : Nat) (h : c < 4294967296) : bits .xor .u32 IntKind.u32.max (c : Int) = ((not32 c : Nat) : Int) := by
  rw [show IntKind.u32.max = ((4294967295 : Nat) : Int) from rfl, u32_xor_nat 4294967295 c (by decide) h, xor_ones c h]

set_option maxHeartbeats 4000000 in
theorem Extend_with (t : Nat) (dn : Bool) (row : Option Nat) (s : Nat) (a : Option Addr) (l c : Nat) (bs : List UInt8) (w : World) (hs : s < 4294967296) (hr : Reads w (.slice a l c) bs) (hrow : row = none ∨ (row = some t ∧ Off t (.slice a l c) bs))
    (hB : Calls Tryz.prog 140 #[.pointer (some ⟨t, 0, none⟩), .slice a l c] w fun e w' => e = .returned (.bool true) ∧ w.grownBy w' row ∧ Tbl w' t dn) (hd : 0 < bs.length → dn = true) :
    Calls Tryz.prog 175 #[.pointer (some ⟨t, 0, none⟩), .int .u32 (s : Int), .slice a l c] w fun e w' => e = .returned (.int .u32 ((ext s bs : Nat) : Int)) ∧ w.grownBy w' row ∧ Tbl w' t dn := by
  obtain ⟨rfl, hc, hm⟩ := hr.slice
  unfold maxLen at hm
  have hro : ∀ w2, w.grownBy w2 row → Reads w2 (.slice a bs.length c) bs := by
    intro w2 hg
    rcases hrow with rfl | ⟨rfl, ho⟩
    · exact hr.new hg
    · exact hr.off ho hg
  clear hrow
  have hsg : IntKind.u32.signed = false := rfl
  have hn1 := not_u32 s hs
  have hE := Lib.hid (show ext s bs = not32 (bytes (not32 s) bs) from rfl)
  have hlt := not32_lt s
  generalize ext s bs = r at hE ⊢
  generalize not32 s = z at hn1 hE hlt
  go_enter Tryz.func175, Tryz.ntmps175
  go_wp2_with (go_at_call 140; refine hB.mono ?_; rintro e w2 ⟨rfl, hg2, hT2⟩; have hr2 := hro _ hg2)
  clear hn1
  go_loop [1, 17] (fun v i => ∃ k : Nat, k ≤ bs.length ∧ i = .int .i64 (k : Int) ∧ v = .int .u32 ((bytes z (bs.take k) : Nat) : Int)) (fun _ i => bs.length - (RowKit.intOf i).toNat)
  case atStart => exact ⟨0, Nat.zero_le _, rfl, rfl⟩
  case round =>
    obtain ⟨k, hk, rfl, rfl⟩ := hrel
    by_cases hkl : k < bs.length
    · obtain ⟨b, off, rfl, hcell⟩ := hr2.get hkl
      have hstep := Lib.hid (show bytes z (bs.take (k + 1)) = byt (bytes z (bs.take k)) (bs[k]).toNat by rw [List.take_succ_eq_append_getElem hkl, bytes_snoc])
      have hcl := bytes_lt (bs.take k) hlt
      generalize bytes z (bs.take k) = q at hstep hcl ⊢
      have hu := (bs[k]).toNat_lt
      generalize (bs[k]).toNat = u at hcell hstep hu
      have hT3 : Tab w2 t true 1 0 1 (rnds 8) := by
        have := hT2
        rw [hd (by omega)] at this
        exact this
      have hq8 : q % 256 ^^^ u < 256 := Nat.xor_lt_two_pow (n := 8) (by omega) (by omega)
      have hx8 : bits .xor .u8 ((q : Int) % 256) (u : Int) = ((q % 256 ^^^ u : Nat) : Int) := by
        rw [show (q : Int) % 256 = ((q % 256 : Nat) : Int) by omega, u8_xor_nat _ _ (by omega) hu]
      have hx32 : bits .xor .u32 ((q : Int) / 256) ((rnds 8 (q % 256 ^^^ u) : Nat) : Int) = ((byt q u : Nat) : Int) := by
        rw [show (q : Int) / 256 = ((q / 256 : Nat) : Int) by omega, u32_xor_nat _ _ (by omega) (rnds_lt 8 (by omega)), byt_table q u hu]
      generalize byt q u = y at hstep hx32
      generalize q % 256 ^^^ u = j at hx8 hx32 hq8
      have hcT := hT3.num hq8
      generalize rnds 8 j = v at hcT hx32
      clear hT3 hr2 hT2 hg2 hr hro hB hd
      go_wp2
      exact ⟨⟨k + 1, by omega, by go_num, by rw [hstep.out]⟩, by simp [RowKit.intOf]; omega⟩
    · have hkl : k = bs.length := by omega
      subst hkl
      rw [List.take_length]
      have hn2 := not_u32 _ (bytes_lt bs hlt)
      go_wp2
      go_ret
      exact ⟨by rw [hE.out]; rfl, hg2, hT2⟩

theorem Extend_any (t : Nat) (dn : Bool) (s : Nat) (a : Option Addr) (l c : Nat) (bs : List UInt8) (w : World) (hT : Tbl w t dn) (hs : s < 4294967296) (hr : Reads w (.slice a l c) bs) (ho : Off t (.slice a l c) bs) :
    Calls Tryz.prog 175 #[.pointer (some ⟨t, 0, none⟩), .int .u32 (s : Int), .slice a l c] w fun e w' => e = .returned (.int .u32 ((ext s bs : Nat) : Int)) ∧ w.grownBy w' (some t) ∧ Tbl w' t (dn || decide (0 < bs.length)) := by
  obtain ⟨rfl, hc, hm⟩ := hr.slice
  exact Extend_with t _ (some t) s a _ c bs w hs hr (.inr ⟨rfl, ho⟩) (begin_any t dn a bs.length c w hT) (fun h => by simp [h])
/-- Of a table whose numbers are there: nothing is turned. -/
theorem Extend_done (t : Nat) (s : Nat) (a : Option Addr) (l c : Nat) (bs : List UInt8) (w : World) (hT : Tbl w t true) (hs : s < 4294967296) (hr : Reads w (.slice a l c) bs) :
    Calls Tryz.prog 175 #[.pointer (some ⟨t, 0, none⟩), .int .u32 (s : Int), .slice a l c] w fun e w' => e = .returned (.int .u32 ((ext s bs : Nat) : Int)) ∧ w.grownBy w' none ∧ Tbl w' t true :=
  Extend_with t true none s a l c bs w hs hr (.inl rfl) ((begin_done t a l c w hT).mono fun _ _ ⟨h1, h2⟩ => ⟨h1, h2 ▸ World.grownBy.refl _ _, h2 ▸ hT⟩) (fun _ => rfl)

set_option maxHeartbeats 1000000 in
theorem Sum_done (t : Nat) (a : Option Addr) (l c : Nat) (bs : List UInt8) (w : World) (hT : Tbl w t true) (hr : Reads w (.slice a l c) bs) :
    Calls Tryz.prog 142 #[.pointer (some ⟨t, 0, none⟩), .slice a l c] w fun e w' => e = .returned (.int .u32 ((sum bs : Nat) : Int)) ∧ w.grownBy w' none ∧ Tbl w' t true := by
  have hE := Extend_done t 0 a l c bs w hT (by decide) hr
  rw [show ((0 : Nat) : Int) = 0 from rfl] at hE
  go_enter Tryz.func142, Tryz.ntmps142
  go_wp2_with (go_at_call 175; refine hE.mono ?_; rintro e w2 ⟨rfl, hg2, hT2⟩)
  go_ret
  exact ⟨rfl, hg2, hT2⟩

set_option maxHeartbeats 1000000 in
theorem Sum_any (t : Nat) (dn : Bool) (a : Option Addr) (l c : Nat) (bs : List UInt8) (w : World) (hT : Tbl w t dn) (hr : Reads w (.slice a l c) bs) (ho : Off t (.slice a l c) bs) :
    Calls Tryz.prog 142 #[.pointer (some ⟨t, 0, none⟩), .slice a l c] w fun e w' => e = .returned (.int .u32 ((sum bs : Nat) : Int)) ∧ w.grownBy w' (some t) ∧ Tbl w' t (dn || decide (0 < bs.length)) := by
  have hE := Extend_any t dn 0 a l c bs w hT (by decide) hr ho
  rw [show ((0 : Nat) : Int) = 0 from rfl] at hE
  go_enter Tryz.func142, Tryz.ntmps142
  go_wp2_with (go_at_call 175; refine hE.mono ?_; rintro e w2 ⟨rfl, hg2, hT2⟩)
  go_ret
  exact ⟨rfl, hg2, hT2⟩

theorem Extend_none (p : Value) (s : Int) (v : Value) (w : World) (hm : Calls Tryz.prog 170 #[p] w fun e w' => e = .returned (.bool false) ∧ w = w') :
    Calls Tryz.prog 175 #[p, .int .u32 s, v] w fun e w' => e = .returned (.int .u32 0) ∧ w = w' := by
  go_enter Tryz.func175, Tryz.ntmps175
  go_wp2_with (go_at_call 140; refine (begin_none p v w hm).mono ?_; rintro e w' ⟨rfl, rfl⟩)
  go_ret
  exact ⟨rfl, rfl⟩
theorem Sum_none (p : Value) (v : Value) (w : World) (hm : Calls Tryz.prog 170 #[p] w fun e w' => e = .returned (.bool false) ∧ w = w') :
    Calls Tryz.prog 142 #[p, v] w fun e w' => e = .returned (.int .u32 0) ∧ w = w' := by
  go_enter Tryz.func142, Tryz.ntmps142
  go_wp2_with (go_at_call 175; refine (Extend_none p 0 v w hm).mono ?_; rintro e w' ⟨rfl, rfl⟩)
  go_ret
  exact ⟨rfl, rfl⟩

/-! The reference's. -/

set_option maxHeartbeats 4000000 in
theorem refTurn_any (c x : Nat) (w : World) (hc : c < 4294967296) (hx : x < 256) :
    Calls Tryz.prog 156 #[.int .u32 (c : Int), .int .u8 (x : Int)] w fun e w' => e = .returned (.int .u32 ((byt c x : Nat) : Int)) ∧ w = w' := by
  have h0 : bits .xor .u32 (c : Int) (x : Int) = ((c ^^^ x : Nat) : Int) := u32_xor_nat c x hc (by omega)
  have hz := Nat.xor_lt_two_pow (n := 32) hc (show x < 2 ^ 32 by omega)
  have hE := Lib.hid (show byt c x = rnds 8 (c ^^^ x) from rfl)
  generalize byt c x = r at hE ⊢
  generalize c ^^^ x = z at h0 hz hE
  go_enter Tryz.func156, Tryz.ntmps156
  go_wp2
  go_loop [0, 5] (fun v i => ∃ j : Nat, j ≤ 8 ∧ i = .int .i64 (j : Int) ∧ v = .int .u32 ((rnds j z : Nat) : Int)) (fun _ i => 8 - (RowKit.intOf i).toNat)
  case atStart => exact ⟨0, by omega, rfl, rfl⟩
  case round =>
    obtain ⟨j, hj, rfl, rfl⟩ := hrel
    by_cases hj8 : j < 8
    · have hs := Lib.hid (rnds_succ j z)
      have hl := rnds_lt j hz
      generalize rnds j z = q at hs hl ⊢
      have hp := xor_poly q hl
      by_cases ho : q % 2 = 1
      · have h1 : ((q : Int) % 2 == 1) = true := by simp; omega
        go_wp2
        refine ⟨⟨j + 1, by omega, by go_num, ?_⟩, by simp [RowKit.intOf]; omega⟩
        rw [hs.out]
        unfold rnd
        rw [if_pos ho]
      · have h1 : ((q : Int) % 2 == 1) = false := by simp; omega
        go_wp2
        refine ⟨⟨j + 1, by omega, by go_num, ?_⟩, by simp [RowKit.intOf]; omega⟩
        rw [hs.out]
        unfold rnd
        rw [if_neg ho]
        simp
    · have hj : j = 8 := by omega
      subst hj
      go_wp2
      go_ret
      exact ⟨by rw [hE.out]; rfl, rfl⟩

set_option maxHeartbeats 4000000 in
theorem refExtend_any (s : Nat) (a : Option Addr) (l c : Nat) (bs : List UInt8) (w : World) (hs : s < 4294967296) (hr : Reads w (.slice a l c) bs) :
    Calls Tryz.prog 125 #[.int .u32 (s : Int), .slice a l c] w fun e w' => e = .returned (.int .u32 ((ext s bs : Nat) : Int)) ∧ w = w' := by
  obtain ⟨rfl, hc, hm⟩ := hr.slice
  unfold maxLen at hm
  have hsg : IntKind.u32.signed = false := rfl
  have hn1 := not_u32 s hs
  have hE := Lib.hid (show ext s bs = not32 (bytes (not32 s) bs) from rfl)
  have hlt := not32_lt s
  generalize ext s bs = r at hE ⊢
  generalize not32 s = z at hn1 hE hlt
  go_enter Tryz.func125, Tryz.ntmps125
  go_wp2
  clear hn1
  go_loop [5, 12] (fun v i => ∃ k : Nat, k ≤ bs.length ∧ i = .int .i64 (k : Int) ∧ v = .int .u32 ((bytes z (bs.take k) : Nat) : Int)) (fun _ i => bs.length - (RowKit.intOf i).toNat)
  case atStart => exact ⟨0, Nat.zero_le _, rfl, rfl⟩
  case round =>
    obtain ⟨k, hk, rfl, rfl⟩ := hrel
    by_cases hkl : k < bs.length
    · obtain ⟨b, off, rfl, hcell⟩ := hr.get hkl
      have hstep := Lib.hid (show bytes z (bs.take (k + 1)) = byt (bytes z (bs.take k)) (bs[k]).toNat by rw [List.take_succ_eq_append_getElem hkl, bytes_snoc])
      have hcl := bytes_lt (bs.take k) hlt
      generalize bytes z (bs.take k) = q at hstep hcl ⊢
      have hu := (bs[k]).toNat_lt
      generalize (bs[k]).toNat = u at hcell hstep hu
      have hT := refTurn_any q u w hcl hu
      clear hr
      go_wp2_with (go_at_call 156; refine hT.mono ?_; rintro e w' ⟨rfl, rfl⟩)
      exact ⟨⟨k + 1, by omega, by go_num, by rw [hstep.out]⟩, by simp [RowKit.intOf]; omega⟩
    · have hkl : k = bs.length := by omega
      subst hkl
      rw [List.take_length]
      have hn2 := not_u32 _ (bytes_lt bs hlt)
      go_wp2
      go_ret
      exact ⟨by rw [hE.out]; rfl, rfl⟩

theorem refSum_any (a : Option Addr) (l c : Nat) (bs : List UInt8) (w : World) (hr : Reads w (.slice a l c) bs) :
    Calls Tryz.prog 85 #[.slice a l c] w fun e w' => e = .returned (.int .u32 ((sum bs : Nat) : Int)) ∧ w = w' := by
  have hE := refExtend_any 0 a l c bs w (by decide) hr
  rw [show ((0 : Nat) : Int) = 0 from rfl] at hE
  go_enter Tryz.func85, Tryz.ntmps85
  go_wp2_with (go_at_call 125; refine hE.mono ?_; rintro e w2 ⟨rfl, rfl⟩)
  go_ret
  exact ⟨rfl, rfl⟩
end Go.Proofs.YtpdacbiiaglodaaGreat

/-
  LAYER 3 (crc): Mask, Unmask, and the reference's.
-/
namespace Go.Proofs.YtpdacbiiaglodaaGreat
set_option maxRecDepth 100000
open Go.RowKit Go.Lib

theorem rotR_or (c : Nat) (h : c < 4294967296) : bits .or .u32 ((c : Int) * 131072 % 4294967296) ((c : Int) / 32768) = ((rotR c : Nat) : Int) := by
  have e1 : (c : Int) * 131072 % 4294967296 = ((c % 32768 * 131072 : Nat) : Int) := by omega
  have e2 : (c : Int) / 32768 = ((c / 32768 : Nat) : Int) := by omega
  rw [e1, e2, u32_or_nat _ _ (by omega) (by omega)]
  unfold rotR
  rw [Nat.mul_comm (c % 32768) 131072, show (131072 : Nat) = 2 ^ 17 from rfl, ← Nat.two_pow_add_eq_or_of_lt (by omega)]
  congr 1; omega
theorem rotL_or (c : Nat) (h : c < 4294967296) : bits .or .u32 ((c : Int) * 32768 % 4294967296) ((c : Int) / 131072) = ((rotL c : Nat) : Int) := by
  have e1 : (c : Int) * 32768 % 4294967296 = ((c % 131072 * 32768 : Nat) : Int) := by omega
  have e2 : (c : Int) / 131072 = ((c / 131072 : Nat) : Int) := by omega
  rw [e1, e2, u32_or_nat _ _ (by omega) (by omega)]
  unfold rotL
  rw [Nat.mul_comm (c % 131072) 32768, show (32768 : Nat) = 2 ^ 15 from rfl, ← Nat.two_pow_add_eq_or_of_lt (by omega)]

theorem ret_num {k : IntKind} {a b : Int} (h : a = b) : Ending.returned (.int k a) = .returned (.int k b) := by rw [h]

theorem and17 : bits .and .u64 (IntKind.u64.wrap (-15)) 31 = 17 := by
  rw [show IntKind.u64.wrap (-15) = ((18446744073709551601 : Nat) : Int) from rfl, show (31 : Int) = ((31 : Nat) : Int) from rfl, u64_and_nat _ _ (by decide) (by decide)]
  rfl
theorem and15 : bits .and .u64 15 31 = 15 := by
  rw [show (15 : Int) = ((15 : Nat) : Int) from rfl, show (31 : Int) = ((31 : Nat) : Int) from rfl, u64_and_nat _ _ (by decide) (by decide)]
  rfl

set_option maxHeartbeats 4000000 in
theorem rotR_any (c : Nat) (h : c < 4294967296) (w : World) :
    Calls Tryz.prog 184 #[.int .u32 (c : Int), .int .i64 (-15)] w fun e w' => e = .returned (.int .u32 ((rotR c : Nat) : Int)) ∧ w = w' := by
  have h1 := rotR_or c h
  have h2 := and17
  generalize rotR c = r at h1 ⊢
  go_enter Tryz.func184, Tryz.ntmps184
  go_wp2
  go_ret
  exact ⟨rfl, rfl⟩
set_option maxHeartbeats 4000000 in
theorem rotL_any (c : Nat) (h : c < 4294967296) (w : World) :
    Calls Tryz.prog 184 #[.int .u32 (c : Int), .int .i64 15] w fun e w' => e = .returned (.int .u32 ((rotL c : Nat) : Int)) ∧ w = w' := by
  have h1 := rotL_or c h
  have h2 := and15
  generalize rotL c = r at h1 ⊢
  go_enter Tryz.func184, Tryz.ntmps184
  go_wp2
  go_ret
  exact ⟨rfl, rfl⟩

theorem Mask_any (s : Nat) (h : s < 4294967296) (w : World) :
    Calls Tryz.prog 159 #[.int .u32 (s : Int)] w fun e w' => e = .returned (.int .u32 ((mask s : Nat) : Int)) ∧ w = w' := by
  have hR := rotR_any s h w
  have hE := Lib.hid (show mask s = (rotR s + 0xA282EAD8) % 4294967296 from rfl)
  have hl := rotR_lt h
  generalize mask s = m at hE ⊢
  generalize rotR s = r at hE hR hl
  go_enter Tryz.func159, Tryz.ntmps159
  go_wp2_with (go_at_call 184; refine hR.mono ?_; rintro e w2 ⟨rfl, rfl⟩)
  go_ret
  exact ⟨by rw [hE.out]; simp, rfl⟩
theorem Unmask_any (s : Nat) (h : s < 4294967296) (w : World) :
    Calls Tryz.prog 174 #[.int .u32 (s : Int)] w fun e w' => e = .returned (.int .u32 ((unmask s : Nat) : Int)) ∧ w = w' := by
  have hR := rotL_any ((s + 4294967296 - 0xA282EAD8) % 4294967296) (Nat.mod_lt _ (by decide)) w
  have hE := Lib.hid (show unmask s = rotL ((s + 4294967296 - 0xA282EAD8) % 4294967296) from rfl)
  have hz : ((s : Int) - 2726488792) % 4294967296 = (((s + 4294967296 - 0xA282EAD8) % 4294967296 : Nat) : Int) := by omega
  generalize unmask s = m at hE ⊢
  generalize (s + 4294967296 - 0xA282EAD8) % 4294967296 = z at hE hR hz
  generalize rotL z = r at hE hR
  go_enter Tryz.func174, Tryz.ntmps174
  go_wp2_with (go_at_call 184; refine hR.mono ?_; rintro e w2 ⟨rfl, rfl⟩)
  go_ret
  exact ⟨by rw [hE.out]; rfl, rfl⟩
theorem refMask_any (s : Nat) (h : s < 4294967296) (w : World) :
    Calls Tryz.prog 84 #[.int .u32 (s : Int)] w fun e w' => e = .returned (.int .u32 ((mask s : Nat) : Int)) ∧ w = w' := by
  have hE := Lib.hid (show mask s = (rotR s + 0xA282EAD8) % 4294967296 from rfl)
  have hm : ((s : Int) / 32768 + (s : Int) * 131072 % 4294967296 + 2726488792) % 4294967296 = ((mask s : Nat) : Int) := by unfold mask rotR; omega
  generalize mask s = m at hm ⊢
  clear hE
  go_enter Tryz.func84, Tryz.ntmps84
  go_wp2
  go_ret
  exact ⟨ret_num hm, rfl⟩
end Go.Proofs.YtpdacbiiaglodaaGreat

/-
  LAYER 3 (crc): Frame, and the reference's; awake.
-/
namespace Go.Proofs.YtpdacbiiaglodaaGreat
set_option maxRecDepth 100000
open Go.RowKit Go.Lib

/-- What the call owns from B on does not lie in an elder block. -/
theorem Owns.apartT {w : World} {B t : Nat} {e : TypeId} {v : Value} {bs : List UInt8} (h : Owns w B e v bs) (ht : t < B) : v.ownBlock = none ∨ v.ownBlock ≠ some t :=
  .inr fun e => by have := (h.lt t e).1; omega

/-- A frame. -/
def frame (bs : List UInt8) : List UInt8 := Lib.uvarint bs.length ++ leB (mask (sum bs)) 4 ++ bs

theorem Frame_none (p : Value) (v : Value) (w : World) (hm : Calls Tryz.prog 170 #[p] w fun e w' => e = .returned (.bool false) ∧ w = w') :
    Calls Tryz.prog 127 #[p, v] w fun e w' => e = .returned (.tuple #[.slice none 0 0, .int .i64 32]) ∧ w = w' := by
  go_enter Tryz.func127, Tryz.ntmps127
  go_wp2_with (go_at_call 140; refine (begin_none p v w hm).mono ?_; rintro e w' ⟨rfl, rfl⟩)
  go_ret2
  exact ⟨rfl, rfl⟩

set_option maxHeartbeats 4000000 in
theorem Frame_ok (t : Nat) (dn : Bool) (a : Option Addr) (l c : Nat) (bs : List UInt8) (w : World) (hT : Tbl w t dn) (hr : Reads w (.slice a l c) bs) (ho : Off t (.slice a l c) bs) (hl : bs.length ≤ 16777216) :
    Calls Tryz.prog 127 #[.pointer (some ⟨t, 0, none⟩), .slice a l c] w fun e w' => ∃ v, e = .returned (.tuple #[v, .int .i64 0]) ∧ Owns w' w.heap.size 5 v (frame bs) ∧ w.grownBy w' (some t) ∧ Tbl w' t (dn || decide (0 < bs.length)) := by
  obtain ⟨rfl, hc, hm⟩ := hr.slice
  obtain ⟨i0, hi, hz0, hz1, hz2⟩ := info_parts infoU8
  have htl := hT.lt
  have hB := begin_any t dn a bs.length c w hT
  have hU := Uint_any bs.length (by omega)
  have hS := fun w' b (hT : Tbl w' t b) hr => Sum_any t b a bs.length c bs w' hT hr ho
  have hM := Mask_any (sum bs) (ext_lt _ _)
  have hF := fun w' => Fixed_ok (mask (sum bs)) 4 w' (by have := mask_lt (sum bs); omega) (by omega) (by have := mask_lt (sum bs); simpa using this)
  rw [show ((4 : Nat) : Int) = 4 from rfl] at hF
  have hE := Lib.hid (show frame bs = Lib.uvarint bs.length ++ leB (mask (sum bs)) 4 ++ bs from rfl)
  have hfl : (frame bs).length = (Lib.uvarint bs.length).length + (leB (mask (sum bs)) 4).length + bs.length := by unfold frame; simp [Nat.add_assoc]
  have lA : (Lib.uvarint bs.length).length ≤ 10 := ulen_le (by omega)
  have lM : (leB (mask (sum bs)) 4).length ≤ 4 := by rw [leB_length]; omega
  replace hfl := Lib.hid hfl
  generalize frame bs = fr at hE hfl ⊢
  generalize leB (mask (sum bs)) 4 = M at hF hE lM hfl
  have hms := mask_lt (sum bs)
  generalize mask (sum bs) = ms at hM hF hms
  generalize sum bs = sm at hS hM
  generalize Lib.uvarint bs.length = A at hU hE lA hfl
  obtain ⟨G, hG⟩ : ∃ G, G = A ++ M := ⟨_, rfl⟩
  have hL7 : G.length + bs.length ≤ 140737488355328 := by rw [hG, List.length_append]; omega
  replace hG := Lib.hid hG
  go_enter Tryz.func127, Tryz.ntmps127
  go_wp2_with (first
    | (go_at_call 140; refine hB.mono ?_; rintro e w1 ⟨rfl, hg1, hT1⟩; have hr1 := hr.off ho hg1)
    | (go_at_call 157; refine (hU w1).mono ?_; rintro e w2 ⟨v2, rfl, ho2, hg2⟩; have hT2 := hT1.new hg2; have hr2 := hr1.new hg2)
    | (go_at_call 142; refine (hS w2 _ hT2 hr2).mono ?_; rintro e w3 ⟨rfl, hg3, hT3⟩; have ho3 := ho2.kept hg3 (ho2.apartT (Nat.lt_of_lt_of_le htl hg1.size)); have hr3 := hr2.off ho hg3)
    | (go_at_call 159; refine (hM _).mono ?_; rintro e w' ⟨rfl, rfl⟩)
    | (go_at_call 158; refine (hF w3).mono ?_; rintro e w4 ⟨v4, rfl, ho4, hg4⟩; obtain ⟨a2, c2, rfl⟩ := ho3.reads.form; obtain ⟨a4, c4, rfl⟩ := ho4.reads.form)
    | (at_make; refine wpList_make_own _ rfl _ _ 27 rfl w4.heap.size 5 i0 (.int .u8 0) 1 Tryz.underlying27 hi hz0 hz1 .i64 .i64 _ (A.length + M.length + bs.length) rfl rfl (by simp) (by rw [hz2]; omega) (by unfold maxLen; omega) (Nat.le_refl _) ?_; intro w5 ho5 hg5; have hb5 := gbelow hg5 (Nat.le_refl w4.heap.size) (by simp))
    | (at_builtin; refine wpList_append_bytes w5 rfl _ _ 27 rfl w4.heap.size 5 i0 Tryz.underlying27 hi hz0 hz1 hz2 _ [] rfl ho5 (.slice a2 A.length c2) A rfl ((ho3.reads.new hg4).all hb5) (by simp; omega) hg5.size ?_; intro v6 w6 ho6 hg6; rw [List.nil_append] at ho6; have hb6 := hb5.trans (gbelow hg6 hg5.size (fun k e => (ho5.lt k e).1)))
    | (at_builtin; refine wpList_append_bytes w6 rfl _ _ 27 rfl w4.heap.size 5 i0 Tryz.underlying27 hi hz0 hz1 hz2 v6 A rfl ho6 (.slice a4 M.length c4) M rfl (ho4.reads.all hb6) (by omega) hb6.size ?_; intro v7 w7 ho7 hg7; have hb7 := hb6.trans (gbelow hg7 hb6.size (fun k e => (ho6.lt k e).1)); rw [← hG.out] at ho7)
    | (at_builtin; refine wpList_append_bytes w7 rfl _ _ 27 rfl w4.heap.size 5 i0 Tryz.underlying27 hi hz0 hz1 hz2 v7 G rfl ho7 (.slice a bs.length c) bs rfl ((hr3.new hg4).all hb7) hL7 hb7.size ?_; intro v8 w8 ho8 hg8; have hb8 := hb7.trans (gbelow hg8 hb7.size (fun k e => (ho7.lt k e).1))))
  go_ret2
  have hgw : w.grownBy w8 (some t) := gnew (gnew (gnew (gnew hg1 hg2 (by simp)) hg3 (by simp)) hg4 (by simp)) (belowg hb8 none) (by simp)
  refine ⟨v8, rfl, ?_, hgw, ?_⟩
  · rw [hG.out] at ho8
    rw [hE.out]
    exact ho8.mono (Nat.le_trans hg1.size (Nat.le_trans hg2.size (Nat.le_trans hg3.size hg4.size)))
  · have := (hT3.new hg4).new (belowg hb8 none)
    simpa using this

/-! awake -/
def nine : List UInt8 := [49, 50, 51, 52, 53, 54, 55, 56, 57]
theorem sum_nine : sum nine = 3808858755 := by decide +kernel
theorem sum_nil : sum [] = 0 := by decide +kernel
theorem frame_nil : frame [] = [0, 216, 234, 130, 162] := by
  unfold frame
  rw [show ([] : List UInt8).length = 0 from rfl, uvarint_small (by decide)]
  decide +kernel
theorem mask_zero : mask 0 = 2726488792 := by decide +kernel

theorem off_new {t b : Nat} {o l c : Nat} {bs : List UInt8} (h : b ≠ t) : Off t (.slice (some ⟨b, o, none⟩) l c) bs := .inr (by simpa [Value.ownBlock] using h)

theorem reads_marked (w : World) (e : TypeId) (bs : List UInt8) (p q : Nat) (hm : bs.length ≤ maxLen) : Reads (w.alloc (.cells (byteCells bs).toArray e (p, q))) (.slice (some ⟨w.heap.size, 0, none⟩) bs.length bs.length) bs := by
  refine .inr ⟨w.heap.size, 0, bs.length, rfl, Nat.le_refl _, hm, fun i u hu => ?_⟩
  simp only [World.cell?, heap_alloc_new]
  simp [byteCells_get, hu]

end Go.Proofs.YtpdacbiiaglodaaGreat

/-
  LAYER 5 (norms): write: the bytes of data that may be.
-/
namespace Go.Proofs.YtpdacbiiaglodaaGreat
set_option maxRecDepth 100000
open Go.RowKit Go.Lib
attribute [local go_sem] Oper.semAt_some

def mark : List UInt8 := [78, 82, 77, 49]
/-- A row's three numbers. -/
def tri3 (x : Int × Int × Int) : List Nat := [x.1.toNat, x.2.1.toNat, x.2.2.toNat]
/-- What lies in the frame. -/
def headC (c : List Cls) : List UInt8 := mark ++ nums [c.length] ++ nums (c.flatMap tri3)
def payload (c : List Cls) (d : List Dec) : List UInt8 := headC c ++ nums [d.length] ++ nums (d.flatMap tri3)

theorem cls_nat {c : List Cls} {least : Int} (h : clsOk least c = true) (h0 : 0 ≤ least) {x : Cls} (hx : x ∈ c) : ∃ a b k : Nat, x = ((a : Int), (b : Int), (k : Int)) ∧ a ≤ 1114111 ∧ b ≤ 1114111 ∧ k ≤ 254 := by
  obtain ⟨i, hi, rfl⟩ := List.getElem_of_mem hx
  obtain ⟨h1, h2, h3, h4⟩ := clsOk_mem h i hi
  have hs : scal (c[i]).2.1 = true := by
    have : ∀ (c : List Cls) (least : Int), clsOk least c = true → ∀ (i : Nat) (hi : i < c.length), scal (c[i]).2.1 = true := by
      intro c
      induction c with
      | nil => intro _ _ i hi; simp at hi
      | cons y t ih =>
        intro least h i hi
        rw [clsOk, Bool.and_eq_true] at h
        cases i with
        | zero =>
          have := h.1
          simp only [clOk, Bool.and_eq_true] at this
          exact this.1.1.1.1.2
        | succ i => simpa using ih _ h.2 i (by simpa using hi)
    exact this c least h i hi
  have := scal_range hs
  refine ⟨(c[i]).1.toNat, (c[i]).2.1.toNat, (c[i]).2.2.toNat, ?_, by omega, by omega, by omega⟩
  rw [Prod.ext_iff, Prod.ext_iff]
  simp only
  omega
theorem dec_nat {c : List Cls} {d : List Dec} (h : decsOk c d 0 d = true) {x : Dec} (hx : x ∈ d) : ∃ a b k : Nat, x = ((a : Int), (b : Int), (k : Int)) ∧ a ≤ 1114111 ∧ b ≤ 1114111 ∧ k ≤ 1114111 := by
  have h1 := decsOk_mem h x hx
  simp only [decOk, codesOk, Bool.and_eq_true] at h1
  obtain ⟨⟨⟨_, ⟨⟨⟨⟨⟨⟨s1, _⟩, _⟩, s2⟩, _⟩, s3⟩, _⟩⟩, _⟩, _⟩ := h1
  have r1 := scal_range s1
  have r2 := scal_range s2
  have r3 := scal_range s3
  refine ⟨x.1.toNat, x.2.1.toNat, x.2.2.toNat, ?_, by omega, by omega, by omega⟩
  rw [Prod.ext_iff, Prod.ext_iff]
  simp only
  omega
theorem flat_length (l : List (Int × Int × Int)) : (l.flatMap tri3).length = 3 * l.length := by
  induction l with
  | nil => rfl
  | cons x t ih => rw [List.flatMap_cons, List.length_append, ih]; simp [tri3]; omega
theorem flat_lt (l : List (Int × Int × Int)) (h : ∀ x ∈ l, ∃ a b k : Nat, x = ((a : Int), (b : Int), (k : Int)) ∧ a ≤ 1114111 ∧ b ≤ 1114111 ∧ k ≤ 1114111) : ∀ n ∈ l.flatMap tri3, n < 2000000 := by
  intro n hn
  obtain ⟨x, hx, hn⟩ := List.mem_flatMap.1 hn
  obtain ⟨a, b, k, rfl, h1, h2, h3⟩ := h x hx
  simp [tri3] at hn
  omega

theorem gb_mark (w : World) (B : Nat) (hB : B ≤ w.heap.size) : GB (w.alloc (.cells #[.int .u8 78, .int .u8 82, .int .u8 77, .int .u8 49] 5 (4, 5))) B (.slice (some ⟨w.heap.size, 0, none⟩) 4 4) mark :=
  .inr ⟨w.heap.size, rfl, hB, reads_marked w 5 mark 4 5 (by decide)⟩
theorem ints_one (w : World) (n : Nat) : IntsAt (w.alloc (.cells #[.int .i64 (n : Int)] 3)) w.heap.size [n] := by
  intro i k h
  match i, h with
  | 0, h => simp at h; subst h; have hn := World.alloc_heap_new w (.cells #[.int .i64 (n : Int)] 3); simp only [World.cell?, hn]; rfl
theorem ints_three (w : World) (a b k : Nat) : IntsAt (w.alloc (.cells #[.int .i64 (a : Int), .int .i64 (b : Int), .int .i64 (k : Int)] 3)) w.heap.size [a, b, k] := by
  intro i n h
  have hn := World.alloc_heap_new w (.cells #[.int .i64 (a : Int), .int .i64 (b : Int), .int .i64 (k : Int)] 3)
  match i, h with
  | 0, h => simp at h; subst h; simp only [World.cell?, hn]; rfl
  | 1, h => simp at h; subst h; simp only [World.cell?, hn]; rfl
  | 2, h => simp at h; subst h; simp only [World.cell?, hn]; rfl

/-- The bytes that grow: their box, the row that they own (in none of these blocks), the data's block. -/
def OutAt (w W : World) (ob : Nat) (D : Obj) (av : Nat → Prop) (v : Value) (M : List UInt8) : Prop :=
  Boxed W ob 27 v ∧ Owns W (w.heap.size + 1) 5 v M ∧ (∀ k, v.ownBlock = some k → ¬ av k) ∧ (∀ k, av k → k < W.heap.size) ∧ av ob ∧ w.grownBy W none ∧ W.heap[w.heap.size]? = some D ∧ w.heap.size < ob
theorem OutAt.new {w W W' : World} {ob : Nat} {D : Obj} {av : Nat → Prop} {v : Value} {M : List UInt8} (h : OutAt w W ob D av v M) (hg : W.grownBy W' none) : OutAt w W' ob D av v M := by
  obtain ⟨h1, h2, h3, h4, h5, h6, h7, h8⟩ := h
  exact ⟨h1.kept hg (by simp), h2.new hg, h3, fun k hk => Nat.lt_of_lt_of_le (h4 k hk) hg.size, h5, h6.trans hg, (hg.block _ (Array.getElem?_eq_some_iff.1 h7).1 (by simp)).trans h7, h8⟩
theorem OutAt.row {w W W' : World} {ob q : Nat} {D : Obj} {av : Nat → Prop} {v : Value} {M : List UInt8} (h : OutAt w W ob D av v M) (hg : W.grownBy W' (some q)) (h1 : q ≠ ob) (h2 : v.ownBlock ≠ some q) (h3 : w.heap.size < q) : OutAt w W' ob D av v M := by
  obtain ⟨q1, q2, q3, q4, q5, q6, q7, q8⟩ := h
  exact ⟨q1.kept hg (by simpa using h1.symm), q2.kept hg (.inr h2), q3, fun k hk => Nat.lt_of_lt_of_le (q4 k hk) hg.size, q5, gnew q6 hg (fun r e => by cases e; left; omega), (hg.block _ (Array.getElem?_eq_some_iff.1 q7).1 (by simp; omega)).trans q7, q8⟩

/-- No panic is let out: the order of what stands ahead of it doesn't matter. -/
def NoPanic (Q : Exit → Act → World → Prop) : Exit → Act → World → Prop
  | .panic _, _, _ => False
  | e, a, w => Q e a w
theorem noPanic_normal {Q : Exit → Act → World → Prop} {a : Act} {w : World} (h : Q .normal a w) : NoPanic Q .normal a w := h
theorem wpIn_noPanic {F : Fence} {n : Nat} {P : Program} {c : Code} {Q : Exit → Act → World → Prop} {a : Act} {w : World} (h : c.wpIn F n P (NoPanic Q) a w) : c.wpIn F n P Q a w :=
  wpIn_mono h fun e a w hq => by cases e <;> first | exact hq | exact hq.elim

theorem out_step (w w2 : World) (ob lb : Nat) (D : Obj) (av : Nat → Prop) (v : Value) (M : List UInt8) (l : List Nat) (ho : OutAt w w2 ob D av v M) (hl : IntsAt w2 lb l) (hne : v.ownBlock ≠ some lb) (hl0 : l ≠ []) (hn : ∀ n ∈ l, n < 2000000) (hlim : M.length + 10 * l.length ≤ 100000000) :
    Calls Tryz.prog 126 #[v, .slice (some ⟨lb, 0, none⟩) l.length l.length] w2 fun e w' => ∃ x n y, e = .returned (.slice x n y) ∧ Boxed w' ob 27 v ∧
      OutAt w (w'.setCell ⟨ob, 0, none⟩ (.slice x n y)) ob D av (.slice x n y) (M ++ nums l) ∧ (w2.heap.size ≤ w'.heap.size ∧ w'.heap[w.heap.size]? = some D) ∧ (∀ k, k < w2.heap.size → k ≠ ob → v.ownBlock ≠ some k → (w'.setCell ⟨ob, 0, none⟩ (.slice x n y)).heap[k]? = w2.heap[k]?) := by
  obtain ⟨h1, h2, h3, h4, h5, h6, h7, h8⟩ := ho
  have hs := h6.size
  refine (addNumbers_any (w.heap.size + 1) lb v M l w2 (.inl h2) hl0 (by have := h4 _ h5; omega) hl hne (fun n hn' => by have := hn n hn'; omega) hlim).mono ?_
  rintro e w' ⟨v', rfl, o1, o2, o3⟩
  have hvl := h2.lt
  obtain ⟨x, y, rfl⟩ := o1.reads.form
  have hob : v.ownBlock ≠ some ob := fun e => h3 _ e h5
  have hB := h1.kept o2 hob.symm
  have gs := grownBy_setCell' w' ob (.slice x (M ++ nums l).length y)
  have hav : ∀ k, (Value.slice x (M ++ nums l).length y).ownBlock = some k → ¬ av k := by
    intro k hk
    rcases o3 with h | ⟨k', h, hk'⟩
    · rw [hk] at h; exact h3 k h.symm
    · rw [hk] at h; cases h; intro h; have := h4 _ h; omega
  have hD7 : w'.heap[w.heap.size]? = some D := (o2.block _ (Array.getElem?_eq_some_iff.1 h7).1 (fun e => by have := (hvl _ e.symm).1; omega)).trans h7
  refine ⟨x, _, y, rfl, hB, ⟨hB.set _, o1.kept gs (.inr (fun e => hav _ e h5)), hav, fun k hk => by have := h4 k hk; have := o2.size; have := gs.size; omega, h5, gnew (gnew h6 o2 (fun r e => .inl (by have := (hvl r e).1; omega))) gs (fun r e => by cases e; left; omega), ?_, h8⟩, ⟨o2.size, hD7⟩, ?_⟩
  · exact (gs.block _ (Array.getElem?_eq_some_iff.1 hD7).1 (by simp; omega)).trans hD7
  · intro k hk hko hkv
    exact (gs.block k (by have := o2.size; omega) (by simpa using hko)).trans (o2.block k hk (fun e => hkv e.symm))

set_option maxHeartbeats 8000000 in
theorem write_in (vc vd : Value) (c : List Cls) (d : List Dec) (w : World) (hT : Dat w vc vd c d) (hgd : good c d = true) :
    CallsIn Fence.wide 8 Tryz.prog 86 #[datV vc vd] w fun e w' => ∃ v, e = .returned (.tuple #[v, .int .i64 0]) ∧ Owns w' w.heap.size 5 v (frame (payload c d)) ∧ w.grownBy w' none := by
  obtain ⟨g1, g2, g3, g4⟩ := good_parts hgd
  obtain ⟨hTc, hTd⟩ := hT
  obtain ⟨a, cp, rfl, hc, hm⟩ := hTd.form
  obtain ⟨ac, cc, rfl, hcc, hmc⟩ := hTc.form
  unfold maxLen at hmc
  have hE := fun w => each_any (.slice ac c.length cc) (.slice a d.length cp) w ⟨_, _, _, rfl⟩
  obtain ⟨W0, hW0⟩ : ∃ W0, W0 = ((w.alloc (.cells #[.slice ac c.length cc, .slice a d.length cp] 33)).alloc (.cells #[.int .u8 78, .int .u8 82, .int .u8 77, .int .u8 49] 5 (4, 5))).alloc (.cells #[.int .i64 (c.length : Int)] 3) := ⟨_, rfl⟩
  have hs0 : W0.heap.size = w.heap.size + 3 := by rw [hW0]; simp
  have hg0 : w.grownBy W0 none := by rw [hW0]; exact galloc (galloc (World.grownBy_alloc w _ none) _) _
  have hd0 : W0.heap[w.heap.size]? = some (.cells #[.slice ac c.length cc, .slice a d.length cp] 33) := by
    rw [hW0]
    exact ((galloc (World.grownBy_alloc (w.alloc (.cells #[.slice ac c.length cc, .slice a d.length cp] 33)) _ none) _).block w.heap.size (by simp) (by simp)).trans (World.alloc_heap_new w _)
  have ho0 : GB W0 (w.heap.size + 1) (.slice (some ⟨w.heap.size + 1, 0, none⟩) 4 4) mark := by
    rw [hW0]
    have := gb_mark (w.alloc (.cells #[.slice ac c.length cc, .slice a d.length cp] 33)) (w.heap.size + 1) (by simp)
    rw [World.size_alloc] at this
    exact this.new (World.grownBy_alloc _ _ none)
  have hi0 : IntsAt W0 (w.heap.size + 2) [c.length] := by
    rw [hW0]
    have := ints_one ((w.alloc (.cells #[.slice ac c.length cc, .slice a d.length cp] 33)).alloc (.cells #[.int .u8 78, .int .u8 82, .int .u8 77, .int .u8 49] 5 (4, 5))) c.length
    simpa using this
  have hA0 := addNumbers_any (w.heap.size + 1) (w.heap.size + 2) _ mark [c.length] W0 ho0 (by simp) (by omega) hi0 (by simp [Value.ownBlock]) (by simp; omega) (by simp [mark])
  rw [show ([c.length] : List Nat).length = 1 from rfl] at hA0
  have dcell : ∀ W row, W0.grownBy W row → row ≠ some w.heap.size → W.heap[w.heap.size]? = some (.cells #[.slice ac c.length cc, .slice a d.length cp] 33) := fun W row hg hr => (hg.block w.heap.size (by omega) (fun e => hr e.symm)).trans hd0
  replace hW0 := Lib.hid hW0
  have kc := Lib.run_convert_bytes_const (P := Tryz.prog) (w.alloc (.cells #[.slice ac c.length cc, .slice a d.length cp] 33)) 27 5 #[.int .u8 78, .int .u8 82, .int .u8 77, .int .u8 49] 4 4 Tryz.underlying27 Tryz.underlying5
  rw [World.size_alloc] at kc
  unfold datV at hE ⊢
  refine callsIn_of_wp_marks Tryz.func86 rfl trivial ?_ rfl
  simp only [Tryz.ntmps86, List.size_toArray, List.length_cons, List.length_nil, Nat.reduceAdd, Nat.reduceSub, Array.replicate_succ, Array.replicate_zero, List.push_toArray, List.append_toArray, List.nil_append, List.cons_append]
  gi_wp2_with (first
    | (refine ⟨trivial, ?_⟩; rw [← hW0.out]; gi_at_call 126; refine (callsIn_wide.2 hA0).mono ?_; rintro e w1 ⟨v1, rfl, ho1, hg1, hk1⟩; obtain ⟨x1, n1, y1, rfl⟩ : ∃ x n y, v1 = .slice x n y := by { obtain ⟨a, c, h⟩ := ho1.reads.form; exact ⟨_, _, _, h⟩ }; have k := dcell _ _ hg1 (by simp [Value.ownBlock]); have k0 : w1.cell? ⟨w.heap.size, 0, none⟩ = some (.slice ac c.length cc) := by { simp [World.cell?, k] }; have k1 : w1.cell? ⟨w.heap.size, 1, none⟩ = some (.slice a d.length cp) := by { simp [World.cell?, k] }; have hlt1 : w.heap.size < w1.heap.size := by { have := hg1.size; omega }))
  have hO1 : OutAt w (w1.alloc (.cells #[.slice x1 n1 y1] 27)) w1.heap.size (.cells #[.slice ac c.length cc, .slice a d.length cp] 33) (fun k => k = w1.heap.size) (.slice x1 n1 y1) (mark ++ nums [c.length]) := by
    have hl1 := ho1.lt
    have ga := World.grownBy_alloc w1 (.cells #[.slice x1 n1 y1] 27) none
    refine ⟨Boxed.new w1 _ _, ho1.new ga, fun q e h => ?_, fun q h => by simp; omega, rfl, (gnew hg0 hg1 (fun r e => by simp [Value.ownBlock] at e; left; omega)).trans ga, (ga.block _ hlt1 (by simp)).trans k, hlt1⟩
    have := (hl1 q e).2
    omega
  clear ho1 hk1 k k0 k1 hA0 hi0 ho0 hd0 dcell
  have hmk : (mark ++ nums [c.length]).length ≤ 20 := by
    have := nums_length [c.length] (by simp; omega)
    simp [mark] at this ⊢
    omega
  gi_loopw [18] (fun vi wr => ∃ (i : Nat) (x : Option Addr) (n y : Nat), vi = .int .i64 (i : Int) ∧ i ≤ c.length ∧ OutAt w wr w1.heap.size (.cells #[.slice ac c.length cc, .slice a d.length cp] 33) (fun k => k = w1.heap.size) (.slice x n y) (mark ++ nums [c.length] ++ nums ((c.take i).flatMap tri3))) (fun vi _ => c.length - (RowKit.intOf vi).toNat)
  case atStart => exact ⟨0, x1, n1, y1, rfl, Nat.zero_le _, by simpa [nums] using hO1⟩
  case round =>
    obtain ⟨i, x, n, y, rfl, hi, hO⟩ := hrel
    by_cases hlt : i < c.length
    · obtain ⟨q, hq⟩ : ∃ q, c[i] = q := ⟨_, rfl⟩
      obtain ⟨b, off, rfl, c1, c2, c3⟩ := (hTc.all hO.2.2.2.2.2.1).get hlt
      rw [hq] at c1 c2 c3
      obtain ⟨na, nb, nk, rfl, la, lb, lk⟩ := cls_nat g3 (Int.le_refl 0) (hq ▸ List.getElem_mem hlt)
      dsimp only at c1 c2 c3
      have e1 := hO.1.cell
      have e2 := hO.1.frozen
      have hobl := hO.1.lt
      have htk : mark ++ nums [c.length] ++ nums ((c.take (i + 1)).flatMap tri3) = (mark ++ nums [c.length] ++ nums ((c.take i).flatMap tri3)) ++ nums [na, nb, nk] := by
        rw [List.take_succ_eq_append_getElem hlt, hq, List.flatMap_append, nums_append, List.append_assoc, List.append_assoc, List.append_assoc]
        simp [tri3]
      have hml : (mark ++ nums [c.length] ++ nums ((c.take i).flatMap tri3)).length ≤ 200000 := by
        have h1 := nums_length ((c.take i).flatMap tri3) (fun n hn => by
          have := flat_lt (c.take i) (fun x hx => by obtain ⟨a, b, k, h, h1, h2, h3⟩ := cls_nat g3 (Int.le_refl 0) (List.mem_of_mem_take hx); exact ⟨a, b, k, h, h1, h2, by omega⟩) n hn
          omega)
        rw [flat_length] at h1
        simp only [List.length_append, List.length_take] at h1 hmk ⊢
        omega
      replace htk := Lib.hid htk
      generalize mark ++ nums [c.length] ++ nums ((c.take i).flatMap tri3) = M at hO htk hml
      have hgA : ∀ o1 o2 : Obj, wr.grownBy ((wr.alloc o1).alloc o2) none := fun o1 o2 => galloc (World.grownBy_alloc wr o1 none) o2
      have hvl := hO.2.1.lt
      have hst := fun o1 o2 hI => out_step w ((wr.alloc o1).alloc o2) w1.heap.size (wr.heap.size + 1) _ _ _ M [na, nb, nk] (hO.new (hgA o1 o2)) hI (fun e => by have := (hvl _ e).2; omega) (by simp) (by simp; omega) (by simp; omega)
      rw [show ([na, nb, nk] : List Nat).length = 3 from rfl] at hst
      have hI3 : ∀ o1, IntsAt ((wr.alloc o1).alloc (.cells #[.int .i64 (na : Int), .int .i64 (nb : Int), .int .i64 (nk : Int)] 3)) (wr.heap.size + 1) [na, nb, nk] := fun o1 => by
        have := ints_three (wr.alloc o1) na nb nk
        rwa [World.size_alloc] at this
      clear hq
      gi_wp2_with (refine ⟨trivial, ?_⟩; gi_at_call 126; refine (callsIn_wide.2 (hst _ _ (hI3 _))).mono ?_; rintro e w3 ⟨x', n', y', rfl, b1, b2, b3, b4⟩; have e3 := b1.cell; have e4 := b1.frozen)
      exact ⟨⟨i + 1, x', n', y', by go_num, by omega, by rw [htk.out]; exact b2⟩, by simp [RowKit.intOf]; omega⟩
    · obtain rfl : i = c.length := by omega
      rw [List.take_length] at hO
      have hCl : (headC c).length ≤ 200000 := by
        have h1 := nums_length (c.flatMap tri3) (fun n hn => by
          have := flat_lt c (fun x hx => by obtain ⟨a, b, k, h, h1, h2, h3⟩ := cls_nat g3 (Int.le_refl 0) hx; exact ⟨a, b, k, h, h1, h2, by omega⟩) n hn
          omega)
        rw [flat_length] at h1
        unfold headC
        simp only [List.length_append] at h1 hmk ⊢
        omega
      rw [show mark ++ nums [c.length] ++ nums (c.flatMap tri3) = headC c from rfl] at hO
      have e1 := hO.1.cell
      have e2 := hO.1.frozen
      have hobl := hO.1.lt
      have hvl := hO.2.1.lt
      have kD := hO.2.2.2.2.2.2.1
      have k0 : wr.cell? ⟨w.heap.size, 0, none⟩ = some (.slice ac c.length cc) := by simp [World.cell?, kD]
      have k1 : wr.cell? ⟨w.heap.size, 1, none⟩ = some (.slice a d.length cp) := by simp [World.cell?, kD]
      have hgA : ∀ o1 : Obj, wr.grownBy (wr.alloc o1) none := fun o1 => World.grownBy_alloc wr o1 none
      have hst := fun o1 hI => out_step w (wr.alloc o1) w1.heap.size wr.heap.size _ _ _ (headC c) [d.length] (hO.new (hgA o1)) hI (fun e => by have := (hvl _ e).2; omega) (by simp) (by simp; omega) (by simp; omega)
      rw [show ([d.length] : List Nat).length = 1 from rfl] at hst
      have hI1 := ints_one wr d.length
      clear hlt hO1
      gi_wp2_with (first
        | (refine ⟨trivial, ?_⟩; gi_at_call 126; refine (callsIn_wide.2 (hst _ hI1)).mono ?_; rintro e w3 ⟨x', n', y', rfl, b1, b2, ⟨b3, b5⟩, b4⟩; have e3 := b1.cell; have e4 := b1.frozen; have k3 : w3.cell? ⟨w.heap.size, 0, none⟩ = some (.slice ac c.length cc) := by { simp [World.cell?, b5] }; have k4 : w3.cell? ⟨w.heap.size, 1, none⟩ = some (.slice a d.length cp) := by { simp [World.cell?, b5] }; have hne5 : w.heap.size ≠ w1.heap.size := by { omega }; have hne6 : w1.heap.size ≠ w.heap.size := by { omega })
        | (refine ⟨trivial, ?_⟩; gi_at_call 56; refine (callsIn_wide.2 (hE _)).mono ?_; rintro e w5 ⟨p, rfl, hp, hb, hg5⟩))
      have hvl2 := b2.2.1.lt
      have hO5 := b2.new hg5
      have hpl := hb.lt
      have hs5 := hg5.size
      have hob5 := hO5.1.lt
      have hgw5 : w.grownBy w5 none := hO5.2.2.2.2.2.1
      have hvb : d ≠ [] → ∀ k, (Value.slice a d.length cp).ownBlock = some k → k < w.heap.size := fun hne k e => hTd.lt hne k e
      have hob4 : w1.heap.size < (w3.setCell ⟨w1.heap.size, 0, none⟩ (.slice x' n' y')).heap.size := b2.1.lt
      have hO6 : OutAt w w5 w1.heap.size (.cells #[.slice ac c.length cc, .slice a d.length cp] 33) (fun k => k = w1.heap.size ∨ k = p) (.slice x' n' y') (headC c ++ nums [d.length]) :=
        ⟨hO5.1, hO5.2.1, fun k e h => by have := (hvl2 k e).2; rcases h with h | h; exact hO5.2.2.1 k e h; omega, fun k h => by rcases h with h | h <;> omega, .inl rfl, hO5.2.2.2.2.2⟩
      have hTell := dvals1_tellsQ 4 p w5.heap.size (fun k => k = p ∨ (Value.slice a d.length cp).ownBlock = some k) _ d w5 hb (hTd.all hgw5) ⟨hpl, .inl rfl⟩ (fun hne k e => ⟨Nat.lt_of_lt_of_le (hvb hne k e) hgw5.size, .inr e⟩)
      have hDl : (headC c ++ nums [d.length]).length ≤ 200020 := by
        have h1 := nums_length [d.length] (by simp; omega)
        simp only [List.length_append, List.length_cons, List.length_nil] at h1 ⊢
        omega
      clear hE hst hI1 hgA b1 b4 e1 e2 e3 e4 k0 k1 k3 k4 kD hW0 kc hO hvl hO5
      refine range_tellsQ (a := _) (w := w5) (α := Dec) rfl (by omega) (gf := 133) (lb := #[.pointer (some ⟨p, 0, none⟩)]) rfl trivial (enters_of Tryz.func133 (by kernel_rfl) rfl)
        hTell (by simp) (fun _ => rfl) (fun _ _ _ _ _ _ h _ _ _ => h)
        (fun pre W => Hid (pre = d.take pre.length) ∧ (∃ x n y, OutAt w W w1.heap.size (.cells #[.slice ac c.length cc, .slice a d.length cp] 33) (fun k => k = w1.heap.size ∨ k = p) (.slice x n y) (headC c ++ nums [d.length] ++ nums (pre.flatMap tri3))) ∧ w5.heap.size ≤ W.heap.size) (fun _ _ _ => False)
        ?hI (fun _ _ _ _ _ h _ _ => h.elim) ⟨Lib.hid rfl, ⟨_, _, _, by simpa [nums] using hO6⟩, Nat.le_refl _⟩
        (fun e a' W => ∃ q, D3 W q e ∧ a' = { tmps := #[.agg #[.slice ac c.length cc, .slice a d.length cp], .pointer (some ⟨w.heap.size, 0, none⟩), .slice none 0 0, .int .i64 0, .pointer (some ⟨w1.heap.size, 0, none⟩), undef, u6, .pointer (some ⟨q, 0, none⟩), .slice (some ⟨w.heap.size + 1, 0, none⟩) 4 4, .slice (some ⟨w.heap.size + 1, 0, none⟩) 4 4, .pointer (some ⟨w.heap.size, 0, none⟩), .slice ac c.length cc, .int .i64 (c.length : Int), .slice (some ⟨w.heap.size + 1 + 1, 0, none⟩) 1 1, .slice x1 n1 y1, .pointer (some ⟨w.heap.size, 0, none⟩), .slice ac c.length cc, .int .i64 (c.length : Int), .int .i64 (c.length : Int), .bool false, u20, u21, u22, u23, u24, u25, u26, u27, u28, u29, u30, u31, u32, u33, .slice x n y, .pointer (some ⟨w.heap.size, 1, none⟩), .slice a d.length cp, .int .i64 (d.length : Int), .slice (some ⟨wr.heap.size, 0, none⟩) 1 1, .slice x' n' y', .agg #[.slice ac c.length cc, .slice a d.length cp], .func (.func 133) #[] #[.pointer (some ⟨p, 0, none⟩)], dAgg e, undef, undef, undef, undef, undef, undef, undef, undef, undef, undef, undef, undef, undef, undef, undef, undef, undef], defers := [] })
        (fun _ _ _ _ h _ => h) ?hAx ?assign ?body ?done ?stop
      case hI =>
        rintro pre A B k ⟨h0, ⟨x, n, y, h1⟩, h2⟩ hg' hk
        rcases hk with rfl | ⟨q, rfl, hq, ho⟩
        · exact ⟨h0, ⟨x, n, y, h1.new hg'⟩, Nat.le_trans h2 hg'.size⟩
        · refine ⟨h0, ⟨x, n, y, h1.row hg' (by omega) ?_ (by omega)⟩, Nat.le_trans h2 hg'.size⟩
          obtain ⟨_, ⟨h3, _⟩ | ⟨g, cap, cur, h3, _, hgg, _⟩⟩ := h1.2.1
          · rw [h3]; intro e; cases e
          · rw [h3]
            intro e
            simp only [Value.ownBlock, Option.some.injEq] at e
            subst e
            have := ho _ hgg
            cases this
      case hAx =>
        rintro x a' A B k o ⟨q, hc', rfl⟩ hg' hk ho
        refine ⟨q, hc'.kept hg' (fun e => ?_), rfl⟩
        cases e
        cases (hk.symm.trans hc')
        cases ho
      case assign =>
        intro l x W K hK
        unfold dEnc dAgg
        gi_wp2_with fail
        refine hK _ _ (World.grownBy_alloc W _ none) ⟨W.heap.size, D3.new W x, ?_⟩
        rfl
      case body =>
        rintro l2 pre e0 a' W ⟨h0, ⟨x4, n4, y4, h1⟩, h2⟩ hget ⟨q, hx, rfl⟩ hsz
        have hnx := Lib.hid (take_next h0.out hget)
        obtain ⟨na, nb, nk, rfl, la, lb, lk⟩ := dec_nat g4 (List.mem_of_getElem? hget)
        have z0 := hx.c0
        have z1 := hx.c1
        have z2 := hx.c2
        dsimp only at z0 z1 z2
        have e1 := h1.1.cell
        have e2 := h1.1.frozen
        have hobl := h1.1.lt
        have hlt : pre.length < d.length := (List.getElem?_eq_some_iff.1 hget).1
        have htk : headC c ++ nums [d.length] ++ nums ((pre ++ [((na : Int), (nb : Int), (nk : Int))]).flatMap tri3) = (headC c ++ nums [d.length] ++ nums (pre.flatMap tri3)) ++ nums [na, nb, nk] := by
          rw [List.flatMap_append, nums_append, List.append_assoc, List.append_assoc, List.append_assoc]
          simp [tri3]
        have hml : (headC c ++ nums [d.length] ++ nums (pre.flatMap tri3)).length ≤ 500000 := by
          have h1 := nums_length (pre.flatMap tri3) (fun n hn => by
            have := flat_lt pre (fun x hx => by rw [h0.out] at hx; exact dec_nat g4 (List.mem_of_mem_take hx)) n hn
            omega)
          rw [flat_length] at h1
          rw [List.length_append]
          omega
        replace htk := Lib.hid htk
        generalize headC c ++ nums [d.length] ++ nums (pre.flatMap tri3) = M at h1 htk hml
        have hvl := h1.2.1.lt
        have hst := fun o1 hI => out_step w (W.alloc o1) w1.heap.size W.heap.size _ _ _ M [na, nb, nk] (h1.new (World.grownBy_alloc W o1 none)) hI (fun e => by have := (hvl _ e).2; omega) (by simp) (by simp; omega) (by simp; omega)
        rw [show ([na, nb, nk] : List Nat).length = 3 from rfl] at hst
        have hI3 := ints_three W na nb nk
        have hvc : ∀ k o, (Value.slice x4 n4 y4).ownBlock = some k → W.heap[k]? = some o → o.isCells = true := by
          intro k o hk ho
          obtain ⟨_, ⟨h3, _⟩ | ⟨g, cap, cur, h3, _, hgg, _⟩⟩ := h1.2.1
          · rw [h3] at hk; cases hk
          · rw [h3] at hk
            simp only [Value.ownBlock, Option.some.injEq] at hk
            subst hk
            rw [hgg] at ho
            cases ho
            rfl
        have hvp : ∀ k, (Value.slice x4 n4 y4).ownBlock = some k → k ≠ w1.heap.size ∧ k ≠ p ∧ w.heap.size < k := fun k hk => ⟨fun h => h1.2.2.1 k hk (.inl h), fun h => h1.2.2.1 k hk (.inr h), (hvl k hk).1⟩
        replace h1 := Lib.hid h1
        replace hx := Lib.hid hx
        clear hTell hO6 hTc hTd hb b2 b5 hvl2
        dsimp only
        gi_wp2_with (refine ⟨trivial, ?_⟩; gi_at_call 126; refine (callsIn_wide.2 (hst _ hI3)).mono ?_; rintro e w7 ⟨x7, n7, y7, rfl, b1, b2, ⟨b3, b5⟩, b4⟩; have e3 := b1.cell; have e4 := b1.frozen)
        have hszW := Nat.le_trans (Nat.le_trans (World.grownBy_alloc W (.cells #[.int .i64 (na : Int), .int .i64 (nb : Int), .int .i64 (nk : Int)] 3) none).size b3) (grownBy_setCell' w7 w1.heap.size (.slice x7 n7 y7)).size
        have hsame : ∀ k, k < W.heap.size → k ≠ w1.heap.size → (Value.slice x4 n4 y4).ownBlock ≠ some k → (w7.setCell ⟨w1.heap.size, 0, none⟩ (.slice x7 n7 y7)).heap[k]? = W.heap[k]? := fun k hk g1 g2 => (b4 k (by simp; omega) g1 g2).trans ((World.grownBy_alloc W _ none).block k hk (by simp))
        have hdne : d ≠ [] := fun h => by rw [h] at hlt; simp at hlt
        refine ⟨⟨hszW, fun k o hk ho hc => ?_⟩, ⟨hszW, fun k hk hp => ?_⟩, hnx, ⟨x7, n7, y7, by rw [htk.out]; exact b2⟩, Nat.le_trans h2 hszW⟩
        · exact (hsame k (Array.getElem?_eq_some_iff.1 ho).1 (by omega) (fun e => by rw [hvc k o e ho] at hc; cases hc)).trans ho
        · rcases hp with rfl | hp
          · exact hsame k (by omega) (by omega) (fun e => (hvp _ e).2.1 rfl)
          · have := hvb hdne k hp
            exact hsame k (by omega) (by omega) (fun e => by have := (hvp _ e).2.2; omega)
      case stop =>
        rintro D c' pre Wd W15 hD _ h _ _
        exact h.elim
      case done =>
        rintro D xs Wd W15 hD hS ⟨h0, ⟨x4, n4, y4, h1⟩, h2⟩ hg' hM
        obtain rfl : xs = d := hS
        have e1 := h1.1.cell
        have hN := fun W => crcNew_any W
        have hlen : (payload c xs).length ≤ 500000 := by
          have h1 := nums_length (xs.flatMap tri3) (fun n hn => by
            have := flat_lt xs (fun x hx => dec_nat g4 hx) n hn
            omega)
          rw [flat_length] at h1
          unfold payload
          rw [List.length_append]
          omega
        rw [show headC c ++ nums [xs.length] ++ nums (xs.flatMap tri3) = payload c xs from rfl] at h1
        have hF := fun W (hg : W15.grownBy W none) t (hT : Tbl W t false) ht => Frame_ok t false x4 n4 y4 (payload c xs) W hT ((h1.new hg).2.1.reads) ht (by omega)
        obtain ⟨P, hP⟩ : ∃ P, P = payload c xs := ⟨_, rfl⟩
        rw [← hP] at h1 hF hlen
        replace hP := Lib.hid hP
        have ec : ∀ W, W15.grownBy W none → W.cell? ⟨w1.heap.size, 0, none⟩ = some (.slice x4 n4 y4) := fun W hg => (h1.new hg).1.cell
        have hvl := h1.2.1.lt
        have hgw15 : w.grownBy W15 none := h1.2.2.2.2.2.1
        clear hTell hO6 hTc hTd hb b2 b5 hvl2 hvb hgd g4
        gi_wp2_with fail
        apply wpIn_noPanic
        gi_region_with (first
          | (refine ⟨trivial, ?_⟩; gi_at_call 114; refine (callsIn_wide.2 (hN _)).mono ?_; rintro e w8 ⟨t, rfl, ht, hTab, hg8⟩; have hg15 : W15.grownBy w8 none := ⟨hg8.os, hg8.tape, hg8.output, hg8.size, hg8.block⟩; have e8 := ec _ hg15)
          | (refine ⟨trivial, ?_⟩; gi_at_call 127; refine (callsIn_wide.2 (hF _ hg15 t hTab (.inr (fun e => by have := (hvl _ e).2; simp at ht; omega)))).mono ?_; rintro e w9 ⟨v9, rfl, ho9, hg9, hT9⟩))
        all_goals
          have hDl : D < W15.heap.size := (Array.getElem?_eq_some_iff.1 hM).1
          have ht15 : W15.heap.size ≤ t := ht
          have hM9 : w9.heap[D]? = some (.deferred (some [])) := (hg9.block D (Nat.lt_of_lt_of_le hDl hg15.size) (by simp; omega)).trans ((hg15.block D hDl (by simp)).trans hM)
          have gp := grownBy_putObj' w9 D (.deferred none)
          have hfin : w.grownBy (w9.putObj D (.deferred none)) none := gnew (gnew (hgw15.trans hg15) hg9 (fun r e => by cases e; left; have := hgw15.size; omega)) gp (fun r e => by cases e; left; omega)
          have hofin : Owns (w9.putObj D (.deferred none)) w.heap.size 5 v9 (frame P) := (ho9.mono (Nat.le_trans hgw15.size hg15.size)).kept gp (.inr (fun e => by have := (ho9.lt _ e).1; have := hg15.size; omega))
          clear hF hN ec h1 hg9 hT9 hTab ho9 hg8 gp
          refine noPanic_normal ?_
          gi_wp2_with fail
          refine ⟨by simp, .inl ⟨_, _, rfl, run_takeDeferred hM9, ?_⟩⟩
          simp [LeavesInM, LeavesIn, results, Tryz.results86, go_sem]
          rw [hP.out] at hofin
          exact ⟨hofin, hfin⟩
theorem write_any (vc vd : Value) (c : List Cls) (d : List Dec) (w : World) (hT : Dat w vc vd c d) (hgd : good c d = true) :
    Calls Tryz.prog 86 #[datV vc vd] w fun e w' => ∃ v, e = .returned (.tuple #[v, .int .i64 0]) ∧ Owns w' w.heap.size 5 v (frame (payload c d)) ∧ w.grownBy w' none := callsIn_wide.1 (write_in vc vd c d w hT hgd)
end Go.Proofs.YtpdacbiiaglodaaGreat
