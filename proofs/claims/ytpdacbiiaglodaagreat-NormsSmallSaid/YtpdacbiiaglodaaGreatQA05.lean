/-
  PLAIN MATHEMATICS FOR LAYER 2 (codec): what was written is read, whatever follows; a beginning is refused; what is read is written again as just these bytes.
-/
import Derived.Test.YtpdacbiiaglodaaGreatQA01
import Derived.Test.YtpdacbiiaglodaaGreatQA03
import Derived.Test.YtpdacbiiaglodaaGreatQA04
import Derived.Laws.BitsLemmas
namespace Go.Proofs.YtpdacbiiaglodaaGreat
set_option maxRecDepth 100000
open Go.Lib

theorem u8_big {c : UInt8} (h : 128 ≤ c.toNat) : (c.toNat % 128 + 128).toUInt8 = c := by
  have := c.toNat_lt
  rw [show c.toNat % 128 + 128 = c.toNat by omega]
  simp
theorem u8_self (c : UInt8) : c.toNat.toUInt8 = c := by simp

theorem rd_once : ∀ (bs : List UInt8) (i acc n m : Nat), rd i acc bs = .ok (n, m) → ∃ q k, n = acc + q * 2 ^ (7 * i) ∧ m = i + k ∧ 1 ≤ k ∧ k ≤ bs.length ∧ Lib.uvarint q = bs.take k ∧ (0 < i → 1 ≤ q)
  | [], i, acc, n, m, h => by simp [rd] at h
  | c :: r, i, acc, n, m, h => by
    rw [rd] at h
    split at h
    · cases h
    · rename_i hb
      split at h
      · rename_i h128
        simp only [Except.ok.injEq, Prod.mk.injEq] at h
        obtain ⟨rfl, rfl⟩ := h
        refine ⟨c.toNat, 1, rfl, rfl, Nat.le_refl _, by simp, ?_, fun hi => by omega⟩
        rw [uvarint_small h128, u8_self]
        rfl
      · rename_i h128
        obtain ⟨q, k, rfl, rfl, hk, hkl, hu, hq⟩ := rd_once r _ _ _ _ h
        have hq1 := hq (by omega)
        refine ⟨c.toNat % 128 + 128 * q, k + 1, ?_, by omega, by omega, by simp only [List.length_cons]; omega, ?_, fun _ => by omega⟩
        · rw [pow7_succ, Nat.add_mul, Nat.add_assoc]
          congr 2
          rw [Nat.mul_comm (2 ^ (7 * i)) 128, ← Nat.mul_assoc, Nat.mul_comm q 128]
        · rw [uvarint_big (by omega), show (c.toNat % 128 + 128 * q) % 128 = c.toNat % 128 by omega, show (c.toNat % 128 + 128 * q) / 128 = q by omega, u8_big (by omega), hu]
          rfl

theorem once_uint {bs : List UInt8} {n m : Nat} (h : rd 0 0 bs = .ok (n, m)) : Lib.uvarint n = bs.take m ∧ m ≤ bs.length ∧ n < 18446744073709551616 := by
  obtain ⟨q, k, h1, h2, _, h4, h5, _⟩ := rd_once bs 0 0 n m h
  have := rd_lt bs 0 0 n m (by omega) (by decide) h
  simp only [Nat.mul_zero, Nat.pow_zero, Nat.mul_one, Nat.zero_add] at h1 h2
  subst h1; subst h2
  exact ⟨h5, h4, this.1⟩

theorem pow7_pos (i : Nat) : 1 ≤ 2 ^ (7 * i) := Nat.one_le_two_pow

theorem small_at9 {i acc q : Nat} (h : acc + q * 2 ^ (7 * i) < 18446744073709551616) (h9 : i = 9) : q ≤ 1 := by
  subst h9
  have e : (2 : Nat) ^ (7 * 9) = 9223372036854775808 := by decide
  rw [e] at h
  omega

theorem rd_back (more : List UInt8) : ∀ (q i acc : Nat), i ≤ 9 → acc + q * 2 ^ (7 * i) < 18446744073709551616 → (0 < i → 1 ≤ q) → rd i acc (Lib.uvarint q ++ more) = .ok (acc + q * 2 ^ (7 * i), i + ulen q) := by
  intro q
  induction q using Nat.strongRecOn with
  | _ q ih =>
    intro i acc hi hlt hq
    by_cases h : q < 128
    · rw [uvarint_small h, List.singleton_append, rd, toUInt8_toNat (by omega), if_neg, if_pos h, ulen_small h]
      rintro (⟨h9, h1⟩ | ⟨h0, h1⟩)
      · have := small_at9 hlt h9; omega
      · have := hq h0; omega
    · have hi8 : i ≤ 8 := by
        rcases Nat.lt_or_ge i 9 with h9 | h9
        · omega
        · have := small_at9 hlt (by omega); omega
      have hb : q % 128 + 128 < 256 := by omega
      rw [uvarint_big (by omega), List.cons_append, rd, toUInt8_toNat hb, if_neg (by omega), if_neg (by omega)]
      have e : acc + (q % 128 + 128) % 128 * 2 ^ (7 * i) + q / 128 * 2 ^ (7 * (i + 1)) = acc + q * 2 ^ (7 * i) := by
        rw [pow7_succ, show (q % 128 + 128) % 128 = q % 128 by omega, Nat.add_assoc]
        congr 1
        rw [Nat.mul_comm (2 ^ (7 * i)) 128, ← Nat.mul_assoc, ← Nat.add_mul]
        congr 1
        omega
      rw [ih (q / 128) (by omega) (i + 1) _ (by omega) (by rw [e]; exact hlt) (fun _ => by omega), e, ulen_big (x := q) (by omega)]
      congr 2
      omega

theorem back_uint (n : Nat) (hn : n < 18446744073709551616) (more : List UInt8) : rd 0 0 (Lib.uvarint n ++ more) = .ok (n, ulen n) := by
  have := rd_back more n 0 0 (by omega) (by simpa using hn) (fun h => by omega)
  simpa using this

theorem rd_short : ∀ (q x i acc : Nat), i ≤ 9 → acc + q * 2 ^ (7 * i) < 18446744073709551616 → (0 < i → 1 ≤ q) → x < ulen q → rd i acc ((Lib.uvarint q).take x) = .error 20 := by
  intro q
  induction q using Nat.strongRecOn with
  | _ q ih =>
    intro x i acc hi hlt hq hx
    by_cases h : q < 128
    · rw [ulen_small h] at hx
      obtain rfl : x = 0 := by omega
      simp [rd]
    · cases x with
      | zero => simp [rd]
      | succ x =>
        have hi8 : i ≤ 8 := by
          rcases Nat.lt_or_ge i 9 with h9 | h9
          · omega
          · have := small_at9 hlt (by omega); omega
        rw [ulen_big (by omega)] at hx
        have hb : q % 128 + 128 < 256 := by omega
        rw [uvarint_big (by omega), List.take_succ_cons, rd, toUInt8_toNat hb, if_neg (by omega), if_neg (by omega)]
        have e : acc + (q % 128 + 128) % 128 * 2 ^ (7 * i) + q / 128 * 2 ^ (7 * (i + 1)) = acc + q * 2 ^ (7 * i) := by
          rw [pow7_succ, show (q % 128 + 128) % 128 = q % 128 by omega, Nat.add_assoc]
          congr 1
          rw [Nat.mul_comm (2 ^ (7 * i)) 128, ← Nat.mul_assoc, ← Nat.add_mul]
          congr 1
          omega
        exact ih (q / 128) (by omega) x (i + 1) _ (by omega) (by rw [e]; exact hlt) (fun _ => by omega) (by omega)

theorem short_uint (n : Nat) (hn : n < 18446744073709551616) (x : Nat) (hx : x < ulen n) : rd 0 0 ((Lib.uvarint n).take x) = .error 20 :=
  rd_short n x 0 0 (by omega) (by simpa using hn) (fun h => by omega) hx

/-! ### Fields -/
theorem once_field {bs f : List UInt8} {m : Nat} (h : rdField bs = .ok (f, m)) : field f = bs.take m ∧ m ≤ bs.length ∧ f.length ≤ 1048576 := by
  have hl := rdField_lt h
  unfold rdField at h
  split at h
  · cases h
  rename_i n k h'
  have h2 := rdLen_lt h'
  split at h
  · cases h
  rename_i hle
  simp only [Except.ok.injEq, Prod.mk.injEq] at h
  obtain ⟨hf, rfl⟩ := h
  have ho := once_uint h2.2.2.2
  have hn : f.length = n := by rw [← hf]; simp; omega
  refine ⟨?_, hl.2.2.1, hl.1⟩
  rw [field, hn, ho.1, ← hf, ← List.take_add]

theorem once_many : ∀ (k : Nat) (bs : List UInt8) (L : List (List UInt8)) (m : Nat), rdMany k bs = .ok (L, m) → (L.map field).flatten = bs.take m ∧ ∀ f ∈ L, f.length ≤ 1048576
  | 0, bs, L, m, h => by simp [rdMany] at h; obtain ⟨rfl, rfl⟩ := h; simp
  | k + 1, bs, L, m, h => by
    rw [rdMany] at h
    split at h
    · cases h
    rename_i f m1 h1
    split at h
    · cases h
    rename_i l m2 h2
    simp only [Except.ok.injEq, Prod.mk.injEq] at h
    obtain ⟨rfl, rfl⟩ := h
    have ho := once_field h1
    have ih := once_many k _ _ _ h2
    refine ⟨?_, ?_⟩
    · rw [List.map_cons, List.flatten_cons, ho.1, ih.1, ← List.take_add]
    · intro g hg
      rcases List.mem_cons.1 hg with rfl | hg
      · exact ho.2.2
      · exact ih.2 g hg

theorem once_fields {bs : List UInt8} {L : List (List UInt8)} {m : Nat} (h : rdFields bs = .ok (L, m)) : fields L = bs.take m ∧ m ≤ bs.length ∧ L.length ≤ 65536 ∧ ∀ f ∈ L, f.length ≤ 1048576 := by
  unfold rdFields at h
  split at h
  · cases h
  rename_i n k h'
  have h2 := rdLen_lt h'
  split at h
  · cases h
  rename_i l m' hm
  simp only [Except.ok.injEq, Prod.mk.injEq] at h
  obtain ⟨rfl, rfl⟩ := h
  have hl := rdMany_lt _ _ _ _ hm
  have ho := once_many _ _ _ _ hm
  simp only [List.length_drop] at hl
  refine ⟨?_, by omega, by omega, ho.2⟩
  rw [fields, hl.1, (once_uint h2.2.2.2).1, ho.1, ← List.take_add]

theorem back_field (f more : List UInt8) (hf : f.length ≤ 1048576) : rdField (field f ++ more) = .ok (f, (field f).length) := by
  have h := back_uint f.length (by omega) (f ++ more)
  unfold rdField rdLen
  rw [field, List.append_assoc, h]
  simp only
  rw [if_neg (by omega)]
  simp only
  have hl : (Lib.uvarint f.length).length = ulen f.length := rfl
  rw [if_neg (by simp only [List.length_append, hl]; omega)]
  congr 2
  · rw [List.drop_left' hl, List.take_left' rfl]
  · rw [List.length_append, hl]

theorem back_many (more : List UInt8) : ∀ (L : List (List UInt8)), (∀ f ∈ L, f.length ≤ 1048576) → rdMany L.length ((L.map field).flatten ++ more) = .ok (L, (L.map field).flatten.length)
  | [], _ => by simp [rdMany]
  | f :: L, h => by
    have ih := back_many more L (fun g hg => h g (by simp [hg]))
    rw [List.length_cons, rdMany, List.map_cons, List.flatten_cons, List.append_assoc, back_field f _ (h f (by simp))]
    simp only
    rw [List.drop_left' rfl, ih]
    simp

theorem back_fields (L : List (List UInt8)) (more : List UInt8) (hL : L.length ≤ 65536) (h : ∀ f ∈ L, f.length ≤ 1048576) : rdFields (fields L ++ more) = .ok (L, (fields L).length) := by
  have hu := back_uint L.length (by omega) ((L.map field).flatten ++ more)
  unfold rdFields rdLen
  rw [fields, List.append_assoc, hu]
  simp only
  rw [if_neg (by omega)]
  simp only
  have hl : (Lib.uvarint L.length).length = ulen L.length := rfl
  rw [List.drop_left' hl, back_many more L h]
  simp only [List.length_append]
  rfl
end Go.Proofs.YtpdacbiiaglodaaGreat

/-
  LAYER 2's REFERENCE: what writes: Uint, Int, Field, Fields, Fixed.
-/
namespace Go.Proofs.YtpdacbiiaglodaaGreat
set_option maxRecDepth 100000
open Go.RowKit Go.Lib

set_option maxHeartbeats 2000000 in
set_option maxRecDepth 100000 in
theorem refUint_any (x : Nat) (hx : x < 18446744073709551616) (w : World) :
    Calls Tryz.prog 43 #[.int .u64 (x : Int)] w fun e w' => ∃ v, e = .returned v ∧ Owns w' w.heap.size 5 v (Lib.uvarint x) ∧ w.grownBy w' none := by
  obtain ⟨i0, hi, hz0, hz1, hz2⟩ := info_parts infoU8
  have hlen := Lib.uvarint_length64 hx
  go_enter Tryz.func43, Tryz.ntmps43
  go_wp2
  go_loopw [3, 0] (fun vb vx wr => ∃ (y : Nat) (pre : List UInt8), vx = .int .u64 (y : Int) ∧ y ≤ x ∧ Hid (Lib.uvarint x = pre ++ Lib.uvarint y) ∧ wr.ownsRow w.heap.size 5 1 vb pre.length (Lib.byteCells pre) ∧ Below w.heap.size w wr)
    (fun _ vx _ => (RowKit.intOf vx).toNat)
  case atStart => exact ⟨x, [], rfl, Nat.le_refl _, rfl, World.ownsRow_nil _ _ _ _, Below.refl _ _⟩
  case round =>
    obtain ⟨y, pre, rfl, hy, hsp, hown1, hnx⟩ := hrel
    have hpl : pre.length + (Lib.uvarint y).length ≤ 10 := by
      have h2 := congrArg List.length hsp.out
      rw [List.length_append] at h2
      omega
    have hyp := Lib.uvarint_pos y
    by_cases h128 : 128 ≤ y
    · go_wp2_with (at_builtin; refine wpList_append_own _ rfl _ _ 27 rfl w.heap.size 5 i0 (.int .u8 0) 1 1 Tryz.underlying27 hi hz0 hz1 hz2 rfl (by decide) _ _ _ rfl (hown1.alloc _) ⟨wr.heap.size, 0, none⟩ 1 1 [Value.int .u8 ((y % 128 + 128 : Nat) : Int)] rfl rfl ?c1 ?c2 ?c3 ?c4 ?c5 ?_)
      case c1 =>
        intro j u hj
        match j, hj with
        | 0, hj =>
          simp at hj; subst hj
          simp [Addr.add]
      case c2 => intro u hu; simp at hu; subst hu; rfl
      case c3 => unfold maxLen; omega
      case c4 => omega
      case c5 => have := hnx.size; simp; omega
      intro v' w1 hown' hgrow _
      have hnx1 : Below w.heap.size w w1 := (hnx.alloc (by have := hnx.size; omega) _).grown hgrow (by have := hnx.size; simp; omega) (fun k hk => (hown1.lt k hk).1)
      go_wp2
      go_roundw
      case rel =>
        refine ⟨y / 128, pre ++ [(y % 128 + 128).toUInt8], by go_num, by omega, by show _ = _; rw [hsp.out, Lib.uvarint_big h128]; simp, ?_, hnx1⟩
        have ec : ((y % 128 + 128 : Nat) : Int) = (y : Int) % 128 + 128 := by omega
        rw [Lib.byteCells_snoc pre (by omega), List.length_append, List.length_singleton, ec]
        exact hown'
      case measure => simp [RowKit.intOf]; omega
    · have hsm : Lib.uvarint y = [y.toUInt8] := Lib.uvarint_small (by omega)
      go_wp2_with (at_builtin; refine wpList_append_own _ rfl _ _ 27 rfl w.heap.size 5 i0 (.int .u8 0) 1 1 Tryz.underlying27 hi hz0 hz1 hz2 rfl (by decide) _ _ _ rfl (hown1.alloc _) ⟨wr.heap.size, 0, none⟩ 1 1 [Value.int .u8 (y : Int)] rfl rfl ?c1 ?c2 ?c3 ?c4 ?c5 ?_)
      case c1 =>
        intro j u hj
        match j, hj with
        | 0, hj => simp at hj; subst hj; simp [Addr.add]
      case c2 => intro u hu; simp at hu; subst hu; rfl
      case c3 => unfold maxLen; omega
      case c4 => omega
      case c5 => have := hnx.size; simp; omega
      intro v' w1 hown' hgrow _
      have hnx1 : Below w.heap.size w w1 := (hnx.alloc (by have := hnx.size; omega) _).grown hgrow (by have := hnx.size; simp; omega) (fun k hk => (hown1.lt k hk).1)
      go_wp2
      go_ret
      refine ⟨v', rfl, ?_, belowg hnx1 _⟩
      unfold Owns
      rw [hsp.out, hsm, Lib.byteCells_snoc pre (by omega), List.length_append, List.length_singleton]
      exact hown'

end Go.Proofs.YtpdacbiiaglodaaGreat

/-
  LAYER 2 (codec): Fixed, and the reference's.
-/
namespace Go.Proofs.YtpdacbiiaglodaaGreat
set_option maxRecDepth 100000
open Go.RowKit Go.Lib

theorem reads_lit' (w : World) (e : TypeId) (bs : List UInt8) (hm : bs.length ≤ maxLen) : Reads (w.alloc (.cells (byteCells bs).toArray e)) (.slice (some ⟨w.heap.size, 0, none⟩) bs.length bs.length) bs :=
  (owns_block (B := 0) (Nat.zero_le _) (heap_alloc_new w _) hm rfl).reads
theorem leB_byte (n k : Nat) : (n / 2 ^ (8 * k) % 256).toUInt8.toNat = n / 2 ^ (8 * k) % 256 := toUInt8_toNat (by omega)

set_option maxHeartbeats 1000000 in
theorem Fixed_range (n : Nat) (x : Int) (w : World) (hx : ¬ (1 ≤ x ∧ x ≤ 8)) :
    Calls Tryz.prog 158 #[.int .u64 (n : Int), .int .i64 x] w fun e w' => e = .returned (.tuple #[.slice none 0 0, .int .i64 1]) ∧ w = w' := by
  have hw := isWide_any x
  rw [decide_eq_false hx] at hw
  go_enter Tryz.func158, Tryz.ntmps158
  go_wp2_with (go_at_call 182; refine (hw _).mono ?_; rintro e w' ⟨rfl, rfl⟩)
  go_ret2
  exact ⟨rfl, rfl⟩

set_option maxHeartbeats 1000000 in
theorem Fixed_big (n k : Nat) (w : World) (hn : n < 18446744073709551616) (hk : 1 ≤ k ∧ k ≤ 8) (hb : 2 ^ (8 * k) ≤ n) :
    Calls Tryz.prog 158 #[.int .u64 (n : Int), .int .i64 (k : Int)] w fun e w' => e = .returned (.tuple #[.slice none 0 0, .int .i64 1]) ∧ w = w' := by
  have hw := isWide_any (k : Int)
  rw [decide_eq_true (by omega)] at hw
  have hc := fun w => (Tryz.bits_Len64 (n : Int) w (by omega) (by omega)).mono (R' := fun e w' => e = .returned (.int .i64 (Lib.bitLen (n : Int).toNat)) ∧ w = w') fun e w' h => ⟨h.1, h.2.symm⟩
  simp only [Int.toNat_natCast] at hc
  have h1 := bitLen_le_iff n (8 * k) hn (by omega)
  have h2 := bitLen_le n
  generalize Lib.bitLen n = q at hc h1 h2
  have hq : 8 * (k : Int) < (q : Int) := by omega
  have hN := Lib.hid hn
  clear h1 hb hn
  go_enter Tryz.func158, Tryz.ntmps158
  go_wp2_with (first | (go_at_call 182; refine (hw _).mono ?_; rintro e w' ⟨rfl, rfl⟩) | (go_at_call 183; refine (hc _).mono ?_; rintro e w' ⟨rfl, rfl⟩))
  go_ret2
  exact ⟨rfl, rfl⟩

set_option maxHeartbeats 2000000 in
set_option maxRecDepth 100000 in
theorem Fixed_ok (n k : Nat) (w : World) (hn : n < 18446744073709551616) (hk : 1 ≤ k ∧ k ≤ 8) (hb : n < 2 ^ (8 * k)) :
    Calls Tryz.prog 158 #[.int .u64 (n : Int), .int .i64 (k : Int)] w fun e w' => ∃ v, e = .returned (.tuple #[v, .int .i64 0]) ∧ Owns w' w.heap.size 5 v (leB n k) ∧ w.grownBy w' none := by
  obtain ⟨i0, hi, hz0, hz1, hz2⟩ := info_parts infoU8
  have hw := isWide_any (k : Int)
  rw [decide_eq_true (by omega)] at hw
  have hc := fun w => (Tryz.bits_Len64 (n : Int) w (by omega) (by omega)).mono (R' := fun e w' => e = .returned (.int .i64 (Lib.bitLen (n : Int).toNat)) ∧ w = w') fun e w' h => ⟨h.1, h.2.symm⟩
  simp only [Int.toNat_natCast] at hc
  have h1 := bitLen_le_iff n (8 * k) hn (by omega)
  have h2 := bitLen_le n
  generalize Lib.bitLen n = q at hc h1 h2
  have hq : (q : Int) ≤ 8 * (k : Int) := by omega
  have hN := Lib.hid hn
  clear h1 hb hn
  go_enter Tryz.func158, Tryz.ntmps158
  go_wp2_with (first | (go_at_call 182; refine (hw _).mono ?_; rintro e w' ⟨rfl, rfl⟩) | (go_at_call 183; refine (hc _).mono ?_; rintro e w' ⟨rfl, rfl⟩) | (at_make; refine wpList_make_full _ rfl _ _ 27 rfl w.heap.size 5 i0 (.int .u8 0) 1 Tryz.underlying27 hi hz0 hz1 .i64 .i64 _ _ k rfl rfl rfl rfl (by rw [hz2]; omega) (by unfold maxLen; omega) (Nat.le_refl _) ?_; intro w0 hown0 hgrow0))
  have hown : w0.ownsRow w.heap.size 5 1 (.slice (some ⟨w.heap.size, 0, none⟩) k k) k (byteCells (leB n 0) ++ List.replicate (k - 0) (.int .u8 0)) := by
    have e : (madeCells (Value.int .u8 0).cells (k * 1)).toList = List.replicate k (Value.int .u8 0) := by simp [Value.cells, toList_madeCells_one]
    rw [e] at hown0
    simpa [leB, byteCells] using hown0
  clear hown0
  have hb0 : Below w.heap.size w w0 := gbelow hgrow0 (Nat.le_refl _) (by simp)
  clear hgrow0
  go_loopw [7, 22] (fun v7 vi wr => ∃ i : Nat, i ≤ k ∧ vi = .int .i64 (i : Int) ∧ wr.ownsRow w.heap.size 5 1 (.slice (some ⟨w.heap.size, 0, none⟩) k k) k (byteCells (leB n i) ++ List.replicate (k - i) (.int .u8 0)) ∧ Below w.heap.size w wr) (fun _ vi _ => k - (RowKit.intOf vi).toNat)
  case atStart => exact ⟨0, Nat.zero_le _, rfl, hown, hb0⟩
  case round =>
    obtain ⟨i, hi', rfl, hown1, hb1⟩ := hrel
    by_cases hlt : i < k
    · have hcell := hown1.cellAt i (by omega)
      have hlen : (byteCells (leB n i)).length = i := by rw [byteCells_len, leB_length]
      rw [List.getElem?_append_right (by omega), hlen, Nat.sub_self, List.getElem?_replicate, if_pos (by omega)] at hcell
      have hfr := hown1.frozenAt i
      have hst := hown1.stored i (.int .u8 ((n / 2 ^ (8 * i) % 256 : Nat) : Int))
      have hset : (byteCells (leB n i) ++ List.replicate (k - i) (Value.int .u8 0)).set i (.int .u8 ((n / 2 ^ (8 * i) % 256 : Nat) : Int)) = byteCells (leB n (i + 1)) ++ List.replicate (k - (i + 1)) (.int .u8 0) := by
        rw [List.set_append_right _ _ (by omega), hlen, Nat.sub_self, show k - i = (k - (i + 1)) + 1 by omega, List.replicate_succ, List.set_cons_zero, leB, byteCells_append, List.append_assoc]
        simp [byteCells]
      rw [hset] at hst
      have hS := Lib.hid hst
      have hi8 : i ≤ 7 := by omega
      clear hst hset hlen
      go_wp2
      have hv : ((n / 2 ^ (8 * i) % 256 : Nat) : Int) = (n : Int) / 2 ^ (8 * i) % 256 := by simp
      have h := hS.out
      rw [hv] at h
      exact ⟨⟨i + 1, by omega, by go_num, h.1, hb1.setCell (Nat.le_refl _) _⟩, by simp [RowKit.intOf]; omega⟩
    · have hik : i = k := by omega
      subst hik
      have hown2 : Owns wr w.heap.size 5 (.slice (some ⟨w.heap.size, 0, none⟩) i i) (leB n i) := by
        unfold Owns; rw [leB_length]; simpa using hown1
      clear hown1
      go_wp2
      go_ret2
      exact ⟨_, rfl, hown2, belowg hb1 _⟩

/-! ### The reference's -/
theorem div_pow_zero (n k : Nat) (hb : n < 2 ^ (8 * k)) : (n : Int) / 2 ^ (8 * k) = 0 := by
  have : ((n / 2 ^ (8 * k) : Nat) : Int) = 0 := by rw [Nat.div_eq_of_lt hb]; rfl
  simpa using this
theorem div_pow_pos (n k : Nat) (hb : 2 ^ (8 * k) ≤ n) : (n : Int) / 2 ^ (8 * k) ≠ 0 := by
  have h1 : 1 ≤ n / 2 ^ (8 * k) := Nat.div_pos hb (Nat.two_pow_pos _)
  have : ((n / 2 ^ (8 * k) : Nat) : Int) ≠ 0 := by omega
  simpa using this

end Go.Proofs.YtpdacbiiaglodaaGreat

/-
  LAYER 5 (norms), plain: code points, Hangul, classes, decompositions, and what data may be. No program, no world.
-/
namespace Go.Proofs.YtpdacbiiaglodaaGreat
set_option maxRecDepth 100000

/-- from, to, class · code, a, b. -/
abbrev Cls := Int × Int × Int
abbrev Dec := Int × Int × Int

def scal (r : Int) : Bool := decide (0 ≤ r ∧ r < 55296 ∨ 57343 < r ∧ r ≤ 1114111)
def syl (r : Int) : Bool := decide (44032 ≤ r ∧ r ≤ 55203)
def jamo (r : Int) : Bool := decide (4352 ≤ r ∧ r ≤ 4370 ∨ 4449 ≤ r ∧ r ≤ 4469 ∨ 4519 < r ∧ r ≤ 4546)
/-- What a Hangul syllable comes to. -/
def hang (r : Int) : List Int :=
  let s := r - 44032
  [4352 + s / 588, 4449 + s % 588 / 28] ++ (if s % 28 = 0 then [] else [4519 + s % 28])
def byR (r : Int) : List Int := if syl r = true then hang r else [r]
theorem byR_ne (r : Int) : byR r ≠ [] := by unfold byR hang; split <;> simp

/-- The class of a code point: of the first range that has it. -/
def clsOf : List Cls → Int → Int
  | [], _ => 0
  | c :: t, r => if c.1 ≤ r ∧ r ≤ c.2.1 then c.2.2 else clsOf t r
/-- One range may be, behind a place. -/
def clOk (least : Int) (c : Cls) : Bool := scal c.1 && scal c.2.1 && decide (least ≤ c.1) && decide (c.1 ≤ c.2.1) && decide (1 ≤ c.2.2) && decide (c.2.2 ≤ 254)
def clsOk : Int → List Cls → Bool
  | _, [] => true
  | least, c :: t => clOk least c && clsOk (c.2.1 + 1) t

/-- A decomposition by one step. -/
def stp (d : List Dec) (r : Int) : Option Dec := d.find? fun x => decide (x.1 = r)
def codesOk (x : Dec) : Bool := scal x.1 && !syl x.1 && !jamo x.1 && scal x.2.1 && !decide (x.2.1 = 0) && scal x.2.2 && !syl x.2.2
/-- In so many steps it comes to the end. -/
def mb (d : List Dec) : Nat → Dec → Bool
  | 0, _ => false
  | n + 1, x => match stp d x.2.1 with
    | none => true
    | some y => mb d n y
def bOk (d : List Dec) (x : Dec) : Bool := decide (x.2.2 = 0) || (stp d x.2.2).isNone
/-- What a decomposition comes to, in so many steps. -/
def whl (d : List Dec) : Nat → Dec → List Int
  | 0, _ => []
  | n + 1, x => (match stp d x.2.1 with
    | none => byR x.2.1
    | some y => whl d n y) ++ (if x.2.2 = 0 then [] else [x.2.2])
def begins (c : List Cls) (d : List Dec) (x : Dec) : Bool := decide (clsOf c x.1 = 0) || !decide (clsOf c ((whl d 4 x).headD 0) = 0)
def decOk (c : List Cls) (d : List Dec) (least : Int) (x : Dec) : Bool := decide (least ≤ x.1) && codesOk x && (bOk d x && mb d 4 x) && begins c d x
def decsOk (c : List Cls) (d : List Dec) : Int → List Dec → Bool
  | _, [] => true
  | least, x :: t => decOk c d least x && decsOk c d (x.1 + 1) t
/-- Data that may be. -/
def good (c : List Cls) (d : List Dec) : Bool := decide (c.length ≤ 4000) && decide (d.length ≤ 8000) && clsOk 0 c && decsOk c d 0 d

theorem mb_whl {d : List Dec} : ∀ {n : Nat} {x : Dec}, mb d n x = true → ∀ k, whl d (n + k) x = whl d n x ∧ whl d n x ≠ []
  | 0, _, h, _ => by simp [mb] at h
  | n + 1, x, h, k => by
    rw [show n + 1 + k = (n + k) + 1 by omega, whl, whl]
    rw [mb] at h
    cases hs : stp d x.2.1 with
    | none => exact ⟨rfl, by simp [byR_ne]⟩
    | some y =>
      rw [hs] at h
      have := mb_whl h k
      simp only
      rw [this.1]
      exact ⟨rfl, by simp [this.2]⟩

theorem decsOk_mem {c : List Cls} {d : List Dec} : ∀ {l : List Dec} {least : Int}, decsOk c d least l = true → ∀ x ∈ l, decOk c d least x = true
  | [], _, _, x, hx => by cases hx
  | y :: t, least, h, x, hx => by
    rw [decsOk, Bool.and_eq_true] at h
    rcases List.mem_cons.1 hx with rfl | hx
    · exact h.1
    · have h2 := decsOk_mem h.2 x hx
      have h1 := h.1
      simp only [decOk, Bool.and_eq_true, decide_eq_true_eq] at h1 h2 ⊢
      exact ⟨⟨⟨by omega, h2.1.1.2⟩, h2.1.2⟩, h2.2⟩
/-- Codes rise. -/
theorem decsOk_rise {c : List Cls} {d : List Dec} : ∀ {l : List Dec} {least : Int}, decsOk c d least l = true → (l.map (·.1)).Pairwise (· < ·)
  | [], _, _ => List.Pairwise.nil
  | y :: t, least, h => by
    rw [decsOk, Bool.and_eq_true] at h
    refine List.Pairwise.cons (fun a ha => ?_) (decsOk_rise h.2)
    obtain ⟨x, hx, rfl⟩ := List.mem_map.1 ha
    have := decsOk_mem h.2 x hx
    simp only [decOk, Bool.and_eq_true, decide_eq_true_eq] at this
    show y.1 < x.1
    omega
end Go.Proofs.YtpdacbiiaglodaaGreat
