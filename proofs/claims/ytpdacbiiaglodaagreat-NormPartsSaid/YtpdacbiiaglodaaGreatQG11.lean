/-
  LAYER 2 (codec): Fixed, and the reference's.
-/
import Derived.Test.YtpdacbiiaglodaaGreatQG10
import Derived.Test.YtpdacbiiaglodaaGreatQG01
import Derived.Test.YtpdacbiiaglodaaGreatQG03
import Derived.Test.YtpdacbiiaglodaaGreatRows
import Derived.WalkKit
import Derived.WalkLawsBesides
import Derived.WalkSpells
import Derived.BigQuiet
import Derived.Laws.Pointers
import Derived.Laws.IdiomStrings
import Derived.Deep.RegionWith
import Derived.Carry
import Derived.MapKept
import Derived.RangeFuncBox
import Derived.RangeFuncNested
import Derived.Maps.AppendAt
import Derived.ArgAppend
import Derived.OwnWalk
import Derived.Maps.RangeWalk
namespace Go.Proofs.YtpdacbiiaglodaaGreat
set_option maxRecDepth 100000
open Go.RowKit Go.Lib

theorem reads_lit' (w : World) (e : TypeId) (bs : List UInt8) (hm : bs.length ≤ maxLen) : Reads (w.alloc (.cells (byteCells bs).toArray e)) (.slice (some ⟨w.heap.size, 0, none⟩) bs.length bs.length) bs :=
  (owns_block (B := 0) (Nat.zero_le _) (heap_alloc_new w _) hm rfl).reads
theorem leB_byte (n k : Nat) : (n / 2 ^ (8 * k) % 256).toUInt8.toNat = n / 2 ^ (8 * k) % 256 := toUInt8_toNat (by omega)

set_option maxHeartbeats 1000000 in
theorem Fixed_range (n : Nat) (x : Int) (w : World) (hx : ¬ (1 ≤ x ∧ x ≤ 8)) :
    Calls Tryz.prog 158 #[.int .u64 (n : Int), .int .i64 x] w fun e w' => e = .returned (.tuple #[.slice none 0 0, .int .i64 1]) ∧ w = w' := by
  have hw := isWide_any x
  rw [decide_eq_false hx] at hw
  go_enter Tryz.func158, Tryz.ntmps158
  go_wp2_with (go_at_call 182; refine (hw _).mono ?_; rintro e w' ⟨rfl, rfl⟩)
  go_ret2
  exact ⟨rfl, rfl⟩

set_option maxHeartbeats 1000000 in
theorem Fixed_big (n k : Nat) (w : World) (hn : n < 18446744073709551616) (hk : 1 ≤ k ∧ k ≤ 8) (hb : 2 ^ (8 * k) ≤ n) :
    Calls Tryz.prog 158 #[.int .u64 (n : Int), .int .i64 (k : Int)] w fun e w' => e = .returned (.tuple #[.slice none 0 0, .int .i64 1]) ∧ w = w' := by
  have hw := isWide_any (k : Int)
  rw [decide_eq_true (by omega)] at hw
  have hc := fun w => (Tryz.bits_Len64 (n : Int) w (by omega) (by omega)).mono (R' := fun e w' => e = .returned (.int .i64 (Lib.bitLen (n : Int).toNat)) ∧ w = w') fun e w' h => ⟨h.1, h.2.symm⟩
  simp only [Int.toNat_natCast] at hc
  have h1 := bitLen_le_iff n (8 * k) hn (by omega)
  have h2 := bitLen_le n
  generalize Lib.bitLen n = q at hc h1 h2
  have hq : 8 * (k : Int) < (q : Int) := by omega
  have hN := Lib.hid hn
  clear h1 hb hn
  go_enter Tryz.func158, Tryz.ntmps158
  go_wp2_with (first | (go_at_call 182; refine (hw _).mono ?_; rintro e w' ⟨rfl, rfl⟩) | (go_at_call 183; refine (hc _).mono ?_; rintro e w' ⟨rfl, rfl⟩))
  go_ret2
  exact ⟨rfl, rfl⟩

set_option maxHeartbeats 2000000 in
set_option maxRecDepth 100000 in
theorem Fixed_ok (n k : Nat) (w : World) (hn : n < 18446744073709551616) (hk : 1 ≤ k ∧ k ≤ 8) (hb : n < 2 ^ (8 * k)) :
    Calls Tryz.prog 158 #[.int .u64 (n : Int), .int .i64 (k : Int)] w fun e w' => ∃ v, e = .returned (.tuple #[v, .int .i64 0]) ∧ Owns w' w.heap.size 5 v (leB n k) ∧ w.grownBy w' none := by
  obtain ⟨i0, hi, hz0, hz1, hz2⟩ := info_parts infoU8
  have hw := isWide_any (k : Int)
  rw [decide_eq_true (by omega)] at hw
  have hc := fun w => (Tryz.bits_Len64 (n : Int) w (by omega) (by omega)).mono (R' := fun e w' => e = .returned (.int .i64 (Lib.bitLen (n : Int).toNat)) ∧ w = w') fun e w' h => ⟨h.1, h.2.symm⟩
  simp only [Int.toNat_natCast] at hc
  have h1 := bitLen_le_iff n (8 * k) hn (by omega)
  have h2 := bitLen_le n
  generalize Lib.bitLen n = q at hc h1 h2
  have hq : (q : Int) ≤ 8 * (k : Int) := by omega
  have hN := Lib.hid hn
  clear h1 hb hn
  go_enter Tryz.func158, Tryz.ntmps158
  go_wp2_with (first | (go_at_call 182; refine (hw _).mono ?_; rintro e w' ⟨rfl, rfl⟩) | (go_at_call 183; refine (hc _).mono ?_; rintro e w' ⟨rfl, rfl⟩) | (at_make; refine wpList_make_full _ rfl _ _ 27 rfl w.heap.size 5 i0 (.int .u8 0) 1 Tryz.underlying27 hi hz0 hz1 .i64 .i64 _ _ k rfl rfl rfl rfl (by rw [hz2]; omega) (by unfold maxLen; omega) (Nat.le_refl _) ?_; intro w0 hown0 hgrow0))
  have hown : w0.ownsRow w.heap.size 5 1 (.slice (some ⟨w.heap.size, 0, none⟩) k k) k (byteCells (leB n 0) ++ List.replicate (k - 0) (.int .u8 0)) := by
    have e : (madeCells (Value.int .u8 0).cells (k * 1)).toList = List.replicate k (Value.int .u8 0) := by simp [Value.cells, toList_madeCells_one]
    rw [e] at hown0
    simpa [leB, byteCells] using hown0
  clear hown0
  have hb0 : Below w.heap.size w w0 := gbelow hgrow0 (Nat.le_refl _) (by simp)
  clear hgrow0
  go_loopw [7, 22] (fun v7 vi wr => ∃ i : Nat, i ≤ k ∧ vi = .int .i64 (i : Int) ∧ wr.ownsRow w.heap.size 5 1 (.slice (some ⟨w.heap.size, 0, none⟩) k k) k (byteCells (leB n i) ++ List.replicate (k - i) (.int .u8 0)) ∧ Below w.heap.size w wr) (fun _ vi _ => k - (RowKit.intOf vi).toNat)
  case atStart => exact ⟨0, Nat.zero_le _, rfl, hown, hb0⟩
  case round =>
    obtain ⟨i, hi', rfl, hown1, hb1⟩ := hrel
    by_cases hlt : i < k
    · have hcell := hown1.cellAt i (by omega)
      have hlen : (byteCells (leB n i)).length = i := by rw [byteCells_len, leB_length]
      rw [List.getElem?_append_right (by omega), hlen, Nat.sub_self, List.getElem?_replicate, if_pos (by omega)] at hcell
      have hfr := hown1.frozenAt i
      have hst := hown1.stored i (.int .u8 ((n / 2 ^ (8 * i) % 256 : Nat) : Int))
      have hset : (byteCells (leB n i) ++ List.replicate (k - i) (Value.int .u8 0)).set i (.int .u8 ((n / 2 ^ (8 * i) % 256 : Nat) : Int)) = byteCells (leB n (i + 1)) ++ List.replicate (k - (i + 1)) (.int .u8 0) := by
        rw [List.set_append_right _ _ (by omega), hlen, Nat.sub_self, show k - i = (k - (i + 1)) + 1 by omega, List.replicate_succ, List.set_cons_zero, leB, byteCells_append, List.append_assoc]
        simp [byteCells]
      rw [hset] at hst
      have hS := Lib.hid hst
      have hi8 : i ≤ 7 := by omega
      clear hst hset hlen
      go_wp2
      have hv : ((n / 2 ^ (8 * i) % 256 : Nat) : Int) = (n : Int) / 2 ^ (8 * i) % 256 := by simp
      have h := hS.out
      rw [hv] at h
      exact ⟨⟨i + 1, by omega, by go_num, h.1, hb1.setCell (Nat.le_refl _) _⟩, by simp [RowKit.intOf]; omega⟩
    · have hik : i = k := by omega
      subst hik
      have hown2 : Owns wr w.heap.size 5 (.slice (some ⟨w.heap.size, 0, none⟩) i i) (leB n i) := by
        unfold Owns; rw [leB_length]; simpa using hown1
      clear hown1
      go_wp2
      go_ret2
      exact ⟨_, rfl, hown2, belowg hb1 _⟩

/-! ### The reference's -/
theorem div_pow_zero (n k : Nat) (hb : n < 2 ^ (8 * k)) : (n : Int) / 2 ^ (8 * k) = 0 := by
  have : ((n / 2 ^ (8 * k) : Nat) : Int) = 0 := by rw [Nat.div_eq_of_lt hb]; rfl
  simpa using this
theorem div_pow_pos (n k : Nat) (hb : 2 ^ (8 * k) ≤ n) : (n : Int) / 2 ^ (8 * k) ≠ 0 := by
  have h1 : 1 ≤ n / 2 ^ (8 * k) := Nat.div_pos hb (Nat.two_pow_pos _)
  have : ((n / 2 ^ (8 * k) : Nat) : Int) ≠ 0 := by omega
  simpa using this

end Go.Proofs.YtpdacbiiaglodaaGreat

/-
  LAYER 5 (norms): leaves: which code points may be (both), Hangul's ranges, what a decomposition's own code points may be.
-/
namespace Go.Proofs.YtpdacbiiaglodaaGreat
set_option maxRecDepth 100000
open Go.RowKit Go.Lib

/-- A decomposition, a class, as values. -/
def dAgg (x : Dec) : Value := .agg #[.int .i32 x.1, .int .i32 x.2.1, .int .i32 x.2.2]
def cAgg (x : Cls) : Value := .agg #[.int .i32 x.1, .int .i32 x.2.1, .int .i64 x.2.2]

set_option maxHeartbeats 1000000 in
theorem scal_utf.Scalar (r : Int) (w : World) : Calls Tryz.prog 68 #[.int .i32 r] w fun e w' => e = .returned (.bool (scal r)) ∧ w = w' := by
  by_cases h1 : 0 ≤ r
  all_goals by_cases h2 : r < 55296
  all_goals by_cases h3 : 57343 < r
  all_goals by_cases h4 : r ≤ 1114111
  all_goals (try omega)
  all_goals
    go_enter Tryz.func68, Tryz.ntmps68
    go_wp2
  all_goals
    go_ret
    simp [scal, *]
set_option maxHeartbeats 1000000 in
theorem scal_lecternref05.Scalar (r : Int) (w : World) : Calls Tryz.prog 79 #[.int .i32 r] w fun e w' => e = .returned (.bool (scal r)) ∧ w = w' := by
  by_cases h1 : 0 ≤ r
  all_goals by_cases h2 : r < 55296
  all_goals by_cases h3 : 57343 < r
  all_goals by_cases h4 : r ≤ 1114111
  all_goals (try omega)
  all_goals
    go_enter Tryz.func79, Tryz.ntmps79
    go_wp2
  all_goals
    go_ret
    simp [scal, *]

set_option maxHeartbeats 1000000 in
theorem syl_any (r : Int) (w : World) : Calls Tryz.prog 92 #[.int .i32 r] w fun e w' => e = .returned (.bool (syl r)) ∧ w = w' := by
  by_cases h1 : 44032 ≤ r
  all_goals by_cases h2 : r ≤ 55203
  all_goals (try omega)
  all_goals
    go_enter Tryz.func92, Tryz.ntmps92
    go_wp2
  all_goals
    go_ret
    simp [syl, *]

set_option maxHeartbeats 2000000 in
theorem jamo_norms.isJamo (r : Int) (w : World) : Calls Tryz.prog 179 #[.int .i32 r] w fun e w' => e = .returned (.bool (jamo r)) ∧ w = w' := by
  have key : (r < 4352 ∨ (4352 ≤ r ∧ r ≤ 4370) ∨ (4370 < r ∧ r < 4449) ∨ (4449 ≤ r ∧ r ≤ 4469) ∨ (4469 < r ∧ r ≤ 4519) ∨ (4519 < r ∧ r ≤ 4546) ∨ 4546 < r) := by omega
  rcases key with h | ⟨h, k⟩ | ⟨h, k⟩ | ⟨h, k⟩ | ⟨h, k⟩ | ⟨h, k⟩ | h
  all_goals
    (first | (have g0 : 4352 ≤ r := by omega) | (have g0 : ¬ 4352 ≤ r := by omega) | skip)
    (first | (have g1 : r ≤ 4370 := by omega) | (have g1 : ¬ r ≤ 4370 := by omega) | skip)
    (first | (have g2 : 4449 ≤ r := by omega) | (have g2 : ¬ 4449 ≤ r := by omega) | skip)
    (first | (have g3 : r ≤ 4469 := by omega) | (have g3 : ¬ r ≤ 4469 := by omega) | skip)
    (first | (have g4 : 4519 < r := by omega) | (have g4 : ¬ 4519 < r := by omega) | skip)
    (first | (have g5 : 4520 ≤ r := by omega) | (have g5 : ¬ 4520 ≤ r := by omega) | skip)
    (first | (have g6 : r ≤ 4546 := by omega) | (have g6 : ¬ r ≤ 4546 := by omega) | skip)
  all_goals
    go_enter Tryz.func179, Tryz.ntmps179
    go_wp2
  all_goals
    go_ret
    simp [jamo, *]
    try omega
set_option maxHeartbeats 2000000 in
theorem jamo_lecternref05.told (r : Int) (w : World) : Calls Tryz.prog 80 #[.int .i32 r] w fun e w' => e = .returned (.bool (jamo r)) ∧ w = w' := by
  have key : (r < 4352 ∨ (4352 ≤ r ∧ r ≤ 4370) ∨ (4370 < r ∧ r < 4449) ∨ (4449 ≤ r ∧ r ≤ 4469) ∨ (4469 < r ∧ r ≤ 4519) ∨ (4519 < r ∧ r ≤ 4546) ∨ 4546 < r) := by omega
  rcases key with h | ⟨h, k⟩ | ⟨h, k⟩ | ⟨h, k⟩ | ⟨h, k⟩ | ⟨h, k⟩ | h
  all_goals
    (first | (have g0 : 4352 ≤ r := by omega) | (have g0 : ¬ 4352 ≤ r := by omega) | skip)
    (first | (have g1 : r ≤ 4370 := by omega) | (have g1 : ¬ r ≤ 4370 := by omega) | skip)
    (first | (have g2 : 4449 ≤ r := by omega) | (have g2 : ¬ 4449 ≤ r := by omega) | skip)
    (first | (have g3 : r ≤ 4469 := by omega) | (have g3 : ¬ r ≤ 4469 := by omega) | skip)
    (first | (have g4 : 4519 < r := by omega) | (have g4 : ¬ 4519 < r := by omega) | skip)
    (first | (have g5 : 4520 ≤ r := by omega) | (have g5 : ¬ 4520 ≤ r := by omega) | skip)
    (first | (have g6 : r ≤ 4546 := by omega) | (have g6 : ¬ r ≤ 4546 := by omega) | skip)
  all_goals
    go_enter Tryz.func80, Tryz.ntmps80
    go_wp2
  all_goals
    go_ret
    simp [jamo, *]
    try omega

set_option maxHeartbeats 1000000 in
theorem codesMayBe_ok (x : Dec) (w : World) (h : codesOk x = true) : Calls Tryz.prog 153 #[dAgg x] w fun e w' => e = .returned (.bool true) ∧ w.grownBy w' none := by
  simp only [codesOk, Bool.and_eq_true, Bool.not_eq_true', decide_eq_false_iff_not] at h
  obtain ⟨⟨⟨⟨⟨⟨h1, h2⟩, h3⟩, h4⟩, h5⟩, h6⟩, h7⟩ := h
  have S1 := fun w => scal_utf.Scalar x.1 w
  have S2 := fun w => syl_any x.1 w
  have S3 := fun w => jamo_norms.isJamo x.1 w
  have S4 := fun w => scal_utf.Scalar x.2.1 w
  have S6 := fun w => scal_utf.Scalar x.2.2 w
  have S7 := fun w => syl_any x.2.2 w
  rw [h1] at S1; rw [h2] at S2; rw [h3] at S3; rw [h4] at S4; rw [h6] at S6; rw [h7] at S7
  clear h1 h2 h3 h4 h6 h7
  obtain ⟨c, a, b⟩ := x
  unfold dAgg
  dsimp only at S1 S2 S3 S4 S6 S7 h5 ⊢
  go_enter Tryz.func153, Tryz.ntmps153
  go_wp2_with (first
    | (go_at_call_of 68 (Value.int IntKind.i32 c); refine (S1 _).mono ?_; rintro e w' ⟨rfl, rfl⟩)
    | (go_at_call_of 68 (Value.int IntKind.i32 a); refine (S4 _).mono ?_; rintro e w' ⟨rfl, rfl⟩)
    | (go_at_call_of 68 (Value.int IntKind.i32 b); refine (S6 _).mono ?_; rintro e w' ⟨rfl, rfl⟩)
    | (go_at_call_of 92 (Value.int IntKind.i32 c); refine (S2 _).mono ?_; rintro e w' ⟨rfl, rfl⟩)
    | (go_at_call_of 92 (Value.int IntKind.i32 b); refine (S7 _).mono ?_; rintro e w' ⟨rfl, rfl⟩)
    | (go_at_call_of 179 (Value.int IntKind.i32 c); refine (S3 _).mono ?_; rintro e w' ⟨rfl, rfl⟩))
  go_ret
  exact ⟨by simp [h5], World.grownBy_alloc w _ none⟩
end Go.Proofs.YtpdacbiiaglodaaGreat

/-
  LAYER 5 (norms): a slice of structs of three numbers; a map of them; runes.
-/
namespace Go.Proofs.YtpdacbiiaglodaaGreat
set_option maxRecDepth 100000
open Go.RowKit Go.Lib

def i32 (x : Int) : Value := .int .i32 x
/-- A slice of triples, the third numbers of kind k, reads as l. -/
def Tri (k : IntKind) (w : World) (v : Value) (l : List (Int × Int × Int)) : Prop :=
  (v = .slice none 0 0 ∧ l = []) ∨
  ∃ b off cap, v = .slice (some ⟨b, off, none⟩) l.length cap ∧ l.length ≤ cap ∧ cap ≤ maxLen ∧
    ∀ i x, l[i]? = some x → w.cell? ⟨b, off + i * 3, none⟩ = some (.int .i32 x.1) ∧ w.cell? ⟨b, off + i * 3 + 1, none⟩ = some (.int .i32 x.2.1) ∧ w.cell? ⟨b, off + i * 3 + 2, none⟩ = some (.int k x.2.2)

theorem Tri.form {k : IntKind} {w : World} {v : Value} {l : List (Int × Int × Int)} (h : Tri k w v l) : ∃ a c, v = .slice a l.length c ∧ l.length ≤ c ∧ c ≤ maxLen := by
  rcases h with ⟨rfl, rfl⟩ | ⟨b, off, cap, rfl, h1, h2, _⟩
  · exact ⟨none, 0, rfl, Nat.le_refl _, by unfold maxLen; omega⟩
  · exact ⟨_, _, rfl, h1, h2⟩
theorem Tri.get {k : IntKind} {w : World} {a : Option Addr} {n c : Nat} {l : List (Int × Int × Int)} (h : Tri k w (.slice a n c) l) {i : Nat} (hi : i < l.length) :
    ∃ b off, a = some ⟨b, off, none⟩ ∧ w.cell? ⟨b, off + i * 3, none⟩ = some (.int .i32 (l[i]).1) ∧ w.cell? ⟨b, off + i * 3 + 1, none⟩ = some (.int .i32 (l[i]).2.1) ∧ w.cell? ⟨b, off + i * 3 + 2, none⟩ = some (.int k (l[i]).2.2) := by
  rcases h with ⟨_, rfl⟩ | ⟨b, off, cap, h, _, _, hc⟩
  · simp at hi
  · simp at h
    obtain ⟨rfl, _, _⟩ := h
    exact ⟨b, off, rfl, hc i _ (List.getElem?_eq_getElem hi)⟩
theorem Tri.lt {k : IntKind} {w : World} {v : Value} {l : List (Int × Int × Int)} (h : Tri k w v l) (hn : l ≠ []) : ∀ q, v.ownBlock = some q → q < w.heap.size := by
  rcases h with ⟨rfl, h⟩ | ⟨b, off, cap, rfl, _, _, hc⟩
  · exact absurd h hn
  · intro q hq
    simp [Value.ownBlock] at hq
    subst hq
    obtain ⟨u, l', rfl⟩ := List.exists_cons_of_ne_nil hn
    exact World.block_lt_of_cell? w _ (hc 0 _ rfl).1
theorem Tri.heap {k : IntKind} {A B : World} {v : Value} {l : List (Int × Int × Int)} (h : Tri k A v l) (hb : l ≠ [] → ∀ q, v.ownBlock = some q → B.heap[q]? = A.heap[q]?) : Tri k B v l := by
  rcases h with h | ⟨b, off, cap, rfl, h1, h2, hc⟩
  · exact .inl h
  · refine .inr ⟨b, off, cap, rfl, h1, h2, fun i u hu => ?_⟩
    have hn : l ≠ [] := by rintro rfl; simp at hu
    have := hb hn b rfl
    have h3 := hc i u hu
    simp only [World.cell?] at h3 ⊢
    rw [this]; exact h3
theorem Tri.all {k : IntKind} {w w' : World} {v : Value} {l : List (Int × Int × Int)} (h : Tri k w v l) (hg : w.grownBy w' none) : Tri k w' v l :=
  h.heap fun hne q e => hg.block q (h.lt hne q e) (by simp)

/-- Data as a value. -/
def datV (vc vd : Value) : Value := .agg #[vc, vd]
def Dat (w : World) (vc vd : Value) (c : List Cls) (d : List Dec) : Prop := Tri .i64 w vc c ∧ Tri .i32 w vd d
theorem Dat.all {w w' : World} {vc vd : Value} {c : List Cls} {d : List Dec} (h : Dat w vc vd c d) (hg : w.grownBy w' none) : Dat w' vc vd c d := ⟨h.1.all hg, h.2.all hg⟩

/-! ### Maps keyed by runes -/
/-- Block B is a map whose entries are these, in this order. -/
def Ents (w : World) (B : Nat) (l : List (Int × Value)) : Prop :=
  ∃ es clock, w.heap[B]? = some (.map es clock) ∧ es.toList.map (fun e => (e.key, e.val)) = l.map (fun x => (i32 x.1, x.2))
theorem Ents.kept {w w' : World} {B : Nat} {l : List (Int × Value)} {row : Option Nat} (h : Ents w B l) (hg : w.grownBy w' row) (hne : row ≠ some B) : Ents w' B l := by
  obtain ⟨es, cl, hb, he⟩ := h
  exact ⟨es, cl, (hg.block B (Array.getElem?_eq_some_iff.1 hb).1 (fun e => hne e.symm)).trans hb, he⟩
theorem Ents.lt {w : World} {B : Nat} {l : List (Int × Value)} (h : Ents w B l) : B < w.heap.size := by
  obtain ⟨es, cl, hb, he⟩ := h
  exact (Array.getElem?_eq_some_iff.1 hb).1

def look (l : List (Int × Value)) (k : Int) : Option Value := (l.find? fun x => decide (x.1 = k)).map (·.2)

theorem look_cons (x : Int × Value) (l : List (Int × Value)) (k : Int) : look (x :: l) k = if x.1 = k then some x.2 else look l k := by
  unfold look
  by_cases hk : x.1 = k
  · rw [List.find?_cons_of_pos (by simpa using hk), if_pos hk]; rfl
  · rw [List.find?_cons_of_neg (by simpa using hk), if_neg hk]
theorem same_i32 (a b : Int) : Instr.sameNow (.int .i32) (i32 a) (i32 b) = some (decide (b = a)) := by
  have h : Instr.sameNow (.int .i32) (i32 a) (i32 b) = some (a == b) := rfl
  rw [h, Option.some.injEq]
  by_cases e : b = a
  · subst e; simp
  · rw [decide_eq_false e]; exact beq_eq_false_iff_ne.2 (fun h => e h.symm)
theorem findNow_list (k : Int) : ∀ (es : List MapEntry) (l : List (Int × Value)) (i : Nat), es.map (fun e => (e.key, e.val)) = l.map (fun x => (i32 x.1, x.2)) →
    ∃ o, Instr.findNow (.int .i32) (i32 k) es i = some o ∧ o.map (·.2) = look l k ∧ (o = none ↔ ∀ x ∈ l, x.1 ≠ k)
  | [], [], _, _ => ⟨none, rfl, rfl, by simp⟩
  | [], _ :: _, _, h => by cases h
  | _ :: _, [], _, h => by cases h
  | e :: es, x :: l, i, h => by
    rw [List.map_cons, List.map_cons, List.cons.injEq, Prod.mk.injEq] at h
    obtain ⟨⟨h1, h2⟩, h3⟩ := h
    have hs := same_i32 k x.1
    rw [← h1] at hs
    rw [look_cons]
    by_cases hk : x.1 = k
    · rw [decide_eq_true hk] at hs
      refine ⟨some (i, e.val), ?_, ?_, ?_⟩
      · rw [Instr.findNow, hs]
      · rw [if_pos hk, ← h2]; rfl
      · simp [hk]
    · rw [decide_eq_false hk] at hs
      obtain ⟨o, q1, q2, q3⟩ := findNow_list k es l (i + 1) h3
      refine ⟨o, ?_, ?_, ?_⟩
      · rw [Instr.findNow, hs]; exact q1
      · rw [if_neg hk]; exact q2
      · rw [q3]; simp [hk]

/-- A map is asked for a key. -/
theorem run_lookup_ents {P : Program} {t kt et : TypeId} {w : World} {B : Nat} {l : List (Int × Value)} {z : Value} (hm : P.underlying t = some (.map kt et)) (hk : P.underlying kt = some (.int .i32)) (hz : ∀ w, (zeroValue et).run P w = .ok z w)
    (h : Ents w B l) (k : Int) : (Instr.lookup t (.map (some B)) (.int .i32 k) true).run P w = .ok (.tuple #[(look l k).getD z, .bool (look l k).isSome]) w := by
  obtain ⟨es, cl, hb, he⟩ := h
  obtain ⟨o, q1, q2, _⟩ := findNow_list k es.toList l 0 he
  have hK : MapKept.IsKey (.int .i32) (.int .i32 k) := rfl
  have q1' : Instr.findNow (.int .i32) (.int .i32 k) es.toList 0 = some o := q1
  rw [← q2]
  cases o with
  | none => simp [Instr.lookup, run_underlying hm, MapKept.run_getObj_map hb, MapKept.run_checkKey hk hK, MapKept.run_findKey hk q1', Result.andThen, hz]
  | some x => simp [Instr.lookup, run_underlying hm, MapKept.run_getObj_map hb, MapKept.run_checkKey hk hK, MapKept.run_findKey hk q1', Result.andThen]
/-- A new key is laid behind the others. -/
theorem run_update_ents {P : Program} {t kt et : TypeId} {w : World} {B : Nat} {l : List (Int × Value)} (hm : P.underlying t = some (.map kt et)) (hk : P.underlying kt = some (.int .i32))
    (h : Ents w B l) (k : Int) (v : Value) (hnew : ∀ x ∈ l, x.1 ≠ k) : ∃ w', (Instr.mapUpdate t (.map (some B)) (.int .i32 k) v).run P w = .ok () w' ∧ Ents w' B (l ++ [(k, v)]) ∧ w.grownBy w' (some B) ∧ w'.heap.size = w.heap.size := by
  obtain ⟨es, cl, hb, he⟩ := h
  obtain ⟨o, q1, _, q3⟩ := findNow_list k es.toList l 0 he
  obtain rfl := q3.2 hnew
  refine ⟨w.putObj B (.map (es.push { key := i32 k, val := v, born := cl }) (cl + 1)), ?_, ⟨_, _, World.putObj_heap_same (Array.getElem?_eq_some_iff.1 hb).1, by simp [he]⟩, grownBy_putObj' w B _, by simp [World.putObj]⟩
  have hK' : MapKept.IsKey (.int .i32) (.int .i32 k) := rfl
  have q1' : Instr.findNow (.int .i32) (.int .i32 k) es.toList 0 = some none := q1
  simp [Instr.mapUpdate, run_underlying hm, MapKept.run_getObj_map hb, MapKept.run_checkKey hk hK', MapKept.run_findKey hk q1', MapKept.run_setObj_map _ hb, Result.andThen, i32, World.putObj]
end Go.Proofs.YtpdacbiiaglodaaGreat

/-
  LAYER 5 (norms): numbers laid behind bytes.
-/
namespace Go.Proofs.YtpdacbiiaglodaaGreat
set_option maxRecDepth 100000
open Go.RowKit Go.Lib

/-- Numbers as bytes. -/
def nums (l : List Nat) : List UInt8 := l.flatMap Lib.uvarint
theorem nums_snoc (l : List Nat) (n : Nat) : nums (l ++ [n]) = nums l ++ Lib.uvarint n := by simp [nums]
theorem nums_append (l k : List Nat) : nums (l ++ k) = nums l ++ nums k := by simp [nums]
theorem nums_length (l : List Nat) (h : ∀ n ∈ l, n < 18446744073709551616) : (nums l).length ≤ 10 * l.length := by
  induction l with
  | nil => simp [nums]
  | cons x t ih =>
    have h1 := ulen_le (h x (by simp))
    have h2 := ih (fun n hn => h n (by simp [hn]))
    unfold ulen at h1
    simp only [nums, List.flatMap_cons, List.length_append, List.length_cons] at h2 ⊢
    omega

theorem uvarint_ne (n : Nat) : Lib.uvarint n ≠ [] := by
  rw [Lib.uvarint]
  split <;> simp
/-- Bytes in a row of their own, or in a full slice. -/
def GB (w : World) (B : Nat) (v : Value) (bs : List UInt8) : Prop := Owns w B 5 v bs ∨ ∃ b, v = .slice (some ⟨b, 0, none⟩) bs.length bs.length ∧ B ≤ b ∧ Reads w v bs
theorem GB.new {w w' : World} {B : Nat} {v : Value} {bs : List UInt8} (h : GB w B v bs) (hg : w.grownBy w' none) : GB w' B v bs := by
  rcases h with h | ⟨b, h1, h2, h3⟩
  · exact .inl (h.new hg)
  · exact .inr ⟨b, h1, h2, h3.new hg⟩

theorem wpList_append_gb (w : World) {ops : Array Oper} {rest : List Oper} {o : Oper} {a : Act} {Q : Exit → Act → World → Prop} (hgd : o.guard = none) (s x : Operand) (t : TypeId)
    (ho : o.op = .call { callee := .builtin .append, args := #[s, x], argTypes := #[t, t] })
    (base : Nat) (i : TypeInfo) (ht : Tryz.prog.underlying t = some (.slice 5)) (hi : Tryz.prog.info? 5 = some i) (hz : i.zero = some (.int .u8 0)) (hsize : i.size = 1) (hby : i.bytes = 1)
    (v : Value) (bs : List UInt8) (hs : a.eval s = v) (hown : GB w base v bs) (xv : Value) (f : List UInt8) (hx : a.eval x = xv) (hr : Reads w xv f) (hf : f ≠ [])
    (hlim : bs.length + f.length ≤ 140737488355328) (hbase : base ≤ w.heap.size)
    (h : ∀ v' w', Owns w' base 5 v' (bs ++ f) → w.grownBy w' v.ownBlock → (v'.ownBlock = v.ownBlock ∨ ∃ k, v'.ownBlock = some k ∧ w.heap.size ≤ k) → wpList Tryz.prog ops Q rest (a.put o.dst v') w') : wpList Tryz.prog ops Q (o :: rest) a w := by
  obtain ⟨b, off, cap, rfl⟩ : ∃ b off cap, xv = .slice (some ⟨b, off, none⟩) f.length cap := by
    rcases hr with ⟨_, rfl⟩ | ⟨b, off, cap, rfl, _⟩
    · exact absurd rfl hf
    · exact ⟨b, off, cap, rfl⟩
  have hfl : 0 < f.length := List.length_pos_iff.2 hf
  rcases hown with hown | ⟨bb, rfl, hbb, hrd⟩
  · refine wpList_append_own_at w hgd s x t ho base 5 i (.int .u8 0) 1 1 ht hi hz hsize hby rfl (by decide) v bs.length (byteCells bs) hs hown ⟨b, off, none⟩ f.length cap (byteCells f) hx (by rw [byteCells_len]; omega) hr.cells (byteCells_one f) (by unfold maxLen; omega) (by omega) hbase fun v' w' h2 h3 _ h4 => h v' w' ?_ h3 (h4.imp id fun h => ⟨_, h, Nat.le_refl _⟩)
    unfold Owns
    rw [byteCells_append, List.length_append]
    exact h2
  · refine wpList_append_grows w hgd s x t ho 5 i (.int .u8 0) 1 1 ht hi hz hsize hby rfl (by decide) (some ⟨bb, 0, none⟩) bs.length bs.length (byteCells bs) hs (fun h => by cases h) (by rw [byteCells_len]; omega) (fun b' hb' => by cases hb'; exact hrd.cells) ⟨b, off, none⟩ f.length cap (byteCells f) hx (by rw [byteCells_len]; omega) hr.cells (byteCells_one f) (by omega) (by unfold maxLen; omega) (by omega) fun v' w' h2 h3 => ?_
    have h2' : Owns w' w.heap.size 5 v' (bs ++ f) := by
      unfold Owns
      rw [byteCells_append, List.length_append]
      exact h2
    refine h v' w' (h2'.mono hbase) (gbut h3 _) (.inr ?_)
    obtain ⟨x, c, rfl⟩ := h2'.reads.form
    rcases h2'.reads with ⟨_, h4⟩ | ⟨g, o', c', h4, _⟩
    · simp [hf] at h4
    · rw [h4] at h2' ⊢
      exact ⟨g, rfl, (h2'.lt g rfl).1⟩

/-- A slice of numbers at the beginning of a block. -/
def IntsAt (w : World) (lb : Nat) (l : List Nat) : Prop := ∀ (i n : Nat), l[i]? = some n → w.cell? ⟨lb, i, none⟩ = some (.int .i64 (n : Int))

set_option maxHeartbeats 4000000 in
theorem addNumbers_any (B lb : Nat) (v : Value) (bs : List UInt8) (l : List Nat) (w : World) (ho : GB w B v bs) (hl0 : l ≠ []) (hB : B ≤ w.heap.size) (hl : IntsAt w lb l) (hne : v.ownBlock ≠ some lb)
    (hn : ∀ n ∈ l, n < 9223372036854775808) (hlim : bs.length + 10 * l.length ≤ 100000000) :
    Calls Tryz.prog 126 #[v, .slice (some ⟨lb, 0, none⟩) l.length l.length] w fun e w' => ∃ v', e = .returned v' ∧ Owns w' B 5 v' (bs ++ nums l) ∧ w.grownBy w' v.ownBlock ∧ (v'.ownBlock = v.ownBlock ∨ ∃ k, v'.ownBlock = some k ∧ w.heap.size ≤ k) := by
  obtain ⟨i0, hi, hz0, hz1, hz2⟩ := info_parts infoU8
  have hmax : l.length ≤ 10000000 := by omega
  have hlH := Lib.hid hl
  have hnH := Lib.hid hn
  clear hl hn
  go_enter Tryz.func126, Tryz.ntmps126
  go_wp2
  go_loopw [0, 9] (fun v0 vi wr => ∃ (i : Nat), vi = .int .i64 (i : Int) ∧ i ≤ l.length ∧ Hid (GB wr B v0 (bs ++ nums (l.take i))) ∧ Hid (0 < i → Owns wr B 5 v0 (bs ++ nums (l.take i))) ∧ w.grownBy wr v.ownBlock ∧ (v0.ownBlock = v.ownBlock ∨ ∃ k, v0.ownBlock = some k ∧ w.heap.size ≤ k)) (fun _ vi _ => l.length - (RowKit.intOf vi).toNat)
  case atStart => exact ⟨0, rfl, Nat.zero_le _, Lib.hid (by simpa [nums] using ho), Lib.hid (fun h => by omega), World.grownBy.refl _ _, .inl rfl⟩
  case round =>
    obtain ⟨i, rfl, hi1, hown, hown', hg, hk⟩ := hrel
    by_cases hlt : i < l.length
    · obtain ⟨n, hnn⟩ : ∃ n, l[i] = n := ⟨_, rfl⟩
      have hget : l[i]? = some n := by rw [List.getElem?_eq_getElem hlt, hnn]
      have hcell : wr.cell? ⟨lb, i, none⟩ = some (.int .i64 (n : Int)) := hg.cell (hlH.out i n hget) hne.symm
      have hnl := hnH.out n (List.mem_of_getElem? hget)
      have hU := fun w => Uint_any n (by omega) w
      have hune := uvarint_ne n
      have hul : (Lib.uvarint n).length ≤ 10 := ulen_le (by omega)
      have htk : Hid (bs ++ nums (l.take (i + 1)) = (bs ++ nums (l.take i)) ++ Lib.uvarint n) := Lib.hid (by rw [List.take_succ_eq_append_getElem hlt, hnn, nums_snoc, List.append_assoc])
      have hol : (bs ++ nums (l.take i)).length ≤ 100000000 := by
        have := nums_length (l.take i) (fun x hx => by have := hnH.out x (List.mem_of_mem_take hx); omega)
        rw [List.length_append]
        simp only [List.length_take] at this
        omega
      have hown0 := hown.out
      generalize bs ++ nums (l.take i) = M at hown0 htk hol
      clear hown hown' hget hnn
      go_wp2_with (first
        | (go_at_call 157; refine (hU _).mono ?_; rintro e w1 ⟨u, rfl, hou, hg1⟩; have hown1 := hown0.new hg1)
        | (at_builtin; refine wpList_append_gb _ rfl _ _ 27 rfl B i0 Tryz.underlying27 hi hz0 hz1 hz2 u0 M rfl hown1 u _ rfl hou.reads hune (by omega) (Nat.le_trans hB (Nat.le_trans hg.size hg1.size)) ?_; intro v2 w2 ho2 hg2 hloc))
      go_roundw
      case rel =>
        have hgf : w.grownBy w2 v.ownBlock := gnew (gnew hg hg1 (by simp)) hg2 (fun r e => by
          rcases hk with h | ⟨k, h, h2⟩
          · right; rw [← h]; exact e
          · left; rw [h] at e; cases e; exact h2)
        refine ⟨i + 1, by go_num, by omega, Lib.hid (.inl (by rw [htk.out]; exact ho2)), Lib.hid (fun _ => by rw [htk.out]; exact ho2), hgf, ?_⟩
        rcases hloc with h | h
        · rw [h]; exact hk
        · obtain ⟨k', h, h5⟩ := h
          exact .inr ⟨k', h, Nat.le_trans hg.size (Nat.le_trans hg1.size h5)⟩
      case measure => simp [RowKit.intOf]; omega
    · obtain rfl : i = l.length := by omega
      have hown0 := hown'.out (List.length_pos_iff.2 hl0)
      rw [List.take_length] at hown0
      clear hlt hown hown'
      go_wp2
      go_ret
      exact ⟨_, rfl, hown0, hg, hk⟩
end Go.Proofs.YtpdacbiiaglodaaGreat

/-
  LAYER 5 (norms): Hangul by rule; runes as an own row, or as one that is full.
-/
namespace Go.Proofs.YtpdacbiiaglodaaGreat
set_option maxRecDepth 100000
open Go.RowKit Go.Lib

theorem infoRune : (Tryz.prog.info? 21).map (fun i => (i.zero, i.size, i.bytes)) = some (some (.int .i32 0), 1, 4) := by kernel_rfl
theorem infoRune_parts : ∃ i0 : TypeInfo, Tryz.prog.info? 21 = some i0 ∧ i0.zero = some (.int .i32 0) ∧ i0.size = 1 ∧ i0.bytes = 4 := by
  have h := infoRune
  cases hi : Tryz.prog.info? 21 with
  | none => rw [hi] at h; cases h
  | some i =>
    rw [hi] at h
    simp only [Option.map_some, Option.some.injEq, Prod.mk.injEq] at h
    exact ⟨i, rfl, h.1, h.2.1, h.2.2⟩

def rCells (l : List Int) : List Value := l.map i32
/-- A full slice of runes, in a block from B on. -/
def Full (w : World) (B : Nat) (v : Value) (l : List Int) : Prop :=
  ∃ b, v = .slice (some ⟨b, 0, none⟩) l.length l.length ∧ B ≤ b ∧ l.length ≤ maxLen ∧ ∀ i u, (rCells l)[i]? = some u → w.cell? ⟨b, i, none⟩ = some u
/-- Runes in memory of their own. -/
def Rn (w : World) (B : Nat) (v : Value) (l : List Int) : Prop := w.ownsRow B 21 1 v l.length (rCells l) ∨ (l ≠ [] ∧ Full w B v l)

theorem clip_own (B : Nat) (v : Value) (l : List Int) (w : World) (h : w.ownsRow B 21 1 v l.length (rCells l)) (hne : l ≠ []) :
    Calls Tryz.prog 69 #[v] w fun e w' => ∃ v', e = .returned v' ∧ Full w' B v' l ∧ w = w' := by
  obtain ⟨h0, ⟨rfl, hn⟩ | ⟨g, cap, cur, rfl, hB, hgg, h1, h2, h3, h4⟩⟩ := h
  · exact absurd (List.length_eq_zero_iff.1 hn) hne
  · have hF : Full w B (.slice (some ⟨g, 0, none⟩) l.length l.length) l := by
      refine ⟨g, rfl, hB, Nat.le_trans h1 h2, fun i u hu => ?_⟩
      have hi : i < l.length := by simpa [rCells] using (List.getElem?_eq_some_iff.1 hu).1
      have hu2 := hu
      rw [Nat.mul_one] at h4
      rw [← h4, List.getElem?_take_of_lt hi] at hu2
      have h6 : cur[i]? = some u := by simpa using hu2
      simp only [World.cell?, hgg]
      exact h6
    have hm : l.length ≤ cap := h1
    clear hgg h4 h3 h0 hne
    generalize l.length = n at hF hm h2
    go_enter Tryz.func69, Tryz.ntmps69
    go_wp2
    go_ret
    exact ⟨_, rfl, hF, rfl⟩

theorem own_lit {w : World} {e : TypeId} (vs : List Value) {cs : Array Value} {n : Nat} (hc : cs = vs.toArray) (hn : vs.length = n) (hm : n ≤ maxLen) :
    (w.alloc (.cells cs e)).ownsRow w.heap.size e 1 (.slice (some ⟨w.heap.size, 0, none⟩) n n) n vs := by
  subst hn
  subst hc
  exact ⟨by simp, .inr ⟨w.heap.size, _, _, rfl, Nat.le_refl _, World.alloc_heap_new w _, Nat.le_refl _, hm, by simp, by simp⟩⟩

theorem Full.mono {w : World} {B B' : Nat} {v : Value} {l : List Int} (h : Full w B v l) (hB : B' ≤ B) : Full w B' v l := by
  obtain ⟨b, h1, h2, h3⟩ := h
  exact ⟨b, h1, by omega, h3⟩
theorem hang_none (r : Int) (h : (r - 44032) % 28 = 0) : hang r = [4352 + (r - 44032) / 588, 4449 + (r - 44032) % 588 / 28] := by
  unfold hang; simp [h]
theorem hang_some (r : Int) (h : ¬ (r - 44032) % 28 = 0) : hang r = [4352 + (r - 44032) / 588, 4449 + (r - 44032) % 588 / 28, 4519 + (r - 44032) % 28] := by
  unfold hang; simp [h]

set_option maxHeartbeats 2000000 in
theorem Hangul_any (r : Int) (w : World) (hr : syl r = true) :
    Calls Tryz.prog 93 #[.int .i32 r] w fun e w' => ∃ v, e = .returned v ∧ Full w' w.heap.size v (hang r) ∧ w.grownBy w' none := by
  have hS := fun w => syl_any r w
  rw [hr] at hS
  simp only [syl, decide_eq_true_eq] at hr
  obtain ⟨i0, hi, hz0, hz1, hz2⟩ := infoRune_parts
  have hl : ∀ w : World, (w.alloc (.cells #[.int .i32 (4352 + (r - 44032) / 588), .int .i32 (4449 + (r - 44032) % 588 / 28)] 21)).ownsRow w.heap.size 21 1 (.slice (some ⟨w.heap.size, 0, none⟩) 2 2) 2 (rCells [4352 + (r - 44032) / 588, 4449 + (r - 44032) % 588 / 28]) :=
    fun w => own_lit (rCells [4352 + (r - 44032) / 588, 4449 + (r - 44032) % 588 / 28]) rfl rfl (by unfold maxLen; omega)
  by_cases ht : (r - 44032) % 28 = 0
  · rw [hang_none r ht]
    have hC := fun w => clip_own _ _ [4352 + (r - 44032) / 588, 4449 + (r - 44032) % 588 / 28] _ (hl w) (by simp)
    go_enter Tryz.func93, Tryz.ntmps93
    go_wp2_with (first
      | (go_at_call 92; refine (hS _).mono ?_; rintro e w' ⟨rfl, rfl⟩)
      | (go_at_call 69; refine (hC _).mono ?_; rintro e w' ⟨v', rfl, hF, rfl⟩))
    go_ret
    exact ⟨_, rfl, hF, World.grownBy_alloc w _ none⟩
  · rw [hang_some r ht]
    go_enter Tryz.func93, Tryz.ntmps93
    go_wp2_with (first
      | (go_at_call 92; refine (hS _).mono ?_; rintro e w' ⟨rfl, rfl⟩)
      | (at_builtin; refine wpList_append_own _ rfl _ _ 50 rfl w.heap.size 21 i0 (.int .i32 0) 1 4 Tryz.underlying50 hi hz0 hz1 hz2 rfl (by decide) _ 2 _ rfl ((hl w).alloc _) ⟨w.heap.size + 1, 0, none⟩ 1 1 [.int .i32 (4519 + (r - 44032) % 28)] rfl rfl ?c1 ?c2 ?c3 ?c4 ?c5 ?_))
    case c1 =>
      intro j u hj
      match j, hj with
      | 0, hj =>
        simp at hj; subst hj
        have hn := World.alloc_heap_new (w.alloc (.cells #[.int .i32 (4352 + (r - 44032) / 588), .int .i32 (4449 + (r - 44032) % 588 / 28)] 21)) (.cells #[.int .i32 (4519 + (r - 44032) % 28)] 21)
        rw [World.size_alloc] at hn
        rw [show (⟨w.heap.size + 1, 0, none⟩ : Addr).add 0 = ⟨w.heap.size + 1, 0, none⟩ from rfl]
        simp only [World.cell?, hn]
        rfl
    case c2 => intro u hu; simp at hu; subst hu; rfl
    case c3 => unfold maxLen; omega
    case c4 => omega
    case c5 => simp; omega
    intro v' w1 hown hgrow _
    have hC := clip_own _ v' [4352 + (r - 44032) / 588, 4449 + (r - 44032) % 588 / 28, 4519 + (r - 44032) % 28] w1 hown (by simp)
    have hg : w.grownBy w1 none := gnew (galloc (galloc (World.grownBy.refl w none) _) _) hgrow (fun q e => .inl (by simp [Value.ownBlock] at e; omega))
    clear hown hgrow
    go_wp2_with (go_at_call 69; refine hC.mono ?_; rintro e w' ⟨v', rfl, hF, rfl⟩)
    go_ret
    exact ⟨_, rfl, hF, hg⟩

set_option maxHeartbeats 1000000 in
theorem byRule_any (r : Int) (w : World) :
    Calls Tryz.prog 52 #[.int .i32 r] w fun e w' => ∃ v, e = .returned v ∧ Rn w' w.heap.size v (byR r) ∧ w.grownBy w' none := by
  have hS := fun w => syl_any r w
  unfold byR
  by_cases hr : syl r = true
  · have hH := fun w => Hangul_any r w hr
    rw [hr] at hS
    rw [if_pos hr]
    go_enter Tryz.func52, Tryz.ntmps52
    go_wp2_with (first
      | (go_at_call 92; refine (hS _).mono ?_; rintro e w' ⟨rfl, rfl⟩)
      | (go_at_call 93; refine (hH _).mono ?_; rintro e w' ⟨v', rfl, hF, hg⟩))
    go_ret
    exact ⟨_, rfl, .inr ⟨by unfold hang; simp, hF⟩, hg⟩
  · rw [if_neg hr]
    rw [Bool.not_eq_true] at hr
    rw [hr] at hS
    go_enter Tryz.func52, Tryz.ntmps52
    go_wp2_with (go_at_call 92; refine (hS _).mono ?_; rintro e w' ⟨rfl, rfl⟩)
    go_ret
    exact ⟨_, rfl, .inl (own_lit (rCells [r]) rfl rfl (by unfold maxLen; omega)), World.grownBy_alloc w _ none⟩
end Go.Proofs.YtpdacbiiaglodaaGreat
