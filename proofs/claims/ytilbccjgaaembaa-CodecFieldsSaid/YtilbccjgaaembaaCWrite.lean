/-
  LAYER 2 (codec): what writes: copied, addUint, uintLen, Uint, fieldLen, addField.
-/
import Derived.Test.YtilbccjgaaembaaCPure
import Derived.Test.YtilbccjgaaembaaCLeaf
import Derived.Test.YtilbccjgaaembaaShelf
import Derived.Laws.CopyOwn
namespace Go.Proofs.Ytilbccjgaaembaa
set_option maxRecDepth 100000
open Go.RowKit Go.Lib

theorem infoU8 : (Try.prog.info? 5).map (fun i => (i.zero, i.size, i.bytes)) = some (some (.int .u8 0), 1, 1) := by kernel_rfl
theorem sizeU8 : (Try.prog.info? 5).map (·.size) = some 1 := by kernel_rfl

/-- An own row, laid anew. -/
theorem owns_block {w : World} {B g cap : Nat} {e : TypeId} {bs : List UInt8} (hB : B ≤ g) (hg : w.heap[g]? = some (.cells (byteCells bs).toArray e (0, 0))) (hm : bs.length ≤ maxLen) (hc : cap = bs.length) :
    Owns w B e (.slice (some ⟨g, 0, none⟩) bs.length cap) bs := by
  subst hc
  have hl : (byteCells bs).length = bs.length := by simp [byteCells]
  exact ⟨by simp [hl], .inr ⟨g, _, _, rfl, hB, hg, Nat.le_refl _, hm, by simp [hl], by simp [hl, List.take_of_length_le]⟩⟩

theorem byteCells_one (bs : List UInt8) : ∀ v ∈ byteCells bs, v.oneCell' = true := by
  intro v hv
  simp only [byteCells, List.mem_map] at hv
  obtain ⟨u, _, rfl⟩ := hv
  rfl

/-- The cells of what is read, from an address on. -/
theorem Reads.cells {w : World} {a : Addr} {l c : Nat} {bs : List UInt8} (h : Reads w (.slice (some a) l c) bs) : ∀ j v, (byteCells bs)[j]? = some v → w.cell? (a.add j) = some v := by
  rcases h with ⟨h, rfl⟩ | ⟨b, off, cap, h, h1, h2, hc⟩
  · simp at h
  · simp at h
    obtain ⟨rfl, rfl, rfl⟩ := h
    intro j v hv
    rw [byteCells_get] at hv
    obtain ⟨u, hu, rfl⟩ := Option.map_eq_some_iff.1 hv
    have := hc j u hu
    have e : (⟨b, off, none⟩ : Addr).add j = ⟨b, off + j, none⟩ := by unfold Addr.add; split <;> simp_all
    rw [e]
    exact this

theorem byteCells_len (bs : List UInt8) : (byteCells bs).length = bs.length := by simp [byteCells]

/-- 'append(out, f...)' at bytes: out the call's own (or nil), f whatever reads as bytes, nil too. -/
theorem wpList_append_bytes {P : Program} (w : World) {ops : Array Oper} {rest : List Oper} {o : Oper} {a : Act} {Q : Exit → Act → World → Prop} (hgd : o.guard = none) (s x : Operand) (t : TypeId)
    (ho : o.op = .call { callee := .builtin .append, args := #[s, x], argTypes := #[t, t] })
    (base : Nat) (e : TypeId) (i : TypeInfo) (ht : P.underlying t = some (.slice e)) (hi : P.info? e = some i) (hz : i.zero = some (.int .u8 0)) (hsize : i.size = 1) (hby : i.bytes = 1)
    (v : Value) (bs : List UInt8) (hs : a.eval s = v) (hown : Owns w base e v bs) (xv : Value) (f : List UInt8) (hx : a.eval x = xv) (hr : Reads w xv f)
    (hlim : bs.length + f.length ≤ 140737488355328) (hbase : base ≤ w.heap.size)
    (h : ∀ v' w', Owns w' base e v' (bs ++ f) → w.grownBy w' v.ownBlock → wpList P ops Q rest (a.put o.dst v') w') : wpList P ops Q (o :: rest) a w := by
  have hr0 := hr
  rcases hr with ⟨rfl, rfl⟩ | ⟨b, off, cap, rfl, _, _, _⟩
  · refine wpList_plain hgd fun K hK => ?_
    have hrun := run_append_owned_none (P := P) w base t o.type e i 1 ht hi v _ _ hown
    unfold Oper.wp execOp
    simp only [ho, resolve, invoke, builtin, Sem.run_bind, Sem.run_pure, Result.andThen_ok, List.map_toArray, List.map_cons, List.map_nil, hs, hx, hrun]
    exact hK _ _ (h v w (by simpa using hown) (World.grownBy.refl _ _))
  · refine wpList_append_own w hgd s x t ho base e i (.int .u8 0) 1 1 ht hi hz hsize hby rfl (by decide) v bs.length (byteCells bs) hs hown ⟨b, off, none⟩ f.length cap (byteCells f) hx (by rw [byteCells_len]; omega) hr0.cells (byteCells_one f) (by unfold maxLen; omega) (by omega) hbase fun v' w' h2 h3 _ => h v' w' ?_ h3
    unfold Owns
    rw [byteCells_append, List.length_append]
    exact h2

theorem run_copied (w0 : World) (g : Nat) (a : Option Addr) (c : Nat) (bs : List UInt8) (hm : bs.length ≤ maxLen) (hr : Reads w0 (.slice a bs.length c) bs) (hb : w0.heap[g]? = some (.cells (List.replicate bs.length (Value.int .u8 0)).toArray 5 (0, 0))) :
    ∃ w1, (Builtin.copy_ #[23, 23] 3 #[.slice (some ⟨g, 0, none⟩) bs.length bs.length, .slice a bs.length c]).run Try.prog w0 = .ok (goInt bs.length) w1 ∧ Owns w1 g 5 (.slice (some ⟨g, 0, none⟩) bs.length bs.length) bs ∧ w0.grownBy w1 (some g) := by
  have hlc : (byteCells bs).length = bs.length := by simp [byteCells]
  by_cases h0 : bs = []
  · subst h0
    exact ⟨w0, run_copy_none w0 _ _ _ 5 _ _ _ _ _ _ Try.underlying23 sizeU8 rfl, owns_block (Nat.le_refl _) (by simpa [byteCells] using hb) hm rfl, World.grownBy.refl _ _⟩
  · obtain ⟨ad, rfl⟩ : ∃ ad, a = some ad := by
      rcases hr with ⟨_, rfl⟩ | ⟨b, off, cap, h, _⟩
      · exact absurd rfl h0
      · simp at h; exact ⟨_, h.1⟩
    have hrun := run_copy_row (P := Try.prog) w0 23 23 3 5 g 0 bs.length bs.length ad bs.length c _ 5 (byteCells bs) Try.underlying23 sizeU8 hb (by simp [hlc]) hr.cells (by simp [hlc]) (byteCells_one bs)
    rw [hlc] at hrun
    refine ⟨_, hrun, owns_block (Nat.le_refl _) ?_ hm rfl, ⟨rfl, rfl, rfl, by simp [World.setRow], fun k _ hne => setRow_other w0 g k _ (fun e => hne (by simp [e]))⟩⟩
    rw [setRow_heap w0 g _ _ _ _ hb]
    simp

set_option maxHeartbeats 1000000 in
theorem copied_any (a : Option Addr) (l c : Nat) (bs : List UInt8) (w : World) (hr : Reads w (.slice a l c) bs) (hl : bs.length ≤ 140737488355328) :
    Calls Try.prog 84 #[.slice a l c] w fun e w' => ∃ v, e = .returned v ∧ Owns w' w.heap.size 5 v bs ∧ w.grownBy w' none := by
  obtain ⟨rfl, hc, hm⟩ := hr.slice
  obtain ⟨i0, hi, hz0, hz1, hz2⟩ := info_parts infoU8
  go_enter Try.func84, Try.ntmps84
  go_wp2_with (at_make; refine wpList_make_full _ rfl _ _ 23 rfl w.heap.size 5 i0 (.int .u8 0) 1 Try.underlying23 hi hz0 hz1 .i64 .i64 _ _ bs.length rfl rfl rfl rfl (by rw [hz2]; omega) (by unfold maxLen; omega) (Nat.le_refl _) ?_; intro w0 hown0 hgrow0)
  have hblk : w0.heap[w.heap.size]? = some (.cells (List.replicate bs.length (Value.int .u8 0)).toArray 5 (0, 0)) := by
    obtain ⟨_, ⟨h, _⟩ | ⟨g, cap, cur, h, _, hg, _, _, hs, ht⟩⟩ := hown0
    · simp at h
    · simp only [Value.slice.injEq, Option.some.injEq, Addr.mk.injEq, and_true, true_and] at h
      obtain ⟨rfl, rfl⟩ := h
      rw [hg, ← Array.toArray_toList (xs := cur), ← List.take_of_length_le (l := cur.toList) (i := bs.length * 1) (by simp; omega), ht]
      simp [Value.cells, toList_madeCells_one]
  clear hown0
  obtain ⟨w1, hrun, ho, hg1⟩ := run_copied w0 w.heap.size a c bs (by omega) (hr.new hgrow0) hblk
  clear hblk
  go_simp
  go_wp2
  go_ret
  exact ⟨_, rfl, ho, gnew hgrow0 hg1 (by simp)⟩

set_option maxHeartbeats 2000000 in
set_option maxRecDepth 100000 in
theorem addUint_any (B x : Nat) (hx : x < 18446744073709551616) (sv : Value) (bs : List UInt8) (w : World) (hown0 : Owns w B 5 sv bs) (hBw : B ≤ w.heap.size) (hlim : bs.length + 10 ≤ 140737488355328) :
    Calls Try.prog 66 #[sv, .int .u64 (x : Int)] w fun e w' => ∃ v', e = .returned v' ∧ Owns w' B 5 v' (bs ++ Lib.uvarint x) ∧ Below B w w' := by
  obtain ⟨i0, hi, hz0, hz1, hz2⟩ := info_parts infoU8
  have hlen := Lib.uvarint_length64 hx
  go_enter Try.func66, Try.ntmps66
  go_wp2
  go_loopw [0, 1] (fun vb vx wr => ∃ (y : Nat) (pre : List UInt8), vx = .int .u64 (y : Int) ∧ y ≤ x ∧ Lib.uvarint x = pre ++ Lib.uvarint y ∧ wr.ownsRow B 5 1 vb (bs.length + pre.length) (byteCells bs ++ Lib.byteCells pre) ∧ Below B w wr)
    (fun _ vx _ => (RowKit.intOf vx).toNat)
  case atStart => exact ⟨x, [], rfl, Nat.le_refl _, rfl, by simpa [Lib.byteCells, Owns] using hown0, Below.refl _ _⟩
  case round =>
    obtain ⟨y, pre, rfl, hy, hsplit, hown1, hnx⟩ := hrel
    have hpl : pre.length + (Lib.uvarint y).length ≤ 10 := by
      have h2 := congrArg List.length hsplit
      rw [List.length_append] at h2
      omega
    have hyp := Lib.uvarint_pos y
    by_cases h128 : 128 ≤ y
    · have hor : bits .or .u8 ((y : Int) % 256) 128 = ((y % 128 + 128 : Nat) : Int) := by
        rw [Lib.u8_or128_any _ (by omega) (by omega)]
        omega
      go_wp2_with (at_builtin; refine wpList_append_own _ rfl _ _ 23 rfl B 5 i0 (.int .u8 0) 1 1 Try.underlying23 hi hz0 hz1 hz2 rfl (by decide) _ _ _ rfl (hown1.alloc _) ⟨wr.heap.size, 0, none⟩ 1 1 [Value.int .u8 ((y % 128 + 128 : Nat) : Int)] rfl rfl ?c1 ?c2 ?c3 ?c4 ?c5 ?_)
      case c1 =>
        intro j u hj
        match j, hj with
        | 0, hj => simp at hj; subst hj; simp [Addr.add]
      case c2 => intro u hu; simp at hu; subst hu; rfl
      case c3 => unfold maxLen; omega
      case c4 => omega
      case c5 => have := hnx.size; simp; omega
      intro v' w1 hown' hgrow _
      have hnx1 : Below B w w1 := (hnx.alloc (by have := hnx.size; omega) _).grown hgrow (by have := hnx.size; simp; omega) (fun k hk => (hown1.lt k hk).1)
      go_wp2
      go_roundw
      case rel =>
        refine ⟨y / 128, pre ++ [(y % 128 + 128).toUInt8], by go_num, by omega, by rw [hsplit, Lib.uvarint_big h128]; simp, ?_, hnx1⟩
        have ec : ((y % 128 + 128 : Nat) : Int) = (y : Int) % 128 + 128 := by omega
        rw [Lib.byteCells_snoc pre (by omega), List.length_append, List.length_singleton, ← Nat.add_assoc, ec]
        exact hown'
      case measure => simp [RowKit.intOf]; omega
    · have hsm : Lib.uvarint y = [y.toUInt8] := Lib.uvarint_small (by omega)
      go_wp2_with (at_builtin; refine wpList_append_own _ rfl _ _ 23 rfl B 5 i0 (.int .u8 0) 1 1 Try.underlying23 hi hz0 hz1 hz2 rfl (by decide) _ _ _ rfl (hown1.alloc _) ⟨wr.heap.size, 0, none⟩ 1 1 [Value.int .u8 (y : Int)] rfl rfl ?c1 ?c2 ?c3 ?c4 ?c5 ?_)
      case c1 =>
        intro j u hj
        match j, hj with
        | 0, hj => simp at hj; subst hj; simp [Addr.add]
      case c2 => intro u hu; simp at hu; subst hu; rfl
      case c3 => unfold maxLen; omega
      case c4 => omega
      case c5 => have := hnx.size; simp; omega
      intro v' w1 hown' hgrow _
      have hnx1 : Below B w w1 := (hnx.alloc (by have := hnx.size; omega) _).grown hgrow (by have := hnx.size; simp; omega) (fun k hk => (hown1.lt k hk).1)
      go_wp2
      go_ret
      refine ⟨v', rfl, ?_, hnx1⟩
      unfold Owns
      rw [hsplit, hsm, byteCells_append, Lib.byteCells_snoc pre (by omega), List.length_append, List.length_append, List.length_singleton, ← Nat.add_assoc]
      exact hown'

theorem or1 (x : Nat) (hx : x < 18446744073709551616) : bits .or .u64 (x : Int) 1 = ((2 * (x / 2) + 1 : Nat) : Int) := by
  have h := (bits_nat .u64 64 (by decide) wraps_u64 x 1 (by omega) (by decide)).2
  have e : ((1 : Nat) : Int) = 1 := rfl
  rw [e] at h
  rw [h]
  congr 1
  have h1 := Nat.div_add_mod (x ||| 1) 2
  have h2 : (x ||| 1) % 2 = 1 := by simp
  rw [Nat.or_div_two, h2] at h1
  simp at h1
  omega

set_option maxHeartbeats 1000000 in
theorem uintLen_any (x : Nat) (hx : x < 18446744073709551616) (w : World) :
    Calls Try.prog 67 #[.int .u64 (x : Int)] w fun e w' => e = .returned (.int .i64 (ulen x : Int)) ∧ w = w' := by
  obtain ⟨y, hy⟩ : ∃ y, y = 2 * (x / 2) + 1 := ⟨_, rfl⟩
  have ho := or1 x hx
  have hl := ulen_bits x hx
  rw [← hy] at ho hl
  have hb : (y : Int) ≤ 18446744073709551615 := by omega
  have hl7 : Lib.bitLen y ≤ 64 := bitLen_le _
  have hc := fun w => Try.bits_Len64 (y : Int) w (by omega) hb
  simp only [Int.toNat_natCast] at hc
  generalize Lib.bitLen y = q at hl hl7 hc
  have hL := Lib.hid hl
  clear hl hy
  go_enter Try.func67, Try.ntmps67
  go_wp2_with (go_at_call 69; refine (hc _).mono ?_; rintro e w' ⟨rfl, rfl⟩)
  go_ret
  refine ⟨?_, rfl⟩
  have h := hL.out
  exact congrArg (fun n => Ending.returned (Value.int .i64 n)) (by omega)

set_option maxHeartbeats 1000000 in
theorem Uint_any (x : Nat) (hx : x < 18446744073709551616) (w : World) :
    Calls Try.prog 14 #[.int .u64 (x : Int)] w fun e w' => ∃ v, e = .returned v ∧ Owns w' w.heap.size 5 v (Lib.uvarint x) ∧ w.grownBy w' none := by
  obtain ⟨i0, hi, hz0, hz1, hz2⟩ := info_parts infoU8
  have hu := ulen_le hx
  go_enter Try.func14, Try.ntmps14
  go_wp2_with (first | (go_at_call 67; refine (uintLen_any x hx _).mono ?_; rintro e w' ⟨rfl, rfl⟩) | (at_make; refine wpList_make_own _ rfl _ _ 23 rfl w.heap.size 5 i0 (.int .u8 0) 1 Try.underlying23 hi hz0 hz1 .i64 .i64 _ (ulen x) rfl rfl rfl (by rw [hz2]; omega) (by unfold maxLen; omega) (Nat.le_refl _) ?_; intro w0 hown0 hgrow0) | (go_at_call 66; refine (addUint_any w.heap.size x hx _ [] _ hown0 hgrow0.size (by simp)).mono ?_; rintro e w' ⟨v, rfl, ho, hb⟩))
  go_ret
  exact ⟨v, rfl, by simpa using ho, belowg ((gbelow hgrow0 (Nat.le_refl _) (by simp)).trans hb) _⟩

set_option maxHeartbeats 1000000 in
theorem fieldLen_any (a : Option Addr) (l c : Nat) (hl : l ≤ 140737488355328) (w : World) :
    Calls Try.prog 82 #[.slice a l c] w fun e w' => e = .returned (.int .i64 ((ulen l + l : Nat) : Int)) ∧ w = w' := by
  have hu := ulen_le (x := l) (by omega)
  go_enter Try.func82, Try.ntmps82
  go_wp2_with (go_at_call 67; refine (uintLen_any l (by omega) _).mono ?_; rintro e w' ⟨rfl, rfl⟩)
  go_ret
  exact ⟨rfl, rfl⟩

set_option maxHeartbeats 1000000 in
theorem addField_any (B : Nat) (sv : Value) (bs f : List UInt8) (a : Option Addr) (l c : Nat) (w : World) (hown : Owns w B 5 sv bs) (hBw : B ≤ w.heap.size) (hr : Reads w (.slice a l c) f) (hB : f ≠ [] → ∀ k, (Value.slice a l c).ownBlock = some k → k < B) (hlim : bs.length + f.length + 10 ≤ 140737488355328) :
    Calls Try.prog 81 #[sv, .slice a l c] w fun e w' => ∃ v', e = .returned v' ∧ Owns w' B 5 v' (bs ++ field f) ∧ Below B w w' := by
  obtain ⟨rfl, hc, hm⟩ := hr.slice
  obtain ⟨i0, hi, hz0, hz1, hz2⟩ := info_parts infoU8
  have hul := ulen_le (x := f.length) (by omega)
  unfold ulen at hul
  go_enter Try.func81, Try.ntmps81
  go_wp2_with (first | (go_at_call 66; refine (addUint_any B f.length (by omega) sv bs _ hown hBw (by omega)).mono ?_; rintro e w1 ⟨v1, rfl, ho1, hb1⟩; have hs1 := hb1.size) | (at_builtin; refine wpList_append_bytes _ rfl _ _ 23 rfl B 5 i0 Try.underlying23 hi hz0 hz1 hz2 _ _ rfl ho1 _ f rfl (hr.below hb1 hB) ?_ (by omega) ?_; (case _ => simp only [List.length_append]; omega); intro v2 w2 ho2 hg2))
  go_ret
  exact ⟨v2, rfl, by simpa [field] using ho2, hb1.grown hg2 (by omega) (fun k hk => (ho1.lt k hk).1)⟩

set_option maxHeartbeats 1000000 in
theorem Field_ok (f : List UInt8) (a : Option Addr) (l c : Nat) (w : World) (hr : Reads w (.slice a l c) f) (hlim : f.length ≤ 1048576) :
    Calls Try.prog 31 #[.slice a l c] w fun e w' => ∃ v, e = .returned (.tuple #[v, .int .i64 0]) ∧ Owns w' w.heap.size 5 v (field f) ∧ Below w.heap.size w w' := by
  obtain ⟨rfl, hc, hm⟩ := hr.slice
  obtain ⟨i0, hi, hz0, hz1, hz2⟩ := info_parts infoU8
  have hu := ulen_le (x := f.length) (by omega)
  go_enter Try.func31, Try.ntmps31
  go_wp2_with (first | (go_at_call 82; refine (fieldLen_any a f.length c (by omega) _).mono ?_; rintro e w' ⟨rfl, rfl⟩) | (at_make; refine wpList_make_own _ rfl _ _ 23 rfl w.heap.size 5 i0 (.int .u8 0) 1 Try.underlying23 hi hz0 hz1 .i64 .i64 _ (ulen f.length + f.length) rfl rfl (by simp) (by rw [hz2]; omega) (by unfold maxLen; omega) (Nat.le_refl _) ?_; intro w0 hown0 hgrow0) | (go_at_call 81; refine (addField_any w.heap.size _ [] f a f.length c _ hown0 hgrow0.size (hr.new hgrow0) hr.lt (by simp; omega)).mono ?_; rintro e w' ⟨v, rfl, ho, hb⟩))
  go_ret2
  exact ⟨v, rfl, by simpa using ho, (gbelow hgrow0 (Nat.le_refl _) (by simp)).trans hb⟩

set_option maxHeartbeats 1000000 in
theorem Field_long (a : Option Addr) (l c : Nat) (w : World) (hlim : 1048576 < l) :
    Calls Try.prog 31 #[.slice a l c] w fun e w' => e = .returned (.tuple #[.slice none 0 0, .int .i64 2]) ∧ w = w' := by
  go_enter Try.func31, Try.ntmps31
  go_wp2
  go_ret2
  exact ⟨rfl, rfl⟩

/-- The element at a place of a slice of slices. -/
theorem ReadsL.get {w : World} {a : Option Addr} {l c : Nat} {L : List (List UInt8)} (h : ReadsL w (.slice a l c) L) {i : Nat} (hi : i < L.length) :
    ∃ b off v, a = some ⟨b, off, none⟩ ∧ w.cell? ⟨b, off + i, none⟩ = some v ∧ Reads w v L[i] := by
  obtain ⟨vs, h1, h2, h3⟩ := h
  rcases h2 with ⟨h, rfl⟩ | ⟨b, off, cap, h, h4, h5, hc⟩
  · simp at h1; omega
  · simp at h
    exact ⟨b, off, vs[i]'(by omega), h.1, hc i _ (List.getElem?_eq_getElem _), h3 i _ _ (List.getElem?_eq_getElem _) (List.getElem?_eq_getElem _)⟩
theorem ReadsL.len {w : World} {a : Option Addr} {l c : Nat} {L : List (List UInt8)} (h : ReadsL w (.slice a l c) L) : l = L.length ∧ l ≤ c ∧ c ≤ maxLen := by
  obtain ⟨vs, h1, h2, h3⟩ := h
  rcases h2 with ⟨h, rfl⟩ | ⟨b, off, cap, h, h4, h5, hc⟩
  · simp at h h1
    obtain ⟨rfl, rfl, rfl⟩ := h
    simp [← h1]
  · simp at h
    obtain ⟨rfl, rfl, rfl⟩ := h
    exact ⟨h1, h4, h5⟩

set_option maxHeartbeats 2000000 in
theorem Fields_ok (L : List (List UInt8)) (a : Option Addr) (l c : Nat) (w : World) (hr : ReadsL w (.slice a l c) L) (hlim : L.length ≤ 65536) (hall : ∀ f ∈ L, f.length ≤ 1048576) :
    Calls Try.prog 32 #[.slice a l c] w fun e w' => ∃ v, e = .returned (.tuple #[v, .int .i64 0]) ∧ Owns w' w.heap.size 5 v (fields L) ∧ Below w.heap.size w w' := by
  obtain ⟨rfl, hc, hm⟩ := hr.len
  obtain ⟨i0, hi, hz0, hz1, hz2⟩ := info_parts infoU8
  have hu := ulen_le (x := L.length) (by omega)
  have hall' := Lib.hid hall
  clear hall
  go_enter Try.func32, Try.ntmps32
  go_wp2_with (go_at_call 67; refine (uintLen_any L.length (by omega) _).mono ?_; rintro e w' ⟨rfl, rfl⟩)
  go_loopw [5, 21] (fun vl vi wr => ∃ k : Nat, k ≤ L.length ∧ vi = .int .i64 (k : Int) ∧ vl = .int .i64 ((ulen L.length + flen (L.take k) : Nat) : Int) ∧ w = wr) (fun _ vi _ => L.length - (RowKit.intOf vi).toNat)
  case atStart => exact ⟨0, Nat.zero_le _, rfl, by simp [flen], rfl⟩
  case round =>
    obtain ⟨k, hk, rfl, rfl, rfl⟩ := hrel
    by_cases hlt : k < L.length
    · obtain ⟨b, off, v, rfl, hcell, hv⟩ := hr.get hlt
      obtain ⟨a', c', rfl⟩ := hv.form
      have hfl := hall'.out L[k] (List.getElem_mem _)
      have hu2 := ulen_le (x := L[k].length) (by omega)
      have hfk := flen_le (L.take k) (fun f hf => hall'.out f (List.mem_of_mem_take hf))
      have hlk : (L.take k).length ≤ 65536 := by simp; omega
      have hsn := flen_snoc (L.take k) L[k]
      rw [← List.take_succ_eq_append_getElem hlt] at hsn
      have hS := Lib.hid hsn
      clear hsn
      go_wp2_with (go_at_call 82; refine (fieldLen_any a' _ c' (by omega) _).mono ?_; rintro e w' ⟨rfl, rfl⟩)
      refine ⟨⟨k + 1, by omega, by go_num, ?_, by first | rfl | trivial⟩, by simp [RowKit.intOf]; omega⟩
      rw [hS.out]
      go_num
    · have hkl : k = L.length := by omega
      subst hkl
      rw [List.take_length]
      have hfk := flen_le L hall'.out
      go_wp2_with (first | (at_make; refine wpList_make_own _ rfl _ _ 23 rfl w.heap.size 5 i0 (.int .u8 0) 1 Try.underlying23 hi hz0 hz1 .i64 .i64 _ (ulen L.length + flen L) rfl rfl (by simp) (by rw [hz2]; omega) (by unfold maxLen; omega) (Nat.le_refl _) ?_; intro w0 hown0 hgrow0) | (go_at_call 66; refine (addUint_any w.heap.size L.length (by omega) _ [] _ hown0 hgrow0.size (by simp)).mono ?_; rintro e w1 ⟨v, rfl, ho, hb⟩))
      have hb0 : Below w.heap.size w w1 := (gbelow hgrow0 (Nat.le_refl _) (by simp)).trans hb
      clear hgrow0 hown0
      go_loopw [8, 39] (fun vb vi wr => ∃ k : Nat, k ≤ L.length ∧ vi = .int .i64 (k : Int) ∧ Owns wr w.heap.size 5 vb (Lib.uvarint L.length ++ ((L.take k).map field).flatten) ∧ Below w.heap.size w wr) (fun _ vi _ => L.length - (RowKit.intOf vi).toNat)
      case atStart => exact ⟨0, Nat.zero_le _, rfl, by simpa using ho, hb0⟩
      case round =>
        obtain ⟨k, hk, rfl, ho2, hb2⟩ := hrel
        by_cases hlt : k < L.length
        · obtain ⟨b, off, v, rfl, hcell, hv⟩ := hr.get hlt
          obtain ⟨a', c', rfl⟩ := hv.form
          have hfl := hall'.out L[k] (List.getElem_mem _)
          have hfk2 := flen_le (L.take k) (fun f hf => hall'.out f (List.mem_of_mem_take hf))
          have hlk : (L.take k).length ≤ 65536 := by simp; omega
          have hlen : (Lib.uvarint L.length ++ ((L.take k).map field).flatten).length ≤ 10 + (L.take k).length * 1048586 := by
            rw [List.length_append, fields_len]
            unfold ulen at hu
            omega
          have hcell2 : wr.cell? ⟨b, off + k, none⟩ = some (.slice a' L[k].length c') := by
            rw [hb2.cell (p := ⟨b, off + k, none⟩) (World.block_lt_of_cell? w _ hcell)]; exact hcell
          clear hcell
          have hcall := addField_any w.heap.size _ _ L[k] a' _ c' wr ho2 hb2.size (hv.all hb2) hv.lt (by omega)
          have hS : Hid (((L.take (k + 1)).map field).flatten = ((L.take k).map field).flatten ++ field L[k]) := by
            show _ = _
            rw [List.take_succ_eq_append_getElem hlt]; simp only [List.map_append, List.flatten_append, List.map_cons, List.map_nil, List.flatten_cons, List.flatten_nil, List.append_nil]
          clear hlen hfk2
          go_wp2_with (go_at_call 81; refine hcall.mono ?_; rintro e w3 ⟨v3, rfl, ho3, hb3⟩)
          refine ⟨⟨k + 1, by omega, by go_num, ?_, hb2.trans hb3⟩, by simp [RowKit.intOf]; omega⟩
          rw [hS.out, ← List.append_assoc]
          exact ho3
        · have hkl : k = L.length := by omega
          subst hkl
          rw [List.take_length] at ho2
          go_wp2
          go_ret2
          exact ⟨_, rfl, ho2, hb2⟩

set_option maxHeartbeats 1000000 in
theorem Fields_many (a : Option Addr) (l c : Nat) (w : World) (hlim : 65536 < l) :
    Calls Try.prog 32 #[.slice a l c] w fun e w' => e = .returned (.tuple #[.slice none 0 0, .int .i64 2]) ∧ w = w' := by
  go_enter Try.func32, Try.ntmps32
  go_wp2
  go_ret2
  exact ⟨rfl, rfl⟩
end Go.Proofs.Ytilbccjgaaembaa
