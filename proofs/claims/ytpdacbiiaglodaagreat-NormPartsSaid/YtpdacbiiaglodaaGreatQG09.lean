/-
  LAYER 2 (codec): what writes: copied, addUint, uintLen, Uint, fieldLen, addField.
-/
import Derived.Test.YtpdacbiiaglodaaGreatQG02
import Derived.Test.YtpdacbiiaglodaaGreatQG08
import Derived.Laws.CopyOwn
import Derived.Lib.SlBytesConst
import Derived.Lib.VarintDec
namespace Go.Proofs.YtpdacbiiaglodaaGreat
set_option maxRecDepth 100000
open Go.RowKit Go.Lib

theorem infoU8 : (Tryz.prog.info? 5).map (fun i => (i.zero, i.size, i.bytes)) = some (some (.int .u8 0), 1, 1) := by kernel_rfl
theorem sizeU8 : (Tryz.prog.info? 5).map (·.size) = some 1 := by kernel_rfl

/-- An own row, laid anew. -/
theorem owns_block {w : World} {B g cap : Nat} {e : TypeId} {bs : List UInt8} (hB : B ≤ g) (hg : w.heap[g]? = some (.cells (byteCells bs).toArray e (0, 0))) (hm : bs.length ≤ maxLen) (hc : cap = bs.length) :
    Owns w B e (.slice (some ⟨g, 0, none⟩) bs.length cap) bs := by
  subst hc
  have hl : (byteCells bs).length = bs.length := by simp [byteCells]
  exact ⟨by simp [hl], .inr ⟨g, _, _, rfl, hB, hg, Nat.le_refl _, hm, by simp [hl], by simp [hl, List.take_of_length_le]⟩⟩

theorem byteCells_one (bs : List UInt8) : ∀ v ∈ byteCells bs, v.oneCell' = true := by
  intro v hv
  simp only [byteCells, List.mem_map] at hv
  obtain ⟨u, _, rfl⟩ := hv
  rfl

/-- The cells of what is read, from an address on. -/
theorem Reads.cells {w : World} {a : Addr} {l c : Nat} {bs : List UInt8} (h : Reads w (.slice (some a) l c) bs) : ∀ j v, (byteCells bs)[j]? = some v → w.cell? (a.add j) = some v := by
  rcases h with ⟨h, rfl⟩ | ⟨b, off, cap, h, h1, h2, hc⟩
  · simp at h
  · simp at h
    obtain ⟨rfl, rfl, rfl⟩ := h
    intro j v hv
    rw [byteCells_get] at hv
    obtain ⟨u, hu, rfl⟩ := Option.map_eq_some_iff.1 hv
    have := hc j u hu
    have e : (⟨b, off, none⟩ : Addr).add j = ⟨b, off + j, none⟩ := by unfold Addr.add; split <;> simp_all
    rw [e]
    exact this

theorem byteCells_len (bs : List UInt8) : (byteCells bs).length = bs.length := by simp [byteCells]

/-- 'append(out, f...)' at bytes: out the call's own (or nil), f whatever reads as bytes, nil too. -/
theorem wpList_append_bytes {P : Program} (w : World) {ops : Array Oper} {rest : List Oper} {o : Oper} {a : Act} {Q : Exit → Act → World → Prop} (hgd : o.guard = none) (s x : Operand) (t : TypeId)
    (ho : o.op = .call { callee := .builtin .append, args := #[s, x], argTypes := #[t, t] })
    (base : Nat) (e : TypeId) (i : TypeInfo) (ht : P.underlying t = some (.slice e)) (hi : P.info? e = some i) (hz : i.zero = some (.int .u8 0)) (hsize : i.size = 1) (hby : i.bytes = 1)
    (v : Value) (bs : List UInt8) (hs : a.eval s = v) (hown : Owns w base e v bs) (xv : Value) (f : List UInt8) (hx : a.eval x = xv) (hr : Reads w xv f)
    (hlim : bs.length + f.length ≤ 140737488355328) (hbase : base ≤ w.heap.size)
    (h : ∀ v' w', Owns w' base e v' (bs ++ f) → w.grownBy w' v.ownBlock → wpList P ops Q rest (a.put o.dst v') w') : wpList P ops Q (o :: rest) a w := by
  have hr0 := hr
  rcases hr with ⟨rfl, rfl⟩ | ⟨b, off, cap, rfl, _, _, _⟩
  · refine wpList_plain hgd fun K hK => ?_
    have hrun := run_append_owned_none (P := P) w base t o.type e i 1 ht hi v _ _ hown
    unfold Oper.wp execOp
    simp only [ho, resolve, invoke, builtin, Sem.run_bind, Sem.run_pure, Result.andThen_ok, List.map_toArray, List.map_cons, List.map_nil, hs, hx, hrun]
    exact hK _ _ (h v w (by simpa using hown) (World.grownBy.refl _ _))
  · refine wpList_append_own w hgd s x t ho base e i (.int .u8 0) 1 1 ht hi hz hsize hby rfl (by decide) v bs.length (byteCells bs) hs hown ⟨b, off, none⟩ f.length cap (byteCells f) hx (by rw [byteCells_len]; omega) hr0.cells (byteCells_one f) (by unfold maxLen; omega) (by omega) hbase fun v' w' h2 h3 _ => h v' w' ?_ h3
    unfold Owns
    rw [byteCells_append, List.length_append]
    exact h2

theorem run_copied (w0 : World) (g : Nat) (a : Option Addr) (c : Nat) (bs : List UInt8) (hm : bs.length ≤ maxLen) (hr : Reads w0 (.slice a bs.length c) bs) (hb : w0.heap[g]? = some (.cells (List.replicate bs.length (Value.int .u8 0)).toArray 5 (0, 0))) :
    ∃ w1, (Builtin.copy_ #[27, 27] 3 #[.slice (some ⟨g, 0, none⟩) bs.length bs.length, .slice a bs.length c]).run Tryz.prog w0 = .ok (goInt bs.length) w1 ∧ Owns w1 g 5 (.slice (some ⟨g, 0, none⟩) bs.length bs.length) bs ∧ w0.grownBy w1 (some g) := by
  have hlc : (byteCells bs).length = bs.length := by simp [byteCells]
  by_cases h0 : bs = []
  · subst h0
    exact ⟨w0, run_copy_none w0 _ _ _ 5 _ _ _ _ _ _ Tryz.underlying27 sizeU8 rfl, owns_block (Nat.le_refl _) (by simpa [byteCells] using hb) hm rfl, World.grownBy.refl _ _⟩
  · obtain ⟨ad, rfl⟩ : ∃ ad, a = some ad := by
      rcases hr with ⟨_, rfl⟩ | ⟨b, off, cap, h, _⟩
      · exact absurd rfl h0
      · simp at h; exact ⟨_, h.1⟩
    have hrun := run_copy_row (P := Tryz.prog) w0 27 27 3 5 g 0 bs.length bs.length ad bs.length c _ 5 (byteCells bs) Tryz.underlying27 sizeU8 hb (by simp [hlc]) hr.cells (by simp [hlc]) (byteCells_one bs)
    rw [hlc] at hrun
    refine ⟨_, hrun, owns_block (Nat.le_refl _) ?_ hm rfl, ⟨rfl, rfl, rfl, by simp [World.setRow], fun k _ hne => setRow_other w0 g k _ (fun e => hne (by simp [e]))⟩⟩
    rw [setRow_heap w0 g _ _ _ _ hb]
    simp

set_option maxHeartbeats 1000000 in
theorem copied_any (a : Option Addr) (l c : Nat) (bs : List UInt8) (w : World) (hr : Reads w (.slice a l c) bs) (hl : bs.length ≤ 140737488355328) :
    Calls Tryz.prog 145 #[.slice a l c] w fun e w' => ∃ v, e = .returned v ∧ Owns w' w.heap.size 5 v bs ∧ w.grownBy w' none := by
  obtain ⟨rfl, hc, hm⟩ := hr.slice
  obtain ⟨i0, hi, hz0, hz1, hz2⟩ := info_parts infoU8
  go_enter Tryz.func145, Tryz.ntmps145
  go_wp2_with (at_make; refine wpList_make_full _ rfl _ _ 27 rfl w.heap.size 5 i0 (.int .u8 0) 1 Tryz.underlying27 hi hz0 hz1 .i64 .i64 _ _ bs.length rfl rfl rfl rfl (by rw [hz2]; omega) (by unfold maxLen; omega) (Nat.le_refl _) ?_; intro w0 hown0 hgrow0)
  have hblk : w0.heap[w.heap.size]? = some (.cells (List.replicate bs.length (Value.int .u8 0)).toArray 5 (0, 0)) := by
    obtain ⟨_, ⟨h, _⟩ | ⟨g, cap, cur, h, _, hg, _, _, hs, ht⟩⟩ := hown0
    · simp at h
    · simp only [Value.slice.injEq, Option.some.injEq, Addr.mk.injEq, and_true, true_and] at h
      obtain ⟨rfl, rfl⟩ := h
      rw [hg, ← Array.toArray_toList (xs := cur), ← List.take_of_length_le (l := cur.toList) (i := bs.length * 1) (by simp; omega), ht]
      simp [Value.cells, toList_madeCells_one]
  clear hown0
  obtain ⟨w1, hrun, ho, hg1⟩ := run_copied w0 w.heap.size a c bs (by omega) (hr.new hgrow0) hblk
  clear hblk
  go_simp
  go_wp2
  go_ret
  exact ⟨_, rfl, ho, gnew hgrow0 hg1 (by simp)⟩

set_option maxHeartbeats 2000000 in
set_option maxRecDepth 100000 in
theorem addUint_any (B x : Nat) (hx : x < 18446744073709551616) (sv : Value) (bs : List UInt8) (w : World) (hown0 : Owns w B 5 sv bs) (hBw : B ≤ w.heap.size) (hlim : bs.length + 10 ≤ 140737488355328) :
    Calls Tryz.prog 180 #[sv, .int .u64 (x : Int)] w fun e w' => ∃ v', e = .returned v' ∧ Owns w' B 5 v' (bs ++ Lib.uvarint x) ∧ Below B w w' := by
  obtain ⟨i0, hi, hz0, hz1, hz2⟩ := info_parts infoU8
  have hlen := Lib.uvarint_length64 hx
  go_enter Tryz.func180, Tryz.ntmps180
  go_wp2
  go_loopw [0, 1] (fun vb vx wr => ∃ (y : Nat) (pre : List UInt8), vx = .int .u64 (y : Int) ∧ y ≤ x ∧ Lib.uvarint x = pre ++ Lib.uvarint y ∧ wr.ownsRow B 5 1 vb (bs.length + pre.length) (byteCells bs ++ Lib.byteCells pre) ∧ Below B w wr)
    (fun _ vx _ => (RowKit.intOf vx).toNat)
  case atStart => exact ⟨x, [], rfl, Nat.le_refl _, rfl, by simpa [Lib.byteCells, Owns] using hown0, Below.refl _ _⟩
  case round =>
    obtain ⟨y, pre, rfl, hy, hsplit, hown1, hnx⟩ := hrel
    have hpl : pre.length + (Lib.uvarint y).length ≤ 10 := by
      have h2 := congrArg List.length hsplit
      rw [List.length_append] at h2
      omega
    have hyp := Lib.uvarint_pos y
    by_cases h128 : 128 ≤ y
    · have hor : bits .or .u8 ((y : Int) % 256) 128 = ((y % 128 + 128 : Nat) : Int) := by
        rw [Lib.u8_or128_any _ (by omega) (by omega)]
        omega
      go_wp2_with (at_builtin; refine wpList_append_own _ rfl _ _ 27 rfl B 5 i0 (.int .u8 0) 1 1 Tryz.underlying27 hi hz0 hz1 hz2 rfl (by decide) _ _ _ rfl (hown1.alloc _) ⟨wr.heap.size, 0, none⟩ 1 1 [Value.int .u8 ((y % 128 + 128 : Nat) : Int)] rfl rfl ?c1 ?c2 ?c3 ?c4 ?c5 ?_)
      case c1 =>
        intro j u hj
        match j, hj with
        | 0, hj => simp at hj; subst hj; simp [Addr.add]
      case c2 => intro u hu; simp at hu; subst hu; rfl
      case c3 => unfold maxLen; omega
      case c4 => omega
      case c5 => have := hnx.size; simp; omega
      intro v' w1 hown' hgrow _
      have hnx1 : Below B w w1 := (hnx.alloc (by have := hnx.size; omega) _).grown hgrow (by have := hnx.size; simp; omega) (fun k hk => (hown1.lt k hk).1)
      go_wp2
      go_roundw
      case rel =>
        refine ⟨y / 128, pre ++ [(y % 128 + 128).toUInt8], by go_num, by omega, by rw [hsplit, Lib.uvarint_big h128]; simp, ?_, hnx1⟩
        have ec : ((y % 128 + 128 : Nat) : Int) = (y : Int) % 128 + 128 := by omega
        rw [Lib.byteCells_snoc pre (by omega), List.length_append, List.length_singleton, ← Nat.add_assoc, ec]
        exact hown'
      case measure => simp [RowKit.intOf]; omega
    · have hsm : Lib.uvarint y = [y.toUInt8] := Lib.uvarint_small (by omega)
      go_wp2_with (at_builtin; refine wpList_append_own _ rfl _ _ 27 rfl B 5 i0 (.int .u8 0) 1 1 Tryz.underlying27 hi hz0 hz1 hz2 rfl (by decide) _ _ _ rfl (hown1.alloc _) ⟨wr.heap.size, 0, none⟩ 1 1 [Value.int .u8 (y : Int)] rfl rfl ?c1 ?c2 ?c3 ?c4 ?c5 ?_)
      case c1 =>
        intro j u hj
        match j, hj with
        | 0, hj => simp at hj; subst hj; simp [Addr.add]
      case c2 => intro u hu; simp at hu; subst hu; rfl
      case c3 => unfold maxLen; omega
      case c4 => omega
      case c5 => have := hnx.size; simp; omega
      intro v' w1 hown' hgrow _
      have hnx1 : Below B w w1 := (hnx.alloc (by have := hnx.size; omega) _).grown hgrow (by have := hnx.size; simp; omega) (fun k hk => (hown1.lt k hk).1)
      go_wp2
      go_ret
      refine ⟨v', rfl, ?_, hnx1⟩
      unfold Owns
      rw [hsplit, hsm, byteCells_append, Lib.byteCells_snoc pre (by omega), List.length_append, List.length_append, List.length_singleton, ← Nat.add_assoc]
      exact hown'

theorem or1 (x : Nat) (hx : x < 18446744073709551616) : bits .or .u64 (x : Int) 1 = ((2 * (x / 2) + 1 : Nat) : Int) := by
  have h := (bits_nat .u64 64 (by decide) wraps_u64 x 1 (by omega) (by decide)).2
  have e : ((1 : Nat) : Int) = 1 := rfl
  rw [e] at h
  rw [h]
  congr 1
  have h1 := Nat.div_add_mod (x ||| 1) 2
  have h2 : (x ||| 1) % 2 = 1 := by simp
  rw [Nat.or_div_two, h2] at h1
  simp at h1
  omega

set_option maxHeartbeats 1000000 in
theorem uintLen_any (x : Nat) (hx : x < 18446744073709551616) (w : World) :
    Calls Tryz.prog 181 #[.int .u64 (x : Int)] w fun e w' => e = .returned (.int .i64 (ulen x : Int)) ∧ w = w' := by
  obtain ⟨y, hy⟩ : ∃ y, y = 2 * (x / 2) + 1 := ⟨_, rfl⟩
  have ho := or1 x hx
  have hl := ulen_bits x hx
  rw [← hy] at ho hl
  have hb : (y : Int) ≤ 18446744073709551615 := by omega
  have hl7 : Lib.bitLen y ≤ 64 := bitLen_le _
  have hc := fun w => Tryz.bits_Len64 (y : Int) w (by omega) hb
  simp only [Int.toNat_natCast] at hc
  generalize Lib.bitLen y = q at hl hl7 hc
  have hL := Lib.hid hl
  clear hl hy
  go_enter Tryz.func181, Tryz.ntmps181
  go_wp2_with (go_at_call 183; refine (hc _).mono ?_; rintro e w' ⟨rfl, rfl⟩)
  go_ret
  refine ⟨?_, rfl⟩
  have h := hL.out
  exact congrArg (fun n => Ending.returned (Value.int .i64 n)) (by omega)

set_option maxHeartbeats 1000000 in
theorem Uint_any (x : Nat) (hx : x < 18446744073709551616) (w : World) :
    Calls Tryz.prog 157 #[.int .u64 (x : Int)] w fun e w' => ∃ v, e = .returned v ∧ Owns w' w.heap.size 5 v (Lib.uvarint x) ∧ w.grownBy w' none := by
  obtain ⟨i0, hi, hz0, hz1, hz2⟩ := info_parts infoU8
  have hu := ulen_le hx
  go_enter Tryz.func157, Tryz.ntmps157
  go_wp2_with (first | (go_at_call 181; refine (uintLen_any x hx _).mono ?_; rintro e w' ⟨rfl, rfl⟩) | (at_make; refine wpList_make_own _ rfl _ _ 27 rfl w.heap.size 5 i0 (.int .u8 0) 1 Tryz.underlying27 hi hz0 hz1 .i64 .i64 _ (ulen x) rfl rfl rfl (by rw [hz2]; omega) (by unfold maxLen; omega) (Nat.le_refl _) ?_; intro w0 hown0 hgrow0) | (go_at_call 180; refine (addUint_any w.heap.size x hx _ [] _ hown0 hgrow0.size (by simp)).mono ?_; rintro e w' ⟨v, rfl, ho, hb⟩))
  go_ret
  exact ⟨v, rfl, by simpa using ho, belowg ((gbelow hgrow0 (Nat.le_refl _) (by simp)).trans hb) _⟩

/-- The element at a place of a slice of slices. -/
theorem ReadsL.get {w : World} {a : Option Addr} {l c : Nat} {L : List (List UInt8)} (h : ReadsL w (.slice a l c) L) {i : Nat} (hi : i < L.length) :
    ∃ b off v, a = some ⟨b, off, none⟩ ∧ w.cell? ⟨b, off + i, none⟩ = some v ∧ Reads w v L[i] := by
  obtain ⟨vs, h1, h2, h3⟩ := h
  rcases h2 with ⟨h, rfl⟩ | ⟨b, off, cap, h, h4, h5, hc⟩
  · simp at h1; omega
  · simp at h
    exact ⟨b, off, vs[i]'(by omega), h.1, hc i _ (List.getElem?_eq_getElem _), h3 i _ _ (List.getElem?_eq_getElem _) (List.getElem?_eq_getElem _)⟩
theorem ReadsL.len {w : World} {a : Option Addr} {l c : Nat} {L : List (List UInt8)} (h : ReadsL w (.slice a l c) L) : l = L.length ∧ l ≤ c ∧ c ≤ maxLen := by
  obtain ⟨vs, h1, h2, h3⟩ := h
  rcases h2 with ⟨h, rfl⟩ | ⟨b, off, cap, h, h4, h5, hc⟩
  · simp at h h1
    obtain ⟨rfl, rfl, rfl⟩ := h
    simp [← h1]
  · simp at h
    obtain ⟨rfl, rfl, rfl⟩ := h
    exact ⟨h1, h4, h5⟩

end Go.Proofs.YtpdacbiiaglodaaGreat

/-
  LAYER 2 (codec): awake, and CodecShort.
-/
namespace Go.Proofs.YtpdacbiiaglodaaGreat
set_option maxRecDepth 100000
open Go.RowKit Go.Lib
set_option maxHeartbeats 1000000 in
theorem New_any (a : Option Addr) (l c : Nat) (bs : List UInt8) (w : World) (hr : Reads w (.slice a l c) bs) (hl : bs.length ≤ 140737488355328) :
    Calls Tryz.prog 116 #[.slice a l c] w fun e w' => ∃ r v, e = .returned (.pointer (some ⟨r, 0, none⟩)) ∧ w.grownBy w' none ∧ w.heap.size ≤ r ∧ Rd w' r v 0 0 ∧ Owns w' w.heap.size 5 v bs := by
  go_enter Tryz.func116, Tryz.ntmps116
  go_wp2_with (go_at_call 145; refine (copied_any a l c bs w hr hl).mono ?_; rintro e w1 ⟨v, rfl, ho, hg⟩)
  obtain ⟨a', c', rfl⟩ := ho.reads.form
  go_wp2_with (go_at_call 144; refine (over_any a' _ c' w1).mono ?_; rintro e w' ⟨rfl, rfl⟩)
  go_ret
  exact ⟨_, _, rfl, galloc hg _, hg.size, rd_made _ _, ho.new (World.grownBy_alloc w1 _ _)⟩

theorem uv300 : Lib.uvarint 300 = [172, 2] := by rw [uvarint_big (by decide), uvarint_small (by decide)]; rfl
theorem rd300 : rd 0 0 [172, 2] = .ok (300, 2) := by simp [rd]
theorem rd80 : rd 0 0 [128, 0] = .error 21 := by simp [rd]
theorem rd5 : rd 0 0 [5] = .ok (5, 1) := by simp [rd]
theorem fieldsA : fields [[97], []] = [2, 1, 97, 0] := by
  simp only [fields, field, List.map_cons, List.map_nil, List.length_cons, List.length_nil]
  rw [uvarint_small (by decide), uvarint_small (by decide), uvarint_small (by decide)]; rfl

/-- A literal of bytes. -/
theorem reads_lit (w : World) (e : TypeId) (bs : List UInt8) (hm : bs.length ≤ maxLen) : Reads (w.alloc (.cells (byteCells bs).toArray e)) (.slice (some ⟨w.heap.size, 0, none⟩) bs.length bs.length) bs :=
  (owns_block (B := 0) (Nat.zero_le _) (heap_alloc_new w _) hm rfl).reads

theorem reads_one (w : World) (b : Nat) (u : UInt8) (h : w.cell? ⟨b, 0, none⟩ = some (.int .u8 (u.toNat : Int))) : Reads w (.slice (some ⟨b, 0, none⟩) 1 1) [u] :=
  .inr ⟨b, 0, 1, rfl, by simp, by decide, fun i x hx => by
    match i, hx with
    | 0, hx => simp at hx; subst hx; simpa using h
    | i + 1, hx => simp at hx⟩
theorem readsL_two (w : World) (b : Nat) (v1 v2 : Value) (f1 f2 : List UInt8) (h1 : w.cell? ⟨b, 0, none⟩ = some v1) (h2 : w.cell? ⟨b, 1, none⟩ = some v2) (r1 : Reads w v1 f1) (r2 : Reads w v2 f2) : ReadsL w (.slice (some ⟨b, 0, none⟩) 2 2) [f1, f2] :=
  ⟨[v1, v2], rfl, .inr ⟨b, 0, 2, rfl, by simp, by decide, fun i x hx => by
    match i, hx with
    | 0, hx => simp at hx; subst hx; simpa using h1
    | 1, hx => simp at hx; subst hx; simpa using h2
    | i + 2, hx => simp at hx⟩, fun i x f hx hf => by
    match i, hx, hf with
    | 0, hx, hf => simp at hx hf; subst hx; subst hf; exact r1
    | 1, hx, hf => simp at hx hf; subst hx; subst hf; exact r2
    | i + 2, hx, hf => simp at hx⟩

end Go.Proofs.YtpdacbiiaglodaaGreat

/-
  LAYER 2 (codec): Int, nextInt, ReadInt, and the reader's Int.
-/
namespace Go.Proofs.YtpdacbiiaglodaaGreat
set_option maxRecDepth 100000
open Go.RowKit Go.Lib

theorem zigzag_lt (x : Int) (h0 : -9223372036854775808 ≤ x) (h1 : x ≤ 9223372036854775807) : zigzag x < 18446744073709551616 := by unfold zigzag; split <;> omega
theorem zigzag_neg (x : Int) (h : x < 0) : ((zigzag x : Nat) : Int) = 2 * -(x + 1) + 1 := by unfold zigzag; rw [if_neg (by omega)]; omega
theorem zigzag_pos (x : Int) (h : ¬ x < 0) : ((zigzag x : Nat) : Int) = 2 * x := by unfold zigzag; rw [if_pos (by omega)]; omega

/-- ReadInt's number out of ReadUint's. -/
def unzig (n : Nat) : Int := if n % 2 = 1 then -1 - ((n / 2 : Nat) : Int) else ((n / 2 : Nat) : Int)
theorem unzig_zigzag (x : Int) : unzig (zigzag x) = x := by unfold unzig zigzag; split <;> split <;> omega
theorem zigzag_unzig (n : Nat) : zigzag (unzig n) = n := by unfold unzig zigzag; split <;> split <;> omega
theorem unzig_fits (n : Nat) (h : n < 18446744073709551616) : -9223372036854775808 ≤ unzig n ∧ unzig n ≤ 9223372036854775807 := by unfold unzig; split <;> omega

end Go.Proofs.YtpdacbiiaglodaaGreat

/-
  LAYER 2 (codec): Fixed, nextFixed, ReadFixed, the reader's Fixed.
-/
namespace Go.Proofs.YtpdacbiiaglodaaGreat
set_option maxRecDepth 100000
open Go.RowKit Go.Lib

set_option maxHeartbeats 1000000 in
theorem isWide_any (x : Int) (w : World) : Calls Tryz.prog 182 #[.int .i64 x] w fun e w' => e = .returned (.bool (decide (1 ≤ x ∧ x ≤ 8))) ∧ w = w' := by
  by_cases h1 : 1 ≤ x
  · by_cases h2 : x ≤ 8
    · rw [decide_eq_true ⟨h1, h2⟩]
      go_enter Tryz.func182, Tryz.ntmps182
      go_wp2
      go_ret
      exact ⟨rfl, rfl⟩
    · rw [decide_eq_false (by omega)]
      go_enter Tryz.func182, Tryz.ntmps182
      go_wp2
      go_ret
      exact ⟨rfl, rfl⟩
  · rw [decide_eq_false (by omega)]
    go_enter Tryz.func182, Tryz.ntmps182
    go_wp2
    go_ret
    exact ⟨rfl, rfl⟩

set_option maxHeartbeats 1000000 in
theorem nextFixed_range (r : Nat) (x : Int) (w : World) (hx : ¬ (1 ≤ x ∧ x ≤ 8)) :
    Calls Tryz.prog 199 #[.pointer (some ⟨r, 0, none⟩), .int .i64 x] w fun e w' => e = .panicked [{ v := .iface 228 (.int .i64 1), recovered := false }] ∧ w = w' := by
  have hw := isWide_any x
  rw [decide_eq_false hx] at hw
  go_enter Tryz.func199, Tryz.ntmps199
  go_wp2_with (go_at_call 182; refine (hw _).mono ?_; rintro e w' ⟨rfl, rfl⟩)
  exact ⟨rfl, rfl, rfl⟩

set_option maxHeartbeats 1000000 in
theorem nextFixed_short (r : Nat) (k : Nat) (a : Option Addr) (len cap : Nat) (pos : Nat) (er : Int) (w : World) (hk : 1 ≤ k ∧ k ≤ 8) (hR : Rd w r (.slice a len cap) pos er) (hp : pos ≤ len) (hlen : len ≤ maxLen) (hs : len < pos + k) :
    Calls Tryz.prog 199 #[.pointer (some ⟨r, 0, none⟩), .int .i64 (k : Int)] w fun e w' => e = .panicked [{ v := .iface 228 (.int .i64 20), recovered := false }] ∧ ∃ q, w' = w.drewN q := by
  have hw := isWide_any (k : Int)
  rw [decide_eq_true (by omega)] at hw
  go_enter Tryz.func199, Tryz.ntmps199
  go_wp2_with (first | (go_at_call 182; refine (hw _).mono ?_; rintro e w' ⟨rfl, rfl⟩) | (go_at_call 148; refine (next_short r k a len cap pos er w (by omega) hR hp hlen (by omega)).mono ?_; rintro e w' ⟨rfl, q, rfl⟩))
  exact ⟨rfl, rfl, q, rfl⟩

set_option maxHeartbeats 1000000 in
set_option maxRecDepth 20000 in
theorem nextFixed_ok (r : Nat) (k : Nat) (a : Option Addr) (len cap : Nat) (bs : List UInt8) (pos : Nat) (er : Int) (w : World) (hk : 1 ≤ k ∧ k ≤ 8) (hR : Rd w r (.slice a len cap) pos er) (hr : Reads w (.slice a len cap) bs) (hs : pos + k ≤ bs.length) :
    Calls Tryz.prog 199 #[.pointer (some ⟨r, 0, none⟩), .int .i64 (k : Int)] w fun e w' => e = .returned (.int .u64 ((leNat ((bs.drop pos).take k) : Nat) : Int)) ∧ w.grownBy w' (some r) ∧ Rd w' r (.slice a len cap) (pos + k) er := by
  have hw := isWide_any (k : Int)
  rw [decide_eq_true (by omega)] at hw
  have hl : ((bs.drop pos).take k).length = k := by simp; omega
  have hnext := next_ok r k a len cap bs pos er w hR hr hs
  generalize (bs.drop pos).take k = cs at hl hnext
  subst hl
  go_enter Tryz.func199, Tryz.ntmps199
  go_wp2_with (first | (go_at_call 182; refine (hw _).mono ?_; rintro e w' ⟨rfl, rfl⟩))
  refine hnext.mono ?_
  rintro e w1 ⟨v, rfl, hg1, hR1, hrv, -⟩
  rcases hrv with ⟨_, rfl⟩ | ⟨b, off, cp, rfl, h1, h2, hcell⟩
  · exfalso; simp at hk
  unfold maxLen at h2
  have hC := Lib.hid hcell
  clear hcell
  go_wp2
  go_loop [5, 16] (fun vn vi => ∃ i : Nat, i ≤ cs.length ∧ vi = .int .i64 (i : Int) ∧ vn = .int .u64 ((leNat (cs.take i) : Nat) : Int)) (fun _ vi => cs.length - (RowKit.intOf vi).toNat)
  case atStart => exact ⟨0, Nat.zero_le _, rfl, rfl⟩
  case round =>
    obtain ⟨i, hi, rfl, rfl⟩ := hrel
    by_cases hlt : i < cs.length
    · have hcell := hC.out i _ (List.getElem?_eq_getElem hlt)
      have hsn := leNat_snoc (cs.take i) cs[i]
      rw [← List.take_succ_eq_append_getElem hlt, List.length_take, Nat.min_eq_left (by omega)] at hsn
      have hlt2 := leNat_lt (cs.take i)
      rw [List.length_take, Nat.min_eq_left (by omega)] at hlt2
      have ho := or8 (by omega) hlt2 cs[i].toNat_lt
      have hO := Lib.hid ho
      have hS := Lib.hid hsn
      have hi8 : i ≤ 7 := by omega
      have hb := cs[i].toNat_lt
      generalize cs[i].toNat = c at hcell hO hS hb
      clear ho hsn hlt2
      go_wp2
      refine ⟨⟨i + 1, by omega, by go_num, ?_⟩, by simp [RowKit.intOf]; omega⟩
      rw [hS.out]
      have h := hO.out.1
      simp only [Int.natCast_pow, Int.cast_ofNat_Int] at h
      exact congrArg (Value.int .u64) h
    · have hi2 : i = cs.length := by omega
      subst hi2
      rw [List.take_length]
      go_wp2
      go_ret
      exact ⟨rfl, hg1, hR1⟩
end Go.Proofs.YtpdacbiiaglodaaGreat

/-
  LAYER 2 (codec): ReadFixed, and the reader's Fixed.
-/
namespace Go.Proofs.YtpdacbiiaglodaaGreat
set_option maxRecDepth 100000
open Go.RowKit Go.Lib

theorem enters_ReadFixed1 (args : Array Value) (w : World) : (callFunc 198 args).run Tryz.prog w = .ok (.enter 198 args) w := by go_simp

set_option maxHeartbeats 1000000 in
theorem ReadFixed1_ok (p q : Nat) (r : Nat) (k : Nat) (a : Option Addr) (len cap : Nat) (bs : List UInt8) (pos : Nat) (er : Int) (w : World) (hp : w.cell? ⟨p, 0, none⟩ = some (.pointer (some ⟨r, 0, none⟩))) (hq : w.cell? ⟨q, 0, none⟩ = some (.int .i64 (k : Int))) (hk : 1 ≤ k ∧ k ≤ 8) (hR : Rd w r (.slice a len cap) pos er) (hr : Reads w (.slice a len cap) bs) (hs : pos + k ≤ bs.length) :
    Calls Tryz.prog 198 #[.pointer (some ⟨p, 0, none⟩), .pointer (some ⟨q, 0, none⟩)] w fun e w' => e = .returned (.int .u64 ((leNat ((bs.drop pos).take k) : Nat) : Int)) ∧ w.grownBy w' (some r) ∧ Rd w' r (.slice a len cap) (pos + k) er := by
  have hN := nextFixed_ok r k a len cap bs pos er w hk hR hr hs
  generalize leNat ((bs.drop pos).take k) = z at hN
  go_enter Tryz.func198, Tryz.ntmps198
  go_wp2_with (go_at_call 199; refine hN.mono ?_; rintro e w' ⟨rfl, hg, hR2⟩)
  go_ret
  exact ⟨rfl, hg, hR2⟩

set_option maxHeartbeats 1000000 in
theorem ReadFixed1_range (p q : Nat) (r : Nat) (x : Int) (vb : Value) (pos : Nat) (er : Int) (w : World) (hp : w.cell? ⟨p, 0, none⟩ = some (.pointer (some ⟨r, 0, none⟩))) (hq : w.cell? ⟨q, 0, none⟩ = some (.int .i64 x)) (hx : ¬ (1 ≤ x ∧ x ≤ 8)) (hR : Rd w r vb pos er) :
    Calls Tryz.prog 198 #[.pointer (some ⟨p, 0, none⟩), .pointer (some ⟨q, 0, none⟩)] w fun e w' => ∃ p, e = .panicked [{ v := .iface 228 (.int .i64 1), recovered := false }] ∧ w.grownBy w' (some r) ∧ Rd w' r vb p er := by
  have hN := nextFixed_range r x w hx
  clear hx
  go_enter Tryz.func198, Tryz.ntmps198
  go_wp2_with (go_at_call 199; refine hN.mono ?_; rintro e w' ⟨rfl, rfl⟩)
  exact ⟨rfl, pos, rfl, World.grownBy.refl _ _, hR⟩

set_option maxHeartbeats 1000000 in
theorem ReadFixed1_short (p q : Nat) (r : Nat) (k : Nat) (a : Option Addr) (len cap : Nat) (pos : Nat) (er : Int) (w : World) (hp : w.cell? ⟨p, 0, none⟩ = some (.pointer (some ⟨r, 0, none⟩))) (hq : w.cell? ⟨q, 0, none⟩ = some (.int .i64 (k : Int))) (hk : 1 ≤ k ∧ k ≤ 8) (hR : Rd w r (.slice a len cap) pos er) (hpl : pos ≤ len) (hlen : len ≤ maxLen) (hs : len < pos + k) :
    Calls Tryz.prog 198 #[.pointer (some ⟨p, 0, none⟩), .pointer (some ⟨q, 0, none⟩)] w fun e w' => ∃ p, e = .panicked [{ v := .iface 228 (.int .i64 20), recovered := false }] ∧ w.grownBy w' (some r) ∧ Rd w' r (.slice a len cap) p er := by
  have hN := nextFixed_short r k a len cap pos er w hk hR hpl hlen hs
  go_enter Tryz.func198, Tryz.ntmps198
  go_wp2_with (go_at_call 199; refine hN.mono ?_; rintro e w' ⟨rfl, j, rfl⟩)
  exact ⟨rfl, pos, rfl, gdrewN (World.grownBy.refl _ _) _, hR.drewN _⟩
def xRes (bs : List UInt8) (x : Int) : Nat × Nat × Int :=
  if 1 ≤ x ∧ x ≤ 8 then (if bs.length < x.toNat then (0, 0, 20) else (leNat (bs.take x.toNat), x.toNat, 0)) else (0, 0, 1)

set_option maxHeartbeats 1000000 in
theorem ReadFixed_any (a : Option Addr) (l c : Nat) (bs : List UInt8) (x : Int) (n m : Nat) (er : Int) (w : World) (hr : Reads w (.slice a l c) bs) (h : xRes bs x = (n, m, er)) :
    Calls Tryz.prog 173 #[.slice a l c, .int .i64 x] w fun e w' => e = .returned (.tuple #[.int .u64 (n : Int), .int .i64 (m : Int), .int .i64 er]) ∧ Below w.heap.size w w' := by
  have hmf : ∀ (fn : Fn) (first cap : Array Value) (w : World), (Instr.makeFunc fn first cap).run Tryz.prog w = .ok (.func fn first cap) w := fun _ _ _ _ => rfl
  obtain ⟨w0, hw0⟩ : ∃ w0, w0 = (((w.alloc (.cells #[.int .i64 x] 3)).alloc (.cells #[.bool true, .slice a l c, .int .i64 0, .int .i64 0] 214)).alloc (.cells #[.pointer (some ⟨w.heap.size + 1, 0, none⟩)] 179)) := ⟨_, rfl⟩
  have hg0 : w.grownBy w0 none := by rw [hw0]; exact galloc (galloc (World.grownBy_alloc w _ _) _) _
  have hr0 : Reads w0 (.slice a l c) bs := hr.new hg0
  have hR0 : Rd w0 (w.heap.size + 1) (.slice a l c) 0 0 := by
    rw [hw0]
    have := rd_made (.slice a l c) (w.alloc (.cells #[.int .i64 x] 3))
    rw [show (w.alloc (.cells #[.int .i64 x] 3)).heap.size = w.heap.size + 1 by simp] at this
    exact this.kept (World.grownBy_alloc _ _ none) (by simp)
  have hp0 : w0.cell? ⟨w.heap.size + 1 + 1, 0, none⟩ = some (.pointer (some ⟨w.heap.size + 1, 0, none⟩)) := by rw [hw0]; simp [go_sem]
  have hq0 : w0.cell? ⟨w.heap.size, 0, none⟩ = some (.int .i64 x) := by rw [hw0]; simp [go_sem]
  have hon : Calls Tryz.prog 196 #[.pointer (some ⟨w.heap.size + 1, 0, none⟩), .func (.func 198) #[] #[.pointer (some ⟨w.heap.size + 1 + 1, 0, none⟩), .pointer (some ⟨w.heap.size, 0, none⟩)]] w0 fun e w' => e = .returned (.int .u64 (n : Int)) ∧ Rd w' (w.heap.size + 1) (.slice a l c) m er ∧ w0.grownBy w' (some (w.heap.size + 1)) := by
    obtain ⟨rfl, hc, hm⟩ := hr.slice
    unfold xRes at h
    split at h
    · rename_i hx
      obtain ⟨k, rfl⟩ := Int.eq_ofNat_of_zero_le (show 0 ≤ x by omega)
      rw [Int.toNat_natCast] at h
      split at h
      · rename_i hsh
        simp only [Prod.mk.injEq] at h
        obtain ⟨rfl, rfl, rfl⟩ := h
        exact (on_bad_u64 (w.heap.size + 1) (.slice a bs.length c) 0 20 198 #[] #[.pointer (some ⟨w.heap.size + 1 + 1, 0, none⟩), .pointer (some ⟨w.heap.size, 0, none⟩)] w0 hR0 enters_ReadFixed1 (fun w2 hg => by rw [Array.empty_append]; exact ReadFixed1_short (w.heap.size + 1 + 1) w.heap.size (w.heap.size + 1) k a bs.length c 0 0 w2 (hg.cell hp0 (by simp)) (hg.cell hq0 (by simp)) (by omega) (hR0.new hg) (by omega) (by omega) (by omega))).mono fun e w' ⟨he, hg, hR⟩ => ⟨he, hR, hg⟩
      · rename_i hsh
        simp only [Prod.mk.injEq] at h
        obtain ⟨rfl, rfl, rfl⟩ := h
        refine (on_ok_u64 (w.heap.size + 1) (.slice a bs.length c) 0 198 #[] #[.pointer (some ⟨w.heap.size + 1 + 1, 0, none⟩), .pointer (some ⟨w.heap.size, 0, none⟩)] (fun v w' => v = .int .u64 ((leNat (bs.take k) : Nat) : Int) ∧ Rd w' (w.heap.size + 1) (.slice a bs.length c) k 0) w0 hR0 enters_ReadFixed1 (fun w2 hg => ?_)).mono fun e w' ⟨v, he, ⟨hv, hR⟩, hg⟩ => ⟨by rw [he, hv], hR, hg⟩
        rw [Array.empty_append]
        refine (ReadFixed1_ok (w.heap.size + 1 + 1) w.heap.size (w.heap.size + 1) k a bs.length c bs 0 0 w2 (hg.cell hp0 (by simp)) (hg.cell hq0 (by simp)) (by omega) (hR0.new hg) (hr0.new hg) (by omega)).mono ?_
        rintro e w3 ⟨rfl, hg3, hR3⟩
        rw [Nat.zero_add] at hR3
        rw [List.drop_zero]
        exact ⟨_, rfl, ⟨rfl, hR3⟩, hg3⟩
    · rename_i hx
      simp only [Prod.mk.injEq] at h
      obtain ⟨rfl, rfl, rfl⟩ := h
      exact (on_bad_u64 (w.heap.size + 1) (.slice a bs.length c) 0 1 198 #[] #[.pointer (some ⟨w.heap.size + 1 + 1, 0, none⟩), .pointer (some ⟨w.heap.size, 0, none⟩)] w0 hR0 enters_ReadFixed1 (fun w2 hg => by rw [Array.empty_append]; exact ReadFixed1_range (w.heap.size + 1 + 1) w.heap.size (w.heap.size + 1) x (.slice a bs.length c) 0 0 w2 (hg.cell hp0 (by simp)) (hg.cell hq0 (by simp)) hx (hR0.new hg))).mono fun e w' ⟨he, hg, hR⟩ => ⟨he, hR, hg⟩
  have hP := Lib.hid hp0
  rw [hw0] at hon
  clear h hp0 hq0 hR0 hr0
  go_enter Tryz.func173, Tryz.ntmps173
  go_wp2_with (go_at_call 144; refine (over_any a l c _).mono ?_; rintro e w' ⟨rfl, rfl⟩)
  refine hon.mono ?_
  rintro e w' ⟨rfl, hR, hg⟩
  rw [← hw0] at hg
  have h2 := hR.at
  have h3 := hR.err
  have h4 := hg.cell hP.out (by simp)
  have hB := gbelow (gnew hg0 hg (fun r' e => .inl (by simp at e; omega))) (Nat.le_refl _) (by simp)
  clear hw0 hP hg hg0 hR
  go_wp2
  go_quiet (fail)
  go_wp2
  go_ret3
  exact ⟨rfl, ⟨hB.os, hB.tape, hB.output, hB.size, hB.block⟩⟩
end Go.Proofs.YtpdacbiiaglodaaGreat
