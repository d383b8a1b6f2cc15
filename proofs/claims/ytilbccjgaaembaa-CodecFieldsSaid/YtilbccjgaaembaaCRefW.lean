/-
  LAYER 2's REFERENCE: what writes: Uint, Int, Field, Fields, Fixed.
-/
import Derived.Test.YtilbccjgaaembaaCInt
import Derived.Test.YtilbccjgaaembaaCFixed
import Derived.Test.YtilbccjgaaembaaCFieldsR
namespace Go.Proofs.Ytilbccjgaaembaa
set_option maxRecDepth 100000
open Go.RowKit Go.Lib

set_option maxHeartbeats 2000000 in
set_option maxRecDepth 100000 in
theorem refUint_any (x : Nat) (hx : x < 18446744073709551616) (w : World) :
    Calls Try.prog 18 #[.int .u64 (x : Int)] w fun e w' => ∃ v, e = .returned v ∧ Owns w' w.heap.size 5 v (Lib.uvarint x) ∧ w.grownBy w' none := by
  obtain ⟨i0, hi, hz0, hz1, hz2⟩ := info_parts infoU8
  have hlen := Lib.uvarint_length64 hx
  go_enter Try.func18, Try.ntmps18
  go_wp2
  go_loopw [3, 0] (fun vb vx wr => ∃ (y : Nat) (pre : List UInt8), vx = .int .u64 (y : Int) ∧ y ≤ x ∧ Hid (Lib.uvarint x = pre ++ Lib.uvarint y) ∧ wr.ownsRow w.heap.size 5 1 vb pre.length (Lib.byteCells pre) ∧ Below w.heap.size w wr)
    (fun _ vx _ => (RowKit.intOf vx).toNat)
  case atStart => exact ⟨x, [], rfl, Nat.le_refl _, rfl, World.ownsRow_nil _ _ _ _, Below.refl _ _⟩
  case round =>
    obtain ⟨y, pre, rfl, hy, hsp, hown1, hnx⟩ := hrel
    have hpl : pre.length + (Lib.uvarint y).length ≤ 10 := by
      have h2 := congrArg List.length hsp.out
      rw [List.length_append] at h2
      omega
    have hyp := Lib.uvarint_pos y
    by_cases h128 : 128 ≤ y
    · go_wp2_with (at_builtin; refine wpList_append_own _ rfl _ _ 23 rfl w.heap.size 5 i0 (.int .u8 0) 1 1 Try.underlying23 hi hz0 hz1 hz2 rfl (by decide) _ _ _ rfl (hown1.alloc _) ⟨wr.heap.size, 0, none⟩ 1 1 [Value.int .u8 ((y % 128 + 128 : Nat) : Int)] rfl rfl ?c1 ?c2 ?c3 ?c4 ?c5 ?_)
      case c1 =>
        intro j u hj
        match j, hj with
        | 0, hj =>
          simp at hj; subst hj
          simp [Addr.add]
      case c2 => intro u hu; simp at hu; subst hu; rfl
      case c3 => unfold maxLen; omega
      case c4 => omega
      case c5 => have := hnx.size; simp; omega
      intro v' w1 hown' hgrow _
      have hnx1 : Below w.heap.size w w1 := (hnx.alloc (by have := hnx.size; omega) _).grown hgrow (by have := hnx.size; simp; omega) (fun k hk => (hown1.lt k hk).1)
      go_wp2
      go_roundw
      case rel =>
        refine ⟨y / 128, pre ++ [(y % 128 + 128).toUInt8], by go_num, by omega, by show _ = _; rw [hsp.out, Lib.uvarint_big h128]; simp, ?_, hnx1⟩
        have ec : ((y % 128 + 128 : Nat) : Int) = (y : Int) % 128 + 128 := by omega
        rw [Lib.byteCells_snoc pre (by omega), List.length_append, List.length_singleton, ec]
        exact hown'
      case measure => simp [RowKit.intOf]; omega
    · have hsm : Lib.uvarint y = [y.toUInt8] := Lib.uvarint_small (by omega)
      go_wp2_with (at_builtin; refine wpList_append_own _ rfl _ _ 23 rfl w.heap.size 5 i0 (.int .u8 0) 1 1 Try.underlying23 hi hz0 hz1 hz2 rfl (by decide) _ _ _ rfl (hown1.alloc _) ⟨wr.heap.size, 0, none⟩ 1 1 [Value.int .u8 (y : Int)] rfl rfl ?c1 ?c2 ?c3 ?c4 ?c5 ?_)
      case c1 =>
        intro j u hj
        match j, hj with
        | 0, hj => simp at hj; subst hj; simp [Addr.add]
      case c2 => intro u hu; simp at hu; subst hu; rfl
      case c3 => unfold maxLen; omega
      case c4 => omega
      case c5 => have := hnx.size; simp; omega
      intro v' w1 hown' hgrow _
      have hnx1 : Below w.heap.size w w1 := (hnx.alloc (by have := hnx.size; omega) _).grown hgrow (by have := hnx.size; simp; omega) (fun k hk => (hown1.lt k hk).1)
      go_wp2
      go_ret
      refine ⟨v', rfl, ?_, belowg hnx1 _⟩
      unfold Owns
      rw [hsp.out, hsm, Lib.byteCells_snoc pre (by omega), List.length_append, List.length_singleton]
      exact hown'

set_option maxHeartbeats 1000000 in
theorem refInt_any (x : Int) (h0 : -9223372036854775808 ≤ x) (h1 : x ≤ 9223372036854775807) (w : World) :
    Calls Try.prog 19 #[.int .i64 x] w fun e w' => ∃ v, e = .returned v ∧ Owns w' w.heap.size 5 v (Lib.uvarint (zigzag x)) ∧ w.grownBy w' none := by
  have hu := refUint_any (zigzag x) (zigzag_lt x h0 h1)
  by_cases hx : x < 0
  · rw [zigzag_neg x hx] at hu
    go_enter Try.func19, Try.ntmps19
    go_wp2_with (go_at_call 18; refine (hu _).mono ?_; rintro e w' ⟨v, rfl, ho, hg⟩)
    go_ret
    exact ⟨v, rfl, ho, hg⟩
  · rw [zigzag_pos x hx] at hu
    go_enter Try.func19, Try.ntmps19
    go_wp2_with (go_at_call 18; refine (hu _).mono ?_; rintro e w' ⟨v, rfl, ho, hg⟩)
    go_ret
    exact ⟨v, rfl, ho, hg⟩

set_option maxHeartbeats 1000000 in
theorem refField_ok (f : List UInt8) (a : Option Addr) (l c : Nat) (w : World) (hr : Reads w (.slice a l c) f) (hlim : f.length ≤ 1048576) :
    Calls Try.prog 83 #[.slice a l c] w fun e w' => ∃ v, e = .returned (.tuple #[v, .int .i64 0]) ∧ Owns w' w.heap.size 5 v (field f) ∧ Below w.heap.size w w' := by
  obtain ⟨rfl, hc, hm⟩ := hr.slice
  obtain ⟨i0, hi, hz0, hz1, hz2⟩ := info_parts infoU8
  have hu := ulen_le (x := f.length) (by omega)
  unfold ulen at hu
  go_enter Try.func83, Try.ntmps83
  go_wp2_with (first | (go_at_call 18; refine (refUint_any f.length (by omega) _).mono ?_; rintro e w1 ⟨v1, rfl, ho1, hg1⟩; have hs1 := hg1.size) | (at_builtin; refine wpList_append_bytes _ rfl _ _ 23 rfl w.heap.size 5 i0 Try.underlying23 hi hz0 hz1 hz2 _ _ rfl ho1 _ f rfl (hr.new hg1) (by omega) hs1 ?_; intro v2 w2 ho2 hg2))
  go_ret2
  exact ⟨v2, rfl, ho2, gbelow (gnew hg1 hg2 (fun k hk => .inl (ho1.lt k hk).1)) (Nat.le_refl _) (by simp)⟩

set_option maxHeartbeats 1000000 in
theorem refField_long (a : Option Addr) (l c : Nat) (w : World) (hlim : 1048576 < l) :
    Calls Try.prog 83 #[.slice a l c] w fun e w' => e = .returned (.tuple #[.slice none 0 0, .int .i64 2]) ∧ w = w' := by
  go_enter Try.func83, Try.ntmps83
  go_wp2
  go_ret2
  exact ⟨rfl, rfl⟩

set_option maxHeartbeats 2000000 in
theorem refFields_ok (L : List (List UInt8)) (a : Option Addr) (l c : Nat) (w : World) (hr : ReadsL w (.slice a l c) L) (hlim : L.length ≤ 65536) (hall : ∀ f ∈ L, f.length ≤ 1048576) :
    Calls Try.prog 33 #[.slice a l c] w fun e w' => ∃ v, e = .returned (.tuple #[v, .int .i64 0]) ∧ Owns w' w.heap.size 5 v (fields L) ∧ Below w.heap.size w w' := by
  obtain ⟨rfl, hc, hm⟩ := hr.len
  obtain ⟨i0, hi, hz0, hz1, hz2⟩ := info_parts infoU8
  have hu := ulen_le (x := L.length) (by omega)
  have hall' := Lib.hid hall
  clear hall
  go_enter Try.func33, Try.ntmps33
  go_wp2_with (go_at_call 18; refine (refUint_any L.length (by omega) _).mono ?_; rintro e w1 ⟨v, rfl, ho, hg⟩)
  have hb0 : Below w.heap.size w w1 := gbelow hg (Nat.le_refl _) (by simp)
  clear hg
  go_loopw [4, 5] (fun vb vi wr => ∃ k : Nat, k ≤ L.length ∧ vi = .int .i64 (k : Int) ∧ Owns wr w.heap.size 5 vb (Lib.uvarint L.length ++ ((L.take k).map field).flatten) ∧ Below w.heap.size w wr) (fun _ vi _ => L.length - (RowKit.intOf vi).toNat)
  case atStart => exact ⟨0, Nat.zero_le _, rfl, by simpa using ho, hb0⟩
  case round =>
    obtain ⟨k, hk, rfl, ho2, hb2⟩ := hrel
    by_cases hlt : k < L.length
    · obtain ⟨b, off, v, rfl, hcell, hv⟩ := hr.get hlt
      obtain ⟨a', c', rfl⟩ := hv.form
      have hfl := hall'.out L[k] (List.getElem_mem _)
      have hfk2 := flen_le (L.take k) (fun f hf => hall'.out f (List.mem_of_mem_take hf))
      have hlk : (L.take k).length ≤ 65536 := by simp; omega
      have hlen : (Lib.uvarint L.length ++ ((L.take k).map field).flatten).length ≤ 10 + (L.take k).length * 1048586 := by
        rw [List.length_append, fields_len]
        unfold ulen at hu
        omega
      have hcell2 : wr.cell? ⟨b, off + k, none⟩ = some (.slice a' L[k].length c') := by
        rw [hb2.cell (p := ⟨b, off + k, none⟩) (World.block_lt_of_cell? w _ hcell)]; exact hcell
      clear hcell
      have hcall := refField_ok L[k] a' _ c' wr (hv.all hb2) hfl
      have hlf : (field L[k]).length ≤ 1048586 := by
        have := ulen_le (x := L[k].length) (by omega)
        simp only [field, List.length_append]; unfold ulen at this; omega
      have hS : Hid (((L.take (k + 1)).map field).flatten = ((L.take k).map field).flatten ++ field L[k]) := by
        show _ = _
        rw [List.take_succ_eq_append_getElem hlt]; simp only [List.map_append, List.flatten_append, List.map_cons, List.map_nil, List.flatten_cons, List.flatten_nil, List.append_nil]
      have hsz := hb2.size
      obtain ⟨P, hP⟩ : ∃ P, P = Lib.uvarint L.length ++ ((L.take k).map field).flatten := ⟨_, rfl⟩
      rw [← hP] at ho2 hlen
      have hPH := Lib.hid hP
      clear hP hfk2
      go_wp2_with (first | (go_at_call 83; refine hcall.mono ?_; rintro e w3 ⟨v3, rfl, ho3, hb3⟩; have hs3 := hb3.size) | (at_builtin; refine wpList_append_bytes _ rfl _ _ 23 rfl w.heap.size 5 i0 Try.underlying23 hi hz0 hz1 hz2 _ P rfl (ho2.kept (belowg hb3 none) (by cases u4.ownBlock <;> simp)) _ (field L[k]) rfl ho3.reads (by omega) (by omega) ?_; intro v4 w4 ho4 hg4))
      refine ⟨⟨k + 1, by omega, by go_num, ?_, ((hb2.trans (hb3.mono hsz)).grown hg4 (by omega) (fun q hq => (ho2.lt q hq).1))⟩, by simp [RowKit.intOf]; omega⟩
      rw [hS.out, ← List.append_assoc, ← hPH.out]
      exact ho4
    · have hkl : k = L.length := by omega
      subst hkl
      rw [List.take_length] at ho2
      go_wp2
      go_ret2
      exact ⟨_, rfl, ho2, hb2⟩
end Go.Proofs.Ytilbccjgaaembaa
