/-
  LAYER 2 (codec): a slice of slices that came in: an inner slice of no capacity may bear an address that leads to no cell. What Fields, Field, Same do there.
-/
import Derived.Test.YtilbccjgaaembaaCSame
import Derived.Test.YtilbccjgaaembaaCRefW
import Derived.Test.YtilbccjgaaembaaCShort
namespace Go.Proofs.Ytilbccjgaaembaa
set_option maxRecDepth 100000
open Go.RowKit Go.Lib
attribute [local go_sem] Oper.semAt_some

/-- It reads as bytes, or it is empty with an address. -/
def ReadsX (w : World) (v : Value) (bs : List UInt8) : Prop := Reads w v bs ∨ ∃ ad : Addr, v = .slice (some ad) 0 0 ∧ bs = []
def ReadsLX (w : World) (v : Value) (L : List (List UInt8)) : Prop :=
  ∃ vs : List Value, vs.length = L.length ∧ Row w v vs ∧ ∀ (i : Nat) (x : Value) (f : List UInt8), vs[i]? = some x → L[i]? = some f → ReadsX w x f
theorem ReadsX.all {w w' : World} {v : Value} {bs : List UInt8} (h : ReadsX w v bs) (hb : Below w.heap.size w w') : ReadsX w' v bs := h.imp (fun h => h.all hb) id
theorem ReadsX.new {w w' : World} {v : Value} {bs : List UInt8} (h : ReadsX w v bs) (hg : w.grownBy w' none) : ReadsX w' v bs := h.imp (fun h => h.new hg) id
theorem ReadsX.form {w : World} {v : Value} {bs : List UInt8} (h : ReadsX w v bs) : ∃ a cap, v = .slice a bs.length cap := by
  rcases h with h | ⟨ad, rfl, rfl⟩
  · exact h.form
  · exact ⟨some ad, 0, rfl⟩
theorem ReadsX.slice {w : World} {a : Option Addr} {l c : Nat} {bs : List UInt8} (h : ReadsX w (.slice a l c) bs) : l = bs.length ∧ l ≤ c ∧ c ≤ maxLen := by
  rcases h with h | ⟨ad, h, rfl⟩
  · exact h.slice
  · simp at h
    obtain ⟨rfl, rfl, rfl⟩ := h
    simp
theorem ReadsX.lt {w : World} {v : Value} {bs : List UInt8} (h : ReadsX w v bs) (hn : bs ≠ []) : ∀ k, v.ownBlock = some k → k < w.heap.size := by
  rcases h with h | ⟨ad, rfl, rfl⟩
  · exact h.lt hn
  · exact absurd rfl hn
theorem ReadsLX.all {w w' : World} {v : Value} {L : List (List UInt8)} (h : ReadsLX w v L) (hb : Below w.heap.size w w') : ReadsLX w' v L := by
  obtain ⟨vs, h1, h2, h3⟩ := h
  exact ⟨vs, h1, h2.all hb, fun i x f hx hf => (h3 i x f hx hf).all hb⟩
theorem ReadsLX.get {w : World} {a : Option Addr} {l c : Nat} {L : List (List UInt8)} (h : ReadsLX w (.slice a l c) L) {i : Nat} (hi : i < L.length) :
    ∃ b off v, a = some ⟨b, off, none⟩ ∧ w.cell? ⟨b, off + i, none⟩ = some v ∧ ReadsX w v L[i] := by
  obtain ⟨vs, h1, h2, h3⟩ := h
  rcases h2 with ⟨h, rfl⟩ | ⟨b, off, cap, h, h4, h5, hc⟩
  · simp at h1; omega
  · simp at h
    exact ⟨b, off, vs[i]'(by omega), h.1, hc i _ (List.getElem?_eq_getElem _), h3 i _ _ (List.getElem?_eq_getElem _) (List.getElem?_eq_getElem _)⟩
theorem ReadsLX.len {w : World} {a : Option Addr} {l c : Nat} {L : List (List UInt8)} (h : ReadsLX w (.slice a l c) L) : l = L.length ∧ l ≤ c ∧ c ≤ maxLen := by
  obtain ⟨vs, h1, h2, h3⟩ := h
  rcases h2 with ⟨h, rfl⟩ | ⟨b, off, cap, h, h4, h5, hc⟩
  · simp at h h1
    obtain ⟨rfl, rfl, rfl⟩ := h
    simp [← h1]
  · simp at h
    obtain ⟨rfl, rfl, rfl⟩ := h
    exact ⟨h1, h4, h5⟩

theorem conv_X {w : World} {v : Value} {bs : List UInt8} (h : ReadsX w v bs) : (convert 23 9 v).run Try.prog w = .ok (.string ⟨bs.toArray⟩) w := by
  rcases h with h | ⟨ad, rfl, rfl⟩
  · exact conv_of h
  · rw [run_convert_bytes_string w 23 9 5 _ 0 0 Try.underlying23 Try.underlying5 Try.underlying9]
    simp [Conv.bytesToString]
    rfl

/-- 'append(out, f...)' where f is empty and bears an address. -/
theorem wpList_append_void {P : Program} (w : World) {ops : Array Oper} {rest : List Oper} {o : Oper} {a : Act} {Q : Exit → Act → World → Prop} (hgd : o.guard = none) (s x : Operand) (t : TypeId)
    (ho : o.op = .call { callee := .builtin .append, args := #[s, x], argTypes := #[t, t] })
    (base : Nat) (e : TypeId) (i : TypeInfo) (ht : P.underlying t = some (.slice e)) (hi : P.info? e = some i) (hz : i.zero = some (.int .u8 0)) (hsize : i.size = 1) (hby : i.bytes = 1)
    (v : Value) (bs : List UInt8) (hs : a.eval s = v) (hown : Owns w base e v bs) (ad : Addr) (hx : a.eval x = .slice (some ad) 0 0)
    (hlim : bs.length ≤ 140737488355328) (hbase : base ≤ w.heap.size)
    (h : ∀ v' w', Owns w' base e v' bs → w.grownBy w' v.ownBlock → wpList P ops Q rest (a.put o.dst v') w') : wpList P ops Q (o :: rest) a w := by
  refine wpList_append_own w hgd s x t ho base e i (.int .u8 0) 1 1 ht hi hz hsize hby rfl (by decide) v bs.length (byteCells bs) hs hown ad 0 0 [] hx (by simp) (by simp) (by simp) (by unfold maxLen; omega) (by omega) hbase fun v' w' h2 h3 _ => h v' w' ?_ h3
  unfold Owns
  simpa using h2

set_option maxRecDepth 100000 in
set_option maxHeartbeats 1000000 in
theorem addField_X (B : Nat) (sv : Value) (bs f : List UInt8) (a : Option Addr) (l c : Nat) (w : World) (hown : Owns w B 5 sv bs) (hBw : B ≤ w.heap.size) (hr : ReadsX w (.slice a l c) f) (hB : f ≠ [] → ∀ k, (Value.slice a l c).ownBlock = some k → k < B) (hlim : bs.length + f.length + 10 ≤ 140737488355328) :
    Calls Try.prog 81 #[sv, .slice a l c] w fun e w' => ∃ v', e = .returned v' ∧ Owns w' B 5 v' (bs ++ field f) ∧ Below B w w' := by
  rcases hr with hr | ⟨ad, h, rfl⟩
  · exact addField_any B sv bs f a l c w hown hBw hr hB hlim
  · simp at h
    obtain ⟨rfl, rfl, rfl⟩ := h
    obtain ⟨i0, hi, hz0, hz1, hz2⟩ := info_parts infoU8
    have hul := ulen_le (x := 0) (by omega)
    unfold ulen at hul
    clear hB
    simp only [List.length_nil] at hlim
    go_enter Try.func81, Try.ntmps81
    go_wp2_with (first | (go_at_call 66; refine (addUint_any B 0 (by omega) sv bs _ hown hBw (by omega)).mono ?_; rintro e w1 ⟨v1, rfl, ho1, hb1⟩; have hs1 := hb1.size) | (at_builtin; refine wpList_append_void _ rfl _ _ 23 rfl B 5 i0 Try.underlying23 hi hz0 hz1 hz2 _ _ rfl ho1 ad rfl ?_ (by omega) ?_; (case _ => simp only [List.length_append]; omega); intro v2 w2 ho2 hg2))
    go_ret
    exact ⟨v2, rfl, by simpa [field] using ho2, hb1.grown hg2 (by omega) (fun k hk => (ho1.lt k hk).1)⟩

set_option maxRecDepth 100000 in
set_option maxHeartbeats 2000000 in
theorem Field_X (f : List UInt8) (a : Option Addr) (l c : Nat) (w : World) (hr : ReadsX w (.slice a l c) f) (hlim : f.length ≤ 1048576) :
    Calls Try.prog 31 #[.slice a l c] w fun e w' => ∃ v, e = .returned (.tuple #[v, .int .i64 0]) ∧ Owns w' w.heap.size 5 v (field f) ∧ Below w.heap.size w w' := by
  obtain ⟨rfl, hc, hm⟩ := hr.slice
  obtain ⟨i0, hi, hz0, hz1, hz2⟩ := info_parts infoU8
  have hu := ulen_le (x := f.length) (by omega)
  go_enter Try.func31, Try.ntmps31
  go_wp2_with (first | (go_at_call 82; refine (fieldLen_any a f.length c (by omega) _).mono ?_; rintro e w' ⟨rfl, rfl⟩) | (at_make; refine wpList_make_own _ rfl _ _ 23 rfl w.heap.size 5 i0 (.int .u8 0) 1 Try.underlying23 hi hz0 hz1 .i64 .i64 _ (ulen f.length + f.length) rfl rfl (by simp) (by rw [hz2]; omega) (by unfold maxLen; omega) (Nat.le_refl _) ?_; intro w0 hown0 hgrow0) | (go_at_call 81; refine (addField_X w.heap.size _ [] f a f.length c _ hown0 hgrow0.size (hr.new hgrow0) hr.lt (by simp; omega)).mono ?_; rintro e w' ⟨v, rfl, ho, hb⟩))
  go_ret2
  exact ⟨v, rfl, by simpa using ho, (gbelow hgrow0 (Nat.le_refl _) (by simp)).trans hb⟩

set_option maxRecDepth 100000 in
set_option maxHeartbeats 2000000 in
theorem Fields_okX (L : List (List UInt8)) (a : Option Addr) (l c : Nat) (w : World) (hr : ReadsLX w (.slice a l c) L) (hlim : L.length ≤ 65536) (hall : ∀ f ∈ L, f.length ≤ 1048576) :
    Calls Try.prog 32 #[.slice a l c] w fun e w' => ∃ v, e = .returned (.tuple #[v, .int .i64 0]) ∧ Owns w' w.heap.size 5 v (fields L) ∧ Below w.heap.size w w' := by
  obtain ⟨rfl, hc, hm⟩ := hr.len
  obtain ⟨i0, hi, hz0, hz1, hz2⟩ := info_parts infoU8
  have hu := ulen_le (x := L.length) (by omega)
  have hall' := Lib.hid hall
  clear hall
  go_enter Try.func32, Try.ntmps32
  go_wp2_with (go_at_call 67; refine (uintLen_any L.length (by omega) _).mono ?_; rintro e w' ⟨rfl, rfl⟩)
  go_loopw [5, 21] (fun vl vi wr => ∃ k : Nat, k ≤ L.length ∧ vi = .int .i64 (k : Int) ∧ vl = .int .i64 ((ulen L.length + flen (L.take k) : Nat) : Int) ∧ w = wr) (fun _ vi _ => L.length - (RowKit.intOf vi).toNat)
  case atStart => exact ⟨0, Nat.zero_le _, rfl, by simp [flen], rfl⟩
  case round =>
    obtain ⟨k, hk, rfl, rfl, rfl⟩ := hrel
    by_cases hlt : k < L.length
    · obtain ⟨b, off, v, rfl, hcell, hv⟩ := hr.get hlt
      obtain ⟨a', c', rfl⟩ := hv.form
      have hfl := hall'.out L[k] (List.getElem_mem _)
      have hu2 := ulen_le (x := L[k].length) (by omega)
      have hfk := flen_le (L.take k) (fun f hf => hall'.out f (List.mem_of_mem_take hf))
      have hlk : (L.take k).length ≤ 65536 := by simp; omega
      have hsn := flen_snoc (L.take k) L[k]
      rw [← List.take_succ_eq_append_getElem hlt] at hsn
      have hS := Lib.hid hsn
      clear hsn
      go_wp2_with (go_at_call 82; refine (fieldLen_any a' _ c' (by omega) _).mono ?_; rintro e w' ⟨rfl, rfl⟩)
      refine ⟨⟨k + 1, by omega, by go_num, ?_, by first | rfl | trivial⟩, by simp [RowKit.intOf]; omega⟩
      rw [hS.out]
      go_num
    · have hkl : k = L.length := by omega
      subst hkl
      rw [List.take_length]
      have hfk := flen_le L hall'.out
      go_wp2_with (first | (at_make; refine wpList_make_own _ rfl _ _ 23 rfl w.heap.size 5 i0 (.int .u8 0) 1 Try.underlying23 hi hz0 hz1 .i64 .i64 _ (ulen L.length + flen L) rfl rfl (by simp) (by rw [hz2]; omega) (by unfold maxLen; omega) (Nat.le_refl _) ?_; intro w0 hown0 hgrow0) | (go_at_call 66; refine (addUint_any w.heap.size L.length (by omega) _ [] _ hown0 hgrow0.size (by simp)).mono ?_; rintro e w1 ⟨v, rfl, ho, hb⟩))
      have hb0 : Below w.heap.size w w1 := (gbelow hgrow0 (Nat.le_refl _) (by simp)).trans hb
      clear hgrow0 hown0
      go_loopw [8, 39] (fun vb vi wr => ∃ k : Nat, k ≤ L.length ∧ vi = .int .i64 (k : Int) ∧ Owns wr w.heap.size 5 vb (Lib.uvarint L.length ++ ((L.take k).map field).flatten) ∧ Below w.heap.size w wr) (fun _ vi _ => L.length - (RowKit.intOf vi).toNat)
      case atStart => exact ⟨0, Nat.zero_le _, rfl, by simpa using ho, hb0⟩
      case round =>
        obtain ⟨k, hk, rfl, ho2, hb2⟩ := hrel
        by_cases hlt : k < L.length
        · obtain ⟨b, off, v, rfl, hcell, hv⟩ := hr.get hlt
          obtain ⟨a', c', rfl⟩ := hv.form
          have hfl := hall'.out L[k] (List.getElem_mem _)
          have hfk2 := flen_le (L.take k) (fun f hf => hall'.out f (List.mem_of_mem_take hf))
          have hlk : (L.take k).length ≤ 65536 := by simp; omega
          have hlen : (Lib.uvarint L.length ++ ((L.take k).map field).flatten).length ≤ 10 + (L.take k).length * 1048586 := by
            rw [List.length_append, fields_len]
            unfold ulen at hu
            omega
          have hcell2 : wr.cell? ⟨b, off + k, none⟩ = some (.slice a' L[k].length c') := by
            rw [hb2.cell (p := ⟨b, off + k, none⟩) (World.block_lt_of_cell? w _ hcell)]; exact hcell
          clear hcell
          have hcall := addField_X w.heap.size _ _ L[k] a' _ c' wr ho2 hb2.size (hv.all hb2) hv.lt (by omega)
          have hS : Hid (((L.take (k + 1)).map field).flatten = ((L.take k).map field).flatten ++ field L[k]) := by
            show _ = _
            rw [List.take_succ_eq_append_getElem hlt]; simp only [List.map_append, List.flatten_append, List.map_cons, List.map_nil, List.flatten_cons, List.flatten_nil, List.append_nil]
          clear hlen hfk2
          go_wp2_with (go_at_call 81; refine hcall.mono ?_; rintro e w3 ⟨v3, rfl, ho3, hb3⟩)
          refine ⟨⟨k + 1, by omega, by go_num, ?_, hb2.trans hb3⟩, by simp [RowKit.intOf]; omega⟩
          rw [hS.out, ← List.append_assoc]
          exact ho3
        · have hkl : k = L.length := by omega
          subst hkl
          rw [List.take_length] at ho2
          go_wp2
          go_ret2
          exact ⟨_, rfl, ho2, hb2⟩


set_option maxRecDepth 100000 in
set_option maxHeartbeats 1000000 in
theorem refField_X (f : List UInt8) (a : Option Addr) (l c : Nat) (w : World) (hr : ReadsX w (.slice a l c) f) (hlim : f.length ≤ 1048576) :
    Calls Try.prog 83 #[.slice a l c] w fun e w' => ∃ v, e = .returned (.tuple #[v, .int .i64 0]) ∧ Owns w' w.heap.size 5 v (field f) ∧ Below w.heap.size w w' := by
  rcases hr with hr | ⟨ad, h, rfl⟩
  · exact refField_ok f a l c w hr hlim
  · simp at h
    obtain ⟨rfl, rfl, rfl⟩ := h
    obtain ⟨i0, hi, hz0, hz1, hz2⟩ := info_parts infoU8
    have hu := ulen_le (x := 0) (by omega)
    unfold ulen at hu
    clear hlim
    go_enter Try.func83, Try.ntmps83
    go_wp2_with (first | (go_at_call 18; refine (refUint_any 0 (by omega) _).mono ?_; rintro e w1 ⟨v1, rfl, ho1, hg1⟩; have hs1 := hg1.size) | (at_builtin; refine wpList_append_void _ rfl _ _ 23 rfl w.heap.size 5 i0 Try.underlying23 hi hz0 hz1 hz2 _ _ rfl ho1 ad rfl (by omega) hs1 ?_; intro v2 w2 ho2 hg2))
    go_ret2
    exact ⟨v2, rfl, by simpa [field] using ho2, gbelow (gnew hg1 hg2 (fun k hk => .inl (ho1.lt k hk).1)) (Nat.le_refl _) (by simp)⟩

set_option maxRecDepth 100000 in
set_option maxHeartbeats 2000000 in
theorem refFields_okX (L : List (List UInt8)) (a : Option Addr) (l c : Nat) (w : World) (hr : ReadsLX w (.slice a l c) L) (hlim : L.length ≤ 65536) (hall : ∀ f ∈ L, f.length ≤ 1048576) :
    Calls Try.prog 33 #[.slice a l c] w fun e w' => ∃ v, e = .returned (.tuple #[v, .int .i64 0]) ∧ Owns w' w.heap.size 5 v (fields L) ∧ Below w.heap.size w w' := by
  obtain ⟨rfl, hc, hm⟩ := hr.len
  obtain ⟨i0, hi, hz0, hz1, hz2⟩ := info_parts infoU8
  have hu := ulen_le (x := L.length) (by omega)
  have hall' := Lib.hid hall
  clear hall
  go_enter Try.func33, Try.ntmps33
  go_wp2_with (go_at_call 18; refine (refUint_any L.length (by omega) _).mono ?_; rintro e w1 ⟨v, rfl, ho, hg⟩)
  have hb0 : Below w.heap.size w w1 := gbelow hg (Nat.le_refl _) (by simp)
  clear hg
  go_loopw [4, 5] (fun vb vi wr => ∃ k : Nat, k ≤ L.length ∧ vi = .int .i64 (k : Int) ∧ Owns wr w.heap.size 5 vb (Lib.uvarint L.length ++ ((L.take k).map field).flatten) ∧ Below w.heap.size w wr) (fun _ vi _ => L.length - (RowKit.intOf vi).toNat)
  case atStart => exact ⟨0, Nat.zero_le _, rfl, by simpa using ho, hb0⟩
  case round =>
    obtain ⟨k, hk, rfl, ho2, hb2⟩ := hrel
    by_cases hlt : k < L.length
    · obtain ⟨b, off, v, rfl, hcell, hv⟩ := hr.get hlt
      obtain ⟨a', c', rfl⟩ := hv.form
      have hfl := hall'.out L[k] (List.getElem_mem _)
      have hfk2 := flen_le (L.take k) (fun f hf => hall'.out f (List.mem_of_mem_take hf))
      have hlk : (L.take k).length ≤ 65536 := by simp; omega
      have hlen : (Lib.uvarint L.length ++ ((L.take k).map field).flatten).length ≤ 10 + (L.take k).length * 1048586 := by
        rw [List.length_append, fields_len]
        unfold ulen at hu
        omega
      have hcell2 : wr.cell? ⟨b, off + k, none⟩ = some (.slice a' L[k].length c') := by
        rw [hb2.cell (p := ⟨b, off + k, none⟩) (World.block_lt_of_cell? w _ hcell)]; exact hcell
      clear hcell
      have hcall := refField_X L[k] a' _ c' wr (hv.all hb2) hfl
      have hlf : (field L[k]).length ≤ 1048586 := by
        have := ulen_le (x := L[k].length) (by omega)
        simp only [field, List.length_append]; unfold ulen at this; omega
      have hS : Hid (((L.take (k + 1)).map field).flatten = ((L.take k).map field).flatten ++ field L[k]) := by
        show _ = _
        rw [List.take_succ_eq_append_getElem hlt]; simp only [List.map_append, List.flatten_append, List.map_cons, List.map_nil, List.flatten_cons, List.flatten_nil, List.append_nil]
      have hsz := hb2.size
      obtain ⟨P, hP⟩ : ∃ P, P = Lib.uvarint L.length ++ ((L.take k).map field).flatten := ⟨_, rfl⟩
      rw [← hP] at ho2 hlen
      have hPH := Lib.hid hP
      clear hP hfk2
      go_wp2_with (first | (go_at_call 83; refine hcall.mono ?_; rintro e w3 ⟨v3, rfl, ho3, hb3⟩; have hs3 := hb3.size) | (at_builtin; refine wpList_append_bytes _ rfl _ _ 23 rfl w.heap.size 5 i0 Try.underlying23 hi hz0 hz1 hz2 _ P rfl (ho2.kept (belowg hb3 none) (by cases u4.ownBlock <;> simp)) _ (field L[k]) rfl ho3.reads (by omega) (by omega) ?_; intro v4 w4 ho4 hg4))
      refine ⟨⟨k + 1, by omega, by go_num, ?_, ((hb2.trans (hb3.mono hsz)).grown hg4 (by omega) (fun q hq => (ho2.lt q hq).1))⟩, by simp [RowKit.intOf]; omega⟩
      rw [hS.out, ← List.append_assoc, ← hPH.out]
      exact ho4
    · have hkl : k = L.length := by omega
      subst hkl
      rw [List.take_length] at ho2
      go_wp2
      go_ret2
      exact ⟨_, rfl, ho2, hb2⟩
set_option maxRecDepth 100000 in
set_option maxHeartbeats 2000000 in
theorem refSame_X (a : Option Addr) (l c : Nat) (b : Option Addr) (l2 c2 : Nat) (L : List (List UInt8)) (w : World) (ha : ReadsL w (.slice a l c) L) (hb : ReadsLX w (.slice b l2 c2) L) :
    Calls Try.prog 30 #[.slice a l c, .slice b l2 c2] w fun e w' => e = .returned (.bool true) ∧ ∃ m, w' = w.drewN m := by
  obtain ⟨rfl, hc, hm⟩ := ha.len
  obtain ⟨rfl, hc2, hm2⟩ := hb.len
  unfold maxLen at hm hm2
  go_enter Try.func30, Try.ntmps30
  go_wp2
  go_loopw [5] (fun vi wr => ∃ i p : Nat, vi = .int .i64 (i : Int) ∧ i ≤ L.length ∧ wr = w.drewN p) (fun vi _ => L.length - (RowKit.intOf vi).toNat)
  case atStart => exact ⟨0, 0, rfl, Nat.zero_le _, rfl⟩
  case round =>
    obtain ⟨i, p, rfl, hi, rfl⟩ := hrel
    by_cases hlt : i < L.length
    · obtain ⟨b1, o1, v1, rfl, k1, hr1⟩ := ha.get hlt
      obtain ⟨b2, o2, v2, rfl, k2, hr2⟩ := hb.get hlt
      obtain ⟨F, hF⟩ : ∃ F, L[i] = F := ⟨_, rfl⟩
      rw [hF] at hr1 hr2
      obtain ⟨a1, c1, rfl⟩ := hr1.form
      obtain ⟨a2, c2', rfl⟩ := hr2.form
      have q1 := fun n => conv_of (hr1.new (gdrewN (World.grownBy.refl w none) n))
      have q2 := fun n => conv_X (hr2.new (gdrewN (World.grownBy.refl w none) n))
      have hFF : (F != F) = false := by simp
      clear hr1 hr2 hF ha hb
      go_wp2
      go_quiet (fail)
      go_wp2
      go_roundw
      case rel => exact ⟨i + 1, _, by go_num, by omega, rfl⟩
      case measure => simp [RowKit.intOf]; omega
    · clear ha hb
      go_wp2
      go_ret
      exact ⟨rfl, p, rfl⟩

end Go.Proofs.Ytilbccjgaaembaa
