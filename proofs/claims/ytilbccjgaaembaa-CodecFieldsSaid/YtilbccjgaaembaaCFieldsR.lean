/-
  LAYER 2 (codec): nextFields, ReadFields.
-/
import Derived.Test.YtilbccjgaaembaaCField
import Derived.RegionTactic
namespace Go.Proofs.Ytilbccjgaaembaa
set_option maxRecDepth 100000
open Go.RowKit Go.Lib

theorem infoBs : (Try.prog.info? 23).map (fun i => (i.zero, i.size, i.bytes)) = some (some (.slice none 0 0), 1, 24) := by kernel_rfl

/-- The call owns a list of lists of bytes: the row, and each of its elements. -/
def OwnsL (w : World) (B : Nat) (v : Value) (L : List (List UInt8)) : Prop :=
  ∃ vs : List Value, vs.length = L.length ∧ w.ownsRow B 23 1 v vs.length vs ∧ ∀ (i : Nat) (x : Value) (f : List UInt8), vs[i]? = some x → L[i]? = some f → Owns w B 5 x f

theorem row_of_owns {w : World} {B : Nat} {e : TypeId} {v : Value} {vs : List Value} (h : w.ownsRow B e 1 v vs.length vs) : Row w v vs := by
  have h0 := h
  obtain ⟨_, ⟨rfl, hn⟩ | ⟨g, cap, cur, rfl, hB, hg, hn, hc, hs, ht⟩⟩ := h
  · exact .inl ⟨rfl, List.length_eq_zero_iff.1 hn⟩
  · refine .inr ⟨g, 0, cap, rfl, hn, hc, fun i u hu => ?_⟩
    have hi : i < vs.length := (List.getElem?_eq_some_iff.1 hu).1
    rw [Nat.zero_add, World.ownsRow.cellAt h0 i (by omega), hu]
theorem OwnsL.reads {w : World} {B : Nat} {v : Value} {L : List (List UInt8)} (h : OwnsL w B v L) : ReadsL w v L := by
  obtain ⟨vs, h1, h2, h3⟩ := h
  exact ⟨vs, h1, row_of_owns h2, fun i x f hx hf => (h3 i x f hx hf).reads⟩
theorem ReadsL.form {w : World} {v : Value} {L : List (List UInt8)} (h : ReadsL w v L) : ∃ a l c, v = .slice a l c := by
  obtain ⟨vs, h1, h2, h3⟩ := h
  rcases h2 with ⟨rfl, _⟩ | ⟨b, off, cap, rfl, _⟩
  · exact ⟨_, _, _, rfl⟩
  · exact ⟨_, _, _, rfl⟩
/-- A row of bytes and a row of slices lie in two blocks. -/
theorem rows_apart {w : World} {B B' : Nat} {x v : Value} {f : List UInt8} {k : Nat} {vs : List Value} (h : Owns w B 5 x f) (h' : w.ownsRow B' 23 1 v k vs) : x.ownBlock = none ∨ x.ownBlock ≠ v.ownBlock := by
  obtain ⟨_, ⟨rfl, hn⟩ | ⟨g, cap, cur, rfl, hB, hg, _⟩⟩ := h
  · left; rfl
  · obtain ⟨_, ⟨rfl, hn⟩ | ⟨g', cap', cur', rfl, hB', hg', _⟩⟩ := h'
    · right; simp [Value.ownBlock]
    · right
      intro e
      simp [Value.ownBlock] at e
      subst e
      rw [hg] at hg'
      simp at hg'
theorem OwnsL.kept {w w' : World} {B : Nat} {v : Value} {L : List (List UInt8)} {r : Nat} (h : OwnsL w B v L) (hg : w.grownBy w' (some r)) (hr : r < B) : OwnsL w' B v L := by
  obtain ⟨vs, h1, h2, h3⟩ := h
  have ne : ∀ {x : Value}, (∀ k, x.ownBlock = some k → B ≤ k ∧ k < w.heap.size) → x.ownBlock = none ∨ x.ownBlock ≠ some r := fun {x} hx => by
    right; intro e; have := hx r e; omega
  exact ⟨vs, h1, h2.kept hg (ne h2.lt), fun i x f hx hf => (h3 i x f hx hf).kept hg (ne (h3 i x f hx hf).lt)⟩
theorem OwnsL.new {w w' : World} {B : Nat} {v : Value} {L : List (List UInt8)} (h : OwnsL w B v L) (hg : w.grownBy w' none) : OwnsL w' B v L := by
  obtain ⟨vs, h1, h2, h3⟩ := h
  exact ⟨vs, h1, h2.kept hg (by cases v.ownBlock <;> simp), fun i x f hx hf => (h3 i x f hx hf).new hg⟩
theorem OwnsL.mono {w : World} {B B' : Nat} {v : Value} {L : List (List UInt8)} (h : OwnsL w B v L) (hB : B' ≤ B) : OwnsL w B' v L := by
  obtain ⟨vs, h1, h2, h3⟩ := h
  refine ⟨vs, h1, ?_, fun i x f hx hf => (h3 i x f hx hf).mono hB⟩
  obtain ⟨h1, h2 | ⟨g, cap, cur, hv, hb, r⟩⟩ := h2
  · exact ⟨h1, .inl h2⟩
  · exact ⟨h1, .inr ⟨g, cap, cur, hv, by omega, r⟩⟩
/-- One more field behind. -/
theorem OwnsL.snoc {w w' : World} {B : Nat} {v v' x : Value} {vs : List Value} {L : List (List UInt8)} {f : List UInt8} (h1 : vs.length = L.length) (h2 : w.ownsRow B 23 1 v vs.length vs)
    (h3 : ∀ (i : Nat) (x : Value) (f : List UInt8), vs[i]? = some x → L[i]? = some f → Owns w B 5 x f) (hx : Owns w B 5 x f) (hg : w.grownBy w' v.ownBlock) (h4 : w'.ownsRow B 23 1 v' (vs.length + 1) (vs ++ [x])) : OwnsL w' B v' (L ++ [f]) := by
  refine ⟨vs ++ [x], by simp [h1], by simpa using h4, fun i y g hy hg' => ?_⟩
  have hk : ∀ {y : Value} {g : List UInt8}, Owns w B 5 y g → Owns w' B 5 y g := fun h => h.kept hg (rows_apart h h2)
  rcases Nat.lt_or_ge i vs.length with hi | hi
  · rw [List.getElem?_append_left hi] at hy
    rw [List.getElem?_append_left (by omega)] at hg'
    exact hk (h3 i y g hy hg')
  · rw [List.getElem?_append_right hi] at hy
    rw [List.getElem?_append_right (by omega)] at hg'
    rcases hq : i - vs.length with _ | q
    · rw [hq] at hy
      rw [← h1, hq] at hg'
      simp at hy hg'
      subst hy; subst hg'
      exact hk hx
    · rw [hq] at hy; simp at hy

set_option maxHeartbeats 4000000 in
set_option maxRecDepth 100000 in
theorem nextFields_ok (r : Nat) (a : Option Addr) (len cap : Nat) (bs : List UInt8) (pos : Nat) (er : Int) (L : List (List UInt8)) (m : Nat) (w : World) (hR : Rd w r (.slice a len cap) pos er) (hr : Reads w (.slice a len cap) bs) (hs : pos ≤ bs.length) (hrd : rdFields (bs.drop pos) = .ok (L, m)) :
    Calls Try.prog 80 #[.pointer (some ⟨r, 0, none⟩)] w fun e w' => ∃ v, e = .returned v ∧ OwnsL w' w.heap.size v L ∧ w.grownBy w' (some r) ∧ Rd w' r (.slice a len cap) (pos + m) er := by
  obtain ⟨rfl, hc, hm⟩ := hr.slice
  unfold maxLen at hm
  unfold rdFields at hrd
  split at hrd
  · cases hrd
  rename_i n k h'
  split at hrd
  · cases hrd
  rename_i L' m' hmany
  simp only [Except.ok.injEq, Prod.mk.injEq] at hrd
  obtain ⟨rfl, rfl⟩ := hrd
  have hl := rdLen_lt h'
  obtain ⟨hn, hk1, hk, _⟩ := hl
  have hml := rdMany_lt _ _ _ _ hmany
  simp only [List.length_drop] at hk hml
  obtain ⟨hL, hm', hkm⟩ := hml
  have hH := Lib.hid h'
  have hM := Lib.hid hmany
  clear h' hmany
  have hmin : min (n : Int) ((bs.length : Int) - ((pos : Int) + (k : Int))) = (n : Int) := by omega
  have hLh := Lib.hid hL
  clear hL
  have hmk : ∃ X : Array Value, X.size = n ∧ ∀ w : World, (Instr.makeSlice 47 (.int .i64 0) (.int .i64 (n : Int))).run Try.prog w = .ok (.slice (some ⟨w.heap.size, 0, none⟩) 0 n) (w.alloc (.cells X 23)) := by
    obtain ⟨i0, hi, hz0, hz1, hz2⟩ := info_parts infoBs
    refine ⟨madeCells (Value.slice none 0 0).cells (n * 1), by rw [size_madeCells]; omega, fun w => ?_⟩
    have := run_make (P := Try.prog) w 47 23 i0 _ Try.underlying47 hi hz0 .i64 .i64 0 (n : Int) (by omega) (by omega) (by rw [hz2]; omega) (by omega)
    rw [this, hz1]
    rfl
  obtain ⟨X, hXs, hmk⟩ := hmk
  have hXh := Lib.hid hXs
  clear hXs
  go_enter Try.func80, Try.ntmps80
  go_wp2_with (go_at_call 103; refine (nextLen_ok_65536 r a _ cap bs pos er n k w hR hr hs hH.out).mono ?_; rintro e w1 ⟨rfl, hg1, hR1⟩)
  have hb1 := hR1.bytes
  have ha1 := hR1.at
  go_wp2
  go_region
  go_wp2
  obtain ⟨i0, hi, hz0, hz1, hz2⟩ := info_parts infoBs
  have hg2 : w.grownBy (w1.alloc (.cells X 23)).drew (some r) := gdrew (galloc hg1 _)
  have hR2 : Rd (w1.alloc (.cells X 23)).drew r (.slice a bs.length cap) (pos + k) er := Rd.new hR1 (gdrew (World.grownBy_alloc w1 _ _))
  have hown2 : (w1.alloc (.cells X 23)).drew.ownsRow w.heap.size 23 1 (.slice (some ⟨w1.heap.size, 0, none⟩) 0 n) 0 [] :=
    World.ownsRow_made (base := w.heap.size) (e := 23) (size := 1) w1 X n hg1.size (by unfold maxLen; omega) (by rw [hXh.out]; omega)
  obtain ⟨w2, hw2⟩ : ∃ w2, w2 = (w1.alloc (.cells X 23)).drew := ⟨_, rfl⟩
  rw [← hw2] at hg2 hR2 hown2 ⊢
  clear hw2 hmk hR1 hb1 ha1 hmin
  go_loopw [4, 21] (fun vb vi wr => ∃ (j : Nat) (vs : List Value) (pre rest : List (List UInt8)) (p mr : Nat), vi = .int .i64 (j : Int) ∧ j = pre.length ∧ Hid (L' = pre ++ rest) ∧ Hid (rdMany rest.length (bs.drop p) = .ok (rest, mr)) ∧ Hid (p + mr = pos + (k + m')) ∧ p ≤ bs.length ∧ w.grownBy wr (some r) ∧ Rd wr r (.slice a bs.length cap) p er ∧ Hid (vs.length = pre.length) ∧ wr.ownsRow w.heap.size 23 1 vb vs.length vs ∧ Hid (∀ (i : Nat) (x : Value) (f : List UInt8), vs[i]? = some x → pre[i]? = some f → Owns wr w.heap.size 5 x f)) (fun _ vi _ => n - (RowKit.intOf vi).toNat)
  case atStart =>
    refine ⟨0, [], [], L', pos + k, m', rfl, rfl, rfl, ?_, Nat.add_assoc _ _ _, by omega, hg2, hR2, rfl, hown2, fun i x f hx _ => by simp at hx⟩
    have := hM.out
    rw [← hLh.out] at this
    rw [List.drop_drop] at this
    exact this
  case round =>
    obtain ⟨j, vs, pre, rest, p, mr, rfl, rfl, hLL, hRM, hP, hp, hg, hR3, hvs, hown, hall⟩ := hrel
    have hnl : n = pre.length + rest.length := by rw [← hLh.out, hLL.out, List.length_append]
    cases rest with
    | nil =>
      have hnp : n = pre.length := by simpa using hnl
      clear hnl
      have hge : (n : Int) ≤ (pre.length : Int) := by omega
      have h1 := hRM.out
      simp only [rdMany, List.length_nil, Except.ok.injEq, Prod.mk.injEq, true_and] at h1
      have hP1 := hP.out
      have hpp : p = pos + (k + m') := by omega
      have hLe : L' = pre := by have := hLL.out; simpa using this
      have HP := Lib.hid hpp
      have HL := Lib.hid hLe
      clear hnp h1 hP1 hpp hLe
      go_wp2
      go_ret
      refine ⟨_, rfl, ?_, hg, ?_⟩
      · rw [HL.out]; exact ⟨vs, hvs.out, hown, hall.out⟩
      · rw [← HP.out]; exact hR3
    | cons f rest' =>
      have h1 := hRM.out
      rw [List.length_cons, rdMany] at h1
      split at h1
      · cases h1
      rename_i f1 m1 hf1
      split at h1
      · cases h1
      rename_i l2 m2 hl2
      simp only [Except.ok.injEq, Prod.mk.injEq, List.cons.injEq] at h1
      obtain ⟨⟨rfl, rfl⟩, rfl⟩ := h1
      have hfl := rdField_lt hf1
      simp only [List.length_drop] at hfl
      have hlt : (pre.length : Int) < (n : Int) := by rw [hnl]; simp only [List.length_cons]; omega
      have hnn : pre.length + 1 ≤ n := by omega
      have hc := nextField_ok r a _ cap bs p er f1 m1 wr hR3 (hR.carry hr hg) hp hf1
      have HL := Lib.hid hnl
      have HF := Lib.hid hf1
      have H2 := Lib.hid hl2
      clear hnl hf1 hl2
      have hvl : vs.length ≤ 65536 := by rw [hvs.out]; omega
      have hrlt := hR.lt
      have hblk : ∀ {x : Value}, (∀ k, x.ownBlock = some k → w.heap.size ≤ k ∧ k < wr.heap.size) → x.ownBlock = none ∨ x.ownBlock ≠ some r := fun {x} hx => by
        right; intro e; have := hx r e; omega
      have hws := hg.size
      go_wp2_with (first | (go_at_call 78; refine hc.mono ?_; rintro e w3 ⟨v3, rfl, ho3, hg3, hR4⟩; have hown3 := hown.kept hg3 (hblk hown.lt); obtain ⟨a3, c3, rfl⟩ := ho3.reads.form) | (at_builtin; refine wpList_append_own _ rfl _ _ 47 rfl w.heap.size 23 i0 (.slice none 0 0) 1 24 Try.underlying47 hi hz0 hz1 hz2 rfl (by decide) _ _ _ rfl (hown3.alloc _) ⟨w3.heap.size, 0, none⟩ 1 1 [.slice a3 f1.length c3] rfl rfl ?c1 ?c2 ?c3 ?c4 ?c5 ?_))
      case c1 =>
        intro j u hj
        match j, hj with
        | 0, hj => simp at hj; subst hj; simp [Addr.add]
      case c2 =>
        intro u hu; simp at hu; subst hu; rfl
      case c3 => unfold maxLen; omega
      case c4 => omega
      case c5 => have := hg3.size; simp; omega
      intro v' w4 hown4 hg4 _
      have hall3 : Hid (∀ (i : Nat) (x : Value) (f : List UInt8), vs[i]? = some x → pre[i]? = some f → Owns (w3.alloc (.cells #[.slice a3 f1.length c3] 23)) w.heap.size 5 x f) := fun i x f hx hf =>
        (((hall.out i x f hx hf).kept hg3 (hblk (hall.out i x f hx hf).lt))).new (World.grownBy_alloc _ _ _)
      have hsn := OwnsL.snoc (L := pre) hvs.out (hown3.alloc _) hall3.out ((ho3.mono hws).new (World.grownBy_alloc _ _ _)) hg4 hown4
      obtain ⟨vs', hv1, hv2, hv3⟩ := hsn
      have hv3' := Lib.hid hv3
      have hv1' := Lib.hid hv1
      have hg5 : w.grownBy w4 (some r) := gnew (galloc (hg.trans hg3) _) hg4 (fun q hq => by have := hown.lt q; have := hown3.lt q hq; left; omega)
      have hR5 : Rd w4 r (.slice a bs.length cap) (p + m1) er := (hR4.new (World.grownBy_alloc _ _ none)).kept hg4 (fun e => by have := hown3.lt r e; omega)
      have hP' : Hid (p + m1 + m2 = pos + (k + m')) := by have := hP.out; show _ = _; omega
      have hLL' : Hid (L' = (pre ++ [f1]) ++ l2) := by have := hLL.out; show _ = _; rw [this, List.append_assoc]; rfl
      have hRM' : Hid (rdMany l2.length (bs.drop (p + m1)) = .ok (l2, m2)) := by have := H2.out; rw [List.drop_drop] at this; exact this
      clear hv3 hv1 hall3 hown3 hown4 hg4
      go_wp2
      exact ⟨⟨pre.length + 1, vs', pre ++ [f1], l2, p + m1, m2, by go_num, by simp, hLL', hRM', hP', by omega, hg5, hR5, hv1', hv2, hv3'⟩, by simp [RowKit.intOf]; omega⟩

set_option maxHeartbeats 4000000 in
set_option maxRecDepth 100000 in
theorem nextFields_bad (r : Nat) (a : Option Addr) (len cap : Nat) (bs : List UInt8) (pos : Nat) (er : Int) (x : Int) (w : World) (hR : Rd w r (.slice a len cap) pos er) (hr : Reads w (.slice a len cap) bs) (hs : pos ≤ bs.length) (hrd : rdFields (bs.drop pos) = .error x) :
    Calls Try.prog 80 #[.pointer (some ⟨r, 0, none⟩)] w fun e w' => ∃ p, e = .panicked [{ v := .iface 131 (.int .i64 x), recovered := false }] ∧ w.grownBy w' (some r) ∧ Rd w' r (.slice a len cap) p er := by
  obtain ⟨rfl, hc, hm⟩ := hr.slice
  unfold maxLen at hm
  unfold rdFields at hrd
  split at hrd
  · rename_i x' h'
    simp only [Except.error.injEq] at hrd
    subst hrd
    have hH := Lib.hid h'
    clear h'
    go_enter Try.func80, Try.ntmps80
    go_wp2_with (go_at_call 103; refine (nextLen_bad_65536 r a _ cap bs pos er x' w hR hr hs hH.out).mono ?_; rintro e w1 ⟨p, rfl, hg1, hR1⟩)
    exact ⟨rfl, p, rfl, hg1, hR1⟩
  rename_i n k h'
  split at hrd
  rotate_left
  · cases hrd
  rename_i x' hmany
  simp only [Except.error.injEq] at hrd
  subst hrd
  have hl := rdLen_lt h'
  obtain ⟨hn, hk1, hk, _⟩ := hl
  simp only [List.length_drop] at hk
  rw [List.drop_drop] at hmany
  have hH := Lib.hid h'
  have hM := Lib.hid hmany
  clear h' hmany
  obtain ⟨K, hK0, hK1, hmin⟩ : ∃ K : Nat, K ≤ n ∧ K ≤ bs.length ∧ min (n : Int) ((bs.length : Int) - ((pos : Int) + (k : Int))) = (K : Int) := ⟨min n (bs.length - (pos + k)), by omega, by omega, by omega⟩
  have hmk : ∃ X : Array Value, X.size = K ∧ ∀ w : World, (Instr.makeSlice 47 (.int .i64 0) (.int .i64 (K : Int))).run Try.prog w = .ok (.slice (some ⟨w.heap.size, 0, none⟩) 0 K) (w.alloc (.cells X 23)) := by
    obtain ⟨i0, hi, hz0, hz1, hz2⟩ := info_parts infoBs
    refine ⟨madeCells (Value.slice none 0 0).cells (K * 1), by rw [size_madeCells]; omega, fun w => ?_⟩
    have := run_make (P := Try.prog) w 47 23 i0 _ Try.underlying47 hi hz0 .i64 .i64 0 (K : Int) (by omega) (by omega) (by rw [hz2]; omega) (by omega)
    rw [this, hz1]
    rfl
  obtain ⟨X, hXs, hmk⟩ := hmk
  have hXh := Lib.hid hXs
  clear hXs
  go_enter Try.func80, Try.ntmps80
  go_wp2_with (go_at_call 103; refine (nextLen_ok_65536 r a _ cap bs pos er n k w hR hr hs hH.out).mono ?_; rintro e w1 ⟨rfl, hg1, hR1⟩)
  have hb1 := hR1.bytes
  have ha1 := hR1.at
  go_wp2
  go_region
  go_wp2
  obtain ⟨i0, hi, hz0, hz1, hz2⟩ := info_parts infoBs
  have hg2 : w.grownBy (w1.alloc (.cells X 23)).drew (some r) := gdrew (galloc hg1 _)
  have hR2 : Rd (w1.alloc (.cells X 23)).drew r (.slice a bs.length cap) (pos + k) er := Rd.new hR1 (gdrew (World.grownBy_alloc w1 _ _))
  have hown2 : (w1.alloc (.cells X 23)).drew.ownsRow w.heap.size 23 1 (.slice (some ⟨w1.heap.size, 0, none⟩) 0 K) 0 [] :=
    World.ownsRow_made (base := w.heap.size) (e := 23) (size := 1) w1 X K hg1.size (by unfold maxLen; omega) (by rw [hXh.out]; omega)
  obtain ⟨w2, hw2⟩ : ∃ w2, w2 = (w1.alloc (.cells X 23)).drew := ⟨_, rfl⟩
  rw [← hw2] at hg2 hR2 hown2 ⊢
  clear hw2 hmk hR1 hb1 ha1 hmin
  go_loopw [4, 21] (fun vb vi wr => ∃ (j : Nat) (vs : List Value) (p : Nat), vi = .int .i64 (j : Int) ∧ j ≤ n ∧ Hid (rdMany (n - j) (bs.drop p) = .error x') ∧ p ≤ bs.length ∧ w.grownBy wr (some r) ∧ Rd wr r (.slice a bs.length cap) p er ∧ Hid (vs.length = j) ∧ wr.ownsRow w.heap.size 23 1 vb vs.length vs) (fun _ vi _ => n - (RowKit.intOf vi).toNat)
  case atStart => exact ⟨0, [], pos + k, rfl, Nat.zero_le _, hM.out, by omega, hg2, hR2, rfl, hown2⟩
  case round =>
    obtain ⟨j, vs, p, rfl, hj, hRM, hp, hg, hR3, hvs, hown⟩ := hrel
    have h1 := hRM.out
    have hjn : j ≠ n := by rintro rfl; simp [rdMany] at h1
    have hlt : (j : Int) < (n : Int) := by omega
    obtain ⟨d, hd⟩ : ∃ d, n - j = d + 1 := ⟨n - j - 1, by omega⟩
    rw [hd, rdMany] at h1
    have hrlt := hR.lt
    have hblk : ∀ {x : Value}, (∀ k, x.ownBlock = some k → w.heap.size ≤ k ∧ k < wr.heap.size) → x.ownBlock = none ∨ x.ownBlock ≠ some r := fun {x} hx => by
      right; intro e; have := hx r e; omega
    have hws := hg.size
    split at h1
    · rename_i x1 hx1
      simp only [Except.error.injEq] at h1
      subst h1
      have hc := nextField_bad r a _ cap bs p er x1 wr hR3 (hR.carry hr hg) hp hx1
      clear hjn hd hx1
      go_wp2_with (go_at_call 78; refine hc.mono ?_; rintro e w3 ⟨q, rfl, hg3, hR4⟩)
      exact ⟨rfl, q, rfl, hg.trans hg3, hR4⟩
    · rename_i f1 m1 hf1
      have hfl := rdField_lt hf1
      simp only [List.length_drop] at hfl
      split at h1
      rotate_left
      · cases h1
      rename_i x1 hx1
      simp only [Except.error.injEq] at h1
      subst h1
      have hnn : j + 1 ≤ n := by omega
      have hc := nextField_ok r a _ cap bs p er f1 m1 wr hR3 (hR.carry hr hg) hp hf1
      have HF := Lib.hid hf1
      have hRM' : Hid (rdMany (n - (j + 1)) (bs.drop (p + m1)) = .error x1) := by
        show _ = _
        rw [show n - (j + 1) = d by omega, ← List.drop_drop]; exact hx1
      clear hf1 hx1 hjn hd
      have hvl : vs.length ≤ 65536 := by rw [hvs.out]; omega
      go_wp2_with (first | (go_at_call 78; refine hc.mono ?_; rintro e w3 ⟨v3, rfl, ho3, hg3, hR4⟩; have hown3 := hown.kept hg3 (hblk hown.lt); obtain ⟨a3, c3, rfl⟩ := ho3.reads.form) | (at_builtin; refine wpList_append_own _ rfl _ _ 47 rfl w.heap.size 23 i0 (.slice none 0 0) 1 24 Try.underlying47 hi hz0 hz1 hz2 rfl (by decide) _ _ _ rfl (hown3.alloc _) ⟨w3.heap.size, 0, none⟩ 1 1 [.slice a3 f1.length c3] rfl rfl ?c1 ?c2 ?c3 ?c4 ?c5 ?_))
      case c1 =>
        intro j u hj
        match j, hj with
        | 0, hj => simp at hj; subst hj; simp [Addr.add]
      case c2 => intro u hu; simp at hu; subst hu; rfl
      case c3 => unfold maxLen; omega
      case c4 => omega
      case c5 => have := hg3.size; simp; omega
      intro v' w4 hown4 hg4 _
      have hg5 : w.grownBy w4 (some r) := gnew (galloc (hg.trans hg3) _) hg4 (fun q hq => by have := hown.lt q; have := hown3.lt q hq; left; omega)
      have hR5 : Rd w4 r (.slice a bs.length cap) (p + m1) er := (hR4.new (World.grownBy_alloc _ _ none)).kept hg4 (fun e => by have := hown3.lt r e; omega)
      have hvs' : Hid ((vs ++ [Value.slice a3 f1.length c3]).length = j + 1) := by have := hvs.out; show _ = _; simp [this]
      have hown5 : w4.ownsRow w.heap.size 23 1 v' (vs ++ [Value.slice a3 f1.length c3]).length (vs ++ [Value.slice a3 f1.length c3]) := by rw [List.length_append, List.length_singleton]; exact hown4
      clear hown3 hown4 hg4
      go_wp2
      exact ⟨⟨j + 1, _, p + m1, by go_num, by omega, hRM', by omega, hg5, hR5, hvs', hown5⟩, by simp [RowKit.intOf]; omega⟩

theorem enters_nextFields (args : Array Value) (w : World) : (callFunc 80 args).run Try.prog w = .ok (.enter 80 args) w := by go_simp

set_option maxHeartbeats 1000000 in
theorem ReadFields_ok (a : Option Addr) (l c : Nat) (bs : List UInt8) (L : List (List UInt8)) (m : Nat) (w : World) (hr : Reads w (.slice a l c) bs) (hrd : rdFields bs = .ok (L, m)) :
    Calls Try.prog 28 #[.slice a l c] w fun e w' => ∃ v, e = .returned (.tuple #[v, .int .i64 (m : Int), .int .i64 0]) ∧ OwnsL w' w.heap.size v L ∧ Below w.heap.size w w' := by
  have hmf : ∀ (fn : Fn) (first cap : Array Value) (w : World), (Instr.makeFunc fn first cap).run Try.prog w = .ok (.func fn first cap) w := fun _ _ _ _ => rfl
  have hr0 : Reads (w.alloc (.cells #[.bool true, .slice a l c, .int .i64 0, .int .i64 0] 116)) (.slice a l c) bs := hr.new (World.grownBy_alloc w _ _)
  have hon := on_ok_bss w.heap.size (.slice a l c) 0 80 #[.pointer (some ⟨w.heap.size, 0, none⟩)] #[] (fun v w' => OwnsL w' w.heap.size v L ∧ Rd w' w.heap.size (.slice a l c) m 0) _ (rd_made _ w) enters_nextFields (fun w2 hg => by
    have := nextFields_ok w.heap.size a l c bs 0 0 L m w2 ((rd_made (.slice a l c) w).new hg) (hr0.new hg) (by omega) (by simpa using hrd)
    refine this.mono ?_
    rintro e w3 ⟨v, rfl, ho, hg3, hR3⟩
    rw [Nat.zero_add] at hR3
    have := hg.size
    simp at this
    exact ⟨_, rfl, ⟨ho.mono (by omega), hR3⟩, hg3⟩)
  go_enter Try.func28, Try.ntmps28
  go_wp2_with (go_at_call 70; refine (over_any a l c _).mono ?_; rintro e w' ⟨rfl, rfl⟩)
  refine hon.mono ?_
  rintro e w' ⟨v, rfl, ⟨ho, hR⟩, hg⟩
  have h2 := hR.at
  have h3 := hR.err
  go_wp2
  go_quiet (fail)
  go_wp2
  go_ret3
  exact ⟨v, rfl, ho, gbelow (gdrewN (gnew (World.grownBy_alloc w _ none) hg (by simp)) _) (Nat.le_refl _) (by simp)⟩

set_option maxHeartbeats 1000000 in
theorem ReadFields_bad (a : Option Addr) (l c : Nat) (bs : List UInt8) (x : Int) (w : World) (hr : Reads w (.slice a l c) bs) (hrd : rdFields bs = .error x) :
    Calls Try.prog 28 #[.slice a l c] w fun e w' => e = .returned (.tuple #[.slice none 0 0, .int .i64 0, .int .i64 x]) ∧ Below w.heap.size w w' := by
  have hmf : ∀ (fn : Fn) (first cap : Array Value) (w : World), (Instr.makeFunc fn first cap).run Try.prog w = .ok (.func fn first cap) w := fun _ _ _ _ => rfl
  have hr0 : Reads (w.alloc (.cells #[.bool true, .slice a l c, .int .i64 0, .int .i64 0] 116)) (.slice a l c) bs := hr.new (World.grownBy_alloc w _ _)
  have hon := on_bad_bss w.heap.size (.slice a l c) 0 x 80 #[.pointer (some ⟨w.heap.size, 0, none⟩)] #[] _ (rd_made _ w) enters_nextFields (fun w2 hg =>
    (nextFields_bad w.heap.size a l c bs 0 0 x w2 ((rd_made (.slice a l c) w).new hg) (hr0.new hg) (by omega) (by simpa using hrd)))
  go_enter Try.func28, Try.ntmps28
  go_wp2_with (go_at_call 70; refine (over_any a l c _).mono ?_; rintro e w' ⟨rfl, rfl⟩)
  refine hon.mono ?_
  rintro e w' ⟨rfl, hg, hR⟩
  have h2 := hR.at
  have h3 := hR.err
  go_wp2
  go_quiet (fail)
  go_wp2
  go_ret3
  exact ⟨rfl, gbelow (gdrewN (gnew (World.grownBy_alloc w _ none) hg (by simp)) _) (Nat.le_refl _) (by simp)⟩
end Go.Proofs.Ytilbccjgaaembaa
