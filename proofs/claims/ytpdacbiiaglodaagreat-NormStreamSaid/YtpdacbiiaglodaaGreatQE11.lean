/-
  LAYER 2 (codec): Fixed, nextFixed, ReadFixed, the reader's Fixed.
-/
import Derived.Test.YtpdacbiiaglodaaGreatQE10
import Derived.RegionTactic
namespace Go.Proofs.YtpdacbiiaglodaaGreat
set_option maxRecDepth 100000
open Go.RowKit Go.Lib

set_option maxHeartbeats 1000000 in
theorem isWide_any (x : Int) (w : World) : Calls Tryz.prog 182 #[.int .i64 x] w fun e w' => e = .returned (.bool (decide (1 ≤ x ∧ x ≤ 8))) ∧ w = w' := by
  by_cases h1 : 1 ≤ x
  · by_cases h2 : x ≤ 8
    · rw [decide_eq_true ⟨h1, h2⟩]
      go_enter Tryz.func182, Tryz.ntmps182
      go_wp2
      go_ret
      exact ⟨rfl, rfl⟩
    · rw [decide_eq_false (by omega)]
      go_enter Tryz.func182, Tryz.ntmps182
      go_wp2
      go_ret
      exact ⟨rfl, rfl⟩
  · rw [decide_eq_false (by omega)]
    go_enter Tryz.func182, Tryz.ntmps182
    go_wp2
    go_ret
    exact ⟨rfl, rfl⟩

set_option maxHeartbeats 1000000 in
theorem nextFixed_range (r : Nat) (x : Int) (w : World) (hx : ¬ (1 ≤ x ∧ x ≤ 8)) :
    Calls Tryz.prog 199 #[.pointer (some ⟨r, 0, none⟩), .int .i64 x] w fun e w' => e = .panicked [{ v := .iface 228 (.int .i64 1), recovered := false }] ∧ w = w' := by
  have hw := isWide_any x
  rw [decide_eq_false hx] at hw
  go_enter Tryz.func199, Tryz.ntmps199
  go_wp2_with (go_at_call 182; refine (hw _).mono ?_; rintro e w' ⟨rfl, rfl⟩)
  exact ⟨rfl, rfl, rfl⟩

set_option maxHeartbeats 1000000 in
theorem nextFixed_short (r : Nat) (k : Nat) (a : Option Addr) (len cap : Nat) (pos : Nat) (er : Int) (w : World) (hk : 1 ≤ k ∧ k ≤ 8) (hR : Rd w r (.slice a len cap) pos er) (hp : pos ≤ len) (hlen : len ≤ maxLen) (hs : len < pos + k) :
    Calls Tryz.prog 199 #[.pointer (some ⟨r, 0, none⟩), .int .i64 (k : Int)] w fun e w' => e = .panicked [{ v := .iface 228 (.int .i64 20), recovered := false }] ∧ ∃ q, w' = w.drewN q := by
  have hw := isWide_any (k : Int)
  rw [decide_eq_true (by omega)] at hw
  go_enter Tryz.func199, Tryz.ntmps199
  go_wp2_with (first | (go_at_call 182; refine (hw _).mono ?_; rintro e w' ⟨rfl, rfl⟩) | (go_at_call 148; refine (next_short r k a len cap pos er w (by omega) hR hp hlen (by omega)).mono ?_; rintro e w' ⟨rfl, q, rfl⟩))
  exact ⟨rfl, rfl, q, rfl⟩

set_option maxHeartbeats 1000000 in
set_option maxRecDepth 20000 in
theorem nextFixed_ok (r : Nat) (k : Nat) (a : Option Addr) (len cap : Nat) (bs : List UInt8) (pos : Nat) (er : Int) (w : World) (hk : 1 ≤ k ∧ k ≤ 8) (hR : Rd w r (.slice a len cap) pos er) (hr : Reads w (.slice a len cap) bs) (hs : pos + k ≤ bs.length) :
    Calls Tryz.prog 199 #[.pointer (some ⟨r, 0, none⟩), .int .i64 (k : Int)] w fun e w' => e = .returned (.int .u64 ((leNat ((bs.drop pos).take k) : Nat) : Int)) ∧ w.grownBy w' (some r) ∧ Rd w' r (.slice a len cap) (pos + k) er := by
  have hw := isWide_any (k : Int)
  rw [decide_eq_true (by omega)] at hw
  have hl : ((bs.drop pos).take k).length = k := by simp; omega
  have hnext := next_ok r k a len cap bs pos er w hR hr hs
  generalize (bs.drop pos).take k = cs at hl hnext
  subst hl
  go_enter Tryz.func199, Tryz.ntmps199
  go_wp2_with (first | (go_at_call 182; refine (hw _).mono ?_; rintro e w' ⟨rfl, rfl⟩))
  refine hnext.mono ?_
  rintro e w1 ⟨v, rfl, hg1, hR1, hrv, -⟩
  rcases hrv with ⟨_, rfl⟩ | ⟨b, off, cp, rfl, h1, h2, hcell⟩
  · exfalso; simp at hk
  unfold maxLen at h2
  have hC := Lib.hid hcell
  clear hcell
  go_wp2
  go_loop [5, 16] (fun vn vi => ∃ i : Nat, i ≤ cs.length ∧ vi = .int .i64 (i : Int) ∧ vn = .int .u64 ((leNat (cs.take i) : Nat) : Int)) (fun _ vi => cs.length - (RowKit.intOf vi).toNat)
  case atStart => exact ⟨0, Nat.zero_le _, rfl, rfl⟩
  case round =>
    obtain ⟨i, hi, rfl, rfl⟩ := hrel
    by_cases hlt : i < cs.length
    · have hcell := hC.out i _ (List.getElem?_eq_getElem hlt)
      have hsn := leNat_snoc (cs.take i) cs[i]
      rw [← List.take_succ_eq_append_getElem hlt, List.length_take, Nat.min_eq_left (by omega)] at hsn
      have hlt2 := leNat_lt (cs.take i)
      rw [List.length_take, Nat.min_eq_left (by omega)] at hlt2
      have ho := or8 (by omega) hlt2 cs[i].toNat_lt
      have hO := Lib.hid ho
      have hS := Lib.hid hsn
      have hi8 : i ≤ 7 := by omega
      have hb := cs[i].toNat_lt
      generalize cs[i].toNat = c at hcell hO hS hb
      clear ho hsn hlt2
      go_wp2
      refine ⟨⟨i + 1, by omega, by go_num, ?_⟩, by simp [RowKit.intOf]; omega⟩
      rw [hS.out]
      have h := hO.out.1
      simp only [Int.natCast_pow, Int.cast_ofNat_Int] at h
      exact congrArg (Value.int .u64) h
    · have hi2 : i = cs.length := by omega
      subst hi2
      rw [List.take_length]
      go_wp2
      go_ret
      exact ⟨rfl, hg1, hR1⟩
end Go.Proofs.YtpdacbiiaglodaaGreat

/-
  LAYER 2 (codec): ReadFixed, and the reader's Fixed.
-/
namespace Go.Proofs.YtpdacbiiaglodaaGreat
set_option maxRecDepth 100000
open Go.RowKit Go.Lib

theorem enters_ReadFixed1 (args : Array Value) (w : World) : (callFunc 198 args).run Tryz.prog w = .ok (.enter 198 args) w := by go_simp

set_option maxHeartbeats 1000000 in
theorem ReadFixed1_ok (p q : Nat) (r : Nat) (k : Nat) (a : Option Addr) (len cap : Nat) (bs : List UInt8) (pos : Nat) (er : Int) (w : World) (hp : w.cell? ⟨p, 0, none⟩ = some (.pointer (some ⟨r, 0, none⟩))) (hq : w.cell? ⟨q, 0, none⟩ = some (.int .i64 (k : Int))) (hk : 1 ≤ k ∧ k ≤ 8) (hR : Rd w r (.slice a len cap) pos er) (hr : Reads w (.slice a len cap) bs) (hs : pos + k ≤ bs.length) :
    Calls Tryz.prog 198 #[.pointer (some ⟨p, 0, none⟩), .pointer (some ⟨q, 0, none⟩)] w fun e w' => e = .returned (.int .u64 ((leNat ((bs.drop pos).take k) : Nat) : Int)) ∧ w.grownBy w' (some r) ∧ Rd w' r (.slice a len cap) (pos + k) er := by
  have hN := nextFixed_ok r k a len cap bs pos er w hk hR hr hs
  generalize leNat ((bs.drop pos).take k) = z at hN
  go_enter Tryz.func198, Tryz.ntmps198
  go_wp2_with (go_at_call 199; refine hN.mono ?_; rintro e w' ⟨rfl, hg, hR2⟩)
  go_ret
  exact ⟨rfl, hg, hR2⟩

set_option maxHeartbeats 1000000 in
theorem ReadFixed1_range (p q : Nat) (r : Nat) (x : Int) (vb : Value) (pos : Nat) (er : Int) (w : World) (hp : w.cell? ⟨p, 0, none⟩ = some (.pointer (some ⟨r, 0, none⟩))) (hq : w.cell? ⟨q, 0, none⟩ = some (.int .i64 x)) (hx : ¬ (1 ≤ x ∧ x ≤ 8)) (hR : Rd w r vb pos er) :
    Calls Tryz.prog 198 #[.pointer (some ⟨p, 0, none⟩), .pointer (some ⟨q, 0, none⟩)] w fun e w' => ∃ p, e = .panicked [{ v := .iface 228 (.int .i64 1), recovered := false }] ∧ w.grownBy w' (some r) ∧ Rd w' r vb p er := by
  have hN := nextFixed_range r x w hx
  clear hx
  go_enter Tryz.func198, Tryz.ntmps198
  go_wp2_with (go_at_call 199; refine hN.mono ?_; rintro e w' ⟨rfl, rfl⟩)
  exact ⟨rfl, pos, rfl, World.grownBy.refl _ _, hR⟩

set_option maxHeartbeats 1000000 in
theorem ReadFixed1_short (p q : Nat) (r : Nat) (k : Nat) (a : Option Addr) (len cap : Nat) (pos : Nat) (er : Int) (w : World) (hp : w.cell? ⟨p, 0, none⟩ = some (.pointer (some ⟨r, 0, none⟩))) (hq : w.cell? ⟨q, 0, none⟩ = some (.int .i64 (k : Int))) (hk : 1 ≤ k ∧ k ≤ 8) (hR : Rd w r (.slice a len cap) pos er) (hpl : pos ≤ len) (hlen : len ≤ maxLen) (hs : len < pos + k) :
    Calls Tryz.prog 198 #[.pointer (some ⟨p, 0, none⟩), .pointer (some ⟨q, 0, none⟩)] w fun e w' => ∃ p, e = .panicked [{ v := .iface 228 (.int .i64 20), recovered := false }] ∧ w.grownBy w' (some r) ∧ Rd w' r (.slice a len cap) p er := by
  have hN := nextFixed_short r k a len cap pos er w hk hR hpl hlen hs
  go_enter Tryz.func198, Tryz.ntmps198
  go_wp2_with (go_at_call 199; refine hN.mono ?_; rintro e w' ⟨rfl, j, rfl⟩)
  exact ⟨rfl, pos, rfl, gdrewN (World.grownBy.refl _ _) _, hR.drewN _⟩
def xRes (bs : List UInt8) (x : Int) : Nat × Nat × Int :=
  if 1 ≤ x ∧ x ≤ 8 then (if bs.length < x.toNat then (0, 0, 20) else (leNat (bs.take x.toNat), x.toNat, 0)) else (0, 0, 1)

set_option maxHeartbeats 1000000 in
theorem ReadFixed_any (a : Option Addr) (l c : Nat) (bs : List UInt8) (x : Int) (n m : Nat) (er : Int) (w : World) (hr : Reads w (.slice a l c) bs) (h : xRes bs x = (n, m, er)) :
    Calls Tryz.prog 173 #[.slice a l c, .int .i64 x] w fun e w' => e = .returned (.tuple #[.int .u64 (n : Int), .int .i64 (m : Int), .int .i64 er]) ∧ Below w.heap.size w w' := by
  have hmf : ∀ (fn : Fn) (first cap : Array Value) (w : World), (Instr.makeFunc fn first cap).run Tryz.prog w = .ok (.func fn first cap) w := fun _ _ _ _ => rfl
  obtain ⟨w0, hw0⟩ : ∃ w0, w0 = (((w.alloc (.cells #[.int .i64 x] 3)).alloc (.cells #[.bool true, .slice a l c, .int .i64 0, .int .i64 0] 214)).alloc (.cells #[.pointer (some ⟨w.heap.size + 1, 0, none⟩)] 179)) := ⟨_, rfl⟩
  have hg0 : w.grownBy w0 none := by rw [hw0]; exact galloc (galloc (World.grownBy_alloc w _ _) _) _
  have hr0 : Reads w0 (.slice a l c) bs := hr.new hg0
  have hR0 : Rd w0 (w.heap.size + 1) (.slice a l c) 0 0 := by
    rw [hw0]
    have := rd_made (.slice a l c) (w.alloc (.cells #[.int .i64 x] 3))
    rw [show (w.alloc (.cells #[.int .i64 x] 3)).heap.size = w.heap.size + 1 by simp] at this
    exact this.kept (World.grownBy_alloc _ _ none) (by simp)
  have hp0 : w0.cell? ⟨w.heap.size + 1 + 1, 0, none⟩ = some (.pointer (some ⟨w.heap.size + 1, 0, none⟩)) := by rw [hw0]; simp [go_sem]
  have hq0 : w0.cell? ⟨w.heap.size, 0, none⟩ = some (.int .i64 x) := by rw [hw0]; simp [go_sem]
  have hon : Calls Tryz.prog 196 #[.pointer (some ⟨w.heap.size + 1, 0, none⟩), .func (.func 198) #[] #[.pointer (some ⟨w.heap.size + 1 + 1, 0, none⟩), .pointer (some ⟨w.heap.size, 0, none⟩)]] w0 fun e w' => e = .returned (.int .u64 (n : Int)) ∧ Rd w' (w.heap.size + 1) (.slice a l c) m er ∧ w0.grownBy w' (some (w.heap.size + 1)) := by
    obtain ⟨rfl, hc, hm⟩ := hr.slice
    unfold xRes at h
    split at h
    · rename_i hx
      obtain ⟨k, rfl⟩ := Int.eq_ofNat_of_zero_le (show 0 ≤ x by omega)
      rw [Int.toNat_natCast] at h
      split at h
      · rename_i hsh
        simp only [Prod.mk.injEq] at h
        obtain ⟨rfl, rfl, rfl⟩ := h
        exact (on_bad_u64 (w.heap.size + 1) (.slice a bs.length c) 0 20 198 #[] #[.pointer (some ⟨w.heap.size + 1 + 1, 0, none⟩), .pointer (some ⟨w.heap.size, 0, none⟩)] w0 hR0 enters_ReadFixed1 (fun w2 hg => by rw [Array.empty_append]; exact ReadFixed1_short (w.heap.size + 1 + 1) w.heap.size (w.heap.size + 1) k a bs.length c 0 0 w2 (hg.cell hp0 (by simp)) (hg.cell hq0 (by simp)) (by omega) (hR0.new hg) (by omega) (by omega) (by omega))).mono fun e w' ⟨he, hg, hR⟩ => ⟨he, hR, hg⟩
      · rename_i hsh
        simp only [Prod.mk.injEq] at h
        obtain ⟨rfl, rfl, rfl⟩ := h
        refine (on_ok_u64 (w.heap.size + 1) (.slice a bs.length c) 0 198 #[] #[.pointer (some ⟨w.heap.size + 1 + 1, 0, none⟩), .pointer (some ⟨w.heap.size, 0, none⟩)] (fun v w' => v = .int .u64 ((leNat (bs.take k) : Nat) : Int) ∧ Rd w' (w.heap.size + 1) (.slice a bs.length c) k 0) w0 hR0 enters_ReadFixed1 (fun w2 hg => ?_)).mono fun e w' ⟨v, he, ⟨hv, hR⟩, hg⟩ => ⟨by rw [he, hv], hR, hg⟩
        rw [Array.empty_append]
        refine (ReadFixed1_ok (w.heap.size + 1 + 1) w.heap.size (w.heap.size + 1) k a bs.length c bs 0 0 w2 (hg.cell hp0 (by simp)) (hg.cell hq0 (by simp)) (by omega) (hR0.new hg) (hr0.new hg) (by omega)).mono ?_
        rintro e w3 ⟨rfl, hg3, hR3⟩
        rw [Nat.zero_add] at hR3
        rw [List.drop_zero]
        exact ⟨_, rfl, ⟨rfl, hR3⟩, hg3⟩
    · rename_i hx
      simp only [Prod.mk.injEq] at h
      obtain ⟨rfl, rfl, rfl⟩ := h
      exact (on_bad_u64 (w.heap.size + 1) (.slice a bs.length c) 0 1 198 #[] #[.pointer (some ⟨w.heap.size + 1 + 1, 0, none⟩), .pointer (some ⟨w.heap.size, 0, none⟩)] w0 hR0 enters_ReadFixed1 (fun w2 hg => by rw [Array.empty_append]; exact ReadFixed1_range (w.heap.size + 1 + 1) w.heap.size (w.heap.size + 1) x (.slice a bs.length c) 0 0 w2 (hg.cell hp0 (by simp)) (hg.cell hq0 (by simp)) hx (hR0.new hg))).mono fun e w' ⟨he, hg, hR⟩ => ⟨he, hR, hg⟩
  have hP := Lib.hid hp0
  rw [hw0] at hon
  clear h hp0 hq0 hR0 hr0
  go_enter Tryz.func173, Tryz.ntmps173
  go_wp2_with (go_at_call 144; refine (over_any a l c _).mono ?_; rintro e w' ⟨rfl, rfl⟩)
  refine hon.mono ?_
  rintro e w' ⟨rfl, hR, hg⟩
  rw [← hw0] at hg
  have h2 := hR.at
  have h3 := hR.err
  have h4 := hg.cell hP.out (by simp)
  have hB := gbelow (gnew hg0 hg (fun r' e => .inl (by simp at e; omega))) (Nat.le_refl _) (by simp)
  clear hw0 hP hg hg0 hR
  go_wp2
  go_quiet (fail)
  go_wp2
  go_ret3
  exact ⟨rfl, ⟨hB.os, hB.tape, hB.output, hB.size, hB.block⟩⟩
end Go.Proofs.YtpdacbiiaglodaaGreat

/-
  LAYER 2 (codec): nextLen, nextField, ReadField, the reader's Field.
-/
namespace Go.Proofs.YtpdacbiiaglodaaGreat
set_option maxRecDepth 100000
open Go.RowKit Go.Lib

end Go.Proofs.YtpdacbiiaglodaaGreat

/-
  LAYER 2 (codec): nextFields, ReadFields.
-/
namespace Go.Proofs.YtpdacbiiaglodaaGreat
set_option maxRecDepth 100000
open Go.RowKit Go.Lib

theorem infoBs : (Tryz.prog.info? 27).map (fun i => (i.zero, i.size, i.bytes)) = some (some (.slice none 0 0), 1, 24) := by kernel_rfl

/-- The call owns a list of lists of bytes: the row, and each of its elements. -/
def OwnsL (w : World) (B : Nat) (v : Value) (L : List (List UInt8)) : Prop :=
  ∃ vs : List Value, vs.length = L.length ∧ w.ownsRow B 27 1 v vs.length vs ∧ ∀ (i : Nat) (x : Value) (f : List UInt8), vs[i]? = some x → L[i]? = some f → Owns w B 5 x f

theorem row_of_owns {w : World} {B : Nat} {e : TypeId} {v : Value} {vs : List Value} (h : w.ownsRow B e 1 v vs.length vs) : Row w v vs := by
  have h0 := h
  obtain ⟨_, ⟨rfl, hn⟩ | ⟨g, cap, cur, rfl, hB, hg, hn, hc, hs, ht⟩⟩ := h
  · exact .inl ⟨rfl, List.length_eq_zero_iff.1 hn⟩
  · refine .inr ⟨g, 0, cap, rfl, hn, hc, fun i u hu => ?_⟩
    have hi : i < vs.length := (List.getElem?_eq_some_iff.1 hu).1
    rw [Nat.zero_add, World.ownsRow.cellAt h0 i (by omega), hu]
theorem OwnsL.reads {w : World} {B : Nat} {v : Value} {L : List (List UInt8)} (h : OwnsL w B v L) : ReadsL w v L := by
  obtain ⟨vs, h1, h2, h3⟩ := h
  exact ⟨vs, h1, row_of_owns h2, fun i x f hx hf => (h3 i x f hx hf).reads⟩
theorem ReadsL.form {w : World} {v : Value} {L : List (List UInt8)} (h : ReadsL w v L) : ∃ a l c, v = .slice a l c := by
  obtain ⟨vs, h1, h2, h3⟩ := h
  rcases h2 with ⟨rfl, _⟩ | ⟨b, off, cap, rfl, _⟩
  · exact ⟨_, _, _, rfl⟩
  · exact ⟨_, _, _, rfl⟩
/-- A row of bytes and a row of slices lie in two blocks. -/
theorem rows_apart {w : World} {B B' : Nat} {x v : Value} {f : List UInt8} {k : Nat} {vs : List Value} (h : Owns w B 5 x f) (h' : w.ownsRow B' 27 1 v k vs) : x.ownBlock = none ∨ x.ownBlock ≠ v.ownBlock := by
  obtain ⟨_, ⟨rfl, hn⟩ | ⟨g, cap, cur, rfl, hB, hg, _⟩⟩ := h
  · left; rfl
  · obtain ⟨_, ⟨rfl, hn⟩ | ⟨g', cap', cur', rfl, hB', hg', _⟩⟩ := h'
    · right; simp [Value.ownBlock]
    · right
      intro e
      simp [Value.ownBlock] at e
      subst e
      rw [hg] at hg'
      simp at hg'
theorem OwnsL.kept {w w' : World} {B : Nat} {v : Value} {L : List (List UInt8)} {r : Nat} (h : OwnsL w B v L) (hg : w.grownBy w' (some r)) (hr : r < B) : OwnsL w' B v L := by
  obtain ⟨vs, h1, h2, h3⟩ := h
  have ne : ∀ {x : Value}, (∀ k, x.ownBlock = some k → B ≤ k ∧ k < w.heap.size) → x.ownBlock = none ∨ x.ownBlock ≠ some r := fun {x} hx => by
    right; intro e; have := hx r e; omega
  exact ⟨vs, h1, h2.kept hg (ne h2.lt), fun i x f hx hf => (h3 i x f hx hf).kept hg (ne (h3 i x f hx hf).lt)⟩
theorem OwnsL.new {w w' : World} {B : Nat} {v : Value} {L : List (List UInt8)} (h : OwnsL w B v L) (hg : w.grownBy w' none) : OwnsL w' B v L := by
  obtain ⟨vs, h1, h2, h3⟩ := h
  exact ⟨vs, h1, h2.kept hg (by cases v.ownBlock <;> simp), fun i x f hx hf => (h3 i x f hx hf).new hg⟩
theorem OwnsL.mono {w : World} {B B' : Nat} {v : Value} {L : List (List UInt8)} (h : OwnsL w B v L) (hB : B' ≤ B) : OwnsL w B' v L := by
  obtain ⟨vs, h1, h2, h3⟩ := h
  refine ⟨vs, h1, ?_, fun i x f hx hf => (h3 i x f hx hf).mono hB⟩
  obtain ⟨h1, h2 | ⟨g, cap, cur, hv, hb, r⟩⟩ := h2
  · exact ⟨h1, .inl h2⟩
  · exact ⟨h1, .inr ⟨g, cap, cur, hv, by omega, r⟩⟩
/-- One more field behind. -/
theorem OwnsL.snoc {w w' : World} {B : Nat} {v v' x : Value} {vs : List Value} {L : List (List UInt8)} {f : List UInt8} (h1 : vs.length = L.length) (h2 : w.ownsRow B 27 1 v vs.length vs)
    (h3 : ∀ (i : Nat) (x : Value) (f : List UInt8), vs[i]? = some x → L[i]? = some f → Owns w B 5 x f) (hx : Owns w B 5 x f) (hg : w.grownBy w' v.ownBlock) (h4 : w'.ownsRow B 27 1 v' (vs.length + 1) (vs ++ [x])) : OwnsL w' B v' (L ++ [f]) := by
  refine ⟨vs ++ [x], by simp [h1], by simpa using h4, fun i y g hy hg' => ?_⟩
  have hk : ∀ {y : Value} {g : List UInt8}, Owns w B 5 y g → Owns w' B 5 y g := fun h => h.kept hg (rows_apart h h2)
  rcases Nat.lt_or_ge i vs.length with hi | hi
  · rw [List.getElem?_append_left hi] at hy
    rw [List.getElem?_append_left (by omega)] at hg'
    exact hk (h3 i y g hy hg')
  · rw [List.getElem?_append_right hi] at hy
    rw [List.getElem?_append_right (by omega)] at hg'
    rcases hq : i - vs.length with _ | q
    · rw [hq] at hy
      rw [← h1, hq] at hg'
      simp at hy hg'
      subst hy; subst hg'
      exact hk hx
    · rw [hq] at hy; simp at hy

end Go.Proofs.YtpdacbiiaglodaaGreat
