/-
  LAYER 2 (codec): the reader's calls, whatever state it is in.
-/
import Derived.Test.YtilbccjgaaembaaCFixR
import Derived.Test.YtilbccjgaaembaaCStr
namespace Go.Proofs.Ytilbccjgaaembaa
set_option maxRecDepth 100000
open Go.RowKit Go.Lib

set_option maxHeartbeats 1000000 in
theorem rUint_err (r : Nat) (vb : Value) (pos : Nat) (er : Int) (w : World) (hR : Rd w r vb pos er) (he : er ≠ 0) :
    Calls Try.prog 38 #[.pointer (some ⟨r, 0, none⟩)] w fun e w' => e = .returned (.int .u64 0) ∧ w.grownBy w' none := by
  have hmf : ∀ (fn : Fn) (first cap : Array Value) (w : World), (Instr.makeFunc fn first cap).run Try.prog w = .ok (.func fn first cap) w := fun _ _ _ _ => rfl
  have hon := fun fv => on_err_u64 r vb pos er fv w hR he
  clear he
  go_enter Try.func38, Try.ntmps38
  go_wp2_with fail
  refine (hon _).mono ?_
  rintro e w' ⟨rfl, hg⟩
  go_wp2
  go_ret
  exact ⟨rfl, hg⟩
set_option maxHeartbeats 1000000 in
theorem rInt_err (r : Nat) (vb : Value) (pos : Nat) (er : Int) (w : World) (hR : Rd w r vb pos er) (he : er ≠ 0) :
    Calls Try.prog 40 #[.pointer (some ⟨r, 0, none⟩)] w fun e w' => e = .returned (.int .i64 0) ∧ w.grownBy w' none := by
  have hmf : ∀ (fn : Fn) (first cap : Array Value) (w : World), (Instr.makeFunc fn first cap).run Try.prog w = .ok (.func fn first cap) w := fun _ _ _ _ => rfl
  have hon := fun fv => on_err_i64 r vb pos er fv w hR he
  clear he
  go_enter Try.func40, Try.ntmps40
  go_wp2_with fail
  refine (hon _).mono ?_
  rintro e w' ⟨rfl, hg⟩
  go_wp2
  go_ret
  exact ⟨rfl, hg⟩
set_option maxHeartbeats 1000000 in
theorem rField_err (r : Nat) (vb : Value) (pos : Nat) (er : Int) (w : World) (hR : Rd w r vb pos er) (he : er ≠ 0) :
    Calls Try.prog 44 #[.pointer (some ⟨r, 0, none⟩)] w fun e w' => e = .returned (.slice none 0 0) ∧ w.grownBy w' none := by
  have hmf : ∀ (fn : Fn) (first cap : Array Value) (w : World), (Instr.makeFunc fn first cap).run Try.prog w = .ok (.func fn first cap) w := fun _ _ _ _ => rfl
  have hon := fun fv => on_err_bs r vb pos er fv w hR he
  clear he
  go_enter Try.func44, Try.ntmps44
  go_wp2_with fail
  refine (hon _).mono ?_
  rintro e w' ⟨rfl, hg⟩
  go_wp2
  go_ret
  exact ⟨rfl, hg⟩

set_option maxHeartbeats 1000000 in
theorem rField_ok (r : Nat) (a : Option Addr) (l c : Nat) (bs : List UInt8) (pos : Nat) (f : List UInt8) (m : Nat) (w : World) (hR : Rd w r (.slice a l c) pos 0) (hr : Reads w (.slice a l c) bs) (hs : pos ≤ bs.length) (hrd : rdField (bs.drop pos) = .ok (f, m)) :
    Calls Try.prog 44 #[.pointer (some ⟨r, 0, none⟩)] w fun e w' => ∃ v, e = .returned v ∧ Owns w' w.heap.size 5 v f ∧ w.grownBy w' (some r) ∧ Rd w' r (.slice a l c) (pos + m) 0 := by
  have hmf : ∀ (fn : Fn) (first cap : Array Value) (w : World), (Instr.makeFunc fn first cap).run Try.prog w = .ok (.func fn first cap) w := fun _ _ _ _ => rfl
  have hon := on_ok_bs r (.slice a l c) pos 78 #[.pointer (some ⟨r, 0, none⟩)] #[] (fun v w' => Owns w' w.heap.size 5 v f ∧ Rd w' r (.slice a l c) (pos + m) 0) w hR enters_nextField (fun w2 hg =>
    (nextField_ok r a l c bs pos 0 f m w2 (hR.new hg) (hr.new hg) hs hrd).mono (by
      rintro e w3 ⟨v, rfl, ho, hg3, hR3⟩
      exact ⟨_, rfl, ⟨ho.mono hg.size, hR3⟩, hg3⟩))
  go_enter Try.func44, Try.ntmps44
  go_wp2_with fail
  refine hon.mono ?_
  rintro e w' ⟨v, rfl, ⟨ho, hR⟩, hg⟩
  go_wp2
  go_ret
  exact ⟨_, rfl, ho, hg, hR⟩

set_option maxHeartbeats 1000000 in
theorem rField_bad (r : Nat) (a : Option Addr) (l c : Nat) (bs : List UInt8) (pos : Nat) (x : Int) (w : World) (hR : Rd w r (.slice a l c) pos 0) (hr : Reads w (.slice a l c) bs) (hs : pos ≤ bs.length) (hrd : rdField (bs.drop pos) = .error x) :
    Calls Try.prog 44 #[.pointer (some ⟨r, 0, none⟩)] w fun e w' => e = .returned (.slice none 0 0) ∧ w.grownBy w' (some r) ∧ Rd w' r (.slice a l c) pos x := by
  have hmf : ∀ (fn : Fn) (first cap : Array Value) (w : World), (Instr.makeFunc fn first cap).run Try.prog w = .ok (.func fn first cap) w := fun _ _ _ _ => rfl
  have hon := on_bad_bs r (.slice a l c) pos x 78 #[.pointer (some ⟨r, 0, none⟩)] #[] w hR enters_nextField (fun w2 hg =>
    (nextField_bad r a l c bs pos 0 x w2 (hR.new hg) (hr.new hg) hs hrd))
  go_enter Try.func44, Try.ntmps44
  go_wp2_with fail
  refine hon.mono ?_
  rintro e w' ⟨rfl, hg, hR⟩
  go_wp2
  go_ret
  exact ⟨rfl, hg, hR⟩

/-- How a reader stands behind a call which would take m bytes or fail by x. -/
def stAt (er : Int) (pos m : Nat) : Nat := if er = 0 then pos + m else pos
def stErr (er x : Int) : Int := if er = 0 then x else er

theorem rUint_any (r : Nat) (a : Option Addr) (l c : Nat) (bs : List UInt8) (pos : Nat) (er : Int) (n m : Nat) (x : Int) (w : World) (hR : Rd w r (.slice a l c) pos er) (hr : Reads w (.slice a l c) bs) (hs : pos ≤ bs.length) (h : uRes (bs.drop pos) = (n, m, x)) :
    Calls Try.prog 38 #[.pointer (some ⟨r, 0, none⟩)] w fun e w' => e = .returned (.int .u64 (if er = 0 then (n : Int) else 0)) ∧ w.grownBy w' (some r) ∧ Rd w' r (.slice a l c) (stAt er pos m) (stErr er x) := by
  by_cases he : er = 0
  · subst he
    rcases uRes_cases h with ⟨rfl, h'⟩ | ⟨hx, rfl, rfl, h'⟩
    · exact rUint_ok r a l c bs pos n m w hR hr hs h'
    · have hz : iOf 0 x = 0 := if_neg hx
      simpa [stAt, stErr, hz] using rUint_bad r a l c bs pos x w hR hr hs h'
  · refine (rUint_err r _ pos er w hR he).mono fun e w' ⟨h1, h2⟩ => ?_
    rw [if_neg he, show stAt er pos m = pos from if_neg he, show stErr er x = er from if_neg he]
    exact ⟨h1, h2.but _, hR.new h2⟩
theorem rInt_any (r : Nat) (a : Option Addr) (l c : Nat) (bs : List UInt8) (pos : Nat) (er : Int) (n m : Nat) (x : Int) (w : World) (hR : Rd w r (.slice a l c) pos er) (hr : Reads w (.slice a l c) bs) (hs : pos ≤ bs.length) (h : uRes (bs.drop pos) = (n, m, x)) :
    Calls Try.prog 40 #[.pointer (some ⟨r, 0, none⟩)] w fun e w' => e = .returned (.int .i64 (if er = 0 then ((iOf n x) : Int) else 0)) ∧ w.grownBy w' (some r) ∧ Rd w' r (.slice a l c) (stAt er pos m) (stErr er x) := by
  by_cases he : er = 0
  · subst he
    rcases uRes_cases h with ⟨rfl, h'⟩ | ⟨hx, rfl, rfl, h'⟩
    · exact rInt_ok r a l c bs pos n m w hR hr hs h'
    · have hz : iOf 0 x = 0 := if_neg hx
      simpa [stAt, stErr, hz] using rInt_bad r a l c bs pos x w hR hr hs h'
  · refine (rInt_err r _ pos er w hR he).mono fun e w' ⟨h1, h2⟩ => ?_
    rw [if_neg he, show stAt er pos m = pos from if_neg he, show stErr er x = er from if_neg he]
    exact ⟨h1, h2.but _, hR.new h2⟩

theorem rField_any (r : Nat) (a : Option Addr) (l c : Nat) (bs : List UInt8) (pos : Nat) (er : Int) (f : List UInt8) (m : Nat) (x : Int) (w : World) (hR : Rd w r (.slice a l c) pos er) (hr : Reads w (.slice a l c) bs) (hs : pos ≤ bs.length) (h : fRes (bs.drop pos) = (f, m, x)) :
    Calls Try.prog 44 #[.pointer (some ⟨r, 0, none⟩)] w fun e w' => ∃ v, e = .returned v ∧ Owns w' w.heap.size 5 v (if er = 0 then f else []) ∧ w.grownBy w' (some r) ∧ Rd w' r (.slice a l c) (stAt er pos m) (stErr er x) := by
  by_cases he : er = 0
  · subst he
    rcases fRes_cases h with ⟨rfl, h'⟩ | ⟨hx, rfl, rfl, h'⟩
    · exact rField_ok r a l c bs pos f m w hR hr hs h'
    · exact (rField_bad r a l c bs pos x w hR hr hs h').mono fun e w' ⟨h1, h2, h3⟩ => ⟨_, h1, owns_nil _ _ _, h2, h3⟩
  · refine (rField_err r _ pos er w hR he).mono fun e w' ⟨h1, h2⟩ => ?_
    rw [if_neg he, show stAt er pos m = pos from if_neg he, show stErr er x = er from if_neg he]
    exact ⟨_, h1, owns_nil _ _ _, h2.but _, hR.new h2⟩

/-- The bytes that Take takes. -/
def tRes (bs : List UInt8) (n : Int) : List UInt8 × Nat × Int :=
  if n < 0 then ([], 0, 1) else if bs.length < n.toNat then ([], 0, 20) else (bs.take n.toNat, n.toNat, 0)

/-- The world behind the two boxes of a call's parameters. -/
def boxed (w : World) (r : Nat) (n : Int) : World := (w.alloc (.cells #[.pointer (some ⟨r, 0, none⟩)] 58)).alloc (.cells #[.int .i64 n] 3)
theorem boxed_grown (w : World) (r : Nat) (n : Int) : w.grownBy (boxed w r n) none := galloc (World.grownBy_alloc w _ _) _
theorem boxed_p (w : World) (r : Nat) (n : Int) : (boxed w r n).cell? ⟨w.heap.size, 0, none⟩ = some (.pointer (some ⟨r, 0, none⟩)) := by unfold boxed; simp [go_sem]
theorem boxed_q (w : World) (r : Nat) (n : Int) : (boxed w r n).cell? ⟨w.heap.size + 1, 0, none⟩ = some (.int .i64 n) := by unfold boxed; simp [go_sem]

set_option maxHeartbeats 1000000 in
theorem rFixed_any (r : Nat) (a : Option Addr) (l c : Nat) (bs : List UInt8) (pos : Nat) (er : Int) (wide : Int) (n m : Nat) (x : Int) (w : World) (hR : Rd w r (.slice a l c) pos er) (hr : Reads w (.slice a l c) bs) (hs : pos ≤ bs.length) (h : xRes (bs.drop pos) wide = (n, m, x)) :
    Calls Try.prog 42 #[.pointer (some ⟨r, 0, none⟩), .int .i64 wide] w fun e w' => e = .returned (.int .u64 (if er = 0 then (n : Int) else 0)) ∧ w.grownBy w' (some r) ∧ Rd w' r (.slice a l c) (stAt er pos m) (stErr er x) := by
  have hmf : ∀ (fn : Fn) (first cap : Array Value) (w : World), (Instr.makeFunc fn first cap).run Try.prog w = .ok (.func fn first cap) w := fun _ _ _ _ => rfl
  have hg0 := boxed_grown w r wide
  have hp0 := boxed_p w r wide
  have hq0 := boxed_q w r wide
  have hlt := hR.lt
  have hon : Calls Try.prog 71 #[.pointer (some ⟨r, 0, none⟩), .func (.func 88) #[] #[.pointer (some ⟨w.heap.size, 0, none⟩), .pointer (some ⟨w.heap.size + 1, 0, none⟩)]] (boxed w r wide) fun e w' => e = .returned (.int .u64 (if er = 0 then (n : Int) else 0)) ∧ (boxed w r wide).grownBy w' (some r) ∧ Rd w' r (.slice a l c) (stAt er pos m) (stErr er x) := by
    generalize boxed w r wide = w0 at hg0 hp0 hq0
    have hR0 := hR.new hg0
    have hr0 := hr.new hg0
    obtain ⟨rfl, hc, hm⟩ := hr.slice
    by_cases he : er = 0
    · subst he
      rw [if_pos rfl]
      unfold xRes at h
      split at h
      · rename_i hx
        obtain ⟨k, rfl⟩ := Int.eq_ofNat_of_zero_le (show 0 ≤ wide by omega)
        rw [Int.toNat_natCast] at h
        split at h
        · rename_i hsh
          rw [List.length_drop] at hsh
          simp only [Prod.mk.injEq] at h
          obtain ⟨rfl, rfl, rfl⟩ := h
          exact on_bad_u64 r (.slice a bs.length c) pos 20 88 #[] #[.pointer (some ⟨w.heap.size, 0, none⟩), .pointer (some ⟨w.heap.size + 1, 0, none⟩)] w0 hR0 enters_rFixed1 (fun w2 hg => by rw [Array.empty_append]; exact rFixed1_short w.heap.size (w.heap.size + 1) r k a bs.length c pos 0 w2 (hg.cell hp0 (by simp)) (hg.cell hq0 (by simp)) (by omega) (hR0.new hg) (by omega) (by omega) (by omega))
        · rename_i hsh
          rw [List.length_drop] at hsh
          simp only [Prod.mk.injEq] at h
          obtain ⟨rfl, rfl, rfl⟩ := h
          refine (on_ok_u64 r (.slice a bs.length c) pos 88 #[] #[.pointer (some ⟨w.heap.size, 0, none⟩), .pointer (some ⟨w.heap.size + 1, 0, none⟩)] (fun v w' => v = .int .u64 ((leNat ((bs.drop pos).take k) : Nat) : Int) ∧ Rd w' r (.slice a bs.length c) (pos + k) 0) w0 hR0 enters_rFixed1 (fun w2 hg => ?_)).mono fun e w' ⟨v, he, ⟨hv, hR⟩, hg⟩ => ⟨by rw [he, hv], hg, hR⟩
          rw [Array.empty_append]
          refine (rFixed1_ok w.heap.size (w.heap.size + 1) r k a bs.length c bs pos 0 w2 (hg.cell hp0 (by simp)) (hg.cell hq0 (by simp)) (by omega) (hR0.new hg) (hr0.new hg) (by omega)).mono ?_
          rintro e w3 ⟨rfl, hg3, hR3⟩
          exact ⟨_, rfl, ⟨rfl, hR3⟩, hg3⟩
      · rename_i hx
        simp only [Prod.mk.injEq] at h
        obtain ⟨rfl, rfl, rfl⟩ := h
        exact on_bad_u64 r (.slice a bs.length c) pos 1 88 #[] #[.pointer (some ⟨w.heap.size, 0, none⟩), .pointer (some ⟨w.heap.size + 1, 0, none⟩)] w0 hR0 enters_rFixed1 (fun w2 hg => by rw [Array.empty_append]; exact rFixed1_range w.heap.size (w.heap.size + 1) r wide (.slice a bs.length c) pos 0 w2 (hg.cell hp0 (by simp)) (hg.cell hq0 (by simp)) hx (hR0.new hg))
    · rw [if_neg he, show stAt er pos m = pos from if_neg he, show stErr er x = er from if_neg he]
      exact (on_err_u64 r _ pos er _ w0 hR0 he).mono fun e w' ⟨h1, h2⟩ => ⟨h1, h2.but _, hR0.new h2⟩
  clear h hp0 hq0
  unfold boxed at hon
  generalize (if er = 0 then (n : Int) else 0) = z at hon ⊢
  go_enter Try.func42, Try.ntmps42
  go_wp2_with fail
  refine hon.mono ?_
  rintro e w' ⟨rfl, hg, hR'⟩
  go_wp2
  go_ret
  exact ⟨rfl, gnew (hg0.but _) hg (fun r' e => .inr e), hR'⟩

theorem enters_rTake1 (args : Array Value) (w : World) : (callFunc 89 args).run Try.prog w = .ok (.enter 89 args) w := by go_simp

set_option maxHeartbeats 1000000 in
theorem rTake1_neg (p q : Nat) (r : Nat) (n : Int) (vb : Value) (pos : Nat) (er : Int) (w : World) (hp : w.cell? ⟨p, 0, none⟩ = some (.pointer (some ⟨r, 0, none⟩))) (hq : w.cell? ⟨q, 0, none⟩ = some (.int .i64 n)) (hn : n < 0) (hR : Rd w r vb pos er) :
    Calls Try.prog 89 #[.pointer (some ⟨p, 0, none⟩), .pointer (some ⟨q, 0, none⟩)] w fun e w' => ∃ p, e = .panicked [{ v := .iface 131 (.int .i64 1), recovered := false }] ∧ w.grownBy w' (some r) ∧ Rd w' r vb p er := by
  have hN := next_neg r n w hn
  go_enter Try.func89, Try.ntmps89
  go_wp2_with (go_at_call 90; refine hN.mono ?_; rintro e w' ⟨rfl, rfl⟩)
  exact ⟨rfl, pos, rfl, World.grownBy.refl _ _, hR⟩

set_option maxHeartbeats 1000000 in
theorem rTake1_short (p q : Nat) (r : Nat) (n : Int) (a : Option Addr) (len cap : Nat) (pos : Nat) (er : Int) (w : World) (hp : w.cell? ⟨p, 0, none⟩ = some (.pointer (some ⟨r, 0, none⟩))) (hq : w.cell? ⟨q, 0, none⟩ = some (.int .i64 n)) (hn : 0 ≤ n) (hR : Rd w r (.slice a len cap) pos er) (hpl : pos ≤ len) (hlen : len ≤ maxLen) (hs : (len : Int) - pos < n) :
    Calls Try.prog 89 #[.pointer (some ⟨p, 0, none⟩), .pointer (some ⟨q, 0, none⟩)] w fun e w' => ∃ p, e = .panicked [{ v := .iface 131 (.int .i64 20), recovered := false }] ∧ w.grownBy w' (some r) ∧ Rd w' r (.slice a len cap) p er := by
  have hN := next_short r n a len cap pos er w hn hR hpl hlen hs
  go_enter Try.func89, Try.ntmps89
  go_wp2_with (go_at_call 90; refine hN.mono ?_; rintro e w' ⟨rfl, j, rfl⟩)
  exact ⟨rfl, pos, rfl, gdrewN (World.grownBy.refl _ _) _, hR.drewN _⟩

set_option maxHeartbeats 1000000 in
theorem rTake1_ok (p q : Nat) (r : Nat) (k : Nat) (a : Option Addr) (len cap : Nat) (bs : List UInt8) (pos : Nat) (er : Int) (w : World) (hp : w.cell? ⟨p, 0, none⟩ = some (.pointer (some ⟨r, 0, none⟩))) (hq : w.cell? ⟨q, 0, none⟩ = some (.int .i64 (k : Int))) (hR : Rd w r (.slice a len cap) pos er) (hr : Reads w (.slice a len cap) bs) (hs : pos + k ≤ bs.length) (hlim : bs.length ≤ 140737488355328) :
    Calls Try.prog 89 #[.pointer (some ⟨p, 0, none⟩), .pointer (some ⟨q, 0, none⟩)] w fun e w' => ∃ v, e = .returned v ∧ Owns w' w.heap.size 5 v ((bs.drop pos).take k) ∧ w.grownBy w' (some r) ∧ Rd w' r (.slice a len cap) (pos + k) er := by
  have hN := next_ok r k a len cap bs pos er w hR hr hs
  have hl : ((bs.drop pos).take k).length ≤ bs.length := by simp; omega
  generalize (bs.drop pos).take k = cs at hN hl
  go_enter Try.func89, Try.ntmps89
  go_wp2_with (first | (go_at_call 90; refine hN.mono ?_; rintro e w1 ⟨v, rfl, hg1, hR1, hrv, -⟩; obtain ⟨a1, c1, rfl⟩ := hrv.form) | (go_at_call 84; refine (copied_any a1 _ c1 cs w1 hrv (by omega)).mono ?_; rintro e w2 ⟨v2, rfl, ho2, hg2⟩))
  go_ret
  exact ⟨v2, rfl, ho2.mono hg1.size, gnew hg1 hg2 (by simp), hR1.new hg2⟩

set_option maxHeartbeats 1000000 in
theorem rTake_any (r : Nat) (a : Option Addr) (l c : Nat) (bs : List UInt8) (pos : Nat) (er : Int) (n : Int) (f : List UInt8) (m : Nat) (x : Int) (w : World) (hR : Rd w r (.slice a l c) pos er) (hr : Reads w (.slice a l c) bs) (hs : pos ≤ bs.length) (hlim : bs.length ≤ 140737488355328) (h : tRes (bs.drop pos) n = (f, m, x)) :
    Calls Try.prog 46 #[.pointer (some ⟨r, 0, none⟩), .int .i64 n] w fun e w' => ∃ v, e = .returned v ∧ Owns w' w.heap.size 5 v (if er = 0 then f else []) ∧ w.grownBy w' (some r) ∧ Rd w' r (.slice a l c) (stAt er pos m) (stErr er x) := by
  have hmf : ∀ (fn : Fn) (first cap : Array Value) (w : World), (Instr.makeFunc fn first cap).run Try.prog w = .ok (.func fn first cap) w := fun _ _ _ _ => rfl
  have hg0 := boxed_grown w r n
  have hp0 := boxed_p w r n
  have hq0 := boxed_q w r n
  have hon : Calls Try.prog 77 #[.pointer (some ⟨r, 0, none⟩), .func (.func 89) #[] #[.pointer (some ⟨w.heap.size, 0, none⟩), .pointer (some ⟨w.heap.size + 1, 0, none⟩)]] (boxed w r n) fun e w' => ∃ v, e = .returned v ∧ Owns w' w.heap.size 5 v (if er = 0 then f else []) ∧ (boxed w r n).grownBy w' (some r) ∧ Rd w' r (.slice a l c) (stAt er pos m) (stErr er x) := by
    have hsz := hg0.size
    generalize boxed w r n = w0 at hg0 hp0 hq0 hsz
    have hR0 := hR.new hg0
    have hr0 := hr.new hg0
    obtain ⟨rfl, hc, hm⟩ := hr.slice
    by_cases he : er = 0
    · subst he
      rw [if_pos rfl]
      unfold tRes at h
      split at h
      · rename_i hn
        simp only [Prod.mk.injEq] at h
        obtain ⟨rfl, rfl, rfl⟩ := h
        exact (on_bad_bs r (.slice a bs.length c) pos 1 89 #[] #[.pointer (some ⟨w.heap.size, 0, none⟩), .pointer (some ⟨w.heap.size + 1, 0, none⟩)] w0 hR0 enters_rTake1 (fun w2 hg => by rw [Array.empty_append]; exact rTake1_neg w.heap.size (w.heap.size + 1) r n (.slice a bs.length c) pos 0 w2 (hg.cell hp0 (by simp)) (hg.cell hq0 (by simp)) hn (hR0.new hg))).mono fun e w' ⟨h1, h2, h3⟩ => ⟨_, h1, owns_nil _ _ _, h2, h3⟩
      · rename_i hn
        obtain ⟨k, rfl⟩ := Int.eq_ofNat_of_zero_le (show 0 ≤ n by omega)
        rw [Int.toNat_natCast] at h
        split at h
        · rename_i hsh
          rw [List.length_drop] at hsh
          simp only [Prod.mk.injEq] at h
          obtain ⟨rfl, rfl, rfl⟩ := h
          exact (on_bad_bs r (.slice a bs.length c) pos 20 89 #[] #[.pointer (some ⟨w.heap.size, 0, none⟩), .pointer (some ⟨w.heap.size + 1, 0, none⟩)] w0 hR0 enters_rTake1 (fun w2 hg => by rw [Array.empty_append]; exact rTake1_short w.heap.size (w.heap.size + 1) r k a bs.length c pos 0 w2 (hg.cell hp0 (by simp)) (hg.cell hq0 (by simp)) (by omega) (hR0.new hg) (by omega) (by omega) (by omega))).mono fun e w' ⟨h1, h2, h3⟩ => ⟨_, h1, owns_nil _ _ _, h2, h3⟩
        · rename_i hsh
          rw [List.length_drop] at hsh
          simp only [Prod.mk.injEq] at h
          obtain ⟨rfl, rfl, rfl⟩ := h
          refine (on_ok_bs r (.slice a bs.length c) pos 89 #[] #[.pointer (some ⟨w.heap.size, 0, none⟩), .pointer (some ⟨w.heap.size + 1, 0, none⟩)] (fun v w' => Owns w' w.heap.size 5 v ((bs.drop pos).take k) ∧ Rd w' r (.slice a bs.length c) (pos + k) 0) w0 hR0 enters_rTake1 (fun w2 hg => ?_)).mono fun e w' ⟨v, he, ⟨hv, hR⟩, hg⟩ => ⟨v, he, hv, hg, hR⟩
          rw [Array.empty_append]
          refine (rTake1_ok w.heap.size (w.heap.size + 1) r k a bs.length c bs pos 0 w2 (hg.cell hp0 (by simp)) (hg.cell hq0 (by simp)) (hR0.new hg) (hr0.new hg) (by omega) hlim).mono ?_
          rintro e w3 ⟨v, rfl, ho, hg3, hR3⟩
          exact ⟨_, rfl, ⟨ho.mono (by have := hg.size; omega), hR3⟩, hg3⟩
    · rw [if_neg he, show stAt er pos m = pos from if_neg he, show stErr er x = er from if_neg he]
      exact (on_err_bs r _ pos er _ w0 hR0 he).mono fun e w' ⟨h1, h2⟩ => ⟨_, h1, owns_nil _ _ _, h2.but _, hR0.new h2⟩
  clear h hp0 hq0
  unfold boxed at hon
  generalize (if er = 0 then f else []) = z at hon ⊢
  go_enter Try.func46, Try.ntmps46
  go_wp2_with fail
  refine hon.mono ?_
  rintro e w' ⟨v, rfl, ho, hg, hR'⟩
  go_wp2
  go_ret
  exact ⟨v, rfl, ho, gnew (hg0.but _) hg (fun r' e => .inr e), hR'⟩
end Go.Proofs.Ytilbccjgaaembaa
