/-
  LAYER 2 (codec): ReadFixed, and the reader's Fixed.
-/
import Derived.Test.YtilbccjgaaembaaCFixed
namespace Go.Proofs.Ytilbccjgaaembaa
set_option maxRecDepth 100000
open Go.RowKit Go.Lib

theorem enters_ReadFixed1 (args : Array Value) (w : World) : (callFunc 75 args).run Try.prog w = .ok (.enter 75 args) w := by go_simp

set_option maxHeartbeats 1000000 in
theorem ReadFixed1_ok (p q : Nat) (r : Nat) (k : Nat) (a : Option Addr) (len cap : Nat) (bs : List UInt8) (pos : Nat) (er : Int) (w : World) (hp : w.cell? ⟨p, 0, none⟩ = some (.pointer (some ⟨r, 0, none⟩))) (hq : w.cell? ⟨q, 0, none⟩ = some (.int .i64 (k : Int))) (hk : 1 ≤ k ∧ k ≤ 8) (hR : Rd w r (.slice a len cap) pos er) (hr : Reads w (.slice a len cap) bs) (hs : pos + k ≤ bs.length) :
    Calls Try.prog 75 #[.pointer (some ⟨p, 0, none⟩), .pointer (some ⟨q, 0, none⟩)] w fun e w' => e = .returned (.int .u64 ((leNat ((bs.drop pos).take k) : Nat) : Int)) ∧ w.grownBy w' (some r) ∧ Rd w' r (.slice a len cap) (pos + k) er := by
  have hN := nextFixed_ok r k a len cap bs pos er w hk hR hr hs
  generalize leNat ((bs.drop pos).take k) = z at hN
  go_enter Try.func75, Try.ntmps75
  go_wp2_with (go_at_call 76; refine hN.mono ?_; rintro e w' ⟨rfl, hg, hR2⟩)
  go_ret
  exact ⟨rfl, hg, hR2⟩

set_option maxHeartbeats 1000000 in
theorem ReadFixed1_range (p q : Nat) (r : Nat) (x : Int) (vb : Value) (pos : Nat) (er : Int) (w : World) (hp : w.cell? ⟨p, 0, none⟩ = some (.pointer (some ⟨r, 0, none⟩))) (hq : w.cell? ⟨q, 0, none⟩ = some (.int .i64 x)) (hx : ¬ (1 ≤ x ∧ x ≤ 8)) (hR : Rd w r vb pos er) :
    Calls Try.prog 75 #[.pointer (some ⟨p, 0, none⟩), .pointer (some ⟨q, 0, none⟩)] w fun e w' => ∃ p, e = .panicked [{ v := .iface 131 (.int .i64 1), recovered := false }] ∧ w.grownBy w' (some r) ∧ Rd w' r vb p er := by
  have hN := nextFixed_range r x w hx
  clear hx
  go_enter Try.func75, Try.ntmps75
  go_wp2_with (go_at_call 76; refine hN.mono ?_; rintro e w' ⟨rfl, rfl⟩)
  exact ⟨rfl, pos, rfl, World.grownBy.refl _ _, hR⟩

set_option maxHeartbeats 1000000 in
theorem ReadFixed1_short (p q : Nat) (r : Nat) (k : Nat) (a : Option Addr) (len cap : Nat) (pos : Nat) (er : Int) (w : World) (hp : w.cell? ⟨p, 0, none⟩ = some (.pointer (some ⟨r, 0, none⟩))) (hq : w.cell? ⟨q, 0, none⟩ = some (.int .i64 (k : Int))) (hk : 1 ≤ k ∧ k ≤ 8) (hR : Rd w r (.slice a len cap) pos er) (hpl : pos ≤ len) (hlen : len ≤ maxLen) (hs : len < pos + k) :
    Calls Try.prog 75 #[.pointer (some ⟨p, 0, none⟩), .pointer (some ⟨q, 0, none⟩)] w fun e w' => ∃ p, e = .panicked [{ v := .iface 131 (.int .i64 20), recovered := false }] ∧ w.grownBy w' (some r) ∧ Rd w' r (.slice a len cap) p er := by
  have hN := nextFixed_short r k a len cap pos er w hk hR hpl hlen hs
  go_enter Try.func75, Try.ntmps75
  go_wp2_with (go_at_call 76; refine hN.mono ?_; rintro e w' ⟨rfl, j, rfl⟩)
  exact ⟨rfl, pos, rfl, gdrewN (World.grownBy.refl _ _) _, hR.drewN _⟩
theorem enters_rFixed1 (args : Array Value) (w : World) : (callFunc 88 args).run Try.prog w = .ok (.enter 88 args) w := by go_simp

set_option maxHeartbeats 1000000 in
theorem rFixed1_ok (p q : Nat) (r : Nat) (k : Nat) (a : Option Addr) (len cap : Nat) (bs : List UInt8) (pos : Nat) (er : Int) (w : World) (hp : w.cell? ⟨p, 0, none⟩ = some (.pointer (some ⟨r, 0, none⟩))) (hq : w.cell? ⟨q, 0, none⟩ = some (.int .i64 (k : Int))) (hk : 1 ≤ k ∧ k ≤ 8) (hR : Rd w r (.slice a len cap) pos er) (hr : Reads w (.slice a len cap) bs) (hs : pos + k ≤ bs.length) :
    Calls Try.prog 88 #[.pointer (some ⟨p, 0, none⟩), .pointer (some ⟨q, 0, none⟩)] w fun e w' => e = .returned (.int .u64 ((leNat ((bs.drop pos).take k) : Nat) : Int)) ∧ w.grownBy w' (some r) ∧ Rd w' r (.slice a len cap) (pos + k) er := by
  have hN := nextFixed_ok r k a len cap bs pos er w hk hR hr hs
  generalize leNat ((bs.drop pos).take k) = z at hN
  go_enter Try.func88, Try.ntmps88
  go_wp2_with (go_at_call 76; refine hN.mono ?_; rintro e w' ⟨rfl, hg, hR2⟩)
  go_ret
  exact ⟨rfl, hg, hR2⟩

set_option maxHeartbeats 1000000 in
theorem rFixed1_range (p q : Nat) (r : Nat) (x : Int) (vb : Value) (pos : Nat) (er : Int) (w : World) (hp : w.cell? ⟨p, 0, none⟩ = some (.pointer (some ⟨r, 0, none⟩))) (hq : w.cell? ⟨q, 0, none⟩ = some (.int .i64 x)) (hx : ¬ (1 ≤ x ∧ x ≤ 8)) (hR : Rd w r vb pos er) :
    Calls Try.prog 88 #[.pointer (some ⟨p, 0, none⟩), .pointer (some ⟨q, 0, none⟩)] w fun e w' => ∃ p, e = .panicked [{ v := .iface 131 (.int .i64 1), recovered := false }] ∧ w.grownBy w' (some r) ∧ Rd w' r vb p er := by
  have hN := nextFixed_range r x w hx
  clear hx
  go_enter Try.func88, Try.ntmps88
  go_wp2_with (go_at_call 76; refine hN.mono ?_; rintro e w' ⟨rfl, rfl⟩)
  exact ⟨rfl, pos, rfl, World.grownBy.refl _ _, hR⟩

set_option maxHeartbeats 1000000 in
theorem rFixed1_short (p q : Nat) (r : Nat) (k : Nat) (a : Option Addr) (len cap : Nat) (pos : Nat) (er : Int) (w : World) (hp : w.cell? ⟨p, 0, none⟩ = some (.pointer (some ⟨r, 0, none⟩))) (hq : w.cell? ⟨q, 0, none⟩ = some (.int .i64 (k : Int))) (hk : 1 ≤ k ∧ k ≤ 8) (hR : Rd w r (.slice a len cap) pos er) (hpl : pos ≤ len) (hlen : len ≤ maxLen) (hs : len < pos + k) :
    Calls Try.prog 88 #[.pointer (some ⟨p, 0, none⟩), .pointer (some ⟨q, 0, none⟩)] w fun e w' => ∃ p, e = .panicked [{ v := .iface 131 (.int .i64 20), recovered := false }] ∧ w.grownBy w' (some r) ∧ Rd w' r (.slice a len cap) p er := by
  have hN := nextFixed_short r k a len cap pos er w hk hR hpl hlen hs
  go_enter Try.func88, Try.ntmps88
  go_wp2_with (go_at_call 76; refine hN.mono ?_; rintro e w' ⟨rfl, j, rfl⟩)
  exact ⟨rfl, pos, rfl, gdrewN (World.grownBy.refl _ _) _, hR.drewN _⟩

def xRes (bs : List UInt8) (x : Int) : Nat × Nat × Int :=
  if 1 ≤ x ∧ x ≤ 8 then (if bs.length < x.toNat then (0, 0, 20) else (leNat (bs.take x.toNat), x.toNat, 0)) else (0, 0, 1)

set_option maxHeartbeats 1000000 in
theorem ReadFixed_any (a : Option Addr) (l c : Nat) (bs : List UInt8) (x : Int) (n m : Nat) (er : Int) (w : World) (hr : Reads w (.slice a l c) bs) (h : xRes bs x = (n, m, er)) :
    Calls Try.prog 24 #[.slice a l c, .int .i64 x] w fun e w' => e = .returned (.tuple #[.int .u64 (n : Int), .int .i64 (m : Int), .int .i64 er]) ∧ Below w.heap.size w w' := by
  have hmf : ∀ (fn : Fn) (first cap : Array Value) (w : World), (Instr.makeFunc fn first cap).run Try.prog w = .ok (.func fn first cap) w := fun _ _ _ _ => rfl
  obtain ⟨w0, hw0⟩ : ∃ w0, w0 = (((w.alloc (.cells #[.int .i64 x] 3)).alloc (.cells #[.bool true, .slice a l c, .int .i64 0, .int .i64 0] 116)).alloc (.cells #[.pointer (some ⟨w.heap.size + 1, 0, none⟩)] 58)) := ⟨_, rfl⟩
  have hg0 : w.grownBy w0 none := by rw [hw0]; exact galloc (galloc (World.grownBy_alloc w _ _) _) _
  have hr0 : Reads w0 (.slice a l c) bs := hr.new hg0
  have hR0 : Rd w0 (w.heap.size + 1) (.slice a l c) 0 0 := by
    rw [hw0]
    have := rd_made (.slice a l c) (w.alloc (.cells #[.int .i64 x] 3))
    rw [show (w.alloc (.cells #[.int .i64 x] 3)).heap.size = w.heap.size + 1 by simp] at this
    exact this.kept (World.grownBy_alloc _ _ none) (by simp)
  have hp0 : w0.cell? ⟨w.heap.size + 1 + 1, 0, none⟩ = some (.pointer (some ⟨w.heap.size + 1, 0, none⟩)) := by rw [hw0]; simp [go_sem]
  have hq0 : w0.cell? ⟨w.heap.size, 0, none⟩ = some (.int .i64 x) := by rw [hw0]; simp [go_sem]
  have hon : Calls Try.prog 71 #[.pointer (some ⟨w.heap.size + 1, 0, none⟩), .func (.func 75) #[] #[.pointer (some ⟨w.heap.size + 1 + 1, 0, none⟩), .pointer (some ⟨w.heap.size, 0, none⟩)]] w0 fun e w' => e = .returned (.int .u64 (n : Int)) ∧ Rd w' (w.heap.size + 1) (.slice a l c) m er ∧ w0.grownBy w' (some (w.heap.size + 1)) := by
    obtain ⟨rfl, hc, hm⟩ := hr.slice
    unfold xRes at h
    split at h
    · rename_i hx
      obtain ⟨k, rfl⟩ := Int.eq_ofNat_of_zero_le (show 0 ≤ x by omega)
      rw [Int.toNat_natCast] at h
      split at h
      · rename_i hsh
        simp only [Prod.mk.injEq] at h
        obtain ⟨rfl, rfl, rfl⟩ := h
        exact (on_bad_u64 (w.heap.size + 1) (.slice a bs.length c) 0 20 75 #[] #[.pointer (some ⟨w.heap.size + 1 + 1, 0, none⟩), .pointer (some ⟨w.heap.size, 0, none⟩)] w0 hR0 enters_ReadFixed1 (fun w2 hg => by rw [Array.empty_append]; exact ReadFixed1_short (w.heap.size + 1 + 1) w.heap.size (w.heap.size + 1) k a bs.length c 0 0 w2 (hg.cell hp0 (by simp)) (hg.cell hq0 (by simp)) (by omega) (hR0.new hg) (by omega) (by omega) (by omega))).mono fun e w' ⟨he, hg, hR⟩ => ⟨he, hR, hg⟩
      · rename_i hsh
        simp only [Prod.mk.injEq] at h
        obtain ⟨rfl, rfl, rfl⟩ := h
        refine (on_ok_u64 (w.heap.size + 1) (.slice a bs.length c) 0 75 #[] #[.pointer (some ⟨w.heap.size + 1 + 1, 0, none⟩), .pointer (some ⟨w.heap.size, 0, none⟩)] (fun v w' => v = .int .u64 ((leNat (bs.take k) : Nat) : Int) ∧ Rd w' (w.heap.size + 1) (.slice a bs.length c) k 0) w0 hR0 enters_ReadFixed1 (fun w2 hg => ?_)).mono fun e w' ⟨v, he, ⟨hv, hR⟩, hg⟩ => ⟨by rw [he, hv], hR, hg⟩
        rw [Array.empty_append]
        refine (ReadFixed1_ok (w.heap.size + 1 + 1) w.heap.size (w.heap.size + 1) k a bs.length c bs 0 0 w2 (hg.cell hp0 (by simp)) (hg.cell hq0 (by simp)) (by omega) (hR0.new hg) (hr0.new hg) (by omega)).mono ?_
        rintro e w3 ⟨rfl, hg3, hR3⟩
        rw [Nat.zero_add] at hR3
        rw [List.drop_zero]
        exact ⟨_, rfl, ⟨rfl, hR3⟩, hg3⟩
    · rename_i hx
      simp only [Prod.mk.injEq] at h
      obtain ⟨rfl, rfl, rfl⟩ := h
      exact (on_bad_u64 (w.heap.size + 1) (.slice a bs.length c) 0 1 75 #[] #[.pointer (some ⟨w.heap.size + 1 + 1, 0, none⟩), .pointer (some ⟨w.heap.size, 0, none⟩)] w0 hR0 enters_ReadFixed1 (fun w2 hg => by rw [Array.empty_append]; exact ReadFixed1_range (w.heap.size + 1 + 1) w.heap.size (w.heap.size + 1) x (.slice a bs.length c) 0 0 w2 (hg.cell hp0 (by simp)) (hg.cell hq0 (by simp)) hx (hR0.new hg))).mono fun e w' ⟨he, hg, hR⟩ => ⟨he, hR, hg⟩
  have hP := Lib.hid hp0
  rw [hw0] at hon
  clear h hp0 hq0 hR0 hr0
  go_enter Try.func24, Try.ntmps24
  go_wp2_with (go_at_call 70; refine (over_any a l c _).mono ?_; rintro e w' ⟨rfl, rfl⟩)
  refine hon.mono ?_
  rintro e w' ⟨rfl, hR, hg⟩
  rw [← hw0] at hg
  have h2 := hR.at
  have h3 := hR.err
  have h4 := hg.cell hP.out (by simp)
  have hB := gbelow (gnew hg0 hg (fun r' e => .inl (by simp at e; omega))) (Nat.le_refl _) (by simp)
  clear hw0 hP hg hg0 hR
  go_wp2
  go_quiet (fail)
  go_wp2
  go_ret3
  exact ⟨rfl, ⟨hB.os, hB.tape, hB.output, hB.size, hB.block⟩⟩
end Go.Proofs.Ytilbccjgaaembaa
