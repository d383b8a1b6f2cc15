/-
  LAYER 2 (codec): LEAVES: isMade, Err, over, next.
-/
import Derived.Test.YtpdacbiiaglodaaGreatQG01
import Derived.Test.YtpdacbiiaglodaaGreatRows
import Derived.WalkKit
import Derived.WalkSpells
import Derived.WalkLawsBesides
import Derived.BigQuiet
import Derived.Deep.QuietTactic
import Derived.Test.YtpdacbiiaglodaaGreatQG02
import Derived.Lib.VarintBits
import Derived.Defers
import Derived.Recover
import Derived.Laws.Pointers
import Derived.Maps.RangeWalk
import Derived.Shelf.Small.Bits
import Derived.Shelf.Small.Strs
import Derived.Shelf.Small.Wraps
import Derived.Shelf.Strconv.Itoa0
import Derived.Ground.Names2Prog
import Derived.Shelf.Slices.SearchI
import Derived.Test.YtpdacbiiaglodaaGreatProg
namespace Go.Proofs.YtpdacbiiaglodaaGreat
set_option maxRecDepth 100000
open Go.RowKit Go.Lib

set_option maxHeartbeats 400000 in
theorem isMade_rd (r : Nat) (vb : Value) (pos : Nat) (err : Int) (w : World) (h : Rd w r vb pos err) :
    Calls Tryz.prog 178 #[.pointer (some ⟨r, 0, none⟩)] w fun e w' => e = .returned (.bool true) ∧ w = w' := by
  have h0 := h.made
  go_enter Tryz.func178, Tryz.ntmps178
  go_wp2
  go_ret
  exact ⟨rfl, rfl⟩

set_option maxHeartbeats 400000 in
theorem err_rd (r : Nat) (vb : Value) (pos : Nat) (err : Int) (w : World) (h : Rd w r vb pos err) :
    Calls Tryz.prog 152 #[.pointer (some ⟨r, 0, none⟩)] w fun e w' => e = .returned (.int .i64 err) ∧ w = w' := by
  have h3 := h.err
  go_enter Tryz.func152, Tryz.ntmps152
  go_wp2_with (go_at_call 178; refine (isMade_rd _ _ _ _ _ h).mono ?_; rintro e w' ⟨rfl, rfl⟩)
  go_ret
  exact ⟨rfl, rfl⟩

set_option maxHeartbeats 400000 in
theorem over_any (a : Option Addr) (l c : Nat) (w : World) :
    Calls Tryz.prog 144 #[.slice a l c] w fun e w' => e = .returned (.pointer (some ⟨w.heap.size, 0, none⟩)) ∧ w' = w.alloc (.cells #[.bool true, .slice a l c, .int .i64 0, .int .i64 0] 214) := by
  go_enter Tryz.func144, Tryz.ntmps144
  go_wp2
  go_ret
  exact ⟨rfl, rfl⟩

set_option maxHeartbeats 400000 in
theorem next_neg (r : Nat) (n : Int) (w : World) (hn : n < 0) :
    Calls Tryz.prog 148 #[.pointer (some ⟨r, 0, none⟩), .int .i64 n] w fun e w' => e = .panicked [{ v := .iface 228 (.int .i64 1), recovered := false }] ∧ w = w' := by
  go_enter Tryz.func148, Tryz.ntmps148
  go_wp2
  exact ⟨rfl, rfl, rfl⟩

set_option maxHeartbeats 400000 in
theorem next_short (r : Nat) (n : Int) (a : Option Addr) (len cap : Nat) (pos : Nat) (er : Int) (w : World) (hn : 0 ≤ n) (h : Rd w r (.slice a len cap) pos er) (hp : pos ≤ len) (hlen : len ≤ maxLen) (hs : (len : Int) - pos < n) :
    Calls Tryz.prog 148 #[.pointer (some ⟨r, 0, none⟩), .int .i64 n] w fun e w' => e = .panicked [{ v := .iface 228 (.int .i64 20), recovered := false }] ∧ ∃ k, w' = w.drewN k := by
  unfold maxLen at hlen
  have h1 := h.bytes
  have h2 := h.at
  go_enter Tryz.func148, Tryz.ntmps148
  go_wp2
  go_quiet (fail)
  go_wp2
  exact ⟨rfl, rfl, ⟨_, rfl⟩⟩

set_option maxHeartbeats 400000 in
theorem next_ok (r : Nat) (n : Nat) (a : Option Addr) (len cap : Nat) (bs : List UInt8) (pos : Nat) (er : Int) (w : World) (hR : Rd w r (.slice a len cap) pos er) (hr : Reads w (.slice a len cap) bs) (hs : pos + n ≤ bs.length) :
    Calls Tryz.prog 148 #[.pointer (some ⟨r, 0, none⟩), .int .i64 (n : Int)] w fun e w' => ∃ v, e = .returned v ∧ w.grownBy w' (some r) ∧ Rd w' r (.slice a len cap) (pos + n) er ∧ Reads w' v ((bs.drop pos).take n) ∧ (v.ownBlock = a.map (·.block)) := by
  obtain ⟨rfl, hc, hm⟩ := hr.slice
  unfold maxLen at hm
  have h1 := hR.bytes
  have h2 := hR.at
  have hf := hR.free 2
  go_enter Tryz.func148, Tryz.ntmps148
  go_wp2
  go_quiet (fail)
  go_wp2
  go_quiet (fail)
  go_wp2
  all_goals
    go_ret
    rename_i e1 k1 e2
    have hh := (hR.drewN k1).setAt (pos + n)
    have hg : w.grownBy (((w.drewN k1).setCell ⟨r, 2, none⟩ (.int .i64 ((pos + n : Nat) : Int))).drewN nq) (some r) := gdrewN (gset (gdrewN (World.grownBy.refl w _) _) _ _) _
    have hk : Reads (((w.drewN k1).setCell ⟨r, 2, none⟩ (.int .i64 ((pos + n : Nat) : Int))).drewN nq) (.slice a bs.length cap) bs := hR.carry hr hg
  · subst h
    obtain rfl : n = 0 := by omega
    exact ⟨.slice a 0 0, rfl, hg, hh, by simpa using hk.nothing, by cases a <;> rfl⟩
  · exact ⟨.slice (a.map fun x => x.add pos) n (cap - pos), rfl, hg, hh, hk.cut pos n hs, by cases a <;> simp [Value.ownBlock, Addr.add]; split <;> rfl⟩
end Go.Proofs.YtpdacbiiaglodaaGreat

/-
  LAYER 2 (codec): nextUint.
-/
namespace Go.Proofs.YtpdacbiiaglodaaGreat
set_option maxRecDepth 100000
open Go.RowKit Go.Lib

set_option maxHeartbeats 1000000 in
set_option maxRecDepth 20000 in
theorem nextUint_ok (r : Nat) (a : Option Addr) (len cap : Nat) (bs : List UInt8) (pos : Nat) (er : Int) (n m : Nat) (w : World) (hR : Rd w r (.slice a len cap) pos er) (hr : Reads w (.slice a len cap) bs) (hs : pos ≤ bs.length) (hrd : rd 0 0 (bs.drop pos) = .ok (n, m)) :
    Calls Tryz.prog 197 #[.pointer (some ⟨r, 0, none⟩)] w fun e w' => e = .returned (.int .u64 (n : Int)) ∧ w.grownBy w' (some r) ∧ Rd w' r (.slice a len cap) (pos + m) er := by
  obtain ⟨rfl, hc, hm⟩ := hr.slice
  have hrd' := Lib.hid hrd; clear hrd
  go_enter Tryz.func197, Tryz.ntmps197
  go_wp2
  go_loopw [3, 4] (fun vn vi wr => ∃ i acc : Nat, vi = .int .i64 (i : Int) ∧ vn = .int .u64 (acc : Int) ∧ i ≤ 9 ∧ acc < 2 ^ (7 * i) ∧ Hid (rd i acc (bs.drop (pos + i)) = .ok (n, m)) ∧ pos + i ≤ bs.length ∧ w.grownBy wr (some r) ∧ Rd wr r (.slice a bs.length cap) (pos + i) er ∧ Reads wr (.slice a bs.length cap) bs) (fun _ vi _ => 10 - (RowKit.intOf vi).toNat)
  case atStart => exact ⟨0, 0, rfl, rfl, by omega, by decide, hrd', by omega, World.grownBy.refl _ _, hR, hr⟩
  case round =>
    obtain ⟨i, acc, rfl, rfl, hi, hacc, hrd, hle, hg, hR1, hr1⟩ := hrel
    have hrd1 := hrd.out; clear hrd
    by_cases hlt : pos + i < bs.length
    · have hdrop : bs.drop (pos + i) = bs[pos + i] :: bs.drop (pos + i + 1) := List.drop_eq_getElem_cons (by omega)
      rw [hdrop] at hrd1
      have hnext := next_ok r 1 a bs.length cap bs (pos + i) er wr hR1 hr1 (by omega)
      rw [hdrop] at hnext
      generalize bs[pos + i] = c at hrd1 hnext
      simp only [List.take_succ_cons, List.take_zero] at hnext
      clear hdrop
      have hb := c.toNat_lt
      by_cases hbad : (i = 9 ∧ 1 < c.toNat) ∨ (0 < i ∧ c.toNat = 0)
      · rw [rd, if_pos hbad] at hrd1; cases hrd1
      · rw [rd, if_neg hbad] at hrd1
        have hA := Lib.hid hacc
        have hH := hrd1
        clear hrd1
        have hHid := Lib.hid hH; clear hH
        have hBad := Lib.hid hbad
        by_cases hi9 : i = 9
        · subst hi9
          have hc1 : c.toNat ≤ 1 := by omega
          have hz : ((c.toNat : Int) == 0) = false := by rw [beq_eq_false_iff_ne]; omega
          clear hbad hacc
          go_wp2_with (go_at_call 148; refine hnext.mono ?_; rintro e w1 ⟨v, rfl, hg1, hR2, hrv, -⟩)
          obtain ⟨b, off, cap', rfl, hcell⟩ := hrv.one
          go_wp2
          go_simp
          go_wp2
          have hH := hHid.out
          rw [if_pos (by omega)] at hH
          have hv := orv (c := c.toNat) (P := 9223372036854775808) (by decide) hi hA.out hb (by omega)
          rw [Nat.mod_eq_of_lt (show c.toNat < 128 by omega)] at hv
          simp only [Except.ok.injEq, Prod.mk.injEq] at hH
          obtain ⟨rfl, rfl⟩ := hH
          go_ret
          exact ⟨congrArg (fun x => Ending.returned (Value.int .u64 x)) hv, hg.trans hg1, hR2⟩
        · by_cases hi0 : i = 0
          · subst hi0
            clear hbad hacc
            go_wp2_with (go_at_call 148; refine hnext.mono ?_; rintro e w1 ⟨v, rfl, hg1, hR2, hrv, -⟩)
            obtain ⟨b, off, cap', rfl, hcell⟩ := hrv.one
            go_wp2
            go_simp
            go_wp2
            all_goals
              have hv := orv (c := c.toNat) (P := 1) (by decide) hi hA.out hb (by omega)
              rw [Int.mul_one] at hv
              have hH := hHid.out
            · have hlt : (c.toNat : Int) < 128 := by assumption
              rw [if_pos (by omega)] at hH
              rw [Nat.mod_eq_of_lt (show c.toNat < 128 by omega)] at hv
              simp only [Except.ok.injEq, Prod.mk.injEq] at hH
              obtain ⟨rfl, rfl⟩ := hH
              go_ret
              exact ⟨congrArg (fun x => Ending.returned (Value.int .u64 x)) hv, hg.trans hg1, hR2⟩
            · have hlt : 128 ≤ (c.toNat : Int) := by assumption
              rw [if_neg (by omega)] at hH
              exact ⟨⟨1, _, rfl, congrArg (Value.int .u64) hv, by omega, (rd_fits hi hA.out (Nat.mod_lt _ (by decide)) (by omega)).2 (by omega), hH, by omega, hg.trans hg1, hR2, hR1.carry hr1 hg1⟩, by simp [RowKit.intOf]⟩
          · have hi8 : i ≤ 8 := by omega
            have hn9 : ((i : Int) == 9) = false := by rw [beq_eq_false_iff_ne]; omega
            have hi1 : 1 ≤ i := by omega
            have hz : ((c.toNat : Int) == 0) = false := by rw [beq_eq_false_iff_ne]; omega
            clear hacc hbad hi9 hi0
            go_wp2_with (go_at_call 148; refine hnext.mono ?_; rintro e w1 ⟨v, rfl, hg1, hR2, hrv, -⟩)
            obtain ⟨b, off, cap', rfl, hcell⟩ := hrv.one
            go_wp2
            go_simp
            go_wp2
            all_goals
              have hv := orv (c := c.toNat) (P := 2 ^ (7 * i)) (by simp) hi hA.out hb (by omega)
              have hH := hHid.out
            · have hlt : (c.toNat : Int) < 128 := by assumption
              rw [if_pos (by omega)] at hH
              rw [Nat.mod_eq_of_lt (show c.toNat < 128 by omega)] at hv
              simp only [Except.ok.injEq, Prod.mk.injEq] at hH
              obtain ⟨rfl, rfl⟩ := hH
              go_ret
              exact ⟨congrArg (fun x => Ending.returned (Value.int .u64 x)) hv, hg.trans hg1, hR2⟩
            · have hlt : 128 ≤ (c.toNat : Int) := by assumption
              rw [if_neg (by omega)] at hH
              exact ⟨⟨i + 1, _, by go_num, congrArg (Value.int .u64) hv, by omega, (rd_fits hi hA.out (Nat.mod_lt _ (by decide)) (by omega)).2 (by omega), hH, by omega, hg.trans hg1, hR2, hR1.carry hr1 hg1⟩, by simp [RowKit.intOf]; omega⟩
    · rw [List.drop_eq_nil_of_le (by omega), rd] at hrd1
      cases hrd1

set_option maxHeartbeats 1000000 in
set_option maxRecDepth 20000 in
theorem nextUint_bad (r : Nat) (a : Option Addr) (len cap : Nat) (bs : List UInt8) (pos : Nat) (er : Int) (x : Int) (w : World) (hR : Rd w r (.slice a len cap) pos er) (hr : Reads w (.slice a len cap) bs) (hs : pos ≤ bs.length) (hrd : rd 0 0 (bs.drop pos) = .error x) :
    Calls Tryz.prog 197 #[.pointer (some ⟨r, 0, none⟩)] w fun e w' => ∃ p, e = .panicked [{ v := .iface 228 (.int .i64 x), recovered := false }] ∧ w.grownBy w' (some r) ∧ Rd w' r (.slice a len cap) p er := by
  obtain ⟨rfl, hc, hm⟩ := hr.slice
  have hrd' := Lib.hid hrd; clear hrd
  go_enter Tryz.func197, Tryz.ntmps197
  go_wp2
  go_loopw [3, 4] (fun vn vi wr => ∃ i acc : Nat, vi = .int .i64 (i : Int) ∧ vn = .int .u64 (acc : Int) ∧ i ≤ 9 ∧ acc < 2 ^ (7 * i) ∧ Hid (rd i acc (bs.drop (pos + i)) = .error x) ∧ pos + i ≤ bs.length ∧ w.grownBy wr (some r) ∧ Rd wr r (.slice a bs.length cap) (pos + i) er ∧ Reads wr (.slice a bs.length cap) bs) (fun _ vi _ => 10 - (RowKit.intOf vi).toNat)
  case atStart => exact ⟨0, 0, rfl, rfl, by omega, by decide, hrd', by omega, World.grownBy.refl _ _, hR, hr⟩
  case round =>
    obtain ⟨i, acc, rfl, rfl, hi, hacc, hrd, hle, hg, hR1, hr1⟩ := hrel
    have hrd1 := hrd.out; clear hrd
    by_cases hlt : pos + i < bs.length
    · have hdrop : bs.drop (pos + i) = bs[pos + i] :: bs.drop (pos + i + 1) := List.drop_eq_getElem_cons (by omega)
      rw [hdrop] at hrd1
      have hnext := next_ok r 1 a bs.length cap bs (pos + i) er wr hR1 hr1 (by omega)
      rw [hdrop] at hnext
      generalize bs[pos + i] = c at hrd1 hnext
      simp only [List.take_succ_cons, List.take_zero] at hnext
      clear hdrop
      have hb := c.toNat_lt
      by_cases hbad : (i = 9 ∧ 1 < c.toNat) ∨ (0 < i ∧ c.toNat = 0)
      · rw [rd, if_pos hbad] at hrd1
        simp only [Except.error.injEq] at hrd1
        subst hrd1
        by_cases h9 : i = 9 ∧ 1 < c.toNat
        · obtain ⟨rfl, h1⟩ := h9
          have h1' : 1 < (c.toNat : Int) := by omega
          clear hbad hacc
          go_wp2_with (go_at_call 148; refine hnext.mono ?_; rintro e w1 ⟨v, rfl, hg1, hR2, hrv, -⟩)
          obtain ⟨b, off, cap', rfl, hcell⟩ := hrv.one
          go_wp2
          go_simp
          go_wp2
          exact ⟨rfl, _, rfl, hg.trans hg1, hR2⟩
        · have h0 : 0 < i ∧ c.toNat = 0 := by omega
          obtain ⟨hi1, h0⟩ := h0
          have hi1' : (0 : Int) < (i : Int) := by omega
          have hz : ((c.toNat : Int) == 0) = true := by rw [beq_iff_eq]; omega
          have hz1 : decide (1 < (c.toNat : Int)) = false := by rw [decide_eq_false_iff_not]; omega
          clear hbad hacc h9
          have h0' := Lib.hid h0
          clear h0
          go_wp2_with (go_at_call 148; refine hnext.mono ?_; rintro e w1 ⟨v, rfl, hg1, hR2, hrv, -⟩)
          obtain ⟨b, off, cap', rfl, hcell⟩ := hrv.one
          go_wp2
          go_simp
          go_wp2
          all_goals first | exact ⟨rfl, _, rfl, hg.trans hg1, hR2⟩ | (exfalso; have := h0'.out; simp_all; done)
      · rw [rd, if_neg hbad] at hrd1
        have hA := Lib.hid hacc
        have hH := hrd1
        clear hrd1
        have hHid := Lib.hid hH
        have hBad := Lib.hid hbad
        have h128 : ¬ c.toNat < 128 := fun hx => by rw [if_pos hx] at hH; cases hH
        have h128' : 128 ≤ (c.toNat : Int) := by omega
        clear hH
        have hi8 : i ≤ 8 := by omega
        by_cases hi0 : i = 0
        · subst hi0
          clear hbad hacc h128
          go_wp2_with (go_at_call 148; refine hnext.mono ?_; rintro e w1 ⟨v, rfl, hg1, hR2, hrv, -⟩)
          obtain ⟨b, off, cap', rfl, hcell⟩ := hrv.one
          go_wp2
          go_simp
          go_wp2
          have hv := orv (c := c.toNat) (P := 1) (by decide) hi hA.out hb (by omega)
          rw [Int.mul_one] at hv
          have hH := hHid.out
          rw [if_neg (by omega)] at hH
          exact ⟨⟨1, _, rfl, congrArg (Value.int .u64) hv, by omega, (rd_fits hi hA.out (Nat.mod_lt _ (by decide)) (by omega)).2 (by omega), hH, by omega, hg.trans hg1, hR2, hR1.carry hr1 hg1⟩, by simp [RowKit.intOf]⟩
        · have hn9 : ((i : Int) == 9) = false := by rw [beq_eq_false_iff_ne]; omega
          have hi1 : 1 ≤ i := by omega
          have hz : ((c.toNat : Int) == 0) = false := by rw [beq_eq_false_iff_ne]; omega
          clear hacc hbad hi0 h128
          go_wp2_with (go_at_call 148; refine hnext.mono ?_; rintro e w1 ⟨v, rfl, hg1, hR2, hrv, -⟩)
          obtain ⟨b, off, cap', rfl, hcell⟩ := hrv.one
          go_wp2
          go_simp
          go_wp2
          have hv := orv (c := c.toNat) (P := 2 ^ (7 * i)) (by simp) hi hA.out hb (by omega)
          have hH := hHid.out
          rw [if_neg (by omega)] at hH
          exact ⟨⟨i + 1, _, by go_num, congrArg (Value.int .u64) hv, by omega, (rd_fits hi hA.out (Nat.mod_lt _ (by decide)) (by omega)).2 (by omega), hH, by omega, hg.trans hg1, hR2, hR1.carry hr1 hg1⟩, by simp [RowKit.intOf]; omega⟩
    · rw [List.drop_eq_nil_of_le (by omega), rd] at hrd1
      simp only [Except.error.injEq] at hrd1
      subst hrd1
      clear hacc
      go_wp2_with (go_at_call 148; refine (next_short r 1 a bs.length cap (pos + i) er wr (by omega) hR1 hle (by omega) (by omega)).mono ?_; rintro e w1 ⟨rfl, k, rfl⟩)
      go_wp2
      exact ⟨rfl, _, rfl, gdrewN hg _, hR1.drewN _⟩
end Go.Proofs.YtpdacbiiaglodaaGreat

/-
  LAYER 2 (codec): on[T]: the deferred closure (a fault is taken back, or nothing is there), and on itself.
-/
namespace Go.Proofs.YtpdacbiiaglodaaGreat
set_option maxRecDepth 100000
open Go.RowKit Go.Lib

theorem assert_fault (x : Int) (w : World) : (Instr.typeAssert (.iface 228 (.int .i64 x)) 20 228 true).run Tryz.prog w = .ok (.tuple #[.int .i64 x, .bool true]) w := by kernel_rfl

set_option maxHeartbeats 1000000 in
theorem catch_idle_u64 (p q : Addr) (w : World) :
    CallsD Tryz.prog 209 #[.pointer (some p), .pointer (some q)] .returning w fun e u' w' => e = .returned (.tuple #[]) ∧ u' = .returning ∧ w' = w := by
  refine callsD_of_wpS Tryz.func209 rfl fun c₀ cs hu => ?_
  simp only [Tryz.ntmps209, List.size_toArray, List.length_cons, List.length_nil, Nat.reduceAdd, Nat.reduceSub, Array.replicate_succ, Array.replicate_zero, List.push_toArray, List.append_toArray, List.nil_append, List.cons_append]
  apply wpS_seq
  apply wpS_region
  simp [wpOpsS, go_sem, recoverD, hu, Exit.thenS]
  refine wpS_of_wp ?_
  go_wp2
  cases c₀
  simp_all [bodyPostS, results, Tryz.results209]

set_option maxHeartbeats 1000000 in
theorem catch_fault_u64 (bp bq r : Nat) (vb : Value) (pos p' : Nat) (er x : Int) (older : List PanicEntry) (w : World) (hR : Rd w r vb p' er)
    (hp : w.cell? ⟨bp, 0, none⟩ = some (.int .i64 (pos : Int))) (hq : w.cell? ⟨bq, 0, none⟩ = some (.pointer (some ⟨r, 0, none⟩))) :
    CallsD Tryz.prog 209 #[.pointer (some ⟨bp, 0, none⟩), .pointer (some ⟨bq, 0, none⟩)] (.panicking ({ v := .iface 228 (.int .i64 x), recovered := false } :: older)) w fun e u' w' =>
      e = .returned (.tuple #[]) ∧ u' = .panicking ({ v := .iface 228 (.int .i64 x), recovered := true } :: older) ∧ w' = (w.setCell ⟨r, 2, none⟩ (.int .i64 (pos : Int))).setCell ⟨r, 3, none⟩ (.int .i64 x) := by
  have h2 := hR.at
  have h3 := hR.err
  have f2 := hR.free 2
  have f3 := hR.free 3
  have hta := assert_fault
  refine callsD_of_wpS Tryz.func209 rfl fun c₀ cs hu => ?_
  simp only [Tryz.ntmps209, List.size_toArray, List.length_cons, List.length_nil, Nat.reduceAdd, Nat.reduceSub, Array.replicate_succ, Array.replicate_zero, List.push_toArray, List.append_toArray, List.nil_append, List.cons_append]
  apply wpS_seq
  apply wpS_region
  simp [wpOpsS, go_sem, recoverD, hu, Exit.thenS]
  refine wpS_of_wp ?_
  go_wp2
  cases c₀
  simp_all [bodyPostS, results, Tryz.results209]

set_option maxHeartbeats 1000000 in
theorem on_ok_u64 (r : Nat) (vb : Value) (pos : Nat) (f : FuncId) (first cap : Array Value) (Q : Value → World → Prop) (w : World) (hR : Rd w r vb pos 0)
    (hent : ∀ (args : Array Value) (w : World), (callFunc f args).run Tryz.prog w = .ok (.enter f args) w)
    (hcall : ∀ w2, w.grownBy w2 none → Calls Tryz.prog f (first ++ cap) w2 fun e w3 => ∃ v, e = .returned v ∧ Q v w3 ∧ w2.grownBy w3 (some r)) :
    Calls Tryz.prog 196 #[.pointer (some ⟨r, 0, none⟩), .func (.func f) first cap] w fun e w' => ∃ v, e = .returned v ∧ Q v w' ∧ w.grownBy w' (some r) := by
  have hmf : ∀ (fn : Fn) (first cap : Array Value) (w : World), (Instr.makeFunc fn first cap).run Tryz.prog w = .ok (.func fn first cap) w := fun _ _ _ _ => rfl
  have hlt := hR.lt
  have h2 := hR.at
  have hg0 : w.grownBy ((w.alloc (.cells #[.pointer (some ⟨r, 0, none⟩)] 179)).alloc (.cells #[.int .i64 (pos : Int)] 3)) none := galloc (World.grownBy_alloc w _ _) _
  have hR0 : Rd (w.alloc (.cells #[.pointer (some ⟨r, 0, none⟩)] 179)) r vb pos 0 := hR.kept (World.grownBy_alloc w _ none) (by simp)
  have hc := hcall _ hg0
  clear hcall
  go_enter_defers Tryz.func196, Tryz.ntmps196
  go_wp2_with (go_at_call 152; refine (err_rd _ _ _ _ _ hR0).mono ?_; rintro e w' ⟨rfl, rfl⟩)
  refine hc.mono ?_
  rintro e w3 ⟨v, rfl, hq, hg⟩
  go_wp2
  refine leaves_cons (f := 209) (args := #[.pointer (some ⟨w.heap.size + 1, 0, none⟩), .pointer (some ⟨w.heap.size, 0, none⟩)]) (by simp) (by simp [go_sem]) ?_
  refine (catch_idle_u64 _ _ _).mono ?_
  rintro e u' w'' ⟨rfl, rfl, rfl⟩
  refine ⟨_, results_tmp rfl _ _ _, ?_⟩
  exact ⟨v, rfl, hq, gnew (hg0.but _) hg (fun r' e => .inr e)⟩

set_option maxHeartbeats 1000000 in
theorem on_bad_u64 (r : Nat) (vb : Value) (pos : Nat) (x : Int) (f : FuncId) (first cap : Array Value) (w : World) (hR : Rd w r vb pos 0)
    (hent : ∀ (args : Array Value) (w : World), (callFunc f args).run Tryz.prog w = .ok (.enter f args) w)
    (hcall : ∀ w2, w.grownBy w2 none → Calls Tryz.prog f (first ++ cap) w2 fun e w3 => ∃ p, e = .panicked [{ v := .iface 228 (.int .i64 x), recovered := false }] ∧ w2.grownBy w3 (some r) ∧ Rd w3 r vb p 0) :
    Calls Tryz.prog 196 #[.pointer (some ⟨r, 0, none⟩), .func (.func f) first cap] w fun e w' => e = .returned (.int .u64 0) ∧ w.grownBy w' (some r) ∧ Rd w' r vb pos x := by
  have hmf : ∀ (fn : Fn) (first cap : Array Value) (w : World), (Instr.makeFunc fn first cap).run Tryz.prog w = .ok (.func fn first cap) w := fun _ _ _ _ => rfl
  have hlt := hR.lt
  have h2 := hR.at
  have hg0 : w.grownBy ((w.alloc (.cells #[.pointer (some ⟨r, 0, none⟩)] 179)).alloc (.cells #[.int .i64 (pos : Int)] 3)) none := galloc (World.grownBy_alloc w _ _) _
  have hR0 : Rd (w.alloc (.cells #[.pointer (some ⟨r, 0, none⟩)] 179)) r vb pos 0 := hR.kept (World.grownBy_alloc w _ none) (by simp)
  have hc := hcall _ hg0
  clear hcall
  go_enter_defers Tryz.func196, Tryz.ntmps196
  go_wp2_with (go_at_call 152; refine (err_rd _ _ _ _ _ hR0).mono ?_; rintro e w' ⟨rfl, rfl⟩)
  refine hc.mono ?_
  rintro e w3 ⟨p, rfl, hg, hR3⟩
  have hb1 : w3.cell? ⟨w.heap.size + 1, 0, none⟩ = some (.int .i64 (pos : Int)) := hg.cell (by simp [go_sem]) (by simp; omega)
  have hb2 : w3.cell? ⟨w.heap.size, 0, none⟩ = some (.pointer (some ⟨r, 0, none⟩)) := hg.cell (by simp [go_sem]) (by simp; omega)
  go_wp2
  refine leaves_cons (f := 209) (args := #[.pointer (some ⟨w.heap.size + 1, 0, none⟩), .pointer (some ⟨w.heap.size, 0, none⟩)]) (by simp) (by simp [go_sem]) ?_
  refine (catch_fault_u64 _ _ r vb pos p 0 x [] w3 hR3 hb1 hb2).mono ?_
  rintro e u' w'' ⟨rfl, rfl, rfl⟩
  simp only [settle]
  exact ⟨_, results_tmp rfl _ _ _, rfl, gset (gset (gnew (hg0.but _) hg (fun r' e => .inr e)) _ _) _ _, (hR3.setAt pos).setErr x⟩

set_option maxHeartbeats 1000000 in
theorem on_err_u64 (r : Nat) (vb : Value) (pos : Nat) (er : Int) (fv : Value) (w : World) (hR : Rd w r vb pos er) (he : er ≠ 0) :
    Calls Tryz.prog 196 #[.pointer (some ⟨r, 0, none⟩), fv] w fun e w' => e = .returned (.int .u64 0) ∧ w.grownBy w' none := by
  have hR0 : Rd (w.alloc (.cells #[.pointer (some ⟨r, 0, none⟩)] 179)) r vb pos er := hR.kept (World.grownBy_alloc w _ none) (by simp)
  have hne : (er != 0) = true := by simpa using he
  clear he
  go_enter_defers Tryz.func196, Tryz.ntmps196
  go_wp2_with (go_at_call 152; refine (err_rd _ _ _ _ _ hR0).mono ?_; rintro e w' ⟨rfl, rfl⟩)
  exact ⟨_, results_tmp rfl _ _ _, rfl, World.grownBy_alloc w _ _⟩
set_option maxHeartbeats 1000000 in
theorem catch_idle_bs (p q : Addr) (w : World) :
    CallsD Tryz.prog 176 #[.pointer (some p), .pointer (some q)] .returning w fun e u' w' => e = .returned (.tuple #[]) ∧ u' = .returning ∧ w' = w := by
  refine callsD_of_wpS Tryz.func176 rfl fun c₀ cs hu => ?_
  simp only [Tryz.ntmps176, List.size_toArray, List.length_cons, List.length_nil, Nat.reduceAdd, Nat.reduceSub, Array.replicate_succ, Array.replicate_zero, List.push_toArray, List.append_toArray, List.nil_append, List.cons_append]
  apply wpS_seq
  apply wpS_region
  simp [wpOpsS, go_sem, recoverD, hu, Exit.thenS]
  refine wpS_of_wp ?_
  go_wp2
  cases c₀
  simp_all [bodyPostS, results, Tryz.results176]

set_option maxHeartbeats 1000000 in
theorem catch_fault_bs (bp bq r : Nat) (vb : Value) (pos p' : Nat) (er x : Int) (older : List PanicEntry) (w : World) (hR : Rd w r vb p' er)
    (hp : w.cell? ⟨bp, 0, none⟩ = some (.int .i64 (pos : Int))) (hq : w.cell? ⟨bq, 0, none⟩ = some (.pointer (some ⟨r, 0, none⟩))) :
    CallsD Tryz.prog 176 #[.pointer (some ⟨bp, 0, none⟩), .pointer (some ⟨bq, 0, none⟩)] (.panicking ({ v := .iface 228 (.int .i64 x), recovered := false } :: older)) w fun e u' w' =>
      e = .returned (.tuple #[]) ∧ u' = .panicking ({ v := .iface 228 (.int .i64 x), recovered := true } :: older) ∧ w' = (w.setCell ⟨r, 2, none⟩ (.int .i64 (pos : Int))).setCell ⟨r, 3, none⟩ (.int .i64 x) := by
  have h2 := hR.at
  have h3 := hR.err
  have f2 := hR.free 2
  have f3 := hR.free 3
  have hta := assert_fault
  refine callsD_of_wpS Tryz.func176 rfl fun c₀ cs hu => ?_
  simp only [Tryz.ntmps176, List.size_toArray, List.length_cons, List.length_nil, Nat.reduceAdd, Nat.reduceSub, Array.replicate_succ, Array.replicate_zero, List.push_toArray, List.append_toArray, List.nil_append, List.cons_append]
  apply wpS_seq
  apply wpS_region
  simp [wpOpsS, go_sem, recoverD, hu, Exit.thenS]
  refine wpS_of_wp ?_
  go_wp2
  cases c₀
  simp_all [bodyPostS, results, Tryz.results176]

set_option maxHeartbeats 1000000 in
theorem on_ok_bs (r : Nat) (vb : Value) (pos : Nat) (f : FuncId) (first cap : Array Value) (Q : Value → World → Prop) (w : World) (hR : Rd w r vb pos 0)
    (hent : ∀ (args : Array Value) (w : World), (callFunc f args).run Tryz.prog w = .ok (.enter f args) w)
    (hcall : ∀ w2, w.grownBy w2 none → Calls Tryz.prog f (first ++ cap) w2 fun e w3 => ∃ v, e = .returned v ∧ Q v w3 ∧ w2.grownBy w3 (some r)) :
    Calls Tryz.prog 146 #[.pointer (some ⟨r, 0, none⟩), .func (.func f) first cap] w fun e w' => ∃ v, e = .returned v ∧ Q v w' ∧ w.grownBy w' (some r) := by
  have hmf : ∀ (fn : Fn) (first cap : Array Value) (w : World), (Instr.makeFunc fn first cap).run Tryz.prog w = .ok (.func fn first cap) w := fun _ _ _ _ => rfl
  have hlt := hR.lt
  have h2 := hR.at
  have hg0 : w.grownBy ((w.alloc (.cells #[.pointer (some ⟨r, 0, none⟩)] 179)).alloc (.cells #[.int .i64 (pos : Int)] 3)) none := galloc (World.grownBy_alloc w _ _) _
  have hR0 : Rd (w.alloc (.cells #[.pointer (some ⟨r, 0, none⟩)] 179)) r vb pos 0 := hR.kept (World.grownBy_alloc w _ none) (by simp)
  have hc := hcall _ hg0
  clear hcall
  go_enter_defers Tryz.func146, Tryz.ntmps146
  go_wp2_with (go_at_call 152; refine (err_rd _ _ _ _ _ hR0).mono ?_; rintro e w' ⟨rfl, rfl⟩)
  refine hc.mono ?_
  rintro e w3 ⟨v, rfl, hq, hg⟩
  go_wp2
  refine leaves_cons (f := 176) (args := #[.pointer (some ⟨w.heap.size + 1, 0, none⟩), .pointer (some ⟨w.heap.size, 0, none⟩)]) (by simp) (by simp [go_sem]) ?_
  refine (catch_idle_bs _ _ _).mono ?_
  rintro e u' w'' ⟨rfl, rfl, rfl⟩
  refine ⟨_, results_tmp rfl _ _ _, ?_⟩
  exact ⟨v, rfl, hq, gnew (hg0.but _) hg (fun r' e => .inr e)⟩

set_option maxHeartbeats 1000000 in
theorem on_bad_bs (r : Nat) (vb : Value) (pos : Nat) (x : Int) (f : FuncId) (first cap : Array Value) (w : World) (hR : Rd w r vb pos 0)
    (hent : ∀ (args : Array Value) (w : World), (callFunc f args).run Tryz.prog w = .ok (.enter f args) w)
    (hcall : ∀ w2, w.grownBy w2 none → Calls Tryz.prog f (first ++ cap) w2 fun e w3 => ∃ p, e = .panicked [{ v := .iface 228 (.int .i64 x), recovered := false }] ∧ w2.grownBy w3 (some r) ∧ Rd w3 r vb p 0) :
    Calls Tryz.prog 146 #[.pointer (some ⟨r, 0, none⟩), .func (.func f) first cap] w fun e w' => e = .returned (.slice none 0 0) ∧ w.grownBy w' (some r) ∧ Rd w' r vb pos x := by
  have hmf : ∀ (fn : Fn) (first cap : Array Value) (w : World), (Instr.makeFunc fn first cap).run Tryz.prog w = .ok (.func fn first cap) w := fun _ _ _ _ => rfl
  have hlt := hR.lt
  have h2 := hR.at
  have hg0 : w.grownBy ((w.alloc (.cells #[.pointer (some ⟨r, 0, none⟩)] 179)).alloc (.cells #[.int .i64 (pos : Int)] 3)) none := galloc (World.grownBy_alloc w _ _) _
  have hR0 : Rd (w.alloc (.cells #[.pointer (some ⟨r, 0, none⟩)] 179)) r vb pos 0 := hR.kept (World.grownBy_alloc w _ none) (by simp)
  have hc := hcall _ hg0
  clear hcall
  go_enter_defers Tryz.func146, Tryz.ntmps146
  go_wp2_with (go_at_call 152; refine (err_rd _ _ _ _ _ hR0).mono ?_; rintro e w' ⟨rfl, rfl⟩)
  refine hc.mono ?_
  rintro e w3 ⟨p, rfl, hg, hR3⟩
  have hb1 : w3.cell? ⟨w.heap.size + 1, 0, none⟩ = some (.int .i64 (pos : Int)) := hg.cell (by simp [go_sem]) (by simp; omega)
  have hb2 : w3.cell? ⟨w.heap.size, 0, none⟩ = some (.pointer (some ⟨r, 0, none⟩)) := hg.cell (by simp [go_sem]) (by simp; omega)
  go_wp2
  refine leaves_cons (f := 176) (args := #[.pointer (some ⟨w.heap.size + 1, 0, none⟩), .pointer (some ⟨w.heap.size, 0, none⟩)]) (by simp) (by simp [go_sem]) ?_
  refine (catch_fault_bs _ _ r vb pos p 0 x [] w3 hR3 hb1 hb2).mono ?_
  rintro e u' w'' ⟨rfl, rfl, rfl⟩
  simp only [settle]
  exact ⟨_, results_tmp rfl _ _ _, rfl, gset (gset (gnew (hg0.but _) hg (fun r' e => .inr e)) _ _) _ _, (hR3.setAt pos).setErr x⟩

set_option maxHeartbeats 1000000 in
theorem on_err_bs (r : Nat) (vb : Value) (pos : Nat) (er : Int) (fv : Value) (w : World) (hR : Rd w r vb pos er) (he : er ≠ 0) :
    Calls Tryz.prog 146 #[.pointer (some ⟨r, 0, none⟩), fv] w fun e w' => e = .returned (.slice none 0 0) ∧ w.grownBy w' none := by
  have hR0 : Rd (w.alloc (.cells #[.pointer (some ⟨r, 0, none⟩)] 179)) r vb pos er := hR.kept (World.grownBy_alloc w _ none) (by simp)
  have hne : (er != 0) = true := by simpa using he
  clear he
  go_enter_defers Tryz.func146, Tryz.ntmps146
  go_wp2_with (go_at_call 152; refine (err_rd _ _ _ _ _ hR0).mono ?_; rintro e w' ⟨rfl, rfl⟩)
  exact ⟨_, results_tmp rfl _ _ _, rfl, World.grownBy_alloc w _ _⟩
end Go.Proofs.YtpdacbiiaglodaaGreat

/-
  LAYER 2 (codec): ReadUint and its kin.
-/
namespace Go.Proofs.YtpdacbiiaglodaaGreat
set_option maxRecDepth 100000
open Go.RowKit Go.Lib

theorem enters_nextUint (args : Array Value) (w : World) : (callFunc 197 args).run Tryz.prog w = .ok (.enter 197 args) w := by go_simp

set_option maxHeartbeats 1000000 in
theorem ReadUint_ok (a : Option Addr) (l c : Nat) (bs : List UInt8) (n m : Nat) (w : World) (hr : Reads w (.slice a l c) bs) (hrd : rd 0 0 bs = .ok (n, m)) :
    Calls Tryz.prog 172 #[.slice a l c] w fun e w' => e = .returned (.tuple #[.int .u64 (n : Int), .int .i64 (m : Int), .int .i64 0]) ∧ Below w.heap.size w w' := by
  have hmf : ∀ (fn : Fn) (first cap : Array Value) (w : World), (Instr.makeFunc fn first cap).run Tryz.prog w = .ok (.func fn first cap) w := fun _ _ _ _ => rfl
  have hr0 : Reads (w.alloc (.cells #[.bool true, .slice a l c, .int .i64 0, .int .i64 0] 214)) (.slice a l c) bs := hr.all ((Below.refl _ w).alloc (Nat.le_refl _) _)
  have hon := on_ok_u64 w.heap.size (.slice a l c) 0 197 #[.pointer (some ⟨w.heap.size, 0, none⟩)] #[] (fun v w' => v = .int .u64 (n : Int) ∧ Rd w' w.heap.size (.slice a l c) m 0) _ (rd_made _ w) enters_nextUint (fun w2 hg => by
    have hR2 := (rd_made (.slice a l c) w).new hg
    have := nextUint_ok w.heap.size a l c bs 0 0 n m w2 hR2 (hr0.new hg) (by omega) (by simpa using hrd)
    refine this.mono ?_
    rintro e w3 ⟨rfl, hg3, hR3⟩
    rw [Nat.zero_add] at hR3
    exact ⟨_, rfl, ⟨rfl, hR3⟩, hg3⟩)
  go_enter Tryz.func172, Tryz.ntmps172
  go_wp2_with (go_at_call 144; refine (over_any a l c _).mono ?_; rintro e w' ⟨rfl, rfl⟩)
  refine hon.mono ?_
  rintro e w' ⟨v, rfl, ⟨rfl, hR⟩, hg⟩
  have h2 := hR.at
  have h3 := hR.err
  go_wp2
  go_quiet (fail)
  go_wp2
  go_ret3
  exact ⟨rfl, gbelow (gdrewN (gnew (World.grownBy_alloc w _ none) hg (by simp)) _) (Nat.le_refl _) (by simp)⟩

set_option maxHeartbeats 1000000 in
theorem ReadUint_bad (a : Option Addr) (l c : Nat) (bs : List UInt8) (x : Int) (w : World) (hr : Reads w (.slice a l c) bs) (hrd : rd 0 0 bs = .error x) :
    Calls Tryz.prog 172 #[.slice a l c] w fun e w' => e = .returned (.tuple #[.int .u64 0, .int .i64 0, .int .i64 x]) ∧ Below w.heap.size w w' := by
  have hmf : ∀ (fn : Fn) (first cap : Array Value) (w : World), (Instr.makeFunc fn first cap).run Tryz.prog w = .ok (.func fn first cap) w := fun _ _ _ _ => rfl
  have hr0 : Reads (w.alloc (.cells #[.bool true, .slice a l c, .int .i64 0, .int .i64 0] 214)) (.slice a l c) bs := hr.new (World.grownBy_alloc w _ _)
  have hon := on_bad_u64 w.heap.size (.slice a l c) 0 x 197 #[.pointer (some ⟨w.heap.size, 0, none⟩)] #[] _ (rd_made _ w) enters_nextUint (fun w2 hg =>
    (nextUint_bad w.heap.size a l c bs 0 0 x w2 ((rd_made (.slice a l c) w).new hg) (hr0.new hg) (by omega) (by simpa using hrd)))
  go_enter Tryz.func172, Tryz.ntmps172
  go_wp2_with (go_at_call 144; refine (over_any a l c _).mono ?_; rintro e w' ⟨rfl, rfl⟩)
  refine hon.mono ?_
  rintro e w' ⟨rfl, hg, hR⟩
  have h2 := hR.at
  have h3 := hR.err
  go_wp2
  go_quiet (fail)
  go_wp2
  go_ret3
  exact ⟨rfl, gbelow (gdrewN (gnew (World.grownBy_alloc w _ none) hg (by simp)) _) (Nat.le_refl _) (by simp)⟩

/-! ### The reader's calls -/
set_option maxHeartbeats 1000000 in
theorem rUint_ok (r : Nat) (a : Option Addr) (l c : Nat) (bs : List UInt8) (pos n m : Nat) (w : World) (hR : Rd w r (.slice a l c) pos 0) (hr : Reads w (.slice a l c) bs) (hs : pos ≤ bs.length) (hrd : rd 0 0 (bs.drop pos) = .ok (n, m)) :
    Calls Tryz.prog 177 #[.pointer (some ⟨r, 0, none⟩)] w fun e w' => e = .returned (.int .u64 (n : Int)) ∧ w.grownBy w' (some r) ∧ Rd w' r (.slice a l c) (pos + m) 0 := by
  have hmf : ∀ (fn : Fn) (first cap : Array Value) (w : World), (Instr.makeFunc fn first cap).run Tryz.prog w = .ok (.func fn first cap) w := fun _ _ _ _ => rfl
  have hon := on_ok_u64 r (.slice a l c) pos 197 #[.pointer (some ⟨r, 0, none⟩)] #[] (fun v w' => v = .int .u64 (n : Int) ∧ Rd w' r (.slice a l c) (pos + m) 0) w hR enters_nextUint (fun w2 hg =>
    (nextUint_ok r a l c bs pos 0 n m w2 (hR.new hg) (hr.new hg) hs hrd).mono (by
      rintro e w3 ⟨rfl, hg3, hR3⟩
      exact ⟨_, rfl, ⟨rfl, hR3⟩, hg3⟩))
  go_enter Tryz.func177, Tryz.ntmps177
  go_wp2_with fail
  refine hon.mono ?_
  rintro e w' ⟨v, rfl, ⟨rfl, hR⟩, hg⟩
  go_wp2
  go_ret
  exact ⟨rfl, hg, hR⟩

set_option maxHeartbeats 1000000 in
theorem rUint_bad (r : Nat) (a : Option Addr) (l c : Nat) (bs : List UInt8) (pos : Nat) (x : Int) (w : World) (hR : Rd w r (.slice a l c) pos 0) (hr : Reads w (.slice a l c) bs) (hs : pos ≤ bs.length) (hrd : rd 0 0 (bs.drop pos) = .error x) :
    Calls Tryz.prog 177 #[.pointer (some ⟨r, 0, none⟩)] w fun e w' => e = .returned (.int .u64 0) ∧ w.grownBy w' (some r) ∧ Rd w' r (.slice a l c) pos x := by
  have hmf : ∀ (fn : Fn) (first cap : Array Value) (w : World), (Instr.makeFunc fn first cap).run Tryz.prog w = .ok (.func fn first cap) w := fun _ _ _ _ => rfl
  have hon := on_bad_u64 r (.slice a l c) pos x 197 #[.pointer (some ⟨r, 0, none⟩)] #[] w hR enters_nextUint (fun w2 hg =>
    (nextUint_bad r a l c bs pos 0 x w2 (hR.new hg) (hr.new hg) hs hrd))
  go_enter Tryz.func177, Tryz.ntmps177
  go_wp2_with fail
  refine hon.mono ?_
  rintro e w' ⟨rfl, hg, hR⟩
  go_wp2
  go_ret
  exact ⟨rfl, hg, hR⟩

set_option maxHeartbeats 1000000 in
theorem done_err (r : Nat) (vb : Value) (pos : Nat) (er : Int) (w : World) (hR : Rd w r vb pos er) (he : er ≠ 0) :
    Calls Tryz.prog 122 #[.pointer (some ⟨r, 0, none⟩)] w fun e w' => e = .returned (.int .i64 er) ∧ w = w' := by
  have hne : (er != 0) = true := by simpa using he
  clear he
  go_enter Tryz.func122, Tryz.ntmps122
  go_wp2_with (go_at_call 152; refine (err_rd _ _ _ _ _ hR).mono ?_; rintro e w' ⟨rfl, rfl⟩)
  go_ret
  exact ⟨rfl, rfl⟩

set_option maxHeartbeats 1000000 in
theorem done_any (r : Nat) (a : Option Addr) (l c : Nat) (pos : Nat) (w : World) (hR : Rd w r (.slice a l c) pos 0) (_hl : pos ≤ l) :
    Calls Tryz.prog 122 #[.pointer (some ⟨r, 0, none⟩)] w fun e w' => e = .returned (.int .i64 (if pos < l then 22 else 0)) ∧ ∃ k, w' = w.drewN k := by
  have h1 := hR.bytes
  have h2 := hR.at
  by_cases hlt : pos < l
  · rw [if_pos hlt]
    go_enter Tryz.func122, Tryz.ntmps122
    go_wp2_with (go_at_call 152; refine (err_rd _ _ _ _ _ hR).mono ?_; rintro e w' ⟨rfl, rfl⟩)
    go_quiet (fail)
    go_wp2
    go_ret
    exact ⟨rfl, _, rfl⟩
  · rw [if_neg hlt]
    go_enter Tryz.func122, Tryz.ntmps122
    go_wp2_with (go_at_call 152; refine (err_rd _ _ _ _ _ hR).mono ?_; rintro e w' ⟨rfl, rfl⟩)
    go_quiet (fail)
    go_wp2
    go_ret
    exact ⟨rfl, _, rfl⟩

end Go.Proofs.YtpdacbiiaglodaaGreat

/-
  DERIVED: THE SHELF's CONTRACTS AT THIS DUMP, IN PLAIN WORDS (tools/lay-plain.mjs out of 'TryzShelf.lean', which tools/lay-shelf.mjs wrote): THE SAME DECLARATIONS UNDER THE SAME NAMES: 'import', 'namespace', 'open', 'def', 'theorem' AND NOTHING ELSE: no command of the shelf's: FOR A HAND-IN. Each laying: the table of numbers ('.._ren') and one theorem, a field a fact of the dump's own or the kernel's comparison; each contract: ONE APPLICATION.
-/
namespace Go.Proofs
open Go.Shelf
def Tryz.lays126_ren : Go.Shelf.Ren := ⟨fun | 126 => 193 | n => n, fun | 5 => 5 | 3 => 3 | 9 => 9 | n => n, fun | n => n⟩
theorem Tryz.lays126 : Go.Proofs.Lays.n126 Tryz.prog Tryz.lays126_ren := {
  mixed := by kernel_rfl
  f126 := Tryz.func193.trans (congrArg some (by kernel_rfl))
  t3 := Tryz.underlying3
  a3 := Tryz.isAgg3
  z3 := Tryz.sizeOf3
  v3 := Tryz.zeroValue3
  t5 := Tryz.underlying5
  a5 := Tryz.isAgg5
  z5 := Tryz.sizeOf5
  v5 := Tryz.zeroValue5
  t9 := Tryz.underlying9
  a9 := Tryz.isAgg9
  z9 := Tryz.sizeOf9
  v9 := Tryz.zeroValue9 }
/-- bits.Len8: "Len8 returns the minimum number of bits required to represent x; the result is 0 for x == 0.": IT RETURNS 'Lib.bitLen x'; the world is as it was. ('h0', 'h1': x is a uint8.) (LAID: no walk: one application.) -/
theorem Tryz.bits_Len8 (x : Int) (w : World) (h0 : 0 ≤ x) (h1 : x ≤ 255) :
    Calls Tryz.prog 193 #[.int .u8 x] w fun e w' => e = .returned (.int .i64 (Lib.bitLen x.toNat)) ∧ w' = w := Any.bits_Len8 Tryz.lays126 x w h0 h1
def Tryz.lays131_ren : Go.Shelf.Ren := ⟨fun | 131 => 164 | 126 => 193 | n => n, fun | 5 => 5 | 3 => 3 | 9 => 9 | n => n, fun | n => n⟩
theorem Tryz.lays131 : Go.Proofs.Lays.n131 Tryz.prog Tryz.lays131_ren := {
  mixed := by kernel_rfl
  f126 := Tryz.func193.trans (congrArg some (by kernel_rfl))
  f131 := Tryz.func164.trans (congrArg some (by kernel_rfl))
  t3 := Tryz.underlying3
  a3 := Tryz.isAgg3
  z3 := Tryz.sizeOf3
  v3 := Tryz.zeroValue3
  t5 := Tryz.underlying5
  a5 := Tryz.isAgg5
  z5 := Tryz.sizeOf5
  v5 := Tryz.zeroValue5
  t9 := Tryz.underlying9
  a9 := Tryz.isAgg9
  z9 := Tryz.sizeOf9
  v9 := Tryz.zeroValue9 }
/-- bits.LeadingZeros8: "LeadingZeros8 returns the number of leading zero bits in x; the result is 8 for x == 0.": IT RETURNS '8 - Lib.bitLen x'; the world is as it was. ITS CALLEE bits.Len8 IS MET BY ITS OWN CONTRACT OFF THE SHELF (lay that first): ENTERED IN PLACE it sends the kernel out of memory. (LAID: no walk: one application.) -/
theorem Tryz.bits_LeadingZeros8 (x : Int) (w : World) (h0 : 0 ≤ x) (h1 : x ≤ 255) :
    Calls Tryz.prog 164 #[.int .u8 x] w fun e w' => e = .returned (.int .i64 (8 - (Lib.bitLen x.toNat : Int))) ∧ w' = w := Any.bits_LeadingZeros8 Tryz.lays131 x w h0 h1
def Tryz.lays213_ren : Go.Shelf.Ren := ⟨fun | 213 => 137 | 265 => 167 | n => n, fun | 9 => 9 | 3 => 3 | n => n, fun | n => n⟩
theorem Tryz.lays213 : Go.Proofs.Lays.n213 Tryz.prog Tryz.lays213_ren := {
  mixed := by kernel_rfl
  f213 := Tryz.func137.trans (congrArg some (by kernel_rfl))
  f265 := Tryz.func167.trans (congrArg some (by kernel_rfl))
  t3 := Tryz.underlying3
  a3 := Tryz.isAgg3
  z3 := Tryz.sizeOf3
  v3 := Tryz.zeroValue3
  t9 := Tryz.underlying9
  a9 := Tryz.isAgg9
  z9 := Tryz.sizeOf9
  v9 := Tryz.zeroValue9 }
open Go.RowKit in
/-- internal/bytealg.CompareString (what strings.Compare calls): IT RETURNS 'Lib.compareBytes a b'; the world is as it was. (LAID: no walk: one application.) -/
theorem Tryz.bytealg_CompareString (a b : ByteArray) (w : World) :
    Calls Tryz.prog 137 #[.string a, .string b] w fun e w' => e = .returned (.int .i64 (Lib.compareBytes a.data.toList b.data.toList)) ∧ w' = w := Any.bytealg_CompareString Tryz.lays213 a b w
def Tryz.lays106_ren : Go.Shelf.Ren := ⟨fun | 106 => 106 | 213 => 137 | 265 => 167 | n => n, fun | 9 => 9 | 3 => 3 | n => n, fun | n => n⟩
theorem Tryz.lays106 : Go.Proofs.Lays.n106 Tryz.prog Tryz.lays106_ren := {
  mixed := by kernel_rfl
  f106 := Tryz.func106.trans (congrArg some (by kernel_rfl))
  f213 := Tryz.func137.trans (congrArg some (by kernel_rfl))
  f265 := Tryz.func167.trans (congrArg some (by kernel_rfl))
  t3 := Tryz.underlying3
  a3 := Tryz.isAgg3
  z3 := Tryz.sizeOf3
  v3 := Tryz.zeroValue3
  t9 := Tryz.underlying9
  a9 := Tryz.isAgg9
  z9 := Tryz.sizeOf9
  v9 := Tryz.zeroValue9 }
open Go.RowKit in
/-- strings.Compare: "Compare returns an integer comparing two strings lexicographically. The result will be 0 if a == b, -1 if a < b, and +1 if a > b.": IT RETURNS 'Lib.compareBytes a b'; the world is as it was. (LAID: no walk: one application.) -/
theorem Tryz.strings_Compare (a b : ByteArray) (w : World) :
    Calls Tryz.prog 106 #[.string a, .string b] w fun e w' => e = .returned (.int .i64 (Lib.compareBytes a.data.toList b.data.toList)) ∧ w' = w := Any.strings_Compare Tryz.lays106 a b w
def Tryz.lays215_ren : Go.Shelf.Ren := ⟨fun | 215 => 139 | n => n, fun | 3 => 3 | 4 => 4 | n => n, fun | n => n⟩
theorem Tryz.lays215 : Go.Proofs.Lays.n215 Tryz.prog Tryz.lays215_ren := {
  mixed := by kernel_rfl
  f215 := Tryz.func139.trans (congrArg some (by kernel_rfl))
  t3 := Tryz.underlying3
  a3 := Tryz.isAgg3
  z3 := Tryz.sizeOf3
  v3 := Tryz.zeroValue3
  t4 := Tryz.underlying4
  a4 := Tryz.isAgg4
  z4 := Tryz.sizeOf4
  v4 := Tryz.zeroValue4 }
open Go.RowKit in
/-- cmp.isNaN at int: 'x != x': false. (LAID: no walk: one application.) -/
theorem Tryz.cmp_isNaN_int (x : Int) (w : World) :
    Calls Tryz.prog 139 #[.int .i64 x] w fun e w' => e = .returned (.bool false) ∧ w' = w := Any.cmp_isNaN_int Tryz.lays215 x w
def Tryz.lays122_ren : Go.Shelf.Ren := ⟨fun | 122 => 113 | 215 => 139 | n => n, fun | 3 => 3 | 4 => 4 | n => n, fun | n => n⟩
theorem Tryz.lays122 : Go.Proofs.Lays.n122 Tryz.prog Tryz.lays122_ren := {
  mixed := by kernel_rfl
  f122 := Tryz.func113.trans (congrArg some (by kernel_rfl))
  f215 := Tryz.func139.trans (congrArg some (by kernel_rfl))
  t3 := Tryz.underlying3
  a3 := Tryz.isAgg3
  z3 := Tryz.sizeOf3
  v3 := Tryz.zeroValue3
  t4 := Tryz.underlying4
  a4 := Tryz.isAgg4
  z4 := Tryz.sizeOf4
  v4 := Tryz.zeroValue4 }
open Go.RowKit in
/-- cmp.Compare at int: "Compare returns -1 if x is less than y, 0 if x equals y, +1 if x is greater than y.": IT RETURNS 'Lib.compareInt x y'; the world is as it was. (LAID: no walk: one application.) -/
theorem Tryz.cmp_Compare_int (x y : Int) (w : World) :
    Calls Tryz.prog 113 #[.int .i64 x, .int .i64 y] w fun e w' => e = .returned (.int .i64 (Lib.compareInt x y)) ∧ w' = w := Any.cmp_Compare_int Tryz.lays122 x y w
def Tryz.lays129_ren : Go.Shelf.Ren := ⟨fun | 129 => 183 | n => n, fun | 53 => 109 | 3 => 3 | 4 => 4 | 46 => 144 | 5 => 5 | 9 => 9 | n => n, fun | n => n⟩
theorem Tryz.lays129 : Go.Proofs.Lays.n129 Tryz.prog Tryz.lays129_ren := {
  mixed := by kernel_rfl
  f129 := Tryz.func183.trans (congrArg some (by kernel_rfl))
  t3 := Tryz.underlying3
  a3 := Tryz.isAgg3
  z3 := Tryz.sizeOf3
  v3 := Tryz.zeroValue3
  t4 := Tryz.underlying4
  a4 := Tryz.isAgg4
  z4 := Tryz.sizeOf4
  v4 := Tryz.zeroValue4
  t5 := Tryz.underlying5
  a5 := Tryz.isAgg5
  z5 := Tryz.sizeOf5
  v5 := Tryz.zeroValue5
  t9 := Tryz.underlying9
  a9 := Tryz.isAgg9
  z9 := Tryz.sizeOf9
  v9 := Tryz.zeroValue9
  t46 := Tryz.underlying144
  a46 := Tryz.isAgg144
  z46 := Tryz.sizeOf144
  v46 := Tryz.zeroValue144
  t53 := Tryz.underlying109
  a53 := Tryz.isAgg109
  z53 := Tryz.sizeOf109
  v53 := Tryz.zeroValue109 }
/-- bits.Len64: "Len64 returns the minimum number of bits required to represent x; the result is 0 for x == 0.": IT RETURNS 'Lib.bitLen x'; the world is as it was. ('h0', 'h1': x is a uint64.) (LAID: no walk: one application.) -/
theorem Tryz.bits_Len64 (x : Int) (w : World) (h0 : 0 ≤ x) (h1 : x ≤ 18446744073709551615) :
    Calls Tryz.prog 183 #[.int .u64 x] w fun e w' => e = .returned (.int .i64 (Lib.bitLen x.toNat)) ∧ w' = w := Any.bits_Len64 Tryz.lays129 x w h0 h1
def Tryz.laysNm237_ren : Go.Shelf.Ren := ⟨fun | 37 => 139 | n => n, fun | 3 => 3 | 4 => 4 | n => n, fun | n => n⟩
theorem Tryz.laysNm237 : Go.Proofs.Lays2.n37 Tryz.prog Tryz.laysNm237_ren := {
  mixed := by kernel_rfl
  f37 := Tryz.func139.trans (congrArg some (by kernel_rfl))
  t3 := Tryz.underlying3
  a3 := Tryz.isAgg3
  z3 := Tryz.sizeOf3
  v3 := Tryz.zeroValue3
  t4 := Tryz.underlying4
  a4 := Tryz.isAgg4
  z4 := Tryz.sizeOf4
  v4 := Tryz.zeroValue4 }
open Go.RowKit Go.Lib in
/-- cmp.isNaN[int]: 'x != x': false. (LAID: no walk: one application.) -/
theorem Tryz.cmp_isNaN_int2 (x : Int) (w : World) :
    Calls Tryz.prog 139 #[.int .i64 x] w fun e w' => e = .returned (.bool false) ∧ w' = w := Any.cmp_isNaN_int2 Tryz.laysNm237 x w
end Go.Proofs
