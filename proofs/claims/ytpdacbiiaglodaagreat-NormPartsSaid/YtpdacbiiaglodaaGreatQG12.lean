/-
  LAYER 5 (norms): reading numbers, code points, rows.
-/
import Derived.Test.YtpdacbiiaglodaaGreatQG09
import Derived.Test.YtpdacbiiaglodaaGreatQG10
import Derived.Test.YtpdacbiiaglodaaGreatQG03
import Derived.Test.YtpdacbiiaglodaaGreatQG11
import Derived.Test.YtpdacbiiaglodaaGreatQG01
import Derived.TacticsInMore
import Derived.BigRegionIn
import Derived.LoopIn
import Derived.LoopNIn
import Derived.OwnWalkIn
import Derived.Maps.RangeWalk
import Derived.RangeFuncBound
import Derived.Test.YtpdacbiiaglodaaGreatQG08
import Derived.LoopTactic
namespace Go.Proofs.YtpdacbiiaglodaaGreat
set_option maxRecDepth 100000
open Go.RowKit Go.Lib

/-- A reader of numbers: its block, the bytes' reader, what is left to read; no error yet. -/
def St (w : World) (q r : Nat) (vb : Value) (rest : List UInt8) : Prop :=
  ∃ bs pos, w.heap[q]? = some (.cells #[.pointer (some ⟨r, 0, none⟩), .bool false] 182) ∧ Rd w r vb pos 0 ∧ Reads w vb bs ∧ pos ≤ bs.length ∧ bs.drop pos = rest ∧ q ≠ r ∧ (∃ a l c, vb = .slice a l c) ∧ (∀ k, vb.ownBlock = some k → k < w.heap.size)
theorem St.new {w w' : World} {q r : Nat} {vb : Value} {rest : List UInt8} (h : St w q r vb rest) (hg : w.grownBy w' none) : St w' q r vb rest := by
  obtain ⟨bs, pos, h1, h2, h3, h4, h5, h6, h7, h8⟩ := h
  exact ⟨bs, pos, (hg.block q (Array.getElem?_eq_some_iff.1 h1).1 (by simp)).trans h1, h2.new hg, h3.new hg, h4, h5, h6, h7, fun k e => Nat.lt_of_lt_of_le (h8 k e) hg.size⟩
theorem St.row {w w3 W : World} {q r x : Nat} {vb : Value} {rest0 rest : List UInt8} (h0 : St w q r vb rest0) (h : St w3 q r vb rest) (hg : w3.grownBy W (some x)) (hx : w.heap.size ≤ x) : St W q r vb rest := by
  obtain ⟨_, _, a1, a2, _, _, _, _, _, a8⟩ := h0
  obtain ⟨bs, pos, h1, h2, h3, h4, h5, h6, h7, h8⟩ := h
  have l1 := (Array.getElem?_eq_some_iff.1 a1).1
  have l2 := a2.lt
  exact ⟨bs, pos, (hg.block q (Array.getElem?_eq_some_iff.1 h1).1 (by simp; omega)).trans h1, h2.kept hg (by simp; omega), h3.kept hg (.inr (fun e => by have := a8 _ e; omega)), h4, h5, h6, h7, fun k e => Nat.lt_of_lt_of_le (h8 k e) hg.size⟩
theorem St.lt {w : World} {q r : Nat} {vb : Value} {rest : List UInt8} (h : St w q r vb rest) : q < w.heap.size ∧ r < w.heap.size := by
  obtain ⟨bs, pos, h1, h2, _⟩ := h
  exact ⟨(Array.getElem?_eq_some_iff.1 h1).1, h2.lt⟩
theorem St.c0 {w : World} {q r : Nat} {vb : Value} {rest : List UInt8} (h : St w q r vb rest) : w.cell? ⟨q, 0, none⟩ = some (.pointer (some ⟨r, 0, none⟩)) ∧ w.cell? ⟨q, 1, none⟩ = some (.bool false) := by
  obtain ⟨bs, pos, h1, _⟩ := h
  exact ⟨by simp [World.cell?, h1], by simp [World.cell?, h1]⟩
theorem ulen_uv (n : Nat) : ulen n = (Lib.uvarint n).length := rfl

theorem St.uint {w : World} {q r : Nat} {vb : Value} {n : Nat} {rest : List UInt8} (h : St w q r vb (Lib.uvarint n ++ rest)) (hn : n < 18446744073709551616) :
    Calls Tryz.prog 177 #[.pointer (some ⟨r, 0, none⟩)] w fun e w' => e = .returned (.int .u64 (n : Int)) ∧ w.grownBy w' (some r) ∧ St w' q r vb rest := by
  obtain ⟨bs, pos, h1, h2, h3, h4, h5, h6, ⟨a, l, c, rfl⟩, h8⟩ := h
  have hu : uRes (bs.drop pos) = (n, ulen n, 0) := by
    rw [h5]; unfold uRes; rw [back_uint n hn]
  refine (rUint_any r a l c bs pos 0 n (ulen n) 0 w h2 h3 h4 hu).mono ?_
  rintro e w' ⟨rfl, hg, hR⟩
  refine ⟨rfl, hg, bs, pos + ulen n, (hg.block q (Array.getElem?_eq_some_iff.1 h1).1 (by simpa using h6)).trans h1, hR, h2.carry h3 hg, ?_, ?_, h6, ⟨_, _, _, rfl⟩, fun k e => Nat.lt_of_lt_of_le (h8 k e) hg.size⟩
  · have := congrArg List.length h5
    simp only [List.length_drop, List.length_append] at this
    rw [ulen_uv]
    omega
  · rw [← List.drop_drop, h5, ulen_uv, List.drop_left]

set_option maxHeartbeats 1000000 in
theorem number_ok (q r : Nat) (vb : Value) (n : Nat) (rest : List UInt8) (w : World) (h : St w q r vb (Lib.uvarint n ++ rest)) (hn : n ≤ 2147483648) :
    Calls Tryz.prog 149 #[.pointer (some ⟨q, 0, none⟩)] w fun e w' => e = .returned (.int .u64 (n : Int)) ∧ w.grownBy w' (some r) ∧ St w' q r vb rest := by
  have hU := h.uint (by omega)
  obtain ⟨c0, c1⟩ := h.c0
  have hng : ¬ ((n : Int) > 2147483648) := by omega
  go_enter Tryz.func149, Tryz.ntmps149
  go_wp2_with (go_at_call 177; refine hU.mono ?_; rintro e w1 ⟨rfl, hg, hS⟩)
  go_ret
  exact ⟨rfl, hg, hS⟩

set_option maxHeartbeats 1000000 in
theorem code_ok (q r : Nat) (vb : Value) (n : Nat) (rest : List UInt8) (w : World) (h : St w q r vb (Lib.uvarint n ++ rest)) (hn : n ≤ 1114111) :
    Calls Tryz.prog 151 #[.pointer (some ⟨q, 0, none⟩)] w fun e w' => e = .returned (.int .i32 (n : Int)) ∧ w.grownBy w' (some r) ∧ St w' q r vb rest := by
  have hU := number_ok q r vb n rest w h (by omega)
  go_enter Tryz.func151, Tryz.ntmps151
  go_wp2_with (go_at_call 149; refine hU.mono ?_; rintro e w1 ⟨rfl, hg, hS⟩)
  go_ret
  exact ⟨rfl, hg, hS⟩

set_option maxHeartbeats 1000000 in
theorem goesOn_ok (q r : Nat) (vb : Value) (rest : List UInt8) (w : World) (h : St w q r vb rest) :
    Calls Tryz.prog 150 #[.pointer (some ⟨q, 0, none⟩)] w fun e w' => e = .returned (.bool true) ∧ w = w' := by
  obtain ⟨c0, c1⟩ := h.c0
  obtain ⟨bs, pos, h1, h2, _⟩ := h
  have hE := err_rd r vb pos 0 w h2
  clear h1 h2
  go_enter Tryz.func150, Tryz.ntmps150
  go_wp2_with (go_at_call 152; refine hE.mono ?_; rintro e w1 ⟨rfl, rfl⟩)
  go_ret
  simp

theorem set3 {w : World} {b : Nat} {T : TypeId} {u1 u2 u3 : Value} (h : w.heap[b]? = some (.cells #[u1, u2, u3] T)) (v1 v2 v3 : Value) :
    (((w.setCell ⟨b, 0, none⟩ v1).setCell ⟨b, 1, none⟩ v2).setCell ⟨b, 2, none⟩ v3).heap[b]? = some (.cells #[v1, v2, v3] T) := by
  have hlt := (Array.getElem?_eq_some_iff.1 h).1
  simp only [World.setCell, Array.getElem?_modify]
  simp [h]

set_option maxHeartbeats 1000000 in
theorem class_ok (q r : Nat) (vb : Value) (a b k : Nat) (rest : List UInt8) (w : World) (h : St w q r vb (Lib.uvarint a ++ (Lib.uvarint b ++ (Lib.uvarint k ++ rest)))) (ha : a ≤ 1114111) (hb : b ≤ 1114111) (hk : k ≤ 1114111) :
    Calls Tryz.prog 119 #[.pointer (some ⟨q, 0, none⟩)] w fun e w' => e = .returned (cAgg ((a : Int), (b : Int), (k : Int))) ∧ w.grownBy w' (some r) ∧ St w' q r vb rest := by
  have hrl := h.lt
  have hg0 := World.grownBy_alloc w (.cells #[.int .i32 0, .int .i32 0, .int .i64 0] 104) none
  have C1 := code_ok q r vb a _ _ (h.new hg0) ha
  have C2 := fun w h => code_ok q r vb b (Lib.uvarint k ++ rest) w h hb
  have C3 := fun w h => number_ok q r vb k rest w h (by omega)
  have fr : ∀ W, (w.alloc (.cells #[.int .i32 0, .int .i32 0, .int .i64 0] 104)).grownBy W (some r) → W.heap[w.heap.size]? = some (.cells #[.int .i32 0, .int .i32 0, .int .i64 0] 104) := fun W hg => (hg.block _ (by simp) (by simp; omega)).trans (World.alloc_heap_new w _)
  unfold cAgg
  go_enter Tryz.func119, Tryz.ntmps119
  go_wp2_with (first
    | (go_at_call 151; refine C1.mono ?_; rintro e w1 ⟨rfl, hg1, hS1⟩; clear C1)
    | (go_at_call 151; refine (C2 _ hS1).mono ?_; rintro e w2 ⟨rfl, hg2, hS2⟩; clear C2)
    | (go_at_call 149; refine (C3 _ hS2).mono ?_; rintro e w3 ⟨rfl, hg3, hS3⟩; have hgg := (hg1.trans hg2).trans hg3; have k3 := fr w3 hgg; have f0 : ∀ o, w3.frozen? ⟨w.heap.size, o, none⟩ = false := by { intro o; simp [World.frozen?, k3] }; have d0 : w3.cell? ⟨w.heap.size, 0, none⟩ = some (.int .i32 0) := by { simp [World.cell?, k3] }; have d1 : w3.cell? ⟨w.heap.size, 1, none⟩ = some (.int .i32 0) := by { simp [World.cell?, k3] }; have d2 : w3.cell? ⟨w.heap.size, 2, none⟩ = some (.int .i64 0) := by { simp [World.cell?, k3] }))
  have gs := gset (gset (gset (World.grownBy.refl w3 (some w.heap.size)) 0 (.int .i32 (a : Int))) 1 (.int .i32 (b : Int))) 2 (.int .i64 (k : Int))
  have kf := set3 k3 (.int .i32 (a : Int)) (.int .i32 (b : Int)) (.int .i64 (k : Int))
  generalize ((w3.setCell ⟨w.heap.size, 0, none⟩ (.int .i32 (a : Int))).setCell ⟨w.heap.size, 1, none⟩ (.int .i32 (b : Int))).setCell ⟨w.heap.size, 2, none⟩ (.int .i64 (k : Int)) = W4 at gs kf ⊢
  have x0 : W4.cell? ⟨w.heap.size, 0, none⟩ = some (.int .i32 (a : Int)) := by simp [World.cell?, kf]
  have x1 : W4.cell? ⟨w.heap.size, 1, none⟩ = some (.int .i32 (b : Int)) := by simp [World.cell?, kf]
  have x2 : W4.cell? ⟨w.heap.size, 2, none⟩ = some (.int .i64 (k : Int)) := by simp [World.cell?, kf]
  refine bodyPost_ret (v := .agg #[.int .i32 (a : Int), .int .i32 (b : Int), .int .i64 (k : Int)]) ?_ rfl ⟨rfl, gnew ((gbut hg0 (some r)).trans hgg) gs (fun x e => by cases e; exact .inl (Nat.le_refl _)), h.row hS3 gs (Nat.le_refl _)⟩
  simp [results, Tryz.results119, go_sem, x0, x1, x2]
set_option maxHeartbeats 1000000 in
theorem decomp_ok (q r : Nat) (vb : Value) (a b k : Nat) (rest : List UInt8) (w : World) (h : St w q r vb (Lib.uvarint a ++ (Lib.uvarint b ++ (Lib.uvarint k ++ rest)))) (ha : a ≤ 1114111) (hb : b ≤ 1114111) (hk : k ≤ 1114111) :
    Calls Tryz.prog 121 #[.pointer (some ⟨q, 0, none⟩)] w fun e w' => e = .returned (dAgg ((a : Int), (b : Int), (k : Int))) ∧ w.grownBy w' (some r) ∧ St w' q r vb rest := by
  have hrl := h.lt
  have hg0 := World.grownBy_alloc w (.cells #[.int .i32 0, .int .i32 0, .int .i32 0] 106) none
  have C1 := code_ok q r vb a _ _ (h.new hg0) ha
  have C2 := fun w h => code_ok q r vb b (Lib.uvarint k ++ rest) w h hb
  have C3 := fun w h => code_ok q r vb k rest w h (by omega)
  have fr : ∀ W, (w.alloc (.cells #[.int .i32 0, .int .i32 0, .int .i32 0] 106)).grownBy W (some r) → W.heap[w.heap.size]? = some (.cells #[.int .i32 0, .int .i32 0, .int .i32 0] 106) := fun W hg => (hg.block _ (by simp) (by simp; omega)).trans (World.alloc_heap_new w _)
  unfold dAgg
  go_enter Tryz.func121, Tryz.ntmps121
  go_wp2_with (first
    | (go_at_call 151; refine C1.mono ?_; rintro e w1 ⟨rfl, hg1, hS1⟩; clear C1)
    | (go_at_call 151; refine (C2 _ hS1).mono ?_; rintro e w2 ⟨rfl, hg2, hS2⟩; clear C2)
    | (go_at_call 151; refine (C3 _ hS2).mono ?_; rintro e w3 ⟨rfl, hg3, hS3⟩; have hgg := (hg1.trans hg2).trans hg3; have k3 := fr w3 hgg; have f0 : ∀ o, w3.frozen? ⟨w.heap.size, o, none⟩ = false := by { intro o; simp [World.frozen?, k3] }; have d0 : w3.cell? ⟨w.heap.size, 0, none⟩ = some (.int .i32 0) := by { simp [World.cell?, k3] }; have d1 : w3.cell? ⟨w.heap.size, 1, none⟩ = some (.int .i32 0) := by { simp [World.cell?, k3] }; have d2 : w3.cell? ⟨w.heap.size, 2, none⟩ = some (.int .i32 0) := by { simp [World.cell?, k3] }))
  have gs := gset (gset (gset (World.grownBy.refl w3 (some w.heap.size)) 0 (.int .i32 (a : Int))) 1 (.int .i32 (b : Int))) 2 (.int .i32 (k : Int))
  have kf := set3 k3 (.int .i32 (a : Int)) (.int .i32 (b : Int)) (.int .i32 (k : Int))
  generalize ((w3.setCell ⟨w.heap.size, 0, none⟩ (.int .i32 (a : Int))).setCell ⟨w.heap.size, 1, none⟩ (.int .i32 (b : Int))).setCell ⟨w.heap.size, 2, none⟩ (.int .i32 (k : Int)) = W4 at gs kf ⊢
  have x0 : W4.cell? ⟨w.heap.size, 0, none⟩ = some (.int .i32 (a : Int)) := by simp [World.cell?, kf]
  have x1 : W4.cell? ⟨w.heap.size, 1, none⟩ = some (.int .i32 (b : Int)) := by simp [World.cell?, kf]
  have x2 : W4.cell? ⟨w.heap.size, 2, none⟩ = some (.int .i32 (k : Int)) := by simp [World.cell?, kf]
  refine bodyPost_ret (v := .agg #[.int .i32 (a : Int), .int .i32 (b : Int), .int .i32 (k : Int)]) ?_ rfl ⟨rfl, gnew ((gbut hg0 (some r)).trans hgg) gs (fun x e => by cases e; exact .inl (Nat.le_refl _)), h.row hS3 gs (Nat.le_refl _)⟩
  simp [results, Tryz.results121, go_sem, x0, x1, x2]
end Go.Proofs.YtpdacbiiaglodaaGreat

/-
  LAYER 5 (norms): the decompositions, told in order: slices.Values at api.Decomp, data.each.
-/
namespace Go.Proofs.YtpdacbiiaglodaaGreat
set_option maxRecDepth 100000
open Go.RowKit Go.Lib
attribute [local go_sem] Oper.semAt_some

def dEnc (x : Dec) : Array Value := #[dAgg x]
def dTold (d : List Dec) (pre : List Dec) (x : Dec) (_W : World) : Prop := d[pre.length]? = some x
def dAll (d : List Dec) (xs : List Dec) (_W : World) : Prop := xs = d

set_option maxHeartbeats 8000000 in
theorem dvals1_tells (n p n0 ib : Nat) (vd : Value) (d : List Dec) (w : World) (hw : Boxed w p 24 vd) (hr : Tri .i32 w vd d)
    (hp : p < n0 ∧ p ≠ ib) (hv : d ≠ [] → ∀ k, vd.ownBlock = some k → k < n0 ∧ k ≠ ib) :
    TellsO Fence.wide (n + 3) Tryz.prog 133 #[.pointer (some ⟨p, 0, none⟩)] dEnc (dTold d) none n0 ib (dAll d) (fun _ _ => True) w := by
  obtain ⟨a, c, rfl, hc, hm⟩ := hr.form
  unfold maxLen at hm
  intro l J Jx W hkx hn0 hJ hJx hY h0
  have hst : Boxed W p 24 (.slice a d.length c) := (hkx.2 p hp.1 hp.2).trans hw
  have hrW : Tri .i32 W (.slice a d.length c) d := hr.heap (fun hne k e => hkx.2 k (hv hne k e).1 (hv hne k e).2)
  clear hw hr hkx
  have hc1 := hst.cell
  refine callsIn_of_wp Tryz.func133 rfl trivial ?_ rfl
  simp only [Tryz.ntmps133, List.size_toArray, List.length_cons, List.length_nil, Nat.reduceAdd, Nat.reduceSub, Array.replicate_succ, Array.replicate_zero, List.push_toArray, List.append_toArray, List.nil_append, List.cons_append]
  gi_wp2
  gi_loopw [7] (fun va wr => ∃ (pre : List Dec) (k : Nat), va = .int .i64 (k : Int) ∧ Hid (pre = d.take k) ∧ k ≤ d.length ∧ J pre wr ∧ Hid (Tri .i32 wr (.slice a d.length c) d) ∧ n0 ≤ wr.heap.size) (fun va _ => d.length - (RowKit.intOf va).toNat)
  case atStart => exact ⟨[], 0, rfl, Lib.hid rfl, Nat.zero_le _, h0, Lib.hid hrW, hn0⟩
  case round =>
    clear h0 hst hrW hn0 hc1
    obtain ⟨pre, k, rfl, hpl, hk, hj, hR, hn0⟩ := hrel
    have hpk : pre.length = k := by rw [hpl.out]; simp; omega
    by_cases hlt : k < d.length
    · obtain ⟨x, hx⟩ : ∃ x, d[k] = x := ⟨_, rfl⟩
      obtain ⟨b, off, rfl, c1, c2, c3⟩ := hR.out.get (i := k) hlt
      rw [hx] at c1 c2 c3
      have hget : d[pre.length]? = some x := by rw [hpk, List.getElem?_eq_getElem hlt, hx]
      have hnx : Hid (pre ++ [x] = d.take (k + 1)) := Lib.hid (by rw [hpl.out, List.take_succ_eq_append_getElem hlt, hx])
      obtain ⟨w2, hw2⟩ : ∃ w2, w2 = wr.alloc (.cells #[.int .i32 x.1, .int .i32 x.2.1, .int .i32 x.2.2] 106) := ⟨_, rfl⟩
      have hg2 : wr.grownBy w2 none := by rw [hw2]; exact World.grownBy_alloc wr _ none
      have hR2 := hR.out.all hg2
      obtain ⟨fn, tmps, assign, body, hy, hRd⟩ := hY pre x w2 (hJ _ _ _ hj hg2) hget (Nat.le_trans hn0 hg2.size)
      unfold dEnc dAgg at hy
      replace hR2 := Lib.hid hR2
      replace hget := Lib.hid hget
      replace hw2 := Lib.hid hw2
      clear hR hx hpl
      gi_wp2_with fail
      rw [← hw2.out, hy]
      gi_wp2
      refine hRd.mono ?_
      rintro e3 W5 (⟨rfl, hj3, hk3⟩ | ⟨rfl, hj3, hk3⟩)
      all_goals gi_wp2
      all_goals first
        | exact ⟨⟨pre ++ [x], k + 1, by go_num, hnx, by omega, hj3, Lib.hid (hR2.out.heap (fun hne q e => hk3.2 q (hv hne q e).1 (hv hne q e).2)), Nat.le_trans (Nat.le_trans hn0 hg2.size) hk3.1⟩, by simp [RowKit.intOf]; omega⟩
        | (refine bodyPost_ret (results_none rfl _ _ _) rfl ?_; exact ⟨⟨_, rfl⟩, .inr ⟨_, trivial, hj3⟩⟩)
        | (go_end0; exact ⟨⟨_, rfl⟩, .inr ⟨_, trivial, hj3⟩⟩)
    · obtain rfl : k = d.length := by omega
      have hall : dAll d pre wr := by unfold dAll; rw [hpl.out, List.take_length]
      clear hR
      gi_wp2
      all_goals first
        | (refine bodyPost_ret (results_none rfl _ _ _) rfl ?_; exact ⟨⟨_, rfl⟩, .inl ⟨pre, hall, hj⟩⟩)
        | (go_end0; exact ⟨⟨_, rfl⟩, .inl ⟨pre, hall, hj⟩⟩)

set_option maxHeartbeats 1000000 in
theorem dvals_any (a : Option Addr) (n c : Nat) (w : World) :
    Calls Tryz.prog 99 #[.slice a n c] w fun e w' => e = .returned (.func (.func 133) #[] #[.pointer (some ⟨w.heap.size, 0, none⟩)]) ∧ Boxed w' w.heap.size 24 (.slice a n c) ∧ w.grownBy w' none := by
  have hmf : ∀ (fn : Fn) (first cap : Array Value) (w : World), (Instr.makeFunc fn first cap).run Tryz.prog w = .ok (.func fn first cap) w := fun _ _ _ _ => rfl
  go_enter Tryz.func99, Tryz.ntmps99
  go_wp2
  go_ret
  exact ⟨rfl, Boxed.new w _ _, World.grownBy_alloc w _ none⟩

set_option maxHeartbeats 1000000 in
theorem each_any (vc vd : Value) (w : World) (hd : ∃ a n c, vd = .slice a n c) :
    Calls Tryz.prog 56 #[datV vc vd] w fun e w' => ∃ p, e = .returned (.func (.func 133) #[] #[.pointer (some ⟨p, 0, none⟩)]) ∧ w.heap.size ≤ p ∧ Boxed w' p 24 vd ∧ w.grownBy w' none := by
  obtain ⟨a, n, c, rfl⟩ := hd
  have hV := fun w => dvals_any a n c w
  have g0 := World.grownBy_alloc w (.cells #[vc, .slice a n c] 33) none
  unfold datV
  go_enter Tryz.func56, Tryz.ntmps56
  go_wp2_with (go_at_call 99; refine (hV _).mono ?_; rintro e w' ⟨rfl, hb, hg⟩)
  go_ret
  rw [World.size_alloc] at hb
  exact ⟨_, rfl, by omega, hb, g0.trans hg⟩
end Go.Proofs.YtpdacbiiaglodaaGreat

/-
  LAYER 5 (norms): the decompositions, told in order, where the round may turn elder blocks.
-/
namespace Go.Proofs.YtpdacbiiaglodaaGreat
set_option maxRecDepth 100000
open Go.RowKit Go.Lib
attribute [local go_sem] Oper.semAt_some

set_option maxHeartbeats 8000000 in
theorem dvals1_tellsQ (n p n0 : Nat) (Pr : Nat → Prop) (vd : Value) (d : List Dec) (w : World) (hw : Boxed w p 24 vd) (hr : Tri .i32 w vd d)
    (hp : p < n0 ∧ Pr p) (hv : d ≠ [] → ∀ k, vd.ownBlock = some k → k < n0 ∧ Pr k) :
    TellsQ Fence.wide (n + 3) Tryz.prog 133 #[.pointer (some ⟨p, 0, none⟩)] dEnc (dTold d) none n0 Pr (dAll d) (fun _ _ => True) w := by
  obtain ⟨a, c, rfl, hc, hm⟩ := hr.form
  unfold maxLen at hm
  intro l J Jx W hkx hn0 hJ hJx hY h0
  have hst : Boxed W p 24 (.slice a d.length c) := (hkx.2 p hp.1 hp.2).trans hw
  have hrW : Tri .i32 W (.slice a d.length c) d := hr.heap (fun hne k e => hkx.2 k (hv hne k e).1 (hv hne k e).2)
  clear hw hr hkx
  have hc1 := hst.cell
  refine callsIn_of_wp Tryz.func133 rfl trivial ?_ rfl
  simp only [Tryz.ntmps133, List.size_toArray, List.length_cons, List.length_nil, Nat.reduceAdd, Nat.reduceSub, Array.replicate_succ, Array.replicate_zero, List.push_toArray, List.append_toArray, List.nil_append, List.cons_append]
  gi_wp2
  gi_loopw [7] (fun va wr => ∃ (pre : List Dec) (k : Nat), va = .int .i64 (k : Int) ∧ Hid (pre = d.take k) ∧ k ≤ d.length ∧ J pre wr ∧ Hid (Tri .i32 wr (.slice a d.length c) d) ∧ n0 ≤ wr.heap.size) (fun va _ => d.length - (RowKit.intOf va).toNat)
  case atStart => exact ⟨[], 0, rfl, Lib.hid rfl, Nat.zero_le _, h0, Lib.hid hrW, hn0⟩
  case round =>
    clear h0 hst hrW hn0 hc1
    obtain ⟨pre, k, rfl, hpl, hk, hj, hR, hn0⟩ := hrel
    have hpk : pre.length = k := by rw [hpl.out]; simp; omega
    by_cases hlt : k < d.length
    · obtain ⟨x, hx⟩ : ∃ x, d[k] = x := ⟨_, rfl⟩
      obtain ⟨b, off, rfl, c1, c2, c3⟩ := hR.out.get (i := k) hlt
      rw [hx] at c1 c2 c3
      have hget : d[pre.length]? = some x := by rw [hpk, List.getElem?_eq_getElem hlt, hx]
      have hnx : Hid (pre ++ [x] = d.take (k + 1)) := Lib.hid (by rw [hpl.out, List.take_succ_eq_append_getElem hlt, hx])
      obtain ⟨w2, hw2⟩ : ∃ w2, w2 = wr.alloc (.cells #[.int .i32 x.1, .int .i32 x.2.1, .int .i32 x.2.2] 106) := ⟨_, rfl⟩
      have hg2 : wr.grownBy w2 none := by rw [hw2]; exact World.grownBy_alloc wr _ none
      have hR2 := hR.out.all hg2
      obtain ⟨fn, tmps, assign, body, hy, hRd⟩ := hY pre x w2 (hJ _ _ _ hj hg2) hget (Nat.le_trans hn0 hg2.size)
      unfold dEnc dAgg at hy
      replace hR2 := Lib.hid hR2
      replace hget := Lib.hid hget
      replace hw2 := Lib.hid hw2
      clear hR hx hpl
      gi_wp2_with fail
      rw [← hw2.out, hy]
      gi_wp2
      refine hRd.mono ?_
      rintro e3 W5 (⟨rfl, hj3, hk3⟩ | ⟨rfl, hj3, hk3⟩)
      all_goals gi_wp2
      all_goals first
        | exact ⟨⟨pre ++ [x], k + 1, by go_num, hnx, by omega, hj3, Lib.hid (hR2.out.heap (fun hne q e => hk3.2 q (hv hne q e).1 (hv hne q e).2)), Nat.le_trans (Nat.le_trans hn0 hg2.size) hk3.1⟩, by simp [RowKit.intOf]; omega⟩
        | (refine bodyPost_ret (results_none rfl _ _ _) rfl ?_; exact ⟨⟨_, rfl⟩, .inr ⟨_, trivial, hj3⟩⟩)
        | (go_end0; exact ⟨⟨_, rfl⟩, .inr ⟨_, trivial, hj3⟩⟩)
    · obtain rfl : k = d.length := by omega
      have hall : dAll d pre wr := by unfold dAll; rw [hpl.out, List.take_length]
      clear hR
      gi_wp2
      all_goals first
        | (refine bodyPost_ret (results_none rfl _ _ _) rfl ?_; exact ⟨⟨_, rfl⟩, .inl ⟨pre, hall, hj⟩⟩)
        | (go_end0; exact ⟨⟨_, rfl⟩, .inl ⟨pre, hall, hj⟩⟩)
end Go.Proofs.YtpdacbiiaglodaaGreat

/-
  LAYER 5 (norms): steps: the map of all decompositions.
-/
namespace Go.Proofs.YtpdacbiiaglodaaGreat
set_option maxRecDepth 100000
open Go.RowKit Go.Lib
attribute [local go_sem] Oper.semAt_some

theorem mapMade (t : TypeId) (v : Value) (n : Nat) (h : v = .int .i64 (n : Int)) (ht : t = 148) (w : World) : (Instr.makeMap t (some v)).run Tryz.prog w = .ok (.map (some w.heap.size)) (w.alloc (.map #[] 0)) := by
  subst h ht
  have hu : Tryz.prog.underlying 148 = some (.map 21 106) := Tryz.underlying148
  simp [Instr.makeMap, run_underlying hu, asInt, asIntOf, Result.andThen]

/-- The decompositions as a map's entries. -/
def ents (d : List Dec) : List (Int × Value) := d.map fun x => (x.1, dAgg x)

theorem take_next {α : Type} {l pre : List α} {x : α} (h : pre = l.take pre.length) (hx : l[pre.length]? = some x) : pre ++ [x] = l.take (pre ++ [x]).length := by
  rw [List.length_append, List.length_cons, List.length_nil, List.take_add_one, hx]
  simp only [Option.toList_some]
  rw [← h]
theorem ents_new {d pre : List Dec} {x : Dec} (hr : (d.map (·.1)).Pairwise (· < ·)) (h : pre = d.take pre.length) (hx : d[pre.length]? = some x) : ∀ y ∈ ents pre, y.1 ≠ x.1 := by
  intro y hy
  obtain ⟨z, hz, rfl⟩ := List.mem_map.1 hy
  obtain ⟨hl, rfl⟩ := List.getElem?_eq_some_iff.1 hx
  rw [h] at hz
  obtain ⟨i, hi, rfl⟩ := List.getElem_of_mem hz
  have hil : i < pre.length := by rw [List.length_take] at hi; omega
  have := List.pairwise_iff_getElem.1 hr i pre.length (by simp; omega) (by simpa using hl) hil
  simp only [List.getElem_map] at this
  simp only [List.getElem_take]
  show (d[i]).1 ≠ _
  omega

set_option maxHeartbeats 8000000 in
theorem steps_in (vc vd : Value) (d : List Dec) (w : World) (hr : Tri .i32 w vd d) (hrise : (d.map (·.1)).Pairwise (· < ·)) :
    CallsIn Fence.wide 8 Tryz.prog 89 #[datV vc vd] w fun e w' => ∃ m, e = .returned (.map (some m)) ∧ w.heap.size ≤ m ∧ Ents w' m (ents d) ∧ w.grownBy w' none := by
  obtain ⟨a, c, rfl, hc, hm⟩ := hr.form
  have hmm := fun w => mapMade _ _ d.length rfl rfl w
  have hE := fun w => each_any vc (.slice a d.length c) w ⟨_, _, _, rfl⟩
  have hvb : d ≠ [] → ∀ k, (Value.slice a d.length c).ownBlock = some k → k < w.heap.size := fun hne k e => hr.lt hne k e
  unfold datV at hE ⊢
  refine callsIn_of_wp_marks Tryz.func89 rfl trivial ?_ rfl
  simp only [Tryz.ntmps89, List.size_toArray, List.length_cons, List.length_nil, Nat.reduceAdd, Nat.reduceSub, Array.replicate_succ, Array.replicate_zero, List.push_toArray, List.append_toArray, List.nil_append, List.cons_append]
  gi_wp2_with (refine ⟨trivial, ?_⟩; gi_at_call 56; refine (callsIn_wide.2 (hE _)).mono ?_; rintro e w1 ⟨p, rfl, hp, hb, hg⟩)
  obtain ⟨W0, hW0⟩ : ∃ W0, W0 = ((w.alloc (.cells #[vc, .slice a d.length c] 33)).alloc (.map #[] 0)).alloc (.cells #[.map (some (w.heap.size + 1))] 148) := ⟨_, rfl⟩
  rw [← hW0] at hp hg
  have hs0 : W0.heap.size = w.heap.size + 3 := by rw [hW0]; simp
  have hg0 : w.grownBy W0 none := by rw [hW0]; exact galloc (galloc (World.grownBy_alloc w _ none) _) _
  have hm0 : Ents W0 (w.heap.size + 1) [] := by
    refine ⟨#[], 0, ?_, rfl⟩
    rw [hW0]
    have h1 := World.alloc_heap_new (w.alloc (.cells #[vc, .slice a d.length c] 33)) (.map #[] 0)
    rw [World.size_alloc] at h1
    exact ((World.grownBy_alloc ((w.alloc (.cells #[vc, .slice a d.length c] 33)).alloc (.map #[] 0)) (.cells #[.map (some (w.heap.size + 1))] 148) none).block (w.heap.size + 1) (by simp) (by simp)).trans h1
  have hb0 : Boxed W0 (w.heap.size + 2) 148 (.map (some (w.heap.size + 1))) := by
    rw [hW0]
    have := Boxed.new ((w.alloc (.cells #[vc, .slice a d.length c] 33)).alloc (.map #[] 0)) 148 (.map (some (w.heap.size + 1)))
    simpa using this
  clear hW0
  have hs1 := hg.size
  have hpl := hb.lt
  have hTell := dvals1_tells 4 p w1.heap.size (w.heap.size + 1) _ d w1 hb ((hr.all hg0).all hg) (by omega) (fun hne k e => by have := hvb hne k e; omega)
  refine range_tells4 (a := _) (w := w1) (α := Dec) rfl (by omega) (gf := 133) (lb := #[.pointer (some ⟨p, 0, none⟩)]) rfl trivial (enters_of Tryz.func133 (by kernel_rfl) rfl)
    hTell (by simp) (fun _ => rfl) (fun _ _ _ _ _ _ h _ _ _ => h)
    (fun pre W => Hid (pre = d.take pre.length) ∧ Ents W (w.heap.size + 1) (ents pre) ∧ Boxed W (w.heap.size + 2) 148 (.map (some (w.heap.size + 1))) ∧ w.grownBy W none ∧ w1.heap.size ≤ W.heap.size) (fun _ _ _ => False)
    ?hI (fun _ _ _ _ _ h _ _ => h.elim) ⟨Lib.hid rfl, hm0.kept hg (by simp), hb0.kept hg (by simp), hg0.trans hg, Nat.le_refl _⟩
    (fun x a' W => ∃ q, W.heap[q]? = some (.cells #[.int .i32 x.1, .int .i32 x.2.1, .int .i32 x.2.2] 106) ∧ a' = { tmps := #[.agg #[vc, .slice a d.length c], .pointer (some ⟨w.heap.size, 0, none⟩), .map none, .pointer (some ⟨w.heap.size + 1 + 1, 0, none⟩), .pointer (some ⟨q, 0, none⟩), .pointer (some ⟨w.heap.size, 1, none⟩), .slice a d.length c, .int .i64 (d.length : Int), .map (some (w.heap.size + 1)), .agg #[vc, .slice a d.length c], .func (.func 133) #[] #[.pointer (some ⟨p, 0, none⟩)], dAgg x, undef, undef, undef, undef, undef], defers := [] })
    (fun _ _ _ _ h _ => h) ?hAx ?assign ?body ?done ?stop
  case hI =>
    rintro pre A B k ⟨h0, h1, h2, h3, h4⟩ hg' hk
    have hk2 : ∀ q, k = some q → w1.heap.size ≤ q := by
      rintro q rfl
      rcases hk with hk | ⟨q', hk, hq, _⟩
      · cases hk
      · cases hk; exact hq
    refine ⟨h0, h1.kept hg' (fun e => by have := hk2 _ e; omega), h2.kept hg' (fun e => by have := hk2 _ e.symm; omega), gnew h3 hg' (fun q e => .inl (by have := hk2 _ e; omega)), Nat.le_trans h4 hg'.size⟩
  case hAx =>
    rintro x a' A B k o ⟨q, hc', rfl⟩ hg' hk ho
    refine ⟨q, (hg'.block q (Array.getElem?_eq_some_iff.1 hc').1 (fun e => ?_)).trans hc', rfl⟩
    cases e
    rw [hc'] at hk
    cases hk
    cases ho
  case assign =>
    intro l x W K hK
    unfold dEnc dAgg
    gi_wp2_with fail
    refine hK _ _ (World.grownBy_alloc W _ none) ⟨W.heap.size, World.alloc_heap_new W _, ?_⟩
    rfl
  case body =>
    rintro l2 pre x a' W ⟨h0, h1, h2, h3, h4⟩ hget ⟨q, hc', rfl⟩ hsz
    have r1 := h2.cell
    clear hTell hr hvb hb0 hm0 hb hE
    have hnew : ∀ y ∈ ents pre, y.1 ≠ x.1 := ents_new hrise h0.out hget
    have hnx := Lib.hid (take_next h0.out hget)
    obtain ⟨W2, hrun, he2, hg2, hs2⟩ := run_update_ents (P := Tryz.prog) Tryz.underlying148 Tryz.underlying21 h1 x.1 (dAgg x) hnew
    unfold dAgg at hrun
    have c1 : W.cell? ⟨q, 0, none⟩ = some (.int .i32 x.1) := by simp only [World.cell?, hc']; rfl
    have c2 : W.cell? ⟨q, 1, none⟩ = some (.int .i32 x.2.1) := by simp only [World.cell?, hc']; rfl
    have c3 : W.cell? ⟨q, 2, none⟩ = some (.int .i32 x.2.2) := by simp only [World.cell?, hc']; rfl
    gi_wp2_with fail
    refine ⟨KeepsFrom.of_grownBy hg2 (fun j e => by cases e; omega), KeptX.grown hg2 hsz (.inl rfl), hnx, ?_, h2.kept hg2 (by simp), gnew h3 hg2 (fun r e => by cases e; left; omega), by omega⟩
    simpa [ents] using he2
  case stop =>
    rintro D c pre Wd W15 hD _ h _ _
    exact h.elim
  case done =>
    rintro D xs Wd W15 hD hS ⟨h0, h1, h2, h3, h4⟩ hg' hM
    obtain rfl : xs = d := hS
    have r1 := h2.cell
    gi_wp2_with fail
    refine ⟨by simp, .inl ⟨_, _, rfl, run_takeDeferred hM, ?_⟩⟩
    have gp := grownBy_putObj' W15 D (.deferred none)
    have hP : ∃ m, w.heap.size ≤ m ∧ Ents (W15.putObj D (.deferred none)) m (ents xs) ∧ w.grownBy (W15.putObj D (.deferred none)) none ∧ m = w.heap.size + 1 := ⟨_, by omega, h1.kept gp (by simp; omega), gnew h3 gp (fun r e => by cases e; left; omega), rfl⟩
    obtain ⟨m, hm1, hm2, hm3, rfl⟩ := hP
    simp [LeavesInM, LeavesIn, results, Tryz.results89, go_sem]
    exact ⟨hm2, hm3⟩
theorem steps_any (vc vd : Value) (d : List Dec) (w : World) (hr : Tri .i32 w vd d) (hrise : (d.map (·.1)).Pairwise (· < ·)) :
    Calls Tryz.prog 89 #[datV vc vd] w fun e w' => ∃ m, e = .returned (.map (some m)) ∧ w.heap.size ≤ m ∧ Ents w' m (ents d) ∧ w.grownBy w' none := callsIn_wide.1 (steps_in vc vd d w hr hrise)
end Go.Proofs.YtpdacbiiaglodaaGreat

/-
  LAYER 5 (norms): the class of a code point: the search in ranges.
-/
namespace Go.Proofs.YtpdacbiiaglodaaGreat
set_option maxRecDepth 100000
open Go.RowKit Go.Lib

set_option maxHeartbeats 1000000 in
theorem isNaN_any (r : Int) (w : World) : Calls Tryz.prog 132 #[.int .i32 r] w fun e w' => e = .returned (.bool false) ∧ w = w' := by
  go_enter Tryz.func132, Tryz.ntmps132
  go_wp2
  go_ret
  simp

set_option maxHeartbeats 1000000 in
theorem cmp_any (a b : Int) (w : World) : Calls Tryz.prog 96 #[.int .i32 a, .int .i32 b] w fun e w' => e = .returned (.int .i64 (if a < b then -1 else if b < a then 1 else 0)) ∧ w = w' := by
  have hA := fun w => isNaN_any a w
  have hB := fun w => isNaN_any b w
  by_cases h1 : a < b
  all_goals by_cases h2 : b < a
  all_goals (try omega)
  all_goals
    go_enter Tryz.func96, Tryz.ntmps96
    go_wp2_with (first
      | (go_at_call_of 132 (Value.int IntKind.i32 a); refine (hA _).mono ?_; rintro e w' ⟨rfl, rfl⟩)
      | (go_at_call_of 132 (Value.int IntKind.i32 b); refine (hB _).mono ?_; rintro e w' ⟨rfl, rfl⟩))
  all_goals
    go_ret
    simp

set_option maxHeartbeats 1000000 in
theorem class1_any (c : Cls) (r : Int) (w : World) : Calls Tryz.prog 95 #[cAgg c, .int .i32 r] w fun e w' => e = .returned (.int .i64 (cmpv c r)) ∧ w.grownBy w' none := by
  obtain ⟨f, t, k⟩ := c
  unfold cAgg cmpv
  dsimp only
  have hC := fun w => cmp_any f r w
  by_cases h1 : f ≤ r
  all_goals by_cases h2 : r ≤ t
  all_goals
    go_enter Tryz.func95, Tryz.ntmps95
    go_wp2_with (go_at_call 96; refine (hC _).mono ?_; rintro e w' ⟨rfl, rfl⟩)
  all_goals
    go_ret
    refine ⟨by simp, World.grownBy_alloc w _ none⟩

/-- All ranges ahead of place i lie ahead of r; none from place i on does; the one at i holds r. -/
def LeftOf (c : List Cls) (r : Int) (i : Nat) : Prop := ∀ (k : Nat) (y : Cls), k < i → c[k]? = some y → cmpv y r < 0
def RightOf (c : List Cls) (r : Int) (i : Nat) : Prop := ∀ (k : Nat) (y : Cls), i ≤ k → c[k]? = some y → ¬ cmpv y r < 0
def holdsAt (c : List Cls) (r : Int) (i : Nat) : Bool := match c[i]? with
  | some y => decide (cmpv y r = 0)
  | none => false
theorem cls_left {c : List Cls} {r : Int} {m : Nat} {x : Cls} (hok : clsOk 0 c = true) (hx : c[m]? = some x) (hn : cmpv x r < 0) : LeftOf c r (m + 1) := by
  intro k y hk hy
  obtain ⟨hm, rfl⟩ := List.getElem?_eq_some_iff.1 hx
  obtain ⟨hkl, rfl⟩ := List.getElem?_eq_some_iff.1 hy
  have o1 := clsOk_mem hok m hm
  have o2 := clsOk_mem hok k hkl
  rw [cmpv_neg o1.2.1] at hn
  rw [cmpv_neg o2.2.1]
  rcases Nat.lt_or_ge k m with h | h
  · have := clsOk_rise hok k m h hm
    omega
  · obtain rfl : k = m := by omega
    exact hn
theorem cls_right {c : List Cls} {r : Int} {m : Nat} {x : Cls} (hok : clsOk 0 c = true) (hx : c[m]? = some x) (hn : ¬ cmpv x r < 0) : RightOf c r m := by
  intro k y hk hy
  obtain ⟨hm, rfl⟩ := List.getElem?_eq_some_iff.1 hx
  obtain ⟨hkl, rfl⟩ := List.getElem?_eq_some_iff.1 hy
  have o1 := clsOk_mem hok m hm
  have o2 := clsOk_mem hok k hkl
  rw [cmpv_neg o1.2.1] at hn
  rw [cmpv_neg o2.2.1]
  rcases Nat.lt_or_ge m k with h | h
  · have := clsOk_rise hok m k h hkl
    omega
  · obtain rfl : k = m := by omega
    exact hn

set_option maxHeartbeats 4000000 in
theorem search_any (vc : Value) (c : List Cls) (r : Int) (w : World) (hT : Tri .i64 w vc c) (hok : clsOk 0 c = true) (hlen : c.length ≤ 4000) :
    Calls Tryz.prog 94 #[vc, .int .i32 r, .func (.func 95) #[] #[]] w fun e w' => ∃ (i : Nat), e = .returned (.tuple #[.int .i64 (i : Int), .bool (holdsAt c r i)]) ∧ i ≤ c.length ∧ LeftOf c r i ∧ RightOf c r i ∧ w.grownBy w' none := by
  obtain ⟨a, cap, rfl, h1, h2⟩ := hT.form
  unfold maxLen at h2
  have hTH := Lib.hid hT
  have hokH := Lib.hid hok
  clear hT hok
  go_enter Tryz.func94, Tryz.ntmps94
  go_wp2
  go_loopw [9, 10] (fun vi vj wr => ∃ (i j : Nat), vi = .int .i64 (i : Int) ∧ vj = .int .i64 (j : Int) ∧ i ≤ j ∧ j ≤ c.length ∧ LeftOf c r i ∧ RightOf c r j ∧ w.grownBy wr none) (fun vi vj _ => (RowKit.intOf vj).toNat - (RowKit.intOf vi).toNat)
  case atStart =>
    exact ⟨0, c.length, rfl, rfl, Nat.zero_le _, Nat.le_refl _, (fun k x hk => by omega), (fun k x hk hx => by have := (List.getElem?_eq_some_iff.1 hx).1; omega), World.grownBy.refl _ _⟩
  case round =>
    obtain ⟨i, j, rfl, rfl, hij, hj, hl, hr, hg⟩ := hrel
    by_cases hlt : i < j
    · have hm : (i + j) / 2 < c.length := by omega
      obtain ⟨x, hx⟩ : ∃ x, c[(i + j) / 2] = x := ⟨_, rfl⟩
      obtain ⟨b, off, rfl, c1, c2, c3⟩ := (hTH.out.all hg).get hm
      rw [hx] at c1 c2 c3
      have hC := fun w => class1_any x r w
      unfold cAgg at hC
      have hxx : c[(i + j) / 2]? = some x := by rw [List.getElem?_eq_getElem hm, hx]
      by_cases hneg : cmpv x r < 0
      · have hl2 := cls_left hokH.out hxx hneg
        replace hxx := Lib.hid hxx
        go_wp2_with (go_at_call 95; refine (hC _).mono ?_; rintro e w' ⟨rfl, hg2⟩)
        go_roundw
        case rel => exact ⟨(i + j) / 2 + 1, j, by go_num, rfl, by omega, hj, hl2, hr, hg.trans hg2⟩
        case measure => simp [RowKit.intOf]; omega
      · have hr2 := cls_right hokH.out hxx hneg
        replace hxx := Lib.hid hxx
        go_wp2_with (go_at_call 95; refine (hC _).mono ?_; rintro e w' ⟨rfl, hg2⟩)
        go_roundw
        case rel => exact ⟨i, (i + j) / 2, rfl, by go_num, by omega, by omega, hl, hr2, hg.trans hg2⟩
        case measure => simp [RowKit.intOf]; omega
    · obtain rfl : i = j := by omega
      by_cases hlast : i < c.length
      · obtain ⟨x, hx⟩ : ∃ x, c[i] = x := ⟨_, rfl⟩
        obtain ⟨b, off, rfl, c1, c2, c3⟩ := (hTH.out.all hg).get hlast
        rw [hx] at c1 c2 c3
        have hC := fun w => class1_any x r w
        unfold cAgg at hC
        have hxx : c[i]? = some x := by rw [List.getElem?_eq_getElem hlast, hx]
        have hdec : (cmpv x r == 0) = holdsAt c r i := by
          unfold holdsAt; rw [hxx, Bool.eq_iff_iff]; simp
        replace hxx := Lib.hid hxx
        replace hdec := Lib.hid hdec
        go_wp2_with (go_at_call 95; refine (hC _).mono ?_; rintro e w' ⟨rfl, hg2⟩)
        go_ret2
        exact ⟨i, by rw [← hdec.out]; rfl, hj, hl, hr, hg.trans hg2⟩
      · have hdec : holdsAt c r i = false := by unfold holdsAt; rw [List.getElem?_eq_none (by omega)]
        replace hdec := Lib.hid hdec
        go_wp2
        go_ret2
        exact ⟨i, by rw [hdec.out]; rfl, hj, hl, hr, hg⟩

theorem class_of {c : List Cls} {r : Int} {i : Nat} (hok : clsOk 0 c = true) (hi : i ≤ c.length) (hl : LeftOf c r i) (hr : RightOf c r i) : clsOf c r = if holdsAt c r i = true then (c[i]?.map (·.2.2)).getD 0 else 0 := by
  have h := cls_found (r := r) hok i hi (fun k hk => hl k _ hk (List.getElem?_eq_getElem (by omega))) (fun k hk hkl => hr k _ hk (List.getElem?_eq_getElem hkl))
  rw [h]
  by_cases hil : i < c.length
  · rw [dif_pos hil]
    unfold holdsAt
    rw [List.getElem?_eq_getElem hil]
    simp
  · rw [dif_neg hil]
    unfold holdsAt
    rw [List.getElem?_eq_none (by omega)]
    simp
theorem cellKept {w w' : World} {b o : Nat} {v : Value} (hg : w.grownBy w' none) (h : w.cell? ⟨b, o, none⟩ = some v) : w'.cell? ⟨b, o, none⟩ = some v := hg.cell h (by simp)

set_option maxHeartbeats 1000000 in
theorem class_any (vc vd : Value) (c : List Cls) (r : Int) (w : World) (hT : Tri .i64 w vc c) (hok : clsOk 0 c = true) (hlen : c.length ≤ 4000) :
    Calls Tryz.prog 53 #[datV vc vd, .int .i32 r] w fun e w' => e = .returned (.int .i64 (clsOf c r)) ∧ w.grownBy w' none := by
  have hS := fun w hT => search_any vc c r w hT hok hlen
  obtain ⟨a, cap, rfl, h1, h2⟩ := hT.form
  unfold maxLen at h2
  have g0 := World.grownBy_alloc w (.cells #[.slice a c.length cap, vd] 33) none
  have hb0 : (w.alloc (.cells #[.slice a c.length cap, vd] 33)).cell? ⟨w.heap.size, 0, none⟩ = some (.slice a c.length cap) := by
    have hn := World.alloc_heap_new w (.cells #[.slice a c.length cap, vd] 33)
    simp only [World.cell?, hn]
    rfl
  have hS0 := hS _ (hT.all g0)
  have hTH := Lib.hid hT
  clear hS hT
  unfold datV
  go_enter Tryz.func53, Tryz.ntmps53
  go_wp2_with (go_at_call 94; refine hS0.mono ?_; rintro e w' ⟨i, rfl, hi, hl, hr, hg2⟩; have hb1 := cellKept hg2 hb0; have hfnd := class_of hok hi hl hr; have hgT := g0.trans hg2; cases hh : holdsAt c r i)
  · rw [hh] at hfnd
    clear hb0 hS0
    go_wp2
    go_ret
    exact ⟨by rw [hfnd]; rfl, hgT⟩
  · have hil : i < c.length := by
      unfold holdsAt at hh
      split at hh
      · rename_i y hy; exact (List.getElem?_eq_some_iff.1 hy).1
      · cases hh
    obtain ⟨x, hx⟩ : ∃ x, c[i] = x := ⟨_, rfl⟩
    rw [hh] at hfnd
    have hfnd2 : clsOf c r = x.2.2 := by rw [hfnd]; simp [hil, hx]
    obtain ⟨b, off, rfl, c1, c2, c3⟩ := (hTH.out.all hgT).get hil
    rw [hx] at c1 c2 c3
    clear hb0 hS0 hfnd hx
    go_wp2
    go_simp
    go_wp2
    go_ret
    exact ⟨by rw [hfnd2]; rfl, hgT⟩
end Go.Proofs.YtpdacbiiaglodaaGreat
