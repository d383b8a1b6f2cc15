/-
  ARGUMENTS OF A LAW, OPENED: a plan, operations, with what they hold and how much.
-/
import Derived.Test.YtcehddlplkfflaaGreatFN23
import Derived.Test.YtcehddlplkfflaaGreatRows
import Derived.OpenShut
import Derived.ProofKit
import Derived.SizedLaws
import Derived.Deep.SlicePairs
import Derived.Test.YtcehddlplkfflaaGreatFN22
namespace Go.Proofs.YtcehddlplkfflaaGreat
set_option maxRecDepth 100000
open Go.ChangeShapes Go.WideShapes Go.ChangeAt Go.RowKit

section
variable {H : Type} {enc : TypeId × Value → H} {W : World} {base : Nat} {held : Bool} {fuel : Nat} {x : DataW H × List MemPlace}
theorem bytesInt : Tryz.prog.bytesOf 3 = 8 := by kernel_rfl
theorem bytesU : Tryz.prog.bytesOf 5 = 1 := by kernel_rfl
theorem bytesOp : Tryz.prog.bytesOf 34 = 160 := by kernel_rfl
theorem addS (b off i : Nat) : (⟨b, off, none⟩ : Addr).add i = ⟨b, off + i, none⟩ := by cases i <;> simp [Addr.add]
theorem ints_open {v : Value} (h : DataW.trod enc Tryz.prog W base (fun _ => true) held fuel 22 [v] = some x) (hw : ∀ n ∈ x.1.weights Tryz.prog 22, n ≤ reachBytes) :
    ∃ zs a c, v = .slice a zs.length c ∧ Ints W v zs ∧ zs.length * 8 ≤ 140737488351232 := by
  rcases open_ints Tryz.underlying22 Tryz.underlying3 (by kernel_rfl) h with ⟨h0, _⟩ | ⟨a, len, cap, zs, hcs, _, hl, hm, hz, hx, hcell, hwz⟩
  · simp at h0
    subst h0
    exact ⟨[], none, 0, rfl, .inl (.inl ⟨rfl, rfl⟩), by simp⟩
  · simp at hcs hz
    subst hcs
    have hwt : len * 8 ≤ 140737488351232 := by
      have := hw ((len + (cap - len)) * Tryz.prog.bytesOf 3) (by
        rw [hx]
        simp only [DataW.weights, Tryz.underlying22, lits, List.length_map, List.length_take, List.length_drop, hz]
        rw [Nat.min_eq_left hl]
        exact List.mem_cons_self)
      rw [bytesInt] at this
      unfold reachBytes at this
      omega
    have hll : (zs.take len).length = len := by rw [List.length_take, hz]; omega
    refine ⟨zs.take len, some a, cap, by rw [hll], ?_, by rw [hll]; exact hwt⟩
    by_cases hc0 : cap = 0
    · right
      have : len = 0 := by omega
      subst this hc0
      exact ⟨a, rfl, by simp⟩
    · left; right
      have hc := hcell 0 (by omega)
      have hsp := World.cell?_spot hc
      obtain ⟨b, off, sp⟩ := a
      simp [Addr.add] at hsp
      subst hsp
      refine ⟨b, off, cap, by rw [List.length_map, hll], by rw [List.length_map, hll]; exact hl, hm, fun i u hu => ?_⟩
      rw [List.getElem?_map] at hu
      obtain ⟨z, hz2, rfl⟩ := Option.map_eq_some_iff.1 hu
      have hi : i < len := by have := (List.getElem?_eq_some_iff.1 hz2).1; omega
      rw [List.getElem?_take_of_lt hi] at hz2
      have hci := hcell i (by omega)
      rw [addS] at hci
      rw [hci, List.getD_eq_getElem?_getD, hz2]
      rfl
theorem bytes_open {v : Value} (h : DataW.trod enc Tryz.prog W base (fun _ => true) held fuel 32 [v] = some x) (hw : ∀ n ∈ x.1.weights Tryz.prog 32, n ≤ reachBytes) :
    ∃ bs a c, v = .slice a (List.length bs) c ∧ ReadsF W v bs ∧ bs.length ≤ 140737488351232 := by
  rcases open_ints Tryz.underlying32 Tryz.underlying5 (by kernel_rfl) h with ⟨h0, _⟩ | ⟨a, len, cap, zs, hcs, _, hl, hm, hz, hx, hcell, hwz⟩
  · simp at h0
    subst h0
    exact ⟨[], none, 0, rfl, .inl (.inl ⟨rfl, rfl⟩), by simp⟩
  · simp at hcs hz
    subst hcs
    have hwt : len ≤ 140737488351232 := by
      have := hw ((len + (cap - len)) * Tryz.prog.bytesOf 5) (by
        rw [hx]
        simp only [DataW.weights, Tryz.underlying32, lits, List.length_map, List.length_take, List.length_drop, hz]
        rw [Nat.min_eq_left hl]
        exact List.mem_cons_self)
      rw [bytesU] at this
      unfold reachBytes at this
      omega
    have hll : ((zs.take len).map fun z => z.toNat.toUInt8).length = len := by rw [List.length_map, List.length_take, hz]; omega
    refine ⟨(zs.take len).map fun z => z.toNat.toUInt8, some a, cap, by rw [hll], ?_, by rw [hll]; exact hwt⟩
    by_cases hc0 : cap = 0
    · right
      have : len = 0 := by omega
      subst this hc0
      exact ⟨a, rfl, by simp⟩
    · left; right
      have hc := hcell 0 (by omega)
      have hsp := World.cell?_spot hc
      obtain ⟨b, off, sp⟩ := a
      simp [Addr.add] at hsp
      subst hsp
      refine ⟨b, off, cap, by rw [hll], by rw [hll]; exact hl, hm, fun i u hu => ?_⟩
      rw [List.getElem?_map] at hu
      obtain ⟨z, hz2, rfl⟩ := Option.map_eq_some_iff.1 hu
      have hi : i < len := by have := (List.getElem?_eq_some_iff.1 hz2).1; rw [List.length_take] at this; omega
      rw [List.getElem?_take_of_lt hi] at hz2
      have hci := hcell i (by omega)
      rw [addS] at hci
      rw [hci, List.getD_eq_getElem?_getD, hz2]
      have hb := bounds_u8 (hwz z (List.mem_of_getElem? hz2))
      show some (Value.int .u8 z) = _
      congr 2
      have : z.toNat < 256 := by omega
      simp [Nat.toUInt8, UInt8.toNat_ofNat']
      omega
theorem plan_open {v0 v1 v2 v3 v4 : Value} (h : DataW.trod enc Tryz.prog W base (fun _ => true) held fuel 24 [v0, v1, v2, v3, v4] = some x) (hw : ∀ n ∈ x.1.weights Tryz.prog 24, n ≤ reachBytes) :
    ∃ (p : Pl) (a1 : Option Addr) (c1 : Nat) (a2 : Option Addr) (c2 : Nat) (a3 : Option Addr) (c3 : Nat), [v0, v1, v2, v3, v4] = [.int .i64 p.crash, .slice a1 p.keep.length c1, .slice a2 p.fail.length c2, .slice a3 p.full.length c3, .int .i64 p.room] ∧ planFits p ∧
      Ints W (.slice a1 p.keep.length c1) p.keep ∧ Ints W (.slice a2 p.fail.length c2) p.fail ∧ Ints W (.slice a3 p.full.length c3) p.full := by
  obtain ⟨xs, m, _, hxy, _, hxl, hx⟩ := DataW.trod_struct Tryz.underlying24 h
  have hci : Tryz.prog.cellsOf 3 = 1 := by kernel_rfl
  have hcs : Tryz.prog.cellsOf 22 = 1 := by kernel_rfl
  match xs, hxl with
  | [y0, y1, y2, y3, y4], _ =>
    have g0 := hx 0 _ rfl
    have g1 := hx 1 _ rfl
    have g2 := hx 2 _ rfl
    have g3 := hx 3 _ rfl
    have g4 := hx 4 _ rfl
    simp [hci, hcs] at g0 g1 g2 g3 g4
    have hww : ∀ n, n ∈ y1.1.weights Tryz.prog 22 ∨ n ∈ y2.1.weights Tryz.prog 22 ∨ n ∈ y3.1.weights Tryz.prog 22 → n ≤ reachBytes := fun n hn => hw n (by
      rw [hxy]
      simp only [DataW.weights, Tryz.underlying24, DataW.weightsEach, List.map_cons, List.map_nil]
      simp only [List.mem_append]
      rcases hn with hn | hn | hn
      · exact .inr (.inl hn)
      · exact .inr (.inr (.inl hn))
      · exact .inr (.inr (.inr (.inl hn))))
    obtain ⟨n0, e0, _, _⟩ := DataW.trod_int Tryz.underlying3 g0
    obtain ⟨n4, e4, _, w4⟩ := DataW.trod_int Tryz.underlying3 g4
    obtain ⟨z1, a1, c1, e1, i1, l1⟩ := ints_open g1 (fun n hn => hww n (.inl hn))
    obtain ⟨z2, a2, c2, e2, i2, l2⟩ := ints_open g2 (fun n hn => hww n (.inr (.inl hn)))
    obtain ⟨z3, a3, c3, e3, i3, l3⟩ := ints_open g3 (fun n hn => hww n (.inr (.inr hn)))
    simp at e0 e4
    subst e0 e1 e2 e3 e4
    exact ⟨⟨n0, z1, z2, z3, n4⟩, a1, c1, a2, c2, a3, c3, rfl, ⟨l1, l2, l3, (bounds_i64 w4).2⟩, i1, i2, i3⟩
/-- An operation's ten cells. -/
def OpRow (W : World) (o : OpP) (cs : List Value) : Prop := ∃ da dc a1 c1 a2 c2 a3 c3, cs = (opCells o.kind o.name o.dest (.slice da o.data.length dc) o.n o.plan.crash (.slice a1 o.plan.keep.length c1) (.slice a2 o.plan.fail.length c2) (.slice a3 o.plan.full.length c3) o.plan.room).toList ∧
  ReadsF W (.slice da o.data.length dc) o.data ∧ Ints W (.slice a1 o.plan.keep.length c1) o.plan.keep ∧ Ints W (.slice a2 o.plan.fail.length c2) o.plan.fail ∧ Ints W (.slice a3 o.plan.full.length c3) o.plan.full
theorem op_open {cs : List Value} (h : DataW.trod enc Tryz.prog W base (fun _ => true) held fuel 34 cs = some x) (hw : ∀ n ∈ x.1.weights Tryz.prog 34, n ≤ reachBytes) : ∃ o : OpP, OpRow W o cs ∧ o.Fits := by
  obtain ⟨xs, m, _, hxy, hcl, hxl, hx⟩ := DataW.trod_struct Tryz.underlying34 h
  have hc : Tryz.prog.cellsOf 34 = 10 := by kernel_rfl
  have hci : Tryz.prog.cellsOf 3 = 1 := by kernel_rfl
  have hcs1 : Tryz.prog.cellsOf 9 = 1 := by kernel_rfl
  have hcb : Tryz.prog.cellsOf 32 = 1 := by kernel_rfl
  have hcp : Tryz.prog.cellsOf 24 = 5 := by kernel_rfl
  rw [hc] at hcl
  match cs, hcl with
  | [v0, v1, v2, v3, v4, v5, v6, v7, v8, v9], _ =>
    match xs, hxl with
    | [y0, y1, y2, y3, y4, y5], _ =>
      have g0 := hx 0 _ rfl
      have g1 := hx 1 _ rfl
      have g2 := hx 2 _ rfl
      have g3 := hx 3 _ rfl
      have g4 := hx 4 _ rfl
      have g5 := hx 5 _ rfl
      simp [hci, hcs1, hcb, hcp] at g0 g1 g2 g3 g4 g5
      have hww : ∀ n, n ∈ y3.1.weights Tryz.prog 32 ∨ n ∈ y5.1.weights Tryz.prog 24 → n ≤ reachBytes := fun n hn => hw n (by
        rw [hxy]
        simp only [DataW.weights, Tryz.underlying34, DataW.weightsEach, List.map_cons, List.map_nil]
        simp only [List.mem_append]
        rcases hn with hn | hn
        · exact .inr (.inr (.inr (.inl hn)))
        · exact .inr (.inr (.inr (.inr (.inr (.inl hn))))))
      obtain ⟨n0, e0, _, _⟩ := DataW.trod_int Tryz.underlying3 g0
      obtain ⟨s1, e1, _, l1⟩ := DataW.trod_string Tryz.underlying9 g1
      obtain ⟨s2, e2, _, l2⟩ := DataW.trod_string Tryz.underlying9 g2
      obtain ⟨bs, da, dc, e3, rb, lb⟩ := bytes_open g3 (fun n hn => hww n (.inl hn))
      obtain ⟨n4, e4, _, w4⟩ := DataW.trod_int Tryz.underlying3 g4
      obtain ⟨p, a1, c1, a2, c2, a3, c3, e5, pf, i1, i2, i3⟩ := plan_open g5 (fun n hn => hww n (.inr hn))
      simp at e0 e1 e2 e4 e5
      obtain ⟨rfl, rfl, rfl, rfl, rfl⟩ := e5
      subst e0 e1 e2 e3 e4
      exact ⟨⟨n0, s1, s2, bs, n4, p⟩, ⟨da, dc, a1, c1, a2, c2, a3, c3, rfl, rb, i1, i2, i3⟩, ⟨l1, l2, lb, by have := (bounds_i64 w4).2; show n4 < _; omega, pf⟩⟩
theorem choose_ops {α : Type} {n : Nat} {p : Nat → α → Prop} (h : ∀ i, i < n → ∃ x, p i x) : ∃ l : List α, l.length = n ∧ ∀ i x, l[i]? = some x → p i x := by
  induction n with
  | zero => exact ⟨[], rfl, fun i x h => by simp at h⟩
  | succ n ih =>
    obtain ⟨l, h1, h2⟩ := ih (fun i hi => h i (by omega))
    obtain ⟨x, hx⟩ := h n (by omega)
    refine ⟨l ++ [x], by simp [h1], fun i y hy => ?_⟩
    by_cases hi : i < n
    · rw [List.getElem?_append_left (by omega)] at hy
      exact h2 i y hy
    · have hin : i = n := by
        have := (List.getElem?_eq_some_iff.1 hy).1
        simp at this
        omega
      subst hin
      rw [List.getElem?_append_right (by omega), h1] at hy
      simp at hy
      subst hy
      exact hx
theorem weightsAll_mem {P : Program} {e : TypeId} : ∀ {l : List (DataW H)} {d : DataW H}, d ∈ l → ∀ n ∈ d.weights P e, n ∈ DataW.weightsAll P e l
  | [], _, h, _, _ => by cases h
  | d0 :: l, d, h, n, hn => by
    simp only [DataW.weightsAll, List.mem_append]
    rcases List.mem_cons.1 h with rfl | h
    · exact .inl hn
    · exact .inr (weightsAll_mem h n hn)
theorem ops_open {v : Value} (h : DataW.trod enc Tryz.prog W base (fun _ => true) held fuel 25 [v] = some x) (hw : ∀ n ∈ x.1.weights Tryz.prog 25, n ≤ reachBytes) : ∃ L, OpsR W v L := by
  rcases Deep.open_slice Tryz.underlying25 h with ⟨h0, _⟩ | ⟨a, len, cap, m, n, D, Pl, hcs, hb, hl, hm, hmm, rfl, hx⟩
  · simp at h0
    subst h0
    exact ⟨[], none, 0, rfl, Nat.zero_le _, (fun o ho => by cases ho), fun j o ho => by simp at ho⟩
  simp at hcs hmm
  subst hcs hmm
  have ce : Tryz.prog.cellsOf 34 = 10 := by kernel_rfl
  have hlen : len ≤ 879609302208 := by
    have := hw ((len + (m - len)) * Tryz.prog.bytesOf 34) (by
      simp only [DataW.weights, Tryz.underlying25, List.length_map, List.length_range]
      exact List.mem_cons_self)
    rw [bytesOp] at this
    unfold reachBytes at this
    omega
  obtain ⟨l, hll, hl2⟩ := choose_ops (α := OpP) (n := len) (p := fun i o => o.Fits ∧ ∃ cs', W.cells? base (a.add (i * 10)) 10 = some cs' ∧ OpRow W o cs') (fun i hi => by
    obtain ⟨cs', h1, h2⟩ := hx i (by omega)
    rw [ce] at h1
    obtain ⟨o, h3, h4⟩ := op_open h2 (fun n hn => hw n (by
      simp only [DataW.weights, Tryz.underlying25]
      refine List.mem_cons_of_mem _ (List.mem_append.2 (.inl (weightsAll_mem (List.mem_map.2 ⟨i, List.mem_range.2 hi, rfl⟩) n hn)))))
    exact ⟨o, h4, cs', h1, h3⟩)
  subst hll
  refine ⟨l, some a, m, rfl, hlen, fun o ho => ?_, fun j o ho => ?_⟩
  · obtain ⟨i, hi⟩ := List.mem_iff_getElem?.1 ho
    exact (hl2 i o hi).1
  · obtain ⟨_, cs', h1, da, dc, a1, c1, a2, c2, a3, c3, rfl, k1, k2, k3, k4⟩ := hl2 j o ho
    obtain ⟨_, hlen2, hcell⟩ := World.cells?_some h1
    have hs0 : a.spot = none := by
      have hj := (List.getElem?_eq_some_iff.1 ho).1
      obtain ⟨_, cs0, h10, da0, dc0, b1, e1, b2, e2, b3, e3, rfl, _⟩ := hl2 0 _ (List.getElem?_eq_getElem (show 0 < l.length by omega))
      obtain ⟨_, _, hcell0⟩ := World.cells?_some h10
      have h00 := hcell0 0 (by omega)
      have e0 : ∀ A : Addr, A.add 0 = A := fun A => by simp [Addr.add]
      rw [Nat.zero_mul, e0, e0] at h00
      exact World.cell?_spot (show W.cell? a = some _ from by simpa [opCells] using h00)
    obtain ⟨b, off, sp⟩ := a
    have hs : sp = none := hs0
    subst hs
    refine ⟨b, off, da, dc, a1, c1, a2, c2, a3, c3, rfl, fun i u hu => ?_, k1, k2, k3, k4⟩
    have hi : i < 10 := by have := (Array.getElem?_eq_some_iff.1 hu).1; simpa [opCells] using this
    have hc := hcell i (by omega)
    rw [addS, addS] at hc
    rw [hc, ← hu]
    simp
theorem ops_arg {v : Value} {d : DataW H} {ps : List MemPlace} (h : DataW.Trod enc Tryz.prog W 0 (fun _ => true) true 25 v d ps) (hv : ∃ a l c, v = .slice a l c) (hw : ∀ n ∈ d.weights Tryz.prog 25, n ≤ reachBytes) : ∃ L, OpsR W v L := by
  obtain ⟨fuel, hf⟩ := h
  obtain ⟨a, l, c, rfl⟩ := hv
  exact ops_open (x := (d, ps)) (by simpa [Value.cells] using hf) hw
theorem plan_argR {v : Value} {d : DataW H} {ps : List MemPlace} (hok : Value.okWide Tryz.prog W .any base 24 v) (h : DataW.Trod enc Tryz.prog W 0 (fun _ => true) true 24 v d ps) (hw : ∀ n ∈ d.weights Tryz.prog 24, n ≤ reachBytes) : ∃ p, PlanR W v p := by
  simp only [Value.okWide, Tryz.underlying24] at hok
  obtain ⟨cs, rfl, hcs, _⟩ := hok
  obtain ⟨fuel, hf⟩ := h
  have hc : Tryz.prog.cellsOf 24 = 5 := by kernel_rfl
  rw [hc] at hcs
  obtain ⟨l⟩ := cs
  match l, hcs with
  | [v0, v1, v2, v3, v4], _ =>
    obtain ⟨p, a1, c1, a2, c2, a3, c3, e, pf, i1, i2, i3⟩ := plan_open (x := (d, ps)) (show DataW.trod enc Tryz.prog W 0 (fun _ => true) true fuel 24 [v0, v1, v2, v3, v4] = some _ from hf) hw
    simp at e
    obtain ⟨rfl, rfl, rfl, rfl, rfl⟩ := e
    exact ⟨p, a1, c1, a2, c2, a3, c3, rfl, pf, i1, i2, i3⟩
theorem weights_of {ts : List TypeId} {ds : List (DataW H)} (hsz : (DataW.weightsEach Tryz.prog ts ds).all (· ≤ reachBytes) = true) (j : Nat) {t : TypeId} {d : DataW H} (ht : ts[j]? = some t) (hd : ds[j]? = some d) : ∀ n ∈ d.weights Tryz.prog t, n ≤ reachBytes := fun n hn => by
  have := List.all_eq_true.1 hsz n (DataW.weights_mem_each ht hd n hn)
  simpa using this
end
end Go.Proofs.YtcehddlplkfflaaGreat

/-
  LAYER 1 (fs): FsReads, its walk.
-/
namespace Go.Proofs.YtcehddlplkfflaaGreat
set_option maxRecDepth 100000
open Go.RowKit Go.Lib Go.ChangeShapes Go.WideShapes Go.ChangeAt
attribute [local go_sem] Oper.semAt_some

theorem PlanR.new {w w' : World} {v : Value} {p : Pl} (h : PlanR w v p) (g : w.grownBy w' none) : PlanR w' v p := by
  obtain ⟨a1, c1, a2, c2, a3, c3, e, k0, k1, k2, k3⟩ := h
  exact ⟨a1, c1, a2, c2, a3, c3, e, k0, k1.all g, k2.all g, k3.all g⟩
set_option maxHeartbeats 8000000 in
theorem FsReads_go (w : World) (pv v : Value) (p : Pl) (L : List OpP) (hp : PlanR w pv p) (h : OpsR w v L) (nm : ByteArray) (hnm : nm.size ≤ maxLen) (i n : Int) (hi9 : i ≤ 9223372036854775807) (hn9 : n ≤ 9223372036854775807) :
    Calls Tryz.prog 4 #[pv, v, .string nm, .int .i64 i, .int .i64 n] w fun e w' => e = .returned (.bool true) ∧ w.grownBy w' none := by
  have hL : L.length ≤ 1099511627776 := by obtain ⟨_, _, _, h2, _⟩ := h; omega
  obtain ⟨va, vc, hv⟩ : ∃ a c, v = .slice a L.length c := by obtain ⟨a, c, h2, _⟩ := h; exact ⟨a, c, h2⟩
  subst hv
  have hp0 := hp
  obtain ⟨a1, c1, a2, c2, a3, c3, rfl, -, -, -, -⟩ := hp0
  obtain ⟨n1, hn1⟩ : ∃ n, n = p.keep.length := ⟨_, rfl⟩
  obtain ⟨n2, hn2⟩ : ∃ n, n = p.fail.length := ⟨_, rfl⟩
  obtain ⟨n3, hn3⟩ : ∃ n, n = p.full.length := ⟨_, rfl⟩
  obtain ⟨ln, hln⟩ : ∃ n, n = L.length := ⟨_, rfl⟩
  rw [← hn1, ← hn2, ← hn3] at hp ⊢
  rw [← hln] at h ⊢
  obtain ⟨W0, hW0⟩ : ∃ W0, W0 = w.alloc (.cells #[.int .i64 p.crash, .slice a1 n1 c1, .slice a2 n2 c2, .slice a3 n3 c3, .int .i64 p.room] 24) := ⟨_, rfl⟩
  have gB : w.grownBy W0 none := by rw [hW0]; exact World.grownBy_alloc w _ none
  have P0 : PlanAt W0 w.heap.size (.int .i64 p.crash) (.slice a1 n1 c1) (.slice a2 n2 c2) (.slice a3 n3 c3) (.int .i64 p.room) := by rw [hW0]; exact World.alloc_heap_new w _
  have haw := fawake_any W0
  have hfi : Hid (∀ W, w.grownBy W none → Calls Tryz.prog 10 #[.slice va ln vc] W (SomeB W)) := Lib.hid fun W g => fits_any _ L W (h.new g)
  have hma : Hid (∀ W, w.grownBy W none → Calls Tryz.prog 15 #[.agg #[.int .i64 p.crash, .slice a1 n1 c1, .slice a2 n2 c2, .slice a3 n3 c3, .int .i64 p.room], .slice va ln vc] W fun e w' => ∃ f q F R, e = .returned (.tuple #[.pointer (some ⟨f, 0, none⟩), .pointer (some ⟨q, 0, none⟩), .bool true]) ∧ Made W L p w' f q F R) := Lib.hid fun W g => made_any _ _ p L W (hp.new g) (h.new g)
  obtain ⟨rb, hrb⟩ : ∃ rb, rb = (L.foldl RefP.op (RefP.new p)).read nm i n := ⟨_, rfl⟩
  obtain ⟨sz, hsz⟩ : ∃ sz, sz = (L.foldl RefP.op (RefP.new p)).size nm := ⟨_, rfl⟩
  have hall : Hid (∀ W0 W f q F R, Made W0 L p W f q F R → ∀ W', W.grownBy W' none →
      (Calls Tryz.prog 16 #[.pointer (some ⟨f, 0, none⟩), .string nm, .int .i64 i, .int .i64 n] W' fun e w' => ∃ x l c, e = .returned (.tuple #[.slice x l c, .int .i64 rb.2]) ∧ Reads w' (.slice x l c) rb.1 ∧ W'.grownBy w' none) ∧
      (Calls Tryz.prog 17 #[.pointer (some ⟨q, 0, none⟩), .string nm, .int .i64 i, .int .i64 n] W' fun e w' => ∃ x l c, e = .returned (.tuple #[.slice x l c, .int .i64 rb.2]) ∧ Reads w' (.slice x l c) rb.1 ∧ W'.grownBy w' none) ∧
      (Calls Tryz.prog 18 #[.pointer (some ⟨f, 0, none⟩), .string nm] W' fun e w' => e = .returned (.tuple #[.int .i64 sz.1, .int .i64 sz.2]) ∧ W' = w') ∧
      (Calls Tryz.prog 19 #[.pointer (some ⟨q, 0, none⟩), .string nm] W' fun e w' => e = .returned (.tuple #[.int .i64 sz.1, .int .i64 sz.2]) ∧ W'.grownBy w' none)) := Lib.hid fun W0 W f q F R M W' g => by
    have M2 := M.new g
    obtain ⟨k1, k2, k3, k4, k5, k6, k7⟩ := M2.inv.asks hL
    obtain ⟨r, vs, hr⟩ := M2.both.rf
    rw [hrb, hsz]
    refine ⟨(M2.both.fs.read M2.inv nm hnm i n hi9 hn9).mono ?_, (rread_any nm i n hr k1 k2 k3 k6 hi9 hn9).mono ?_, M2.both.fs.size M2.inv nm hnm, rsize_any nm hr k1 k2 k3⟩
    · rintro e w' ⟨x, rfl, h1, h2⟩
      obtain ⟨xa, xc, rfl⟩ := h1.form
      exact ⟨xa, _, xc, rfl, h1, h2⟩
    · rintro e w' ⟨x, rfl, h1, h2⟩
      obtain ⟨xa, xc, rfl⟩ := h1.form
      exact ⟨xa, _, xc, rfl, h1, h2⟩
  obtain ⟨rbs, re⟩ := rb
  obtain ⟨s1, s2⟩ := sz
  dsimp only at hall
  have e1 : (re == re) = true := by simp
  have e2 : (s1 == s1) = true := by simp
  have e3 : (s2 == s2) = true := by simp
  have e4 : ((⟨rbs.toArray⟩ : ByteArray).toList == (⟨rbs.toArray⟩ : ByteArray).toList) = true := by simp
  replace hrb := Lib.hid hrb
  replace hsz := Lib.hid hsz
  replace hn1 := Lib.hid hn1
  replace hn2 := Lib.hid hn2
  replace hn3 := Lib.hid hn3
  replace hln := Lib.hid hln
  replace gB := Lib.hid gB
  clear h hp hi9 hn9 hL hnm
  go_enter Tryz.func4, Tryz.ntmps4
  go_upto_region 1 with fail
  rw [← hW0]
  replace hW0 := Lib.hid hW0
  go_upto_region 3 with
    (go_at_call 9
     refine haw.mono ?_
     clear haw
     rintro e w1 ⟨rfl, g1⟩
     have G1 := Lib.hid (gB.out.trans g1)
     have hf1 := hfi.out w1 G1.out
     have P1 := P0.kept g1 (by simp)
     clear g1 P0)
  go_wp2_with fail
  refine hf1.mono ?_
  clear hf1
  rintro e w2 ⟨b, rfl, g2⟩
  have G2 := Lib.hid (G1.out.trans g2)
  have hm2 := hma.out w2 G2.out
  have P2 := P1.kept g2 (by simp)
  have d0 := P2.c0
  have d1 := P2.c1
  have d2 := P2.c2
  have d3 := P2.c3
  have d4 := P2.c4
  clear g2 P1 P2
  cases b
  · go_wp2_with fail
    go_ret
    exact ⟨rfl, G2.out⟩
  · go_wp2_with first
      | (go_at_call 15
         refine hm2.mono ?_
         clear hm2
         rintro e w3 ⟨f, q, F, R, rfl, M⟩
         have ha := hall.out w2 w3 f q F R M
         have G3 := Lib.hid (G2.out.trans M.grown)
         have hr1 := (ha w3 (World.grownBy.refl _ _)).1
         replace ha := Lib.hid ha
         clear M)
      | (go_at_call 16
         refine hr1.mono ?_
         clear hr1
         rintro e w4 ⟨x4, l4, y4, rfl, b4, g4⟩
         have hr2 := (ha.out w4 g4).2.1
         have g4h := Lib.hid g4
         have b4h := Lib.hid b4
         clear g4 b4)
      | (go_at_call 17
         refine hr2.mono ?_
         clear hr2
         rintro e w5 ⟨x5, l5, y5, rfl, b5, g5⟩
         have hr3 := (ha.out w5 (g4h.out.trans g5)).2.2.1
         have hr4 := (ha.out w5 (g4h.out.trans g5)).2.2.2
         have g5h := Lib.hid g5
         have b5h := Lib.hid b5
         clear g5 b5)
      | (go_at_call 18
         refine hr3.mono ?_
         clear hr3
         rintro e w5' ⟨rfl, rfl⟩)
      | (go_at_call 19
         refine hr4.mono ?_
         clear hr4
         rintro e w6 ⟨rfl, g6⟩
         have cv4 := convB_of (b4h.out.more (g5h.out.trans g6))
         have cv5 := convB_of (b5h.out.more g6)
         have FF := Lib.hid (((G3.out.trans g4h.out).trans g5h.out).trans g6)
         clear g6)
    go_ret
    exact ⟨rfl, FF.out⟩
theorem FsReads_walk (w : World) (pv : Value) (p : Pl) (hp : PlanR w pv p) (v : Value) (L : List OpP) (h : OpsR w v L) (nm : ByteArray) (hnm : nm.size ≤ 140737488351232) (i : Int) (hi : (Lit.int .i64 i).wf = true) (n : Int) (hn : (Lit.int .i64 n).wf = true) :
    Calls Tryz.prog 4 #[pv, v, .string nm, .int .i64 i, .int .i64 n] w fun e w' => e = .returned (.bool true) ∧ Below w.heap.size w w' := by
  refine (FsReads_go w pv v p L hp h nm (by unfold maxLen; omega) i n (bounds_i64 hi).2 (bounds_i64 hn).2).mono ?_
  rintro e w' ⟨rfl, g⟩
  exact ⟨rfl, gbelow g (Nat.le_refl _) (by simp)⟩
end Go.Proofs.YtcehddlplkfflaaGreat

/-
  LAYER 1 (fs): the reference's Same, of files alike; the program's Files and Safe as the plain file system has them.
-/
namespace Go.Proofs.YtcehddlplkfflaaGreat
set_option maxRecDepth 100000
open Go.RowKit Go.Lib
open Go.Proofs (encStr)
attribute [local go_sem] Oper.semAt_some

section
variable {w : World}
set_option maxHeartbeats 8000000 in
theorem rsame_any {B B' : Nat} {v v' : Value} {rows rows' : List FRow} (h : FilesAt w B v rows) (h' : FilesAt w B' v' rows') (he : rows.map (fun r => (r.1, r.2.2)) = rows'.map (fun r => (r.1, r.2.2))) (hl : rows.length ≤ 65536) :
    Calls Tryz.prog 25 #[v, v'] w fun e w' => e = .returned (.bool true) ∧ w.grownBy w' none := by
  obtain ⟨va, vc, rfl⟩ := rowFormS h.1
  obtain ⟨va', vc', rfl⟩ := rowFormS h'.1
  have hll : rows'.length = rows.length := by have := congrArg List.length he; simpa using this.symm
  obtain ⟨n, hn⟩ : ∃ n, n = rows.length := ⟨_, rfl⟩
  rw [hll, ← hn] at h' ⊢
  rw [← hn] at h hl
  replace hn := Lib.hid hn
  replace hll := Lib.hid hll
  replace he := Lib.hid he
  replace h := Lib.hid h
  replace h' := Lib.hid h'
  go_enter Tryz.func25, Tryz.ntmps25
  go_wp2_with fail
  go_loopw [5, 13] (fun _ vi wr => ∃ (j : Nat), vi = .int .i64 (j : Int) ∧ j ≤ n ∧ Hid (w.grownBy wr none)) (fun _ vi _ => n - (RowKit.intOf vi).toNat)
  case atStart => exact ⟨0, rfl, Nat.zero_le _, Lib.hid (World.grownBy.refl _ _)⟩
  case round =>
    obtain ⟨j, rfl, hj, hG⟩ := hrel
    by_cases hlt : j < n
    · have hltz : (j : Int) < (n : Int) := by omega
      obtain ⟨x, hx⟩ : ∃ x, rows[j]? = some x := ⟨_, List.getElem?_eq_getElem (by have := hn.out; omega)⟩
      obtain ⟨x', hx'⟩ : ∃ x, rows'[j]? = some x := ⟨_, List.getElem?_eq_getElem (by have := hn.out; have := hll.out; omega)⟩
      have hxe : (x.1, x.2.2) = (x'.1, x'.2.2) := by
        have := congrArg (fun l => l[j]?) he.out
        simp only [List.getElem?_map, hx, hx', Option.map_some, Option.some.injEq] at this
        exact this
      have k1 := (Prod.mk.inj hxe).1
      have k2 := (Prod.mk.inj hxe).2
      obtain ⟨b, da, dc, rfl, _, hb, c0, hv, c1⟩ := (h.out.new hG.out).at hx
      obtain ⟨b', da', dc', rfl, _, hb', c0', hv', c1'⟩ := (h'.out.new hG.out).at hx'
      rw [← k1] at c0'
      rw [← k2] at c1' hv'
      have r1 : ∀ m, Reads (wr.drewN m) (.slice da x.2.2.length dc) x.2.2 := fun m => by
        rw [← hv]
        exact (Owns.reads (World.ownsRow.mono ((h.out.new hG.out).2 x (List.mem_of_getElem? hx)) (Nat.zero_le _))).more (gdrewN (World.grownBy.refl wr none) m)
      have r2 : ∀ m, Reads (wr.drewN m) (.slice da' x.2.2.length dc') x.2.2 := fun m => by
        have := (Owns.reads (World.ownsRow.mono ((h'.out.new hG.out).2 x' (List.mem_of_getElem? hx')) (Nat.zero_le _))).more (gdrewN (World.grownBy.refl wr none) m)
        rw [hv', ← k2] at this
        exact this
      have cv1 := fun m => convB_of (r1 m)
      have cv2 := fun m => convB_of (r2 m)
      obtain ⟨xs, hxs⟩ : ∃ xs : ByteArray, xs = ⟨x.1.toArray⟩ := ⟨_, rfl⟩
      rw [← hxs] at c0 c0'
      obtain ⟨ys, hys⟩ : ∃ ys : ByteArray, ys = ⟨x.2.2.toArray⟩ := ⟨_, rfl⟩
      rw [← hys] at cv1 cv2
      obtain ⟨dl, hdl⟩ : ∃ dl, dl = x.2.2.length := ⟨_, rfl⟩
      rw [← hdl] at c1 c1' cv1 cv2
      have e1 : (xs.toList == xs.toList) = true := by simp
      have e2 : (ys.toList == ys.toList) = true := by simp
      clear hx hx' hxe k1 k2 hv hv' r1 r2 hxs hys hdl
      have gF : ∀ m, Hid (w.grownBy (wr.drewN m) none) := fun m => Lib.hid (gdrewN hG.out m)
      go_wp2_with fail
      go_quiet (fail)
      go_wp2_with fail
      go_roundw
      case rel => exact ⟨j + 1, by go_num, by omega, gF _⟩
      case measure => simp [RowKit.intOf]; omega
    · obtain rfl : j = n := by omega
      go_wp2
      go_ret
      exact ⟨rfl, hG.out⟩
end
section
variable {n0 : Nat → Prop} {q : Nat} {a : RefP} {N : Nat} {w : World}
theorem FsSim.files (S : FsSim n0 w q a) (I : RInv N a) (hN : N ≤ 1099511627776) :
    Calls Tryz.prog 21 #[.pointer (some ⟨q, 0, none⟩)] w fun e w' => ∃ v rows, e = .returned v ∧ FilesAt w' w.heap.size v rows ∧ rows.map (fun r => (r.1, r.2.2)) = a.files ∧ w.grownBy w' none := by
  obtain ⟨φ, p, d, s, mv, fl, h, hs⟩ := S
  unfold RefP.files
  by_cases hd : a.died = true
  · rw [if_pos hd]
    rw [hd] at h
    refine (files_dead w h.fs).mono ?_
    rintro e w' ⟨rfl, rfl⟩
    exact ⟨_, [], rfl, ⟨World.ownsRow_nil _ _ _ _, fun r hr => by cases hr⟩, rfl, World.grownBy.refl _ _⟩
  · rw [if_neg hd]
    have hdf : a.died = false := by simpa using hd
    rw [hdf] at h
    have hl := FSim.lens (l := a.dir) h.files hs I hN (fun x i e => I.dirLive e)
    refine (files_any _ (fileOf fl) w h.fs h.dir (fun x b e => ⟨(hl x b e).1, by have := (hl x b e).2.1; omega⟩) (by rw [DirL.mapB_length]; have := I.dirOk.len; omega)).mono ?_
    rintro e w' ⟨v, rows, rfl, k1, k2, k3⟩
    refine ⟨v, rows, rfl, k1, ?_, k3⟩
    rw [k2, DirL.mapB_sorted]
    show (a.dir.sorted.map _).map _ = _
    rw [List.map_map]
    refine List.map_congr_left fun x hx => ?_
    obtain ⟨f, h1, _, _, h3⟩ := hs.file x.2 (I.dirLive (DirL.sorted_look _ x hx))
    show (x.1, (fileOf fl (φ x.2)).data) = _
    rw [fileOf_mem (blocks_one h.files.2) h1, h3]
theorem FsSim.safes (S : FsSim n0 w q a) (I : RInv N a) (hN : N ≤ 1099511627776) :
    Calls Tryz.prog 26 #[.pointer (some ⟨q, 0, none⟩)] w fun e w' => ∃ v rows, e = .returned v ∧ FilesAt w' w.heap.size v rows ∧ rows.map (fun r => (r.1, r.2.2)) = a.safeFiles ∧ w.grownBy w' none := by
  obtain ⟨φ, p, d, s, mv, fl, h, hs⟩ := S
  unfold RefP.safeFiles
  have hlv : ∀ x i, a.safe.look x = some i → a.live i := fun x i e => ⟨0, x, e⟩
  have hl := FSim.lens (l := a.safe) h.files hs I hN hlv
  refine (safe_any _ (fileOf fl) w h.fs h.safe (fun x b e => ⟨(hl x b e).1, by have := (hl x b e).2.2; omega⟩) (by rw [DirL.mapB_length]; have := I.safeOk.len; omega)).mono ?_
  rintro e w' ⟨v, rows, rfl, k1, k2, k3⟩
  refine ⟨v, rows, rfl, k1, ?_, k3⟩
  rw [k2, DirL.mapB_sorted]
  show (a.safe.sorted.map _).map _ = _
  rw [List.map_map]
  refine List.map_congr_left fun x hx => ?_
  obtain ⟨f, h1, h2, _, _⟩ := hs.file x.2 (hlv x.1 x.2 (DirL.sorted_look _ x hx))
  show (x.1, (fileOf fl (φ x.2)).safe) = _
  rw [fileOf_mem (blocks_one h.files.2) h1, h2]
end
end Go.Proofs.YtcehddlplkfflaaGreat

/-
  LAYER 1 (fs): what is settled: a death leaves nothing that another death could take.
-/
namespace Go.Proofs.YtcehddlplkfflaaGreat
set_option maxRecDepth 100000
open Go.RowKit Go.Lib

section
variable {N : Nat} {a : RefP}
/-- All is safe. -/
structure Settled (a : RefP) : Prop where
  moves : a.moves = []
  dir : a.dir = a.safe
  chg : ∀ x i, a.dir.look x = some i → (a.file i).chg = []
theorem die_file (I : RInv N a) {x : List UInt8} {i : Nat} (hx : a.dieDir.look x = some i) : ∃ k, a.die.file i = ⟨settleP (keepAt a.pl.keep) k true (a.file i).safe (a.file i).chg, []⟩ := by
  have hD : DOk 4096 a.nodes.length a.dieDir := I.pre (dieL a.pl.keep a.moves.length)
  have hmn : ∀ y ∈ a.dieDir.names.mergeSort leB, ∃ j, a.dieDir.look y = some j ∧ j < a.nodes.length := fun y hy => by
    obtain ⟨b, hb⟩ := Option.isSome_iff_exists.1 (DirL.look_names.2 (List.mem_mergeSort.1 hy))
    exact ⟨b, hb, hD.lookLt hb⟩
  have hxm : x ∈ a.dieDir.names.mergeSort leB := List.mem_mergeSort.2 (DirL.look_names.1 (by rw [hx]; rfl))
  obtain ⟨k, hk⟩ := List.mem_iff_getElem?.1 hxm
  have hnat := nodesDie_at (ks := keepAt a.pl.keep) (D := a.dieDir) (a.dieDir.names.mergeSort leB) 1 a.nodes hmn ((List.mergeSort_perm _ _).nodup_iff.2 hD.names) (fun y hy z hz e => by
    obtain ⟨b, hb, _⟩ := hmn y hy
    have h1 := DirL.look_mem hb
    have h2 := DirL.look_mem (show a.dieDir.look z = some b by rw [← e]; exact hb)
    exact congrArg Prod.fst (num_one hD.nums _ h1 _ h2 rfl)) k x i (a.file i) hk hx (RefP.file_at (hD.lookLt hx))
  refine ⟨1 + (((a.dieDir.names.mergeSort leB).take k).map (chgLen a.dieDir a.nodes)).sum, ?_⟩
  unfold RefP.file
  rw [List.getD_eq_getElem?_getD]
  show ((nodesDie (keepAt a.pl.keep) a.dieDir (a.dieDir.names.mergeSort leB) 1 a.nodes)[i]?).getD ⟨[], []⟩ = _
  rw [hnat]
  rfl
theorem settled_die (I : RInv N a) : Settled a.die := by
  refine ⟨rfl, rfl, fun x i hx => ?_⟩
  obtain ⟨k, hk⟩ := die_file I (x := x) (i := i) hx
  rw [hk]
theorem begin_settled (I : RInv N a) (h : a.died = true → Settled a) : a.begin.2.died = true → Settled a.begin.2 := by
  unfold RefP.begin
  split
  · exact h
  · split
    · exact fun _ => settled_die I.counted
    · rename_i hd _
      exact fun e => (hd e).elim
theorem begin_alive (h : a.begin.1 = 0) : a.died = false := by
  cases e : a.died with
  | false => rfl
  | true => unfold RefP.begin at h; rw [if_pos e] at h; cases h
/-- The dead are settled. -/
theorem op_settled (I : RInv N a) (h : a.died = true → Settled a) (o : OpP) : (a.op o).died = true → Settled (a.op o) := by
  have hb := begin_settled I h
  have key : ∀ (X : Int × RefP), (a.begin.1 = 0 → X.2.died = a.died) → ((if a.begin.1 = 0 then X else a.begin).2.died = true → Settled (if a.begin.1 = 0 then X else a.begin).2) := fun X hX => by
    split
    · rename_i h0
      intro e
      rw [hX h0, begin_alive h0] at e
      cases e
    · exact hb
  unfold RefP.op
  split
  · refine key _ (fun _ => ?_)
    split
    · split
      · rfl
      · split
        · rfl
        · split <;> rfl
    · rfl
  · split
    · refine key _ (fun _ => ?_)
      split
      · rfl
      · split
        · rfl
        · split
          · rfl
          · split
            · rfl
            · split <;> rfl
    · split
      · refine key _ (fun _ => ?_)
        split
        · rfl
        · split
          · rfl
          · split <;> rfl
      · split
        · refine key _ (fun _ => ?_)
          split <;> rfl
        · split
          · refine key _ (fun _ => ?_)
            split
            · rfl
            · split
              · split <;> rfl
              · rfl
          · split
            · refine key _ (fun _ => ?_)
              split <;> rfl
            · split
              · refine key _ (fun _ => ?_)
                split <;> rfl
              · intro e
                cases e
theorem fold_settled : ∀ (L : List OpP) (a : RefP) (N : Nat), RInv N a → (∀ o ∈ L, o.Fits) → (a.died = true → Settled a) → ((L.foldl RefP.op a).died = true → Settled (L.foldl RefP.op a))
  | [], _, _, _, _, h => h
  | o :: L, a, N, I, hf, h => fold_settled L (a.op o) (N + 1) (I.op o (hf o (by simp))) (fun o' ho => hf o' (by simp [ho])) (op_settled I h o)
theorem fold_inv : ∀ (L : List OpP) (a : RefP) (N : Nat), RInv N a → (∀ o ∈ L, o.Fits) → RInv (N + L.length) (L.foldl RefP.op a)
  | [], _, _, I, _ => I
  | o :: L, a, N, I, hf => by
    have := fold_inv L (a.op o) (N + 1) (I.op o (hf o (by simp))) (fun o' ho => hf o' (by simp [ho]))
    rw [List.length_cons, show N + (L.length + 1) = N + 1 + L.length by omega]
    exact this
theorem made_inv {L : List OpP} {p : Pl} (hp : planFits p) (hf : ∀ o ∈ L, o.Fits) : RInv L.length (L.foldl RefP.op (RefP.new p)) ∧ ((L.foldl RefP.op (RefP.new p)).died = true → Settled (L.foldl RefP.op (RefP.new p))) := by
  have h1 := fold_inv L _ 0 (RInv.new p hp) hf
  rw [Nat.zero_add] at h1
  exact ⟨h1, fold_settled L _ 0 (RInv.new p hp) hf (fun e => by cases e)⟩
/-- Behind a start all is settled. -/
theorem start_settled (I : RInv N a) (h : a.died = true → Settled a) (p : Pl) : Settled (a.start p) := by
  unfold RefP.start
  by_cases hd : a.died = true
  · rw [if_pos hd]
    exact ⟨(h hd).moves, (h hd).dir, (h hd).chg⟩
  · rw [if_neg hd]
    have := settled_die I
    exact ⟨this.moves, this.dir, this.chg⟩
/-- What is settled is safe. -/
theorem Settled.files (h : Settled a) (hd : a.died = false) : a.safeFiles = a.files := by
  unfold RefP.files RefP.safeFiles
  rw [if_neg (by rw [hd]; simp), ← h.dir]
  refine List.map_congr_left fun x hx => ?_
  have := h.chg x.1 x.2 (DirL.sorted_look _ x hx)
  unfold NodeP.data
  rw [this]
  rfl
/-- Another start takes nothing. -/
theorem Settled.start (h : Settled a) (I : RInv N a) (hd : a.died = false) (p : Pl) : (a.start p).files = a.files := by
  have hdd : a.dieDir = a.dir := by
    unfold RefP.dieDir
    rw [h.moves, List.take_nil, h.dir]
    rfl
  have e : a.start p = { a.die with died := false, count := 0, pl := p } := by unfold RefP.start; rw [if_neg (by rw [hd]; simp)]
  rw [e]
  unfold RefP.files
  rw [if_neg (by simp), if_neg (by rw [hd]; simp)]
  show a.dieDir.sorted.map (fun x => (x.1, (a.die.file x.2).data)) = _
  rw [hdd]
  refine List.map_congr_left fun x hx => ?_
  have hlk := DirL.sorted_look _ x hx
  obtain ⟨k, hk⟩ := die_file I (x := x.1) (i := x.2) (by rw [hdd]; exact hlk)
  rw [hk]
  have hc := h.chg x.1 x.2 hlk
  unfold NodeP.data
  rw [hc]
  rfl
theorem rsync_okP {s : ByteArray} (h : (a.sync s).1 = 0) : ∃ j, a.dir.look s.data.toList = some j ∧ (a.sync s).2 = { a with count := a.count + 1, nodes := a.nodes.set j (a.file j).synced } := by
  unfold RefP.sync at h ⊢
  by_cases h0 : a.begin.1 = 0
  · rw [if_pos h0] at h ⊢
    cases hl : a.dir.look s.data.toList with
    | none =>
      rw [hl] at h
      cases h
    | some j => exact ⟨j, rfl, rfl⟩
  · rw [if_neg h0] at h
    exact (h0 h).elim
theorem rsyncDir_okP (h : a.syncDir.1 = 0) : a.syncDir.2 = { a with count := a.count + 1, safe := a.dir, moves := [] } := by
  unfold RefP.syncDir at h ⊢
  by_cases h0 : a.begin.1 = 0
  · rw [if_pos h0] at h ⊢
    by_cases hf : a.pl.full.contains (a.count + 1) = true
    · rw [if_pos hf] at h
      cases h
    · rw [if_neg hf]
  · rw [if_neg h0] at h
    exact (h0 h).elim
/-- So many of these names' files have no changes. -/
structure Syncing (A : RefP) (ns : List (List UInt8)) (j : Nat) (a : RefP) : Prop where
  died : a.died = A.died
  dir : a.dir = A.dir
  chg : ∀ k x i, k < j → ns[k]? = some x → A.dir.look x = some i → (a.file i).chg = []
theorem Syncing.next {A : RefP} {ns : List (List UInt8)} {j : Nat} (h : Syncing A ns j a) (I : RInv N a) {x : List UInt8} (hx : ns[j]? = some x) (h0 : (a.sync ⟨x.toArray⟩).1 = 0) : Syncing A ns (j + 1) (a.sync ⟨x.toArray⟩).2 := by
  obtain ⟨i0, h1, h2⟩ := rsync_okP h0
  rw [h2]
  have hil := I.dirOk.lookLt h1
  have hf : ∀ i, RefP.file { a with count := a.count + 1, nodes := a.nodes.set i0 (a.file i0).synced } i = if i = i0 then (a.file i0).synced else a.file i := fun i => by
    unfold RefP.file
    rw [List.getD_eq_getElem?_getD, List.getD_eq_getElem?_getD]
    show ((a.nodes.set i0 _)[i]?).getD _ = _
    split
    · rename_i e
      rw [e, List.getElem?_set_self hil]
      rfl
    · rename_i e
      rw [List.getElem?_set_ne (fun e2 => e e2.symm)]
      first | rfl | rw [List.getD_eq_getElem?_getD]
  refine ⟨h.died, h.dir, fun k y i hk hy hi => ?_⟩
  rw [hf]
  split
  · rfl
  · rename_i hne
    by_cases hkj : k = j
    · subst hkj
      rw [hx] at hy
      cases hy
      rw [← h.dir] at hi
      have e : a.dir.look x = some i0 := h1
      rw [e] at hi
      cases hi
      exact (hne rfl).elim
    · exact h.chg k y i (by omega) hy hi
theorem Syncing.settled {A : RefP} (h : Syncing A (A.dir.sorted.map (·.1)) A.dir.length a) (h0 : a.syncDir.1 = 0) : Settled a.syncDir.2 ∧ a.syncDir.2.died = A.died := by
  rw [rsyncDir_okP h0]
  refine ⟨⟨rfl, rfl, fun x i hx => ?_⟩, h.died⟩
  have hx2 : A.dir.look x = some i := by rw [← h.dir]; exact hx
  have hm : x ∈ A.dir.sorted.map (·.1) := by
    unfold DirL.sorted
    rw [List.map_map]
    exact List.mem_map.2 ⟨x, List.mem_mergeSort.2 (DirL.look_names.1 (by rw [hx2]; rfl)), rfl⟩
  obtain ⟨k, hk⟩ := List.mem_iff_getElem?.1 hm
  have hkl := (List.getElem?_eq_some_iff.1 hk).1
  rw [List.length_map, DirL.sorted_length] at hkl
  exact h.chg k x i hkl hk hx2
end
end Go.Proofs.YtcehddlplkfflaaGreat

/-
  LAYER 1 (fs): FsSettled, its walk.
-/
namespace Go.Proofs.YtcehddlplkfflaaGreat
set_option maxRecDepth 100000
open Go.RowKit Go.Lib Go.ChangeShapes Go.WideShapes Go.ChangeAt
attribute [local go_sem] Oper.semAt_some

theorem FilesAt.gp {w w' : World} {P : Nat → Prop} {B : Nat} {v : Value} {rows : List FRow} (h : FilesAt w B v rows) (g : GP P w w') (hP : ∀ k, P k → k < B ∨ w.heap.size ≤ k) : FilesAt w' B v rows := by
  have key : ∀ {e s n : Nat} {u : Value} {xs : List Value}, w.ownsRow B e s u n xs → w'.ownsRow B e s u n xs := fun {e s n u xs} o => own_gp o g (fun k hk hp => by
    have h1 := World.ownsRow.lt o k hk
    rcases hP k hp with h | h <;> omega)
  exact ⟨key h.1, fun r hr => key (h.2 r hr)⟩
theorem files_len {N : Nat} {a : RefP} (I : RInv N a) : a.files.length ≤ 4096 ∧ a.safeFiles.length ≤ 4096 := by
  refine ⟨?_, ?_⟩
  · unfold RefP.files
    split
    · simp
    · rw [List.length_map, DirL.sorted_length]
      exact I.dirOk.len
  · unfold RefP.safeFiles
    rw [List.length_map, DirL.sorted_length]
    exact I.safeOk.len
/-- The program's file system alone, in blocks of F, all of them new since w. -/
structure FAlone (w : World) (f : Nat) (a : RefP) (W : World) (F : Nat → Prop) : Prop where
  fs : FsSim F W f a
  fl : ∀ k, F k → w.heap.size ≤ k ∧ k < W.heap.size
  grown : w.grownBy W none
section
variable {N : Nat} {w W W' : World} {f : Nat} {a : RefP} {F : Nat → Prop}
theorem FAlone.new (h : FAlone w f a W F) (g : W.grownBy W' none) : FAlone w f a W' F :=
  ⟨h.fs.kept (P := fun _ => False) (GP.of g (by simp)) (fun _ h => h.elim), fun k hk => ⟨(h.fl k hk).1, Nat.lt_of_lt_of_le (h.fl k hk).2 g.size⟩, h.grown.trans g⟩
theorem Made.alone {L : List OpP} {p : Pl} {q : Nat} {R : Nat → Prop} (M : Made w L p W f q F R) : FAlone w f (L.foldl RefP.op (RefP.new p)) W F := ⟨M.both.fs, fun k hk => ⟨M.fl k hk, M.both.fl k hk⟩, M.grown⟩
/-- A step of the program's alone: what lay outside F stays. -/
theorem FAlone.step {fn : Nat} {args : Array Value} {E : Ending} {a' : RefP} (h : FAlone w f a W F) (C : FsSim (fun k => F k ∨ W.heap.size ≤ k) W f a → (∀ k, W.heap.size ≤ k → (F k ∨ W.heap.size ≤ k)) → Calls Tryz.prog fn args W fun e w' => e = E ∧ FsSim (fun k => F k ∨ W.heap.size ≤ k) w' f a' ∧ GP (fun k => F k ∨ W.heap.size ≤ k) W w') :
    Calls Tryz.prog fn args W fun e w' => e = E ∧ FAlone w f a' w' (RU F W w') ∧ GP F W w' := by
  refine (C (h.fs.re (fun k _ h => .inl h)) (fun k hk => .inr hk)).mono ?_
  rintro e w' ⟨he, h1, g⟩
  refine ⟨he, ⟨h1.re (fun k hk h => h.elim .inl (fun h => .inr ⟨h, hk⟩)), fun k hk => ?_, grown_gp h.grown g.old (fun k hk => (h.fl k hk).1)⟩, g.old⟩
  have hs := h.grown.size
  rcases hk with hk | hk
  · exact ⟨(h.fl k hk).1, Nat.lt_of_lt_of_le (h.fl k hk).2 g.size⟩
  · exact ⟨Nat.le_trans hs hk.1, hk.2⟩
theorem FAlone.start (h : FAlone w f a W F) (I : RInv N a) (hN : N ≤ 1099511627776) {v : Value} {p : Pl} (hp : PlanR w v p) :
    Calls Tryz.prog 24 #[.pointer (some ⟨f, 0, none⟩), v] W fun e w' => e = .returned (.int .i64 0) ∧ FAlone w f (a.start p) w' (RU F W w') ∧ GP F W w' := by
  obtain ⟨a1, c1, a2, c2, a3, c3, rfl, pf, i1, i2, i3⟩ := hp
  refine h.step (fun S hn => S.start I hN hn _ _ _ p pf (fun W' g => ?_))
  have g2 := grown_gp h.grown g.old (fun k hk => (h.fl k hk).1)
  exact ⟨i1.all g2, i2.all g2, i3.all g2⟩
end
def planCells (p : Pl) (a1 : Option Addr) (n1 c1 : Nat) (a2 : Option Addr) (n2 c2 : Nat) (a3 : Option Addr) (n3 c3 : Nat) : Array Value := #[.int .i64 p.crash, .slice a1 n1 c1, .slice a2 n2 c2, .slice a3 n3 c3, .int .i64 p.room]
set_option maxHeartbeats 16000000 in
theorem FsSettled_go (w : World) (pv v qv rv : Value) (p qp rp : Pl) (L : List OpP) (hp : PlanR w pv p) (h : OpsR w v L) (hq : PlanR w qv qp) (hr : PlanR w rv rp) :
    Calls Tryz.prog 8 #[pv, v, qv, rv] w fun e w' => e = .returned (.bool true) ∧ w.grownBy w' none := by
  have hL : L.length ≤ 1099511627776 := by obtain ⟨_, _, _, h2, _⟩ := h; omega
  have hfit : ∀ o ∈ L, o.Fits := by obtain ⟨_, _, _, _, h3, _⟩ := h; exact h3
  obtain ⟨va, vc, hv⟩ : ∃ a c, v = .slice a L.length c := by obtain ⟨a, c, h2, _⟩ := h; exact ⟨a, c, h2⟩
  subst hv
  have hp0 := hp
  have hq0 := hq
  have hr0 := hr
  obtain ⟨a1, c1, a2, c2, a3, c3, rfl, hpf, -, -, -⟩ := hp0
  obtain ⟨b1, d1, b2, d2, b3, d3, rfl, -, -, -, -⟩ := hq0
  obtain ⟨e1, f1, e2, f2, e3, f3, rfl, -, -, -, -⟩ := hr0
  obtain ⟨ln, hln⟩ : ∃ n, n = L.length := ⟨_, rfl⟩
  rw [← hln] at h ⊢
  generalize hn1 : p.keep.length = n1 at *
  generalize hn2 : p.fail.length = n2 at *
  generalize hn3 : p.full.length = n3 at *
  generalize hm1 : qp.keep.length = m1 at *
  generalize hm2 : qp.fail.length = m2 at *
  generalize hm3 : qp.full.length = m3 at *
  generalize ho1 : rp.keep.length = o1 at *
  generalize ho2 : rp.fail.length = o2 at *
  generalize ho3 : rp.full.length = o3 at *
  obtain ⟨W0, hW0⟩ : ∃ W0, W0 = ((w.alloc (.cells #[.int .i64 p.crash, .slice a1 n1 c1, .slice a2 n2 c2, .slice a3 n3 c3, .int .i64 p.room] 24)).alloc (.cells #[.int .i64 qp.crash, .slice b1 m1 d1, .slice b2 m2 d2, .slice b3 m3 d3, .int .i64 qp.room] 24)).alloc (.cells #[.int .i64 rp.crash, .slice e1 o1 f1, .slice e2 o2 f2, .slice e3 o3 f3, .int .i64 rp.room] 24) := ⟨_, rfl⟩
  have gB : w.grownBy W0 none := by rw [hW0]; exact galloc (galloc (World.grownBy_alloc w _ none) _) _
  have P0 : PlanAt W0 w.heap.size (.int .i64 p.crash) (.slice a1 n1 c1) (.slice a2 n2 c2) (.slice a3 n3 c3) (.int .i64 p.room) := by
    rw [hW0]
    exact ((galloc (World.grownBy_alloc (w.alloc _) _ none) _).block w.heap.size (by simp) (by simp)).trans (World.alloc_heap_new w _)
  have Q0 : PlanAt W0 (w.heap.size + 1) (.int .i64 qp.crash) (.slice b1 m1 d1) (.slice b2 m2 d2) (.slice b3 m3 d3) (.int .i64 qp.room) := by
    rw [hW0]
    refine ((World.grownBy_alloc ((w.alloc _).alloc _) _ none).block (w.heap.size + 1) (by simp) (by simp)).trans ?_
    have := World.alloc_heap_new (w.alloc (.cells #[.int .i64 p.crash, .slice a1 n1 c1, .slice a2 n2 c2, .slice a3 n3 c3, .int .i64 p.room] 24)) (.cells #[.int .i64 qp.crash, .slice b1 m1 d1, .slice b2 m2 d2, .slice b3 m3 d3, .int .i64 qp.room] 24)
    rwa [World.size_alloc] at this
  have R0 : PlanAt W0 (w.heap.size + 1 + 1) (.int .i64 rp.crash) (.slice e1 o1 f1) (.slice e2 o2 f2) (.slice e3 o3 f3) (.int .i64 rp.room) := by
    rw [hW0]
    have := World.alloc_heap_new ((w.alloc (.cells #[.int .i64 p.crash, .slice a1 n1 c1, .slice a2 n2 c2, .slice a3 n3 c3, .int .i64 p.room] 24)).alloc (.cells #[.int .i64 qp.crash, .slice b1 m1 d1, .slice b2 m2 d2, .slice b3 m3 d3, .int .i64 qp.room] 24)) (.cells #[.int .i64 rp.crash, .slice e1 o1 f1, .slice e2 o2 f2, .slice e3 o3 f3, .int .i64 rp.room] 24)
    rwa [World.size_alloc, World.size_alloc] at this
  have haw := fawake_any W0
  have hfi : Hid (∀ W, w.grownBy W none → Calls Tryz.prog 10 #[.slice va ln vc] W (SomeB W)) := Lib.hid fun W g => fits_any _ L W (h.new g)
  have hma : Hid (∀ W, w.grownBy W none → Calls Tryz.prog 15 #[.agg #[.int .i64 p.crash, .slice a1 n1 c1, .slice a2 n2 c2, .slice a3 n3 c3, .int .i64 p.room], .slice va ln vc] W fun e w' => ∃ f q F R, e = .returned (.tuple #[.pointer (some ⟨f, 0, none⟩), .pointer (some ⟨q, 0, none⟩), .bool true]) ∧ Made W L p w' f q F R) := Lib.hid fun W g => made_any _ _ p L W (hp.new g) (h.new g)
  obtain ⟨A, hA⟩ : ∃ A, A = L.foldl RefP.op (RefP.new p) := ⟨_, rfl⟩
  have hAI : RInv L.length A ∧ (A.died = true → Settled A) := by rw [hA]; exact made_inv hpf hfit
  have hBS := start_settled hAI.1 hAI.2 qp
  have hBI := hAI.1.start qp (by obtain ⟨_, _, _, _, _, _, _, k, _⟩ := hq; exact k)
  have hBd : (A.start qp).died = false := rfl
  have hCI := hBI.start rp (by obtain ⟨_, _, _, _, _, _, _, k, _⟩ := hr; exact k)
  have hCf := hBS.start hBI hBd rp
  have hCs := (start_settled hBI (fun e => by rw [hBd] at e; cases e) rp).files rfl
  have hBs := hBS.files hBd
  rw [hCf] at hCs
  have hlen := files_len hBI
  have hlen5 : ∀ rows : List FRow, rows.map (fun r => (r.1, r.2.2)) = (A.start qp).files → rows.length ≤ 65536 := fun rows e => by
    have := congrArg List.length e
    rw [List.length_map] at this
    omega
  replace hA := Lib.hid hA
  replace hAI := Lib.hid hAI
  replace hBI := Lib.hid hBI
  replace hCI := Lib.hid hCI
  replace hBs := Lib.hid hBs
  replace hCf := Lib.hid hCf
  replace hCs := Lib.hid hCs
  replace hlen5 := Lib.hid hlen5
  replace hq := Lib.hid hq
  replace hr := Lib.hid hr
  replace hL := Lib.hid hL
  replace hln := Lib.hid hln
  replace gB := Lib.hid gB
  replace hn1 := Lib.hid hn1
  replace hn2 := Lib.hid hn2
  replace hn3 := Lib.hid hn3
  replace hm1 := Lib.hid hm1
  replace hm2 := Lib.hid hm2
  replace hm3 := Lib.hid hm3
  replace ho1 := Lib.hid ho1
  replace ho2 := Lib.hid ho2
  replace ho3 := Lib.hid ho3
  obtain ⟨bq, hbq⟩ : ∃ bq, bq = w.heap.size + 1 := ⟨_, rfl⟩
  obtain ⟨br, hbr⟩ : ∃ br, br = w.heap.size + 1 + 1 := ⟨_, rfl⟩
  rw [← hbr] at R0
  rw [← hbq] at Q0
  clear h hp hBS hBd hlen hfit hpf
  go_enter Tryz.func8, Tryz.ntmps8
  go_upto_region 1 with fail
  rw [← hW0, ← hbr, ← hbq]
  replace hW0 := Lib.hid hW0
  replace hbq := Lib.hid hbq
  replace hbr := Lib.hid hbr
  go_upto_region 3 with
    (go_at_call 9
     refine haw.mono ?_
     clear haw
     rintro e w1 ⟨rfl, g1⟩
     have G1 := Lib.hid (gB.out.trans g1)
     have hf1 := hfi.out w1 G1.out
     have P1 := P0.kept g1 (by simp)
     have Q1 := Q0.kept g1 (by simp)
     have R1 := R0.kept g1 (by simp)
     clear g1 P0 Q0 R0)
  go_wp2_with fail
  refine hf1.mono ?_
  clear hf1
  rintro e w2 ⟨b, rfl, g2⟩
  have G2 := Lib.hid (G1.out.trans g2)
  have hm2 := hma.out w2 G2.out
  have P2 := P1.kept g2 (by simp)
  have Q2 := Lib.hid (Q1.kept g2 (by simp))
  have R2 := Lib.hid (R1.kept g2 (by simp))
  have x0 := P2.c0
  have x1 := P2.c1
  have x2 := P2.c2
  have x3 := P2.c3
  have x4 := P2.c4
  clear g2 P1 P2 Q1 R1
  cases b
  · go_wp2_with fail
    go_ret
    exact ⟨rfl, G2.out⟩
  · go_wp2_with first
      | (go_at_call 15
         refine hm2.mono ?_
         clear hm2
         rintro e w3 ⟨f, q, F, R, rfl, M⟩
         have FA := M.alone
         rw [← hA.out] at FA
         have hst1 := FA.start hAI.out.1 hL.out (hq.out.new G2.out)
         have Q3 := Q2.out.kept M.grown (by simp)
         have y0 := Q3.c0
         have y1 := Q3.c1
         have y2 := Q3.c2
         have y3 := Q3.c3
         have y4 := Q3.c4
         clear M FA Q3 x0 x1 x2 x3 x4)
      | (go_at_call 24
         refine hst1.mono ?_
         clear hst1
         rintro e w4 ⟨rfl, FB, g4⟩
         have hfs1 := FB.fs.files hBI.out hL.out
         have FB4 := Lib.hid FB
         clear FB g4 y0 y1 y2 y3 y4)
      | (go_at_call 21
         refine hfs1.mono ?_
         clear hfs1
         rintro e w5 ⟨v5, rows5, rfl, k5, e5, g5⟩
         obtain ⟨x5, y5, rfl⟩ := rowFormS k5.1
         have FB5 := Lib.hid (FB4.out.new g5)
         have hsf1 := FB5.out.fs.safes hBI.out hL.out
         have l5 := Lib.hid (hlen5.out rows5 e5)
         have k5h := Lib.hid k5
         have e5h := Lib.hid e5
         clear k5 e5 g5)
      | (go_at_call 26
         refine hsf1.mono ?_
         clear hsf1
         rintro e w6 ⟨v6, rows6, rfl, k6, e6, g6⟩
         obtain ⟨x6, y6, rfl⟩ := rowFormS k6.1
         have FB6 := Lib.hid (FB5.out.new g6)
         have e65 : rows6.map (fun r => (r.1, r.2.2)) = (A.start qp).files := by rw [e6, hBs.out]
         have hsm1 := rsame_any k6 (k5h.out.new g6) (by rw [e65, e5h.out]) (hlen5.out rows6 e65)
         have k56 := Lib.hid (k5h.out.new g6)
         clear k6 e6 g6 e65)
      | (go_at_call 25
         refine hsm1.mono ?_
         clear hsm1
         rintro e w7 ⟨rfl, g7⟩
         have FB7 := Lib.hid (FB6.out.new g7)
         have hst2 := FB7.out.start hBI.out hL.out (hr.out.new G2.out)
         have R3 := R2.out.kept FB7.out.grown (by simp)
         have z0 := R3.c0
         have z1 := R3.c1
         have z2 := R3.c2
         have z3 := R3.c3
         have z4 := R3.c4
         have k57 := Lib.hid (k56.out.new g7)
         clear R3 g7)
      | (go_at_call 24
         refine hst2.mono ?_
         clear hst2
         rintro e w8 ⟨rfl, FC, g8⟩
         have hfs2 := FC.fs.files hCI.out hL.out
         have FC8 := Lib.hid FC
         have k58 := Lib.hid (k57.out.gp g8 (fun k hk => .inl (FB4.out.fl k hk).2))
         clear FC g8 z0 z1 z2 z3 z4)
      | (go_at_call 21
         refine hfs2.mono ?_
         clear hfs2
         rintro e w9 ⟨v9, rows9, rfl, k9, e9, g9⟩
         obtain ⟨x9, y9, rfl⟩ := rowFormS k9.1
         rw [hCf.out] at e9
         have FC9 := Lib.hid (FC8.out.new g9)
         have hsm2 := rsame_any k9 (k58.out.new g9) (by rw [e9, e5h.out]) (hlen5.out rows9 e9)
         have k59 := Lib.hid (k58.out.new g9)
         clear k9 e9 g9)
      | (go_at_call 25
         refine hsm2.mono ?_
         clear hsm2
         rintro e w10 ⟨rfl, g10⟩
         have FC10 := Lib.hid (FC9.out.new g10)
         have hsf2 := FC10.out.fs.safes hCI.out hL.out
         have k510 := Lib.hid (k59.out.new g10)
         clear g10)
      | (go_at_call 26
         refine hsf2.mono ?_
         clear hsf2
         rintro e w11 ⟨v11, rows11, rfl, k11, e11, g11⟩
         obtain ⟨x11, y11, rfl⟩ := rowFormS k11.1
         rw [hCs.out] at e11
         have FC11 := Lib.hid (FC10.out.new g11)
         have hsm3 := rsame_any k11 (k510.out.new g11) (by rw [e11, e5h.out]) (hlen5.out rows11 e11)
         clear k11 e11 g11)
      | (go_at_call 25
         refine hsm3.mono ?_
         clear hsm3
         rintro e w12 ⟨rfl, g12⟩
         have FF := Lib.hid (G2.out.trans (FC11.out.grown.trans g12))
         clear g12)
    go_ret
    exact ⟨rfl, FF.out⟩
theorem FsSettled_walk (w : World) (pv : Value) (p : Pl) (hp : PlanR w pv p) (v : Value) (L : List OpP) (h : OpsR w v L) (qv : Value) (qp : Pl) (hq : PlanR w qv qp) (rv : Value) (rp : Pl) (hr : PlanR w rv rp) :
    Calls Tryz.prog 8 #[pv, v, qv, rv] w fun e w' => e = .returned (.bool true) ∧ Below w.heap.size w w' := by
  refine (FsSettled_go w pv v qv rv p qp rp L hp h hq hr).mono ?_
  rintro e w' ⟨rfl, g⟩
  exact ⟨rfl, gbelow g (Nat.le_refl _) (by simp)⟩
end Go.Proofs.YtcehddlplkfflaaGreat
