/-
  ARGUMENTS OF A LAW, OPENED: a plan, operations, with what they hold and how much.
-/
import Derived.Test.YtafcgjbafihniaaGreatFA24
import Derived.Test.YtafcgjbafihniaaGreatRows
import Derived.OpenShut
import Derived.ProofKit
import Derived.SizedLaws
import Derived.Deep.SlicePairs
import Derived.Test.YtafcgjbafihniaaGreatFA12
import Derived.Test.YtafcgjbafihniaaGreatFA09
import Derived.Test.YtafcgjbafihniaaGreatFA21
namespace Go.Proofs.YtafcgjbafihniaaGreat
set_option maxRecDepth 100000
open Go.ChangeShapes Go.WideShapes Go.ChangeAt Go.RowKit

section
variable {H : Type} {enc : TypeId × Value → H} {W : World} {base : Nat} {held : Bool} {fuel : Nat} {x : DataW H × List MemPlace}
theorem bytesInt : Tryz.prog.bytesOf 3 = 8 := by kernel_rfl
theorem bytesU : Tryz.prog.bytesOf 5 = 1 := by kernel_rfl
theorem bytesOp : Tryz.prog.bytesOf 34 = 160 := by kernel_rfl
theorem addS (b off i : Nat) : (⟨b, off, none⟩ : Addr).add i = ⟨b, off + i, none⟩ := by cases i <;> simp [Addr.add]
theorem ints_open {v : Value} (h : DataW.trod enc Tryz.prog W base (fun _ => true) held fuel 22 [v] = some x) (hw : ∀ n ∈ x.1.weights Tryz.prog 22, n ≤ reachBytes) :
    ∃ zs a c, v = .slice a zs.length c ∧ Ints W v zs ∧ zs.length * 8 ≤ 140737488351232 := by
  rcases open_ints Tryz.underlying22 Tryz.underlying3 (by kernel_rfl) h with ⟨h0, _⟩ | ⟨a, len, cap, zs, hcs, _, hl, hm, hz, hx, hcell, hwz⟩
  · simp at h0
    subst h0
    exact ⟨[], none, 0, rfl, .inl (.inl ⟨rfl, rfl⟩), by simp⟩
  · simp at hcs hz
    subst hcs
    have hwt : len * 8 ≤ 140737488351232 := by
      have := hw ((len + (cap - len)) * Tryz.prog.bytesOf 3) (by
        rw [hx]
        simp only [DataW.weights, Tryz.underlying22, lits, List.length_map, List.length_take, List.length_drop, hz]
        rw [Nat.min_eq_left hl]
        exact List.mem_cons_self)
      rw [bytesInt] at this
      unfold reachBytes at this
      omega
    have hll : (zs.take len).length = len := by rw [List.length_take, hz]; omega
    refine ⟨zs.take len, some a, cap, by rw [hll], ?_, by rw [hll]; exact hwt⟩
    by_cases hc0 : cap = 0
    · right
      have : len = 0 := by omega
      subst this hc0
      exact ⟨a, rfl, by simp⟩
    · left; right
      have hc := hcell 0 (by omega)
      have hsp := World.cell?_spot hc
      obtain ⟨b, off, sp⟩ := a
      simp [Addr.add] at hsp
      subst hsp
      refine ⟨b, off, cap, by rw [List.length_map, hll], by rw [List.length_map, hll]; exact hl, hm, fun i u hu => ?_⟩
      rw [List.getElem?_map] at hu
      obtain ⟨z, hz2, rfl⟩ := Option.map_eq_some_iff.1 hu
      have hi : i < len := by have := (List.getElem?_eq_some_iff.1 hz2).1; omega
      rw [List.getElem?_take_of_lt hi] at hz2
      have hci := hcell i (by omega)
      rw [addS] at hci
      rw [hci, List.getD_eq_getElem?_getD, hz2]
      rfl
theorem bytes_open {v : Value} (h : DataW.trod enc Tryz.prog W base (fun _ => true) held fuel 32 [v] = some x) (hw : ∀ n ∈ x.1.weights Tryz.prog 32, n ≤ reachBytes) :
    ∃ bs a c, v = .slice a (List.length bs) c ∧ ReadsF W v bs ∧ bs.length ≤ 140737488351232 := by
  rcases open_ints Tryz.underlying32 Tryz.underlying5 (by kernel_rfl) h with ⟨h0, _⟩ | ⟨a, len, cap, zs, hcs, _, hl, hm, hz, hx, hcell, hwz⟩
  · simp at h0
    subst h0
    exact ⟨[], none, 0, rfl, .inl (.inl ⟨rfl, rfl⟩), by simp⟩
  · simp at hcs hz
    subst hcs
    have hwt : len ≤ 140737488351232 := by
      have := hw ((len + (cap - len)) * Tryz.prog.bytesOf 5) (by
        rw [hx]
        simp only [DataW.weights, Tryz.underlying32, lits, List.length_map, List.length_take, List.length_drop, hz]
        rw [Nat.min_eq_left hl]
        exact List.mem_cons_self)
      rw [bytesU] at this
      unfold reachBytes at this
      omega
    have hll : ((zs.take len).map fun z => z.toNat.toUInt8).length = len := by rw [List.length_map, List.length_take, hz]; omega
    refine ⟨(zs.take len).map fun z => z.toNat.toUInt8, some a, cap, by rw [hll], ?_, by rw [hll]; exact hwt⟩
    by_cases hc0 : cap = 0
    · right
      have : len = 0 := by omega
      subst this hc0
      exact ⟨a, rfl, by simp⟩
    · left; right
      have hc := hcell 0 (by omega)
      have hsp := World.cell?_spot hc
      obtain ⟨b, off, sp⟩ := a
      simp [Addr.add] at hsp
      subst hsp
      refine ⟨b, off, cap, by rw [hll], by rw [hll]; exact hl, hm, fun i u hu => ?_⟩
      rw [List.getElem?_map] at hu
      obtain ⟨z, hz2, rfl⟩ := Option.map_eq_some_iff.1 hu
      have hi : i < len := by have := (List.getElem?_eq_some_iff.1 hz2).1; rw [List.length_take] at this; omega
      rw [List.getElem?_take_of_lt hi] at hz2
      have hci := hcell i (by omega)
      rw [addS] at hci
      rw [hci, List.getD_eq_getElem?_getD, hz2]
      have hb := bounds_u8 (hwz z (List.mem_of_getElem? hz2))
      show some (Value.int .u8 z) = _
      congr 2
      have : z.toNat < 256 := by omega
      simp [Nat.toUInt8, UInt8.toNat_ofNat']
      omega
theorem plan_open {v0 v1 v2 v3 v4 : Value} (h : DataW.trod enc Tryz.prog W base (fun _ => true) held fuel 24 [v0, v1, v2, v3, v4] = some x) (hw : ∀ n ∈ x.1.weights Tryz.prog 24, n ≤ reachBytes) :
    ∃ (p : Pl) (a1 : Option Addr) (c1 : Nat) (a2 : Option Addr) (c2 : Nat) (a3 : Option Addr) (c3 : Nat), [v0, v1, v2, v3, v4] = [.int .i64 p.crash, .slice a1 p.keep.length c1, .slice a2 p.fail.length c2, .slice a3 p.full.length c3, .int .i64 p.room] ∧ planFits p ∧
      Ints W (.slice a1 p.keep.length c1) p.keep ∧ Ints W (.slice a2 p.fail.length c2) p.fail ∧ Ints W (.slice a3 p.full.length c3) p.full := by
  obtain ⟨xs, m, _, hxy, _, hxl, hx⟩ := DataW.trod_struct Tryz.underlying24 h
  have hci : Tryz.prog.cellsOf 3 = 1 := by kernel_rfl
  have hcs : Tryz.prog.cellsOf 22 = 1 := by kernel_rfl
  match xs, hxl with
  | [y0, y1, y2, y3, y4], _ =>
    have g0 := hx 0 _ rfl
    have g1 := hx 1 _ rfl
    have g2 := hx 2 _ rfl
    have g3 := hx 3 _ rfl
    have g4 := hx 4 _ rfl
    simp [hci, hcs] at g0 g1 g2 g3 g4
    have hww : ∀ n, n ∈ y1.1.weights Tryz.prog 22 ∨ n ∈ y2.1.weights Tryz.prog 22 ∨ n ∈ y3.1.weights Tryz.prog 22 → n ≤ reachBytes := fun n hn => hw n (by
      rw [hxy]
      simp only [DataW.weights, Tryz.underlying24, DataW.weightsEach, List.map_cons, List.map_nil]
      simp only [List.mem_append]
      rcases hn with hn | hn | hn
      · exact .inr (.inl hn)
      · exact .inr (.inr (.inl hn))
      · exact .inr (.inr (.inr (.inl hn))))
    obtain ⟨n0, e0, _, _⟩ := DataW.trod_int Tryz.underlying3 g0
    obtain ⟨n4, e4, _, w4⟩ := DataW.trod_int Tryz.underlying3 g4
    obtain ⟨z1, a1, c1, e1, i1, l1⟩ := ints_open g1 (fun n hn => hww n (.inl hn))
    obtain ⟨z2, a2, c2, e2, i2, l2⟩ := ints_open g2 (fun n hn => hww n (.inr (.inl hn)))
    obtain ⟨z3, a3, c3, e3, i3, l3⟩ := ints_open g3 (fun n hn => hww n (.inr (.inr hn)))
    simp at e0 e4
    subst e0 e1 e2 e3 e4
    exact ⟨⟨n0, z1, z2, z3, n4⟩, a1, c1, a2, c2, a3, c3, rfl, ⟨l1, l2, l3, (bounds_i64 w4).2⟩, i1, i2, i3⟩
/-- An operation's ten cells. -/
def OpRow (W : World) (o : OpP) (cs : List Value) : Prop := ∃ da dc a1 c1 a2 c2 a3 c3, cs = (opCells o.kind o.name o.dest (.slice da o.data.length dc) o.n o.plan.crash (.slice a1 o.plan.keep.length c1) (.slice a2 o.plan.fail.length c2) (.slice a3 o.plan.full.length c3) o.plan.room).toList ∧
  ReadsF W (.slice da o.data.length dc) o.data ∧ Ints W (.slice a1 o.plan.keep.length c1) o.plan.keep ∧ Ints W (.slice a2 o.plan.fail.length c2) o.plan.fail ∧ Ints W (.slice a3 o.plan.full.length c3) o.plan.full
theorem op_open {cs : List Value} (h : DataW.trod enc Tryz.prog W base (fun _ => true) held fuel 34 cs = some x) (hw : ∀ n ∈ x.1.weights Tryz.prog 34, n ≤ reachBytes) : ∃ o : OpP, OpRow W o cs ∧ o.Fits := by
  obtain ⟨xs, m, _, hxy, hcl, hxl, hx⟩ := DataW.trod_struct Tryz.underlying34 h
  have hc : Tryz.prog.cellsOf 34 = 10 := by kernel_rfl
  have hci : Tryz.prog.cellsOf 3 = 1 := by kernel_rfl
  have hcs1 : Tryz.prog.cellsOf 9 = 1 := by kernel_rfl
  have hcb : Tryz.prog.cellsOf 32 = 1 := by kernel_rfl
  have hcp : Tryz.prog.cellsOf 24 = 5 := by kernel_rfl
  rw [hc] at hcl
  match cs, hcl with
  | [v0, v1, v2, v3, v4, v5, v6, v7, v8, v9], _ =>
    match xs, hxl with
    | [y0, y1, y2, y3, y4, y5], _ =>
      have g0 := hx 0 _ rfl
      have g1 := hx 1 _ rfl
      have g2 := hx 2 _ rfl
      have g3 := hx 3 _ rfl
      have g4 := hx 4 _ rfl
      have g5 := hx 5 _ rfl
      simp [hci, hcs1, hcb, hcp] at g0 g1 g2 g3 g4 g5
      have hww : ∀ n, n ∈ y3.1.weights Tryz.prog 32 ∨ n ∈ y5.1.weights Tryz.prog 24 → n ≤ reachBytes := fun n hn => hw n (by
        rw [hxy]
        simp only [DataW.weights, Tryz.underlying34, DataW.weightsEach, List.map_cons, List.map_nil]
        simp only [List.mem_append]
        rcases hn with hn | hn
        · exact .inr (.inr (.inr (.inl hn)))
        · exact .inr (.inr (.inr (.inr (.inr (.inl hn))))))
      obtain ⟨n0, e0, _, _⟩ := DataW.trod_int Tryz.underlying3 g0
      obtain ⟨s1, e1, _, l1⟩ := DataW.trod_string Tryz.underlying9 g1
      obtain ⟨s2, e2, _, l2⟩ := DataW.trod_string Tryz.underlying9 g2
      obtain ⟨bs, da, dc, e3, rb, lb⟩ := bytes_open g3 (fun n hn => hww n (.inl hn))
      obtain ⟨n4, e4, _, w4⟩ := DataW.trod_int Tryz.underlying3 g4
      obtain ⟨p, a1, c1, a2, c2, a3, c3, e5, pf, i1, i2, i3⟩ := plan_open g5 (fun n hn => hww n (.inr hn))
      simp at e0 e1 e2 e4 e5
      obtain ⟨rfl, rfl, rfl, rfl, rfl⟩ := e5
      subst e0 e1 e2 e3 e4
      exact ⟨⟨n0, s1, s2, bs, n4, p⟩, ⟨da, dc, a1, c1, a2, c2, a3, c3, rfl, rb, i1, i2, i3⟩, ⟨l1, l2, lb, by have := (bounds_i64 w4).2; show n4 < _; omega, pf⟩⟩
theorem choose_ops {α : Type} {n : Nat} {p : Nat → α → Prop} (h : ∀ i, i < n → ∃ x, p i x) : ∃ l : List α, l.length = n ∧ ∀ i x, l[i]? = some x → p i x := by
  induction n with
  | zero => exact ⟨[], rfl, fun i x h => by simp at h⟩
  | succ n ih =>
    obtain ⟨l, h1, h2⟩ := ih (fun i hi => h i (by omega))
    obtain ⟨x, hx⟩ := h n (by omega)
    refine ⟨l ++ [x], by simp [h1], fun i y hy => ?_⟩
    by_cases hi : i < n
    · rw [List.getElem?_append_left (by omega)] at hy
      exact h2 i y hy
    · have hin : i = n := by
        have := (List.getElem?_eq_some_iff.1 hy).1
        simp at this
        omega
      subst hin
      rw [List.getElem?_append_right (by omega), h1] at hy
      simp at hy
      subst hy
      exact hx
theorem weightsAll_mem {P : Program} {e : TypeId} : ∀ {l : List (DataW H)} {d : DataW H}, d ∈ l → ∀ n ∈ d.weights P e, n ∈ DataW.weightsAll P e l
  | [], _, h, _, _ => by cases h
  | d0 :: l, d, h, n, hn => by
    simp only [DataW.weightsAll, List.mem_append]
    rcases List.mem_cons.1 h with rfl | h
    · exact .inl hn
    · exact .inr (weightsAll_mem h n hn)
theorem ops_open {v : Value} (h : DataW.trod enc Tryz.prog W base (fun _ => true) held fuel 25 [v] = some x) (hw : ∀ n ∈ x.1.weights Tryz.prog 25, n ≤ reachBytes) : ∃ L, OpsR W v L := by
  rcases Deep.open_slice Tryz.underlying25 h with ⟨h0, _⟩ | ⟨a, len, cap, m, n, D, Pl, hcs, hb, hl, hm, hmm, rfl, hx⟩
  · simp at h0
    subst h0
    exact ⟨[], none, 0, rfl, Nat.zero_le _, (fun o ho => by cases ho), fun j o ho => by simp at ho⟩
  simp at hcs hmm
  subst hcs hmm
  have ce : Tryz.prog.cellsOf 34 = 10 := by kernel_rfl
  have hlen : len ≤ 879609302208 := by
    have := hw ((len + (m - len)) * Tryz.prog.bytesOf 34) (by
      simp only [DataW.weights, Tryz.underlying25, List.length_map, List.length_range]
      exact List.mem_cons_self)
    rw [bytesOp] at this
    unfold reachBytes at this
    omega
  obtain ⟨l, hll, hl2⟩ := choose_ops (α := OpP) (n := len) (p := fun i o => o.Fits ∧ ∃ cs', W.cells? base (a.add (i * 10)) 10 = some cs' ∧ OpRow W o cs') (fun i hi => by
    obtain ⟨cs', h1, h2⟩ := hx i (by omega)
    rw [ce] at h1
    obtain ⟨o, h3, h4⟩ := op_open h2 (fun n hn => hw n (by
      simp only [DataW.weights, Tryz.underlying25]
      refine List.mem_cons_of_mem _ (List.mem_append.2 (.inl (weightsAll_mem (List.mem_map.2 ⟨i, List.mem_range.2 hi, rfl⟩) n hn)))))
    exact ⟨o, h4, cs', h1, h3⟩)
  subst hll
  refine ⟨l, some a, m, rfl, hlen, fun o ho => ?_, fun j o ho => ?_⟩
  · obtain ⟨i, hi⟩ := List.mem_iff_getElem?.1 ho
    exact (hl2 i o hi).1
  · obtain ⟨_, cs', h1, da, dc, a1, c1, a2, c2, a3, c3, rfl, k1, k2, k3, k4⟩ := hl2 j o ho
    obtain ⟨_, hlen2, hcell⟩ := World.cells?_some h1
    have hs0 : a.spot = none := by
      have hj := (List.getElem?_eq_some_iff.1 ho).1
      obtain ⟨_, cs0, h10, da0, dc0, b1, e1, b2, e2, b3, e3, rfl, _⟩ := hl2 0 _ (List.getElem?_eq_getElem (show 0 < l.length by omega))
      obtain ⟨_, _, hcell0⟩ := World.cells?_some h10
      have h00 := hcell0 0 (by omega)
      have e0 : ∀ A : Addr, A.add 0 = A := fun A => by simp [Addr.add]
      rw [Nat.zero_mul, e0, e0] at h00
      exact World.cell?_spot (show W.cell? a = some _ from by simpa [opCells] using h00)
    obtain ⟨b, off, sp⟩ := a
    have hs : sp = none := hs0
    subst hs
    refine ⟨b, off, da, dc, a1, c1, a2, c2, a3, c3, rfl, fun i u hu => ?_, k1, k2, k3, k4⟩
    have hi : i < 10 := by have := (Array.getElem?_eq_some_iff.1 hu).1; simpa [opCells] using this
    have hc := hcell i (by omega)
    rw [addS, addS] at hc
    rw [hc, ← hu]
    simp
theorem ops_arg {v : Value} {d : DataW H} {ps : List MemPlace} (h : DataW.Trod enc Tryz.prog W 0 (fun _ => true) true 25 v d ps) (hv : ∃ a l c, v = .slice a l c) (hw : ∀ n ∈ d.weights Tryz.prog 25, n ≤ reachBytes) : ∃ L, OpsR W v L := by
  obtain ⟨fuel, hf⟩ := h
  obtain ⟨a, l, c, rfl⟩ := hv
  exact ops_open (x := (d, ps)) (by simpa [Value.cells] using hf) hw
theorem plan_argR {v : Value} {d : DataW H} {ps : List MemPlace} (hok : Value.okWide Tryz.prog W .any base 24 v) (h : DataW.Trod enc Tryz.prog W 0 (fun _ => true) true 24 v d ps) (hw : ∀ n ∈ d.weights Tryz.prog 24, n ≤ reachBytes) : ∃ p, PlanR W v p := by
  simp only [Value.okWide, Tryz.underlying24] at hok
  obtain ⟨cs, rfl, hcs, _⟩ := hok
  obtain ⟨fuel, hf⟩ := h
  have hc : Tryz.prog.cellsOf 24 = 5 := by kernel_rfl
  rw [hc] at hcs
  obtain ⟨l⟩ := cs
  match l, hcs with
  | [v0, v1, v2, v3, v4], _ =>
    obtain ⟨p, a1, c1, a2, c2, a3, c3, e, pf, i1, i2, i3⟩ := plan_open (x := (d, ps)) (show DataW.trod enc Tryz.prog W 0 (fun _ => true) true fuel 24 [v0, v1, v2, v3, v4] = some _ from hf) hw
    simp at e
    obtain ⟨rfl, rfl, rfl, rfl, rfl⟩ := e
    exact ⟨p, a1, c1, a2, c2, a3, c3, rfl, pf, i1, i2, i3⟩
theorem weights_of {ts : List TypeId} {ds : List (DataW H)} (hsz : (DataW.weightsEach Tryz.prog ts ds).all (· ≤ reachBytes) = true) (j : Nat) {t : TypeId} {d : DataW H} (ht : ts[j]? = some t) (hd : ds[j]? = some d) : ∀ n ∈ d.weights Tryz.prog t, n ≤ reachBytes := fun n hn => by
  have := List.all_eq_true.1 hsz n (DataW.weights_mem_each ht hd n hn)
  simpa using this
end
end Go.Proofs.YtafcgjbafihniaaGreat

/-
  LAYER 1 (fs): FsReads, its walk.
-/
namespace Go.Proofs.YtafcgjbafihniaaGreat
set_option maxRecDepth 100000
open Go.RowKit Go.Lib Go.ChangeShapes Go.WideShapes Go.ChangeAt
attribute [local go_sem] Oper.semAt_some

theorem PlanR.new {w w' : World} {v : Value} {p : Pl} (h : PlanR w v p) (g : w.grownBy w' none) : PlanR w' v p := by
  obtain ⟨a1, c1, a2, c2, a3, c3, e, k0, k1, k2, k3⟩ := h
  exact ⟨a1, c1, a2, c2, a3, c3, e, k0, k1.all g, k2.all g, k3.all g⟩
set_option maxHeartbeats 8000000 in
theorem FsReads_go (w : World) (pv v : Value) (p : Pl) (L : List OpP) (hp : PlanR w pv p) (h : OpsR w v L) (nm : ByteArray) (hnm : nm.size ≤ maxLen) (i n : Int) (hi9 : i ≤ 9223372036854775807) (hn9 : n ≤ 9223372036854775807) :
    Calls Tryz.prog 4 #[pv, v, .string nm, .int .i64 i, .int .i64 n] w fun e w' => e = .returned (.bool true) ∧ w.grownBy w' none := by
  have hL : L.length ≤ 2199023255552 := by obtain ⟨_, _, _, h2, _⟩ := h; omega
  obtain ⟨va, vc, hv⟩ : ∃ a c, v = .slice a L.length c := by obtain ⟨a, c, h2, _⟩ := h; exact ⟨a, c, h2⟩
  subst hv
  have hp0 := hp
  obtain ⟨a1, c1, a2, c2, a3, c3, rfl, -, -, -, -⟩ := hp0
  obtain ⟨n1, hn1⟩ : ∃ n, n = p.keep.length := ⟨_, rfl⟩
  obtain ⟨n2, hn2⟩ : ∃ n, n = p.fail.length := ⟨_, rfl⟩
  obtain ⟨n3, hn3⟩ : ∃ n, n = p.full.length := ⟨_, rfl⟩
  obtain ⟨ln, hln⟩ : ∃ n, n = L.length := ⟨_, rfl⟩
  rw [← hn1, ← hn2, ← hn3] at hp ⊢
  rw [← hln] at h ⊢
  obtain ⟨W0, hW0⟩ : ∃ W0, W0 = w.alloc (.cells #[.int .i64 p.crash, .slice a1 n1 c1, .slice a2 n2 c2, .slice a3 n3 c3, .int .i64 p.room] 24) := ⟨_, rfl⟩
  have gB : w.grownBy W0 none := by rw [hW0]; exact World.grownBy_alloc w _ none
  have P0 : PlanAt W0 w.heap.size (.int .i64 p.crash) (.slice a1 n1 c1) (.slice a2 n2 c2) (.slice a3 n3 c3) (.int .i64 p.room) := by rw [hW0]; exact World.alloc_heap_new w _
  have haw := fawake_any W0
  have hfi : Hid (∀ W, w.grownBy W none → Calls Tryz.prog 11 #[.slice va ln vc] W (SomeB W)) := Lib.hid fun W g => fits_any _ L W (h.new g)
  have hma : Hid (∀ W, w.grownBy W none → Calls Tryz.prog 16 #[.agg #[.int .i64 p.crash, .slice a1 n1 c1, .slice a2 n2 c2, .slice a3 n3 c3, .int .i64 p.room], .slice va ln vc] W fun e w' => ∃ f q F R, e = .returned (.tuple #[.pointer (some ⟨f, 0, none⟩), .pointer (some ⟨q, 0, none⟩), .bool true]) ∧ Made W L p w' f q F R) := Lib.hid fun W g => made_any _ _ p L W (hp.new g) (h.new g)
  obtain ⟨rb, hrb⟩ : ∃ rb, rb = (L.foldl RefP.op (RefP.new p)).read nm i n := ⟨_, rfl⟩
  obtain ⟨sz, hsz⟩ : ∃ sz, sz = (L.foldl RefP.op (RefP.new p)).size nm := ⟨_, rfl⟩
  have hall : Hid (∀ W0 W f q F R, Made W0 L p W f q F R → ∀ W', W.grownBy W' none →
      (Calls Tryz.prog 17 #[.pointer (some ⟨f, 0, none⟩), .string nm, .int .i64 i, .int .i64 n] W' fun e w' => ∃ x l c, e = .returned (.tuple #[.slice x l c, .int .i64 rb.2]) ∧ Reads w' (.slice x l c) rb.1 ∧ W'.grownBy w' none) ∧
      (Calls Tryz.prog 18 #[.pointer (some ⟨q, 0, none⟩), .string nm, .int .i64 i, .int .i64 n] W' fun e w' => ∃ x l c, e = .returned (.tuple #[.slice x l c, .int .i64 rb.2]) ∧ Reads w' (.slice x l c) rb.1 ∧ W'.grownBy w' none) ∧
      (Calls Tryz.prog 19 #[.pointer (some ⟨f, 0, none⟩), .string nm] W' fun e w' => e = .returned (.tuple #[.int .i64 sz.1, .int .i64 sz.2]) ∧ W' = w') ∧
      (Calls Tryz.prog 20 #[.pointer (some ⟨q, 0, none⟩), .string nm] W' fun e w' => e = .returned (.tuple #[.int .i64 sz.1, .int .i64 sz.2]) ∧ W'.grownBy w' none)) := Lib.hid fun W0 W f q F R M W' g => by
    have M2 := M.new g
    obtain ⟨k1, k2, k3, k4, k5, k6, k7⟩ := M2.inv.asks hL
    obtain ⟨r, vs, hr⟩ := M2.both.rf
    rw [hrb, hsz]
    refine ⟨(M2.both.fs.read M2.inv nm hnm i n hi9 hn9).mono ?_, (rread_any nm i n hr k1 k2 k3 k6 hi9 hn9).mono ?_, M2.both.fs.size M2.inv nm hnm, rsize_any nm hr k1 k2 k3⟩
    · rintro e w' ⟨x, rfl, h1, h2⟩
      obtain ⟨xa, xc, rfl⟩ := h1.form
      exact ⟨xa, _, xc, rfl, h1, h2⟩
    · rintro e w' ⟨x, rfl, h1, h2⟩
      obtain ⟨xa, xc, rfl⟩ := h1.form
      exact ⟨xa, _, xc, rfl, h1, h2⟩
  obtain ⟨rbs, re⟩ := rb
  obtain ⟨s1, s2⟩ := sz
  dsimp only at hall
  have e1 : (re == re) = true := by simp
  have e2 : (s1 == s1) = true := by simp
  have e3 : (s2 == s2) = true := by simp
  have e4 : ((⟨rbs.toArray⟩ : ByteArray).toList == (⟨rbs.toArray⟩ : ByteArray).toList) = true := by simp
  replace hrb := Lib.hid hrb
  replace hsz := Lib.hid hsz
  replace hn1 := Lib.hid hn1
  replace hn2 := Lib.hid hn2
  replace hn3 := Lib.hid hn3
  replace hln := Lib.hid hln
  replace gB := Lib.hid gB
  clear h hp hi9 hn9 hL hnm
  go_enter Tryz.func4, Tryz.ntmps4
  go_upto_region 1 with fail
  rw [← hW0]
  replace hW0 := Lib.hid hW0
  go_upto_region 3 with
    (go_at_call 10
     refine haw.mono ?_
     clear haw
     rintro e w1 ⟨rfl, g1⟩
     have G1 := Lib.hid (gB.out.trans g1)
     have hf1 := hfi.out w1 G1.out
     have P1 := P0.kept g1 (by simp)
     clear g1 P0)
  go_wp2_with fail
  refine hf1.mono ?_
  clear hf1
  rintro e w2 ⟨b, rfl, g2⟩
  have G2 := Lib.hid (G1.out.trans g2)
  have hm2 := hma.out w2 G2.out
  have P2 := P1.kept g2 (by simp)
  have d0 := P2.c0
  have d1 := P2.c1
  have d2 := P2.c2
  have d3 := P2.c3
  have d4 := P2.c4
  clear g2 P1 P2
  cases b
  · go_wp2_with fail
    go_ret
    exact ⟨rfl, G2.out⟩
  · go_wp2_with first
      | (go_at_call 16
         refine hm2.mono ?_
         clear hm2
         rintro e w3 ⟨f, q, F, R, rfl, M⟩
         have ha := hall.out w2 w3 f q F R M
         have G3 := Lib.hid (G2.out.trans M.grown)
         have hr1 := (ha w3 (World.grownBy.refl _ _)).1
         replace ha := Lib.hid ha
         clear M)
      | (go_at_call 17
         refine hr1.mono ?_
         clear hr1
         rintro e w4 ⟨x4, l4, y4, rfl, b4, g4⟩
         have hr2 := (ha.out w4 g4).2.1
         have g4h := Lib.hid g4
         have b4h := Lib.hid b4
         clear g4 b4)
      | (go_at_call 18
         refine hr2.mono ?_
         clear hr2
         rintro e w5 ⟨x5, l5, y5, rfl, b5, g5⟩
         have hr3 := (ha.out w5 (g4h.out.trans g5)).2.2.1
         have hr4 := (ha.out w5 (g4h.out.trans g5)).2.2.2
         have g5h := Lib.hid g5
         have b5h := Lib.hid b5
         clear g5 b5)
      | (go_at_call 19
         refine hr3.mono ?_
         clear hr3
         rintro e w5' ⟨rfl, rfl⟩)
      | (go_at_call 20
         refine hr4.mono ?_
         clear hr4
         rintro e w6 ⟨rfl, g6⟩
         have cv4 := convB_of (b4h.out.more (g5h.out.trans g6))
         have cv5 := convB_of (b5h.out.more g6)
         have FF := Lib.hid (((G3.out.trans g4h.out).trans g5h.out).trans g6)
         clear g6)
    go_ret
    exact ⟨rfl, FF.out⟩
theorem FsReads_walk (w : World) (pv : Value) (p : Pl) (hp : PlanR w pv p) (v : Value) (L : List OpP) (h : OpsR w v L) (nm : ByteArray) (hnm : nm.size ≤ 140737488351232) (i : Int) (hi : (Lit.int .i64 i).wf = true) (n : Int) (hn : (Lit.int .i64 n).wf = true) :
    Calls Tryz.prog 4 #[pv, v, .string nm, .int .i64 i, .int .i64 n] w fun e w' => e = .returned (.bool true) ∧ Below w.heap.size w w' := by
  refine (FsReads_go w pv v p L hp h nm (by unfold maxLen; omega) i n (bounds_i64 hi).2 (bounds_i64 hn).2).mono ?_
  rintro e w' ⟨rfl, g⟩
  exact ⟨rfl, gbelow g (Nat.le_refl _) (by simp)⟩
end Go.Proofs.YtafcgjbafihniaaGreat

/-
  LAYER 1 (fs): the reference's Same, of files alike; the program's Files and Safe as the plain file system has them.
-/
namespace Go.Proofs.YtafcgjbafihniaaGreat
set_option maxRecDepth 100000
open Go.RowKit Go.Lib
open Go.Proofs (encStr)
attribute [local go_sem] Oper.semAt_some

section
variable {w : World}
set_option maxHeartbeats 8000000 in
theorem rsame_any {B B' : Nat} {v v' : Value} {rows rows' : List FRow} (h : FilesAt w B v rows) (h' : FilesAt w B' v' rows') (he : rows.map (fun r => (r.1, r.2.2)) = rows'.map (fun r => (r.1, r.2.2))) (hl : rows.length ≤ 65536) :
    Calls Tryz.prog 26 #[v, v'] w fun e w' => e = .returned (.bool true) ∧ w.grownBy w' none := by
  obtain ⟨va, vc, rfl⟩ := rowFormS h.1
  obtain ⟨va', vc', rfl⟩ := rowFormS h'.1
  have hll : rows'.length = rows.length := by have := congrArg List.length he; simpa using this.symm
  obtain ⟨n, hn⟩ : ∃ n, n = rows.length := ⟨_, rfl⟩
  rw [hll, ← hn] at h' ⊢
  rw [← hn] at h hl
  replace hn := Lib.hid hn
  replace hll := Lib.hid hll
  replace he := Lib.hid he
  replace h := Lib.hid h
  replace h' := Lib.hid h'
  go_enter Tryz.func26, Tryz.ntmps26
  go_wp2_with fail
  go_loopw [5, 13] (fun _ vi wr => ∃ (j : Nat), vi = .int .i64 (j : Int) ∧ j ≤ n ∧ Hid (w.grownBy wr none)) (fun _ vi _ => n - (RowKit.intOf vi).toNat)
  case atStart => exact ⟨0, rfl, Nat.zero_le _, Lib.hid (World.grownBy.refl _ _)⟩
  case round =>
    obtain ⟨j, rfl, hj, hG⟩ := hrel
    by_cases hlt : j < n
    · have hltz : (j : Int) < (n : Int) := by omega
      obtain ⟨x, hx⟩ : ∃ x, rows[j]? = some x := ⟨_, List.getElem?_eq_getElem (by have := hn.out; omega)⟩
      obtain ⟨x', hx'⟩ : ∃ x, rows'[j]? = some x := ⟨_, List.getElem?_eq_getElem (by have := hn.out; have := hll.out; omega)⟩
      have hxe : (x.1, x.2.2) = (x'.1, x'.2.2) := by
        have := congrArg (fun l => l[j]?) he.out
        simp only [List.getElem?_map, hx, hx', Option.map_some, Option.some.injEq] at this
        exact this
      have k1 := (Prod.mk.inj hxe).1
      have k2 := (Prod.mk.inj hxe).2
      obtain ⟨b, da, dc, rfl, _, hb, c0, hv, c1⟩ := (h.out.new hG.out).at hx
      obtain ⟨b', da', dc', rfl, _, hb', c0', hv', c1'⟩ := (h'.out.new hG.out).at hx'
      rw [← k1] at c0'
      rw [← k2] at c1' hv'
      have r1 : ∀ m, Reads (wr.drewN m) (.slice da x.2.2.length dc) x.2.2 := fun m => by
        rw [← hv]
        exact (Owns.reads (World.ownsRow.mono ((h.out.new hG.out).2 x (List.mem_of_getElem? hx)) (Nat.zero_le _))).more (gdrewN (World.grownBy.refl wr none) m)
      have r2 : ∀ m, Reads (wr.drewN m) (.slice da' x.2.2.length dc') x.2.2 := fun m => by
        have := (Owns.reads (World.ownsRow.mono ((h'.out.new hG.out).2 x' (List.mem_of_getElem? hx')) (Nat.zero_le _))).more (gdrewN (World.grownBy.refl wr none) m)
        rw [hv', ← k2] at this
        exact this
      have cv1 := fun m => convB_of (r1 m)
      have cv2 := fun m => convB_of (r2 m)
      obtain ⟨xs, hxs⟩ : ∃ xs : ByteArray, xs = ⟨x.1.toArray⟩ := ⟨_, rfl⟩
      rw [← hxs] at c0 c0'
      obtain ⟨ys, hys⟩ : ∃ ys : ByteArray, ys = ⟨x.2.2.toArray⟩ := ⟨_, rfl⟩
      rw [← hys] at cv1 cv2
      obtain ⟨dl, hdl⟩ : ∃ dl, dl = x.2.2.length := ⟨_, rfl⟩
      rw [← hdl] at c1 c1' cv1 cv2
      have e1 : (xs.toList == xs.toList) = true := by simp
      have e2 : (ys.toList == ys.toList) = true := by simp
      clear hx hx' hxe k1 k2 hv hv' r1 r2 hxs hys hdl
      have gF : ∀ m, Hid (w.grownBy (wr.drewN m) none) := fun m => Lib.hid (gdrewN hG.out m)
      go_wp2_with fail
      go_quiet (fail)
      go_wp2_with fail
      go_roundw
      case rel => exact ⟨j + 1, by go_num, by omega, gF _⟩
      case measure => simp [RowKit.intOf]; omega
    · obtain rfl : j = n := by omega
      go_wp2
      go_ret
      exact ⟨rfl, hG.out⟩
end
section
variable {n0 : Nat → Prop} {q : Nat} {a : RefP} {N : Nat} {w : World}
theorem FsSim.files (S : FsSim n0 w q a) (I : RInv N a) (hN : N ≤ 2199023255552) :
    Calls Tryz.prog 22 #[.pointer (some ⟨q, 0, none⟩)] w fun e w' => ∃ v rows, e = .returned v ∧ FilesAt w' w.heap.size v rows ∧ rows.map (fun r => (r.1, r.2.2)) = a.files ∧ w.grownBy w' none := by
  obtain ⟨φ, p, d, s, mv, fl, h, hs⟩ := S
  unfold RefP.files
  by_cases hd : a.died = true
  · rw [if_pos hd]
    rw [hd] at h
    refine (files_dead w h.fs).mono ?_
    rintro e w' ⟨rfl, rfl⟩
    exact ⟨_, [], rfl, ⟨World.ownsRow_nil _ _ _ _, fun r hr => by cases hr⟩, rfl, World.grownBy.refl _ _⟩
  · rw [if_neg hd]
    have hdf : a.died = false := by simpa using hd
    rw [hdf] at h
    have hl := FSim.lens (l := a.dir) h.files hs I hN (fun x i e => I.dirLive e)
    refine (files_any _ (fileOf fl) w h.fs h.dir (fun x b e => ⟨(hl x b e).1, by have := (hl x b e).2.1; omega⟩) (by rw [DirL.mapB_length]; have := I.dirOk.len; omega)).mono ?_
    rintro e w' ⟨v, rows, rfl, k1, k2, k3⟩
    refine ⟨v, rows, rfl, k1, ?_, k3⟩
    rw [k2, DirL.mapB_sorted]
    show (a.dir.sorted.map _).map _ = _
    rw [List.map_map]
    refine List.map_congr_left fun x hx => ?_
    obtain ⟨f, h1, _, _, h3⟩ := hs.file x.2 (I.dirLive (DirL.sorted_look _ x hx))
    show (x.1, (fileOf fl (φ x.2)).data) = _
    rw [fileOf_mem (blocks_one h.files.2) h1, h3]
theorem FsSim.safes (S : FsSim n0 w q a) (I : RInv N a) (hN : N ≤ 2199023255552) :
    Calls Tryz.prog 27 #[.pointer (some ⟨q, 0, none⟩)] w fun e w' => ∃ v rows, e = .returned v ∧ FilesAt w' w.heap.size v rows ∧ rows.map (fun r => (r.1, r.2.2)) = a.safeFiles ∧ w.grownBy w' none := by
  obtain ⟨φ, p, d, s, mv, fl, h, hs⟩ := S
  unfold RefP.safeFiles
  have hlv : ∀ x i, a.safe.look x = some i → a.live i := fun x i e => ⟨0, x, e⟩
  have hl := FSim.lens (l := a.safe) h.files hs I hN hlv
  refine (safe_any _ (fileOf fl) w h.fs h.safe (fun x b e => ⟨(hl x b e).1, by have := (hl x b e).2.2; omega⟩) (by rw [DirL.mapB_length]; have := I.safeOk.len; omega)).mono ?_
  rintro e w' ⟨v, rows, rfl, k1, k2, k3⟩
  refine ⟨v, rows, rfl, k1, ?_, k3⟩
  rw [k2, DirL.mapB_sorted]
  show (a.safe.sorted.map _).map _ = _
  rw [List.map_map]
  refine List.map_congr_left fun x hx => ?_
  obtain ⟨f, h1, h2, _, _⟩ := hs.file x.2 (hlv x.1 x.2 (DirL.sorted_look _ x hx))
  show (x.1, (fileOf fl (φ x.2)).safe) = _
  rw [fileOf_mem (blocks_one h.files.2) h1, h2]
end
end Go.Proofs.YtafcgjbafihniaaGreat

/-
  LAYER 1 (fs): the program's Used and Each as the plain file system has them, dead or not.
-/
namespace Go.Proofs.YtafcgjbafihniaaGreat
set_option maxRecDepth 100000
open Go.RowKit Go.Lib
open Go.Proofs (encStr)
attribute [local go_sem] Oper.semAt_some

section
variable {q : Nat} {p : PlV} {ops : Int} {d s : Nat} {mv : Value}
theorem used_dead (w : World) (h : FsAt w q true p ops d s mv) :
    Calls Tryz.prog 36 #[.pointer (some ⟨q, 0, none⟩)] w fun e w' => e = .returned (.int .i64 0) ∧ w = w' := by
  have hdead := dead_fs w h
  go_enter Tryz.func36, Tryz.ntmps36
  go_wp2_with (go_at_call 21; refine hdead.mono ?_; rintro e w' ⟨rfl, rfl⟩)
  go_ret
  exact ⟨rfl, rfl⟩
end
section
variable {n0 : Nat → Prop} {q : Nat} {a : RefP} {N : Nat} {w : World}
theorem FsSim.usedA (S : FsSim n0 w q a) (I : RInv N a) (hN : N ≤ 2199023255552) :
    Calls Tryz.prog 36 #[.pointer (some ⟨q, 0, none⟩)] w fun e w' => e = .returned (.int .i64 (((a.files.map fun x => x.2.length).sum : Nat) : Int)) ∧ w.grownBy w' none := by
  obtain ⟨φ, p, d, s, mv, fl, h, hs⟩ := S
  unfold RefP.files
  by_cases hd : a.died = true
  · rw [if_pos hd]
    rw [hd] at h
    refine (used_dead w h.fs).mono ?_
    rintro e w' ⟨rfl, rfl⟩
    exact ⟨rfl, World.grownBy.refl _ _⟩
  · rw [if_neg hd]
    have hdf : a.died = false := by simpa using hd
    rw [hdf] at h
    have hl := FSim.lens (l := a.dir) h.files hs I hN (fun x i e => I.dirLive e)
    have hu := FSim.used h hs I
    refine (used_any (fileOf fl) w h (fun x b e => ⟨(hl x b e).1, (hl x b e).2.1⟩) (by rw [DirL.mapB_length]; have := I.dirOk.len; omega)).mono ?_
    rintro e w' ⟨rfl, g⟩
    rw [hu, List.map_map]
    exact ⟨rfl, g⟩
/-- What Each tells. -/
def RefP.told (a : RefP) : List (List UInt8 × Int) := a.files.map fun x => (x.1, (x.2.length : Int))
theorem FsSim.each (S : FsSim n0 w q a) (I : RInv N a) (hN : N ≤ 2199023255552) :
    Calls Tryz.prog 50 #[.pointer (some ⟨q, 0, none⟩)] w fun e w' => ∃ nb sb v u, e = .returned (.func (.func 83) #[] #[.pointer (some ⟨nb, 0, none⟩), .pointer (some ⟨sb, 0, none⟩)]) ∧ Boxed w' nb 127 v ∧ Boxed w' sb 22 u ∧
      w'.ownsRow w.heap.size 9 1 v a.told.length (a.told.map (fun x => encStr x.1)) ∧ w'.ownsRow w.heap.size 3 1 u a.told.length (a.told.map (fun x => .int .i64 x.2)) ∧ w.grownBy w' none ∧ w.heap.size ≤ nb ∧ w.heap.size ≤ sb := by
  obtain ⟨φ, p, d, s, mv, fl, h, hs⟩ := S
  unfold RefP.told RefP.files
  by_cases hd : a.died = true
  · rw [if_pos hd]
    rw [hd] at h
    refine (each_dead w h.fs).mono ?_
    rintro e w' ⟨nb, sb, rfl, k1, k2, k3, k4, k5⟩
    exact ⟨nb, sb, _, _, rfl, k1, k2, World.ownsRow_nil _ _ _ _, World.ownsRow_nil _ _ _ _, k3, k4, k5⟩
  · rw [if_neg hd]
    have hdf : a.died = false := by simpa using hd
    rw [hdf] at h
    have hl := FSim.lens (l := a.dir) h.files hs I hN (fun x i e => I.dirLive e)
    refine (each_lives _ (fileOf fl) w h.fs h.dir (fun x b e => ⟨(hl x b e).1, by have := (hl x b e).2.1; omega⟩) (by rw [DirL.mapB_length]; have := I.dirOk.len; omega)).mono ?_
    rintro e w' ⟨nb, sb, v, u, rfl, k1, k2, k3, k4, k5, k6, k7⟩
    have e1 : (a.dir.mapB φ).sorted.map (fun x => (x.1, ((fileOf fl x.2).data.length : Int))) = (a.dir.sorted.map fun x => (x.1, (a.file x.2).data)).map (fun x => (x.1, (x.2.length : Int))) := by
      rw [DirL.mapB_sorted]
      show (a.dir.sorted.map _).map _ = _
      rw [List.map_map, List.map_map]
      refine List.map_congr_left fun x hx => ?_
      obtain ⟨f, h1, _, _, h3⟩ := hs.file x.2 (I.dirLive (DirL.sorted_look _ x hx))
      show (x.1, ((fileOf fl (φ x.2)).data.length : Int)) = _
      rw [fileOf_mem (blocks_one h.files.2) h1, h3]
      rfl
    have e2 : (a.dir.sorted.map fun x => (x.1, (a.file x.2).data)).length = (a.dir.mapB φ).length := by rw [List.length_map, DirL.sorted_length, DirL.mapB_length]
    rw [← e1]
    refine ⟨nb, sb, v, u, rfl, k1, k2, ?_, ?_, k5, k6, k7⟩
    · rw [List.map_map, List.length_map, DirL.sorted_length]
      exact k3
    · rw [List.map_map, List.length_map, DirL.sorted_length]
      exact k4
end
end Go.Proofs.YtafcgjbafihniaaGreat

/-
  LAYER 1 (fs): the reference's SafeFiles.
-/
namespace Go.Proofs.YtafcgjbafihniaaGreat
set_option maxRecDepth 100000
variable {DX : Nat → Prop}
open Go.RowKit Go.Lib
open Go.Proofs (encStr)
attribute [local go_sem] Oper.semAt_some

section
variable {R : Nat → Prop} {w : World} {q : Nat} {a : RefP} {r : RefV} {vs : List (Value × Value)}
set_option maxHeartbeats 8000000 in
theorem rsafes_any (h : RefOk DX R w q a r vs) (F : a.Fits) (hsl : a.safe.length ≤ 65536) (hdl : ∀ x j, a.safe.look x = some j → j < a.nodes.length) :
    Calls Tryz.prog 48 #[.pointer (some ⟨q, 0, none⟩)] w fun e w' => ∃ v rows, e = .returned v ∧ FilesAt w' w.heap.size v rows ∧ rows.map (fun r => (r.1, r.2.2)) = a.safeFiles ∧ w.grownBy w' none := by
  unfold RefP.safeFiles
  have hnm := names_any (some ⟨q, 0, none⟩) r.safe a.safe w h.rows.rs.1 (by omega)
  have c9 := h.at_.c9
  obtain ⟨dva, dvc, hdv⟩ := h.rows.rs.form
  rw [hdv] at c9 hnm
  have hfind : Hid (∀ (W : World) (s : ByteArray), w.grownBy W none → Calls Tryz.prog 81 #[.slice dva a.safe.length dvc, .string s] W fun e w' => e = .returned (.int .i64 (findI a.safe s.data.toList 0)) ∧ W.grownBy w' none) := Lib.hid fun W s g => find_any _ a.safe s W (by rw [← hdv]; exact (h.rows.rs.new g).1) (by omega)
  have hrow : Hid (∀ k : Nat, k < a.safe.length → ∃ gs, dva = some ⟨gs, 0, none⟩ ∧ w.cell? ⟨gs, k * 2 + 1, none⟩ = some (.int .i64 ((a.safe.getD k ([], 0)).2 : Int))) := Lib.hid fun k hk => by
    have hrs := h.rows.rs
    rw [hdv] at hrs
    obtain ⟨gs, e, _, _, rc, _⟩ := hrs.cell (by omega)
    refine ⟨gs, e, ?_⟩
    have hat := flat_at (fun x : List UInt8 × Nat => [encStr x.1, .int .i64 (x.2 : Int)]) 2 (fun _ => rfl) a.safe k _ (List.getElem?_eq_getElem hk)
    rw [(rc (k * 2 + 1) (by omega)).trans (hat 1 (by omega))]
    simp [List.getD_eq_getElem?_getD, List.getElem?_eq_getElem hk]
  have hnode : Hid (∀ j : Nat, j < a.nodes.length → ∃ gn nvc x c, w.cell? ⟨q, 7, none⟩ = some (.slice (some ⟨gn, 0, none⟩) a.nodes.length nvc) ∧ w.cell? ⟨gn, j * 2, none⟩ = some (.slice x (a.file j).safe.length c) ∧ ∀ W, w.grownBy W none → Calls Tryz.prog 78 #[.slice x (a.file j).safe.length c] W fun e w' => ∃ xa xc, e = .returned (.slice xa (a.file j).safe.length xc) ∧ Owns w' W.heap.size 5 (.slice xa (a.file j).safe.length xc) (a.file j).safe ∧ W.grownBy w' none) := Lib.hid fun j hj => by
    obtain ⟨gn, nvc, sv, cv, e7, e0, e1, hN⟩ := h.nodeAt hj
    obtain ⟨x, c, hsv⟩ := hN.1.form
    rw [hsv] at e0
    have hgd := (F.file hj).1.1
    refine ⟨gn, nvc, x, c, e7, e0, fun W g => ?_⟩
    have hrd : Reads W (.slice x (a.file j).safe.length c) (a.file j).safe := by
      rw [← hsv]
      exact Owns.reads (World.ownsRow.mono (hN.1.new g).1 (Nat.zero_le _))
    refine (twin_any _ _ W hrd hgd).mono ?_
    rintro e w' ⟨v', rfl, o, g'⟩
    obtain ⟨xa, xc, rfl⟩ := rowForm o
    exact ⟨xa, xc, rfl, o, g'⟩
  obtain ⟨NM, hNM⟩ : ∃ NM, NM = a.safe.names.mergeSort leB := ⟨_, rfl⟩
  rw [show a.safe.sorted.map (fun x => (x.1, (a.file x.2).safe)) = NM.map (fun x => (x, (a.file ((a.safe.look x).getD 0)).safe)) by
    unfold DirL.sorted
    rw [List.map_map, hNM]
    rfl]
  rw [← hNM] at hnm
  have hin : Hid (∀ x ∈ NM, ∃ k j, findI a.safe x 0 = ((k : Nat) : Int) ∧ k < a.safe.length ∧ (a.safe.getD k ([], 0)).2 = j ∧ a.safe.look x = some j ∧ j < a.nodes.length) := Lib.hid fun x hx => by
    rw [hNM] at hx
    obtain ⟨j, hj⟩ := Option.isSome_iff_exists.1 (DirL.look_names.2 (List.mem_mergeSort.1 hx))
    rcases findI_look a.safe x 0 with ⟨h1, _⟩ | ⟨k, hk, h1, h2⟩
    · rw [hj] at h1
      cases h1
    · rw [hj] at h2
      cases h2
      exact ⟨k, _, by rw [h1, Nat.zero_add], hk, by simp [List.getD_eq_getElem?_getD, List.getElem?_eq_getElem hk], hj, hdl _ _ hj⟩
  have hNl : Hid (NM.length ≤ 65536) := Lib.hid (by rw [hNM, List.length_mergeSort]; simpa [DirL.names] using hsl)
  obtain ⟨ns, hns⟩ : ∃ ns, ns = a.safe.length := ⟨_, rfl⟩
  obtain ⟨nn, hnn⟩ : ∃ nn, nn = NM.length := ⟨_, rfl⟩
  rw [← hns] at c9 hnm hsl hfind hin hrow
  replace hNM := Lib.hid hNM
  replace hns := Lib.hid hns
  have hnn9 : nn ≤ 65536 := by have := hNl.out; omega
  replace hnn := Lib.hid hnn
  clear h hdv hdl F
  go_enter Tryz.func48, Tryz.ntmps48
  go_wp2_with (go_at_call 80
               refine hnm.mono ?_
               clear hnm
               rintro e w1 ⟨v1, rfl, hO, g1⟩
               obtain ⟨sa, sc, rfl⟩ := hO.form
               rw [← hnn.out]
               have hO1 := Lib.hid hO
               have hg1 := Lib.hid g1
               clear hO g1)
  go_loopw [3, 5, 13] (fun v3 _ vi wr => ∃ (j : Nat) (rows : List FRow), vi = .int .i64 (j : Int) ∧ j ≤ nn ∧ Hid (FilesAt wr w1.heap.size v3 rows) ∧ Hid (rows.length = j) ∧ Hid (rows.map (fun r => (r.1, r.2.2)) = (NM.take j).map (fun x => (x, (a.file ((a.safe.look x).getD 0)).safe))) ∧ Hid (w1.grownBy wr none)) (fun _ _ vi _ => nn - (RowKit.intOf vi).toNat)
  case atStart => exact ⟨0, [], rfl, Nat.zero_le _, Lib.hid ⟨World.ownsRow_nil _ _ _ _, fun r hr => by cases hr⟩, Lib.hid rfl, Lib.hid rfl, Lib.hid (World.grownBy.refl _ _)⟩
  case round =>
    obtain ⟨j, rows, rfl, hj, hR, hrl, hE, hG⟩ := hrel
    obtain ⟨ra, rc, rfl⟩ := rowFormS hR.out.1
    by_cases hlt : j < nn
    · have hltz : (j : Int) < (nn : Int) := by omega
      obtain ⟨x, hx⟩ : ∃ x, NM[j]? = some x := ⟨_, List.getElem?_eq_getElem (by rw [← hnn.out]; exact hlt)⟩
      obtain ⟨k, i, hfk, hks, hki, hlk, hil⟩ := hin.out x (List.mem_of_getElem? hx)
      have hOr := hO1.out.new hG.out
      obtain ⟨gs, rfl, _, hgs2, _, c0, _⟩ := hOr.at hx
      obtain ⟨xs, hxs⟩ : ∃ xs : ByteArray, xs = ⟨x.toArray⟩ := ⟨_, rfl⟩
      rw [← hxs] at c0
      have hxd : xs.data.toList = x := by rw [hxs]
      have gwr : w.grownBy wr none := hg1.out.trans hG.out
      have gd := gdrew (World.grownBy.refl wr none)
      have hfi := hfind.out wr.drew xs (gwr.trans gd)
      rw [hxd, hfk] at hfi
      obtain ⟨gq, edq, cq⟩ := hrow.out k hks
      subst edq
      rw [hki] at cq
      obtain ⟨gn, nvc, x0, y0, e7, e0, htw⟩ := hnode.out i hil
      obtain ⟨n, hn⟩ : ∃ n, n = a.file i := ⟨_, rfl⟩
      rw [← hn] at htw e0
      obtain ⟨dl, hdl5⟩ : ∃ dl, dl = n.safe.length := ⟨_, rfl⟩
      rw [← hdl5] at htw e0
      obtain ⟨nl, hnl⟩ : ∃ nl, nl = a.nodes.length := ⟨_, rfl⟩
      rw [← hnl] at e7 hil
      have hiz : (i : Int) < (nl : Int) := by omega
      have hkz : (k : Int) < (ns : Int) := by omega
      obtain ⟨rl, hrl2⟩ : ∃ rl, rl = rows.length := ⟨_, rfl⟩
      rw [← hrl2]
      have hRd := hR.out.new gd
      rw [← hrl2] at hRd
      have g1d := hG.out.trans gd
      have hS : ∀ V, w.grownBy V none → V.cell? ⟨q, 7, none⟩ = some (.slice (some ⟨gn, 0, none⟩) nl nvc) ∧ V.cell? ⟨q, 9, none⟩ = some (.slice (some ⟨gq, 0, none⟩) ns dvc) ∧ V.cell? ⟨gq, k * 2 + 1, none⟩ = some (.int .i64 (i : Int)) ∧ V.cell? ⟨gn, i * 2, none⟩ = some (.slice x0 dl y0) := fun V g => ⟨g.cell e7 (by simp), g.cell c9 (by simp), g.cell cq (by simp), g.cell e0 (by simp)⟩
      have hfin : ∀ (dv : Value) (V : World), wr.drew.grownBy V none → Owns V w1.heap.size 5 dv n.safe → ∃ a9 c9 W9, (Builtin.append_ #[50, 50] 50 #[.slice ra rl rc, .slice (some ⟨V.heap.size, 0, none⟩) 1 1]).run Tryz.prog (V.alloc (.cells #[.string xs, dv] 53)) = .ok (.slice a9 (rl + 1) c9) W9 ∧ w1.grownBy W9 none ∧ FilesAt W9 w1.heap.size (.slice a9 (rl + 1) c9) (rows ++ [(x, dv, n.safe)]) := by
        intro dv V gV oV
        have gW := World.grownBy_alloc V (.cells #[.string xs, dv] 53) none
        have eW := World.alloc_heap_new V (.cells #[.string xs, dv] 53)
        have hWs := ((g1d.trans gV).trans gW).size
        obtain ⟨v9, W9, run9, f9, g9⟩ := push_file (.slice ra rl rc) rows x dv n.safe w1.heap.size V.heap.size _ ((hRd.new gV).new gW) hWs (by have := hNl.out; have := hnn.out; have := hrl.out; omega) (World.ownsRow.kept oV gW (by cases dv.ownBlock <;> simp)) (by rw [eW, hxs, show encStr x = .string ⟨x.toArray⟩ from rfl])
        obtain ⟨a9, c9, rfl⟩ := rowFormS f9.1
        have e9 : (rows ++ [(x, dv, n.safe)]).length = rl + 1 := by rw [List.length_append, hrl2]; rfl
        rw [e9] at run9 f9
        exact ⟨a9, c9, W9, run9, gnew ((g1d.trans gV).trans gW) g9 (fun k e => .inl (World.ownsRow.lt hRd.1 k e).1), f9⟩
      have hE2 : Hid (∀ dv : Value, (rows ++ [(x, dv, n.safe)]).map (fun r : FRow => (r.1, r.2.2)) = (NM.take (j + 1)).map (fun x => (x, (a.file ((a.safe.look x).getD 0)).safe))) := Lib.hid fun dv => by
        obtain ⟨h1, h2⟩ := List.getElem?_eq_some_iff.1 hx
        rw [List.map_append, hE.out, List.take_succ_eq_append_getElem h1, List.map_append, h2]
        simp [hlk, hn]
      have hj1 : Hid (∀ dv : Value, (rows ++ [(x, dv, n.safe)]).length = j + 1) := Lib.hid fun dv => by rw [List.length_append, hrl.out]; rfl
      have S0 := hS _ (gwr.trans gd)
      have hgn := Lib.hid (hg1.out)
      have gwd := gwr.trans gd
      replace hfin := Lib.hid hfin
      replace htw := Lib.hid htw
      replace hS := Lib.hid hS
      replace gwd := Lib.hid gwd
      replace g1d := Lib.hid g1d
      replace hx := Lib.hid hx
      replace hlk := Lib.hid hlk
      replace hxs := Lib.hid hxs
      replace hxd := Lib.hid hxd
      replace hn := Lib.hid hn
      replace hdl5 := Lib.hid hdl5
      replace hnl := Lib.hid hnl
      replace hrl2 := Lib.hid hrl2
      replace hki := Lib.hid hki
      replace hfk := Lib.hid hfk
      clear hRd hOr e7 e0 gd gwr hE hR hrl cq
      go_wp2_with fail
      refine wp_region_held_drew (S := fun V => V.cell? ⟨q, 7, none⟩ = some (.slice (some ⟨gn, 0, none⟩) nl nvc) ∧ V.cell? ⟨q, 9, none⟩ = some (.slice (some ⟨gq, 0, none⟩) ns dvc) ∧ V.cell? ⟨gq, k * 2 + 1, none⟩ = some (.int .i64 (i : Int)) ∧ V.cell? ⟨gn, i * 2, none⟩ = some (.slice x0 dl y0)) (by kernel_rfl) S0 (fun hS0 => ?_)
      refine wpAnyH_take (i := 0) (oi := ⟨some 17, _, _, _, _, _⟩) (v := ?_) rfl (by kernel_rfl) (by kernel_rfl) (by kernel_rfl) (fun _ _ _ h => h) (Or.inl ⟨by rfl, ?_⟩) (by assumption) ?_
      rotate_left
      · (intro w hSw; (try dsimp only at hSw); go_simp; try with_reducible rfl)
      try simp only [Act.put, List.setIfInBounds_toArray, List.set_cons_zero, List.set_cons_succ]
      refine wpAnyH_take (i := 1) (oi := ⟨some 18, _, _, _, _, _⟩) (v := ?_) rfl (by kernel_rfl) (by kernel_rfl) (by kernel_rfl) (fun _ _ _ h => h) (Or.inl ⟨by rfl, ?_⟩) (by assumption) ?_
      rotate_left
      · (intro w hSw; (try dsimp only at hSw); go_simp; try with_reducible rfl)
      try simp only [Act.put, List.setIfInBounds_toArray, List.set_cons_zero, List.set_cons_succ]
      refine wpAnyH_take (i := 2) (oi := ⟨some 19, _, _, _, _, _⟩) (v := ?_) rfl (by kernel_rfl) (by kernel_rfl) (by kernel_rfl) (fun _ _ _ h => h) (Or.inl ⟨by rfl, ?_⟩) (by assumption) ?_
      rotate_left
      · (intro w hSw; (try dsimp only at hSw); go_simp; try with_reducible rfl)
      try simp only [Act.put, List.setIfInBounds_toArray, List.set_cons_zero, List.set_cons_succ]
      refine wpAnyH_take (i := 3) (oi := ⟨some 20, _, _, _, _, _⟩) (v := ?_) rfl (by kernel_rfl) (by kernel_rfl) (by kernel_rfl) (fun _ _ _ h => h) (Or.inl ⟨by rfl, ?_⟩) (by assumption) ?_
      rotate_left
      · (intro w hSw; (try dsimp only at hSw); go_simp; try with_reducible rfl)
      try simp only [Act.put, List.setIfInBounds_toArray, List.set_cons_zero, List.set_cons_succ]
      refine wpAnyH_take (i := 4) (oi := ⟨some 21, _, _, _, _, _⟩) (v := ?_) rfl (by kernel_rfl) (by kernel_rfl) (by kernel_rfl) (fun _ _ _ h => h) (Or.inl ⟨by rfl, ?_⟩) (by assumption) ?_
      rotate_left
      · (intro w hSw; (try dsimp only at hSw); go_simp; try with_reducible rfl)
      try simp only [Act.put, List.setIfInBounds_toArray, List.set_cons_zero, List.set_cons_succ]
      refine wpAnyH_take (i := 5) (oi := ⟨some 22, _, _, _, _, _⟩) (v := ?_) rfl (by kernel_rfl) (by kernel_rfl) (by kernel_rfl) (fun _ _ _ h => h) (Or.inl ⟨by rfl, ?_⟩) (by assumption) ?_
      rotate_left
      · (intro w hSw; (try dsimp only at hSw); go_simp; try with_reducible rfl)
      try simp only [Act.put, List.setIfInBounds_toArray, List.set_cons_zero, List.set_cons_succ]
      refine wpAnyH_take (i := 6) (oi := ⟨some 23, _, _, _, _, _⟩) (v := ?_) rfl (by kernel_rfl) (by kernel_rfl) (by kernel_rfl) (fun _ _ _ h => h) (Or.inl ⟨by rfl, ?_⟩) (by assumption) ?_
      rotate_left
      · (intro w hSw; (try dsimp only at hSw); go_simp; try with_reducible rfl)
      try simp only [Act.put, List.setIfInBounds_toArray, List.set_cons_zero, List.set_cons_succ]
      refine wpAnyH_take (i := 7) (oi := ⟨some 24, _, _, _, _, _⟩) (v := ?_) rfl (by kernel_rfl) (by kernel_rfl) (by kernel_rfl) (fun _ _ _ h => h) (Or.inl ⟨by rfl, ?_⟩) (by assumption) ?_
      rotate_left
      · (intro w hSw; (try dsimp only at hSw); go_simp; try with_reducible rfl)
      try simp only [Act.put, List.setIfInBounds_toArray, List.set_cons_zero, List.set_cons_succ]
      refine wpAnyH_take (i := 8) (oi := ⟨some 25, _, _, _, _, _⟩) (v := ?_) rfl (by kernel_rfl) (by kernel_rfl) (by kernel_rfl) (fun _ _ _ h => h) (Or.inl ⟨by rfl, ?_⟩) (by assumption) ?_
      rotate_left
      · (intro w hSw; (try dsimp only at hSw); go_simp; try with_reducible rfl)
      try simp only [Act.put, List.setIfInBounds_toArray, List.set_cons_zero, List.set_cons_succ]
      refine wpAnyH_take (i := 9) (oi := ⟨some 26, _, _, _, _, _⟩) (v := ?_) rfl (by kernel_rfl) (by kernel_rfl) (by kernel_rfl) (fun _ _ _ h => h) (Or.inl ⟨by rfl, ?_⟩) (by assumption) ?_
      rotate_left
      · (intro w hSw; (try dsimp only at hSw); go_simp; try with_reducible rfl)
      try simp only [Act.put, List.setIfInBounds_toArray, List.set_cons_zero, List.set_cons_succ]
      refine wpAnyH_take (i := 10) (oi := ⟨some 27, _, _, _, _, _⟩) (v := ?_) rfl (by kernel_rfl) (by kernel_rfl) (by kernel_rfl) (fun _ _ _ h => h) (Or.inl ⟨by rfl, ?_⟩) (by assumption) ?_
      rotate_left
      · (intro w hSw; (try dsimp only at hSw); go_simp; try with_reducible rfl)
      try simp only [Act.put, List.setIfInBounds_toArray, List.set_cons_zero, List.set_cons_succ]
      refine wpAnyH_take (i := 11) (oi := ⟨some 28, _, _, _, _, _⟩) (v := ?_) rfl (by kernel_rfl) (by kernel_rfl) (by kernel_rfl) (fun _ _ _ h => h) (Or.inl ⟨by rfl, ?_⟩) (by assumption) ?_
      rotate_left
      · (intro w hSw; (try dsimp only at hSw); go_simp; try with_reducible rfl)
      try simp only [Act.put, List.setIfInBounds_toArray, List.set_cons_zero, List.set_cons_succ]
      refine wpAnyH_take (i := 12) (oi := ⟨some 29, _, _, _, _, _⟩) (v := ?_) rfl (by kernel_rfl) (by kernel_rfl) (by kernel_rfl) (fun _ _ _ h => h) (Or.inl ⟨by rfl, ?_⟩) (by assumption) ?_
      rotate_left
      · (intro w hSw; (try dsimp only at hSw); go_simp; try with_reducible rfl)
      try simp only [Act.put, List.setIfInBounds_toArray, List.set_cons_zero, List.set_cons_succ]
      refine wpAnyH_take (i := 13) (oi := ⟨some 30, _, _, _, _, _⟩) (v := ?_) rfl (by kernel_rfl) (by kernel_rfl) (by kernel_rfl) (fun _ _ _ h => h) (Or.inl ⟨by rfl, ?_⟩) (by assumption) ?_
      rotate_left
      · (intro w hSw; (try dsimp only at hSw); go_simp; try with_reducible rfl)
      try simp only [Act.put, List.setIfInBounds_toArray, List.set_cons_zero, List.set_cons_succ]
      refine wpAnyH_take (i := 14) (oi := ⟨some 31, _, _, _, _, _⟩) (v := ?_) rfl (by kernel_rfl) (by kernel_rfl) (by kernel_rfl) (fun _ _ _ h => h) (Or.inl ⟨by rfl, ?_⟩) (by assumption) ?_
      rotate_left
      · (intro w hSw; (try dsimp only at hSw); go_simp; try with_reducible rfl)
      try simp only [Act.put, List.setIfInBounds_toArray, List.set_cons_zero, List.set_cons_succ]
      refine wpAnyH_ready (rs := [15]) (by kernel_rfl) (by simp) ?_
      refine AllReadyH.cons rfl (fun K hK => ?_) AllReadyH.nil
      go_simp
      refine hfi.mono ?_
      clear hfi
      rintro e w2 ⟨rfl, g2⟩
      have S2 := hS.out _ (gwd.out.trans g2)
      have hda := htw.out w2 (gwd.out.trans g2)
      refine hK.out _ _ S2 (fun _ => ?_)
      clear hK
      refine wpAnyH_take (i := 16) (oi := ⟨some 33, _, _, _, _, _⟩) (v := ?_) rfl (by kernel_rfl) (by kernel_rfl) (by kernel_rfl) (fun _ _ _ h => h) (Or.inl ⟨by rfl, ?_⟩) (by assumption) ?_
      rotate_left
      · (intro w hSw; (try dsimp only at hSw); go_simp; try with_reducible rfl)
      try simp only [Act.put, List.setIfInBounds_toArray, List.set_cons_zero, List.set_cons_succ]
      refine wpAnyH_take (i := 17) (oi := ⟨some 34, _, _, _, _, _⟩) (v := ?_) rfl (by kernel_rfl) (by kernel_rfl) (by kernel_rfl) (fun _ _ _ h => h) (Or.inl ⟨by rfl, ?_⟩) (by assumption) ?_
      rotate_left
      · (intro w hSw; (try dsimp only at hSw); go_simp; try with_reducible rfl)
      try simp only [Act.put, List.setIfInBounds_toArray, List.set_cons_zero, List.set_cons_succ]
      refine wpAnyH_take (i := 18) (oi := ⟨some 35, _, _, _, _, _⟩) (v := ?_) rfl (by kernel_rfl) (by kernel_rfl) (by kernel_rfl) (fun _ _ _ h => h) (Or.inl ⟨by rfl, ?_⟩) (by assumption) ?_
      rotate_left
      · (intro w hSw; (try dsimp only at hSw); go_simp; try with_reducible rfl)
      try simp only [Act.put, List.setIfInBounds_toArray, List.set_cons_zero, List.set_cons_succ]
      refine wpAnyH_take (i := 19) (oi := ⟨some 36, _, _, _, _, _⟩) (v := ?_) rfl (by kernel_rfl) (by kernel_rfl) (by kernel_rfl) (fun _ _ _ h => h) (Or.inl ⟨by rfl, ?_⟩) (by assumption) ?_
      rotate_left
      · (intro w hSw; (try dsimp only at hSw); go_simp; try with_reducible rfl)
      try simp only [Act.put, List.setIfInBounds_toArray, List.set_cons_zero, List.set_cons_succ]
      refine wpAnyH_take (i := 20) (oi := ⟨some 37, _, _, _, _, _⟩) (v := ?_) rfl (by kernel_rfl) (by kernel_rfl) (by kernel_rfl) (fun _ _ _ h => h) (Or.inl ⟨by rfl, ?_⟩) (by assumption) ?_
      rotate_left
      · (intro w hSw; (try dsimp only at hSw); go_simp; try with_reducible rfl)
      try simp only [Act.put, List.setIfInBounds_toArray, List.set_cons_zero, List.set_cons_succ]
      refine wpAnyH_take (i := 21) (oi := ⟨some 38, _, _, _, _, _⟩) (v := ?_) rfl (by kernel_rfl) (by kernel_rfl) (by kernel_rfl) (fun _ _ _ h => h) (Or.inl ⟨by rfl, ?_⟩) (by assumption) ?_
      rotate_left
      · (intro w hSw; (try dsimp only at hSw); go_simp; try with_reducible rfl)
      try simp only [Act.put, List.setIfInBounds_toArray, List.set_cons_zero, List.set_cons_succ]
      refine wpAnyH_ready (rs := [22]) (by kernel_rfl) (by simp) ?_
      refine AllReadyH.cons rfl (fun K hK => ?_) AllReadyH.nil
      go_simp
      refine hda.mono ?_
      clear hda
      rintro e w3 ⟨x3, c3, rfl, o3, g3⟩
      have S3 := hS.out _ ((gwd.out.trans g2).trans g3)
      have g23 := g2.trans g3
      obtain ⟨a9, c9, W9, run9, g9, f9⟩ := hfin.out (.slice x3 dl c3) w3 g23 (World.ownsRow.mono o3 (Nat.le_trans g1d.out.size g2.size))
      have S9 := hS.out _ (hgn.out.trans g9)
      have gx := World.grownBy_alloc w3 (.cells #[.string xs, .slice x3 dl c3] 53) none
      have S4 := hS.out _ (((gwd.out.trans g2).trans g3).trans gx)
      have f9h := Lib.hid f9
      have g9h := Lib.hid g9
      clear g23 o3 g3 g2 f9 g9 gx
      refine hK.out _ _ S3 (fun _ => ?_)
      clear hK
      refine wpAnyH_take (i := 23) (oi := ⟨some 40, _, _, _, _, _⟩) (v := ?_) rfl (by kernel_rfl) (by kernel_rfl) (by kernel_rfl) (fun _ _ _ h => h) (Or.inl ⟨by rfl, ?_⟩) (by assumption) ?_
      rotate_left
      · (intro w hSw; (try dsimp only at hSw); go_simp; try with_reducible rfl)
      try simp only [Act.put, List.setIfInBounds_toArray, List.set_cons_zero, List.set_cons_succ]
      refine wpAnyH_ready (rs := [24]) (by kernel_rfl) (by simp) ?_
      refine AllReadyH.cons rfl (fun K hK => ?_) AllReadyH.nil
      go_simp
      refine hK.out _ _ S4 (fun _ => ?_)
      clear hK
      refine wpAnyH_ready (rs := [25]) (by kernel_rfl) (by simp) ?_
      refine AllReadyH.cons rfl (fun K hK => ?_) AllReadyH.nil
      rw [if_pos (by rfl)]
      refine wp_app_run _ _ _ rfl (.slice ra rl rc) _ rfl rfl run9 ?_
      refine hK.out _ _ S9 (fun _ => ?_)
      clear hK
      refine wpAnyH_take (i := 26) (oi := ⟨some 3, _, _, _, _, _⟩) (v := ?_) rfl (by kernel_rfl) (by kernel_rfl) (by kernel_rfl) (fun _ _ _ h => h) (Or.inl ⟨by rfl, ?_⟩) (by assumption) ?_
      rotate_left
      · (intro w hSw; (try dsimp only at hSw); go_simp; try with_reducible rfl)
      try simp only [Act.put, List.setIfInBounds_toArray, List.set_cons_zero, List.set_cons_succ]
      refine wpAnyH_done (by kernel_rfl) ?_ _
      go_wp2_with fail
      exact ⟨⟨j + 1, rows ++ [(x, .slice x3 dl c3, n.safe)], by go_num, by omega, f9h, hj1.out _, hE2.out _, g9h⟩, by simp [RowKit.intOf]; omega⟩
    · obtain rfl : j = nn := by omega
      have hEf : rows.map (fun r => (r.1, r.2.2)) = NM.map (fun x => (x, (a.file ((a.safe.look x).getD 0)).safe)) := by
        rw [hE.out, hnn.out, List.take_length]
      have FF : Hid (∃ v rows', (Ending.returned (.slice ra rows.length rc)) = .returned v ∧ FilesAt wr w.heap.size v rows' ∧ rows'.map (fun r => (r.1, r.2.2)) = NM.map (fun x => (x, (a.file ((a.safe.look x).getD 0)).safe)) ∧ w.grownBy wr none) := Lib.hid ⟨_, rows, rfl, ⟨World.ownsRow.mono hR.out.1 hg1.out.size, fun r hr => World.ownsRow.mono (hR.out.2 r hr) hg1.out.size⟩, hEf, hg1.out.trans hG.out⟩
      clear hEf
      go_wp2
      go_ret
      exact FF.out
end
end Go.Proofs.YtafcgjbafihniaaGreat
