/-
  ARGUMENTS OF A LAW, OPENED: a plan, operations, with what they hold and how much.
-/
import Derived.Test.YtcehddlplkfflaaGreatFM23
import Derived.Test.YtcehddlplkfflaaGreatRows
import Derived.OpenShut
import Derived.ProofKit
import Derived.SizedLaws
import Derived.Deep.SlicePairs
namespace Go.Proofs.YtcehddlplkfflaaGreat
set_option maxRecDepth 100000
open Go.ChangeShapes Go.WideShapes Go.ChangeAt Go.RowKit

section
variable {H : Type} {enc : TypeId × Value → H} {W : World} {base : Nat} {held : Bool} {fuel : Nat} {x : DataW H × List MemPlace}
theorem bytesInt : Tryz.prog.bytesOf 3 = 8 := by kernel_rfl
theorem bytesU : Tryz.prog.bytesOf 5 = 1 := by kernel_rfl
theorem bytesOp : Tryz.prog.bytesOf 34 = 160 := by kernel_rfl
theorem addS (b off i : Nat) : (⟨b, off, none⟩ : Addr).add i = ⟨b, off + i, none⟩ := by cases i <;> simp [Addr.add]
theorem ints_open {v : Value} (h : DataW.trod enc Tryz.prog W base (fun _ => true) held fuel 22 [v] = some x) (hw : ∀ n ∈ x.1.weights Tryz.prog 22, n ≤ reachBytes) :
    ∃ zs a c, v = .slice a zs.length c ∧ Ints W v zs ∧ zs.length * 8 ≤ 140737488351232 := by
  rcases open_ints Tryz.underlying22 Tryz.underlying3 (by kernel_rfl) h with ⟨h0, _⟩ | ⟨a, len, cap, zs, hcs, _, hl, hm, hz, hx, hcell, hwz⟩
  · simp at h0
    subst h0
    exact ⟨[], none, 0, rfl, .inl (.inl ⟨rfl, rfl⟩), by simp⟩
  · simp at hcs hz
    subst hcs
    have hwt : len * 8 ≤ 140737488351232 := by
      have := hw ((len + (cap - len)) * Tryz.prog.bytesOf 3) (by
        rw [hx]
        simp only [DataW.weights, Tryz.underlying22, lits, List.length_map, List.length_take, List.length_drop, hz]
        rw [Nat.min_eq_left hl]
        exact List.mem_cons_self)
      rw [bytesInt] at this
      unfold reachBytes at this
      omega
    have hll : (zs.take len).length = len := by rw [List.length_take, hz]; omega
    refine ⟨zs.take len, some a, cap, by rw [hll], ?_, by rw [hll]; exact hwt⟩
    by_cases hc0 : cap = 0
    · right
      have : len = 0 := by omega
      subst this hc0
      exact ⟨a, rfl, by simp⟩
    · left; right
      have hc := hcell 0 (by omega)
      have hsp := World.cell?_spot hc
      obtain ⟨b, off, sp⟩ := a
      simp [Addr.add] at hsp
      subst hsp
      refine ⟨b, off, cap, by rw [List.length_map, hll], by rw [List.length_map, hll]; exact hl, hm, fun i u hu => ?_⟩
      rw [List.getElem?_map] at hu
      obtain ⟨z, hz2, rfl⟩ := Option.map_eq_some_iff.1 hu
      have hi : i < len := by have := (List.getElem?_eq_some_iff.1 hz2).1; omega
      rw [List.getElem?_take_of_lt hi] at hz2
      have hci := hcell i (by omega)
      rw [addS] at hci
      rw [hci, List.getD_eq_getElem?_getD, hz2]
      rfl
theorem bytes_open {v : Value} (h : DataW.trod enc Tryz.prog W base (fun _ => true) held fuel 32 [v] = some x) (hw : ∀ n ∈ x.1.weights Tryz.prog 32, n ≤ reachBytes) :
    ∃ bs a c, v = .slice a (List.length bs) c ∧ ReadsF W v bs ∧ bs.length ≤ 140737488351232 := by
  rcases open_ints Tryz.underlying32 Tryz.underlying5 (by kernel_rfl) h with ⟨h0, _⟩ | ⟨a, len, cap, zs, hcs, _, hl, hm, hz, hx, hcell, hwz⟩
  · simp at h0
    subst h0
    exact ⟨[], none, 0, rfl, .inl (.inl ⟨rfl, rfl⟩), by simp⟩
  · simp at hcs hz
    subst hcs
    have hwt : len ≤ 140737488351232 := by
      have := hw ((len + (cap - len)) * Tryz.prog.bytesOf 5) (by
        rw [hx]
        simp only [DataW.weights, Tryz.underlying32, lits, List.length_map, List.length_take, List.length_drop, hz]
        rw [Nat.min_eq_left hl]
        exact List.mem_cons_self)
      rw [bytesU] at this
      unfold reachBytes at this
      omega
    have hll : ((zs.take len).map fun z => z.toNat.toUInt8).length = len := by rw [List.length_map, List.length_take, hz]; omega
    refine ⟨(zs.take len).map fun z => z.toNat.toUInt8, some a, cap, by rw [hll], ?_, by rw [hll]; exact hwt⟩
    by_cases hc0 : cap = 0
    · right
      have : len = 0 := by omega
      subst this hc0
      exact ⟨a, rfl, by simp⟩
    · left; right
      have hc := hcell 0 (by omega)
      have hsp := World.cell?_spot hc
      obtain ⟨b, off, sp⟩ := a
      simp [Addr.add] at hsp
      subst hsp
      refine ⟨b, off, cap, by rw [hll], by rw [hll]; exact hl, hm, fun i u hu => ?_⟩
      rw [List.getElem?_map] at hu
      obtain ⟨z, hz2, rfl⟩ := Option.map_eq_some_iff.1 hu
      have hi : i < len := by have := (List.getElem?_eq_some_iff.1 hz2).1; rw [List.length_take] at this; omega
      rw [List.getElem?_take_of_lt hi] at hz2
      have hci := hcell i (by omega)
      rw [addS] at hci
      rw [hci, List.getD_eq_getElem?_getD, hz2]
      have hb := bounds_u8 (hwz z (List.mem_of_getElem? hz2))
      show some (Value.int .u8 z) = _
      congr 2
      have : z.toNat < 256 := by omega
      simp [Nat.toUInt8, UInt8.toNat_ofNat']
      omega
theorem plan_open {v0 v1 v2 v3 v4 : Value} (h : DataW.trod enc Tryz.prog W base (fun _ => true) held fuel 24 [v0, v1, v2, v3, v4] = some x) (hw : ∀ n ∈ x.1.weights Tryz.prog 24, n ≤ reachBytes) :
    ∃ (p : Pl) (a1 : Option Addr) (c1 : Nat) (a2 : Option Addr) (c2 : Nat) (a3 : Option Addr) (c3 : Nat), [v0, v1, v2, v3, v4] = [.int .i64 p.crash, .slice a1 p.keep.length c1, .slice a2 p.fail.length c2, .slice a3 p.full.length c3, .int .i64 p.room] ∧ planFits p ∧
      Ints W (.slice a1 p.keep.length c1) p.keep ∧ Ints W (.slice a2 p.fail.length c2) p.fail ∧ Ints W (.slice a3 p.full.length c3) p.full := by
  obtain ⟨xs, m, _, hxy, _, hxl, hx⟩ := DataW.trod_struct Tryz.underlying24 h
  have hci : Tryz.prog.cellsOf 3 = 1 := by kernel_rfl
  have hcs : Tryz.prog.cellsOf 22 = 1 := by kernel_rfl
  match xs, hxl with
  | [y0, y1, y2, y3, y4], _ =>
    have g0 := hx 0 _ rfl
    have g1 := hx 1 _ rfl
    have g2 := hx 2 _ rfl
    have g3 := hx 3 _ rfl
    have g4 := hx 4 _ rfl
    simp [hci, hcs] at g0 g1 g2 g3 g4
    have hww : ∀ n, n ∈ y1.1.weights Tryz.prog 22 ∨ n ∈ y2.1.weights Tryz.prog 22 ∨ n ∈ y3.1.weights Tryz.prog 22 → n ≤ reachBytes := fun n hn => hw n (by
      rw [hxy]
      simp only [DataW.weights, Tryz.underlying24, DataW.weightsEach, List.map_cons, List.map_nil]
      simp only [List.mem_append]
      rcases hn with hn | hn | hn
      · exact .inr (.inl hn)
      · exact .inr (.inr (.inl hn))
      · exact .inr (.inr (.inr (.inl hn))))
    obtain ⟨n0, e0, _, _⟩ := DataW.trod_int Tryz.underlying3 g0
    obtain ⟨n4, e4, _, w4⟩ := DataW.trod_int Tryz.underlying3 g4
    obtain ⟨z1, a1, c1, e1, i1, l1⟩ := ints_open g1 (fun n hn => hww n (.inl hn))
    obtain ⟨z2, a2, c2, e2, i2, l2⟩ := ints_open g2 (fun n hn => hww n (.inr (.inl hn)))
    obtain ⟨z3, a3, c3, e3, i3, l3⟩ := ints_open g3 (fun n hn => hww n (.inr (.inr hn)))
    simp at e0 e4
    subst e0 e1 e2 e3 e4
    exact ⟨⟨n0, z1, z2, z3, n4⟩, a1, c1, a2, c2, a3, c3, rfl, ⟨l1, l2, l3, (bounds_i64 w4).2⟩, i1, i2, i3⟩
/-- An operation's ten cells. -/
def OpRow (W : World) (o : OpP) (cs : List Value) : Prop := ∃ da dc a1 c1 a2 c2 a3 c3, cs = (opCells o.kind o.name o.dest (.slice da o.data.length dc) o.n o.plan.crash (.slice a1 o.plan.keep.length c1) (.slice a2 o.plan.fail.length c2) (.slice a3 o.plan.full.length c3) o.plan.room).toList ∧
  ReadsF W (.slice da o.data.length dc) o.data ∧ Ints W (.slice a1 o.plan.keep.length c1) o.plan.keep ∧ Ints W (.slice a2 o.plan.fail.length c2) o.plan.fail ∧ Ints W (.slice a3 o.plan.full.length c3) o.plan.full
theorem op_open {cs : List Value} (h : DataW.trod enc Tryz.prog W base (fun _ => true) held fuel 34 cs = some x) (hw : ∀ n ∈ x.1.weights Tryz.prog 34, n ≤ reachBytes) : ∃ o : OpP, OpRow W o cs ∧ o.Fits := by
  obtain ⟨xs, m, _, hxy, hcl, hxl, hx⟩ := DataW.trod_struct Tryz.underlying34 h
  have hc : Tryz.prog.cellsOf 34 = 10 := by kernel_rfl
  have hci : Tryz.prog.cellsOf 3 = 1 := by kernel_rfl
  have hcs1 : Tryz.prog.cellsOf 9 = 1 := by kernel_rfl
  have hcb : Tryz.prog.cellsOf 32 = 1 := by kernel_rfl
  have hcp : Tryz.prog.cellsOf 24 = 5 := by kernel_rfl
  rw [hc] at hcl
  match cs, hcl with
  | [v0, v1, v2, v3, v4, v5, v6, v7, v8, v9], _ =>
    match xs, hxl with
    | [y0, y1, y2, y3, y4, y5], _ =>
      have g0 := hx 0 _ rfl
      have g1 := hx 1 _ rfl
      have g2 := hx 2 _ rfl
      have g3 := hx 3 _ rfl
      have g4 := hx 4 _ rfl
      have g5 := hx 5 _ rfl
      simp [hci, hcs1, hcb, hcp] at g0 g1 g2 g3 g4 g5
      have hww : ∀ n, n ∈ y3.1.weights Tryz.prog 32 ∨ n ∈ y5.1.weights Tryz.prog 24 → n ≤ reachBytes := fun n hn => hw n (by
        rw [hxy]
        simp only [DataW.weights, Tryz.underlying34, DataW.weightsEach, List.map_cons, List.map_nil]
        simp only [List.mem_append]
        rcases hn with hn | hn
        · exact .inr (.inr (.inr (.inl hn)))
        · exact .inr (.inr (.inr (.inr (.inr (.inl hn))))))
      obtain ⟨n0, e0, _, _⟩ := DataW.trod_int Tryz.underlying3 g0
      obtain ⟨s1, e1, _, l1⟩ := DataW.trod_string Tryz.underlying9 g1
      obtain ⟨s2, e2, _, l2⟩ := DataW.trod_string Tryz.underlying9 g2
      obtain ⟨bs, da, dc, e3, rb, lb⟩ := bytes_open g3 (fun n hn => hww n (.inl hn))
      obtain ⟨n4, e4, _, w4⟩ := DataW.trod_int Tryz.underlying3 g4
      obtain ⟨p, a1, c1, a2, c2, a3, c3, e5, pf, i1, i2, i3⟩ := plan_open g5 (fun n hn => hww n (.inr hn))
      simp at e0 e1 e2 e4 e5
      obtain ⟨rfl, rfl, rfl, rfl, rfl⟩ := e5
      subst e0 e1 e2 e3 e4
      exact ⟨⟨n0, s1, s2, bs, n4, p⟩, ⟨da, dc, a1, c1, a2, c2, a3, c3, rfl, rb, i1, i2, i3⟩, ⟨l1, l2, lb, by have := (bounds_i64 w4).2; show n4 < _; omega, pf⟩⟩
theorem choose_ops {α : Type} {n : Nat} {p : Nat → α → Prop} (h : ∀ i, i < n → ∃ x, p i x) : ∃ l : List α, l.length = n ∧ ∀ i x, l[i]? = some x → p i x := by
  induction n with
  | zero => exact ⟨[], rfl, fun i x h => by simp at h⟩
  | succ n ih =>
    obtain ⟨l, h1, h2⟩ := ih (fun i hi => h i (by omega))
    obtain ⟨x, hx⟩ := h n (by omega)
    refine ⟨l ++ [x], by simp [h1], fun i y hy => ?_⟩
    by_cases hi : i < n
    · rw [List.getElem?_append_left (by omega)] at hy
      exact h2 i y hy
    · have hin : i = n := by
        have := (List.getElem?_eq_some_iff.1 hy).1
        simp at this
        omega
      subst hin
      rw [List.getElem?_append_right (by omega), h1] at hy
      simp at hy
      subst hy
      exact hx
theorem weightsAll_mem {P : Program} {e : TypeId} : ∀ {l : List (DataW H)} {d : DataW H}, d ∈ l → ∀ n ∈ d.weights P e, n ∈ DataW.weightsAll P e l
  | [], _, h, _, _ => by cases h
  | d0 :: l, d, h, n, hn => by
    simp only [DataW.weightsAll, List.mem_append]
    rcases List.mem_cons.1 h with rfl | h
    · exact .inl hn
    · exact .inr (weightsAll_mem h n hn)
theorem ops_open {v : Value} (h : DataW.trod enc Tryz.prog W base (fun _ => true) held fuel 25 [v] = some x) (hw : ∀ n ∈ x.1.weights Tryz.prog 25, n ≤ reachBytes) : ∃ L, OpsR W v L := by
  rcases Deep.open_slice Tryz.underlying25 h with ⟨h0, _⟩ | ⟨a, len, cap, m, n, D, Pl, hcs, hb, hl, hm, hmm, rfl, hx⟩
  · simp at h0
    subst h0
    exact ⟨[], none, 0, rfl, Nat.zero_le _, (fun o ho => by cases ho), fun j o ho => by simp at ho⟩
  simp at hcs hmm
  subst hcs hmm
  have ce : Tryz.prog.cellsOf 34 = 10 := by kernel_rfl
  have hlen : len ≤ 879609302208 := by
    have := hw ((len + (m - len)) * Tryz.prog.bytesOf 34) (by
      simp only [DataW.weights, Tryz.underlying25, List.length_map, List.length_range]
      exact List.mem_cons_self)
    rw [bytesOp] at this
    unfold reachBytes at this
    omega
  obtain ⟨l, hll, hl2⟩ := choose_ops (α := OpP) (n := len) (p := fun i o => o.Fits ∧ ∃ cs', W.cells? base (a.add (i * 10)) 10 = some cs' ∧ OpRow W o cs') (fun i hi => by
    obtain ⟨cs', h1, h2⟩ := hx i (by omega)
    rw [ce] at h1
    obtain ⟨o, h3, h4⟩ := op_open h2 (fun n hn => hw n (by
      simp only [DataW.weights, Tryz.underlying25]
      refine List.mem_cons_of_mem _ (List.mem_append.2 (.inl (weightsAll_mem (List.mem_map.2 ⟨i, List.mem_range.2 hi, rfl⟩) n hn)))))
    exact ⟨o, h4, cs', h1, h3⟩)
  subst hll
  refine ⟨l, some a, m, rfl, hlen, fun o ho => ?_, fun j o ho => ?_⟩
  · obtain ⟨i, hi⟩ := List.mem_iff_getElem?.1 ho
    exact (hl2 i o hi).1
  · obtain ⟨_, cs', h1, da, dc, a1, c1, a2, c2, a3, c3, rfl, k1, k2, k3, k4⟩ := hl2 j o ho
    obtain ⟨_, hlen2, hcell⟩ := World.cells?_some h1
    have hs0 : a.spot = none := by
      have hj := (List.getElem?_eq_some_iff.1 ho).1
      obtain ⟨_, cs0, h10, da0, dc0, b1, e1, b2, e2, b3, e3, rfl, _⟩ := hl2 0 _ (List.getElem?_eq_getElem (show 0 < l.length by omega))
      obtain ⟨_, _, hcell0⟩ := World.cells?_some h10
      have h00 := hcell0 0 (by omega)
      have e0 : ∀ A : Addr, A.add 0 = A := fun A => by simp [Addr.add]
      rw [Nat.zero_mul, e0, e0] at h00
      exact World.cell?_spot (show W.cell? a = some _ from by simpa [opCells] using h00)
    obtain ⟨b, off, sp⟩ := a
    have hs : sp = none := hs0
    subst hs
    refine ⟨b, off, da, dc, a1, c1, a2, c2, a3, c3, rfl, fun i u hu => ?_, k1, k2, k3, k4⟩
    have hi : i < 10 := by have := (Array.getElem?_eq_some_iff.1 hu).1; simpa [opCells] using this
    have hc := hcell i (by omega)
    rw [addS, addS] at hc
    rw [hc, ← hu]
    simp
theorem ops_arg {v : Value} {d : DataW H} {ps : List MemPlace} (h : DataW.Trod enc Tryz.prog W 0 (fun _ => true) true 25 v d ps) (hv : ∃ a l c, v = .slice a l c) (hw : ∀ n ∈ d.weights Tryz.prog 25, n ≤ reachBytes) : ∃ L, OpsR W v L := by
  obtain ⟨fuel, hf⟩ := h
  obtain ⟨a, l, c, rfl⟩ := hv
  exact ops_open (x := (d, ps)) (by simpa [Value.cells] using hf) hw
theorem plan_argR {v : Value} {d : DataW H} {ps : List MemPlace} (hok : Value.okWide Tryz.prog W .any base 24 v) (h : DataW.Trod enc Tryz.prog W 0 (fun _ => true) true 24 v d ps) (hw : ∀ n ∈ d.weights Tryz.prog 24, n ≤ reachBytes) : ∃ p, PlanR W v p := by
  simp only [Value.okWide, Tryz.underlying24] at hok
  obtain ⟨cs, rfl, hcs, _⟩ := hok
  obtain ⟨fuel, hf⟩ := h
  have hc : Tryz.prog.cellsOf 24 = 5 := by kernel_rfl
  rw [hc] at hcs
  obtain ⟨l⟩ := cs
  match l, hcs with
  | [v0, v1, v2, v3, v4], _ =>
    obtain ⟨p, a1, c1, a2, c2, a3, c3, e, pf, i1, i2, i3⟩ := plan_open (x := (d, ps)) (show DataW.trod enc Tryz.prog W 0 (fun _ => true) true fuel 24 [v0, v1, v2, v3, v4] = some _ from hf) hw
    simp at e
    obtain ⟨rfl, rfl, rfl, rfl, rfl⟩ := e
    exact ⟨p, a1, c1, a2, c2, a3, c3, rfl, pf, i1, i2, i3⟩
theorem weights_of {ts : List TypeId} {ds : List (DataW H)} (hsz : (DataW.weightsEach Tryz.prog ts ds).all (· ≤ reachBytes) = true) (j : Nat) {t : TypeId} {d : DataW H} (ht : ts[j]? = some t) (hd : ds[j]? = some d) : ∀ n ∈ d.weights Tryz.prog t, n ≤ reachBytes := fun n hn => by
  have := List.all_eq_true.1 hsz n (DataW.weights_mem_each ht hd n hn)
  simpa using this
end
end Go.Proofs.YtcehddlplkfflaaGreat

/-
  LAYER 1 (fs): FsReads, its walk.
-/
namespace Go.Proofs.YtcehddlplkfflaaGreat
set_option maxRecDepth 100000
open Go.RowKit Go.Lib Go.ChangeShapes Go.WideShapes Go.ChangeAt
attribute [local go_sem] Oper.semAt_some

theorem PlanR.new {w w' : World} {v : Value} {p : Pl} (h : PlanR w v p) (g : w.grownBy w' none) : PlanR w' v p := by
  obtain ⟨a1, c1, a2, c2, a3, c3, e, k0, k1, k2, k3⟩ := h
  exact ⟨a1, c1, a2, c2, a3, c3, e, k0, k1.all g, k2.all g, k3.all g⟩
set_option maxHeartbeats 8000000 in
theorem FsReads_go (w : World) (pv v : Value) (p : Pl) (L : List OpP) (hp : PlanR w pv p) (h : OpsR w v L) (nm : ByteArray) (hnm : nm.size ≤ maxLen) (i n : Int) (hi9 : i ≤ 9223372036854775807) (hn9 : n ≤ 9223372036854775807) :
    Calls Tryz.prog 4 #[pv, v, .string nm, .int .i64 i, .int .i64 n] w fun e w' => e = .returned (.bool true) ∧ w.grownBy w' none := by
  have hL : L.length ≤ 1099511627776 := by obtain ⟨_, _, _, h2, _⟩ := h; omega
  obtain ⟨va, vc, hv⟩ : ∃ a c, v = .slice a L.length c := by obtain ⟨a, c, h2, _⟩ := h; exact ⟨a, c, h2⟩
  subst hv
  have hp0 := hp
  obtain ⟨a1, c1, a2, c2, a3, c3, rfl, -, -, -, -⟩ := hp0
  obtain ⟨n1, hn1⟩ : ∃ n, n = p.keep.length := ⟨_, rfl⟩
  obtain ⟨n2, hn2⟩ : ∃ n, n = p.fail.length := ⟨_, rfl⟩
  obtain ⟨n3, hn3⟩ : ∃ n, n = p.full.length := ⟨_, rfl⟩
  obtain ⟨ln, hln⟩ : ∃ n, n = L.length := ⟨_, rfl⟩
  rw [← hn1, ← hn2, ← hn3] at hp ⊢
  rw [← hln] at h ⊢
  obtain ⟨W0, hW0⟩ : ∃ W0, W0 = w.alloc (.cells #[.int .i64 p.crash, .slice a1 n1 c1, .slice a2 n2 c2, .slice a3 n3 c3, .int .i64 p.room] 24) := ⟨_, rfl⟩
  have gB : w.grownBy W0 none := by rw [hW0]; exact World.grownBy_alloc w _ none
  have P0 : PlanAt W0 w.heap.size (.int .i64 p.crash) (.slice a1 n1 c1) (.slice a2 n2 c2) (.slice a3 n3 c3) (.int .i64 p.room) := by rw [hW0]; exact World.alloc_heap_new w _
  have haw := fawake_any W0
  have hfi : Hid (∀ W, w.grownBy W none → Calls Tryz.prog 10 #[.slice va ln vc] W (SomeB W)) := Lib.hid fun W g => fits_any _ L W (h.new g)
  have hma : Hid (∀ W, w.grownBy W none → Calls Tryz.prog 15 #[.agg #[.int .i64 p.crash, .slice a1 n1 c1, .slice a2 n2 c2, .slice a3 n3 c3, .int .i64 p.room], .slice va ln vc] W fun e w' => ∃ f q F R, e = .returned (.tuple #[.pointer (some ⟨f, 0, none⟩), .pointer (some ⟨q, 0, none⟩), .bool true]) ∧ Made W L p w' f q F R) := Lib.hid fun W g => made_any _ _ p L W (hp.new g) (h.new g)
  obtain ⟨rb, hrb⟩ : ∃ rb, rb = (L.foldl RefP.op (RefP.new p)).read nm i n := ⟨_, rfl⟩
  obtain ⟨sz, hsz⟩ : ∃ sz, sz = (L.foldl RefP.op (RefP.new p)).size nm := ⟨_, rfl⟩
  have hall : Hid (∀ W0 W f q F R, Made W0 L p W f q F R → ∀ W', W.grownBy W' none →
      (Calls Tryz.prog 16 #[.pointer (some ⟨f, 0, none⟩), .string nm, .int .i64 i, .int .i64 n] W' fun e w' => ∃ x l c, e = .returned (.tuple #[.slice x l c, .int .i64 rb.2]) ∧ Reads w' (.slice x l c) rb.1 ∧ W'.grownBy w' none) ∧
      (Calls Tryz.prog 17 #[.pointer (some ⟨q, 0, none⟩), .string nm, .int .i64 i, .int .i64 n] W' fun e w' => ∃ x l c, e = .returned (.tuple #[.slice x l c, .int .i64 rb.2]) ∧ Reads w' (.slice x l c) rb.1 ∧ W'.grownBy w' none) ∧
      (Calls Tryz.prog 18 #[.pointer (some ⟨f, 0, none⟩), .string nm] W' fun e w' => e = .returned (.tuple #[.int .i64 sz.1, .int .i64 sz.2]) ∧ W' = w') ∧
      (Calls Tryz.prog 19 #[.pointer (some ⟨q, 0, none⟩), .string nm] W' fun e w' => e = .returned (.tuple #[.int .i64 sz.1, .int .i64 sz.2]) ∧ W'.grownBy w' none)) := Lib.hid fun W0 W f q F R M W' g => by
    have M2 := M.new g
    obtain ⟨k1, k2, k3, k4, k5, k6, k7⟩ := M2.inv.asks hL
    obtain ⟨r, vs, hr⟩ := M2.both.rf
    rw [hrb, hsz]
    refine ⟨(M2.both.fs.read M2.inv nm hnm i n hi9 hn9).mono ?_, (rread_any nm i n hr k1 k2 k3 k6 hi9 hn9).mono ?_, M2.both.fs.size M2.inv nm hnm, rsize_any nm hr k1 k2 k3⟩
    · rintro e w' ⟨x, rfl, h1, h2⟩
      obtain ⟨xa, xc, rfl⟩ := h1.form
      exact ⟨xa, _, xc, rfl, h1, h2⟩
    · rintro e w' ⟨x, rfl, h1, h2⟩
      obtain ⟨xa, xc, rfl⟩ := h1.form
      exact ⟨xa, _, xc, rfl, h1, h2⟩
  obtain ⟨rbs, re⟩ := rb
  obtain ⟨s1, s2⟩ := sz
  dsimp only at hall
  have e1 : (re == re) = true := by simp
  have e2 : (s1 == s1) = true := by simp
  have e3 : (s2 == s2) = true := by simp
  have e4 : ((⟨rbs.toArray⟩ : ByteArray).toList == (⟨rbs.toArray⟩ : ByteArray).toList) = true := by simp
  replace hrb := Lib.hid hrb
  replace hsz := Lib.hid hsz
  replace hn1 := Lib.hid hn1
  replace hn2 := Lib.hid hn2
  replace hn3 := Lib.hid hn3
  replace hln := Lib.hid hln
  replace gB := Lib.hid gB
  clear h hp hi9 hn9 hL hnm
  go_enter Tryz.func4, Tryz.ntmps4
  go_upto_region 1 with fail
  rw [← hW0]
  replace hW0 := Lib.hid hW0
  go_upto_region 3 with
    (go_at_call 9
     refine haw.mono ?_
     clear haw
     rintro e w1 ⟨rfl, g1⟩
     have G1 := Lib.hid (gB.out.trans g1)
     have hf1 := hfi.out w1 G1.out
     have P1 := P0.kept g1 (by simp)
     clear g1 P0)
  go_wp2_with fail
  refine hf1.mono ?_
  clear hf1
  rintro e w2 ⟨b, rfl, g2⟩
  have G2 := Lib.hid (G1.out.trans g2)
  have hm2 := hma.out w2 G2.out
  have P2 := P1.kept g2 (by simp)
  have d0 := P2.c0
  have d1 := P2.c1
  have d2 := P2.c2
  have d3 := P2.c3
  have d4 := P2.c4
  clear g2 P1 P2
  cases b
  · go_wp2_with fail
    go_ret
    exact ⟨rfl, G2.out⟩
  · go_wp2_with first
      | (go_at_call 15
         refine hm2.mono ?_
         clear hm2
         rintro e w3 ⟨f, q, F, R, rfl, M⟩
         have ha := hall.out w2 w3 f q F R M
         have G3 := Lib.hid (G2.out.trans M.grown)
         have hr1 := (ha w3 (World.grownBy.refl _ _)).1
         replace ha := Lib.hid ha
         clear M)
      | (go_at_call 16
         refine hr1.mono ?_
         clear hr1
         rintro e w4 ⟨x4, l4, y4, rfl, b4, g4⟩
         have hr2 := (ha.out w4 g4).2.1
         have g4h := Lib.hid g4
         have b4h := Lib.hid b4
         clear g4 b4)
      | (go_at_call 17
         refine hr2.mono ?_
         clear hr2
         rintro e w5 ⟨x5, l5, y5, rfl, b5, g5⟩
         have hr3 := (ha.out w5 (g4h.out.trans g5)).2.2.1
         have hr4 := (ha.out w5 (g4h.out.trans g5)).2.2.2
         have g5h := Lib.hid g5
         have b5h := Lib.hid b5
         clear g5 b5)
      | (go_at_call 18
         refine hr3.mono ?_
         clear hr3
         rintro e w5' ⟨rfl, rfl⟩)
      | (go_at_call 19
         refine hr4.mono ?_
         clear hr4
         rintro e w6 ⟨rfl, g6⟩
         have cv4 := convB_of (b4h.out.more (g5h.out.trans g6))
         have cv5 := convB_of (b5h.out.more g6)
         have FF := Lib.hid (((G3.out.trans g4h.out).trans g5h.out).trans g6)
         clear g6)
    go_ret
    exact ⟨rfl, FF.out⟩
theorem FsReads_walk (w : World) (pv : Value) (p : Pl) (hp : PlanR w pv p) (v : Value) (L : List OpP) (h : OpsR w v L) (nm : ByteArray) (hnm : nm.size ≤ 140737488351232) (i : Int) (hi : (Lit.int .i64 i).wf = true) (n : Int) (hn : (Lit.int .i64 n).wf = true) :
    Calls Tryz.prog 4 #[pv, v, .string nm, .int .i64 i, .int .i64 n] w fun e w' => e = .returned (.bool true) ∧ Below w.heap.size w w' := by
  refine (FsReads_go w pv v p L hp h nm (by unfold maxLen; omega) i n (bounds_i64 hi).2 (bounds_i64 hn).2).mono ?_
  rintro e w' ⟨rfl, g⟩
  exact ⟨rfl, gbelow g (Nat.le_refl _) (by simp)⟩
end Go.Proofs.YtcehddlplkfflaaGreat
