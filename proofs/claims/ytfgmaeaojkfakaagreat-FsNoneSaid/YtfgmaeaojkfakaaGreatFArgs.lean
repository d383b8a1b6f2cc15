/-
  ARGUMENTS OF A LAW, OPENED: a plan, an operation (their form alone).
-/
import Derived.Test.YtfgmaeaojkfakaaGreatRows
import Derived.OpenShut
import Derived.Deep.SlicePairs
namespace Go.Proofs.YtfgmaeaojkfakaaGreat
set_option maxRecDepth 100000
open Go.ChangeShapes Go.WideShapes Go.RowKit

theorem slice_form {H : Type} {enc : TypeId × Value → H} {P : Program} {W : World} {base : Nat} {sp : Nat → Bool} {held : Bool} {fuel : Nat} {t e : TypeId} {v : Value} {x : DataW H × List MemPlace} (ht : P.underlying t = some (.slice e)) (h : DataW.trod enc P W base sp held fuel t [v] = some x) : ∃ a n c, v = .slice a n c := by
  rcases DataW.trod_slice ht h with ⟨e, _⟩ | ⟨a, n, c, _, _, _, _, e, _⟩
  · simp at e
    exact ⟨_, _, _, e⟩
  · simp at e
    exact ⟨_, _, _, e⟩

theorem plan_cells {H : Type} {enc : TypeId × Value → H} {W : World} {base : Nat} {sp : Nat → Bool} {held : Bool} {fuel : Nat} {v0 v1 v2 v3 v4 : Value} {x : DataW H × List MemPlace} (h : DataW.trod enc Tryz.prog W base sp held fuel 24 [v0, v1, v2, v3, v4] = some x) :
    ∃ c r a1 n1 c1 a2 n2 c2 a3 n3 c3, v0 = .int .i64 c ∧ v1 = .slice a1 n1 c1 ∧ v2 = .slice a2 n2 c2 ∧ v3 = .slice a3 n3 c3 ∧ v4 = .int .i64 r := by
  obtain ⟨xs, m, _, _, _, hxl, hx⟩ := DataW.trod_struct Tryz.underlying24 h
  have hci : Tryz.prog.cellsOf 3 = 1 := by kernel_rfl
  have hcs : Tryz.prog.cellsOf 22 = 1 := by kernel_rfl
  match xs, hxl with
  | [y0, y1, y2, y3, y4], _ =>
    have g0 := hx 0 _ rfl
    have g1 := hx 1 _ rfl
    have g2 := hx 2 _ rfl
    have g3 := hx 3 _ rfl
    have g4 := hx 4 _ rfl
    simp [hci, hcs] at g0 g1 g2 g3 g4
    obtain ⟨n0, e0, _, _⟩ := DataW.trod_int Tryz.underlying3 g0
    obtain ⟨n4, e4, _, _⟩ := DataW.trod_int Tryz.underlying3 g4
    obtain ⟨a1, n1, c1, e1⟩ := slice_form Tryz.underlying22 g1
    obtain ⟨a2, n2, c2, e2⟩ := slice_form Tryz.underlying22 g2
    obtain ⟨a3, n3, c3, e3⟩ := slice_form Tryz.underlying22 g3
    simp at e0 e4
    exact ⟨n0, n4, a1, n1, c1, a2, n2, c2, a3, n3, c3, e0, e1, e2, e3, e4⟩

theorem plan_arg {H : Type} {enc : TypeId × Value → H} {W : World} {base : Nat} {sp : Nat → Bool} {v : Value} {d : DataW H} {ps : List MemPlace}
    (hok : Value.okWide Tryz.prog W .any base 24 v) (h : DataW.Trod enc Tryz.prog W 0 sp true 24 v d ps) : ∃ c r a1 n1 c1 a2 n2 c2 a3 n3 c3, v = .agg #[.int .i64 c, .slice a1 n1 c1, .slice a2 n2 c2, .slice a3 n3 c3, .int .i64 r] := by
  simp only [Value.okWide, Tryz.underlying24] at hok
  obtain ⟨cs, rfl, hcs, _⟩ := hok
  obtain ⟨fuel, hf⟩ := h
  have hc : Tryz.prog.cellsOf 24 = 5 := by kernel_rfl
  rw [hc] at hcs
  obtain ⟨l⟩ := cs
  match l, hcs with
  | [v0, v1, v2, v3, v4], _ =>
    obtain ⟨c, r, a1, n1, c1, a2, n2, c2, a3, n3, c3, rfl, rfl, rfl, rfl, rfl⟩ := plan_cells (show DataW.trod enc Tryz.prog W 0 sp true fuel 24 [v0, v1, v2, v3, v4] = some _ from hf)
    exact ⟨c, r, a1, n1, c1, a2, n2, c2, a3, n3, c3, rfl⟩

theorem op_arg {H : Type} {enc : TypeId × Value → H} {W : World} {base : Nat} {sp : Nat → Bool} {v : Value} {d : DataW H} {ps : List MemPlace}
    (hok : Value.okWide Tryz.prog W .any base 34 v) (h : DataW.Trod enc Tryz.prog W 0 sp true 34 v d ps) :
    ∃ k nm to da dn dc n c r a1 n1 c1 a2 n2 c2 a3 n3 c3, v = .agg #[.int .i64 k, .string nm, .string to, .slice da dn dc, .int .i64 n, .int .i64 c, .slice a1 n1 c1, .slice a2 n2 c2, .slice a3 n3 c3, .int .i64 r] := by
  simp only [Value.okWide, Tryz.underlying34] at hok
  obtain ⟨cs, rfl, hcs, _⟩ := hok
  obtain ⟨fuel, hf⟩ := h
  have hc : Tryz.prog.cellsOf 34 = 10 := by kernel_rfl
  have hci : Tryz.prog.cellsOf 3 = 1 := by kernel_rfl
  have hcs1 : Tryz.prog.cellsOf 9 = 1 := by kernel_rfl
  have hcb : Tryz.prog.cellsOf 32 = 1 := by kernel_rfl
  have hcp : Tryz.prog.cellsOf 24 = 5 := by kernel_rfl
  rw [hc] at hcs
  obtain ⟨l⟩ := cs
  match l, hcs with
  | [v0, v1, v2, v3, v4, v5, v6, v7, v8, v9], _ =>
    obtain ⟨xs, m, _, _, _, hxl, hx⟩ := DataW.trod_struct Tryz.underlying34 (show DataW.trod enc Tryz.prog W 0 sp true fuel 34 [v0, v1, v2, v3, v4, v5, v6, v7, v8, v9] = some _ from hf)
    match xs, hxl with
    | [y0, y1, y2, y3, y4, y5], _ =>
      have g0 := hx 0 _ rfl
      have g1 := hx 1 _ rfl
      have g2 := hx 2 _ rfl
      have g3 := hx 3 _ rfl
      have g4 := hx 4 _ rfl
      have g5 := hx 5 _ rfl
      simp [hci, hcs1, hcb, hcp] at g0 g1 g2 g3 g4 g5
      obtain ⟨n0, e0, _, _⟩ := DataW.trod_int Tryz.underlying3 g0
      obtain ⟨n4, e4, _, _⟩ := DataW.trod_int Tryz.underlying3 g4
      obtain ⟨s1, e1, _, _⟩ := DataW.trod_string Tryz.underlying9 g1
      obtain ⟨s2, e2, _, _⟩ := DataW.trod_string Tryz.underlying9 g2
      obtain ⟨da, dn, dc, e3⟩ := slice_form Tryz.underlying32 g3
      obtain ⟨c, r, a1, n1, c1, a2, n2, c2, a3, n3, c3, rfl, rfl, rfl, rfl, rfl⟩ := plan_cells g5
      simp at e0 e1 e2 e4
      subst e0 e1 e2 e3 e4
      exact ⟨n0, s1, s2, da, dn, dc, n4, c, r, a1, n1, c1, a2, n2, c2, a3, n3, c3, rfl⟩
end Go.Proofs.YtfgmaeaojkfakaaGreat
