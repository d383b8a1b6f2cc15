/-
  ARGUMENTS OF A LAW, OPENED: a slice of structs of two ints that came in.
-/
import Derived.Test.YtilbccjgaaembaaCArgs
import Derived.Deep.SlicePairs
namespace Go.Proofs.Ytilbccjgaaembaa
set_option maxRecDepth 100000
open Go.ChangeShapes Go.WideShapes Go.ChangeAt Go.RowKit

/-- A slice of structs of two ints reads as the pairs l. -/
def Pairs (w : World) (v : Value) (l : List (Int × Int)) : Prop :=
  (v = .slice none 0 0 ∧ l = []) ∨
  ∃ b off cap, v = .slice (some ⟨b, off, none⟩) l.length cap ∧ l.length ≤ cap ∧ cap ≤ maxLen ∧
    ∀ i x y, l[i]? = some (x, y) → w.cell? ⟨b, off + i * 2, none⟩ = some (.int .i64 x) ∧ w.cell? ⟨b, off + i * 2 + 1, none⟩ = some (.int .i64 y)

theorem Pairs.all {w w' : World} {v : Value} {l : List (Int × Int)} (h : Pairs w v l) (hb : Below w.heap.size w w') : Pairs w' v l := by
  rcases h with h | ⟨b, off, cap, rfl, h1, h2, hc⟩
  · exact .inl h
  · refine .inr ⟨b, off, cap, rfl, h1, h2, fun i x y hu => ?_⟩
    obtain ⟨c1, c2⟩ := hc i x y hu
    have l1 : b < w.heap.size := World.block_lt_of_cell? w _ c1
    exact ⟨(hb.cell (p := ⟨b, off + i * 2, none⟩) l1).trans c1, (hb.cell (p := ⟨b, off + i * 2 + 1, none⟩) l1).trans c2⟩
theorem Pairs.slice {w : World} {a : Option Addr} {l c : Nat} {L : List (Int × Int)} (h : Pairs w (.slice a l c) L) : l = L.length ∧ l ≤ c ∧ c ≤ maxLen := by
  rcases h with ⟨h, rfl⟩ | ⟨b, off, cap, h, h1, h2, _⟩
  · simp at h
    obtain ⟨rfl, rfl, rfl⟩ := h
    simp
  · simp at h
    obtain ⟨rfl, rfl, rfl⟩ := h
    exact ⟨rfl, h1, h2⟩
theorem Pairs.get {w : World} {a : Option Addr} {l c : Nat} {L : List (Int × Int)} (h : Pairs w (.slice a l c) L) {i : Nat} (hi : i < L.length) :
    ∃ b off, a = some ⟨b, off, none⟩ ∧ w.cell? ⟨b, off + i * 2, none⟩ = some (.int .i64 (L[i]).1) ∧ w.cell? ⟨b, off + i * 2 + 1, none⟩ = some (.int .i64 (L[i]).2) := by
  rcases h with ⟨_, rfl⟩ | ⟨b, off, cap, h, _, _, hc⟩
  · simp at hi
  · simp at h
    obtain ⟨rfl, _, _⟩ := h
    exact ⟨b, off, rfl, hc i _ _ (by rw [List.getElem?_eq_getElem hi])⟩

theorem pairs_arg {H : Type} {enc : TypeId × Value → H} {W : World} {base : Nat} {sp : Nat → Bool} {a : Option Addr} {l c : Nat} {d : DataW H} {ps : List MemPlace}
    (hok : Value.okWide Try.prog W .any base 66 (.slice a l c)) (h : DataW.Trod enc Try.prog W 0 sp true 66 (.slice a l c) d ps) : ∃ L, Pairs W (.slice a l c) L := by
  obtain ⟨fuel, hf⟩ := h
  rcases Deep.open_slice_pairs Try.underlying66 Try.underlying71 (by kernel_rfl) rfl rfl (by kernel_rfl) (by kernel_rfl) hf with ⟨hcs, _⟩ | ⟨x, l', c', m, n, V0, V1, D0, D1, P0, P1, hcs, _, hl, hm, hmm, _, hcell⟩
  · simp [Value.cells] at hcs
    obtain ⟨rfl, rfl, rfl⟩ := hcs
    exact ⟨[], .inl ⟨rfl, rfl⟩⟩
  · simp [Value.cells] at hcs
    obtain ⟨rfl, rfl, rfl⟩ := hcs
    have hs : x.spot = none := by
      simp only [Value.okWide, Try.underlying66, Cell.okWide, Cell.ok, World.has] at hok
      exact hok.2.2.2.1
    obtain ⟨b, off, spot⟩ := x
    subst hs
    have hlm : l ≤ m := by rw [hmm]; split <;> omega
    have e : ∀ i, (⟨b, off, none⟩ : Addr).add i = ⟨b, off + i, none⟩ := fun i => by unfold Addr.add; split <;> simp_all
    refine ⟨(List.range l).map fun i => (RowKit.intOf (V0 i), RowKit.intOf (V1 i)), .inr ⟨b, off, c, by simp, by simpa using hl, hm, fun i u y hu => ?_⟩⟩
    simp only [List.getElem?_map] at hu
    obtain ⟨j, hj, hj2⟩ := Option.map_eq_some_iff.1 hu
    obtain ⟨hi, rfl⟩ := List.getElem?_eq_some_iff.1 hj
    simp only [List.length_range] at hi
    simp only [List.getElem_range, Prod.mk.injEq] at hj2
    obtain ⟨rfl, rfl⟩ := hj2
    obtain ⟨h1, h2, h3, h4⟩ := hcell i (by omega)
    obtain ⟨x1, e1, _, _⟩ := DataW.trod_int Try.underlying3 h3
    obtain ⟨x2, e2, _, _⟩ := DataW.trod_int Try.underlying3 h4
    simp only [List.cons.injEq, and_true] at e1 e2
    rw [e] at h1 h2
    rw [← Nat.add_assoc] at h2
    rw [h1, h2, e1, e2]
    exact ⟨rfl, rfl⟩
end Go.Proofs.Ytilbccjgaaembaa
