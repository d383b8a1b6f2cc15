/-
  ARGUMENTS OF A LAW, OPENED: a slice of runes that came in reads as runes.
-/
import Derived.Test.YtmpipgjdnpgemaaUDecode
import Derived.Test.YtmpipgjdnpgemaaUOrder
import Derived.ProofKit
import Derived.OpenShut
namespace Go.Proofs.Ytmpipgjdnpgemaa
set_option maxRecDepth 100000
open Go.ChangeShapes Go.WideShapes Go.ChangeAt Go.RowKit

theorem runes_arg {H : Type} {enc : TypeId × Value → H} {W : World} {base : Nat} {sp : Nat → Bool} {a : Option Addr} {l c : Nat} {d : DataW H} {ps : List MemPlace}
    (hok : Value.okWide Try.prog W .any base 28 (.slice a l c)) (h : DataW.Trod enc Try.prog W 0 sp true 28 (.slice a l c) d ps) : ∃ bs, Runes W (.slice a l c) bs := by
  obtain ⟨fuel, hf⟩ := h
  rcases open_ints Try.underlying28 Try.underlying21 (by kernel_rfl) hf with ⟨hcs, _⟩ | ⟨x, l', c', zs, hcs, _, hl, hm, hz, _, hcell, hwz⟩
  · simp [Value.cells] at hcs
    obtain ⟨rfl, rfl, rfl⟩ := hcs
    exact ⟨[], .inl ⟨rfl, rfl⟩⟩
  · simp [Value.cells] at hcs
    obtain ⟨rfl, rfl, rfl⟩ := hcs
    have hs : x.spot = none := by
      simp only [Value.okWide, Try.underlying28, Cell.okWide, Cell.ok, World.has] at hok
      exact hok.2.2.2.1
    obtain ⟨b, off, spot⟩ := x
    subst hs
    have hzl : l ≤ zs.length := by rw [hz]; split <;> omega
    have hlen : (runeCells (zs.take l)).length = l := by simp [runeCells]; omega
    refine ⟨zs.take l, .inr ⟨b, off, c, ?_, by omega, hm, fun i u hu => ?_⟩⟩
    · rw [hlen]
    · have hi : i < l := by have := (List.getElem?_eq_some_iff.1 hu).1; omega
      have hc := hcell i (by omega)
      have e : (⟨b, off, none⟩ : Addr).add i = ⟨b, off + i, none⟩ := by unfold Addr.add; split <;> simp_all
      rw [e] at hc
      have hgz : zs[i]? = some (zs.getD i 0) := by rw [List.getD_eq_getElem?_getD, List.getElem?_eq_getElem (by omega)]; rfl
      simp only [runeCells, List.getElem?_map, List.getElem?_take, if_pos hi, hgz, Option.map_some, Option.some.injEq] at hu
      subst hu
      exact hc
end Go.Proofs.Ytmpipgjdnpgemaa
