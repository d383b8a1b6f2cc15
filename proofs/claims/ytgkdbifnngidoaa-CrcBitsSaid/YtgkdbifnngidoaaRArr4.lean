/-
  ARGUMENTS OF A LAW, OPENED: an array of four bytes.
-/
import Derived.Test.YtgkdbifnngidoaaCArgs
namespace Go.Proofs.Ytgkdbifnngidoaa
set_option maxRecDepth 100000
open Go.ChangeShapes Go.WideShapes Go.ChangeAt Go.RowKit

theorem arr4_arg {H : Type} {enc : TypeId × Value → H} {W : World} {base : Nat} {sp : Nat → Bool} {v : Value} {d : DataW H} {ps : List MemPlace}
    (hok : Value.okWide Try.prog W .any base 90 v) (h : DataW.Trod enc Try.prog W 0 sp true 90 v d ps) :
    ∃ y0 y1 y2 y3 : UInt8, v = .agg #[.int .u8 (y0.toNat : Int), .int .u8 (y1.toNat : Int), .int .u8 (y2.toNat : Int), .int .u8 (y3.toNat : Int)] := by
  simp only [Value.okWide, Try.underlying90] at hok
  obtain ⟨cs, rfl, hcs, _⟩ := hok
  obtain ⟨fuel, hf⟩ := h
  obtain ⟨xs, m, _, _, hlen, hxl, hx⟩ := DataW.trod_array Try.underlying90 hf
  have hc4 : Try.prog.cellsOf 90 = 4 := by kernel_rfl
  have hc1 : Try.prog.cellsOf 5 = 1 := by kernel_rfl
  rw [hc4] at hcs
  rw [hc1] at hx
  obtain ⟨l⟩ := cs
  match l, hcs with
  | [v0, v1, v2, v3], _ =>
    have g : ∀ i v, i < 4 → ([v0, v1, v2, v3] : List Value)[i]? = some v → ∃ u : UInt8, v = .int .u8 (u.toNat : Int) := by
      intro i v hi hv
      have hi' : i < xs.length := by omega
      have h1 := hx i hi
      rw [List.getElem?_eq_getElem hi'] at h1
      have h2 : ((Value.agg ⟨[v0, v1, v2, v3]⟩).cells.toList.drop (i * 1)).take 1 = [v] := by
        match i, hi, hv with
        | 0, _, hv => simp at hv; subst hv; rfl
        | 1, _, hv => simp at hv; subst hv; rfl
        | 2, _, hv => simp at hv; subst hv; rfl
        | 3, _, hv => simp at hv; subst hv; rfl
      rw [h2] at h1
      obtain ⟨n, e, _, hw⟩ := DataW.trod_int Try.underlying5 h1
      simp only [List.cons.injEq, and_true] at e
      have hb := bounds_u8 hw
      refine ⟨n.toNat.toUInt8, ?_⟩
      rw [e]
      congr 1
      have : n.toNat < 256 := by omega
      simp [Nat.toUInt8, UInt8.toNat_ofNat']
      omega
    obtain ⟨y0, rfl⟩ := g 0 v0 (by omega) rfl
    obtain ⟨y1, rfl⟩ := g 1 v1 (by omega) rfl
    obtain ⟨y2, rfl⟩ := g 2 v2 (by omega) rfl
    obtain ⟨y3, rfl⟩ := g 3 v3 (by omega) rfl
    exact ⟨y0, y1, y2, y3, rfl⟩
end Go.Proofs.Ytgkdbifnngidoaa
