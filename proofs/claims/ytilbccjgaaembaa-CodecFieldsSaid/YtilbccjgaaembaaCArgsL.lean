/-
  ARGUMENTS OF A LAW, OPENED: a slice of slices of bytes that came in.
-/
import Derived.Test.YtilbccjgaaembaaCArgs3
import Derived.Test.YtilbccjgaaembaaCAny
import Derived.Deep.Matrix
namespace Go.Proofs.Ytilbccjgaaembaa
set_option maxRecDepth 100000
open Go.ChangeShapes Go.WideShapes Go.ChangeAt Go.RowKit

/-- A row's numbers as bytes. -/
def rowBytes (L : Nat → Nat) (Z : Nat → List Int) (r : Nat) : List UInt8 := ((Z r).take (L r)).map fun z => z.toNat.toUInt8

theorem weights_all_mem {H : Type} {P : Program} {e : TypeId} {d : DataW H} {n : Nat} : ∀ {ds : List (DataW H)}, d ∈ ds → n ∈ d.weights P e → n ∈ DataW.weightsAll P e ds
  | [], h, _ => by cases h
  | x :: r, h, hn => by
    rw [DataW.weightsAll]
    rcases List.mem_cons.1 h with rfl | h
    · exact List.mem_append_left _ hn
    · exact List.mem_append_right _ (weights_all_mem h hn)

set_option maxHeartbeats 1000000 in
theorem readsL_arg {H : Type} {enc : TypeId × Value → H} {W : World} {base : Nat} {a : Option Addr} {l c : Nat} {d : DataW H} {ps : List MemPlace} {ts : List TypeId} {ds : List (DataW H)}
    (hok : Value.okWide Try.prog W .any base 47 (.slice a l c)) (h : DataW.Trod enc Try.prog W 0 (fun _ => true) true 47 (.slice a l c) d ps)
    (hsz : (DataW.weightsEach Try.prog ts ds).all (· ≤ reachBytes) = true) (j : Nat) (ht : ts[j]? = some 47) (hd : ds[j]? = some d) :
    ∃ L, ReadsLX W (.slice a l c) L ∧ ∀ f ∈ L, f.length ≤ 140737488351232 := by
  obtain ⟨fuel, hf⟩ := h
  rcases Deep.open_int_rows Try.underlying47 Try.underlying23 Try.underlying5 (by kernel_rfl) (by kernel_rfl) hf with ⟨hcs, _⟩ | ⟨x, l', c', A, Ln, C, Z, hcs, _, hl, hm, hx, hcell⟩
  · simp [Value.cells] at hcs
    obtain ⟨rfl, rfl, rfl⟩ := hcs
    exact ⟨[], ⟨[], rfl, .inl ⟨rfl, rfl⟩, fun i x f hx _ => by simp at hx⟩, fun f hf => by cases hf⟩
  · simp [Value.cells] at hcs
    obtain ⟨rfl, rfl, rfl⟩ := hcs
    simp only [Prod.mk.injEq] at hx
    obtain ⟨rfl, _⟩ := hx
    have hs : x.spot = none := by
      simp only [Value.okWide, Try.underlying47, Cell.okWide, Cell.ok, World.has] at hok
      exact hok.2.2.2.1
    obtain ⟨b, off, spot⟩ := x
    subst hs
    have e : ∀ i, (⟨b, off, none⟩ : Addr).add i = ⟨b, off + i, none⟩ := fun i => by unfold Addr.add; split <;> simp_all
    have hreach : ∀ r, r < l → A r ≠ none → C r ≤ reachBytes := by
      intro r hr hA
      obtain ⟨_, h2, _, h4, _⟩ := hcell r (by omega)
      obtain ⟨ad, had⟩ := Option.ne_none_iff_exists'.1 hA
      have hmem : ((C r) * 1) ∈ (Deep.intRow (H := H) IntKind.u8 (A r) (Ln r) (Z r)).weights Try.prog 23 := by
        rw [had]
        simp [Deep.intRow, DataW.weights, Try.underlying23, lits, bytesU8, h4]
        left
        omega
      have := List.all_eq_true.1 hsz _ (DataW.weights_mem_each ht hd (C r * 1) (by
        simp only [DataW.weights, Try.underlying47]
        refine List.mem_cons_of_mem _ (List.mem_append_left _ (weights_all_mem (List.mem_map.2 ⟨r, List.mem_range.2 hr, rfl⟩) hmem))))
      simpa using this
    have hlen : ∀ r, r < l → (rowBytes Ln Z r).length = Ln r := by
      intro r hr
      obtain ⟨_, h2, _, h4, _⟩ := hcell r (by omega)
      simp only [rowBytes, List.length_map, List.length_take]
      omega
    refine ⟨(List.range l).map (rowBytes Ln Z), ⟨(List.range l).map fun r => .slice (A r) (Ln r) (C r), by simp, ?_, ?_⟩, ?_⟩
    · refine .inr ⟨b, off, c, by simp, by simpa using hl, hm, fun i u hu => ?_⟩
      simp only [List.getElem?_map] at hu
      obtain ⟨q, hq, rfl⟩ := Option.map_eq_some_iff.1 hu
      obtain ⟨hi, rfl⟩ := List.getElem?_eq_some_iff.1 hq
      simp only [List.length_range] at hi
      simp only [List.getElem_range]
      rw [← e]
      exact (hcell i (by omega)).1
    · intro i y f hy hf
      simp only [List.getElem?_map] at hy hf
      obtain ⟨q, hq, rfl⟩ := Option.map_eq_some_iff.1 hy
      obtain ⟨hi, rfl⟩ := List.getElem?_eq_some_iff.1 hq
      rw [hq] at hf
      simp only [Option.map_some, Option.some.injEq] at hf
      subst hf
      simp only [List.length_range] at hi
      simp only [List.getElem_range]
      obtain ⟨h1, h2, h3, h4, h5, h6, h7⟩ := hcell i (by omega)
      have hln := hlen i hi
      cases hA : A i with
      | none =>
        have h0 := h6 hA
        left; left
        have hL0 : Ln i = 0 := by omega
        refine ⟨by rw [hL0, h0], ?_⟩
        exact List.length_eq_zero_iff.1 (by omega)
      | some ad =>
        by_cases h0 : C i = 0
        · right
          refine ⟨ad, by rw [h0, show Ln i = 0 by omega], ?_⟩
          exact List.length_eq_zero_iff.1 (by omega)
        · left; right
          have hz := (h7 ad hA).2
          have hsp := World.cell?_spot (hz 0 (by omega))
          obtain ⟨b2, o2, sp⟩ := ad
          simp only [Addr.add, if_pos] at hsp
          subst hsp
          refine ⟨b2, o2, C i, by rw [hln], by omega, h3, fun k u hu => ?_⟩
          have hk : k < Ln i := by have := (List.getElem?_eq_some_iff.1 hu).1; omega
          have hc := hz k (by omega)
          have e2 : (⟨b2, o2, none⟩ : Addr).add k = ⟨b2, o2 + k, none⟩ := by unfold Addr.add; split <;> simp_all
          rw [e2] at hc
          have hgz : (Z i)[k]? = some ((Z i).getD k 0) := by rw [List.getD_eq_getElem?_getD, List.getElem?_eq_getElem (by omega)]; rfl
          obtain ⟨z, hz0⟩ : ∃ z, (Z i).getD k 0 = z := ⟨_, rfl⟩
          rw [hz0] at hgz hc
          simp only [rowBytes, List.getElem?_map, List.getElem?_take, if_pos hk, hgz, Option.map_some, Option.some.injEq] at hu
          have hb := bounds_u8 (h5 z (List.mem_of_getElem? hgz))
          subst hu
          rw [hc]
          congr 2
          have : z.toNat < 256 := by omega
          simp [Nat.toUInt8, UInt8.toNat_ofNat']
          omega
    · intro f hf
      obtain ⟨r, hr, rfl⟩ := List.mem_map.1 hf
      have hr := List.mem_range.1 hr
      rw [hlen r hr]
      obtain ⟨_, h2, _, h4, _, h6, _⟩ := hcell r (by omega)
      by_cases hA : A r = none
      · have := h6 hA; omega
      · have := hreach r hr hA
        unfold reachBytes at this
        omega
end Go.Proofs.Ytilbccjgaaembaa
