/-
  LAYER 6 (norm): Parts of a list, the library's and the reference's.
-/
import Derived.Test.YtpdacbiiaglodaaGreatQG23
import Derived.Test.YtpdacbiiaglodaaGreatQG40
import Derived.Test.YtpdacbiiaglodaaGreatQG32
import Derived.Test.YtpdacbiiaglodaaGreatQG39
import Derived.Test.YtpdacbiiaglodaaGreatQG35
namespace Go.Proofs.YtpdacbiiaglodaaGreat
set_option maxRecDepth 100000
open Go.RowKit Go.Lib

/-- The normal form of a list whose numbers may be none. -/
def dOf (cf : Int → Int) (df : Int → List Int) (l : List Int) : List Int := if allSc l = true then nf cf df l else []
theorem PR.get {B : Nat} {w : World} {v : Value} {ps : List (List Int)} (h : PR B w v ps) {i : Nat} {s : List Int} (hs : ps[i]? = some s) : ∃ g c u, v = .slice (some ⟨g, 0, none⟩) ps.length c ∧ w.cell? ⟨g, i, none⟩ = some u ∧ OwnN w B u s := by
  obtain ⟨vs, h1, h2, h3, _⟩ := h
  have hi := (List.getElem?_eq_some_iff.1 hs).1
  obtain ⟨u, hu⟩ : ∃ u, vs[i]? = some u := ⟨_, List.getElem?_eq_getElem (by omega)⟩
  obtain ⟨_, ⟨_, h⟩ | ⟨g, cap, cur, rfl, _⟩⟩ := id h2
  · omega
  · exact ⟨g, cap, u, by rw [h1], by rw [h2.cellAt i (by omega)]; exact hu, h3 i u s hu hs⟩

set_option maxHeartbeats 4000000 in
theorem rParts_bad (vc vd v : Value) (c : List Cls) (d : List Dec) (l : List Int) (w : World) (hT : Dat w vc vd c d) (hR : RS w v l) (hsc : allSc l = false) (hl : l.length ≤ 4096) :
    Calls Tryz.prog 28 #[.agg #[vc, vd], v] w fun e w' => e = .returned (.slice none 0 0) ∧ w.grownBy w' none := by
  have hN := fun W (hg : w.grownBy W none) => rNFD_bad vc vd v c d l W (hT.all hg) (hR.new hg) (by omega) hsc
  obtain ⟨a1, c1, rfl, _, _⟩ := hT.1.form
  obtain ⟨a2, c2, rfl, _, _⟩ := hT.2.form
  obtain ⟨a0, c0, rfl, _⟩ := id hR
  generalize c.length = cl at *
  generalize d.length = dl at *
  generalize l.length = n0 at *
  obtain ⟨W, hW, hga, hX⟩ := boxed_data w (.slice a1 cl c1) (.slice a2 dl c2)
  have hN1 := hN W hga
  obtain ⟨k0, k1⟩ := hX W (World.grownBy.refl W none)
  replace hW := Lib.hid hW
  clear hT hR hN hX
  go_enter Tryz.func28, Tryz.ntmps28
  go_wp2_with fail
  rw [← hW.out]
  go_at_call 37
  refine hN1.mono ?_
  rintro e w2 ⟨rfl, hg2⟩
  go_wp2
  go_ret
  exact ⟨rfl, hga.trans hg2⟩
theorem rParts_any (vc vd v : Value) (c : List Cls) (d : List Dec) (l : List Int) (w : World) (hT : Dat w vc vd c d) (hgd : good c d = true) (hR : RS w v l) (hl : l.length ≤ 4096) :
    Calls Tryz.prog 28 #[.agg #[vc, vd], v] w fun e w' => ∃ v' B, e = .returned v' ∧ PR B w' v' (pcs (clsOf c) (dOf (clsOf c) (told' d) l)) ∧ w.heap.size ≤ B ∧ w.grownBy w' none := by
  unfold dOf
  cases hs : allSc l with
  | true =>
    rw [if_pos rfl]
    refine (rParts_ok vc vd v c d l w hT hgd hR (by rw [allSc, List.all_eq_true] at hs; exact hs) hl).mono ?_
    rintro e w' ⟨v', B, rfl, h1, h3, h2⟩
    exact ⟨v', B, rfl, h1, h3, h2⟩
  | false =>
    rw [if_neg (by simp)]
    refine (rParts_bad vc vd v c d l w hT hR hs hl).mono ?_
    rintro e w' ⟨rfl, h⟩
    exact ⟨_, w.heap.size, rfl, PR.nil _ _, Nat.le_refl _, h⟩

theorem PW.new {p : Value} {cf : Int → Int} {df : Int → List Int} {F : Nat → Prop} {bl bn b : Nat} {lv : Value} {d : List Int} {xs ys : List (List Int × Option Addr)} {w w' : World} (h : PW p cf df F bl bn b lv d xs w) (g : w.grownBy w' none) : PW p cf df F bl bn b lv d ys w' :=
  ⟨h.1.kept g (by simp), h.2.1.kept g (by simp), h.2.2.1.new g, fun i u hu => g.cell (h.2.2.2 i u hu) (by simp)⟩

set_option maxHeartbeats 4000000 in
theorem nparts_any (p v : Value) (cf : Int → Int) (df : Int → List Int) (F : Nat → Prop) (l : List Int) (w : World) (hN : ND p cf df F w) (hR : RS w v l) (hl : l.length ≤ 4096) (hv : l ≠ [] → ∀ k, v.ownBlock = some k → p ≠ .pointer (some ⟨k, 0, none⟩)) (hd7 : ∀ r, (df r).length ≤ 7) :
    Calls Tryz.prog 29 #[p, v] w fun e w' => ∃ bn bl a b F', e = .returned (.func (.func 64) #[] #[.pointer (some ⟨bn, 0, none⟩), .pointer (some ⟨bl, 0, none⟩)]) ∧ PW p cf df F' bl bn b (.slice a (dOf cf df l).length (dOf cf df l).length) (dOf cf df l) [] w' ∧ (dOf cf df l ≠ [] → a = some ⟨b, 0, none⟩) ∧ (dOf cf df l).length ≤ 28672 ∧ GX (fun k => p = .pointer (some ⟨k, 0, none⟩)) w w' := by
  have hga : w.grownBy (w.alloc (.cells #[p] 31)) none := World.grownBy_alloc _ _ none
  have hbn : Boxed (w.alloc (.cells #[p] 31)) w.heap.size 31 p := Boxed.new _ _ _
  have hpl := nd_plt hN
  have hfl := flatMap_len hd7 l
  have hmf : ∀ (fn : Fn) (first cap : Array Value) (w : World), (Instr.makeFunc fn first cap).run Tryz.prog w = .ok (.func fn first cap) w := fun _ _ _ _ => rfl
  unfold dOf
  cases hs : allSc l with
  | true =>
    rw [if_pos rfl]
    have hF := nfd_any p v cf df F l _ (hN.new hga) (hR.new hga) hs hl hv (by omega)
    have hnl : (nf cf df l).length = (l.flatMap df).length := ord_length cf _
    rw [show ord cf (l.flatMap df) = nf cf df l from rfl, ← hnl] at hF
    have hbd : (nf cf df l).length ≤ 28672 := by omega
    obtain ⟨pq, rfl⟩ := hN.form
    obtain ⟨av, cv, rfl, _⟩ := id hR
    generalize nf cf df l = D at *
    generalize l.length = n0 at *
    clear hN hR hv hs hfl hnl
    have hbc := hbn.cell
    go_enter Tryz.func29, Tryz.ntmps29
    go_wp2_with fail
    go_at_call 38
    refine hF.mono ?_
    rintro e w3 ⟨a3, n3, rfl, rfl, hr3, F', hN3, _, _, hx3⟩
    have hbn3 : Boxed w3 w.heap.size 31 (.pointer pq) := (hx3.block _ (by simp) (fun e => by have := hpl _ e; omega)).trans hbn
    have hr3' := hr3
    obtain ⟨a', c', e', _, _, _, hh⟩ := hr3
    simp only [Value.slice.injEq] at e'
    obtain ⟨rfl, _, rfl⟩ := e'
    replace hh := Lib.hid hh
    replace hx3 := Lib.hid hx3
    replace hN3 := Lib.hid hN3
    clear hF hbc
    go_wp2_with fail
    go_ret
    have g4 := World.grownBy_alloc w3 (.cells #[.slice a3 D.length D.length] 50) none
    have hbl := Boxed.new w3 50 (.slice a3 D.length D.length)
    have hgx : GX (fun k => (.pointer pq : Value) = .pointer (some ⟨k, 0, none⟩)) w (w3.alloc (.cells #[.slice a3 D.length D.length] 50)) := ((GX.of hga (by simp)).trans hx3.out (fun k e => .inl e)).step g4 (by simp)
    by_cases hD : D = []
    · subst hD
      exact ⟨_, _, a3, 0, F', rfl, ⟨hbl, hbn3.kept g4 (by simp), hN3.out.new g4, fun i u hu => by simp at hu⟩, fun h => absurd rfl h, hbd, hgx⟩
    · obtain ⟨b, hb, _, _, hR3⟩ := hh.out hD
      exact ⟨_, _, a3, b, F', rfl, ⟨hbl, hbn3.kept g4 (by simp), hN3.out.new g4, fun i u hu => by have := (hR3 i u hu).1; rw [Nat.zero_add] at this; exact g4.cell this (by simp)⟩, fun _ => hb, hbd, hgx⟩
  | false =>
    rw [if_neg (by simp)]
    have hF := nfd_bad p v l _ (hR.new hga) hs (by omega)
    obtain ⟨pq, rfl⟩ := hN.form
    obtain ⟨av, cv, rfl, _⟩ := id hR
    generalize l.length = n0 at *
    have hN1 := hN.new hga
    clear hR hv hs hN
    have hbc := hbn.cell
    go_enter Tryz.func29, Tryz.ntmps29
    go_wp2_with fail
    go_at_call 38
    refine hF.mono ?_
    rintro e w3 ⟨rfl, rfl⟩
    have g4 := World.grownBy_alloc (w.alloc (.cells #[.pointer pq] 31)) (.cells #[.slice none 0 0] 50) none
    have hbl := Boxed.new (w.alloc (.cells #[.pointer pq] 31)) 50 (.slice none 0 0)
    rw [World.size_alloc] at hbl
    go_wp2_with fail
    go_ret
    exact ⟨_, _, none, 0, F, rfl, ⟨hbl, hbn.kept g4 (by simp), hN1.new g4, fun i u hu => by simp at hu⟩, fun h => absurd rfl h, by simp, (GX.of (hga.trans g4) (by simp))⟩
end Go.Proofs.YtpdacbiiaglodaaGreat
