/-
  LAYER 3 (crc): Each of a made table: the iterator that it gives, and what that holds on to.
-/
import Derived.Test.YtilbccjgaaembaaREach2
import Derived.Test.YtilbccjgaaembaaRUnf
namespace Go.Proofs.Ytilbccjgaaembaa
set_option maxRecDepth 100000
open Go.RowKit Go.Lib

set_option maxHeartbeats 4000000 in
theorem Each_any (t : Nat) (dn : Bool) (a : Option Addr) (l c : Nat) (bs : List UInt8) (w : World) (hT : Tbl w t dn) (hr : Reads w (.slice a l c) bs) (ho : Off t (.slice a l c) bs) (hlim : bs.length ≤ 140737488355328) (hpos : 0 < bs.length) :
    Calls Try.prog 64 #[.pointer (some ⟨t, 0, none⟩), .slice a l c] w fun e w' => ∃ (q : Nat) (a' : Option Addr) (c' : Nat), e = .returned (.func (.func 97) #[] #[.pointer (some ⟨w.heap.size, 0, none⟩), .pointer (some ⟨q, 0, none⟩)]) ∧ EachSt w.heap.size q t (.slice a' bs.length c') bs w' ∧ w.heap.size ≤ q ∧ q < w'.heap.size ∧ Owns w' w.heap.size 5 (.slice a' bs.length c') bs ∧ w.grownBy w' (some t) := by
  obtain ⟨rfl, hc, hm⟩ := hr.slice
  obtain ⟨W0, hW0⟩ : ∃ W0, W0 = (w.alloc (.cells #[.pointer (some ⟨t, 0, none⟩)] 78)).alloc (.cells #[.slice a bs.length c] 23) := ⟨_, rfl⟩
  have hga : w.grownBy W0 none := by rw [hW0]; exact galloc (World.grownBy_alloc w _ none) _
  have hBp : Boxed W0 w.heap.size 78 (.pointer (some ⟨t, 0, none⟩)) := by rw [hW0]; exact (Boxed.new w _ _).alloc _
  have hBq : Boxed W0 (w.heap.size + 1) 23 (.slice a bs.length c) := by
    rw [hW0]
    have := Boxed.new (w.alloc (.cells #[.pointer (some ⟨t, 0, none⟩)] 78)) 23 (.slice a bs.length c)
    rwa [World.size_alloc] at this
  have hB := begin_any t dn a bs.length c W0 (hT.new hga)
  rw [decide_eq_true hpos, Bool.or_true] at hB
  have htl := hT.lt
  have n1 : some w.heap.size ≠ some t := fun e => by cases e; omega
  have n2 : some (w.heap.size + 1) ≠ some t := fun e => by cases e; omega
  have hr0 := hr.new hga
  have c1 := hBp.cell
  have c2 := hBq.cell
  go_enter Try.func64, Try.ntmps64
  go_wp2_with fail
  rw [← hW0]
  clear hW0
  refine hB.mono ?_
  rintro e w1 ⟨rfl, hg1, hT1⟩
  have hp1 := hBp.kept hg1 n1
  have hq1 := hBq.kept hg1 n2
  have c3 := hq1.cell
  have hcp := crcCopied a bs.length c bs w1 (hr0.off ho hg1) hlim
  clear c1 c2
  go_wp2_with fail
  refine hcp.mono ?_
  rintro e w2 ⟨v2, rfl, ho2, hg2⟩
  have hp2 := hp1.kept hg2 (by simp)
  have hq2 := hq1.kept hg2 (by simp)
  have c4 := hq2.cell
  have c5 := hq2.frozen
  obtain ⟨a2, cc, rfl⟩ := ho2.reads.form
  clear c3
  go_wp2
  go_ret
  have hgs := grownBy_setCell' w2 (w.heap.size + 1) (.slice a2 bs.length cc)
  have hw1 : w.heap.size + 2 ≤ w1.heap.size := by have := hq1.lt; omega
  have ho3 := ho2.kept hgs (by
    rcases h : (Value.slice a2 bs.length cc).ownBlock with _ | k
    · exact .inl rfl
    · right
      have := ho2.lt k h
      intro e
      cases e
      omega)
  refine ⟨w.heap.size + 1, a2, cc, rfl, ⟨hp2.other (by omega) _, hq2.set _, ho3.reads, (hT1.new hg2).heap (hgs.block t (Nat.lt_of_lt_of_le htl (by have := hg2.size; omega)) (fun e => by cases e; omega))⟩, by omega, (hq2.set (.slice a2 bs.length cc)).lt, ho3.mono (by omega), ?_⟩
  exact gnew (gnew (gnew (gbut hga (some t)) hg1 (fun r e => .inr e)) hg2 (by simp)) hgs (fun r e => by cases e; left; omega)
end Go.Proofs.Ytilbccjgaaembaa
