/-
  LAYER 3 (crc): CrcSums: sums, and sums gone on with, are CRC-32C, of any bytes; masks come back.
-/
import Derived.Test.YtilbccjgaaembaaRFrame
import Derived.Test.YtilbccjgaaembaaCStr
import Derived.ProofKit
import Derived.OpenShut
namespace Go.Proofs.Ytilbccjgaaembaa
set_option maxRecDepth 100000
open Go.RowKit Go.Lib

theorem Reads.offNew {w : World} {t : Nat} {v : Value} {bs : List UInt8} (h : Reads w v bs) (ht : w.heap.size ≤ t) : Off t v bs := by
  by_cases e : bs = []
  · exact .inl e
  · exact .inr fun h' => by have := h.lt e t h'; omega
theorem Owns.off {w : World} {B t : Nat} {e : TypeId} {v : Value} {bs : List UInt8} (h : Owns w B e v bs) (ht : t < B) : Off t v bs :=
  .inr fun e => by have := (h.lt t e).1; omega
set_option maxHeartbeats 4000000 in
theorem sums_law (a : Option Addr) (l c : Nat) (xs : List UInt8) (a2 : Option Addr) (l2 c2 : Nat) (bs : List UInt8) (n : Nat) (w : World) (hn : n < 4294967296) (hra : Reads w (.slice a l c) xs) (hrb : Reads w (.slice a2 l2 c2) bs) (hl : xs.length + bs.length ≤ 5000) :
    Calls Try.prog 9 #[.slice a l c, .slice a2 l2 c2, .int .u32 (n : Int)] w fun e w' => e = .returned (.bool true) ∧ Below w.heap.size w w' := by
  obtain ⟨rfl, hc, hm⟩ := hra.slice
  obtain ⟨rfl, hc2, hm2⟩ := hrb.slice
  obtain ⟨i0, hi, hz0, hz1, hz2⟩ := info_parts infoU8
  obtain ⟨G, hG⟩ : ∃ G, G = xs ++ bs := ⟨_, rfl⟩
  replace hG := Lib.hid hG
  have hadd : ((xs.length : Int) + (bs.length : Int)) ≤ 5000 := by omega
  have cS := fun t b wx (h : w.heap.size ≤ t) (hT : Tbl wx t b) (hb : Below w.heap.size w wx) => Sum_any t b a xs.length c xs wx hT (hra.all hb) (hra.offNew h)
  have dS := fun wx (hb : Below w.heap.size w wx) => refSum_any a xs.length c xs wx (hra.all hb)
  have cE := fun t b wx (h : w.heap.size ≤ t) (hT : Tbl wx t b) (hb : Below w.heap.size w wx) => Extend_any t b n a2 bs.length c2 bs wx hT hn (hrb.all hb) (hrb.offNew h)
  have dE := fun wx (hb : Below w.heap.size w wx) => refExtend_any n a2 bs.length c2 bs wx hn (hrb.all hb)
  have cF := fun t b wx (h : w.heap.size ≤ t) (hT : Tbl wx t b) (hb : Below w.heap.size w wx) => Extend_any t b (sum xs) a2 bs.length c2 bs wx hT (ext_lt _ _) (hrb.all hb) (hrb.offNew h)
  have cW := fun t b wx v B (ho : Owns wx B 5 v (xs ++ bs)) (h : t < B) (hT : Tbl wx t b) a' l' c' (e : v = .slice a' l' c') => Sum_any t b a' l' c' (xs ++ bs) wx hT (e ▸ ho.reads) (e ▸ ho.off h)
  rw [show sum (xs ++ bs) = ext (sum xs) bs from (ext_ext 0 xs bs).symm, ← hG.out] at cW
  have cM := Mask_any n hn
  have dM := refMask_any n hn
  have cU := fun wx => Unmask_any (mask n) (mask_lt n) wx
  rw [unmask_mask hn] at cU
  have cV := Unmask_any n hn
  have cN := fun wx => Mask_any (unmask n) (unmask_lt n) wx
  rw [mask_unmask hn] at cN
  generalize ext (sum xs) bs = e2 at cF cW
  generalize sum xs = e1 at cS dS cF
  generalize ext n bs = e3 at cE dE
  generalize mask n = m1 at cM dM cU
  generalize unmask n = m2 at cV cN
  go_enter Try.func9, Try.ntmps9
  go_wp2_with (first
    | (go_at_call 50; refine (crcAwake _).mono ?_; rintro e w1 ⟨rfl, hg1⟩)
    | (go_at_call 51; refine (crcNew_any w1).mono ?_; rintro e w2 ⟨t, rfl, ht, hT2, hg2⟩; have hb2 := gbelow (hg1.trans hg2) (Nat.le_refl w.heap.size) (by simp); have htw := Nat.le_trans hg1.size ht; have htl := hT2.lt; replace hT2 : Tbl w2 t false := hT2; clear hg1 hg2)
    | (at_builtin; refine wpList_append_bytes w2 rfl (.const (.slice none 0 0)) _ 23 rfl w2.heap.size 5 i0 Try.underlying23 hi hz0 hz1 hz2 _ [] rfl (owns_nil _ _ _) _ xs rfl (hra.all hb2) (by simp; omega) (Nat.le_refl _) ?_; intro v3 w3 ho3 hg3; replace hg3 : w2.grownBy w3 none := hg3; rw [List.nil_append] at ho3; have hb3 := hb2.trans (gbelow hg3 hb2.size (by simp)))
    | (at_builtin; refine wpList_append_bytes w3 rfl _ _ 23 rfl w2.heap.size 5 i0 Try.underlying23 hi hz0 hz1 hz2 v3 xs rfl ho3 _ bs rfl (hrb.all hb3) (by omega) hg3.size ?_; intro v4 w4 ho4 hg4; have hb4 := hb3.trans (gbelow hg4 hb3.size (fun k e => Nat.le_trans hb2.size (ho3.lt k e).1)); rw [← hG.out] at ho4; obtain ⟨a4, c4, rfl⟩ := ho4.reads.form))
  have hT4 := hT2.new (gnew hg3 hg4 (fun r e => .inl (ho3.lt r e).1))
  clear hT2 hg3 hg4 ho3 hb2 hb3 hi hz0 hz1 hz2
  refine (cS t _ w4 htw hT4 hb4).mono ?_
  rintro e w5 ⟨rfl, hg5, hT5⟩
  have hb5 := hb4.trans (gbelow hg5 hb4.size (by simpa using htw))
  have ho5 := ho4.kept hg5 (ho4.apartT htl)
  go_wp2_with fail
  refine (dS w5 hb5).mono ?_
  rintro e w' ⟨rfl, rfl⟩
  go_wp2_with fail
  refine (cE t _ w5 htw hT5 hb5).mono ?_
  rintro e w6 ⟨rfl, hg6, hT6⟩
  have hb6 := hb5.trans (gbelow hg6 hb5.size (by simpa using htw))
  have ho6 := ho5.kept hg6 (ho5.apartT htl)
  go_wp2_with fail
  refine (dE w6 hb6).mono ?_
  rintro e w' ⟨rfl, rfl⟩
  go_wp2_with fail
  refine (cS t _ w6 htw hT6 hb6).mono ?_
  rintro e w7 ⟨rfl, hg7, hT7⟩
  have hb7 := hb6.trans (gbelow hg7 hb6.size (by simpa using htw))
  have ho7 := ho6.kept hg7 (ho6.apartT htl)
  go_wp2_with fail
  refine (cF t _ w7 htw hT7 hb7).mono ?_
  rintro e w8 ⟨rfl, hg8, hT8⟩
  have hb8 := hb7.trans (gbelow hg8 hb7.size (by simpa using htw))
  have ho8 := ho7.kept hg8 (ho7.apartT htl)
  go_wp2_with fail
  refine (cW t _ w8 _ _ ho8 htl hT8 _ _ _ rfl).mono ?_
  rintro e w9 ⟨rfl, hg9, hT9⟩
  have hb9 := hb8.trans (gbelow hg9 hb8.size (by simpa using htw))
  have ho9 := ho8.kept hg9 (ho8.apartT htl)
  go_wp2_with fail
  refine (cM _).mono ?_
  rintro e w' ⟨rfl, rfl⟩
  go_wp2_with fail
  refine (dM _).mono ?_
  rintro e w' ⟨rfl, rfl⟩
  go_wp2_with fail
  refine (cM _).mono ?_
  rintro e w' ⟨rfl, rfl⟩
  go_wp2_with fail
  refine (cU _).mono ?_
  rintro e w' ⟨rfl, rfl⟩
  go_wp2_with fail
  refine (cV _).mono ?_
  rintro e w' ⟨rfl, rfl⟩
  go_wp2_with fail
  refine (cN _).mono ?_
  rintro e w' ⟨rfl, rfl⟩
  go_wp2
  go_ret
  exact ⟨rfl, hb9⟩

set_option maxHeartbeats 1000000 in
theorem sums_big (a : Option Addr) (l c : Nat) (a2 : Option Addr) (l2 c2 : Nat) (n : Int) (w : World) (h1 : l ≤ 140737488351232) (h2 : l2 ≤ 140737488351232) (hl : 5000 < l + l2) :
    Calls Try.prog 9 #[.slice a l c, .slice a2 l2 c2, .int .u32 n] w fun e w' => e = .returned (.bool true) ∧ Below w.heap.size w w' := by
  have h3 : decide ((5000 : Int) < (l : Int) + (l2 : Int)) = true := by simpa using (by omega : (5000 : Int) < (l : Int) + (l2 : Int))
  clear hl
  go_enter Try.func9, Try.ntmps9
  go_wp2_with (go_at_call 50; refine (crcAwake _).mono ?_; rintro e w1 ⟨rfl, hg1⟩)
  go_ret
  exact ⟨rfl, gbelow hg1 (Nat.le_refl _) (by simp)⟩

theorem CrcSums_walk (w : World) (a : Option Addr) (l c : Nat) (xs : List UInt8) (hra : Reads w (.slice a l c) xs) (h1 : l ≤ 140737488351232) (a2 : Option Addr) (l2 c2 : Nat) (bs : List UInt8) (hrb : Reads w (.slice a2 l2 c2) bs) (h2 : l2 ≤ 140737488351232) (n : Int) (hn : (Lit.int .u32 n).wf = true) :
    Calls Try.prog 9 #[.slice a l c, .slice a2 l2 c2, .int .u32 n] w fun e w' => e = .returned (.bool true) ∧ Below w.heap.size w w' := by
  have b0 := bounds_u32 hn
  obtain ⟨k, rfl⟩ := Int.eq_ofNat_of_zero_le b0.1
  have s1 := hra.slice
  have s2 := hrb.slice
  by_cases h : l + l2 ≤ 5000
  · exact sums_law a l c xs a2 l2 c2 bs k w (by omega) hra hrb (by omega)
  · exact sums_big a l c a2 l2 c2 k w h1 h2 (by omega)
end Go.Proofs.Ytilbccjgaaembaa
