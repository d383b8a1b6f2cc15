/-
  LAYER 3 (crc): Frame, and the reference's; awake.
-/
import Derived.Test.YtilbccjgaaembaaRMask
import Derived.Test.YtilbccjgaaembaaCFixW
import Derived.Lib.SlBytesConst
namespace Go.Proofs.Ytilbccjgaaembaa
set_option maxRecDepth 100000
open Go.RowKit Go.Lib

/-- What the call owns from B on does not lie in an elder block. -/
theorem Owns.apartT {w : World} {B t : Nat} {e : TypeId} {v : Value} {bs : List UInt8} (h : Owns w B e v bs) (ht : t < B) : v.ownBlock = none ∨ v.ownBlock ≠ some t :=
  .inr fun e => by have := (h.lt t e).1; omega

/-- A frame. -/
def frame (bs : List UInt8) : List UInt8 := Lib.uvarint bs.length ++ leB (mask (sum bs)) 4 ++ bs

theorem Frame_none (p : Value) (v : Value) (w : World) (hm : Calls Try.prog 98 #[p] w fun e w' => e = .returned (.bool false) ∧ w = w') :
    Calls Try.prog 59 #[p, v] w fun e w' => e = .returned (.tuple #[.slice none 0 0, .int .i64 32]) ∧ w = w' := by
  go_enter Try.func59, Try.ntmps59
  go_wp2_with (go_at_call 91; refine (begin_none p v w hm).mono ?_; rintro e w' ⟨rfl, rfl⟩)
  go_ret2
  exact ⟨rfl, rfl⟩

set_option maxHeartbeats 4000000 in
theorem Frame_ok (t : Nat) (dn : Bool) (a : Option Addr) (l c : Nat) (bs : List UInt8) (w : World) (hT : Tbl w t dn) (hr : Reads w (.slice a l c) bs) (ho : Off t (.slice a l c) bs) (hl : bs.length ≤ 16777216) :
    Calls Try.prog 59 #[.pointer (some ⟨t, 0, none⟩), .slice a l c] w fun e w' => ∃ v, e = .returned (.tuple #[v, .int .i64 0]) ∧ Owns w' w.heap.size 5 v (frame bs) ∧ w.grownBy w' (some t) ∧ Tbl w' t (dn || decide (0 < bs.length)) := by
  obtain ⟨rfl, hc, hm⟩ := hr.slice
  obtain ⟨i0, hi, hz0, hz1, hz2⟩ := info_parts infoU8
  have htl := hT.lt
  have hB := begin_any t dn a bs.length c w hT
  have hU := Uint_any bs.length (by omega)
  have hS := fun w' b (hT : Tbl w' t b) hr => Sum_any t b a bs.length c bs w' hT hr ho
  have hM := Mask_any (sum bs) (ext_lt _ _)
  have hF := fun w' => Fixed_ok (mask (sum bs)) 4 w' (by have := mask_lt (sum bs); omega) (by omega) (by have := mask_lt (sum bs); simpa using this)
  rw [show ((4 : Nat) : Int) = 4 from rfl] at hF
  have hE := Lib.hid (show frame bs = Lib.uvarint bs.length ++ leB (mask (sum bs)) 4 ++ bs from rfl)
  have hfl : (frame bs).length = (Lib.uvarint bs.length).length + (leB (mask (sum bs)) 4).length + bs.length := by unfold frame; simp [Nat.add_assoc]
  have lA : (Lib.uvarint bs.length).length ≤ 10 := ulen_le (by omega)
  have lM : (leB (mask (sum bs)) 4).length ≤ 4 := by rw [leB_length]; omega
  replace hfl := Lib.hid hfl
  generalize frame bs = fr at hE hfl ⊢
  generalize leB (mask (sum bs)) 4 = M at hF hE lM hfl
  have hms := mask_lt (sum bs)
  generalize mask (sum bs) = ms at hM hF hms
  generalize sum bs = sm at hS hM
  generalize Lib.uvarint bs.length = A at hU hE lA hfl
  obtain ⟨G, hG⟩ : ∃ G, G = A ++ M := ⟨_, rfl⟩
  have hL7 : G.length + bs.length ≤ 140737488355328 := by rw [hG, List.length_append]; omega
  replace hG := Lib.hid hG
  go_enter Try.func59, Try.ntmps59
  go_wp2_with (first
    | (go_at_call 91; refine hB.mono ?_; rintro e w1 ⟨rfl, hg1, hT1⟩; have hr1 := hr.off ho hg1)
    | (go_at_call 14; refine (hU w1).mono ?_; rintro e w2 ⟨v2, rfl, ho2, hg2⟩; have hT2 := hT1.new hg2; have hr2 := hr1.new hg2)
    | (go_at_call 52; refine (hS w2 _ hT2 hr2).mono ?_; rintro e w3 ⟨rfl, hg3, hT3⟩; have ho3 := ho2.kept hg3 (ho2.apartT (Nat.lt_of_lt_of_le htl hg1.size)); have hr3 := hr2.off ho hg3)
    | (go_at_call 56; refine (hM _).mono ?_; rintro e w' ⟨rfl, rfl⟩)
    | (go_at_call 16; refine (hF w3).mono ?_; rintro e w4 ⟨v4, rfl, ho4, hg4⟩; obtain ⟨a2, c2, rfl⟩ := ho3.reads.form; obtain ⟨a4, c4, rfl⟩ := ho4.reads.form)
    | (at_make; refine wpList_make_own _ rfl _ _ 23 rfl w4.heap.size 5 i0 (.int .u8 0) 1 Try.underlying23 hi hz0 hz1 .i64 .i64 _ (A.length + M.length + bs.length) rfl rfl (by simp) (by rw [hz2]; omega) (by unfold maxLen; omega) (Nat.le_refl _) ?_; intro w5 ho5 hg5; have hb5 := gbelow hg5 (Nat.le_refl w4.heap.size) (by simp))
    | (at_builtin; refine wpList_append_bytes w5 rfl _ _ 23 rfl w4.heap.size 5 i0 Try.underlying23 hi hz0 hz1 hz2 _ [] rfl ho5 (.slice a2 A.length c2) A rfl ((ho3.reads.new hg4).all hb5) (by simp; omega) hg5.size ?_; intro v6 w6 ho6 hg6; rw [List.nil_append] at ho6; have hb6 := hb5.trans (gbelow hg6 hg5.size (fun k e => (ho5.lt k e).1)))
    | (at_builtin; refine wpList_append_bytes w6 rfl _ _ 23 rfl w4.heap.size 5 i0 Try.underlying23 hi hz0 hz1 hz2 v6 A rfl ho6 (.slice a4 M.length c4) M rfl (ho4.reads.all hb6) (by omega) hb6.size ?_; intro v7 w7 ho7 hg7; have hb7 := hb6.trans (gbelow hg7 hb6.size (fun k e => (ho6.lt k e).1)); rw [← hG.out] at ho7)
    | (at_builtin; refine wpList_append_bytes w7 rfl _ _ 23 rfl w4.heap.size 5 i0 Try.underlying23 hi hz0 hz1 hz2 v7 G rfl ho7 (.slice a bs.length c) bs rfl ((hr3.new hg4).all hb7) hL7 hb7.size ?_; intro v8 w8 ho8 hg8; have hb8 := hb7.trans (gbelow hg8 hb7.size (fun k e => (ho7.lt k e).1))))
  go_ret2
  have hgw : w.grownBy w8 (some t) := gnew (gnew (gnew (gnew hg1 hg2 (by simp)) hg3 (by simp)) hg4 (by simp)) (belowg hb8 none) (by simp)
  refine ⟨v8, rfl, ?_, hgw, ?_⟩
  · rw [hG.out] at ho8
    rw [hE.out]
    exact ho8.mono (Nat.le_trans hg1.size (Nat.le_trans hg2.size (Nat.le_trans hg3.size hg4.size)))
  · have := (hT3.new hg4).new (belowg hb8 none)
    simpa using this

/-! awake -/
def nine : List UInt8 := [49, 50, 51, 52, 53, 54, 55, 56, 57]
theorem sum_nine : sum nine = 3808858755 := by decide +kernel
theorem sum_nil : sum [] = 0 := by decide +kernel
theorem frame_nil : frame [] = [0, 216, 234, 130, 162] := by
  unfold frame
  rw [show ([] : List UInt8).length = 0 from rfl, uvarint_small (by decide)]
  decide +kernel
theorem mask_zero : mask 0 = 2726488792 := by decide +kernel

theorem off_new {t b : Nat} {o l c : Nat} {bs : List UInt8} (h : b ≠ t) : Off t (.slice (some ⟨b, o, none⟩) l c) bs := .inr (by simpa [Value.ownBlock] using h)

theorem reads_marked (w : World) (e : TypeId) (bs : List UInt8) (p q : Nat) (hm : bs.length ≤ maxLen) : Reads (w.alloc (.cells (byteCells bs).toArray e (p, q))) (.slice (some ⟨w.heap.size, 0, none⟩) bs.length bs.length) bs := by
  refine .inr ⟨w.heap.size, 0, bs.length, rfl, Nat.le_refl _, hm, fun i u hu => ?_⟩
  simp only [World.cell?, heap_alloc_new]
  simp [byteCells_get, hu]

set_option maxHeartbeats 4000000 in
theorem crcAwake (w : World) : Calls Try.prog 50 #[] w fun e w' => e = .returned (.bool true) ∧ w.grownBy w' none := by
  have kc := fun (w : World) (C : Array Value) (n c : Nat) => Lib.run_convert_bytes_const (P := Try.prog) w 23 5 C n c Try.underlying23 Try.underlying5
  go_enter Try.func50, Try.ntmps50
  go_wp2_with fail
  refine (crcNew_any w).mono ?_
  rintro e w1 ⟨t, rfl, ht, hT1, hg1⟩
  have hT1' : Tbl w1 t false := hT1
  have htl := hT1.lt
  have hM1 := Made_any t false w1 hT1'
  rw [if_neg (by decide)] at hM1
  go_wp2_with fail
  refine hM1.mono ?_
  rintro e w2 ⟨rfl, rfl⟩
  have hr2 : Reads (w1.alloc (.cells #[.int .u8 49, .int .u8 50, .int .u8 51, .int .u8 52, .int .u8 53, .int .u8 54, .int .u8 55, .int .u8 56, .int .u8 57] 5 (9, 10))) (.slice (some ⟨w1.heap.size, 0, none⟩) 9 9) nine := reads_marked w1 5 nine 9 10 (by decide)
  have hS2 := Sum_any t false _ _ _ nine _ (hT1'.new (World.grownBy_alloc w1 _ none)) hr2 (off_new (by omega))
  rw [sum_nine, show ((3808858755 : Nat) : Int) = 3808858755 from rfl, show (false || decide (0 < nine.length)) = true from rfl] at hS2
  go_wp2_with fail
  refine hS2.mono ?_
  clear hS2 hr2
  rintro e w3 ⟨rfl, hg3, hT3⟩
  have hM3 := Made_any t true w3 hT3
  rw [if_pos rfl] at hM3
  go_wp2_with fail
  refine hM3.mono ?_
  rintro e w4 ⟨rfl, rfl⟩
  have hF := Frame_ok t true none 0 0 [] w3 hT3 (.inl ⟨rfl, rfl⟩) (.inl rfl) (by decide)
  rw [frame_nil] at hF
  go_wp2_with fail
  refine hF.mono ?_
  clear hF
  rintro e w5 ⟨v5, rfl, ho5, hg5, hT5⟩
  have hr5 := ho5.reads
  obtain ⟨a5, c5, rfl⟩ := hr5.form
  obtain ⟨b, off, rfl, hc5⟩ := hr5.get (i := 1) (by decide)
  have hc5' : w5.cell? ⟨b, off + 1, none⟩ = some (.int .u8 216) := hc5
  clear hc5 hr5 ho5
  have hK := Mask_any 0 (by decide)
  rw [mask_zero, show ((0 : Nat) : Int) = 0 from rfl, show ((2726488792 : Nat) : Int) = 2726488792 from rfl] at hK
  go_wp2_with (go_at_call 56; refine (hK _).mono ?_; rintro e w6 ⟨rfl, rfl⟩)
  go_ret
  have h1 := hg1.size
  refine ⟨rfl, gnew (gnew (galloc hg1 _) hg3 ?_) hg5 ?_⟩ <;> (rintro r ⟨⟩; left; omega)
end Go.Proofs.Ytilbccjgaaembaa
