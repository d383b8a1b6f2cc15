/-
  LAYER 3 (crc): CrcBits: bursts are told; a frame with one bit turned never tells the same payload.
-/
import Derived.Test.YtilbccjgaaembaaRBitsP
import Derived.Test.YtilbccjgaaembaaRUnf
import Derived.Test.YtilbccjgaaembaaRSums
import Derived.RegionTactic
import Derived.BigRegion
import Derived.IntWalk
import Derived.Stop.BytesEq
namespace Go.Proofs.Ytilbccjgaaembaa
set_option maxRecDepth 100000
open Go.RowKit Go.Lib

theorem eq4 (y0 y1 y2 y3 : UInt8) (w : World) : (Op.equalIn 10000 90 (.agg #[.int .u8 (y0.toNat : Int), .int .u8 (y1.toNat : Int), .int .u8 (y2.toNat : Int), .int .u8 (y3.toNat : Int)]) (.agg #[.int .u8 0, .int .u8 0, .int .u8 0, .int .u8 0])).run Try.prog w = .ok ([y0, y1, y2, y3] == [0, 0, 0, 0]) w :=
  run_equalIn_bytes w 9998 90 5 4 Try.underlying90 Try.underlying5 (fun w => by simp [go_sem]) [y0, y1, y2, y3] [0, 0, 0, 0] rfl rfl

/-- The list with k bytes of the burst laid on. -/
def cur (bs : List UInt8) (q : Nat) (ys : List UInt8) : Nat → List UInt8
  | 0 => bs
  | k + 1 => (cur bs q ys k).set (q + k) ((cur bs q ys k).getD (q + k) 0 ^^^ ys.getD k 0)
theorem cur_length (bs : List UInt8) (q : Nat) (ys : List UInt8) : ∀ k, (cur bs q ys k).length = bs.length
  | 0 => rfl
  | k + 1 => by rw [cur, List.length_set, cur_length bs q ys k]
theorem cur_four (P S : List UInt8) (a b c d y0 y1 y2 y3 : UInt8) : cur (P ++ [a, b, c, d] ++ S) P.length [y0, y1, y2, y3] 4 = P ++ [a ^^^ y0, b ^^^ y1, c ^^^ y2, d ^^^ y3] ++ S := by
  simp [cur, List.append_assoc, List.set_append_right]
theorem four_cut (bs : List UInt8) (q : Nat) (h : q + 4 ≤ bs.length) : ∃ P S a b c d, bs = P ++ [a, b, c, d] ++ S ∧ P.length = q := by
  refine ⟨bs.take q, bs.drop (q + 4), bs[q], bs[q + 1], bs[q + 2], bs[q + 3], ?_, by simp; omega⟩
  have e : bs.drop q = bs[q] :: bs[q + 1] :: bs[q + 2] :: bs[q + 3] :: bs.drop (q + 4) := by
    rw [List.drop_eq_getElem_cons (by omega), List.drop_eq_getElem_cons (by omega), List.drop_eq_getElem_cons (by omega), List.drop_eq_getElem_cons (by omega)]
  calc bs = bs.take q ++ bs.drop q := (List.take_append_drop q bs).symm
    _ = _ := by rw [e]; simp
theorem cur_sum (bs : List UInt8) (q : Nat) (y0 y1 y2 y3 : UInt8) (h : q + 4 ≤ bs.length) (hy : ¬ (y0 = 0 ∧ y1 = 0 ∧ y2 = 0 ∧ y3 = 0)) : sum (cur bs q [y0, y1, y2, y3] 4) ≠ sum bs := by
  obtain ⟨P, S, a, b, c, d, rfl, rfl⟩ := four_cut bs q h
  rw [cur_four]
  exact burst P S a b c d y0 y1 y2 y3 hy

/-- Go's place of the burst. -/
theorem place (x : Int) (n : Nat) (hn : 4 ≤ n) : ∃ (z : Int) (q : Nat), x.tmod ((n : Int) - 3) = z ∧ -((n : Int) - 3) < z ∧ z < (n : Int) - 3 ∧ (z + (n : Int) - 3) % ((n : Int) - 3) = (q : Int) ∧ (z + (n : Int) - 3).tmod ((n : Int) - 3) = (q : Int) ∧ q + 4 ≤ n := by
  have hp : (0 : Int) < (n : Int) - 3 := by omega
  have h1 := Int.lt_tmod_of_pos x hp
  have h2 := Int.tmod_lt_of_pos x hp
  generalize x.tmod ((n : Int) - 3) = z at h1 h2
  have h3 : 0 ≤ z + (n : Int) - 3 := by omega
  have h4 := Int.emod_nonneg (z + (n : Int) - 3) (by omega : (n : Int) - 3 ≠ 0)
  have h5 := Int.emod_lt_of_pos (z + (n : Int) - 3) hp
  obtain ⟨q, hq⟩ := Int.eq_ofNat_of_zero_le h4
  refine ⟨z, q, rfl, h1, h2, hq, ?_, by omega⟩
  rw [Int.tmod_eq_emod_of_nonneg h3, hq]

theorem place2 (x : Int) (n : Nat) (hn : 1 ≤ n) : ∃ (z : Int) (r : Nat), x.tmod (8 * (n : Int)) = z ∧ -(8 * (n : Int)) < z ∧ z < 8 * (n : Int) ∧ (z + 8 * (n : Int)) % (8 * (n : Int)) = (r : Int) ∧ (z + 8 * (n : Int)).tmod (8 * (n : Int)) = (r : Int) ∧ r < 8 * n := by
  have hp : (0 : Int) < 8 * (n : Int) := by omega
  have h1 := Int.lt_tmod_of_pos x hp
  have h2 := Int.tmod_lt_of_pos x hp
  generalize x.tmod (8 * (n : Int)) = z at h1 h2
  have h3 : 0 ≤ z + 8 * (n : Int) := by omega
  have h4 := Int.emod_nonneg (z + 8 * (n : Int)) (by omega : 8 * (n : Int) ≠ 0)
  have h5 := Int.emod_lt_of_pos (z + 8 * (n : Int)) hp
  obtain ⟨r, hr⟩ := Int.eq_ofNat_of_zero_le h4
  refine ⟨z, r, rfl, h1, h2, hr, ?_, by omega⟩
  rw [Int.tmod_eq_emod_of_nonneg h3, hr]

def bitU (j : Nat) : UInt8 := ((2 : Nat) ^ j).toUInt8
theorem turn_bit (f0 : UInt8) (j : Nat) (hj : j < 8) : bits .xor .u8 (f0.toNat : Int) (2 ^ j % 256) = ((f0 ^^^ bitU j).toNat : Int) ∧ f0 ^^^ bitU j ≠ f0 := by
  have hp : (2 : Nat) ^ j < 256 := Nat.lt_of_le_of_lt (Nat.pow_le_pow_right (by decide) (show j ≤ 7 by omega)) (by decide)
  have hp0 : 0 < (2 : Nat) ^ j := Nat.pow_pos (by decide)
  have hu : (bitU j).toNat = 2 ^ j := toUInt8_toNat hp
  have e0 : (2 : Int) ^ j = (((2 : Nat) ^ j : Nat) : Int) := by simp
  rw [e0]
  generalize (2 : Nat) ^ j = m at hp hp0 hu
  refine ⟨by rw [show (m : Int) % 256 = (m : Int) by omega, u8_xor_nat _ _ (UInt8.toNat_lt _) hp, UInt8.toNat_xor, hu], fun h => ?_⟩
  have h0 := congrArg UInt8.toNat (u8_xor_cancel (congrArg UInt8.toNat h))
  rw [hu, show (0 : UInt8).toNat = 0 from rfl] at h0
  omega
set_option maxHeartbeats 8000000 in
theorem bits_law (a : Option Addr) (l c : Nat) (bs : List UInt8) (at0 bit : Int) (y0 y1 y2 y3 : UInt8) (w : World) (hr : Reads w (.slice a l c) bs) (hl : 4 ≤ bs.length) (hl2 : bs.length ≤ 3000) (hy : ¬ (y0 = 0 ∧ y1 = 0 ∧ y2 = 0 ∧ y3 = 0)) :
    Calls Try.prog 11 #[.slice a l c, .int .i64 at0, .agg #[.int .u8 (y0.toNat : Int), .int .u8 (y1.toNat : Int), .int .u8 (y2.toNat : Int), .int .u8 (y3.toNat : Int)], .int .i64 bit] w fun e w' => e = .returned (.bool true) ∧ Below w.heap.size w w' := by
  obtain ⟨rfl, hc, hm⟩ := hr.slice
  obtain ⟨W0, hW0⟩ : ∃ W0, W0 = w.alloc (.cells #[.int .u8 (y0.toNat : Int), .int .u8 (y1.toNat : Int), .int .u8 (y2.toNat : Int), .int .u8 (y3.toNat : Int)] 90) := ⟨_, rfl⟩
  have g0 : w.grownBy W0 none := by rw [hW0]; exact World.grownBy_alloc w _ none
  have k0 : W0.cell? ⟨w.heap.size, 0, none⟩ = some (.int .u8 (y0.toNat : Int)) := by rw [hW0]; simp [go_sem]
  have k1 : W0.cell? ⟨w.heap.size, 1, none⟩ = some (.int .u8 (y1.toNat : Int)) := by rw [hW0]; simp [go_sem]
  have k2 : W0.cell? ⟨w.heap.size, 2, none⟩ = some (.int .u8 (y2.toNat : Int)) := by rw [hW0]; simp [go_sem]
  have k3 : W0.cell? ⟨w.heap.size, 3, none⟩ = some (.int .u8 (y3.toNat : Int)) := by rw [hW0]; simp [go_sem]
  have cA := crcAwake W0
  rw [hW0] at cA
  have hq := eq4 y0 y1 y2 y3
  rw [show ([y0, y1, y2, y3] == [0, 0, 0, 0]) = false by simpa [and_assoc] using hy] at hq
  obtain ⟨i0, hi, hz0, hz1, hz2⟩ := info_parts infoU8
  obtain ⟨z, q, hm1, hm2, hm3, hm4, hm5, hm6⟩ := place at0 bs.length hl
  go_enter Try.func11, Try.ntmps11
  go_wp2_with (first
    | (go_at_call 50; refine cA.mono ?_; rintro e w1 ⟨rfl, hg1⟩; rw [← hW0] at hg1; have d0 := hg1.cell k0 (by simp); have d1 := hg1.cell k1 (by simp); have d2 := hg1.cell k2 (by simp); have d3 := hg1.cell k3 (by simp); replace hg1 := g0.trans hg1)
    | (go_at_call 51; refine (crcNew_any w1).mono ?_; rintro e w2 ⟨t, rfl, ht, hT2, hg2⟩; have hb2 := gbelow (hg1.trans hg2) (Nat.le_refl w.heap.size) (by simp); have htw := Nat.le_trans hg1.size ht; have htl := hT2.lt; replace hT2 : Tbl w2 t false := hT2; replace d0 := hg2.cell d0 (by simp); replace d1 := hg2.cell d1 (by simp); replace d2 := hg2.cell d2 (by simp); replace d3 := hg2.cell d3 (by simp))
    | (at_builtin; refine wpList_append_bytes w2 rfl (.const (.slice none 0 0)) _ 23 rfl w2.heap.size 5 i0 Try.underlying23 hi hz0 hz1 hz2 _ [] rfl (owns_nil _ _ _) _ bs rfl (hr.all hb2) (by simp; omega) (Nat.le_refl _) ?_; intro v3 w3 ho3 hg3; replace hg3 : w2.grownBy w3 none := hg3; rw [List.nil_append] at ho3; have hb3 := hb2.trans (gbelow hg3 hb2.size (by simp)); replace hT2 := hT2.new hg3; replace d0 := hg3.cell d0 (by simp); replace d1 := hg3.cell d1 (by simp); replace d2 := hg3.cell d2 (by simp); replace d3 := hg3.cell d3 (by simp); obtain ⟨a3, c3, rfl⟩ := ho3.reads.form))
  have hne : bs ≠ [] := by rintro rfl; simp at hl
  obtain ⟨g, rfl, hgB⟩ : ∃ g, a3 = some ⟨g, 0, none⟩ ∧ w2.heap.size ≤ g := by
    obtain ⟨_, ⟨h1, hn⟩ | ⟨g, cap, cu, h1, hB, _⟩⟩ := ho3
    · exact absurd (List.length_eq_zero_iff.1 hn) hne
    · simp only [Value.slice.injEq] at h1
      exact ⟨g, h1.1, hB⟩
  have hgt : w.heap.size < g := by have := hb2.size; omega
  obtain ⟨ys, hys⟩ : ∃ ys, ys = [y0, y1, y2, y3] := ⟨_, rfl⟩
  have hyk : ∀ k, k < 4 → w3.cell? ⟨w.heap.size, k, none⟩ = some (.int .u8 ((ys.getD k 0).toNat : Int)) := by
    intro k hk
    subst hys
    match k, hk with
    | 0, _ => exact d0
    | 1, _ => exact d1
    | 2, _ => exact d2
    | 3, _ => exact d3
  have hsum := cur_sum bs q y0 y1 y2 y3 hm6 hy
  rw [← hys] at hsum
  have htg : t ≠ g := by omega
  replace hys := Lib.hid hys
  clear d0 d1 d2 d3 k0 k1 k2 k3 hg1 hg2 hg3 g0 hW0 cA hq hm1 hm2 hm3 hm4 hm5 hi hz0 hz1 hz2
  have ho30 : w3.ownsRow w2.heap.size 5 1 (.slice (some ⟨g, 0, none⟩) bs.length c3) bs.length (byteCells (cur bs q ys 0)) := ho3
  go_loopw [49] (fun vi wr => ∃ k : Nat, k ≤ 4 ∧ vi = .int .i64 (k : Int) ∧ wr.ownsRow w2.heap.size 5 1 (.slice (some ⟨g, 0, none⟩) bs.length c3) bs.length (byteCells (cur bs q ys k)) ∧ w3.grownBy wr (some g)) (fun vi _ => 4 - (RowKit.intOf vi).toNat)
  case atStart => exact ⟨0, by omega, rfl, ho30, World.grownBy.refl _ _⟩
  case round =>
    clear ho30 ho3
    obtain ⟨k, hk, rfl, hown, hgr⟩ := hrel
    by_cases hlt : k < 4
    · have hlen := cur_length bs q ys k
      have hqk : q + k < (cur bs q ys k).length := by omega
      have hcell := hown.cellAt (q + k) (by omega)
      rw [byteCells_get, List.getElem?_eq_getElem hqk] at hcell
      simp only [Option.map_some] at hcell
      have hfr := hown.frozenAt (q + k)
      have hyc := hgr.cell (hyk k hlt) (by simp; omega)
      have hgd : (cur bs q ys k).getD (q + k) 0 = (cur bs q ys k)[q + k] := by rw [List.getD_eq_getElem?_getD, List.getElem?_eq_getElem hqk]; rfl
      have hx : bits .xor .u8 (((cur bs q ys k)[q + k]).toNat : Int) ((ys.getD k 0).toNat : Int) = ((((cur bs q ys k)[q + k]) ^^^ ys.getD k 0).toNat : Int) := by
        rw [u8_xor_nat _ _ (UInt8.toNat_lt _) (UInt8.toNat_lt _), UInt8.toNat_xor]
      have hst := hown.stored (q + k) (.int .u8 ((((cur bs q ys k)[q + k]) ^^^ ys.getD k 0).toNat : Int))
      rw [show (byteCells (cur bs q ys k)).set (q + k) (.int .u8 ((((cur bs q ys k)[q + k]) ^^^ ys.getD k 0).toNat : Int)) = byteCells (cur bs q ys (k + 1)) by rw [cur, hgd]; simp [byteCells, List.map_set]] at hst
      have HS := Lib.hid hst
      clear hst hgd
      generalize ((cur bs q ys k)[q + k]) ^^^ ys.getD k 0 = u3 at hx HS
      generalize (cur bs q ys k)[q + k] = u1 at hx hcell
      generalize ys.getD k 0 = u2 at hx hyc
      have hlt2 : (q : Int) + (k : Int) < (bs.length : Int) := by omega
      clear hlen hqk
      have hwr0 : (0 : Int) ≤ (q : Int) + (k : Int) := by omega
      have hwr2 : ((q : Int) + (k : Int)).toNat = q + k := by omega
      have hwr1 : IntKind.i64.wrap ((q : Int) + (k : Int)) = (q : Int) + (k : Int) := IntWalk.i64_in _ (by omega)
      go_wp2
      go_region
      all_goals go_wp2
      all_goals exact ⟨⟨k + 1, by omega, by go_num, World.ownsRow.kept HS.out.1 (gdrew (World.grownBy.refl _ none)) (.inr (by simp [Value.ownBlock])), gdrew (gset hgr _ _)⟩, by simp [RowKit.intOf]; omega⟩
    · have hk4 : k = 4 := by omega
      subst hk4
      obtain ⟨C, hC⟩ : ∃ C, C = cur bs q ys 4 := ⟨_, rfl⟩
      have hCl : C.length = bs.length := by rw [hC]; exact cur_length bs q ys 4
      rw [← hC] at hsum hown
      clear hC hlt hk hyk hys
      have hCr : Reads wr (.slice (some ⟨g, 0, none⟩) bs.length c3) C := by
        have : Owns wr w2.heap.size 5 (.slice (some ⟨g, 0, none⟩) bs.length c3) C := by unfold Owns; rw [hCl]; exact hown
        exact this.reads
      have hbr := hb3.trans (gbelow hgr hb3.size (by simp; omega))
      have hTr := hT2.kept hgr (by simp; omega)
      have htlr := hTr.lt
      have hsB : ((sum C : Int) == (sum bs : Int)) = false := by
        simp only [beq_eq_false_iff_ne, ne_eq, Int.natCast_inj]; exact hsum
      have c1 := Sum_any t false _ _ _ C wr hTr hCr (.inr (by simp [Value.ownBlock]; omega))
      have c2 := fun b wx (hT : Tbl wx t b) (hb : Below w.heap.size w wx) => Sum_any t b a bs.length c bs wx hT (hr.all hb) (hr.offNew htw)
      have c4 := fun b wx (hT : Tbl wx t b) (hb : Below w.heap.size w wx) => Frame_ok t b a bs.length c bs wx hT (hr.all hb) (hr.offNew htw) (by omega)
      generalize hsC : sum C = sC at c1 hsB
      generalize hsb : sum bs = sb at c2 hsB
      have hfl := frame_length bs
      have hul : (Lib.uvarint bs.length).length ≤ 10 := ulen_le (by omega)
      obtain ⟨F, hF⟩ : ∃ F, F = frame bs := ⟨_, rfl⟩
      rw [← hF] at c4 hfl
      have hFl : 5 ≤ F.length ∧ F.length ≤ 3100 := by have := Lib.uvarint_pos bs.length; omega
      obtain ⟨z2, r, hn1, hn2, hn3, hn4, hn5, hn6⟩ := place2 bit F.length (by omega)
      replace hF := Lib.hid hF
      clear hfl hul hsum hsC hsb hT2 hown hgr hCl
      go_wp2_with (first
        | (go_at_call 52; refine c1.mono ?_; clear c1; rintro e w4 ⟨rfl, hg4, hT4⟩; have hb4 := hbr.trans (gbelow hg4 hbr.size (by simpa using htw)))
        | (go_at_call 52; refine (c2 _ w4 hT4 hb4).mono ?_; rintro e w5 ⟨rfl, hg5, hT5⟩; have hb5 := hb4.trans (gbelow hg5 hb4.size (by simpa using htw)))
        | (go_at_call 59; refine (c4 _ w5 hT5 hb5).mono ?_; rintro e w6 ⟨v6, rfl, ho6, hg6, hT6⟩; have hb6 := hb5.trans (gbelow hg6 hb5.size (by simpa using htw)); obtain ⟨a6, c6, rfl⟩ := ho6.reads.form))
      have hg5s : t < w5.heap.size := Nat.lt_of_lt_of_le htlr (Nat.le_trans hg4.size hg5.size)
      clear hn1 hn2 hn3 hn4 hn5 c2 c4 hTr hbr hCr htlr hb4 hb5 hg4 hg5 hT4 hT5
      have hFne : F ≠ [] := by rintro rfl; simp at hFl
      obtain ⟨g6, rfl, hg6B⟩ : ∃ g6, a6 = some ⟨g6, 0, none⟩ ∧ w5.heap.size ≤ g6 := by
        obtain ⟨_, ⟨h1, hn⟩ | ⟨g', cap, cu, h1, hB, _⟩⟩ := ho6
        · exact absurd (List.length_eq_zero_iff.1 hn) hFne
        · simp only [Value.slice.injEq] at h1
          exact ⟨g', h1.1, hB⟩
      have hi8 : r / 8 < F.length := by omega
      have ho6' : w6.ownsRow w5.heap.size 5 1 (.slice (some ⟨g6, 0, none⟩) F.length c6) F.length (byteCells F) := ho6
      have hcell := ho6'.cellAt (r / 8) (by omega)
      rw [byteCells_get, List.getElem?_eq_getElem hi8] at hcell
      simp only [Option.map_some] at hcell
      have hfr := ho6'.frozenAt (r / 8)
      have q1 : (0 : Int) ≤ (r : Int) / 8 := by omega
      have q2 : (r : Int) / 8 < (F.length : Int) := by omega
      have q3 : ((r : Int) / 8).toNat = r / 8 := by omega
      have q4 : (0 : Int) ≤ (r : Int) % 8 := by omega
      have q5 : ((r : Int) % 8).toNat = r % 8 := by omega
      have q6 : (r : Int) % 8 < 8 := by omega
      obtain ⟨f0, hf0⟩ : ∃ f0, f0 = F[r / 8] := ⟨_, rfl⟩
      rw [← hf0] at hcell
      replace hf0 := Lib.hid hf0
      generalize hj : r % 8 = j at q5
      generalize hi9 : r / 8 = i9 at q3 hcell hfr
      replace hj := Lib.hid hj
      replace hi9 := Lib.hid hi9
      have hj8 : j < 8 := by have := hj.out; omega
      obtain ⟨hx9, hu9⟩ := turn_bit f0 j hj8
      have hst := ho6'.stored i9 (.int .u8 ((f0 ^^^ bitU j).toNat : Int))
      rw [show (byteCells F).set i9 (.int .u8 ((f0 ^^^ bitU j).toNat : Int)) = byteCells (F.set i9 (f0 ^^^ bitU j)) by simp [byteCells, List.map_set]] at hst
      have hub : ∀ k, unf (F.set i9 (f0 ^^^ bitU j)) ≠ (bs, k, 0) := by
        intro k
        have h1 := hF.out
        have h2 := hf0.out
        have h3 := hi9.out
        subst h3
        subst h1
        refine unf_bit bs (r / 8) _ hi8 ?_ k
        rw [← h2]; exact hu9
      have HS := Lib.hid hst
      have hFl2 : (F.set i9 (f0 ^^^ bitU j)).length = F.length := List.length_set
      clear hst ho6' hu9 hf0
      generalize f0 ^^^ bitU j = u9 at hx9 HS hub hFl2
      obtain ⟨F', hF'⟩ : ∃ F', F' = F.set i9 u9 := ⟨_, rfl⟩
      rw [← hF'] at HS hub hFl2
      clear hF'
      obtain ⟨p, kk, x, hun⟩ : ∃ p k x, unf F' = (p, k, x) := ⟨_, _, _, rfl⟩
      rw [hun] at hub
      replace hFl2 := Lib.hid hFl2
      go_region
      obtain ⟨w7, hw7⟩ : ∃ w7, w7 = (w6.setCell ⟨g6, i9, none⟩ (.int .u8 (u9.toNat : Int))).drew := ⟨_, rfl⟩
      rw [← hw7]
      have hg7 : w6.grownBy w7 (some g6) := by rw [hw7]; exact gdrew (gset (World.grownBy.refl _ _) _ _)
      have hr7 : Reads w7 (.slice (some ⟨g6, 0, none⟩) F.length c6) F' := by
        have h1 : (w6.setCell ⟨g6, i9, none⟩ (.int .u8 (u9.toNat : Int))).ownsRow w5.heap.size 5 1 (.slice (some ⟨g6, 0, none⟩) F.length c6) F.length (byteCells F') := HS.out.1
        have h2 : Owns (w6.setCell ⟨g6, i9, none⟩ (.int .u8 (u9.toNat : Int))) w5.heap.size 5 (.slice (some ⟨g6, 0, none⟩) F.length c6) F' := by unfold Owns; rw [hFl2.out]; exact h1
        rw [hw7]
        exact h2.reads.new (gdrew (World.grownBy.refl _ none))
      have ht5 : t < w5.heap.size := by have := hg5s; omega
      have hT7 := hT6.kept hg7 (by simp; omega)
      have hb7 := hb6.trans (gbelow hg7 hb6.size (by simp; omega))
      have c7 := Unframe_any t _ _ _ _ F' p kk x w7 hT7 hr7 (.inr (by simp [Value.ownBlock]; omega)) (by have := hFl2.out; omega) hun
      clear hw7 HS
      by_cases hx : x = 0
      · subst hx
        have hpb : p ≠ bs := by rintro rfl; exact hub kk rfl
        have hbne : (p == bs) = false := by simpa using hpb
        clear hpb
        go_wp2_with (go_at_call 61; refine c7.mono ?_; clear c7; rintro e w8 ⟨v8, rfl, ho8, hg8, hT8⟩; have hb8 := hb7.trans (gbelow hg8 hb7.size (by simpa using htw)); have q8 := conv_of ho8.reads; have q9 := conv_of (hr.all hb8); obtain ⟨a8, c8, rfl⟩ := ho8.reads.form)
        go_ret
        exact ⟨rfl, hb8⟩
      · have hx1 : (x != 0) = true := by simpa using hx
        clear hx
        go_wp2_with (go_at_call 61; refine c7.mono ?_; clear c7; rintro e w8 ⟨v8, rfl, ho8, hg8, hT8⟩; have hb8 := hb7.trans (gbelow hg8 hb7.size (by simpa using htw)))
        go_ret
        exact ⟨rfl, hb8⟩

set_option maxHeartbeats 4000000 in
theorem bits_out (a : Option Addr) (l c : Nat) (at0 bit : Int) (y0 y1 y2 y3 : UInt8) (w : World) (hl : l < 4 ∨ 3000 < l) :
    Calls Try.prog 11 #[.slice a l c, .int .i64 at0, .agg #[.int .u8 (y0.toNat : Int), .int .u8 (y1.toNat : Int), .int .u8 (y2.toNat : Int), .int .u8 (y3.toNat : Int)], .int .i64 bit] w fun e w' => e = .returned (.bool true) ∧ Below w.heap.size w w' := by
  have cA := crcAwake (w.alloc (.cells #[.int .u8 (y0.toNat : Int), .int .u8 (y1.toNat : Int), .int .u8 (y2.toNat : Int), .int .u8 (y3.toNat : Int)] 90))
  by_cases h : l < 4
  · have h1 : decide ((l : Int) < 4) = true := by simp; omega
    have h2 : decide (l < 4) = true := by simp; omega
    clear hl h
    go_enter Try.func11, Try.ntmps11
    go_wp2_with (go_at_call 50; refine cA.mono ?_; rintro e w1 ⟨rfl, hg1⟩)
    go_ret
    exact ⟨rfl, gbelow ((World.grownBy_alloc w _ none).trans hg1) (Nat.le_refl _) (by simp)⟩
  · have h1 : decide ((l : Int) < 4) = false := by simp; omega
    have h2 : decide (l < 4) = false := by simp; omega
    have h3 : decide ((3000 : Int) < (l : Int)) = true := by simp; omega
    have h4 : decide (3000 < l) = true := by simp; omega
    clear hl h
    go_enter Try.func11, Try.ntmps11
    go_wp2_with (go_at_call 50; refine cA.mono ?_; rintro e w1 ⟨rfl, hg1⟩)
    go_ret
    exact ⟨rfl, gbelow ((World.grownBy_alloc w _ none).trans hg1) (Nat.le_refl _) (by simp)⟩

set_option maxHeartbeats 4000000 in
theorem bits_zero (a : Option Addr) (l c : Nat) (at0 bit : Int) (w : World) (hl : 4 ≤ l) (hl2 : l ≤ 3000) :
    Calls Try.prog 11 #[.slice a l c, .int .i64 at0, .agg #[.int .u8 0, .int .u8 0, .int .u8 0, .int .u8 0], .int .i64 bit] w fun e w' => e = .returned (.bool true) ∧ Below w.heap.size w w' := by
  obtain ⟨W0, hW0⟩ : ∃ W0, W0 = w.alloc (.cells #[.int .u8 0, .int .u8 0, .int .u8 0, .int .u8 0] 90) := ⟨_, rfl⟩
  have g0 : w.grownBy W0 none := by rw [hW0]; exact World.grownBy_alloc w _ none
  have k0 : W0.cell? ⟨w.heap.size, 0, none⟩ = some (.int .u8 0) := by rw [hW0]; simp [go_sem]
  have k1 : W0.cell? ⟨w.heap.size, 1, none⟩ = some (.int .u8 0) := by rw [hW0]; simp [go_sem]
  have k2 : W0.cell? ⟨w.heap.size, 2, none⟩ = some (.int .u8 0) := by rw [hW0]; simp [go_sem]
  have k3 : W0.cell? ⟨w.heap.size, 3, none⟩ = some (.int .u8 0) := by rw [hW0]; simp [go_sem]
  have cA := crcAwake W0
  rw [hW0] at cA
  have hq := eq4 0 0 0 0
  rw [show (([0, 0, 0, 0] : List UInt8) == [0, 0, 0, 0]) = true from rfl, show (((0 : UInt8).toNat : Nat) : Int) = 0 from rfl] at hq
  go_enter Try.func11, Try.ntmps11
  go_wp2_with (go_at_call 50; refine cA.mono ?_; rintro e w1 ⟨rfl, hg1⟩; rw [← hW0] at hg1; have d0 := hg1.cell k0 (by simp); have d1 := hg1.cell k1 (by simp); have d2 := hg1.cell k2 (by simp); have d3 := hg1.cell k3 (by simp))
  go_ret
  exact ⟨rfl, gbelow (g0.trans hg1) (Nat.le_refl _) (by simp)⟩

theorem CrcBits_walk (w : World) (a : Option Addr) (l c : Nat) (bs : List UInt8) (hr : Reads w (.slice a l c) bs) (at0 : Int) (_h1 : (Lit.int .i64 at0).wf = true) (y0 y1 y2 y3 : UInt8) (bit : Int) (_h2 : (Lit.int .i64 bit).wf = true) :
    Calls Try.prog 11 #[.slice a l c, .int .i64 at0, .agg #[.int .u8 (y0.toNat : Int), .int .u8 (y1.toNat : Int), .int .u8 (y2.toNat : Int), .int .u8 (y3.toNat : Int)], .int .i64 bit] w fun e w' => e = .returned (.bool true) ∧ Below w.heap.size w w' := by
  have hs := hr.slice.1
  by_cases h : 4 ≤ l ∧ l ≤ 3000
  · by_cases hy : y0 = 0 ∧ y1 = 0 ∧ y2 = 0 ∧ y3 = 0
    · obtain ⟨rfl, rfl, rfl, rfl⟩ := hy
      exact bits_zero a l c at0 bit w h.1 h.2
    · exact bits_law a l c bs at0 bit y0 y1 y2 y3 w hr (by omega) (by omega) hy
  · exact bits_out a l c at0 bit y0 y1 y2 y3 w (by omega)
end Go.Proofs.Ytilbccjgaaembaa
