/-
  LAYER 3 (crc): the reference's Frame and Unframe.
-/
import Derived.Test.YtpdacbiiaglodaaGreatQG16
import Derived.Test.YtpdacbiiaglodaaGreatQG10
import Derived.Test.YtpdacbiiaglodaaGreatQG15
import Derived.Deep.QuietTactic
import Derived.BigQuiet
import Derived.IntWalk
namespace Go.Proofs.YtpdacbiiaglodaaGreat
set_option maxRecDepth 100000
open Go.RowKit Go.Lib

theorem leB4_cells (m : Nat) (h : m < 4294967296) : (byteCells (leB m 4)).toArray = #[Value.int .u8 ((m : Int) % 256), .int .u8 ((m : Int) / 256 % 256), .int .u8 ((m : Int) / 65536 % 256), .int .u8 ((m : Int) / 16777216)] := by
  have e : leB m 4 = [(m % 256).toUInt8, (m / 256 % 256).toUInt8, (m / 65536 % 256).toUInt8, (m / 16777216 % 256).toUInt8] := by
    rw [leB_succ, leB_succ, leB_succ, leB_succ, Nat.div_div_eq_div_mul, Nat.div_div_eq_div_mul]
    rfl
  rw [e]
  simp only [byteCells, List.map_cons, List.map_nil]
  rw [toUInt8_toNat (by omega), toUInt8_toNat (by omega), toUInt8_toNat (by omega), toUInt8_toNat (by omega)]
  rw [show m / 16777216 % 256 = m / 16777216 by omega]
  simp

set_option maxHeartbeats 4000000 in
theorem refFrame_ok (a : Option Addr) (l c : Nat) (bs : List UInt8) (w : World) (hr : Reads w (.slice a l c) bs) (hl : bs.length ≤ 16777216) :
    Calls Tryz.prog 44 #[.slice a l c] w fun e w' => ∃ v, e = .returned (.tuple #[v, .int .i64 0]) ∧ Owns w' w.heap.size 5 v (frame bs) ∧ w.grownBy w' none := by
  obtain ⟨rfl, hc, hm⟩ := hr.slice
  obtain ⟨i0, hi, hz0, hz1, hz2⟩ := info_parts infoU8
  have hS := refSum_any a bs.length c bs w hr
  have hsl : sum bs < 4294967296 := ext_lt 0 bs
  have hM := refMask_any (sum bs) hsl w
  have hU := refUint_any bs.length (by omega) w
  have hml := mask_lt (sum bs)
  have h4 := leB4_cells (mask (sum bs)) hml
  have hE := Lib.hid (show frame bs = Lib.uvarint bs.length ++ leB (mask (sum bs)) 4 ++ bs from rfl)
  have lA : (Lib.uvarint bs.length).length ≤ 10 := ulen_le (by omega)
  have lM : (leB (mask (sum bs)) 4).length = 4 := leB_length _ _
  have hLit := fun w0 : World => reads_lit' w0 5 (leB (mask (sum bs)) 4) (by rw [lM]; decide)
  rw [h4, lM] at hLit
  generalize frame bs = fr at hE ⊢
  generalize leB (mask (sum bs)) 4 = M at hE lM hLit
  generalize mask (sum bs) = ms at hM hml hLit
  generalize sum bs = sm at hS hM hsl
  generalize Lib.uvarint bs.length = A at hU hE lA
  obtain ⟨G, hG⟩ : ∃ G, G = A ++ M := ⟨_, rfl⟩
  have hL7 : G.length + bs.length ≤ 140737488355328 := by rw [hG, List.length_append]; omega
  have lM2 : A.length + M.length ≤ 140737488355328 := by omega
  replace hG := Lib.hid hG
  clear lM h4
  go_enter Tryz.func44, Tryz.ntmps44
  go_wp2_with (first
    | (go_at_call 85; refine hS.mono ?_; rintro e w' ⟨rfl, rfl⟩)
    | (go_at_call 84; refine hM.mono ?_; rintro e w' ⟨rfl, rfl⟩)
    | (go_at_call 43; refine hU.mono ?_; rintro e w1 ⟨v1, rfl, ho1, hg1⟩)
    | (at_builtin; refine wpList_append_bytes _ rfl _ _ 27 rfl w.heap.size 5 i0 Tryz.underlying27 hi hz0 hz1 hz2 v1 A rfl (ho1.new (World.grownBy_alloc w1 _ none)) (.slice (some ⟨w1.heap.size, 0, none⟩) 4 4) M rfl (hLit w1) lM2 (by simp; exact Nat.le_trans hg1.size (Nat.le_succ _)) ?_; intro v2 w2 ho2 hg2; rw [← hG.out] at ho2)
    | (at_builtin; refine wpList_append_bytes w2 rfl _ _ 27 rfl w.heap.size 5 i0 Tryz.underlying27 hi hz0 hz1 hz2 v2 G rfl ho2 (.slice a bs.length c) bs rfl ?_ hL7 (Nat.le_trans hg1.size (Nat.le_trans (World.grownBy_alloc w1 _ none).size hg2.size)) ?_; (case _ => exact (hr.all ((gbelow (hg1.trans (World.grownBy_alloc w1 _ none)) (Nat.le_refl _) (by simp)).trans (gbelow hg2 (Nat.le_trans hg1.size (World.grownBy_alloc w1 _ none).size) (fun k e => (ho1.lt k e).1))))); intro v3 w3 ho3 hg3))
  go_ret2
  have hb2 : Below w.heap.size w w2 := (gbelow (hg1.trans (World.grownBy_alloc w1 _ none)) (Nat.le_refl _) (by simp)).trans (gbelow hg2 (Nat.le_trans hg1.size (World.grownBy_alloc w1 _ none).size) (fun k e => (ho1.lt k e).1))
  refine ⟨v3, rfl, ?_, belowg (hb2.trans (gbelow hg3 hb2.size (fun k e => (ho2.lt k e).1))) none⟩
  rw [hG.out] at ho3
  rw [hE.out]
  exact ho3

def refErr (x : Int) : Value := .tuple #[.slice none 0 0, .int .i64 0, .int .i64 x]

theorem four_bytes (bs : List UInt8) (m : Nat) (h : m + 4 ≤ bs.length) : leNat ((bs.drop m).take 4) = bs[m].toNat + bs[m + 1].toNat * 256 + bs[m + 2].toNat * 65536 + bs[m + 3].toNat * 16777216 := by
  rw [List.drop_eq_getElem_cons (by omega), List.drop_eq_getElem_cons (by omega), List.drop_eq_getElem_cons (by omega), List.drop_eq_getElem_cons (by omega)]
  simp only [List.take_succ_cons, List.take_zero, leNat]
  show _ = bs[m].toNat + bs[m + 1].toNat * 256 + bs[m + 1 + 1].toNat * 65536 + bs[m + 1 + 1 + 1].toNat * 16777216
  omega

end Go.Proofs.YtpdacbiiaglodaaGreat
