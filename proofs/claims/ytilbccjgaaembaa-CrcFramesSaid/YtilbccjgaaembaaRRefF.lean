/-
  LAYER 3 (crc): the reference's Frame and Unframe.
-/
import Derived.Test.YtilbccjgaaembaaRUnf
import Derived.Test.YtilbccjgaaembaaCRefW
import Derived.Test.YtilbccjgaaembaaCRefR
import Derived.Test.YtilbccjgaaembaaCRefF
import Derived.Test.YtilbccjgaaembaaCStr
import Derived.Deep.QuietTactic
import Derived.BigQuiet
import Derived.IntWalk
namespace Go.Proofs.Ytilbccjgaaembaa
set_option maxRecDepth 100000
open Go.RowKit Go.Lib

theorem leB4_cells (m : Nat) (h : m < 4294967296) : (byteCells (leB m 4)).toArray = #[Value.int .u8 ((m : Int) % 256), .int .u8 ((m : Int) / 256 % 256), .int .u8 ((m : Int) / 65536 % 256), .int .u8 ((m : Int) / 16777216)] := by
  have e : leB m 4 = [(m % 256).toUInt8, (m / 256 % 256).toUInt8, (m / 65536 % 256).toUInt8, (m / 16777216 % 256).toUInt8] := by
    rw [leB_succ, leB_succ, leB_succ, leB_succ, Nat.div_div_eq_div_mul, Nat.div_div_eq_div_mul]
    rfl
  rw [e]
  simp only [byteCells, List.map_cons, List.map_nil]
  rw [toUInt8_toNat (by omega), toUInt8_toNat (by omega), toUInt8_toNat (by omega), toUInt8_toNat (by omega)]
  rw [show m / 16777216 % 256 = m / 16777216 by omega]
  simp

set_option maxHeartbeats 4000000 in
theorem refFrame_ok (a : Option Addr) (l c : Nat) (bs : List UInt8) (w : World) (hr : Reads w (.slice a l c) bs) (hl : bs.length ≤ 16777216) :
    Calls Try.prog 60 #[.slice a l c] w fun e w' => ∃ v, e = .returned (.tuple #[v, .int .i64 0]) ∧ Owns w' w.heap.size 5 v (frame bs) ∧ w.grownBy w' none := by
  obtain ⟨rfl, hc, hm⟩ := hr.slice
  obtain ⟨i0, hi, hz0, hz1, hz2⟩ := info_parts infoU8
  have hS := refSum_any a bs.length c bs w hr
  have hsl : sum bs < 4294967296 := ext_lt 0 bs
  have hM := refMask_any (sum bs) hsl w
  have hU := refUint_any bs.length (by omega) w
  have hml := mask_lt (sum bs)
  have h4 := leB4_cells (mask (sum bs)) hml
  have hE := Lib.hid (show frame bs = Lib.uvarint bs.length ++ leB (mask (sum bs)) 4 ++ bs from rfl)
  have lA : (Lib.uvarint bs.length).length ≤ 10 := ulen_le (by omega)
  have lM : (leB (mask (sum bs)) 4).length = 4 := leB_length _ _
  have hLit := fun w0 : World => reads_lit' w0 5 (leB (mask (sum bs)) 4) (by rw [lM]; decide)
  rw [h4, lM] at hLit
  generalize frame bs = fr at hE ⊢
  generalize leB (mask (sum bs)) 4 = M at hE lM hLit
  generalize mask (sum bs) = ms at hM hml hLit
  generalize sum bs = sm at hS hM hsl
  generalize Lib.uvarint bs.length = A at hU hE lA
  obtain ⟨G, hG⟩ : ∃ G, G = A ++ M := ⟨_, rfl⟩
  have hL7 : G.length + bs.length ≤ 140737488355328 := by rw [hG, List.length_append]; omega
  have lM2 : A.length + M.length ≤ 140737488355328 := by omega
  replace hG := Lib.hid hG
  clear lM h4
  go_enter Try.func60, Try.ntmps60
  go_wp2_with (first
    | (go_at_call 53; refine hS.mono ?_; rintro e w' ⟨rfl, rfl⟩)
    | (go_at_call 57; refine hM.mono ?_; rintro e w' ⟨rfl, rfl⟩)
    | (go_at_call 18; refine hU.mono ?_; rintro e w1 ⟨v1, rfl, ho1, hg1⟩)
    | (at_builtin; refine wpList_append_bytes _ rfl _ _ 23 rfl w.heap.size 5 i0 Try.underlying23 hi hz0 hz1 hz2 v1 A rfl (ho1.new (World.grownBy_alloc w1 _ none)) (.slice (some ⟨w1.heap.size, 0, none⟩) 4 4) M rfl (hLit w1) lM2 (by simp; exact Nat.le_trans hg1.size (Nat.le_succ _)) ?_; intro v2 w2 ho2 hg2; rw [← hG.out] at ho2)
    | (at_builtin; refine wpList_append_bytes w2 rfl _ _ 23 rfl w.heap.size 5 i0 Try.underlying23 hi hz0 hz1 hz2 v2 G rfl ho2 (.slice a bs.length c) bs rfl ?_ hL7 (Nat.le_trans hg1.size (Nat.le_trans (World.grownBy_alloc w1 _ none).size hg2.size)) ?_; (case _ => exact (hr.all ((gbelow (hg1.trans (World.grownBy_alloc w1 _ none)) (Nat.le_refl _) (by simp)).trans (gbelow hg2 (Nat.le_trans hg1.size (World.grownBy_alloc w1 _ none).size) (fun k e => (ho1.lt k e).1))))); intro v3 w3 ho3 hg3))
  go_ret2
  have hb2 : Below w.heap.size w w2 := (gbelow (hg1.trans (World.grownBy_alloc w1 _ none)) (Nat.le_refl _) (by simp)).trans (gbelow hg2 (Nat.le_trans hg1.size (World.grownBy_alloc w1 _ none).size) (fun k e => (ho1.lt k e).1))
  refine ⟨v3, rfl, ?_, belowg (hb2.trans (gbelow hg3 hb2.size (fun k e => (ho2.lt k e).1))) none⟩
  rw [hG.out] at ho3
  rw [hE.out]
  exact ho3

def refErr (x : Int) : Value := .tuple #[.slice none 0 0, .int .i64 0, .int .i64 x]

set_option maxHeartbeats 4000000 in
theorem refUnframe_none (a : Option Addr) (l c : Nat) (bs : List UInt8) (w : World) (hr : Reads w (.slice a l c) bs) (h : sp bs = none) :
    Calls Try.prog 62 #[.slice a l c] w fun e w' => e = .returned (refErr 30) ∧ w = w' := by
  obtain ⟨rfl, hc, hm⟩ := hr.slice
  unfold maxLen at hm
  unfold refErr
  unfold sp at h
  split at h
  · rename_i x hx
    have hu : uRes bs = (0, 0, x) := by unfold uRes; rw [hx]
    have hx0 : (x != 0) = true := by rcases rd_err _ _ _ _ hx with rfl | rfl <;> rfl
    have hR := refReadUint_any a bs.length c bs 0 0 x w hr hu
    clear hu hx h
    go_enter Try.func62, Try.ntmps62
    go_wp2_with (go_at_call 22; refine hR.mono ?_; rintro e w1 ⟨rfl, rfl⟩)
    go_ret3
    exact ⟨rfl, rfl⟩
  · rename_i n m hrd
    have hu : uRes bs = (n, m, 0) := by unfold uRes; rw [hrd]
    have hml := (once_uint hrd).2.1
    have hn64 := (once_uint hrd).2.2
    have hR := refReadUint_any a bs.length c bs n m 0 w hr hu
    clear hu hrd
    split at h
    · cases h
    · rename_i hno
      clear h
      by_cases hn : n ≤ 16777216
      · by_cases h4 : m + 4 ≤ bs.length
        · have g1 : decide ((bs.length : Int) - (m : Int) < 4) = false := by simp; omega
          have g2 : decide ((bs.length : Int) - (m : Int) - 4 < (n : Int)) = true := by simp; omega
          clear hno hn64
          go_enter Try.func62, Try.ntmps62
          go_wp2_with (go_at_call 22; refine hR.mono ?_; rintro e w1 ⟨rfl, rfl⟩)
          go_ret3
          exact ⟨rfl, rfl⟩
        · have g1 : decide ((bs.length : Int) - (m : Int) < 4) = true := by simp; omega
          clear hno hn64
          go_enter Try.func62, Try.ntmps62
          go_wp2_with (go_at_call 22; refine hR.mono ?_; rintro e w1 ⟨rfl, rfl⟩)
          go_ret3
          exact ⟨rfl, rfl⟩
      · have g1 : decide ((16777216 : Int) < (n : Int)) = true := by simp; omega
        have g2 : decide (16777216 < n) = true := by simp; omega
        clear hno
        go_enter Try.func62, Try.ntmps62
        go_wp2_with (go_at_call 22; refine hR.mono ?_; rintro e w1 ⟨rfl, rfl⟩)
        go_ret3
        exact ⟨rfl, rfl⟩

theorem four_bytes (bs : List UInt8) (m : Nat) (h : m + 4 ≤ bs.length) : leNat ((bs.drop m).take 4) = bs[m].toNat + bs[m + 1].toNat * 256 + bs[m + 2].toNat * 65536 + bs[m + 3].toNat * 16777216 := by
  rw [List.drop_eq_getElem_cons (by omega), List.drop_eq_getElem_cons (by omega), List.drop_eq_getElem_cons (by omega), List.drop_eq_getElem_cons (by omega)]
  simp only [List.take_succ_cons, List.take_zero, leNat]
  show _ = bs[m].toNat + bs[m + 1].toNat * 256 + bs[m + 1 + 1].toNat * 65536 + bs[m + 1 + 1 + 1].toNat * 16777216
  omega

set_option maxHeartbeats 8000000 in
theorem refUnframe_some (a : Option Addr) (l c : Nat) (bs p : List UInt8) (f k : Nat) (w : World) (hr : Reads w (.slice a l c) bs) (h : sp bs = some (p, f, k)) :
    Calls Try.prog 62 #[.slice a l c] w fun e w' => ∃ v, e = .returned (if mask (sum p) = f then .tuple #[v, .int .i64 (k : Int), .int .i64 0] else refErr 31) ∧ Owns w' w.heap.size 5 v p ∧ w.grownBy w' none := by
  obtain ⟨rfl, hc, hm⟩ := hr.slice
  unfold maxLen at hm
  obtain ⟨i0, hi, hz0, hz1, hz2⟩ := info_parts infoU8
  obtain ⟨n, m, hrd, h1, h2, h3, h4, rfl, rfl⟩ := sp_some h
  have hu : uRes bs = (p.length, m, 0) := by unfold uRes; rw [hrd]
  have hR := refReadUint_any a bs.length c bs p.length m 0 w hr hu
  obtain ⟨a2, hcut2, hcr2, _⟩ := run_cut_in a bs.length c (m + 4) p.length hc h2
  have hcr2' := fun w' (hb : Below w.heap.size w w') => hcr2 w' bs (hr.all hb)
  rw [← h3] at hcr2'
  rw [show ((m + 4 : Nat) : Int) = (m : Int) + 4 by omega] at hcut2
  have g1 : decide ((bs.length : Int) - (m : Int) < 4) = false := by simp; omega
  have g2 : decide ((bs.length : Int) - (m : Int) - 4 < (p.length : Int)) = false := by simp; omega
  have hf := four_bytes bs m (by omega)
  rw [← h4] at hf
  obtain ⟨b, off, rfl, q0⟩ := hr.get (i := m) (by omega)
  have q1 : w.cell? ⟨b, off + (m + 1), none⟩ = some (.int .u8 ((bs[m + 1]).toNat : Int)) := by
    obtain ⟨b', off', e, q⟩ := hr.get (i := m + 1) (by omega); cases e; exact q
  have q2 : w.cell? ⟨b, off + (m + 2), none⟩ = some (.int .u8 ((bs[m + 2]).toNat : Int)) := by
    obtain ⟨b', off', e, q⟩ := hr.get (i := m + 2) (by omega); cases e; exact q
  have q3 : w.cell? ⟨b, off + (m + 3), none⟩ = some (.int .u8 ((bs[m + 3]).toNat : Int)) := by
    obtain ⟨b', off', e, q⟩ := hr.get (i := m + 3) (by omega); cases e; exact q
  have u0 := UInt8.toNat_lt bs[m]
  have u1 := UInt8.toNat_lt bs[m + 1]
  have u2 := UInt8.toNat_lt bs[m + 2]
  have u3 := UInt8.toNat_lt bs[m + 3]
  generalize (bs[m]).toNat = x0 at q0 hf u0
  generalize (bs[m + 1]).toNat = x1 at q1 hf u1
  generalize (bs[m + 2]).toNat = x2 at q2 hf u2
  generalize (bs[m + 3]).toNat = x3 at q3 hf u3
  have w1 : IntKind.i64.wrap ((m : Int) + 1) = (m : Int) + 1 := IntWalk.i64_in _ (by omega)
  have w2 : IntKind.i64.wrap ((m : Int) + 2) = (m : Int) + 2 := IntWalk.i64_in _ (by omega)
  have w3 : IntKind.i64.wrap ((m : Int) + 3) = (m : Int) + 3 := IntWalk.i64_in _ (by omega)
  have t1 : ((m : Int) + 1).toNat = m + 1 := by omega
  have t2 : ((m : Int) + 2).toNat = m + 2 := by omega
  have t3 : ((m : Int) + 3).toNat = m + 3 := by omega
  have l0 : (m : Int) < (bs.length : Int) := by omega
  have l1 : (m : Int) + 1 < (bs.length : Int) := by omega
  have l2 : (m : Int) + 2 < (bs.length : Int) := by omega
  have l3 : (m : Int) + 3 < (bs.length : Int) := by omega
  have hfI : (x0 : Int) + (x1 : Int) * 256 + (x2 : Int) * 65536 + (x3 : Int) * 16777216 = (f : Int) := by rw [hf]; simp
  have hf32 : f < 4294967296 := by omega
  have hS := fun w1 v1 (ho : Reads w1 v1 p) a1 c1 (e : v1 = .slice a1 p.length c1) => refSum_any a1 p.length c1 p w1 (e ▸ ho)
  have hsl : sum p < 4294967296 := ext_lt 0 p
  have hM := refMask_any (sum p) hsl
  clear hcr2 h h3 h4 hu hrd hf
  by_cases hmf : mask (sum p) = f
  · simp only [if_pos hmf]
    rw [hmf] at hM
    have hk : ((m + 4 + p.length : Nat) : Int) = (m : Int) + 4 + (p.length : Int) := by omega
    simp only [hk]
    clear hmf hk
    generalize sum p = sm at hS hM hsl
    go_enter Try.func62, Try.ntmps62
    go_wp2_with (go_at_call 22; refine hR.mono ?_; rintro e w1 ⟨rfl, rfl⟩)
    go_quiet (fail)
    clear hfI q0 q1 q2 q3 w1 w2 w3 t1 t2 t3
    have hbd : Below w.heap.size w (w.drewN nq) := ⟨rfl, rfl, rfl, Nat.le_refl _, fun _ _ => rfl⟩
    have hrp := hcr2' _ hbd
    go_wp2_with (first | (at_builtin; refine wpList_append_bytes _ rfl (.const (.slice none 0 0)) _ 23 rfl w.heap.size 5 i0 Try.underlying23 hi hz0 hz1 hz2 _ [] rfl (owns_nil _ _ _) _ p rfl hrp (by simp; omega) (Nat.le_refl _) ?_; intro v3 w3 ho3 hg3; replace hg3 : (w.drewN nq).grownBy w3 none := hg3; rw [List.nil_append] at ho3; obtain ⟨a3, c3, rfl⟩ := ho3.reads.form) | (go_at_call 53; refine (hS _ _ ho3.reads _ _ rfl).mono ?_; rintro e w' ⟨rfl, rfl⟩) | (go_at_call 57; refine (hM _).mono ?_; rintro e w' ⟨rfl, rfl⟩))
    go_ret3
    exact ⟨_, rfl, ho3, ⟨hg3.os, hg3.tape, hg3.output, hg3.size, hg3.block⟩⟩
  · simp only [if_neg hmf]
    have hne : ((mask (sum p) : Int) != (f : Int)) = true := by
      simp only [bne_iff_ne, ne_eq, Int.natCast_inj]
      exact hmf
    unfold refErr
    clear hmf
    generalize mask (sum p) = ms at hM hne
    generalize sum p = sm at hS hM hsl
    go_enter Try.func62, Try.ntmps62
    go_wp2_with (go_at_call 22; refine hR.mono ?_; rintro e w1 ⟨rfl, rfl⟩)
    go_quiet (fail)
    clear hfI q0 q1 q2 q3 w1 w2 w3 t1 t2 t3
    have hbd : Below w.heap.size w (w.drewN nq) := ⟨rfl, rfl, rfl, Nat.le_refl _, fun _ _ => rfl⟩
    have hrp := hcr2' _ hbd
    go_wp2_with (first | (at_builtin; refine wpList_append_bytes _ rfl (.const (.slice none 0 0)) _ 23 rfl w.heap.size 5 i0 Try.underlying23 hi hz0 hz1 hz2 _ [] rfl (owns_nil _ _ _) _ p rfl hrp (by simp; omega) (Nat.le_refl _) ?_; intro v3 w3 ho3 hg3; replace hg3 : (w.drewN nq).grownBy w3 none := hg3; rw [List.nil_append] at ho3; obtain ⟨a3, c3, rfl⟩ := ho3.reads.form) | (go_at_call 53; refine (hS _ _ ho3.reads _ _ rfl).mono ?_; rintro e w' ⟨rfl, rfl⟩) | (go_at_call 57; refine (hM _).mono ?_; rintro e w' ⟨rfl, rfl⟩))
    go_ret3
    exact ⟨_, rfl, ho3, ⟨hg3.os, hg3.tape, hg3.output, hg3.size, hg3.block⟩⟩
end Go.Proofs.Ytilbccjgaaembaa
