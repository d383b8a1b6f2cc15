/-
  LAYER 2 (codec): the reference's Same; At; the iterator of a reader's fields.
-/
import Derived.Test.YtilbccjgaaembaaCRdLaw
import Derived.Test.YtilbccjgaaembaaCStr
import Derived.Test.YtilbccjgaaembaaCBack
import Derived.Test.YtilbccjgaaembaaCRefL
import Derived.Test.YtilbccjgaaembaaRange
import Derived.Deep.QuietTactic
import Derived.BigQuiet
import Derived.TacticsInMore
import Derived.BigRegionIn
import Derived.LoopIn
import Derived.LoopNIn
import Derived.OwnWalkIn
import Derived.RangeFuncNested
namespace Go.Proofs.Ytilbccjgaaembaa
set_option maxRecDepth 100000
open Go.RowKit Go.Lib
attribute [local go_sem] Oper.semAt_some

theorem ReadsL.drewN {w : World} {v : Value} {L : List (List UInt8)} (h : ReadsL w v L) (n : Nat) : ReadsL (w.drewN n) v L := h

set_option maxRecDepth 100000 in
set_option maxHeartbeats 2000000 in
theorem refSame_any (a : Option Addr) (l c : Nat) (b : Option Addr) (l2 c2 : Nat) (L : List (List UInt8)) (w : World) (ha : ReadsL w (.slice a l c) L) (hb : ReadsL w (.slice b l2 c2) L) :
    Calls Try.prog 30 #[.slice a l c, .slice b l2 c2] w fun e w' => e = .returned (.bool true) ∧ ∃ m, w' = w.drewN m := by
  obtain ⟨rfl, hc, hm⟩ := ha.len
  obtain ⟨rfl, hc2, hm2⟩ := hb.len
  unfold maxLen at hm hm2
  go_enter Try.func30, Try.ntmps30
  go_wp2
  go_loopw [5] (fun vi wr => ∃ i p : Nat, vi = .int .i64 (i : Int) ∧ i ≤ L.length ∧ wr = w.drewN p) (fun vi _ => L.length - (RowKit.intOf vi).toNat)
  case atStart => exact ⟨0, 0, rfl, Nat.zero_le _, rfl⟩
  case round =>
    obtain ⟨i, p, rfl, hi, rfl⟩ := hrel
    by_cases hlt : i < L.length
    · obtain ⟨b1, o1, v1, rfl, k1, hr1⟩ := ha.get hlt
      obtain ⟨b2, o2, v2, rfl, k2, hr2⟩ := hb.get hlt
      obtain ⟨F, hF⟩ : ∃ F, L[i] = F := ⟨_, rfl⟩
      rw [hF] at hr1 hr2
      obtain ⟨a1, c1, rfl⟩ := hr1.form
      obtain ⟨a2, c2', rfl⟩ := hr2.form
      have q1 := fun n => conv_of (hr1.new (gdrewN (World.grownBy.refl w none) n))
      have q2 := fun n => conv_of (hr2.new (gdrewN (World.grownBy.refl w none) n))
      have hFF : (F != F) = false := by simp
      clear hr1 hr2 hF ha hb
      go_wp2
      go_quiet (fail)
      go_wp2
      go_roundw
      case rel => exact ⟨i + 1, _, by go_num, by omega, rfl⟩
      case measure => simp [RowKit.intOf]; omega
    · clear ha hb
      go_wp2
      go_ret
      exact ⟨rfl, p, rfl⟩

/-! ### the iterator of a reader's fields -/
def offL (L : List (List UInt8)) (k : Nat) : Nat := ((L.take k).map field).flatten.length
theorem offL_zero (L : List (List UInt8)) : offL L 0 = 0 := rfl
theorem offL_succ {L : List (List UInt8)} {k : Nat} (h : k < L.length) : offL L (k + 1) = offL L k + (field L[k]).length := by
  unfold offL
  rw [List.take_add_one, List.getElem?_eq_getElem h, List.map_append, List.flatten_append, List.length_append]
  simp only [Option.toList_some, List.map_cons, List.map_nil, List.flatten_cons, List.flatten_nil, List.append_nil]
theorem offL_end (L : List (List UInt8)) : offL L L.length = ((L.map field).flatten).length := by
  unfold offL; rw [List.take_length]
theorem drop_off (L : List (List UInt8)) (k : Nat) : ((L.map field).flatten).drop (offL L k) = ((L.drop k).map field).flatten := by
  have h : (L.map field).flatten = ((L.take k).map field).flatten ++ ((L.drop k).map field).flatten := by
    rw [← List.flatten_append, ← List.map_append, List.take_append_drop]
  rw [h]
  unfold offL
  rw [List.drop_left']
  rfl
theorem offL_le (L : List (List UInt8)) (k : Nat) : offL L k ≤ ((L.map field).flatten).length := by
  have h : (L.map field).flatten = ((L.take k).map field).flatten ++ ((L.drop k).map field).flatten := by
    rw [← List.flatten_append, ← List.map_append, List.take_append_drop]
  rw [h, List.length_append]
  unfold offL
  omega
theorem field_pos (f : List UInt8) : 1 ≤ (field f).length := by
  unfold field
  rw [List.length_append]
  have := Lib.uvarint_pos f.length
  omega

abbrev FTold := Nat × List UInt8 × Value
def fEnc (x : FTold) : Array Value := #[.int .i64 (x.1 : Int), x.2.2]
def fOk (L : List (List UInt8)) (pre : List FTold) (x : FTold) (W : World) : Prop := Reads W x.2.2 x.2.1 ∧ x.1 = pre.length ∧ L[pre.length]? = some x.2.1
def fAll (L : List (List UInt8)) (r : Nat) (v : Value) (n : Nat) (xs : List FTold) (W : World) : Prop := xs.length = L.length ∧ Rd W r v n 0

theorem Reads.heap2 {A B : World} {v : Value} {bs : List UInt8} (h : Reads A v bs) (hb : bs ≠ [] → ∀ k, v.ownBlock = some k → B.heap[k]? = A.heap[k]?) : Reads B v bs := by
  rcases h with h | ⟨b, off, cap, rfl, h1, h2, hc⟩
  · exact .inl h
  · refine .inr ⟨b, off, cap, rfl, h1, h2, fun i u hu => ?_⟩
    have hn : bs ≠ [] := by rintro rfl; simp at hu
    have := hb hn b rfl
    have h3 := hc i u hu
    simp only [World.cell?] at h3 ⊢
    rw [this]; exact h3

set_option maxHeartbeats 8000000 in
theorem rEach1_tells (n p r n0 ib : Nat) (a : Option Addr) (c : Nat) (L : List (List UInt8)) (bs : List UInt8) (w : World) (hbs : bs = (L.map field).flatten) (hL : ∀ f ∈ L, f.length ≤ 1048576) (_hcap : bs.length ≤ 1048576)
    (hlen : L.length ≤ 1048576)
    (hw : Boxed w p 58 (.pointer (some ⟨r, 0, none⟩))) (hR : Rd w r (.slice a bs.length c) 0 0) (hr : Reads w (.slice a bs.length c) bs)
    (hp : p < n0 ∧ p ≠ ib ∧ p ≠ r) (hrn : r < n0 ∧ r ≠ ib) (hv : bs ≠ [] → ∀ k, (Value.slice a bs.length c).ownBlock = some k → k < n0 ∧ k ≠ ib ∧ k ≠ r) :
    Tells Fence.wide (n + 3) Try.prog 85 #[.pointer (some ⟨p, 0, none⟩)] fEnc (fOk L) r n0 ib (fAll L r (.slice a bs.length c) bs.length) (fun _ _ => True) w := by
  intro l J Jx W hkx hn0 hJ hJx hY h0
  have hst : Boxed W p 58 (.pointer (some ⟨r, 0, none⟩)) := (hkx.2 p hp.1 hp.2.1).trans hw
  have hRW : Rd W r (.slice a bs.length c) 0 0 := (hkx.2 r hrn.1 hrn.2).trans hR
  have hrW : Reads W (.slice a bs.length c) bs := hr.heap2 (fun hne k e => hkx.2 k (hv hne k e).1 (hv hne k e).2.1)
  have hoe := offL_end L
  rw [← hbs] at hoe
  replace hoe := Lib.hid hoe
  replace hbs := Lib.hid hbs
  clear hw hR hr hkx
  refine callsIn_of_wp Try.func85 rfl trivial ?_ rfl
  simp only [Try.ntmps85, List.size_toArray, List.length_cons, List.length_nil, Nat.reduceAdd, Nat.reduceSub, Array.replicate_succ, Array.replicate_zero, List.push_toArray, List.append_toArray, List.nil_append, List.cons_append]
  gi_wp2
  gi_loopw [3] (fun va wr => ∃ (pre : List FTold) (k : Nat), va = .int .i64 (k : Int) ∧ Hid (pre.length = k) ∧ k ≤ L.length ∧ J pre wr ∧ Boxed wr p 58 (.pointer (some ⟨r, 0, none⟩)) ∧ Hid (Rd wr r (.slice a bs.length c) (offL L k) 0) ∧ Reads wr (.slice a bs.length c) bs ∧ n0 ≤ wr.heap.size) (fun va _ => L.length - (RowKit.intOf va).toNat)
  case atStart => exact ⟨[], 0, rfl, Lib.hid rfl, Nat.zero_le _, h0, hst, Lib.hid (by rw [offL_zero]; exact hRW), hrW, hn0⟩
  case round =>
    clear h0 hst hRW hrW hn0
    obtain ⟨pre, k, rfl, hpl, hk, hj, hst, hR, hr, hn0⟩ := hrel
    have hc := hst.cell
    have hRo := hR.out
    have hle := offL_le L k
    rw [← hbs.out] at hle
    by_cases hlt : k < L.length
    · have hos := offL_succ hlt
      have hfp := field_pos L[k]
      have hle2 := offL_le L (k + 1)
      rw [← hbs.out] at hle2
      have hrd : rdField (bs.drop (offL L k)) = .ok (L[k], (field L[k]).length) := by
        rw [hbs.out, drop_off, List.drop_eq_getElem_cons hlt]
        exact back_field _ _ (hL _ (List.getElem_mem hlt))
      obtain ⟨O, hO⟩ : ∃ O, O = offL L k := ⟨_, rfl⟩
      obtain ⟨F, hF⟩ : ∃ F, F = L[k] := ⟨_, rfl⟩
      rw [← hO, ← hF] at hos hrd
      rw [← hO] at hRo hle
      rw [← hF] at hfp
      have hget : L[k]? = some F := by rw [hF]; exact List.getElem?_eq_getElem hlt
      have hdn : dn bs.length O 0 = 22 := by unfold dn; rw [if_pos rfl, if_pos (by omega)]
      have hD := fun w (h : Rd w r (.slice a bs.length c) O 0) => Done_all r a bs.length c O 0 w h hle
      rw [hdn] at hD
      have hFd := fun w (h : Rd w r (.slice a bs.length c) O 0) (h2 : Reads w (.slice a bs.length c) bs) => rField_ok r a bs.length c bs O F _ w h h2 hle hrd
      rw [← hos] at hFd
      replace hget := Lib.hid hget
      clear hO hF hdn hrd hos hR hle
      gi_wp2_with (first
        | (refine ⟨trivial, ?_⟩; gi_at_call 36; refine (callsIn_wide.2 (hD _ hRo)).mono ?_; rintro e W2 ⟨rfl, ⟨q, rfl⟩⟩)
        | (refine ⟨trivial, ?_⟩; gi_at_call 44; refine (callsIn_wide.2 (hFd _ (hRo.drewN q) (hr.new (gdrewN (World.grownBy.refl wr none) q)))).mono ?_; rintro e W3 ⟨v3, rfl, ho3, hg3, hR3⟩; have hg3' : wr.grownBy W3 (some r) := gnew (gdrewN (World.grownBy.refl wr (some r)) q) hg3 (fun k e => .inr e); have hst3 := hst.kept hg3' (by simp; omega); have hc3 := hst3.cell; have hr3 := hRo.carry hr hg3')
        | (refine ⟨trivial, ?_⟩; gi_at_call 48; refine (callsIn_wide.2 (err_rd _ _ _ _ _ hR3)).mono ?_; rintro e W4 ⟨rfl, rfl⟩; obtain ⟨fn, tmps, assign, body, hy, hRd⟩ := hY pre (k, F, v3) _ (hJ _ _ _ hj hg3') ⟨ho3.reads, hpl.out.symm, by rw [hpl.out]; exact hget.out⟩ (Nat.le_trans hn0 hg3'.size); dsimp only [fEnc] at hy))
      refine hRd.mono ?_
      rintro e3 W5 (⟨rfl, hj3, hk3⟩ | ⟨rfl, hj3, hk3⟩)
      all_goals gi_wp2
      all_goals first
        | exact ⟨⟨pre ++ [(k, F, v3)], k + 1, by go_num, Lib.hid (by simp [hpl.out]), by omega, hj3, (hk3.2 p hp.1 hp.2.1).trans hst3, Lib.hid ((hk3.2 r hrn.1 hrn.2).trans hR3), hr3.heap2 (fun hne k e => hk3.2 k (hv hne k e).1 (hv hne k e).2.1), Nat.le_trans hn0 (Nat.le_trans hg3'.size hk3.1)⟩, by simp [RowKit.intOf]; omega⟩
        | (refine bodyPost_ret (results_none rfl _ _ _) rfl ?_; exact ⟨⟨_, rfl⟩, .inr ⟨_, trivial, hj3⟩⟩)
        | (go_end0; exact ⟨⟨_, rfl⟩, .inr ⟨_, trivial, hj3⟩⟩)
    · obtain rfl : k = L.length := by omega
      have hR2 : Rd wr r (.slice a bs.length c) bs.length 0 := by rw [hoe.out] at hRo; exact hRo
      have hdn : dn bs.length bs.length 0 = 0 := by unfold dn; rw [if_pos rfl, if_neg (by omega)]
      have hD := Done_all r a bs.length c bs.length 0 wr hR2 (Nat.le_refl _)
      rw [hdn] at hD
      have hSfin : ∀ q, fAll L r (.slice a bs.length c) bs.length pre (wr.drewN q) := fun q => ⟨hpl.out, hR2⟩
      clear hdn hRo hle hR
      gi_wp2_with (refine ⟨trivial, ?_⟩; gi_at_call 36; refine (callsIn_wide.2 hD).mono ?_; rintro e W2 ⟨rfl, ⟨q, rfl⟩⟩)
      all_goals first
        | (refine bodyPost_ret (results_none rfl _ _ _) rfl ?_; exact ⟨⟨_, rfl⟩, .inl ⟨pre, hSfin q, hJ _ _ _ hj (gdrewN (World.grownBy.refl wr _) q)⟩⟩)
        | (go_end0; exact ⟨⟨_, rfl⟩, .inl ⟨pre, hSfin q, hJ _ _ _ hj (gdrewN (World.grownBy.refl wr _) q)⟩⟩)
end Go.Proofs.Ytilbccjgaaembaa
