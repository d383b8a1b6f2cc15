/-
  LAYER 4 (utf): scalars: its iterator tells the scalars with their places, and throws where no form begins.
-/
import Derived.Test.YtmpipgjdnpgemaaUPanic
import Derived.Test.YtmpipgjdnpgemaaUFirst
import Derived.Test.YtmpipgjdnpgemaaUEachP
import Derived.TacticsInMore
import Derived.BigRegionIn
import Derived.LoopIn
import Derived.LoopNIn
import Derived.OwnWalkIn
import Derived.Laws.Pointers
import Derived.Maps.RangeWalk
import Derived.RangeFuncBox
namespace Go.Proofs.Ytmpipgjdnpgemaa
set_option maxRecDepth 100000
open Go.RowKit Go.Lib
attribute [local go_sem] Oper.semAt_some

def tEnc (x : Told) : Array Value := #[.int .i64 (x.1 : Int), .int .i32 (x.2.1 : Int)]
def tOk (l : List UInt8) (pre : List Told) (x : Told) (_W : World) : Prop := (pls l)[pre.length]? = some x
def tAll (l : List UInt8) (xs : List Told) (_W : World) : Prop := xs = pls l
/-- What is thrown. -/
def thrown (x : Int) : List PanicEntry := [{ v := .iface 69 (.int .i64 x), recovered := false }]
/-- All is told, and nothing is left. -/
def sAll (l : List UInt8) (xs : List Told) (_W : World) : Prop := xs = pls l ∧ tot l = l.length
/-- All is told, and something is left. -/
def sBad (l : List UInt8) (ch : List PanicEntry) (pre : List Told) (_W : World) : Prop := pre = pls l ∧ tot l ≠ l.length ∧ ch = thrown (tot l : Int)

set_option maxHeartbeats 8000000 in
theorem scal1_tells (n : Nat) (b n0 ib : Nat) (s : ByteArray) (w : World) (hw : Boxed w b 9 (.string s)) (hb : b < n0 ∧ b ≠ ib) (hm : s.size ≤ maxLen) :
    TellsP Fence.wide (n + 3) Try.prog 45 #[.pointer (some ⟨b, 0, none⟩)] tEnc (tOk s.data.toList) none n0 ib (sAll s.data.toList) (fun _ _ => True) (sBad s.data.toList) w := by
  intro l J Jx W hkx hn0 hJ hJx hY h0
  have hst : Boxed W b 9 (.string s) := (hkx.2 b hb.1 hb.2).trans hw
  have hsz : s.data.toList.length = s.size := by simp
  clear hw hkx
  refine callsIn_of_wp Try.func45 rfl trivial ?_ rfl
  simp only [Try.ntmps45, List.size_toArray, List.length_cons, List.length_nil, Nat.reduceAdd, Nat.reduceSub, Array.replicate_succ, Array.replicate_zero, List.push_toArray, List.append_toArray, List.nil_append, List.cons_append]
  gi_wp2
  gi_loopw [3] (fun va wr => ∃ (pre : List Told) (k : Nat), va = .int .i64 (k : Int) ∧ k ≤ s.size ∧ Hid (pls s.data.toList = pre ++ places k (rs (s.data.toList.drop k))) ∧ Hid (k + tot (s.data.toList.drop k) = tot s.data.toList) ∧ J pre wr ∧ Boxed wr b 9 (.string s) ∧ n0 ≤ wr.heap.size) (fun va _ => s.size - (RowKit.intOf va).toNat)
  case atStart => exact ⟨[], 0, rfl, Nat.zero_le _, Lib.hid rfl, Lib.hid (by simp), h0, hst, hn0⟩
  case round =>
    clear h0 hst hn0
    obtain ⟨pre, k, rfl, hk, hfr, htt, hj, hst, hn0⟩ := hrel
    have hc := hst.cell
    have hfo := hfr.out
    have hto := htt.out
    have hm' := hm
    unfold maxLen at hm'
    by_cases hlt : k < s.size
    · have hN := fun w => first_any s k _ w hm hlt rfl
      cases hd : dec (s.data.toList.drop k) with
      | none =>
        rw [hd] at hN
        rw [places_none hd, List.append_nil] at hfo
        rw [tot_none hd, Nat.add_zero] at hto
        have hdone : sBad s.data.toList (thrown (k : Int)) pre wr := ⟨hfo.symm, by rw [hsz, ← hto]; omega, by rw [← hto]⟩
        replace hdone := Lib.hid hdone
        clear hd hfr hfo htt hto hsz
        gi_wp2_with (refine ⟨trivial, ?_⟩; gi_at_call 36; refine (callsIn_wide.2 (hN _)).mono ?_; rintro e W2 ⟨rfl, ⟨m, rfl⟩⟩)
        exact ⟨rfl, .inr ⟨_, pre, rfl, hdone.out, hJ _ _ _ hj (gdrewN (World.grownBy.refl _ _) m)⟩⟩
      | some x =>
        obtain ⟨rr, m⟩ := x
        rw [hd] at hN
        have h1 := dec_some hd
        simp at h1
        have hm1 := h1.1
        have hm2 := h1.2.2.1
        rw [places_some hd] at hfo
        rw [tot_some hd, List.drop_drop, ← Nat.add_assoc] at hto
        have hget : (pls s.data.toList)[pre.length]? = some (k, rr, m) := by rw [hfo]; simp
        have hfr2 : Hid (pls s.data.toList = (pre ++ [((k, rr, m) : Told)]) ++ places (k + m) (rs (s.data.toList.drop (k + m)))) := Lib.hid (by rw [hfo]; simp)
        replace hget := Lib.hid hget
        replace hto := Lib.hid hto
        clear hd hfr hfo h1 htt hsz
        gi_wp2_with (refine ⟨trivial, ?_⟩; gi_at_call 36; refine (callsIn_wide.2 (hN _)).mono ?_; rintro e W2 ⟨rfl, ⟨p, rfl⟩⟩; have hgW : wr.grownBy (wr.drewN p) none := gdrewN (World.grownBy.refl _ _) p; have hst2 := hst.kept hgW (by simp); obtain ⟨W2, hW2⟩ : ∃ W2, wr.drewN p = W2 := ⟨_, rfl⟩; rw [hW2] at hgW hst2 ⊢; clear hW2; obtain ⟨fn, tmps, assign, body, hy, hR⟩ := hY pre (k, rr, m) W2 (hJ _ _ _ hj hgW) hget.out (Nat.le_trans hn0 hgW.size); dsimp only [tEnc] at hy)
        refine hR.mono ?_
        rintro e3 W3 (⟨rfl, hj3, hk3⟩ | ⟨rfl, hj3, hk3⟩)
        all_goals gi_wp2
        all_goals first
          | exact ⟨⟨pre ++ [(k, rr, m)], k + m, by go_num, by omega, hfr2, hto, hj3, (hk3.2 b hb.1 hb.2).trans hst2, Nat.le_trans hn0 (Nat.le_trans hgW.size hk3.1)⟩, by simp [RowKit.intOf]; omega⟩
          | (refine bodyPost_ret (results_none rfl _ _ _) rfl ?_; exact .inl ⟨⟨_, rfl⟩, .inr ⟨_, trivial, hj3⟩⟩)
          | (go_end0; exact .inl ⟨⟨_, rfl⟩, .inr ⟨_, trivial, hj3⟩⟩)
    · rw [List.drop_eq_nil_of_le (by simp; omega)] at hfo hto
      have hdone : sAll s.data.toList pre wr := ⟨by rw [hfo]; simp [rs, rsN, places], by rw [hsz, ← hto, tot_nil]; omega⟩
      clear hfr hfo htt hto
      gi_wp2
      all_goals first
        | (refine bodyPost_ret (results_none rfl _ _ _) rfl ?_; exact .inl ⟨⟨_, rfl⟩, .inl ⟨pre, hdone, hj⟩⟩)
        | (go_end0; exact .inl ⟨⟨_, rfl⟩, .inl ⟨pre, hdone, hj⟩⟩)

set_option maxHeartbeats 1000000 in
theorem scalars_any (s : ByteArray) (w : World) :
    Calls Try.prog 30 #[.string s] w fun e w' => e = .returned (.func (.func 45) #[] #[.pointer (some ⟨w.heap.size, 0, none⟩)]) ∧ Boxed w' w.heap.size 9 (.string s) ∧ w.grownBy w' none := by
  have hmf : ∀ (fn : Fn) (first cap : Array Value) (w : World), (Instr.makeFunc fn first cap).run Try.prog w = .ok (.func fn first cap) w := fun _ _ _ _ => rfl
  go_enter Try.func30, Try.ntmps30
  go_wp2
  go_ret
  exact ⟨rfl, Boxed.new w _ _, World.grownBy_alloc w _ none⟩
end Go.Proofs.Ytmpipgjdnpgemaa
