/-
  LAYER 4 (utf): Each: its iterator tells the scalars with their places; Each itself.
-/
import Derived.Test.YtmpipgjdnpgemaaUNext
import Derived.Test.YtmpipgjdnpgemaaUEachP
import Derived.Test.YtmpipgjdnpgemaaRange
import Derived.Test.YtmpipgjdnpgemaaUScal
import Derived.TacticsInMore
import Derived.BigRegionIn
import Derived.LoopIn
import Derived.LoopNIn
import Derived.OwnWalkIn
namespace Go.Proofs.Ytmpipgjdnpgemaa
set_option maxRecDepth 100000
open Go.RowKit Go.Lib
attribute [local go_sem] Oper.semAt_some

set_option maxHeartbeats 8000000 in
theorem each1_tells (n : Nat) (b r n0 ib : Nat) (s : ByteArray) (w : World) (hw : Boxed w b 9 (.string s)) (hb : b < n0 ∧ b ≠ ib) (hs : s.size ≤ 1048576) :
    Tells Fence.wide (n + 3) Try.prog 42 #[.pointer (some ⟨b, 0, none⟩)] tEnc (tOk s.data.toList) r n0 ib (tAll s.data.toList) (fun _ _ => True) w := by
  intro l J Jx W hkx hn0 hJ hJx hY h0
  have hst : Boxed W b 9 (.string s) := (hkx.2 b hb.1 hb.2).trans hw
  have hm : s.size ≤ maxLen := by unfold maxLen; omega
  clear hw hkx
  refine callsIn_of_wp Try.func42 rfl trivial ?_ rfl
  simp only [Try.ntmps42, List.size_toArray, List.length_cons, List.length_nil, Nat.reduceAdd, Nat.reduceSub, Array.replicate_succ, Array.replicate_zero, List.push_toArray, List.append_toArray, List.nil_append, List.cons_append]
  gi_wp2
  gi_loopw [3] (fun va wr => ∃ (pre : List Told) (k : Nat), va = .int .i64 (k : Int) ∧ k ≤ s.size ∧ Hid (pls s.data.toList = pre ++ places k (rs (s.data.toList.drop k))) ∧ J pre wr ∧ Boxed wr b 9 (.string s) ∧ n0 ≤ wr.heap.size) (fun va _ => s.size - (RowKit.intOf va).toNat)
  case atStart => exact ⟨[], 0, rfl, Nat.zero_le _, Lib.hid rfl, h0, hst, hn0⟩
  case round =>
    clear h0 hst hn0
    obtain ⟨pre, k, rfl, hk, hfr, hj, hst, hn0⟩ := hrel
    have hc := hst.cell
    have hfo := hfr.out
    by_cases hlt : k < s.size
    · cases hd : dec (s.data.toList.drop k) with
      | none =>
        have hN := fun w => next_bad s k w hm hlt hd
        rw [places_none hd, List.append_nil] at hfo
        have hdone : tAll s.data.toList pre wr := hfo.symm
        clear hd hfr hfo
        gi_wp2_with (refine ⟨trivial, ?_⟩; gi_at_call 14; refine (callsIn_wide.2 (hN _)).mono ?_; rintro e W2 ⟨rfl, hb2⟩)
        refine ⟨fun _ h => (by cases h), ?_⟩
        gi_wp2
        all_goals first
          | (refine bodyPost_ret (results_none rfl _ _ _) rfl ?_; exact ⟨⟨_, rfl⟩, .inl ⟨pre, hdone, hJ _ _ _ hj (belowg hb2 _)⟩⟩)
          | (go_end0; exact ⟨⟨_, rfl⟩, .inl ⟨pre, hdone, hJ _ _ _ hj (belowg hb2 _)⟩⟩)
      | some x =>
        obtain ⟨rr, m⟩ := x
        have hN := fun w => next_ok s k rr m w hm hlt hd
        have h1 := dec_some hd
        simp at h1
        have hm1 := h1.1
        have hm2 := h1.2.2.1
        rw [places_some hd] at hfo
        have hget : (pls s.data.toList)[pre.length]? = some (k, rr, m) := by rw [hfo]; simp
        have hfr2 : Hid (pls s.data.toList = (pre ++ [((k, rr, m) : Told)]) ++ places (k + m) (rs (s.data.toList.drop (k + m)))) := Lib.hid (by rw [hfo]; simp)
        replace hget := Lib.hid hget
        clear hd hfr hfo h1
        gi_wp2_with (refine ⟨trivial, ?_⟩; gi_at_call 14; refine (callsIn_wide.2 (hN _)).mono ?_; rintro e W2 ⟨rfl, hb2⟩; have hgW : wr.grownBy W2 none := belowg hb2 _; obtain ⟨fn, tmps, assign, body, hy, hR⟩ := hY pre (k, rr, m) W2 (hJ _ _ _ hj (gbut hgW _)) hget.out (Nat.le_trans hn0 hgW.size); dsimp only [tEnc] at hy; have hst2 := hst.kept hgW (by simp))
        refine hR.mono ?_
        rintro e3 W3 (⟨rfl, hj3, hk3⟩ | ⟨rfl, hj3, hk3⟩)
        all_goals gi_wp2
        all_goals first
          | exact ⟨⟨pre ++ [(k, rr, m)], k + m, by go_num, by omega, hfr2, hj3, (hk3.2 b hb.1 hb.2).trans hst2, Nat.le_trans hn0 (Nat.le_trans hgW.size hk3.1)⟩, by simp [RowKit.intOf]; omega⟩
          | (refine bodyPost_ret (results_none rfl _ _ _) rfl ?_; exact ⟨⟨_, rfl⟩, .inr ⟨_, trivial, hj3⟩⟩)
          | (go_end0; exact ⟨⟨_, rfl⟩, .inr ⟨_, trivial, hj3⟩⟩)
    · rw [List.drop_eq_nil_of_le (by simp; omega)] at hfo
      have hdone : tAll s.data.toList pre wr := by unfold tAll; rw [hfo]; simp [rs, rsN, places]
      clear hfr hfo
      gi_wp2
      all_goals first
        | (refine bodyPost_ret (results_none rfl _ _ _) rfl ?_; exact ⟨⟨_, rfl⟩, .inl ⟨pre, hdone, hj⟩⟩)
        | (go_end0; exact ⟨⟨_, rfl⟩, .inl ⟨pre, hdone, hj⟩⟩)

set_option maxHeartbeats 1000000 in
theorem Each_any (s : ByteArray) (w : World) :
    Calls Try.prog 25 #[.string s] w fun e w' => e = .returned (.func (.func 42) #[] #[.pointer (some ⟨w.heap.size, 0, none⟩)]) ∧ Boxed w' w.heap.size 9 (.string s) ∧ w.grownBy w' none := by
  have hmf : ∀ (fn : Fn) (first cap : Array Value) (w : World), (Instr.makeFunc fn first cap).run Try.prog w = .ok (.func fn first cap) w := fun _ _ _ _ => rfl
  go_enter Try.func25, Try.ntmps25
  go_wp2
  go_ret
  exact ⟨rfl, Boxed.new w _ _, World.grownBy_alloc w _ none⟩
end Go.Proofs.Ytmpipgjdnpgemaa
