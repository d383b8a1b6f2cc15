/-
  LAYER 1 (fs): isFull.
-/
import Derived.Test.YtfgmaeaojkfakaaGreatFFull
import Derived.Deep.DeepCutAuto
import Derived.Deep.RegionHeld3
import Derived.Deep.QuietTactic
import Derived.BigQuiet
namespace Go.Proofs.YtfgmaeaojkfakaaGreat
set_option maxRecDepth 100000
open Go.RowKit Go.Lib
attribute [local go_sem] Oper.semAt_some
theorem quiet_eqF {P : Program} {f : FuncId} {args : Array Value} {w : World} {n : Nat} {v : Value}
    (h : Calls P f args (w.drewN n) fun e w' => e = .returned v ∧ w.drewN n = w') : Calls P f args (w.drewN n) fun e w'' => e = .returned v ∧ ∃ m, w'' = w.drewN m :=
  h.mono fun _ _ ⟨he, hm⟩ => ⟨he, n, hm.symm⟩
section
variable {w : World} {q : Nat} {dead : Bool} {p : PlV} {ops : Int} {d s : Nat} {mv : Value}
set_option maxHeartbeats 2000000 in
theorem isFull_fs (B : Nat) (full : List Int) (w : World) (h : FsAt w q dead p ops d s mv) (ho : w.ownsRow B 3 1 p.u full.length ((inOrd full).map intV)) (hsz : full.length < 4611686018427387904) :
    Calls Tryz.prog 60 #[.pointer (some ⟨q, 0, none⟩)] w fun e w' => e = .returned (.bool (full.contains ops)) ∧ ∃ m, w' = w.drewN m := by
  have h5 := h.full
  have hb := fun n => search_own B _ _ full ops (w.drewN n) (World.ownsRow.kept ho (gdrewN (World.grownBy.refl w none) n) (by cases p.u.ownBlock <;> simp)) rfl hsz
  have ho' := fun n => ops_fs (w.drewN n) (show FsAt (w.drewN n) q dead p ops d s mv from h)
  obtain ⟨a, c, e⟩ := rowForm ho
  rw [e] at h5 hb
  go_enter Tryz.func60, Tryz.ntmps60
  go_wp2_with (fail)
  go_quiet ((first | (go_at_call 28; exact quiet_eqF (ho' _)) | (go_at_call 85; exact Calls.quiet_of (hb _))))
  go_wp2_with (fail)
  go_ret
  exact ⟨by simp, _, rfl⟩

theorem decide_contains (l : List Int) (x : Int) : decide (x ∈ l) = l.contains x := by simp

set_option maxHeartbeats 2000000 in
/-- An operation that neither dies nor finds the file system dead: it is counted; the plan may let it fail. -/
theorem begin_fs (B : Nat) (fail : List Int) (w : World) (h : FsAt w q false p ops d s mv) (h0 : 0 ≤ ops) (h9 : ops < 4611686018427387904) (hc : ops + 1 ≠ p.c) (ho : w.ownsRow B 3 1 p.f fail.length ((inOrd fail).map intV)) (hq : p.f.ownBlock ≠ some q) (hsz : fail.length < 4611686018427387904) :
    Calls Tryz.prog 57 #[.pointer (some ⟨q, 0, none⟩)] w fun e w' => e = .returned (.int .i64 (if fail.contains (ops + 1) then 10 else 0)) ∧ ∃ m, w' = (w.setCell ⟨q, 7, none⟩ (.int .i64 (ops + 1))).drewN m := by
  have h1 := h.setOps (ops + 1)
  have ho1 := World.ownsRow.kept ho (gset (World.grownBy.refl w (some q)) 7 (.int .i64 (ops + 1))) (.inr hq)
  have hb := search_own B _ _ fail (ops + 1) _ ho1 rfl hsz
  have c2 := h1.crash
  have c4 := h1.fail
  obtain ⟨a, c, e⟩ := rowForm ho
  rw [e] at c4 hb
  have hce : (ops + 1 == p.c) = false := by simpa using hc
  obtain ⟨W, hW⟩ : ∃ W, W = w.setCell ⟨q, 7, none⟩ (.int .i64 (ops + 1)) := ⟨_, rfl⟩
  rw [← hW] at h1 ho1 hb c2 c4 ⊢
  replace hW := Lib.hid hW
  obtain ⟨bo, hbo⟩ : ∃ bo, fail.contains (ops + 1) = bo := ⟨_, rfl⟩
  rw [hbo] at hb ⊢
  clear hbo
  cases bo
  all_goals
    go_enter Tryz.func57, Tryz.ntmps57
    go_wp2_with (first
      | (go_at_call 21; refine (dead_fs _ h).mono ?_; rintro e w' ⟨rfl, rfl⟩)
      | (go_at_call 84; refine (add_fs _ h h0 h9).mono ?_; rintro e w' ⟨rfl, hw2⟩; have hw3 := hw2.trans hW.out.symm; clear hw2; subst hw3)
      | (go_at_call 85; refine hb.mono ?_; rintro e w' ⟨rfl, m, rfl⟩))
    go_ret
    exact ⟨rfl, m, rfl⟩
end
end Go.Proofs.YtfgmaeaojkfakaaGreat
