/-
  LAYER 1 (fs): Sync where nothing fails and nothing dies.
-/
import Derived.Test.YtfgmaeaojkfakaaGreatFBegin
import Derived.Test.YtfgmaeaojkfakaaGreatFTurn
namespace Go.Proofs.YtfgmaeaojkfakaaGreat
set_option maxRecDepth 100000
open Go.RowKit Go.Lib
attribute [local go_sem] Oper.semAt_some

section
variable {w : World} {q : Nat} {p : PlV} {ops : Int} {d s : Nat} {mv : Value}
set_option maxHeartbeats 4000000 in
theorem sync_ok (B : Nat) (fail : List Int) (nm : ByteArray) (l : DirL) (b : Nat) (f : FileV) (w : World) (h : FsAt w q false p ops d s mv) (h0 : 0 ≤ ops) (h9 : ops < 4611686018427387904) (hc : ops + 1 ≠ p.c)
    (hf : w.ownsRow B 3 1 p.f fail.length ((inOrd fail).map intV)) (hq : p.f.ownBlock ≠ some q) (hsf : fail.length < 4611686018427387904)
    (hnf : fail.contains (ops + 1) = false) (hd : DirM w d l) (hs : nm.size ≤ maxLen) (hl : l.look nm.data.toList = some b) (hF : FileAt w b f) (hok : okL f.safe f.chg) (hn : f.chg.length < 4611686018427387904)
    (hdq : d ≠ q) (hbq : b ≠ q ∧ f.sv.ownBlock ≠ some q ∧ f.dv.ownBlock ≠ some q ∧ f.cv.ownBlock ≠ some q) :
    Calls Tryz.prog 23 #[.pointer (some ⟨q, 0, none⟩), .string nm] w fun e w' => e = .returned (.int .i64 0) ∧ ∃ sv, FileAt w' b { f with sv := sv, cv := .slice none 0 0, safe := settleP (fun _ => -1) 0 true f.safe f.chg, chg := [] } ∧
      GP (fun k => k = q ∨ k = b ∨ f.sv.ownBlock = some k) w w' ∧ FsAt w' q false p (ops + 1) d s mv ∧ (∀ k, sv.ownBlock = some k → f.sv.ownBlock = some k ∨ w.heap.size ≤ k) := by
  have hb := begin_fs B fail w h h0 h9 hc hf hq hsf
  rw [hnf] at hb
  obtain ⟨W, hW⟩ : ∃ W, W = w.setCell ⟨q, 7, none⟩ (.int .i64 (ops + 1)) := ⟨_, rfl⟩
  have gF : w.grownBy W (some q) := by rw [hW]; exact gset (World.grownBy.refl w (some q)) 7 (.int .i64 (ops + 1))
  have hFs : ∀ m, FsAt (W.drewN m) q false p (ops + 1) d s mv := fun m => by rw [hW]; exact h.setOps (ops + 1)
  have hx : ∀ m, (W.drewN m).cell? ⟨q, 8, none⟩ = some (.map (some d)) := fun m => (hFs m).dir
  rw [← hW] at hb
  clear hW
  have gm := fun m => gdrewN gF m
  have hlk : ∀ m, (Instr.lookup 69 (.map (some d)) (.string nm) false).run Tryz.prog (W.drewN m) = .ok (ptrV (some b)) (W.drewN m) := fun m => by
    rw [← hl]
    exact (hd.kept (gm m) (by simp; exact hdq)).lookup nm hs
  unfold ptrV at hlk
  have hFb : ∀ m, FileAt (W.drewN m) b f := fun m => hF.kept (P := fun k => k = q) (GP.of (gm m) (fun k e => by cases e; rfl)) hbq.1 (fun k hk e => by
    subst e
    rcases FileV.mem hk with e | e | e
    · exact hbq.2.1 e
    · exact hbq.2.2.1 e
    · exact hbq.2.2.2 e)
  have hst := fun m => settle_any _ _ _ _ _ _ allNext b f (W.drewN m) 0 (hFb m) trivial hok (by omega) ⟨by simp, by simp⟩
  go_enter Tryz.func23, Tryz.ntmps23
  go_wp2_with first
    | (go_at_call 57; refine hb.mono ?_; rintro e w2 ⟨rfl, m1, rfl⟩)
    | (go_at_call 58; refine (hst _).mono ?_; rintro e w2 ⟨rfl, sv, k1, k2, k3, k4⟩)
  go_ret
  have k3' := k3
  refine ⟨rfl, sv, k1, (GP.of (P := fun k => k = q ∨ k = b ∨ f.sv.ownBlock = some k) (gm m1) (fun k e => by cases e; exact .inl rfl)).trans k3 (fun k e => ?_), ?_, fun k e => ?_⟩
  · rcases e with e | e | e
    · exact .inl (.inr (.inl e))
    · exact .inl (.inr (.inr e))
    · cases e
  · refine (k3'.block q (hFs m1).lt ?_).trans (hFs m1)
    rintro (e | e | e)
    · exact hbq.1 e.symm
    · exact hbq.2.1 e
    · cases e
  · rcases k4 k e with e | e
    · exact .inl e
    · exact .inr (Nat.le_trans (gm m1).size e)
end
end Go.Proofs.YtfgmaeaojkfakaaGreat
