/-
  LAYER 1 (fs): SyncDir where nothing fails, nothing is full and nothing dies.
-/
import Derived.Test.YtfgmaeaojkfakaaGreatFBegin
import Derived.Test.YtfgmaeaojkfakaaGreatFSettleF
namespace Go.Proofs.YtfgmaeaojkfakaaGreat
set_option maxRecDepth 100000
open Go.RowKit Go.Lib
attribute [local go_sem] Oper.semAt_some

section
variable {w : World} {q : Nat} {p : PlV} {ops : Int} {d s : Nat} {mv : Value}
set_option maxHeartbeats 4000000 in
theorem syncDir_ok (B : Nat) (fail full : List Int) (ml : List Mv) (l : DirL) (w : World) (h : FsAt w q false p ops d s mv) (h0 : 0 ≤ ops) (h9 : ops < 4611686018427387904) (hc : ops + 1 ≠ p.c)
    (hf : w.ownsRow B 3 1 p.f fail.length ((inOrd fail).map intV)) (hu : w.ownsRow B 3 1 p.u full.length ((inOrd full).map intV)) (hq : p.f.ownBlock ≠ some q) (hqu : p.u.ownBlock ≠ some q) (hsf : fail.length < 4611686018427387904) (hsu : full.length < 4611686018427387904)
    (hnf : fail.contains (ops + 1) = false) (hnu : full.contains (ops + 1) = false) (hd : DirM w s l) (hr : w.ownsRow 0 110 3 mv ml.length (mvCells ml)) (hm : okMoves ml l) (hn2 : ml.length < 3518437208882)
    (hsq : s ≠ q) (hmq : mv.ownBlock ≠ some q) (hms : mv.ownBlock ≠ some s) :
    Calls Tryz.prog 24 #[.pointer (some ⟨q, 0, none⟩)] w fun e w' => e = .returned (.int .i64 0) ∧ FsAt w' q false p (ops + 1) d s (.slice none 0 0) ∧ DirM w' s (movesDone ml l) ∧ GP (fun k => k = q ∨ k = s) w w' := by
  have hb := begin_fs B fail w h h0 h9 hc hf hq hsf
  rw [hnf] at hb
  obtain ⟨W, hW⟩ : ∃ W, W = w.setCell ⟨q, 7, none⟩ (.int .i64 (ops + 1)) := ⟨_, rfl⟩
  have gF : w.grownBy W (some q) := by rw [hW]; exact gset (World.grownBy.refl w (some q)) 7 (.int .i64 (ops + 1))
  have hF : ∀ m, FsAt (W.drewN m) q false p (ops + 1) d s mv := fun m => by rw [hW]; exact h.setOps (ops + 1)
  have hx : ∀ m, (W.drewN m).cell? ⟨q, 10, none⟩ = some mv := fun m => (hF m).moves
  rw [← hW] at hb
  clear hW
  have gm := fun m => gdrewN gF m
  have huq : ∀ m, (W.drewN m).ownsRow B 3 1 p.u full.length ((inOrd full).map intV) := fun m => World.ownsRow.kept hu (gm m) (.inr hqu)
  have hfu := fun m => isFull_fs B full (W.drewN m) (hF m) (huq m) hsu
  rw [hnu] at hfu
  have hst := fun m => fsSettle_any ml.length ml l (W.drewN m) (hF m) (hd.kept (gm m) (by simp; exact hsq)) (World.ownsRow.kept hr (gm m) (.inr hmq)) (by rw [List.take_length]; exact hm) (Nat.le_refl _) hn2 hsq hmq hms
  rw [List.take_length] at hst
  obtain ⟨a, c, rfl⟩ : ∃ a c, mv = .slice a ml.length c := by
    obtain ⟨_, ⟨e, hz⟩ | ⟨g, cap, cur, e, _⟩⟩ := hr
    · exact ⟨none, 0, by rw [e, hz]⟩
    · exact ⟨_, _, e⟩
  go_enter Tryz.func24, Tryz.ntmps24
  go_wp2_with first
    | (go_at_call 57; refine hb.mono ?_; rintro e w2 ⟨rfl, m1, rfl⟩)
    | (go_at_call 60; refine (hfu _).mono ?_; rintro e w2 ⟨rfl, m2, rfl⟩)
    | (go_at_call 61; refine (hst _).mono ?_; rintro e w2 ⟨rfl, k1, k2, k3⟩)
  go_ret
  exact ⟨rfl, k1, k2, GP.trans (P := fun k => k = q ∨ k = s) (GP.of (gm _) (fun k e => by cases e; exact .inl rfl)) k3 (fun k e => .inl e)⟩
end
end Go.Proofs.YtfgmaeaojkfakaaGreat
