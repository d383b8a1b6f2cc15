/-
  LAYER 1 (fs): Create where nothing fails, nothing is full and nothing dies.
-/
import Derived.Test.YtfgmaeaojkfakaaGreatFBegin
import Derived.Test.YtfgmaeaojkfakaaGreatFMove
import Derived.Test.YtfgmaeaojkfakaaGreatFName
namespace Go.Proofs.YtfgmaeaojkfakaaGreat
set_option maxRecDepth 100000
open Go.RowKit Go.Lib
attribute [local go_sem] Oper.semAt_some

section
variable {w : World} {q : Nat} {p : PlV} {ops : Int} {d s : Nat} {mv : Value}
set_option maxHeartbeats 4000000 in
theorem create_ok (B : Nat) (fail full : List Int) (nm : ByteArray) (ml : List Mv) (l : DirL) (w : World) (h : FsAt w q false p ops d s mv) (h0 : 0 ≤ ops) (h9 : ops < 4611686018427387904) (hc : ops + 1 ≠ p.c)
    (hf : w.ownsRow B 3 1 p.f fail.length ((inOrd fail).map intV)) (hu : w.ownsRow B 3 1 p.u full.length ((inOrd full).map intV)) (hq : p.f.ownBlock ≠ some q) (hqu : p.u.ownBlock ≠ some q) (hsf : fail.length < 4611686018427387904) (hsu : full.length < 4611686018427387904)
    (hnf : fail.contains (ops + 1) = false) (hnu : full.contains (ops + 1) = false) (hd : DirM w d l) (hs : nm.size ≤ maxLen) (hnm : okName nm = true) (hnm0 : nm.size ≠ 0) (hl : l.look nm.data.toList = none) (hl9 : l.length < 4096) (hr : w.ownsRow 0 110 3 mv ml.length (mvCells ml)) (hn2 : ml.length < 3518437208882)
    (hdq : d ≠ q) (hmq : mv.ownBlock ≠ some q) (hmd : mv.ownBlock ≠ some d) :
    Calls Tryz.prog 31 #[.pointer (some ⟨q, 0, none⟩), .string nm] w fun e w' => e = .returned (.int .i64 0) ∧ ∃ mv', FsAt w' q false p (ops + 1) d s mv' ∧ DirM w' d (l.put nm.data.toList w.heap.size) ∧ FileAt w' w.heap.size ⟨.slice none 0 0, .slice none 0 0, .slice none 0 0, [], [], []⟩ ∧
      w'.ownsRow 0 110 3 mv' (ml.length + 1) (mvCells (ml ++ [⟨⟨#[]⟩, nm, some w.heap.size⟩])) ∧ (mv'.ownBlock = mv.ownBlock ∨ ∃ k, mv'.ownBlock = some k ∧ w.heap.size ≤ k) ∧ GP (fun k => k = q ∨ k = d ∨ mv.ownBlock = some k) w w' := by
  have hb := begin_fs B fail w h h0 h9 hc hf hq hsf
  rw [hnf] at hb
  obtain ⟨W, hW⟩ : ∃ W, W = w.setCell ⟨q, 7, none⟩ (.int .i64 (ops + 1)) := ⟨_, rfl⟩
  have gF : w.grownBy W (some q) := by rw [hW]; exact gset (World.grownBy.refl w (some q)) 7 (.int .i64 (ops + 1))
  have hFs : ∀ m, FsAt (W.drewN m) q false p (ops + 1) d s mv := fun m => by rw [hW]; exact h.setOps (ops + 1)
  have hx : ∀ m, (W.drewN m).cell? ⟨q, 8, none⟩ = some (.map (some d)) := fun m => (hFs m).dir
  have hWs : W.heap.size = w.heap.size := by rw [hW]; simp
  rw [← hW] at hb
  clear hW
  have gm := fun m => gdrewN gF m
  have hlk : ∀ m, (Instr.lookup 69 (.map (some d)) (.string nm) false).run Tryz.prog (W.drewN m) = .ok (ptrV none) (W.drewN m) := fun m => by
    rw [← hl]
    exact (hd.kept (gm m) (by simp; exact hdq)).lookup nm hs
  unfold ptrV at hlk
  have hlen := fun m ty => (hd.kept (gm m) (by simp; exact hdq)).len ty
  have huq : ∀ m, (W.drewN m).ownsRow B 3 1 p.u full.length ((inOrd full).map intV) := fun m => World.ownsRow.kept hu (gm m) (.inr hqu)
  have hfu := fun m => isFull_fs B full (W.drewN m) (hFs m) (huq m) hsu
  rw [hnu] at hfu
  have hmb := fun m => mayBe_any nm (W.drewN m)
  rw [hnm] at hmb
  have gA := fun k => World.grownBy_alloc (W.drewN k) (.cells #[.slice none 0 0, .slice none 0 0, .slice none 0 0] 96) none
  have eA := fun k => World.alloc_heap_new (W.drewN k) (.cells #[.slice none 0 0, .slice none 0 0, .slice none 0 0] 96)
  have hmv := fun k => move_any ⟨⟨#[]⟩, nm, some W.heap.size⟩ ml l ((W.drewN k).alloc (.cells #[.slice none 0 0, .slice none 0 0, .slice none 0 0] 96)) ((hFs k).kept (gA k) (by simp)) ((hd.kept (gm k) (by simp; exact hdq)).kept (gA k) (by simp)) (World.ownsRow.kept (World.ownsRow.kept hr (gm k) (.inr hmq)) (gA k) (by cases mv.ownBlock <;> simp)) ⟨Nat.zero_le _, hs, hnm0⟩ (by unfold maxLen; omega) hn2 hdq hmq hmd
  dsimp only [Mv.v, ptrV] at hmv
  have hmvl : ∀ k, mv.ownBlock = some k → k < w.heap.size := fun k e => (World.ownsRow.lt hr k e).2
  have hql := h.lt
  have hdl := hd.lt
  replace hmv := Lib.hid hmv
  replace hWs := Lib.hid hWs
  replace eA := Lib.hid eA
  replace gA := Lib.hid gA
  replace hmvl := Lib.hid hmvl
  go_enter Tryz.func31, Tryz.ntmps31
  go_wp2_with first
    | (go_at_call 57; refine hb.mono ?_; rintro e w2 ⟨rfl, m1, rfl⟩)
    | (go_at_call 68; refine (hmb _).mono ?_; rintro e w2 ⟨rfl, rfl⟩)
    | (go_at_call 60; refine (hfu _).mono ?_; rintro e w2 ⟨rfl, m2, rfl⟩)
    | (go_at_call 67; refine (hmv.out _).mono ?_; rintro e w2 ⟨rfl, mv', k1, k2, k3, k4, k5⟩)
  go_ret
  have hWs := hWs.out
  have eA := eA.out
  have gA := gA.out
  have hmvl := hmvl.out
  rw [hWs] at k3
  have hA : (w2.heap)[w.heap.size]? = some (.cells #[.slice none 0 0, .slice none 0 0, .slice none 0 0] 96 (0, 0)) := by
    have e0 := eA (m1 + m2)
    have e1 : (W.drewN (m1 + m2)).heap.size = w.heap.size := hWs
    rw [e1] at e0
    refine (k5.block w.heap.size (lt_of_block e0) ?_).trans e0
    rintro (e | e | e)
    · omega
    · omega
    · have := hmvl _ e; omega
  refine ⟨rfl, mv', k1, ?_, ⟨hA, World.ownsRow_nil _ _ _ _, World.ownsRow_nil _ _ _ _, World.ownsRow_nil _ _ _ _, by simp [FileV.blocks, Value.ownBlock]⟩, k3, ?_, ?_⟩
  · have e : Mv.done ⟨⟨#[]⟩, nm, some W.heap.size⟩ l = l.put nm.data.toList W.heap.size := rfl
    rw [e, hWs] at k2
    exact k2
  · rcases k4 with e | ⟨k, e, hk⟩
    · exact .inl e
    · exact .inr ⟨k, e, by have := (gA (m1 + m2)).size; have := (gm (m1 + m2)).size; omega⟩
  · exact ((GP.of (P := fun k => k = q ∨ k = d ∨ mv.ownBlock = some k) (gm (m1 + m2)) (fun k e => by cases e; exact .inl rfl)).step (gA _) (by simp)).trans k5 (fun k e => .inl e)
end
end Go.Proofs.YtfgmaeaojkfakaaGreat
