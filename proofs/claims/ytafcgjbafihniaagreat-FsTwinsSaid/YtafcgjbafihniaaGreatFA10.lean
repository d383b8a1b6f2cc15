/-
  LAYER 1 (fs): isFull.
-/
import Derived.Test.YtafcgjbafihniaaGreatFA07
import Derived.Deep.DeepCutAuto
import Derived.Deep.RegionHeld3
import Derived.Deep.QuietTactic
import Derived.BigQuiet
import Derived.Test.YtafcgjbafihniaaGreatFA01
import Derived.Test.YtafcgjbafihniaaGreatRows
import Derived.WalkKit
import Derived.WalkLawsBesides
import Derived.WalkSpells
import Derived.Laws.Strings
import Derived.Laws.BytesString
import Derived.Laws.CopyOwn
import Derived.Test.YtafcgjbafihniaaGreatFA06
namespace Go.Proofs.YtafcgjbafihniaaGreat
set_option maxRecDepth 100000
open Go.RowKit Go.Lib
attribute [local go_sem] Oper.semAt_some
theorem quiet_eqF {P : Program} {f : FuncId} {args : Array Value} {w : World} {n : Nat} {v : Value}
    (h : Calls P f args (w.drewN n) fun e w' => e = .returned v ∧ w.drewN n = w') : Calls P f args (w.drewN n) fun e w'' => e = .returned v ∧ ∃ m, w'' = w.drewN m :=
  h.mono fun _ _ ⟨he, hm⟩ => ⟨he, n, hm.symm⟩
section
variable {w : World} {q : Nat} {dead : Bool} {p : PlV} {ops : Int} {d s : Nat} {mv : Value}
set_option maxHeartbeats 2000000 in
theorem isFull_fs (B : Nat) (full : List Int) (w : World) (h : FsAt w q dead p ops d s mv) (ho : w.ownsRow B 3 1 p.u full.length ((inOrd full).map intV)) (hsz : full.length < 4611686018427387904) :
    Calls Tryz.prog 60 #[.pointer (some ⟨q, 0, none⟩)] w fun e w' => e = .returned (.bool (full.contains ops)) ∧ ∃ m, w' = w.drewN m := by
  have h5 := h.full
  have hb := fun n => search_own B _ _ full ops (w.drewN n) (World.ownsRow.kept ho (gdrewN (World.grownBy.refl w none) n) (by cases p.u.ownBlock <;> simp)) rfl hsz
  have ho' := fun n => ops_fs (w.drewN n) (show FsAt (w.drewN n) q dead p ops d s mv from h)
  obtain ⟨a, c, e⟩ := rowForm ho
  rw [e] at h5 hb
  go_enter Tryz.func60, Tryz.ntmps60
  go_wp2_with (fail)
  go_quiet ((first | (go_at_call 28; exact quiet_eqF (ho' _)) | (go_at_call 85; exact Calls.quiet_of (hb _))))
  go_wp2_with (fail)
  go_ret
  exact ⟨by simp, _, rfl⟩

theorem decide_contains (l : List Int) (x : Int) : decide (x ∈ l) = l.contains x := by simp

set_option maxHeartbeats 2000000 in
/-- An operation that neither dies nor finds the file system dead: it is counted; the plan may let it fail. -/
theorem begin_fs (B : Nat) (fail : List Int) (w : World) (h : FsAt w q false p ops d s mv) (h0 : 0 ≤ ops) (h9 : ops < 4611686018427387904) (hc : ops + 1 ≠ p.c) (ho : w.ownsRow B 3 1 p.f fail.length ((inOrd fail).map intV)) (hq : p.f.ownBlock ≠ some q) (hsz : fail.length < 4611686018427387904) :
    Calls Tryz.prog 57 #[.pointer (some ⟨q, 0, none⟩)] w fun e w' => e = .returned (.int .i64 (if fail.contains (ops + 1) then 10 else 0)) ∧ ∃ m, w' = (w.setCell ⟨q, 7, none⟩ (.int .i64 (ops + 1))).drewN m := by
  have h1 := h.setOps (ops + 1)
  have ho1 := World.ownsRow.kept ho (gset (World.grownBy.refl w (some q)) 7 (.int .i64 (ops + 1))) (.inr hq)
  have hb := search_own B _ _ fail (ops + 1) _ ho1 rfl hsz
  have c2 := h1.crash
  have c4 := h1.fail
  obtain ⟨a, c, e⟩ := rowForm ho
  rw [e] at c4 hb
  have hce : (ops + 1 == p.c) = false := by simpa using hc
  obtain ⟨W, hW⟩ : ∃ W, W = w.setCell ⟨q, 7, none⟩ (.int .i64 (ops + 1)) := ⟨_, rfl⟩
  rw [← hW] at h1 ho1 hb c2 c4 ⊢
  replace hW := Lib.hid hW
  obtain ⟨bo, hbo⟩ : ∃ bo, fail.contains (ops + 1) = bo := ⟨_, rfl⟩
  rw [hbo] at hb ⊢
  clear hbo
  cases bo
  all_goals
    go_enter Tryz.func57, Tryz.ntmps57
    go_wp2_with (first
      | (go_at_call 21; refine (dead_fs _ h).mono ?_; rintro e w' ⟨rfl, rfl⟩)
      | (go_at_call 84; refine (add_fs _ h h0 h9).mono ?_; rintro e w' ⟨rfl, hw2⟩; have hw3 := hw2.trans hW.out.symm; clear hw2; subst hw3)
      | (go_at_call 85; refine hb.mono ?_; rintro e w' ⟨rfl, m, rfl⟩))
    go_ret
    exact ⟨rfl, m, rfl⟩
end
end Go.Proofs.YtafcgjbafihniaaGreat

/-
  LAYER 1 (fs): which names may be, of both.
-/
namespace Go.Proofs.YtafcgjbafihniaaGreat
set_option maxRecDepth 100000
open Go.RowKit Go.Lib
attribute [local go_sem] Oper.semAt_some

def okByte (c : UInt8) : Bool := decide (33 ≤ c.toNat) && decide (c.toNat ≤ 126) && !decide (c.toNat = 47)
def okName (s : ByteArray) : Bool := decide (1 ≤ s.size) && decide (s.size ≤ 32) && s.data.toList.all okByte

theorem okFrom (s : ByteArray) (k : Nat) (h : k < s.size) : (s.data.toList.drop k).all okByte = (okByte s[k] && (s.data.toList.drop (k + 1)).all okByte) := by
  have e : s.data.toList.drop k = s[k] :: s.data.toList.drop (k + 1) := by
    rw [List.drop_eq_getElem_cons (by simpa using h)]
    rfl
  rw [e, List.all_cons]

theorem okByte_cases (c : UInt8) (C : Nat) (hC : C = c.toNat) : (okByte c = true ∧ ¬ (C : Int) < 33 ∧ ¬ 126 < (C : Int) ∧ ((C : Int) == 47) = false) ∨ (okByte c = false ∧ (C : Int) < 33) ∨ (okByte c = false ∧ ¬ (C : Int) < 33 ∧ 126 < (C : Int)) ∨ (okByte c = false ∧ ¬ (C : Int) < 33 ∧ ¬ 126 < (C : Int) ∧ ((C : Int) == 47) = true) := by
  subst hC
  unfold okByte
  by_cases h1 : 33 ≤ c.toNat
  · by_cases h2 : c.toNat ≤ 126
    · by_cases h3 : c.toNat = 47
      · right; right; right; simp [h3]
      · left; simp [h1, h2, h3]; omega
    · right; right; left; simp [h2]; omega
  · right; left; simp [h1]; omega

theorem index_byte {P : Program} (w : World) (t : TypeId) (s : ByteArray) (k : Nat) (h : P.underlying t = some .string) (h1 : k < s.size) :
    (Instr.index t (.string s) (.int .i64 (k : Int))).run P w = .ok (.int .u8 ((s[k].toNat : Nat) : Int)) w := by
  rw [run_index_string w t s .i64 k h, dif_pos (show 0 ≤ (k : Int) ∧ (k : Int) < (s.size : Int) by omega)]
  simp

set_option maxHeartbeats 4000000 in
theorem mayBe_any (s : ByteArray) (w : World) : Calls Tryz.prog 68 #[.string s] w fun e w' => e = .returned (.bool (okName s)) ∧ w = w' := by
  obtain ⟨q, hq⟩ : ∃ q, q = okName s := ⟨_, rfl⟩
  rw [← hq]
  unfold okName at hq
  have hl0 : s.toList.length = s.size := by rw [ByteArray.toList_eq]; simp
  by_cases h1 : s.size = 0
  · have he : s.toList.isEmpty = true := by rw [← hl0] at h1; simpa using List.length_eq_zero_iff.1 h1
    have hs1 : (s.size : Int) < 1 := by omega
    obtain rfl : q = false := by rw [hq]; simp [h1]
    clear hq
    go_enter Tryz.func68, Tryz.ntmps68
    go_wp2
    go_ret
    exact ⟨rfl, rfl⟩
  · have he : s.toList.isEmpty = false := by
      cases hh : s.toList with
      | nil => rw [hh] at hl0; simp at hl0; omega
      | cons a l => rfl
    have hs1 : ¬ (s.size : Int) < 1 := by omega
    by_cases h2 : s.size ≤ 32
    · have hs2 : ¬ 32 < (s.size : Int) := by omega
      have hq2 : q = (s.data.toList.drop 0).all okByte := by
        rw [hq, List.drop_zero]
        have : 1 ≤ s.size := by omega
        simp [h2, this]
      clear hq
      have hq3 := Lib.hid hq2
      clear hq2
      go_enter Tryz.func68, Tryz.ntmps68
      go_wp2
      go_loopw [3, 13] (fun _ vi wr => ∃ k : Nat, vi = .int .i64 (k : Int) ∧ k ≤ s.size ∧ Hid (q = (s.data.toList.drop k).all okByte) ∧ Hid (wr = w)) (fun _ vi _ => s.size - (RowKit.intOf vi).toNat)
      case atStart => exact ⟨0, rfl, Nat.zero_le _, hq3, Lib.hid rfl⟩
      case round =>
        obtain ⟨k, rfl, hk, hK, hw⟩ := hrel
        obtain rfl := hw.out
        clear hw
        by_cases hlt : k < s.size
        · have hx := fun w t h => index_byte (P := Tryz.prog) w t s k h hlt
          have hK2 := hK.out
          rw [okFrom s k hlt] at hK2
          obtain ⟨C, hC⟩ : ∃ C, C = s[k].toNat := ⟨_, rfl⟩
          rw [← hC] at hx
          have hcs := okByte_cases s[k] C hC
          generalize okByte s[k] = ob at hK2 hcs
          clear hC hK
          rcases hcs with ⟨rfl, c1, c2, c3⟩ | ⟨rfl, c1⟩ | ⟨rfl, c1, c2⟩ | ⟨rfl, c1, c2, c3⟩
          · rw [Bool.true_and] at hK2
            have hK3 := Lib.hid hK2
            clear hK2
            go_wp2
            exact ⟨⟨k + 1, by go_num, by omega, hK3, Lib.hid (by trivial)⟩, by simp [RowKit.intOf]; omega⟩
          all_goals
            rw [Bool.false_and] at hK2
            subst hK2
            go_wp2
            go_ret
            exact ⟨rfl, rfl⟩
        · obtain rfl : k = s.size := by omega
          have hK2 := hK.out
          rw [List.drop_eq_nil_of_le (by simp)] at hK2
          obtain rfl : q = true := hK2
          clear hK
          go_wp2
          go_ret
          exact ⟨rfl, rfl⟩
    · have hs2 : 32 < (s.size : Int) := by omega
      obtain rfl : q = false := by rw [hq]; simp [h2]
      clear hq
      go_enter Tryz.func68, Tryz.ntmps68
      go_wp2
      go_ret
      exact ⟨rfl, rfl⟩
set_option maxHeartbeats 4000000 in
theorem refMay_any (s : ByteArray) (w : World) : Calls Tryz.prog 75 #[.string s] w fun e w' => e = .returned (.bool (okName s)) ∧ w = w' := by
  obtain ⟨q, hq⟩ : ∃ q, q = okName s := ⟨_, rfl⟩
  rw [← hq]
  unfold okName at hq
  have hl0 : s.toList.length = s.size := by rw [ByteArray.toList_eq]; simp
  by_cases h1 : s.size = 0
  · have he : s.toList.isEmpty = true := by rw [← hl0] at h1; simpa using List.length_eq_zero_iff.1 h1
    have hs1 : (s.size : Int) < 1 := by omega
    obtain rfl : q = false := by rw [hq]; simp [h1]
    clear hq
    go_enter Tryz.func75, Tryz.ntmps75
    go_wp2
    go_ret
    exact ⟨rfl, rfl⟩
  · have he : s.toList.isEmpty = false := by
      cases hh : s.toList with
      | nil => rw [hh] at hl0; simp at hl0; omega
      | cons a l => rfl
    have hs1 : ¬ (s.size : Int) < 1 := by omega
    by_cases h2 : s.size ≤ 32
    · have hs2 : ¬ 32 < (s.size : Int) := by omega
      have hq2 : q = (s.data.toList.drop 0).all okByte := by
        rw [hq, List.drop_zero]
        have : 1 ≤ s.size := by omega
        simp [h2, this]
      clear hq
      have hq3 := Lib.hid hq2
      clear hq2
      go_enter Tryz.func75, Tryz.ntmps75
      go_wp2
      go_loopw [3] (fun vi wr => ∃ k : Nat, vi = .int .i64 (k : Int) ∧ k ≤ s.size ∧ Hid (q = (s.data.toList.drop k).all okByte) ∧ Hid (wr = w)) (fun vi _ => s.size - (RowKit.intOf vi).toNat)
      case atStart => exact ⟨0, rfl, Nat.zero_le _, hq3, Lib.hid rfl⟩
      case round =>
        obtain ⟨k, rfl, hk, hK, hw⟩ := hrel
        obtain rfl := hw.out
        clear hw
        by_cases hlt : k < s.size
        · have hx := fun w t h => index_byte (P := Tryz.prog) w t s k h hlt
          have hK2 := hK.out
          rw [okFrom s k hlt] at hK2
          obtain ⟨C, hC⟩ : ∃ C, C = s[k].toNat := ⟨_, rfl⟩
          rw [← hC] at hx
          have hcs := okByte_cases s[k] C hC
          generalize okByte s[k] = ob at hK2 hcs
          clear hC hK
          rcases hcs with ⟨rfl, c1, c2, c3⟩ | ⟨rfl, c1⟩ | ⟨rfl, c1, c2⟩ | ⟨rfl, c1, c2, c3⟩
          · rw [Bool.true_and] at hK2
            have hK3 := Lib.hid hK2
            clear hK2
            go_wp2
            exact ⟨⟨k + 1, by go_num, by omega, hK3, Lib.hid (by trivial)⟩, by simp [RowKit.intOf]; omega⟩
          all_goals
            rw [Bool.false_and] at hK2
            subst hK2
            go_wp2
            go_ret
            exact ⟨rfl, rfl⟩
        · obtain rfl : k = s.size := by omega
          have hK2 := hK.out
          rw [List.drop_eq_nil_of_le (by simp)] at hK2
          obtain rfl : q = true := hK2
          clear hK
          go_wp2
          go_ret
          exact ⟨rfl, rfl⟩
    · have hs2 : 32 < (s.size : Int) := by omega
      obtain rfl : q = false := by rw [hq]; simp [h2]
      clear hq
      go_enter Tryz.func75, Tryz.ntmps75
      go_wp2
      go_ret
      exact ⟨rfl, rfl⟩
end Go.Proofs.YtafcgjbafihniaaGreat

/-
  LAYER 1 (fs): Create where nothing fails, nothing is full and nothing dies.
-/
namespace Go.Proofs.YtafcgjbafihniaaGreat
set_option maxRecDepth 100000
open Go.RowKit Go.Lib
attribute [local go_sem] Oper.semAt_some

section
variable {w : World} {q : Nat} {p : PlV} {ops : Int} {d s : Nat} {mv : Value}
set_option maxHeartbeats 4000000 in
theorem create_ok (B : Nat) (fail full : List Int) (nm : ByteArray) (ml : List Mv) (l : DirL) (w : World) (h : FsAt w q false p ops d s mv) (h0 : 0 ≤ ops) (h9 : ops < 4611686018427387904) (hc : ops + 1 ≠ p.c)
    (hf : w.ownsRow B 3 1 p.f fail.length ((inOrd fail).map intV)) (hu : w.ownsRow B 3 1 p.u full.length ((inOrd full).map intV)) (hq : p.f.ownBlock ≠ some q) (hqu : p.u.ownBlock ≠ some q) (hsf : fail.length < 4611686018427387904) (hsu : full.length < 4611686018427387904)
    (hnf : fail.contains (ops + 1) = false) (hnu : full.contains (ops + 1) = false) (hd : DirM w d l) (hs : nm.size ≤ maxLen) (hnm : okName nm = true) (hnm0 : nm.size ≠ 0) (hl : l.look nm.data.toList = none) (hl9 : l.length < 4096) (hr : w.ownsRow 0 110 3 mv ml.length (mvCells ml)) (hn2 : ml.length < 3518437208882)
    (hdq : d ≠ q) (hmq : mv.ownBlock ≠ some q) (hmd : mv.ownBlock ≠ some d) :
    Calls Tryz.prog 31 #[.pointer (some ⟨q, 0, none⟩), .string nm] w fun e w' => e = .returned (.int .i64 0) ∧ ∃ mv', FsAt w' q false p (ops + 1) d s mv' ∧ DirM w' d (l.put nm.data.toList w.heap.size) ∧ FileAt w' w.heap.size ⟨.slice none 0 0, .slice none 0 0, .slice none 0 0, [], [], []⟩ ∧
      w'.ownsRow 0 110 3 mv' (ml.length + 1) (mvCells (ml ++ [⟨⟨#[]⟩, nm, some w.heap.size⟩])) ∧ (mv'.ownBlock = mv.ownBlock ∨ ∃ k, mv'.ownBlock = some k ∧ w.heap.size ≤ k) ∧ GP (fun k => k = q ∨ k = d ∨ mv.ownBlock = some k) w w' := by
  have hb := begin_fs B fail w h h0 h9 hc hf hq hsf
  rw [hnf] at hb
  obtain ⟨W, hW⟩ : ∃ W, W = w.setCell ⟨q, 7, none⟩ (.int .i64 (ops + 1)) := ⟨_, rfl⟩
  have gF : w.grownBy W (some q) := by rw [hW]; exact gset (World.grownBy.refl w (some q)) 7 (.int .i64 (ops + 1))
  have hFs : ∀ m, FsAt (W.drewN m) q false p (ops + 1) d s mv := fun m => by rw [hW]; exact h.setOps (ops + 1)
  have hx : ∀ m, (W.drewN m).cell? ⟨q, 8, none⟩ = some (.map (some d)) := fun m => (hFs m).dir
  have hWs : W.heap.size = w.heap.size := by rw [hW]; simp
  rw [← hW] at hb
  clear hW
  have gm := fun m => gdrewN gF m
  have hlk : ∀ m, (Instr.lookup 69 (.map (some d)) (.string nm) false).run Tryz.prog (W.drewN m) = .ok (ptrV none) (W.drewN m) := fun m => by
    rw [← hl]
    exact (hd.kept (gm m) (by simp; exact hdq)).lookup nm hs
  unfold ptrV at hlk
  have hlen := fun m ty => (hd.kept (gm m) (by simp; exact hdq)).len ty
  have huq : ∀ m, (W.drewN m).ownsRow B 3 1 p.u full.length ((inOrd full).map intV) := fun m => World.ownsRow.kept hu (gm m) (.inr hqu)
  have hfu := fun m => isFull_fs B full (W.drewN m) (hFs m) (huq m) hsu
  rw [hnu] at hfu
  have hmb := fun m => mayBe_any nm (W.drewN m)
  rw [hnm] at hmb
  have gA := fun k => World.grownBy_alloc (W.drewN k) (.cells #[.slice none 0 0, .slice none 0 0, .slice none 0 0] 96) none
  have eA := fun k => World.alloc_heap_new (W.drewN k) (.cells #[.slice none 0 0, .slice none 0 0, .slice none 0 0] 96)
  have hmv := fun k => move_any ⟨⟨#[]⟩, nm, some W.heap.size⟩ ml l ((W.drewN k).alloc (.cells #[.slice none 0 0, .slice none 0 0, .slice none 0 0] 96)) ((hFs k).kept (gA k) (by simp)) ((hd.kept (gm k) (by simp; exact hdq)).kept (gA k) (by simp)) (World.ownsRow.kept (World.ownsRow.kept hr (gm k) (.inr hmq)) (gA k) (by cases mv.ownBlock <;> simp)) ⟨Nat.zero_le _, hs, hnm0⟩ (by unfold maxLen; omega) hn2 hdq hmq hmd
  dsimp only [Mv.v, ptrV] at hmv
  have hmvl : ∀ k, mv.ownBlock = some k → k < w.heap.size := fun k e => (World.ownsRow.lt hr k e).2
  have hql := h.lt
  have hdl := hd.lt
  replace hmv := Lib.hid hmv
  replace hWs := Lib.hid hWs
  replace eA := Lib.hid eA
  replace gA := Lib.hid gA
  replace hmvl := Lib.hid hmvl
  go_enter Tryz.func31, Tryz.ntmps31
  go_wp2_with first
    | (go_at_call 57; refine hb.mono ?_; rintro e w2 ⟨rfl, m1, rfl⟩)
    | (go_at_call 68; refine (hmb _).mono ?_; rintro e w2 ⟨rfl, rfl⟩)
    | (go_at_call 60; refine (hfu _).mono ?_; rintro e w2 ⟨rfl, m2, rfl⟩)
    | (go_at_call 67; refine (hmv.out _).mono ?_; rintro e w2 ⟨rfl, mv', k1, k2, k3, k4, k5⟩)
  go_ret
  have hWs := hWs.out
  have eA := eA.out
  have gA := gA.out
  have hmvl := hmvl.out
  rw [hWs] at k3
  have hA : (w2.heap)[w.heap.size]? = some (.cells #[.slice none 0 0, .slice none 0 0, .slice none 0 0] 96 (0, 0)) := by
    have e0 := eA (m1 + m2)
    have e1 : (W.drewN (m1 + m2)).heap.size = w.heap.size := hWs
    rw [e1] at e0
    refine (k5.block w.heap.size (lt_of_block e0) ?_).trans e0
    rintro (e | e | e)
    · omega
    · omega
    · have := hmvl _ e; omega
  refine ⟨rfl, mv', k1, ?_, ⟨hA, World.ownsRow_nil _ _ _ _, World.ownsRow_nil _ _ _ _, World.ownsRow_nil _ _ _ _, by simp [FileV.blocks, Value.ownBlock]⟩, k3, ?_, ?_⟩
  · have e : Mv.done ⟨⟨#[]⟩, nm, some W.heap.size⟩ l = l.put nm.data.toList W.heap.size := rfl
    rw [e, hWs] at k2
    exact k2
  · rcases k4 with e | ⟨k, e, hk⟩
    · exact .inl e
    · exact .inr ⟨k, e, by have := (gA (m1 + m2)).size; have := (gm (m1 + m2)).size; omega⟩
  · exact ((GP.of (P := fun k => k = q ∨ k = d ∨ mv.ownBlock = some k) (gm (m1 + m2)) (fun k e => by cases e; exact .inl rfl)).step (gA _) (by simp)).trans k5 (fun k e => .inl e)
end
end Go.Proofs.YtafcgjbafihniaaGreat

/-
  LAYER 1 (fs): Append where nothing fails, nothing is full and nothing dies.
-/
namespace Go.Proofs.YtafcgjbafihniaaGreat
set_option maxRecDepth 100000
open Go.RowKit Go.Lib
attribute [local go_sem] Oper.semAt_some

theorem fold_push : ∀ (bs p : List UInt8), ((bs.map fun u => (u.toNat : Int)).foldl (fun (r : ByteArray) n => r.push (UInt8.ofNat n.toNat)) ⟨p.toArray⟩) = ⟨(p ++ bs).toArray⟩
  | [], p => by simp
  | u :: bs, p => by
    have h := fold_push bs (p ++ [u])
    simp only [List.map_cons, List.foldl_cons, Int.toNat_natCast, UInt8.ofNat_toNat]
    have e : (⟨p.toArray⟩ : ByteArray).push u = ⟨(p ++ [u]).toArray⟩ := by
      show ByteArray.mk _ = ByteArray.mk _
      simp
    rw [e, h, List.append_assoc]
    rfl

theorem convA_of {w : World} {v : Value} {bs : List UInt8} (h : Reads w v bs) : (convert 32 115 v).run Tryz.prog w = .ok (.string ⟨bs.toArray⟩) w := by
  have h0 := h
  rcases h with ⟨rfl, rfl⟩ | ⟨b, off, cap, rfl, _, _, _⟩
  · rw [run_convert_bytes_string w 32 115 5 none 0 0 Tryz.underlying32 Tryz.underlying5 Tryz.underlying115]
    simp [Conv.bytesToString]
    rfl
  · rw [run_convert_bytes_string w 32 115 5 _ _ _ Tryz.underlying32 Tryz.underlying5 Tryz.underlying115]
    have hl := run_loadCells_list (P := Tryz.prog) w ⟨b, off, none⟩ (byteCells bs) h0.cells
    have e : byteCells bs = (bs.map fun u => (u.toNat : Int)).map (Value.int .u8) := by simp [byteCells]
    rw [byteCells_len, e] at hl
    rw [run_bytesToString w _ _ _ _ hl]
    have := fold_push bs []
    simp only [List.nil_append] at this
    exact congrArg (fun s => Result.ok (Value.string s) w) this

section
variable {w : World} {q : Nat} {p : PlV} {ops : Int} {d s : Nat} {mv : Value}
theorem FsAt.roomC {dead : Bool} (h : FsAt w q dead p ops d s mv) : w.cell? ⟨q, 6, none⟩ = some (.int .i64 p.r) := by simp [World.cell?, show _ = _ from h]
set_option maxHeartbeats 4000000 in
/-- Without a room, or with nothing to lay, no room lacks. -/
theorem lacksRoom_no {dead : Bool} (n : Nat) (hn : n < 4611686018427387904) (w : World) (h : FsAt w q dead p ops d s mv) (hr : p.r ≤ 0 ∨ n = 0) :
    Calls Tryz.prog 69 #[.pointer (some ⟨q, 0, none⟩), .int .i64 (n : Int)] w fun e w' => e = .returned (.bool false) ∧ ∃ m, w' = w.drewN m := by
  have h6 := h.roomC
  have key : (decide (0 < p.r) = false) ∨ (decide (0 < p.r) = true ∧ n = 0) := by
    by_cases e : 0 < p.r
    · exact .inr ⟨by simp [e], by omega⟩
    · exact .inl (by simp [e])
  rcases key with hk | ⟨hk, rfl⟩
  · go_enter Tryz.func69, Tryz.ntmps69
    go_wp2_with (fail)
    go_quiet (fail)
    go_wp2_with (fail)
    go_ret
    exact ⟨rfl, _, rfl⟩
  · go_enter Tryz.func69, Tryz.ntmps69
    go_wp2_with (fail)
    go_quiet (fail)
    go_wp2_with (fail)
    go_ret
    exact ⟨rfl, _, rfl⟩

set_option maxHeartbeats 4000000 in
theorem append_ok (B : Nat) (fail full : List Int) (nm : ByteArray) (l : DirL) (b : Nat) (f : FileV) (bv : Value) (bs : List UInt8) (w : World) (h : FsAt w q false p ops d s mv) (h0 : 0 ≤ ops) (h9 : ops < 4611686018427387904) (hc : ops + 1 ≠ p.c)
    (hf : w.ownsRow B 3 1 p.f fail.length ((inOrd fail).map intV)) (hu : w.ownsRow B 3 1 p.u full.length ((inOrd full).map intV)) (hq : p.f.ownBlock ≠ some q) (hqu : p.u.ownBlock ≠ some q) (hsf : fail.length < 4611686018427387904) (hsu : full.length < 4611686018427387904)
    (hnf : fail.contains (ops + 1) = false) (hnu : full.contains (ops + 1) = false) (hd : DirM w d l) (hs : nm.size ≤ maxLen) (hl : l.look nm.data.toList = some b) (hF : FileAt w b f) (hn : f.chg.length < 8796093022207)
    (hb : Reads w bv bs) (hbv : bs ≠ [] → bv.ownBlock ≠ some q) (hne : bs ≠ []) (hlen : bs.length + f.data.length ≤ 268435456) (hroom : p.r ≤ 0)
    (hdq : d ≠ q) (hbq : b ≠ q ∧ f.sv.ownBlock ≠ some q ∧ f.dv.ownBlock ≠ some q ∧ f.cv.ownBlock ≠ some q) :
    Calls Tryz.prog 32 #[.pointer (some ⟨q, 0, none⟩), .string nm, bv] w fun e w' => e = .returned (.int .i64 0) ∧ ∃ f', FileAt w' b f' ∧ f'.safe = f.safe ∧ f'.data = f.data ++ bs ∧ f'.chg = f.chg ++ [.add ⟨bs.toArray⟩] ∧
      GP (fun k => k = q ∨ k = b ∨ k ∈ f.blocks) w w' ∧ FsAt w' q false p (ops + 1) d s mv ∧ (∀ k ∈ f'.blocks, k ∈ f.blocks ∨ w.heap.size ≤ k) := by
  have hbe := begin_fs B fail w h h0 h9 hc hf hq hsf
  rw [hnf] at hbe
  have hbW := hb.kept (gset (World.grownBy.refl w (some q)) 7 (.int .i64 (ops + 1))) (.inr (hbv hne))
  obtain ⟨W, hW⟩ : ∃ W, W = w.setCell ⟨q, 7, none⟩ (.int .i64 (ops + 1)) := ⟨_, rfl⟩
  have gF : w.grownBy W (some q) := by rw [hW]; exact gset (World.grownBy.refl w (some q)) 7 (.int .i64 (ops + 1))
  have hFs : ∀ m, FsAt (W.drewN m) q false p (ops + 1) d s mv := fun m => by rw [hW]; exact h.setOps (ops + 1)
  have hx : ∀ m, (W.drewN m).cell? ⟨q, 8, none⟩ = some (.map (some d)) := fun m => (hFs m).dir
  have hWs : W.heap.size = w.heap.size := by rw [hW]; simp
  rw [← hW] at hbe hbW
  clear hW
  have gm := fun m => gdrewN gF m
  have hbm : ∀ m, Reads (W.drewN m) bv bs := fun m => hbW.new (gdrewN (World.grownBy.refl W none) m)
  have hcv := fun m => convA_of (hbm m)
  obtain ⟨ba, bc, rfl⟩ := hb.form
  have hlk : ∀ m, (Instr.lookup 69 (.map (some d)) (.string nm) false).run Tryz.prog (W.drewN m) = .ok (ptrV (some b)) (W.drewN m) := fun m => by
    rw [← hl]
    exact (hd.kept (gm m) (by simp; exact hdq)).lookup nm hs
  unfold ptrV at hlk
  have hFb : ∀ m, FileAt (W.drewN m) b f := fun m => hF.kept (P := fun k => k = q) (GP.of (gm m) (fun k e => by cases e; rfl)) hbq.1 (fun k hk e => by
    subst e
    rcases FileV.mem hk with e | e | e
    · exact hbq.2.1 e
    · exact hbq.2.2.1 e
    · exact hbq.2.2.2 e)
  have huq : ∀ m, (W.drewN m).ownsRow B 3 1 p.u full.length ((inOrd full).map intV) := fun m => World.ownsRow.kept hu (gm m) (.inr hqu)
  have hfu := fun m => isFull_fs B full (W.drewN m) (hFs m) (huq m) hsu
  rw [hnu] at hfu
  have hlr := fun m => lacksRoom_no bs.length (by omega) (W.drewN m) (hFs m) (.inl hroom)
  have hch := fun m => change_any (.add ⟨bs.toArray⟩) b f (W.drewN m) (hFb m) (by unfold Chg.may; show f.data.length + bs.toArray.size ≤ _; simp; omega) hn
  dsimp only [Chg.v] at hch
  obtain ⟨dva, dvc, hdv⟩ : ∃ a c, f.dv = .slice a f.data.length c := by
    obtain ⟨_, ⟨e, hz⟩ | ⟨g, cap, cur, e, _⟩⟩ := hF.2.2.1
    · exact ⟨none, 0, by rw [e, hz]⟩
    · exact ⟨_, _, e⟩
  have c1 : ∀ m, (W.drewN m).cell? ⟨b, 1, none⟩ = some (.slice dva f.data.length dvc) := fun m => by rw [← hdv]; exact (hFb m).c1
  have hbl : 0 < bs.length := List.length_pos_iff.2 hne
  obtain ⟨n, hnn⟩ : ∃ n, n = bs.length := ⟨_, rfl⟩
  obtain ⟨m', hmm⟩ : ∃ n, n = f.data.length := ⟨_, rfl⟩
  rw [← hnn] at hlr hlen hbl hcv hbm ⊢
  rw [← hmm] at c1 hlen
  replace hch := Lib.hid hch
  replace hWs := Lib.hid hWs
  replace hnn := Lib.hid hnn
  replace hmm := Lib.hid hmm
  replace hdv := Lib.hid hdv
  clear hbW hFb hb hbm
  go_enter Tryz.func32, Tryz.ntmps32
  go_wp2_with first
    | (go_at_call 57; refine hbe.mono ?_; rintro e w2 ⟨rfl, m1, rfl⟩)
    | (go_at_call 60; refine (hfu _).mono ?_; rintro e w2 ⟨rfl, m2, rfl⟩)
    | (go_at_call 69; refine (hlr _).mono ?_; rintro e w2 ⟨rfl, m3, rfl⟩)
    | (go_at_call 70; refine (hch.out _).mono ?_; rintro e w2 ⟨rfl, f', k1, k2, k3, k4, k5, k6⟩)
  go_ret
  have hWs := hWs.out
  refine ⟨rfl, f', k1, k2, by rw [k3]; simp [Chg.done], k4, (GP.of (P := fun k => k = q ∨ k = b ∨ k ∈ f.blocks) (gm (m1 + m2 + m3)) (fun k e => by cases e; exact .inl rfl)).trans k5 (fun k e => .inl (.inr e)), (k5.block q (hFs (m1 + m2 + m3)).lt ?_).trans (hFs (m1 + m2 + m3)), fun k e => (k6 k e).imp id (fun h => by have e1 : (W.drewN (m1 + m2 + m3)).heap.size = w.heap.size := hWs; omega)⟩
  rintro (e | e)
  · exact hbq.1 e.symm
  · rcases FileV.mem e with e | e | e
    · exact hbq.2.1 e
    · exact hbq.2.2.1 e
    · exact hbq.2.2.2 e
end
end Go.Proofs.YtafcgjbafihniaaGreat

/-
  LAYER 1 (fs): Sync where nothing fails and nothing dies.
-/
namespace Go.Proofs.YtafcgjbafihniaaGreat
set_option maxRecDepth 100000
open Go.RowKit Go.Lib
attribute [local go_sem] Oper.semAt_some

section
variable {w : World} {q : Nat} {p : PlV} {ops : Int} {d s : Nat} {mv : Value}
set_option maxHeartbeats 4000000 in
theorem sync_ok (B : Nat) (fail : List Int) (nm : ByteArray) (l : DirL) (b : Nat) (f : FileV) (w : World) (h : FsAt w q false p ops d s mv) (h0 : 0 ≤ ops) (h9 : ops < 4611686018427387904) (hc : ops + 1 ≠ p.c)
    (hf : w.ownsRow B 3 1 p.f fail.length ((inOrd fail).map intV)) (hq : p.f.ownBlock ≠ some q) (hsf : fail.length < 4611686018427387904)
    (hnf : fail.contains (ops + 1) = false) (hd : DirM w d l) (hs : nm.size ≤ maxLen) (hl : l.look nm.data.toList = some b) (hF : FileAt w b f) (hok : okL f.safe f.chg) (hn : f.chg.length < 4611686018427387904)
    (hdq : d ≠ q) (hbq : b ≠ q ∧ f.sv.ownBlock ≠ some q ∧ f.dv.ownBlock ≠ some q ∧ f.cv.ownBlock ≠ some q) :
    Calls Tryz.prog 23 #[.pointer (some ⟨q, 0, none⟩), .string nm] w fun e w' => e = .returned (.int .i64 0) ∧ ∃ sv, FileAt w' b { f with sv := sv, cv := .slice none 0 0, safe := settleP (fun _ => -1) 0 true f.safe f.chg, chg := [] } ∧
      GP (fun k => k = q ∨ k = b ∨ f.sv.ownBlock = some k) w w' ∧ FsAt w' q false p (ops + 1) d s mv ∧ (∀ k, sv.ownBlock = some k → f.sv.ownBlock = some k ∨ w.heap.size ≤ k) := by
  have hb := begin_fs B fail w h h0 h9 hc hf hq hsf
  rw [hnf] at hb
  obtain ⟨W, hW⟩ : ∃ W, W = w.setCell ⟨q, 7, none⟩ (.int .i64 (ops + 1)) := ⟨_, rfl⟩
  have gF : w.grownBy W (some q) := by rw [hW]; exact gset (World.grownBy.refl w (some q)) 7 (.int .i64 (ops + 1))
  have hFs : ∀ m, FsAt (W.drewN m) q false p (ops + 1) d s mv := fun m => by rw [hW]; exact h.setOps (ops + 1)
  have hx : ∀ m, (W.drewN m).cell? ⟨q, 8, none⟩ = some (.map (some d)) := fun m => (hFs m).dir
  rw [← hW] at hb
  clear hW
  have gm := fun m => gdrewN gF m
  have hlk : ∀ m, (Instr.lookup 69 (.map (some d)) (.string nm) false).run Tryz.prog (W.drewN m) = .ok (ptrV (some b)) (W.drewN m) := fun m => by
    rw [← hl]
    exact (hd.kept (gm m) (by simp; exact hdq)).lookup nm hs
  unfold ptrV at hlk
  have hFb : ∀ m, FileAt (W.drewN m) b f := fun m => hF.kept (P := fun k => k = q) (GP.of (gm m) (fun k e => by cases e; rfl)) hbq.1 (fun k hk e => by
    subst e
    rcases FileV.mem hk with e | e | e
    · exact hbq.2.1 e
    · exact hbq.2.2.1 e
    · exact hbq.2.2.2 e)
  have hst := fun m => settle_any _ _ _ _ _ _ allNext b f (W.drewN m) 0 (hFb m) trivial hok (by omega) ⟨by simp, by simp⟩
  go_enter Tryz.func23, Tryz.ntmps23
  go_wp2_with first
    | (go_at_call 57; refine hb.mono ?_; rintro e w2 ⟨rfl, m1, rfl⟩)
    | (go_at_call 58; refine (hst _).mono ?_; rintro e w2 ⟨rfl, sv, k1, k2, k3, k4⟩)
  go_ret
  have k3' := k3
  refine ⟨rfl, sv, k1, (GP.of (P := fun k => k = q ∨ k = b ∨ f.sv.ownBlock = some k) (gm m1) (fun k e => by cases e; exact .inl rfl)).trans k3 (fun k e => ?_), ?_, fun k e => ?_⟩
  · rcases e with e | e | e
    · exact .inl (.inr (.inl e))
    · exact .inl (.inr (.inr e))
    · cases e
  · refine (k3'.block q (hFs m1).lt ?_).trans (hFs m1)
    rintro (e | e | e)
    · exact hbq.1 e.symm
    · exact hbq.2.1 e
    · cases e
  · rcases k4 k e with e | e
    · exact .inl e
    · exact .inr (Nat.le_trans (gm m1).size e)
end
end Go.Proofs.YtafcgjbafihniaaGreat
