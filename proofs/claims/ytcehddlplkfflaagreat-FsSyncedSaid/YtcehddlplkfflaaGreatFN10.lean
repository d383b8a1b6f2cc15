/-
  LAYER 1 (fs): Append where nothing fails, nothing is full and nothing dies.
-/
import Derived.Test.YtcehddlplkfflaaGreatFN09
import Derived.Laws.BytesString
import Derived.Laws.CopyOwn
import Derived.Test.YtcehddlplkfflaaGreatFN07
namespace Go.Proofs.YtcehddlplkfflaaGreat
set_option maxRecDepth 100000
open Go.RowKit Go.Lib
attribute [local go_sem] Oper.semAt_some

theorem fold_push : ∀ (bs p : List UInt8), ((bs.map fun u => (u.toNat : Int)).foldl (fun (r : ByteArray) n => r.push (UInt8.ofNat n.toNat)) ⟨p.toArray⟩) = ⟨(p ++ bs).toArray⟩
  | [], p => by simp
  | u :: bs, p => by
    have h := fold_push bs (p ++ [u])
    simp only [List.map_cons, List.foldl_cons, Int.toNat_natCast, UInt8.ofNat_toNat]
    have e : (⟨p.toArray⟩ : ByteArray).push u = ⟨(p ++ [u]).toArray⟩ := by
      show ByteArray.mk _ = ByteArray.mk _
      simp
    rw [e, h, List.append_assoc]
    rfl

theorem convA_of {w : World} {v : Value} {bs : List UInt8} (h : Reads w v bs) : (convert 32 113 v).run Tryz.prog w = .ok (.string ⟨bs.toArray⟩) w := by
  have h0 := h
  rcases h with ⟨rfl, rfl⟩ | ⟨b, off, cap, rfl, _, _, _⟩
  · rw [run_convert_bytes_string w 32 113 5 none 0 0 Tryz.underlying32 Tryz.underlying5 Tryz.underlying113]
    simp [Conv.bytesToString]
    rfl
  · rw [run_convert_bytes_string w 32 113 5 _ _ _ Tryz.underlying32 Tryz.underlying5 Tryz.underlying113]
    have hl := run_loadCells_list (P := Tryz.prog) w ⟨b, off, none⟩ (byteCells bs) h0.cells
    have e : byteCells bs = (bs.map fun u => (u.toNat : Int)).map (Value.int .u8) := by simp [byteCells]
    rw [byteCells_len, e] at hl
    rw [run_bytesToString w _ _ _ _ hl]
    have := fold_push bs []
    simp only [List.nil_append] at this
    exact congrArg (fun s => Result.ok (Value.string s) w) this

section
variable {w : World} {q : Nat} {p : PlV} {ops : Int} {d s : Nat} {mv : Value}
theorem FsAt.roomC {dead : Bool} (h : FsAt w q dead p ops d s mv) : w.cell? ⟨q, 6, none⟩ = some (.int .i64 p.r) := by simp [World.cell?, show _ = _ from h]
set_option maxHeartbeats 4000000 in
/-- Without a room, or with nothing to lay, no room lacks. -/
theorem lacksRoom_no {dead : Bool} (n : Nat) (hn : n < 4611686018427387904) (w : World) (h : FsAt w q dead p ops d s mv) (hr : p.r ≤ 0 ∨ n = 0) :
    Calls Tryz.prog 68 #[.pointer (some ⟨q, 0, none⟩), .int .i64 (n : Int)] w fun e w' => e = .returned (.bool false) ∧ ∃ m, w' = w.drewN m := by
  have h6 := h.roomC
  have key : (decide (0 < p.r) = false) ∨ (decide (0 < p.r) = true ∧ n = 0) := by
    by_cases e : 0 < p.r
    · exact .inr ⟨by simp [e], by omega⟩
    · exact .inl (by simp [e])
  rcases key with hk | ⟨hk, rfl⟩
  · go_enter Tryz.func68, Tryz.ntmps68
    go_wp2_with (fail)
    go_quiet (fail)
    go_wp2_with (fail)
    go_ret
    exact ⟨rfl, _, rfl⟩
  · go_enter Tryz.func68, Tryz.ntmps68
    go_wp2_with (fail)
    go_quiet (fail)
    go_wp2_with (fail)
    go_ret
    exact ⟨rfl, _, rfl⟩

set_option maxHeartbeats 4000000 in
theorem append_ok (B : Nat) (fail full : List Int) (nm : ByteArray) (l : DirL) (b : Nat) (f : FileV) (bv : Value) (bs : List UInt8) (w : World) (h : FsAt w q false p ops d s mv) (h0 : 0 ≤ ops) (h9 : ops < 4611686018427387904) (hc : ops + 1 ≠ p.c)
    (hf : w.ownsRow B 3 1 p.f fail.length ((inOrd fail).map intV)) (hu : w.ownsRow B 3 1 p.u full.length ((inOrd full).map intV)) (hq : p.f.ownBlock ≠ some q) (hqu : p.u.ownBlock ≠ some q) (hsf : fail.length < 4611686018427387904) (hsu : full.length < 4611686018427387904)
    (hnf : fail.contains (ops + 1) = false) (hnu : full.contains (ops + 1) = false) (hd : DirM w d l) (hs : nm.size ≤ maxLen) (hl : l.look nm.data.toList = some b) (hF : FileAt w b f) (hn : f.chg.length < 8796093022207)
    (hb : Reads w bv bs) (hbv : bs ≠ [] → bv.ownBlock ≠ some q) (hne : bs ≠ []) (hlen : bs.length + f.data.length ≤ 268435456) (hroom : p.r ≤ 0)
    (hdq : d ≠ q) (hbq : b ≠ q ∧ f.sv.ownBlock ≠ some q ∧ f.dv.ownBlock ≠ some q ∧ f.cv.ownBlock ≠ some q) :
    Calls Tryz.prog 31 #[.pointer (some ⟨q, 0, none⟩), .string nm, bv] w fun e w' => e = .returned (.int .i64 0) ∧ ∃ f', FileAt w' b f' ∧ f'.safe = f.safe ∧ f'.data = f.data ++ bs ∧ f'.chg = f.chg ++ [.add ⟨bs.toArray⟩] ∧
      GP (fun k => k = q ∨ k = b ∨ k ∈ f.blocks) w w' ∧ FsAt w' q false p (ops + 1) d s mv ∧ (∀ k ∈ f'.blocks, k ∈ f.blocks ∨ w.heap.size ≤ k) := by
  have hbe := begin_fs B fail w h h0 h9 hc hf hq hsf
  rw [hnf] at hbe
  have hbW := hb.kept (gset (World.grownBy.refl w (some q)) 7 (.int .i64 (ops + 1))) (.inr (hbv hne))
  obtain ⟨W, hW⟩ : ∃ W, W = w.setCell ⟨q, 7, none⟩ (.int .i64 (ops + 1)) := ⟨_, rfl⟩
  have gF : w.grownBy W (some q) := by rw [hW]; exact gset (World.grownBy.refl w (some q)) 7 (.int .i64 (ops + 1))
  have hFs : ∀ m, FsAt (W.drewN m) q false p (ops + 1) d s mv := fun m => by rw [hW]; exact h.setOps (ops + 1)
  have hx : ∀ m, (W.drewN m).cell? ⟨q, 8, none⟩ = some (.map (some d)) := fun m => (hFs m).dir
  have hWs : W.heap.size = w.heap.size := by rw [hW]; simp
  rw [← hW] at hbe hbW
  clear hW
  have gm := fun m => gdrewN gF m
  have hbm : ∀ m, Reads (W.drewN m) bv bs := fun m => hbW.new (gdrewN (World.grownBy.refl W none) m)
  have hcv := fun m => convA_of (hbm m)
  obtain ⟨ba, bc, rfl⟩ := hb.form
  have hlk : ∀ m, (Instr.lookup 67 (.map (some d)) (.string nm) false).run Tryz.prog (W.drewN m) = .ok (ptrV (some b)) (W.drewN m) := fun m => by
    rw [← hl]
    exact (hd.kept (gm m) (by simp; exact hdq)).lookup nm hs
  unfold ptrV at hlk
  have hFb : ∀ m, FileAt (W.drewN m) b f := fun m => hF.kept (P := fun k => k = q) (GP.of (gm m) (fun k e => by cases e; rfl)) hbq.1 (fun k hk e => by
    subst e
    rcases FileV.mem hk with e | e | e
    · exact hbq.2.1 e
    · exact hbq.2.2.1 e
    · exact hbq.2.2.2 e)
  have huq : ∀ m, (W.drewN m).ownsRow B 3 1 p.u full.length ((inOrd full).map intV) := fun m => World.ownsRow.kept hu (gm m) (.inr hqu)
  have hfu := fun m => isFull_fs B full (W.drewN m) (hFs m) (huq m) hsu
  rw [hnu] at hfu
  have hlr := fun m => lacksRoom_no bs.length (by omega) (W.drewN m) (hFs m) (.inl hroom)
  have hch := fun m => change_any (.add ⟨bs.toArray⟩) b f (W.drewN m) (hFb m) (by unfold Chg.may; show f.data.length + bs.toArray.size ≤ _; simp; omega) hn
  dsimp only [Chg.v] at hch
  obtain ⟨dva, dvc, hdv⟩ : ∃ a c, f.dv = .slice a f.data.length c := by
    obtain ⟨_, ⟨e, hz⟩ | ⟨g, cap, cur, e, _⟩⟩ := hF.2.2.1
    · exact ⟨none, 0, by rw [e, hz]⟩
    · exact ⟨_, _, e⟩
  have c1 : ∀ m, (W.drewN m).cell? ⟨b, 1, none⟩ = some (.slice dva f.data.length dvc) := fun m => by rw [← hdv]; exact (hFb m).c1
  have hbl : 0 < bs.length := List.length_pos_iff.2 hne
  obtain ⟨n, hnn⟩ : ∃ n, n = bs.length := ⟨_, rfl⟩
  obtain ⟨m', hmm⟩ : ∃ n, n = f.data.length := ⟨_, rfl⟩
  rw [← hnn] at hlr hlen hbl hcv hbm ⊢
  rw [← hmm] at c1 hlen
  replace hch := Lib.hid hch
  replace hWs := Lib.hid hWs
  replace hnn := Lib.hid hnn
  replace hmm := Lib.hid hmm
  replace hdv := Lib.hid hdv
  clear hbW hFb hb hbm
  go_enter Tryz.func31, Tryz.ntmps31
  go_wp2_with first
    | (go_at_call 56; refine hbe.mono ?_; rintro e w2 ⟨rfl, m1, rfl⟩)
    | (go_at_call 59; refine (hfu _).mono ?_; rintro e w2 ⟨rfl, m2, rfl⟩)
    | (go_at_call 68; refine (hlr _).mono ?_; rintro e w2 ⟨rfl, m3, rfl⟩)
    | (go_at_call 69; refine (hch.out _).mono ?_; rintro e w2 ⟨rfl, f', k1, k2, k3, k4, k5, k6⟩)
  go_ret
  have hWs := hWs.out
  refine ⟨rfl, f', k1, k2, by rw [k3]; simp [Chg.done], k4, (GP.of (P := fun k => k = q ∨ k = b ∨ k ∈ f.blocks) (gm (m1 + m2 + m3)) (fun k e => by cases e; exact .inl rfl)).trans k5 (fun k e => .inl (.inr e)), (k5.block q (hFs (m1 + m2 + m3)).lt ?_).trans (hFs (m1 + m2 + m3)), fun k e => (k6 k e).imp id (fun h => by have e1 : (W.drewN (m1 + m2 + m3)).heap.size = w.heap.size := hWs; omega)⟩
  rintro (e | e)
  · exact hbq.1 e.symm
  · rcases FileV.mem e with e | e | e
    · exact hbq.2.1 e
    · exact hbq.2.2.1 e
    · exact hbq.2.2.2 e
end
end Go.Proofs.YtcehddlplkfflaaGreat

/-
  LAYER 1 (fs): Sync where nothing fails and nothing dies.
-/
namespace Go.Proofs.YtcehddlplkfflaaGreat
set_option maxRecDepth 100000
open Go.RowKit Go.Lib
attribute [local go_sem] Oper.semAt_some

section
variable {w : World} {q : Nat} {p : PlV} {ops : Int} {d s : Nat} {mv : Value}
set_option maxHeartbeats 4000000 in
theorem sync_ok (B : Nat) (fail : List Int) (nm : ByteArray) (l : DirL) (b : Nat) (f : FileV) (w : World) (h : FsAt w q false p ops d s mv) (h0 : 0 ≤ ops) (h9 : ops < 4611686018427387904) (hc : ops + 1 ≠ p.c)
    (hf : w.ownsRow B 3 1 p.f fail.length ((inOrd fail).map intV)) (hq : p.f.ownBlock ≠ some q) (hsf : fail.length < 4611686018427387904)
    (hnf : fail.contains (ops + 1) = false) (hd : DirM w d l) (hs : nm.size ≤ maxLen) (hl : l.look nm.data.toList = some b) (hF : FileAt w b f) (hok : okL f.safe f.chg) (hn : f.chg.length < 4611686018427387904)
    (hdq : d ≠ q) (hbq : b ≠ q ∧ f.sv.ownBlock ≠ some q ∧ f.dv.ownBlock ≠ some q ∧ f.cv.ownBlock ≠ some q) :
    Calls Tryz.prog 22 #[.pointer (some ⟨q, 0, none⟩), .string nm] w fun e w' => e = .returned (.int .i64 0) ∧ ∃ sv, FileAt w' b { f with sv := sv, cv := .slice none 0 0, safe := settleP (fun _ => -1) 0 true f.safe f.chg, chg := [] } ∧
      GP (fun k => k = q ∨ k = b ∨ f.sv.ownBlock = some k) w w' ∧ FsAt w' q false p (ops + 1) d s mv ∧ (∀ k, sv.ownBlock = some k → f.sv.ownBlock = some k ∨ w.heap.size ≤ k) := by
  have hb := begin_fs B fail w h h0 h9 hc hf hq hsf
  rw [hnf] at hb
  obtain ⟨W, hW⟩ : ∃ W, W = w.setCell ⟨q, 7, none⟩ (.int .i64 (ops + 1)) := ⟨_, rfl⟩
  have gF : w.grownBy W (some q) := by rw [hW]; exact gset (World.grownBy.refl w (some q)) 7 (.int .i64 (ops + 1))
  have hFs : ∀ m, FsAt (W.drewN m) q false p (ops + 1) d s mv := fun m => by rw [hW]; exact h.setOps (ops + 1)
  have hx : ∀ m, (W.drewN m).cell? ⟨q, 8, none⟩ = some (.map (some d)) := fun m => (hFs m).dir
  rw [← hW] at hb
  clear hW
  have gm := fun m => gdrewN gF m
  have hlk : ∀ m, (Instr.lookup 67 (.map (some d)) (.string nm) false).run Tryz.prog (W.drewN m) = .ok (ptrV (some b)) (W.drewN m) := fun m => by
    rw [← hl]
    exact (hd.kept (gm m) (by simp; exact hdq)).lookup nm hs
  unfold ptrV at hlk
  have hFb : ∀ m, FileAt (W.drewN m) b f := fun m => hF.kept (P := fun k => k = q) (GP.of (gm m) (fun k e => by cases e; rfl)) hbq.1 (fun k hk e => by
    subst e
    rcases FileV.mem hk with e | e | e
    · exact hbq.2.1 e
    · exact hbq.2.2.1 e
    · exact hbq.2.2.2 e)
  have hst := fun m => settle_any _ _ _ _ _ _ allNext b f (W.drewN m) 0 (hFb m) trivial hok (by omega) ⟨by simp, by simp⟩
  go_enter Tryz.func22, Tryz.ntmps22
  go_wp2_with first
    | (go_at_call 56; refine hb.mono ?_; rintro e w2 ⟨rfl, m1, rfl⟩)
    | (go_at_call 57; refine (hst _).mono ?_; rintro e w2 ⟨rfl, sv, k1, k2, k3, k4⟩)
  go_ret
  have k3' := k3
  refine ⟨rfl, sv, k1, (GP.of (P := fun k => k = q ∨ k = b ∨ f.sv.ownBlock = some k) (gm m1) (fun k e => by cases e; exact .inl rfl)).trans k3 (fun k e => ?_), ?_, fun k e => ?_⟩
  · rcases e with e | e | e
    · exact .inl (.inr (.inl e))
    · exact .inl (.inr (.inr e))
    · cases e
  · refine (k3'.block q (hFs m1).lt ?_).trans (hFs m1)
    rintro (e | e | e)
    · exact hbq.1 e.symm
    · exact hbq.2.1 e
    · cases e
  · rcases k4 k e with e | e
    · exact .inl e
    · exact .inr (Nat.le_trans (gm m1).size e)
end
end Go.Proofs.YtcehddlplkfflaaGreat

/-
  LAYER 1 (fs): SyncDir where nothing fails, nothing is full and nothing dies.
-/
namespace Go.Proofs.YtcehddlplkfflaaGreat
set_option maxRecDepth 100000
open Go.RowKit Go.Lib
attribute [local go_sem] Oper.semAt_some

section
variable {w : World} {q : Nat} {p : PlV} {ops : Int} {d s : Nat} {mv : Value}
set_option maxHeartbeats 4000000 in
theorem syncDir_ok (B : Nat) (fail full : List Int) (ml : List Mv) (l : DirL) (w : World) (h : FsAt w q false p ops d s mv) (h0 : 0 ≤ ops) (h9 : ops < 4611686018427387904) (hc : ops + 1 ≠ p.c)
    (hf : w.ownsRow B 3 1 p.f fail.length ((inOrd fail).map intV)) (hu : w.ownsRow B 3 1 p.u full.length ((inOrd full).map intV)) (hq : p.f.ownBlock ≠ some q) (hqu : p.u.ownBlock ≠ some q) (hsf : fail.length < 4611686018427387904) (hsu : full.length < 4611686018427387904)
    (hnf : fail.contains (ops + 1) = false) (hnu : full.contains (ops + 1) = false) (hd : DirM w s l) (hr : w.ownsRow 0 108 3 mv ml.length (mvCells ml)) (hm : okMoves ml l) (hn2 : ml.length < 3518437208882)
    (hsq : s ≠ q) (hmq : mv.ownBlock ≠ some q) (hms : mv.ownBlock ≠ some s) :
    Calls Tryz.prog 23 #[.pointer (some ⟨q, 0, none⟩)] w fun e w' => e = .returned (.int .i64 0) ∧ FsAt w' q false p (ops + 1) d s (.slice none 0 0) ∧ DirM w' s (movesDone ml l) ∧ GP (fun k => k = q ∨ k = s) w w' := by
  have hb := begin_fs B fail w h h0 h9 hc hf hq hsf
  rw [hnf] at hb
  obtain ⟨W, hW⟩ : ∃ W, W = w.setCell ⟨q, 7, none⟩ (.int .i64 (ops + 1)) := ⟨_, rfl⟩
  have gF : w.grownBy W (some q) := by rw [hW]; exact gset (World.grownBy.refl w (some q)) 7 (.int .i64 (ops + 1))
  have hF : ∀ m, FsAt (W.drewN m) q false p (ops + 1) d s mv := fun m => by rw [hW]; exact h.setOps (ops + 1)
  have hx : ∀ m, (W.drewN m).cell? ⟨q, 10, none⟩ = some mv := fun m => (hF m).moves
  rw [← hW] at hb
  clear hW
  have gm := fun m => gdrewN gF m
  have huq : ∀ m, (W.drewN m).ownsRow B 3 1 p.u full.length ((inOrd full).map intV) := fun m => World.ownsRow.kept hu (gm m) (.inr hqu)
  have hfu := fun m => isFull_fs B full (W.drewN m) (hF m) (huq m) hsu
  rw [hnu] at hfu
  have hst := fun m => fsSettle_any ml.length ml l (W.drewN m) (hF m) (hd.kept (gm m) (by simp; exact hsq)) (World.ownsRow.kept hr (gm m) (.inr hmq)) (by rw [List.take_length]; exact hm) (Nat.le_refl _) hn2 hsq hmq hms
  rw [List.take_length] at hst
  obtain ⟨a, c, rfl⟩ : ∃ a c, mv = .slice a ml.length c := by
    obtain ⟨_, ⟨e, hz⟩ | ⟨g, cap, cur, e, _⟩⟩ := hr
    · exact ⟨none, 0, by rw [e, hz]⟩
    · exact ⟨_, _, e⟩
  go_enter Tryz.func23, Tryz.ntmps23
  go_wp2_with first
    | (go_at_call 56; refine hb.mono ?_; rintro e w2 ⟨rfl, m1, rfl⟩)
    | (go_at_call 59; refine (hfu _).mono ?_; rintro e w2 ⟨rfl, m2, rfl⟩)
    | (go_at_call 60; refine (hst _).mono ?_; rintro e w2 ⟨rfl, k1, k2, k3⟩)
  go_ret
  exact ⟨rfl, k1, k2, GP.trans (P := fun k => k = q ∨ k = s) (GP.of (gm _) (fun k e => by cases e; exact .inl rfl)) k3 (fun k e => .inl e)⟩
end
end Go.Proofs.YtcehddlplkfflaaGreat

/-
  LAYER 1 (fs): the operations on a whole file system, where nothing fails, is full or dies.
-/
namespace Go.Proofs.YtcehddlplkfflaaGreat
set_option maxRecDepth 100000
open Go.RowKit Go.Lib
open Go.Proofs (encStr)

section
variable {n0 : Nat → Prop} {w : World} {q : Nat} {dead : Bool} {p : PlV} {pl : Pl} {ops : Int} {d s : Nat} {mv : Value} {ld ls : DirL} {ml : List Mv} {fl : List (Nat × FileV)}
theorem FsOk.plan {w' : World} {P : Nat → Prop} (h : FsOk n0 w q dead p pl ops d s mv ld ls ml fl) (g : GP P w w') (hP : ∀ k, P k → k = q ∨ k = d ∨ k = s ∨ mv.ownBlock = some k ∨ k ∈ filesBlocks fl) :
    w'.ownsRow 0 3 1 p.k pl.keep.length (pl.keep.map intV) ∧ w'.ownsRow 0 3 1 p.f pl.fail.length ((inOrd pl.fail).map intV) ∧ w'.ownsRow 0 3 1 p.u pl.full.length ((inOrd pl.full).map intV) := by
  have key : ∀ {v : Value} {n : Nat} {xs : List Value}, w.ownsRow 0 3 1 v n xs → w'.ownsRow 0 3 1 v n xs := fun {v n xs} hv => own_gp hv g (fun k e hp => by
    have h1 := h.row_fs hv (by decide)
    rcases hP k hp with h2 | h2 | h2 | h2 | h2
    · exact h1.1 (by rw [← h2]; exact e)
    · exact h1.2.1 (by rw [← h2]; exact e)
    · exact h1.2.2 (by rw [← h2]; exact e)
    · exact own_own hv h.mr (by decide) k e h2
    · exact h.row_files hv ⟨by decide, by decide, by decide⟩ k h2 e)
  exact ⟨key h.rk, key h.rf, key h.ru⟩
theorem FsOk.foot_ge (h : FsOk n0 w q dead p pl ops d s mv ld ls ml fl) : ∀ k, FsFoot q d s p mv fl k → n0 k := h.new

theorem new_good (vk vf vu : Value) (pl : Pl) (w : World) (hk : Ints w vk pl.keep) (hf : Ints w vf pl.fail) (hu : Ints w vu pl.full)
    (lk : pl.keep.length * 8 ≤ 140737488351232) (lf : pl.fail.length * 8 ≤ 140737488351232) (lu : pl.full.length * 8 ≤ 140737488351232) :
    Calls Tryz.prog 11 #[.agg #[.int .i64 pl.crash, vk, vf, vu, .int .i64 pl.room]] w fun e w' => ∃ q d s p, e = .returned (.pointer (some ⟨q, 0, none⟩)) ∧ FsOk (fun k => w.heap.size ≤ k) w' q false p pl 0 d s (.slice none 0 0) [] [] [] [] ∧ w.grownBy w' none := by
  refine (new_any vk vf vu pl w hk hf hu lk lf lu).mono ?_
  rintro e w' ⟨q, d, s, k', f', u', rfl, n1, n2, n3, n4, n5, n6, n7, n8, n9, n10, g1⟩
  refine ⟨q, d, s, _, rfl, ⟨n1, rfl, rfl, rowMono n8 (Nat.zero_le _), rowMono n9 (Nat.zero_le _), rowMono n10 (Nat.zero_le _), DirM.fresh n2, DirM.fresh n3, World.ownsRow_nil _ _ _ _, ⟨by simp, by simp [filesBlocks]⟩, n4, fun k hk => ?_⟩, g1⟩
  rcases hk with rfl | rfl | rfl | e | e | e | e | e
  · exact n5
  · exact n6
  · exact n7
  · simp [Value.ownBlock] at e
  · exact (World.ownsRow.lt n8 k e).1
  · exact (World.ownsRow.lt n9 k e).1
  · exact (World.ownsRow.lt n10 k e).1
  · simp [filesBlocks] at e

theorem create_good (nm : ByteArray) (h : FsOk n0 w q false p pl ops d s mv ld ls ml fl) (hn0 : ∀ k, w.heap.size ≤ k → n0 k) (h0 : 0 ≤ ops) (h9 : ops < 4611686018427387904) (hc : ops + 1 ≠ pl.crash) (hsf : pl.fail.length < 4611686018427387904) (hsu : pl.full.length < 4611686018427387904)
    (hnf : pl.fail.contains (ops + 1) = false) (hnu : pl.full.contains (ops + 1) = false) (hs : nm.size ≤ maxLen) (hnm : okName nm = true) (hnm0 : nm.size ≠ 0) (hl : ld.look nm.data.toList = none) (hl9 : ld.length < 4096) (hn2 : ml.length < 3518437208882) :
    Calls Tryz.prog 30 #[.pointer (some ⟨q, 0, none⟩), .string nm] w fun e w' => e = .returned (.int .i64 0) ∧ ∃ mv', FsOk n0 w' q false p pl (ops + 1) d s mv' (ld.put nm.data.toList w.heap.size) ls (ml ++ [⟨⟨#[]⟩, nm, some w.heap.size⟩]) (fl ++ [(w.heap.size, ⟨.slice none 0 0, .slice none 0 0, .slice none 0 0, [], [], []⟩)]) ∧ GP (FsFoot q d s p mv fl) w w' := by
  have rf := h.row_fs h.mr (by decide)
  refine (create_ok 0 pl.fail pl.full nm ml ld w h.fs h0 h9 (by rw [h.pc]; exact hc) h.rf h.ru (h.row_fs h.rf (by decide)).1 (h.row_fs h.ru (by decide)).1 hsf hsu hnf hnu h.dir hs hnm hnm0 hl hl9 h.mr hn2 h.ndq rf.1 rf.2.1).mono ?_
  rintro e w' ⟨rfl, mv', k1, k2, k3, k4, k5, k6⟩
  have hpl := h.plan k6 (fun k hk => by
    rcases hk with e | e | e
    · exact .inl e
    · exact .inr (.inl e)
    · exact .inr (.inr (.inr (.inl e))))
  have hnf2 : ∀ k ∈ filesBlocks fl, ¬ (k = q ∨ k = d ∨ mv.ownBlock = some k) := fun k hk hp => by
    have := h.fb k hk
    rcases hp with e | e | e
    · exact this.1 e
    · exact this.2.1 e
    · exact h.row_files h.mr ⟨by decide, by decide, by decide⟩ k hk e
  have hlt := h.files.lt
  have hown : ∀ k, mv'.ownBlock = some k → mv.ownBlock = some k ∨ w.heap.size ≤ k := fun k e => by
    rcases k5 with e2 | ⟨k2, e2, h2⟩
    · exact .inl (by rw [← e2]; exact e)
    · rw [e] at e2; cases e2; exact .inr h2
  have hs' := h.safe.gp k6 (by rintro (e | e | e); exact h.nsq e; exact h.nds e.symm; exact rf.2.2 e)
  have hfl := h.files.kept k6 hnf2
  refine ⟨rfl, mv', ⟨k1, h.pc, h.pr, hpl.1, hpl.2.1, hpl.2.2, k2, hs', by rw [List.length_append]; exact k4, ⟨fun x hx => ?_, ?_⟩, h.nds, fun k hk => ?_⟩, (GP.refl _ _).trans k6 (fun k hk => .inl ?_)⟩
  · rcases List.mem_append.1 hx with hx | hx
    · exact hfl.1 x hx
    · simp at hx
      subst hx
      exact k3
  · rw [filesBlocks_append, List.nodup_append]
    refine ⟨hfl.2, by simp [filesBlocks, FileV.blocks, Value.ownBlock], fun a ha b hb e => ?_⟩
    simp [filesBlocks, FileV.blocks, Value.ownBlock] at hb
    have := hlt a ha
    omega
  · rcases hk with e | e | e | e | e | e | e | e
    · exact h.new k (.inl e)
    · exact h.new k (.inr (.inl e))
    · exact h.new k (.inr (.inr (.inl e)))
    · rcases hown k e with e | e
      · exact h.new k (.inr (.inr (.inr (.inl e))))
      · exact hn0 k e
    · exact h.new k (.inr (.inr (.inr (.inr (.inl e)))))
    · exact h.new k (.inr (.inr (.inr (.inr (.inr (.inl e))))))
    · exact h.new k (.inr (.inr (.inr (.inr (.inr (.inr (.inl e)))))))
    · rw [filesBlocks_append, List.mem_append] at e
      rcases e with e | e
      · exact h.new k (.inr (.inr (.inr (.inr (.inr (.inr (.inr e)))))))
      · simp [filesBlocks, FileV.blocks, Value.ownBlock] at e
        exact hn0 k (by omega)
  · rcases hk with e | e | e
    · exact .inl e
    · exact .inr (.inl e)
    · exact .inr (.inr (.inr (.inl e)))

/-- One file turned, all else kept: what is left of a file system whose block, and whose file b, an operation turned. -/
theorem FsOk.file {w' : World} {P : Nat → Prop} {ops' : Int} {A B : List (Nat × FileV)} {b : Nat} {f f' : FileV} (h : FsOk n0 w q dead p pl ops d s mv ld ls ml (A ++ (b, f) :: B)) (hn0 : ∀ k, w.heap.size ≤ k → n0 k) (g : GP P w w') (hP : ∀ k, P k → k = q ∨ k = b ∨ k ∈ f.blocks) (hq : FsAt w' q dead p ops' d s mv) (hf : FileAt w' b f') (hb : ∀ k ∈ f'.blocks, k ∈ f.blocks ∨ w.heap.size ≤ k) :
    FsOk n0 w' q dead p pl ops' d s mv ld ls ml (A ++ (b, f') :: B) ∧ GP (FsFoot q d s p mv (A ++ (b, f) :: B)) w w' := by
  have hin : ∀ k, k = b ∨ k ∈ f.blocks → k ∈ filesBlocks (A ++ (b, f) :: B) := fun k hk => mem_filesBlocks.2 ⟨(b, f), by simp, hk⟩
  have hPf : ∀ k, P k → k = q ∨ k ∈ filesBlocks (A ++ (b, f) :: B) := fun k hk => (hP k hk).imp id (hin k)
  have hpl := h.plan g (fun k hk => (hPf k hk).imp id (fun e => .inr (.inr (.inr e))))
  have r1 := h.row_fs h.mr (by decide)
  have hfb := h.fb
  refine ⟨⟨hq, h.pc, h.pr, hpl.1, hpl.2.1, hpl.2.2, h.dir.gp g (fun e => ?_), h.safe.gp g (fun e => ?_), own_gp h.mr g (fun k e e2 => ?_), h.files.turn g (fun k hk => ?_) hf hb, h.nds, fun k hk => ?_⟩, (GP.refl _ _).trans g (fun k hk => .inl ?_)⟩
  · rcases hPf d e with e | e
    · exact h.ndq e
    · exact (hfb d e).2.1 rfl
  · rcases hPf s e with e | e
    · exact h.nsq e
    · exact (hfb s e).2.2 rfl
  · rcases hPf k e2 with e3 | e3
    · exact r1.1 (by rw [← e3]; exact e)
    · exact h.row_files h.mr ⟨by decide, by decide, by decide⟩ k e3 e
  · rcases hP k hk with e | e | e
    · right; right
      intro hk2
      obtain ⟨x, hx, e2⟩ := mem_filesBlocks.1 hk2
      exact (hfb k (mem_filesBlocks.2 ⟨x, by
        rcases List.mem_append.1 hx with hx | hx
        · simp [hx]
        · simp [hx], e2⟩)).1 e
    · exact .inl e
    · exact .inr (.inl e)
  · rcases hk with e | e | e | e | e | e | e | e
    · exact h.new k (.inl e)
    · exact h.new k (.inr (.inl e))
    · exact h.new k (.inr (.inr (.inl e)))
    · exact h.new k (.inr (.inr (.inr (.inl e))))
    · exact h.new k (.inr (.inr (.inr (.inr (.inl e)))))
    · exact h.new k (.inr (.inr (.inr (.inr (.inr (.inl e))))))
    · exact h.new k (.inr (.inr (.inr (.inr (.inr (.inr (.inl e)))))))
    · have old : ∀ k, k ∈ filesBlocks (A ++ (b, f) :: B) → n0 k := fun k e => h.new k (.inr (.inr (.inr (.inr (.inr (.inr (.inr e)))))))
      obtain ⟨x, hx, e2⟩ := mem_filesBlocks.1 e
      rcases List.mem_append.1 hx with hx | hx
      · exact old k (mem_filesBlocks.2 ⟨x, by simp [hx], e2⟩)
      · rcases List.mem_cons.1 hx with rfl | hx
        · rcases e2 with e2 | e2
          · exact old k (hin k (.inl e2))
          · rcases hb k e2 with e3 | e3
            · exact old k (hin k (.inr e3))
            · exact hn0 k e3
        · exact old k (mem_filesBlocks.2 ⟨x, by simp [hx], e2⟩)
  · rcases hPf k hk with e | e
    · exact .inl e
    · exact .inr (.inr (.inr (.inr (.inr (.inr (.inr e))))))

theorem FsOk.fileq {A B : List (Nat × FileV)} {b : Nat} {f : FileV} (h : FsOk n0 w q dead p pl ops d s mv ld ls ml (A ++ (b, f) :: B)) : FileAt w b f ∧ b ≠ q ∧ f.sv.ownBlock ≠ some q ∧ f.dv.ownBlock ≠ some q ∧ f.cv.ownBlock ≠ some q := by
  have hf := h.files.1 (b, f) (by simp)
  have hin : ∀ k, k = b ∨ k ∈ f.blocks → k ∈ filesBlocks (A ++ (b, f) :: B) := fun k hk => mem_filesBlocks.2 ⟨(b, f), by simp, hk⟩
  exact ⟨hf, (h.fb b (hin b (.inl rfl))).1, fun e => (h.fb q (hin q (.inr (FileV.mem_s e)))).1 rfl, fun e => (h.fb q (hin q (.inr (FileV.mem_d e)))).1 rfl, fun e => (h.fb q (hin q (.inr (FileV.mem_c e)))).1 rfl⟩

theorem append_good (nm : ByteArray) (bv : Value) (bs : List UInt8) {A B : List (Nat × FileV)} {b : Nat} {f : FileV} (h : FsOk n0 w q false p pl ops d s mv ld ls ml (A ++ (b, f) :: B)) (hn0 : ∀ k, w.heap.size ≤ k → n0 k) (h0 : 0 ≤ ops) (h9 : ops < 4611686018427387904) (hc : ops + 1 ≠ pl.crash) (hsf : pl.fail.length < 4611686018427387904) (hsu : pl.full.length < 4611686018427387904)
    (hnf : pl.fail.contains (ops + 1) = false) (hnu : pl.full.contains (ops + 1) = false) (hs : nm.size ≤ maxLen) (hl : ld.look nm.data.toList = some b) (hn : f.chg.length < 8796093022207) (hb : Reads w bv bs) (hbv : bs ≠ [] → bv.ownBlock ≠ some q) (hne : bs ≠ []) (hlen : bs.length + f.data.length ≤ 268435456) (hroom : pl.room ≤ 0) :
    Calls Tryz.prog 31 #[.pointer (some ⟨q, 0, none⟩), .string nm, bv] w fun e w' => e = .returned (.int .i64 0) ∧ ∃ f', FsOk n0 w' q false p pl (ops + 1) d s mv ld ls ml (A ++ (b, f') :: B) ∧ f'.safe = f.safe ∧ f'.data = f.data ++ bs ∧ f'.chg = f.chg ++ [.add ⟨bs.toArray⟩] ∧ GP (FsFoot q d s p mv (A ++ (b, f) :: B)) w w' := by
  obtain ⟨hf, hbq⟩ := h.fileq
  refine (append_ok 0 pl.fail pl.full nm ld b f bv bs w h.fs h0 h9 (by rw [h.pc]; exact hc) h.rf h.ru (h.row_fs h.rf (by decide)).1 (h.row_fs h.ru (by decide)).1 hsf hsu hnf hnu h.dir hs hl hf hn hb hbv hne hlen (by rw [h.pr]; exact hroom) h.ndq hbq).mono ?_
  rintro e w' ⟨rfl, f', k1, k2, k3, k4, k5, k6, k7⟩
  have := h.file hn0 k5 (fun k hk => hk) k6 k1 k7
  exact ⟨rfl, f', this.1, k2, k3, k4, this.2⟩

theorem sync_good (nm : ByteArray) {A B : List (Nat × FileV)} {b : Nat} {f : FileV} (h : FsOk n0 w q false p pl ops d s mv ld ls ml (A ++ (b, f) :: B)) (hn0 : ∀ k, w.heap.size ≤ k → n0 k) (h0 : 0 ≤ ops) (h9 : ops < 4611686018427387904) (hc : ops + 1 ≠ pl.crash) (hsf : pl.fail.length < 4611686018427387904)
    (hnf : pl.fail.contains (ops + 1) = false) (hs : nm.size ≤ maxLen) (hl : ld.look nm.data.toList = some b) (hok : okL f.safe f.chg) (hn : f.chg.length < 4611686018427387904) :
    Calls Tryz.prog 22 #[.pointer (some ⟨q, 0, none⟩), .string nm] w fun e w' => e = .returned (.int .i64 0) ∧ ∃ f', FsOk n0 w' q false p pl (ops + 1) d s mv ld ls ml (A ++ (b, f') :: B) ∧ f'.safe = settleP (fun _ => -1) 0 true f.safe f.chg ∧ f'.data = f.data ∧ f'.chg = [] ∧ GP (FsFoot q d s p mv (A ++ (b, f) :: B)) w w' := by
  obtain ⟨hf, hbq⟩ := h.fileq
  refine (sync_ok 0 pl.fail nm ld b f w h.fs h0 h9 (by rw [h.pc]; exact hc) h.rf (h.row_fs h.rf (by decide)).1 hsf hnf h.dir hs hl hf hok hn h.ndq hbq).mono ?_
  rintro e w' ⟨rfl, sv, k1, k2, k3, k4⟩
  have := h.file hn0 k2 (fun k hk => by
    rcases hk with e | e | e
    · exact .inl e
    · exact .inr (.inl e)
    · exact .inr (.inr (FileV.mem_s e))) k3 k1 (fun k hk => by
    rcases FileV.mem hk with e | e | e
    · exact (k4 k e).imp FileV.mem_s id
    · exact .inl (FileV.mem_d e)
    · simp [Value.ownBlock] at e)
  exact ⟨rfl, _, this.1, rfl, rfl, rfl, this.2⟩

theorem syncDir_good (h : FsOk n0 w q false p pl ops d s mv ld ls ml fl) (h0 : 0 ≤ ops) (h9 : ops < 4611686018427387904) (hc : ops + 1 ≠ pl.crash) (hsf : pl.fail.length < 4611686018427387904) (hsu : pl.full.length < 4611686018427387904)
    (hnf : pl.fail.contains (ops + 1) = false) (hnu : pl.full.contains (ops + 1) = false) (hm : okMoves ml ls) (hn2 : ml.length < 3518437208882) :
    Calls Tryz.prog 23 #[.pointer (some ⟨q, 0, none⟩)] w fun e w' => e = .returned (.int .i64 0) ∧ FsOk n0 w' q false p pl (ops + 1) d s (.slice none 0 0) ld (movesDone ml ls) [] fl ∧ GP (FsFoot q d s p mv fl) w w' := by
  have rf := h.row_fs h.mr (by decide)
  refine (syncDir_ok 0 pl.fail pl.full ml ls w h.fs h0 h9 (by rw [h.pc]; exact hc) h.rf h.ru (h.row_fs h.rf (by decide)).1 (h.row_fs h.ru (by decide)).1 hsf hsu hnf hnu h.safe h.mr hm hn2 h.nsq rf.1 rf.2.2).mono ?_
  rintro e w' ⟨rfl, k1, k2, k3⟩
  have hpl := h.plan k3 (fun k hk => by
    rcases hk with e | e
    · exact .inl e
    · exact .inr (.inr (.inl e)))
  refine ⟨rfl, ⟨k1, h.pc, h.pr, hpl.1, hpl.2.1, hpl.2.2, h.dir.gp k3 (by rintro (e | e); exact h.ndq e; exact h.nds e), k2, World.ownsRow_nil _ _ _ _, h.files.kept k3 (fun k hk e => by
    have := h.fb k hk
    rcases e with e | e
    · exact this.1 e
    · exact this.2.2 e), h.nds, fun k hk => ?_⟩, (GP.refl _ _).trans k3 (fun k hk => .inl ?_)⟩
  · rcases hk with e | e | e | e | e | e | e | e
    · exact h.new k (.inl e)
    · exact h.new k (.inr (.inl e))
    · exact h.new k (.inr (.inr (.inl e)))
    · simp [Value.ownBlock] at e
    · exact h.new k (.inr (.inr (.inr (.inr (.inl e)))))
    · exact h.new k (.inr (.inr (.inr (.inr (.inr (.inl e))))))
    · exact h.new k (.inr (.inr (.inr (.inr (.inr (.inr (.inl e)))))))
    · exact h.new k (.inr (.inr (.inr (.inr (.inr (.inr (.inr e)))))))
  · rcases hk with e | e
    · exact .inl e
    · exact .inr (.inr (.inl e))
end
end Go.Proofs.YtcehddlplkfflaaGreat

/-
  LAYER 1 (fs): Start of a whole file system that lives: it dies first.
-/
namespace Go.Proofs.YtcehddlplkfflaaGreat
set_option maxRecDepth 100000
open Go.RowKit Go.Lib
open Go.Proofs (encStr)

section
variable {n0 : Nat → Prop} {w : World} {q : Nat} {p : PlV} {pl : Pl} {ops : Int} {d s : Nat} {mv : Value} {ld ls : DirL} {ml : List Mv} {fl : List (Nat × FileV)}

/-- die, of a whole file system. -/
theorem die_good (F : Nat → FileV) (nm : Nat) (hnm : nm = dieN pl.keep ml) (l' : DirL) (hl' : l' = movesDone (ml.take nm) ls) (h : FsOk n0 w q false p pl ops d s mv ld ls ml fl) (hn0 : ∀ k, w.heap.size ≤ k → n0 k) (hlk : pl.keep.length < 4611686018427387904)
    (hm : okMoves (ml.take nm) ls) (hn2 : ml.length < 3518437208882) (hl9 : l'.length ≤ 3518437208881) (hF : FilesM w (filesOf F l'.sorted)) (hsub : ∀ k ∈ filesBlocks (filesOf F l'.sorted), k ∈ filesBlocks fl) (hok : ∀ x ∈ l'.sorted, okL (F x.2).safe (F x.2).chg ∧ (F x.2).safe.length ≤ 140737488355328) (hcn : 1 + cnt F l'.sorted < 4611686018427387904) :
    Calls Tryz.prog 61 #[.pointer (some ⟨q, 0, none⟩)] w fun e w' => e = .returned (.tuple #[]) ∧ ∃ d' G, FsOk n0 w' q true p pl ops d' s (.slice none 0 0) l' l' [] (filesOf G l'.sorted) ∧ (∀ i x, l'.sorted[i]? = some x → diedAs (keepAt pl.keep) F (1 + cnt F (l'.sorted.take i)) x.2 (G x.2)) ∧ (∀ k, FsFoot q d' s p (.slice none 0 0) (filesOf G l'.sorted) k → FsFoot q d s p mv fl k ∨ w.heap.size ≤ k) ∧ GP (FsFoot q d s p mv fl) w w' := by
  have rf := h.row_fs h.mr (by decide)
  have rk := h.row_fs h.rk (by decide)
  refine (die_any pl.keep ml ls w (s := s) (F := F) (nm := nm) (hnm := hnm) (l' := l') (hl' := hl') h.fs h.rk hlk h.safe h.mr hm hn2 hl9 hF hok hcn h.nsq rf.1 rf.2.2 rk.1 rk.2.2 (fun k hk => by
    have := h.fb k (hsub k hk)
    exact ⟨this.1, this.2.2, h.row_files h.rk ⟨by decide, by decide, by decide⟩ k (hsub k hk)⟩)).mono ?_
  rintro e w' ⟨rfl, d', G, k1, k2, k3, k4, k5, k6, k7, k8, k9⟩
  have hpl := h.plan k9 (fun k hk => by
    rcases hk with e | e | e
    · exact .inl e
    · exact .inr (.inr (.inl e))
    · exact .inr (.inr (.inr (.inr (hsub k e)))))
  have hfoot : ∀ k, FsFoot q d' s p (.slice none 0 0) (filesOf G l'.sorted) k → FsFoot q d s p mv fl k ∨ w.heap.size ≤ k := by
    intro k hk
    rcases hk with e | e | e | e | e | e | e | e
    · exact .inl (.inl e)
    · right; omega
    · exact .inl (.inr (.inr (.inl e)))
    · simp [Value.ownBlock] at e
    · exact .inl (.inr (.inr (.inr (.inr (.inl e)))))
    · exact .inl (.inr (.inr (.inr (.inr (.inr (.inl e))))))
    · exact .inl (.inr (.inr (.inr (.inr (.inr (.inr (.inl e)))))))
    · have old : ∀ k, k ∈ filesBlocks fl → FsFoot q d s p mv fl k := fun k e => .inr (.inr (.inr (.inr (.inr (.inr (.inr e))))))
      obtain ⟨pp, hp, e2⟩ := mem_filesBlocks.1 e
      obtain ⟨x, hx, rfl⟩ := mem_filesOf.1 hp
      rcases e2 with e2 | e2
      · exact .inl (old k (hsub k (mem_filesBlocks.2 ⟨_, mem_filesOf.2 ⟨x, hx, rfl⟩, .inl e2⟩)))
      · rcases k7 x hx k e2 with e3 | e3
        · exact .inl (old k (hsub k (mem_filesBlocks.2 ⟨_, mem_filesOf.2 ⟨x, hx, rfl⟩, .inr e3⟩)))
        · exact .inr e3
  refine ⟨rfl, d', G, ⟨k1, h.pc, h.pr, hpl.1, hpl.2.1, hpl.2.2, k3, k2, World.ownsRow_nil _ _ _ _, k5, fun e => by have := h.safe.lt; omega, fun k hk => (hfoot k hk).elim (h.new k) (hn0 k)⟩, k6, hfoot, (GP.refl _ _).trans k9 (fun k hk => .inl ?_)⟩
  rcases hk with e | e | e
  · exact .inl e
  · exact .inr (.inr (.inl e))
  · exact .inr (.inr (.inr (.inr (.inr (.inr (.inr (hsub k e)))))))

theorem start_good (vk vf vu : Value) (pl2 : Pl) (F : Nat → FileV) (nm : Nat) (hnm : nm = dieN pl.keep ml) (l' : DirL) (hl' : l' = movesDone (ml.take nm) ls) (h : FsOk n0 w q false p pl ops d s mv ld ls ml fl) (hn0 : ∀ k, w.heap.size ≤ k → n0 k) (hlk : pl.keep.length < 4611686018427387904)
    (hm : okMoves (ml.take nm) ls) (hn2 : ml.length < 3518437208882) (hl9 : l'.length ≤ 3518437208881) (hF : FilesM w (filesOf F l'.sorted)) (hsub : ∀ k ∈ filesBlocks (filesOf F l'.sorted), k ∈ filesBlocks fl) (hok : ∀ x ∈ l'.sorted, okL (F x.2).safe (F x.2).chg ∧ (F x.2).safe.length ≤ 140737488355328) (hcn : 1 + cnt F l'.sorted < 4611686018427387904)
    (hA : ∀ W', GP n0 w W' → Ints W' vk pl2.keep ∧ Ints W' vf pl2.fail ∧ Ints W' vu pl2.full) (lk : pl2.keep.length * 8 ≤ 140737488351232) (lf : pl2.fail.length * 8 ≤ 140737488351232) (lu : pl2.full.length * 8 ≤ 140737488351232) :
    Calls Tryz.prog 24 #[.pointer (some ⟨q, 0, none⟩), .agg #[.int .i64 pl2.crash, vk, vf, vu, .int .i64 pl2.room]] w fun e w' => e = .returned (.int .i64 0) ∧ ∃ p' d' G, FsOk n0 w' q false p' pl2 0 d' s (.slice none 0 0) l' l' [] (filesOf G l'.sorted) ∧ (∀ i x, l'.sorted[i]? = some x → diedAs (keepAt pl.keep) F (1 + cnt F (l'.sorted.take i)) x.2 (G x.2)) ∧ (∀ k, FsFoot q d' s p' (.slice none 0 0) (filesOf G l'.sorted) k → FsFoot q d s p mv fl k ∨ w.heap.size ≤ k) ∧ GP (FsFoot q d s p mv fl) w w' := by
  have hql := h.fs.lt
  have hlt := h.lt
  have hqn := h.new q (.inl rfl)
  refine (start_gen false (fun W W' d' mv' => mv' = .slice none 0 0 ∧ ∃ G, FsOk n0 W' q true p pl ops d' s mv' l' l' [] (filesOf G l'.sorted) ∧ (∀ i x, l'.sorted[i]? = some x → diedAs (keepAt pl.keep) F (1 + cnt F (l'.sorted.take i)) x.2 (G x.2)) ∧ (∀ k, FsFoot q d' s p mv' (filesOf G l'.sorted) k → FsFoot q d s p mv fl k ∨ w.heap.size ≤ k) ∧ GP (FsFoot q d s p mv fl) W W')
    vk vf vu pl2 w h.fs (fun _ W hW => ?_) (fun e => by cases e) (fun W W' d' mv' hW hD => ?_) lk lf lu).mono ?_
  · refine (die_good F nm hnm l' hl' (h.grown hW) (fun k hk => hn0 k (Nat.le_trans hW.size hk)) hlk hm hn2 hl9 (hF.kept (P := fun _ => False) (GP.of hW (by simp)) (fun _ _ h => h)) hsub hok hcn).mono ?_
    rintro e w' ⟨rfl, d', G, k1, k2, k3, k4⟩
    exact ⟨rfl, d', _, k1.fs, rfl, G, k1, k2, fun k hk => (k3 k hk).imp id (fun h => Nat.le_trans hW.size h), k4⟩
  · obtain ⟨rfl, G, k1, k2, k3, k4⟩ := hD
    have gs := gset (World.grownBy.refl W' (some q)) 1 (.bool false)
    have gA : GP n0 w (W'.setCell ⟨q, 1, none⟩ (.bool false)) := (((GP.of (P := n0) hW (by simp)).trans k4 (fun k hk => .inl (h.new k hk))).step gs (fun k e => by cases e; exact .inl hqn))
    have hA2 := hA _ gA
    refine ⟨k4.size, hA2.1, hA2.2.1, hA2.2.2, fun x hx => ?_⟩
    exact (k4.block _ (lt_of_block hx) (fun hk => by have := hlt _ hk; omega)).trans hx
  · rintro e w' ⟨rfl, W, W', d', mv', k', f', u', g0, ⟨rfl, G, k1, k2, k3, k4⟩, hsz, r1, r2, r3, r4, g5⟩
    have hqf := k1.lt
    have g45 : GP (FsFoot q d s p mv fl) w w' := ((GP.of (P := FsFoot q d s p mv fl) g0 (by simp)).trans k4 (fun k hk => .inl hk)).trans g5 (fun k hk => .inl (.inl hk))
    have rowF := fun k hk => k1.fb k hk
    have big : ∀ {v : Value} {n : Nat} {xs : List Value}, w'.ownsRow W'.heap.size 3 1 v n xs → ∀ k, v.ownBlock = some k → w.heap.size ≤ k := fun {v n xs} hv k e => by
      have h1 := (World.ownsRow.lt hv k e).1
      have := k4.size
      have := g0.size
      omega
    have hfoot : ∀ k, FsFoot q d' s ⟨pl2.crash, k', f', u', pl2.room⟩ (.slice none 0 0) (filesOf G l'.sorted) k → FsFoot q d s p mv fl k ∨ w.heap.size ≤ k := by
      intro k hk
      rcases hk with e | e | e | e | e | e | e | e
      · exact k3 k (.inl e)
      · exact k3 k (.inr (.inl e))
      · exact k3 k (.inr (.inr (.inl e)))
      · simp [Value.ownBlock] at e
      · exact .inr (big r2 k e)
      · exact .inr (big r3 k e)
      · exact .inr (big r4 k e)
      · exact k3 k (.inr (.inr (.inr (.inr (.inr (.inr (.inr e)))))))
    exact ⟨rfl, _, d', G, ⟨r1, rfl, rfl, rowMono r2 (Nat.zero_le _), rowMono r3 (Nat.zero_le _), rowMono r4 (Nat.zero_le _), k1.dir.gp g5 k1.ndq, k1.safe.gp g5 k1.nsq, World.ownsRow_nil _ _ _ _, k1.files.kept g5 (fun k hk e => (rowF k hk).1 e), k1.nds, fun k hk => (hfoot k hk).elim (h.new k) (hn0 k)⟩, k2, hfoot, g45⟩
end
end Go.Proofs.YtcehddlplkfflaaGreat
