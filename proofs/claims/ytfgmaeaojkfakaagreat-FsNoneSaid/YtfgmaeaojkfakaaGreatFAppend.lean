/-
  LAYER 1 (fs): Append where nothing fails, nothing is full and nothing dies.
-/
import Derived.Test.YtfgmaeaojkfakaaGreatFCreate
import Derived.Laws.BytesString
import Derived.Laws.CopyOwn
namespace Go.Proofs.YtfgmaeaojkfakaaGreat
set_option maxRecDepth 100000
open Go.RowKit Go.Lib
attribute [local go_sem] Oper.semAt_some

theorem fold_push : ∀ (bs p : List UInt8), ((bs.map fun u => (u.toNat : Int)).foldl (fun (r : ByteArray) n => r.push (UInt8.ofNat n.toNat)) ⟨p.toArray⟩) = ⟨(p ++ bs).toArray⟩
  | [], p => by simp
  | u :: bs, p => by
    have h := fold_push bs (p ++ [u])
    simp only [List.map_cons, List.foldl_cons, Int.toNat_natCast, UInt8.ofNat_toNat]
    have e : (⟨p.toArray⟩ : ByteArray).push u = ⟨(p ++ [u]).toArray⟩ := by
      show ByteArray.mk _ = ByteArray.mk _
      simp
    rw [e, h, List.append_assoc]
    rfl

theorem convA_of {w : World} {v : Value} {bs : List UInt8} (h : Reads w v bs) : (convert 32 115 v).run Tryz.prog w = .ok (.string ⟨bs.toArray⟩) w := by
  have h0 := h
  rcases h with ⟨rfl, rfl⟩ | ⟨b, off, cap, rfl, _, _, _⟩
  · rw [run_convert_bytes_string w 32 115 5 none 0 0 Tryz.underlying32 Tryz.underlying5 Tryz.underlying115]
    simp [Conv.bytesToString]
    rfl
  · rw [run_convert_bytes_string w 32 115 5 _ _ _ Tryz.underlying32 Tryz.underlying5 Tryz.underlying115]
    have hl := run_loadCells_list (P := Tryz.prog) w ⟨b, off, none⟩ (byteCells bs) h0.cells
    have e : byteCells bs = (bs.map fun u => (u.toNat : Int)).map (Value.int .u8) := by simp [byteCells]
    rw [byteCells_len, e] at hl
    rw [run_bytesToString w _ _ _ _ hl]
    have := fold_push bs []
    simp only [List.nil_append] at this
    exact congrArg (fun s => Result.ok (Value.string s) w) this

section
variable {w : World} {q : Nat} {p : PlV} {ops : Int} {d s : Nat} {mv : Value}
theorem FsAt.roomC {dead : Bool} (h : FsAt w q dead p ops d s mv) : w.cell? ⟨q, 6, none⟩ = some (.int .i64 p.r) := by simp [World.cell?, show _ = _ from h]
set_option maxHeartbeats 4000000 in
/-- Without a room, or with nothing to lay, no room lacks. -/
theorem lacksRoom_no {dead : Bool} (n : Nat) (hn : n < 4611686018427387904) (w : World) (h : FsAt w q dead p ops d s mv) (hr : p.r ≤ 0 ∨ n = 0) :
    Calls Tryz.prog 69 #[.pointer (some ⟨q, 0, none⟩), .int .i64 (n : Int)] w fun e w' => e = .returned (.bool false) ∧ ∃ m, w' = w.drewN m := by
  have h6 := h.roomC
  have key : (decide (0 < p.r) = false) ∨ (decide (0 < p.r) = true ∧ n = 0) := by
    by_cases e : 0 < p.r
    · exact .inr ⟨by simp [e], by omega⟩
    · exact .inl (by simp [e])
  rcases key with hk | ⟨hk, rfl⟩
  · go_enter Tryz.func69, Tryz.ntmps69
    go_wp2_with (fail)
    go_quiet (fail)
    go_wp2_with (fail)
    go_ret
    exact ⟨rfl, _, rfl⟩
  · go_enter Tryz.func69, Tryz.ntmps69
    go_wp2_with (fail)
    go_quiet (fail)
    go_wp2_with (fail)
    go_ret
    exact ⟨rfl, _, rfl⟩

set_option maxHeartbeats 4000000 in
theorem append_ok (B : Nat) (fail full : List Int) (nm : ByteArray) (l : DirL) (b : Nat) (f : FileV) (bv : Value) (bs : List UInt8) (w : World) (h : FsAt w q false p ops d s mv) (h0 : 0 ≤ ops) (h9 : ops < 4611686018427387904) (hc : ops + 1 ≠ p.c)
    (hf : w.ownsRow B 3 1 p.f fail.length ((inOrd fail).map intV)) (hu : w.ownsRow B 3 1 p.u full.length ((inOrd full).map intV)) (hq : p.f.ownBlock ≠ some q) (hqu : p.u.ownBlock ≠ some q) (hsf : fail.length < 4611686018427387904) (hsu : full.length < 4611686018427387904)
    (hnf : fail.contains (ops + 1) = false) (hnu : full.contains (ops + 1) = false) (hd : DirM w d l) (hs : nm.size ≤ maxLen) (hl : l.look nm.data.toList = some b) (hF : FileAt w b f) (hn : f.chg.length < 8796093022207)
    (hb : Reads w bv bs) (hbv : bs ≠ [] → bv.ownBlock ≠ some q) (hne : bs ≠ []) (hlen : bs.length + f.data.length ≤ 268435456) (hroom : p.r ≤ 0)
    (hdq : d ≠ q) (hbq : b ≠ q ∧ f.sv.ownBlock ≠ some q ∧ f.dv.ownBlock ≠ some q ∧ f.cv.ownBlock ≠ some q) :
    Calls Tryz.prog 32 #[.pointer (some ⟨q, 0, none⟩), .string nm, bv] w fun e w' => e = .returned (.int .i64 0) ∧ ∃ f', FileAt w' b f' ∧ f'.safe = f.safe ∧ f'.data = f.data ++ bs ∧ f'.chg = f.chg ++ [.add ⟨bs.toArray⟩] ∧
      GP (fun k => k = q ∨ k = b ∨ k ∈ f.blocks) w w' ∧ FsAt w' q false p (ops + 1) d s mv ∧ (∀ k ∈ f'.blocks, k ∈ f.blocks ∨ w.heap.size ≤ k) := by
  have hbe := begin_fs B fail w h h0 h9 hc hf hq hsf
  rw [hnf] at hbe
  have hbW := hb.kept (gset (World.grownBy.refl w (some q)) 7 (.int .i64 (ops + 1))) (.inr (hbv hne))
  obtain ⟨W, hW⟩ : ∃ W, W = w.setCell ⟨q, 7, none⟩ (.int .i64 (ops + 1)) := ⟨_, rfl⟩
  have gF : w.grownBy W (some q) := by rw [hW]; exact gset (World.grownBy.refl w (some q)) 7 (.int .i64 (ops + 1))
  have hFs : ∀ m, FsAt (W.drewN m) q false p (ops + 1) d s mv := fun m => by rw [hW]; exact h.setOps (ops + 1)
  have hx : ∀ m, (W.drewN m).cell? ⟨q, 8, none⟩ = some (.map (some d)) := fun m => (hFs m).dir
  have hWs : W.heap.size = w.heap.size := by rw [hW]; simp
  rw [← hW] at hbe hbW
  clear hW
  have gm := fun m => gdrewN gF m
  have hbm : ∀ m, Reads (W.drewN m) bv bs := fun m => hbW.new (gdrewN (World.grownBy.refl W none) m)
  have hcv := fun m => convA_of (hbm m)
  obtain ⟨ba, bc, rfl⟩ := hb.form
  have hlk : ∀ m, (Instr.lookup 69 (.map (some d)) (.string nm) false).run Tryz.prog (W.drewN m) = .ok (ptrV (some b)) (W.drewN m) := fun m => by
    rw [← hl]
    exact (hd.kept (gm m) (by simp; exact hdq)).lookup nm hs
  unfold ptrV at hlk
  have hFb : ∀ m, FileAt (W.drewN m) b f := fun m => hF.kept (P := fun k => k = q) (GP.of (gm m) (fun k e => by cases e; rfl)) hbq.1 (fun k hk e => by
    subst e
    rcases FileV.mem hk with e | e | e
    · exact hbq.2.1 e
    · exact hbq.2.2.1 e
    · exact hbq.2.2.2 e)
  have huq : ∀ m, (W.drewN m).ownsRow B 3 1 p.u full.length ((inOrd full).map intV) := fun m => World.ownsRow.kept hu (gm m) (.inr hqu)
  have hfu := fun m => isFull_fs B full (W.drewN m) (hFs m) (huq m) hsu
  rw [hnu] at hfu
  have hlr := fun m => lacksRoom_no bs.length (by omega) (W.drewN m) (hFs m) (.inl hroom)
  have hch := fun m => change_any (.add ⟨bs.toArray⟩) b f (W.drewN m) (hFb m) (by unfold Chg.may; show f.data.length + bs.toArray.size ≤ _; simp; omega) hn
  dsimp only [Chg.v] at hch
  obtain ⟨dva, dvc, hdv⟩ : ∃ a c, f.dv = .slice a f.data.length c := by
    obtain ⟨_, ⟨e, hz⟩ | ⟨g, cap, cur, e, _⟩⟩ := hF.2.2.1
    · exact ⟨none, 0, by rw [e, hz]⟩
    · exact ⟨_, _, e⟩
  have c1 : ∀ m, (W.drewN m).cell? ⟨b, 1, none⟩ = some (.slice dva f.data.length dvc) := fun m => by rw [← hdv]; exact (hFb m).c1
  have hbl : 0 < bs.length := List.length_pos_iff.2 hne
  obtain ⟨n, hnn⟩ : ∃ n, n = bs.length := ⟨_, rfl⟩
  obtain ⟨m', hmm⟩ : ∃ n, n = f.data.length := ⟨_, rfl⟩
  rw [← hnn] at hlr hlen hbl hcv hbm ⊢
  rw [← hmm] at c1 hlen
  replace hch := Lib.hid hch
  replace hWs := Lib.hid hWs
  replace hnn := Lib.hid hnn
  replace hmm := Lib.hid hmm
  replace hdv := Lib.hid hdv
  clear hbW hFb hb hbm
  go_enter Tryz.func32, Tryz.ntmps32
  go_wp2_with first
    | (go_at_call 57; refine hbe.mono ?_; rintro e w2 ⟨rfl, m1, rfl⟩)
    | (go_at_call 60; refine (hfu _).mono ?_; rintro e w2 ⟨rfl, m2, rfl⟩)
    | (go_at_call 69; refine (hlr _).mono ?_; rintro e w2 ⟨rfl, m3, rfl⟩)
    | (go_at_call 70; refine (hch.out _).mono ?_; rintro e w2 ⟨rfl, f', k1, k2, k3, k4, k5, k6⟩)
  go_ret
  have hWs := hWs.out
  refine ⟨rfl, f', k1, k2, by rw [k3]; simp [Chg.done], k4, (GP.of (P := fun k => k = q ∨ k = b ∨ k ∈ f.blocks) (gm (m1 + m2 + m3)) (fun k e => by cases e; exact .inl rfl)).trans k5 (fun k e => .inl (.inr e)), (k5.block q (hFs (m1 + m2 + m3)).lt ?_).trans (hFs (m1 + m2 + m3)), fun k e => (k6 k e).imp id (fun h => by have e1 : (W.drewN (m1 + m2 + m3)).heap.size = w.heap.size := hWs; omega)⟩
  rintro (e | e)
  · exact hbq.1 e.symm
  · rcases FileV.mem e with e | e | e
    · exact hbq.2.1 e
    · exact hbq.2.2.1 e
    · exact hbq.2.2.2 e
end
end Go.Proofs.YtfgmaeaojkfakaaGreat
