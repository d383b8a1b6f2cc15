/-
  LAYER 1 (fs): an operation's begin in every case; and that it ends the operation where it answers an error.
-/
import Derived.Test.YtcehddlplkfflaaGreatFN10
import Derived.Maps.RangeWalk
namespace Go.Proofs.YtcehddlplkfflaaGreat
set_option maxRecDepth 100000
open Go.RowKit Go.Lib
attribute [local go_sem] Oper.semAt_some

theorem create_err (nm : ByteArray) (po : Option Addr) (x : Int) (R : World → Prop) (w : World) (hx : (x == 0) = false) (hb : Calls Tryz.prog 56 #[.pointer po] w fun e w' => e = .returned (.int .i64 x) ∧ R w') :
    Calls Tryz.prog 30 #[.pointer po, .string nm] w fun e w' => e = .returned (.int .i64 x) ∧ R w' := by
  go_enter Tryz.func30, Tryz.ntmps30
  go_wp2_with (go_at_call 56; refine hb.mono ?_; rintro e w' ⟨rfl, hR⟩)
  go_ret
  exact ⟨rfl, hR⟩
theorem append_err (nm : ByteArray) (a : Option Addr) (n c : Nat) (po : Option Addr) (x : Int) (R : World → Prop) (w : World) (hx : (x == 0) = false) (hb : Calls Tryz.prog 56 #[.pointer po] w fun e w' => e = .returned (.int .i64 x) ∧ R w') :
    Calls Tryz.prog 31 #[.pointer po, .string nm, .slice a n c] w fun e w' => e = .returned (.int .i64 x) ∧ R w' := by
  go_enter Tryz.func31, Tryz.ntmps31
  go_wp2_with (go_at_call 56; refine hb.mono ?_; rintro e w' ⟨rfl, hR⟩)
  go_ret
  exact ⟨rfl, hR⟩
theorem cut_err (nm : ByteArray) (n : Int) (po : Option Addr) (x : Int) (R : World → Prop) (w : World) (hx : (x == 0) = false) (hb : Calls Tryz.prog 56 #[.pointer po] w fun e w' => e = .returned (.int .i64 x) ∧ R w') :
    Calls Tryz.prog 36 #[.pointer po, .string nm, .int .i64 n] w fun e w' => e = .returned (.int .i64 x) ∧ R w' := by
  go_enter Tryz.func36, Tryz.ntmps36
  go_wp2_with (go_at_call 56; refine hb.mono ?_; rintro e w' ⟨rfl, hR⟩)
  go_ret
  exact ⟨rfl, hR⟩
theorem sync_err (nm : ByteArray) (po : Option Addr) (x : Int) (R : World → Prop) (w : World) (hx : (x == 0) = false) (hb : Calls Tryz.prog 56 #[.pointer po] w fun e w' => e = .returned (.int .i64 x) ∧ R w') :
    Calls Tryz.prog 22 #[.pointer po, .string nm] w fun e w' => e = .returned (.int .i64 x) ∧ R w' := by
  go_enter Tryz.func22, Tryz.ntmps22
  go_wp2_with (go_at_call 56; refine hb.mono ?_; rintro e w' ⟨rfl, hR⟩)
  go_ret
  exact ⟨rfl, hR⟩
theorem rename_err (nm nt : ByteArray) (po : Option Addr) (x : Int) (R : World → Prop) (w : World) (hx : (x == 0) = false) (hb : Calls Tryz.prog 56 #[.pointer po] w fun e w' => e = .returned (.int .i64 x) ∧ R w') :
    Calls Tryz.prog 39 #[.pointer po, .string nm, .string nt] w fun e w' => e = .returned (.int .i64 x) ∧ R w' := by
  go_enter Tryz.func39, Tryz.ntmps39
  go_wp2_with (go_at_call 56; refine hb.mono ?_; rintro e w' ⟨rfl, hR⟩)
  go_ret
  exact ⟨rfl, hR⟩
theorem remove_err (nm : ByteArray) (po : Option Addr) (x : Int) (R : World → Prop) (w : World) (hx : (x == 0) = false) (hb : Calls Tryz.prog 56 #[.pointer po] w fun e w' => e = .returned (.int .i64 x) ∧ R w') :
    Calls Tryz.prog 41 #[.pointer po, .string nm] w fun e w' => e = .returned (.int .i64 x) ∧ R w' := by
  go_enter Tryz.func41, Tryz.ntmps41
  go_wp2_with (go_at_call 56; refine hb.mono ?_; rintro e w' ⟨rfl, hR⟩)
  go_ret
  exact ⟨rfl, hR⟩
theorem syncDir_err  (po : Option Addr) (x : Int) (R : World → Prop) (w : World) (hx : (x == 0) = false) (hb : Calls Tryz.prog 56 #[.pointer po] w fun e w' => e = .returned (.int .i64 x) ∧ R w') :
    Calls Tryz.prog 23 #[.pointer po] w fun e w' => e = .returned (.int .i64 x) ∧ R w' := by
  go_enter Tryz.func23, Tryz.ntmps23
  go_wp2_with (go_at_call 56; refine hb.mono ?_; rintro e w' ⟨rfl, hR⟩)
  go_ret
  exact ⟨rfl, hR⟩

section
variable {n0 : Nat → Prop} {w : World} {q : Nat} {p : PlV} {pl : Pl} {ops : Int} {d s : Nat} {mv : Value} {ld ls : DirL} {ml : List Mv} {fl : List (Nat × FileV)}
/-- Of the dead. -/
theorem begin_dead {dead : Bool} (hdd : dead = true) (w : World) (h : FsOk n0 w q dead p pl ops d s mv ld ls ml fl) :
    Calls Tryz.prog 56 #[.pointer (some ⟨q, 0, none⟩)] w fun e w' => e = .returned (.int .i64 12) ∧ w = w' := by
  subst hdd
  have hm := dead_fs w h.fs
  clear h
  go_enter Tryz.func56, Tryz.ntmps56
  go_wp2_with (go_at_call 20; refine hm.mono ?_; rintro e w' ⟨rfl, rfl⟩)
  go_ret
  exact ⟨rfl, rfl⟩

/-- Counted, and nothing more. -/
theorem FsOk.counted (h : FsOk n0 w q false p pl ops d s mv ld ls ml fl) (x : Int) (m : Nat) : FsOk n0 ((w.setCell ⟨q, 7, none⟩ (.int .i64 x)).drewN m) q false p pl x d s mv ld ls ml fl ∧ w.grownBy ((w.setCell ⟨q, 7, none⟩ (.int .i64 x)).drewN m) (some q) := by
  have gF : w.grownBy ((w.setCell ⟨q, 7, none⟩ (.int .i64 x)).drewN m) (some q) := gdrewN (gset (World.grownBy.refl w (some q)) 7 (.int .i64 x)) m
  have g := GP.of (P := fun k => k = q) gF (fun k e => by cases e; rfl)
  have hpl := h.plan g (fun k hk => .inl hk)
  refine ⟨⟨h.fs.setOps x, h.pc, h.pr, hpl.1, hpl.2.1, hpl.2.2, h.dir.gp g h.ndq, h.safe.gp g h.nsq, own_gp h.mr g (fun k e e2 => (h.row_fs h.mr (by decide)).1 (by rw [← e2]; exact e)), h.files.kept g (fun k hk e => (h.fb k hk).1 e), h.nds, h.new⟩, gF⟩

/-- It neither dies nor is dead. -/
theorem begin_ok (h : FsOk n0 w q false p pl ops d s mv ld ls ml fl) (h0 : 0 ≤ ops) (h9 : ops < 4611686018427387904) (hc : ops + 1 ≠ pl.crash) (hsf : pl.fail.length < 4611686018427387904) :
    Calls Tryz.prog 56 #[.pointer (some ⟨q, 0, none⟩)] w fun e w' => e = .returned (.int .i64 (if pl.fail.contains (ops + 1) then 10 else 0)) ∧ ∃ m, w' = (w.setCell ⟨q, 7, none⟩ (.int .i64 (ops + 1))).drewN m :=
  begin_fs 0 pl.fail w h.fs h0 h9 (by rw [h.pc]; exact hc) h.rf (h.row_fs h.rf (by decide)).1 hsf

set_option maxHeartbeats 2000000 in
/-- It dies. -/
theorem begin_dies (F : Nat → FileV) (nm : Nat) (hnm : nm = dieN pl.keep ml) (l' : DirL) (hl' : l' = movesDone (ml.take nm) ls) (h : FsOk n0 w q false p pl ops d s mv ld ls ml fl) (hn0 : ∀ k, w.heap.size ≤ k → n0 k) (h0 : 0 ≤ ops) (h9 : ops < 4611686018427387904) (hc : ops + 1 = pl.crash) (hlk : pl.keep.length < 4611686018427387904)
    (hm : okMoves (ml.take nm) ls) (hn2 : ml.length < 3518437208882) (hl9 : l'.length ≤ 3518437208881) (hF : FilesM w (filesOf F l'.sorted)) (hsub : ∀ k ∈ filesBlocks (filesOf F l'.sorted), k ∈ filesBlocks fl) (hok : ∀ x ∈ l'.sorted, okL (F x.2).safe (F x.2).chg ∧ (F x.2).safe.length ≤ 140737488355328) (hcn : 1 + cnt F l'.sorted < 4611686018427387904) :
    Calls Tryz.prog 56 #[.pointer (some ⟨q, 0, none⟩)] w fun e w' => e = .returned (.int .i64 12) ∧ ∃ d' G, FsOk n0 w' q true p pl (ops + 1) d' s (.slice none 0 0) l' l' [] (filesOf G l'.sorted) ∧ (∀ i x, l'.sorted[i]? = some x → diedAs (keepAt pl.keep) F (1 + cnt F (l'.sorted.take i)) x.2 (G x.2)) ∧ (∀ k, FsFoot q d' s p (.slice none 0 0) (filesOf G l'.sorted) k → FsFoot q d s p mv fl k ∨ w.heap.size ≤ k) ∧ GP (FsFoot q d s p mv fl) w w' := by
  have hcd := h.counted (ops + 1) 0
  obtain ⟨W, hW⟩ : ∃ W, W = w.setCell ⟨q, 7, none⟩ (.int .i64 (ops + 1)) := ⟨_, rfl⟩
  rw [show (w.setCell ⟨q, 7, none⟩ (.int .i64 (ops + 1))).drewN 0 = W from hW.symm] at hcd
  obtain ⟨h1, g1⟩ := hcd
  have gq := GP.of (P := fun k => k = q) g1 (fun k e => by cases e; rfl)
  have hdie := die_good F nm hnm l' hl' h1 (fun k hk => hn0 k (Nat.le_trans g1.size hk)) hlk hm hn2 hl9 (hF.kept gq (fun k hk e => (h.fb k (hsub k hk)).1 e)) hsub hok hcn
  have hd := dead_fs w h.fs
  have ha := add_fs w h.fs h0 h9
  rw [← hW] at ha
  have hpc : p.c = ops + 1 := by rw [h.pc, hc]
  have c2 := h1.fs.crash
  rw [hpc] at c2
  clear h1 hc hpc hnm hl' hW
  go_enter Tryz.func56, Tryz.ntmps56
  go_wp2_with first
    | (go_at_call 20; refine hd.mono ?_; rintro e w' ⟨rfl, rfl⟩)
    | (go_at_call 83; refine ha.mono ?_; rintro e w' ⟨rfl, rfl⟩)
    | (go_at_call 61; refine hdie.mono ?_; clear hdie; rintro e w2 ⟨rfl, d', G, k1, k2, k3, k4⟩)
  go_ret
  exact ⟨rfl, d', G, k1, k2, fun k hk => (k3 k hk).imp id (fun h => Nat.le_trans g1.size h), (gq.trans (Q := fun _ => False) (GP.refl _ _) (fun _ h => h.elim)) |> fun _ => ((GP.refl _ _).trans gq (fun k e => .inl (.inl e))).trans k4 (fun k e => .inl e)⟩
end
end Go.Proofs.YtcehddlplkfflaaGreat

/-
  LAYER 1 (fs): a range over a directory, in whatever order, as a list of names met.
-/
namespace Go.Proofs.YtcehddlplkfflaaGreat
set_option maxRecDepth 100000
open Go.RowKit Go.Lib
open Go.Proofs (encStr)

def RangesD (w : World) (s r : Nat) (l : DirL) (cnt : Nat) (ss : List (List UInt8)) : Prop :=
  ∃ (n : Nat) (D : DataW Unit) (left : Lit → Bool), w.ranges Tryz.prog 9 ptrEl s r n D left cnt ∧ Collected D left ss ∧ (∀ x, Go.Maps.has D (.string x) = (l.look x).isSome ∧ D.atKey (.string x) (.lit (.int .i64 (-1))) = .lit (.int .i64 (ptrN (l.look x)))) ∧ l.names.Perm (strKeys D)

theorem DirM.ranged {W : World} {s : Nat} {l : DirL} (h : DirM W s l) : ∃ W', (Instr.range 67 (.map (some s))).run Tryz.prog W = .ok (.pointer (some ⟨W.heap.size, 0, none⟩)) W' ∧ RangesD W' s W.heap.size l l.length [] ∧ W.grownBy W' none ∧ W'.heap.size = W.heap.size + 1 := by
  obtain ⟨D, h3, h4, h5, h6⟩ := h.size
  obtain ⟨W', h7, h8, h9, h10⟩ := h3.range keyed_str Tryz.underlying67
  exact ⟨W', h7, ⟨_, D, _, by rw [← h4]; exact h8, Collected.start D, h6, h5⟩, h9, h10⟩

theorem RangesD.kept {w w' : World} {s r : Nat} {l : DirL} {cnt : Nat} {ss : List (List UInt8)} {q : Option Nat} (h : RangesD w s r l cnt ss) (g : w.grownBy w' q) (h1 : some s ≠ q) (h2 : some r ≠ q) : RangesD w' s r l cnt ss := by
  obtain ⟨n, D, left, a, b⟩ := h
  exact ⟨n, D, left, a.kept g h1 h2, b⟩
theorem RangesD.lt {w : World} {s r : Nat} {l : DirL} {cnt : Nat} {ss : List (List UInt8)} (h : RangesD w s r l cnt ss) : s < w.heap.size ∧ r < w.heap.size := by
  obtain ⟨n, D, left, a, _⟩ := h
  exact ⟨a.owns.lt, a.lt⟩

theorem RangesD.next {w : World} {s r : Nat} {l : DirL} {cnt : Nat} {ss : List (List UInt8)} (h : RangesD w s r l cnt ss) (ty : TypeId) :
    (ss.Perm l.names ∧ (Instr.next (.pointer (some ⟨r, 0, none⟩)) false ty).run Tryz.prog w = .ok (.tuple #[.bool false]) w) ∨
    ∃ x b w' cnt', l.look x = some b ∧ (Instr.next (.pointer (some ⟨r, 0, none⟩)) false ty).run Tryz.prog w = .ok (.tuple #[.bool true, encStr x, .pointer (some ⟨b, 0, none⟩)]) w' ∧
      RangesD w' s r l cnt' (ss ++ [x]) ∧ cnt' < cnt ∧ w.grownBy w' (some r) ∧ w'.heap.size = w.heap.size ∧ (Instr.entry (.pointer (some ⟨r, 0, none⟩))).run Tryz.prog w' = .ok (.tuple #[encStr x, .pointer (some ⟨b, 0, none⟩)]) w' := by
  obtain ⟨n, D, left, a, hC, hl, hp⟩ := h
  rcases a.next keyed_str ty with ⟨h0, hdone, hrun⟩ | ⟨key, v, kl, y, w', cnt', hkey, hlk, hv, hat, hrun, hrg, hlt, hgr, hsz, hen⟩
  · exact .inl ⟨(hC.perm a.owns keyed_str Tryz.underlying9 hdone).trans hp.symm, hrun⟩
  · obtain ⟨x, rfl, rfl, _⟩ := Maps.keyOf_str Tryz.underlying9 hkey
    have hC2 := hC.step hlk hat
    have hin : x ∈ ss ++ [x] := by simp
    have hhas : Go.Maps.has D (.string x) = true := (hC2.2 x |>.1 hin).1
    have hsome : (l.look x).isSome = true := by rw [← (hl x).1]; exact hhas
    obtain ⟨b, hb⟩ := Option.isSome_iff_exists.1 hsome
    have e1 := hat (.lit (.int .i64 (-1)))
    rw [(hl x).2, hb] at e1
    have hvv : v = .pointer (some ⟨b, 0, none⟩) := by
      obtain ⟨y1, y2⟩ := y
      dsimp only at e1
      subst e1
      exact ptrEl_inv (o := some b) hv
    subst hvv
    exact .inr ⟨x, b, w', cnt', hb, hrun, ⟨n, D, _, hrg, hC2, hl, hp⟩, hlt, hgr, hsz, hen⟩
end Go.Proofs.YtcehddlplkfflaaGreat

/-
  LAYER 1 (fs): a whole file system, turned step by step: its flag, its count, one more file, a directory, a move. (For Clone.)
-/
namespace Go.Proofs.YtcehddlplkfflaaGreat
set_option maxRecDepth 100000
open Go.RowKit Go.Lib
open Go.Proofs (encStr)

section
variable {n0 : Nat → Prop} {w w' : World} {q : Nat} {dead : Bool} {p : PlV} {pl : Pl} {ops : Int} {d s : Nat} {mv : Value} {ld ls : DirL} {ml : List Mv} {fl : List (Nat × FileV)}

/-- Its own block is turned, and nothing else. -/
theorem FsOk.block (h : FsOk n0 w q dead p pl ops d s mv ld ls ml fl) {dead' : Bool} {ops' : Int} (hq : FsAt w' q dead' p ops' d s mv) (g : w.grownBy w' (some q)) : FsOk n0 w' q dead' p pl ops' d s mv ld ls ml fl := by
  have g := GP.of (P := fun k => k = q) g (fun k e => by cases e; rfl)
  have hpl := h.plan g (fun k hk => .inl hk)
  exact ⟨hq, h.pc, h.pr, hpl.1, hpl.2.1, hpl.2.2, h.dir.gp g h.ndq, h.safe.gp g h.nsq, own_gp h.mr g (fun k e e2 => (h.row_fs h.mr (by decide)).1 (by rw [← e2]; exact e)), h.files.kept g (fun k hk e => (h.fb k hk).1 e), h.nds, h.new⟩

/-- One more file, of new blocks. -/
theorem FsOk.filed {b : Nat} {f : FileV} (h : FsOk n0 w q dead p pl ops d s mv ld ls ml fl) (hn0 : ∀ k, w.heap.size ≤ k → n0 k) (g : w.grownBy w' none) (hf : FileAt w' b f) (hb : w.heap.size ≤ b) (hbl : ∀ k ∈ f.blocks, w.heap.size ≤ k) : FsOk n0 w' q dead p pl ops d s mv ld ls ml (fl ++ [(b, f)]) := by
  have h2 := h.grown g
  have hlt := h.files.lt
  refine ⟨h2.fs, h2.pc, h2.pr, h2.rk, h2.rf, h2.ru, h2.dir, h2.safe, h2.mr, ⟨fun x hx => ?_, ?_⟩, h2.nds, fun k hk => ?_⟩
  · rcases List.mem_append.1 hx with hx | hx
    · exact h2.files.1 x hx
    · simp at hx
      subst hx
      exact hf
  · rw [filesBlocks_append, List.nodup_append]
    refine ⟨h2.files.2, by rw [filesBlocks_cons]; simpa [filesBlocks] using hf.2.2.2.2, fun a ha c hc e => ?_⟩
    have := hlt a ha
    rw [filesBlocks_cons] at hc
    simp [filesBlocks] at hc
    rcases hc with hc | hc
    · omega
    · have := hbl c hc; omega
  · rcases hk with e | e | e | e | e | e | e | e
    · exact h.new k (.inl e)
    · exact h.new k (.inr (.inl e))
    · exact h.new k (.inr (.inr (.inl e)))
    · exact h.new k (.inr (.inr (.inr (.inl e))))
    · exact h.new k (.inr (.inr (.inr (.inr (.inl e)))))
    · exact h.new k (.inr (.inr (.inr (.inr (.inr (.inl e))))))
    · exact h.new k (.inr (.inr (.inr (.inr (.inr (.inr (.inl e)))))))
    · rw [filesBlocks_append, List.mem_append] at e
      rcases e with e | e
      · exact h.new k (.inr (.inr (.inr (.inr (.inr (.inr (.inr e)))))))
      · rw [filesBlocks_cons] at e
        simp [filesBlocks] at e
        rcases e with e | e
        · exact hn0 k (by omega)
        · exact hn0 k (hbl k e)

/-- Its safe directory is turned. -/
theorem FsOk.putS {ls' : DirL} (h : FsOk n0 w q dead p pl ops d s mv ld ls ml fl) (hs : DirM w' s ls') (g : w.grownBy w' (some s)) : FsOk n0 w' q dead p pl ops d s mv ld ls' ml fl := by
  have g := GP.of (P := fun k => k = s) g (fun k e => by cases e; rfl)
  have rp := fun {v : Value} {n : Nat} {xs : List Value} (hv : w.ownsRow 0 3 1 v n xs) => own_gp hv g (fun k e e2 => (h.row_fs hv (by decide)).2.2 (by rw [← e2]; exact e))
  exact ⟨h.fs.gp g (fun e => h.nsq e.symm), h.pc, h.pr, rp h.rk, rp h.rf, rp h.ru, h.dir.gp g h.nds, hs, own_gp h.mr g (fun k e e2 => (h.row_fs h.mr (by decide)).2.2 (by rw [← e2]; exact e)), h.files.kept g (fun k hk e => (h.fb k hk).2.2 e), h.nds, h.new⟩

/-- Its directory is turned. -/
theorem FsOk.putD {ld' : DirL} (h : FsOk n0 w q dead p pl ops d s mv ld ls ml fl) (hd : DirM w' d ld') (g : w.grownBy w' (some d)) : FsOk n0 w' q dead p pl ops d s mv ld' ls ml fl := by
  have g := GP.of (P := fun k => k = d) g (fun k e => by cases e; rfl)
  have rp := fun {v : Value} {n : Nat} {xs : List Value} (hv : w.ownsRow 0 3 1 v n xs) => own_gp hv g (fun k e e2 => (h.row_fs hv (by decide)).2.1 (by rw [← e2]; exact e))
  exact ⟨h.fs.gp g (fun e => h.ndq e.symm), h.pc, h.pr, rp h.rk, rp h.rf, rp h.ru, hd, h.safe.gp g (fun e => h.nds e.symm), own_gp h.mr g (fun k e e2 => (h.row_fs h.mr (by decide)).2.1 (by rw [← e2]; exact e)), h.files.kept g (fun k hk e => (h.fb k hk).2.1 e), h.nds, h.new⟩

/-- A move is done, and kept. -/
theorem FsOk.moved {ld' : DirL} {ml' : List Mv} {mv' : Value} (h : FsOk n0 w q dead p pl ops d s mv ld ls ml fl) (hn0 : ∀ k, w.heap.size ≤ k → n0 k) (hq : FsAt w' q dead p ops d s mv') (hd : DirM w' d ld') (hr : w'.ownsRow 0 108 3 mv' ml'.length (mvCells ml')) (hown : mv'.ownBlock = mv.ownBlock ∨ ∃ k, mv'.ownBlock = some k ∧ w.heap.size ≤ k)
    (g : GP (fun k => k = q ∨ k = d ∨ mv.ownBlock = some k) w w') : FsOk n0 w' q dead p pl ops d s mv' ld' ls ml' fl := by
  have rf := h.row_fs h.mr (by decide)
  have hpl := h.plan g (fun k hk => by
    rcases hk with e | e | e
    · exact .inl e
    · exact .inr (.inl e)
    · exact .inr (.inr (.inr (.inl e))))
  refine ⟨hq, h.pc, h.pr, hpl.1, hpl.2.1, hpl.2.2, hd, h.safe.gp g (by rintro (e | e | e); exact h.nsq e; exact h.nds e.symm; exact rf.2.2 e), hr, h.files.kept g (fun k hk hp => ?_), h.nds, fun k hk => ?_⟩
  · have := h.fb k hk
    rcases hp with e | e | e
    · exact this.1 e
    · exact this.2.1 e
    · exact h.row_files h.mr ⟨by decide, by decide, by decide⟩ k hk e
  · rcases hk with e | e | e | e | e | e | e | e
    · exact h.new k (.inl e)
    · exact h.new k (.inr (.inl e))
    · exact h.new k (.inr (.inr (.inl e)))
    · rcases hown with e2 | ⟨k2, e2, h2⟩
      · exact h.new k (.inr (.inr (.inr (.inl (by rw [← e2]; exact e)))))
      · rw [e] at e2; cases e2; exact hn0 _ h2
    · exact h.new k (.inr (.inr (.inr (.inr (.inl e)))))
    · exact h.new k (.inr (.inr (.inr (.inr (.inr (.inl e))))))
    · exact h.new k (.inr (.inr (.inr (.inr (.inr (.inr (.inl e)))))))
    · exact h.new k (.inr (.inr (.inr (.inr (.inr (.inr (.inr e)))))))
end

theorem RangesD.nodup {w : World} {s r : Nat} {l : DirL} {cnt : Nat} {ss : List (List UInt8)} (h : RangesD w s r l cnt ss) : ss.Nodup := by
  obtain ⟨n, D, left, a, hC, _⟩ := h
  exact hC.1

/-- Two files that hold the same. -/
def SameF (g f : FileV) : Prop := g.safe = f.safe ∧ g.data = f.data ∧ g.chg = f.chg

theorem DirL.put_fresh (l : DirL) (x : List UInt8) (b : Nat) (h : x ∉ l.names) : l.put x b = l ++ [(x, b)] := by
  unfold DirL.put DirL.drop
  rw [List.filter_eq_self.2]
  intro a ha
  simp only [Bool.not_eq_true', beq_eq_false_iff_ne]
  exact fun e => h (by rw [← e]; exact List.mem_map.2 ⟨a, ha, rfl⟩)

/-- A range over the safe files, each of which is cloned into both directories. -/
def CloneI (n0 : Nat) (w0 : World) (s : Nat) (ls : DirL) (F : Nat → FileV) (gq : Nat) (dead : Bool) (p : PlV) (pl : Pl) (ops : Int) (gd gs r cnt : Nat) (L : DirL) (W : World) : Prop :=
  ∃ (G : Nat → FileV), RangesD W s r ls cnt L.names ∧ FsOk (fun k => n0 ≤ k) W gq dead p pl ops gd gs (.slice none 0 0) L L [] (filesOf G L) ∧ w0.grownBy W none ∧ (∀ x ∈ L, ∃ b, ls.look x.1 = some b ∧ SameF (G x.2) (F b)) ∧ (∀ k, FsFoot gq gd gs p (.slice none 0 0) (filesOf G L) k → k ≠ r) ∧ r < W.heap.size ∧ n0 ≤ r

theorem CloneI.round {n0 : Nat} {w0 : World} {s : Nat} {ls : DirL} {F : Nat → FileV} {gq : Nat} {dead : Bool} {p : PlV} {pl : Pl} {ops : Int} {gd gs r cnt : Nat} {W W1 W2 W3 W4 : World} {L : DirL} {G : Nat → FileV} {x : List UInt8} {b b9 : Nat} {g9 : FileV}
    (hw0 : w0.heap.size ≤ n0) (hO : FsOk (fun k => n0 ≤ k) W gq dead p pl ops gd gs (.slice none 0 0) L L [] (filesOf G L)) (h0 : w0.grownBy W none) (hL : ∀ x ∈ L, ∃ b, ls.look x.1 = some b ∧ SameF (G x.2) (F b)) (hne : ∀ k, FsFoot gq gd gs p (.slice none 0 0) (filesOf G L) k → k ≠ r) (hr : r < W.heap.size) (hrn : n0 ≤ r)
    (hlk : ls.look x = some b) (hR : RangesD W1 s r ls cnt (L.names ++ [x])) (g1 : W.grownBy W1 (some r)) (g2 : W1.grownBy W2 none) (hf : FileAt W2 b9 g9) (hs9 : SameF g9 (F b)) (hb9 : W1.heap.size ≤ b9) (hbl : ∀ k ∈ g9.blocks, W1.heap.size ≤ k)
    (hS : DirM W3 gs (L.put x b9)) (g3 : W2.grownBy W3 (some gs)) (hD : DirM W4 gd (L.put x b9)) (g4 : W3.grownBy W4 (some gd)) (hns : s < w0.heap.size) :
    CloneI n0 w0 s ls F gq dead p pl ops gd gs r cnt (L ++ [(x, b9)]) W4 := by
  have hnd := hR.nodup
  have hx : x ∉ L.names := fun h => (List.nodup_append.1 hnd).2.2 x h x (by simp) rfl
  rw [DirL.put_fresh L x b9 hx] at hS hD
  have hn0 : n0 ≤ W.heap.size := by omega
  have s1 := g1.size
  have s2 := g2.size
  have s3 := g3.size
  have s4 := g4.size
  have hgd : n0 ≤ gd := hO.new gd (.inr (.inl rfl))
  have hgs : n0 ≤ gs := hO.new gs (.inr (.inr (.inl rfl)))
  have hO1 : FsOk (fun k => n0 ≤ k) W1 gq dead p pl ops gd gs (.slice none 0 0) L L [] (filesOf G L) := hO.kept (P := fun k => k = r) (GP.of g1 (fun k e => by cases e; rfl)) (fun k hk => hne k hk)
  have hlt1 := hO1.lt
  have hO4 := (((hO1.filed (fun k hk => by omega) g2 hf hb9 hbl).putS hS g3).putD hD g4)
  have hbL : ∀ y ∈ L, y.2 ≠ b9 := fun y hy e => by
    have := hO1.files.lt y.2 (mem_filesBlocks.2 ⟨_, mem_filesOf.2 ⟨y, hy, rfl⟩, .inl rfl⟩)
    omega
  have e1 : filesOf (fun k => if k = b9 then g9 else G k) (L ++ [(x, b9)]) = filesOf G L ++ [(b9, g9)] := by
    rw [filesOf_append, filesOf_congr (F := fun k => if k = b9 then g9 else G k) (G := G) (fun y hy => by simp [hbL y hy])]
    simp [filesOf]
  have hRr := hR.kept g2 (by simp) (by simp)
  have hrd : r ≠ gd := fun e => hne gd (.inr (.inl rfl)) e.symm
  have hrs : r ≠ gs := fun e => hne gs (.inr (.inr (.inl rfl))) e.symm
  have hRr := (hRr.kept g3 (by simp; omega) (by simp; exact hrs)).kept g4 (by simp; omega) (by simp; exact hrd)
  refine ⟨fun k => if k = b9 then g9 else G k, by rw [show DirL.names (L ++ [(x, b9)]) = L.names ++ [x] by simp [DirL.names]]; exact hRr, by rw [e1]; exact hO4, ?_, fun y hy => ?_, fun k hk => ?_, by omega, hrn⟩
  · exact gnew (gnew (gnew h0 g1 (fun k e => by cases e; exact .inl (by omega))|>.trans g2) g3 (fun k e => by cases e; exact .inl (by omega))) g4 (fun k e => by cases e; exact .inl (by omega))
  · rcases List.mem_append.1 hy with hy | hy
    · obtain ⟨c, h1, h2⟩ := hL y hy
      exact ⟨c, h1, by simpa [hbL y hy] using h2⟩
    · simp at hy
      subst hy
      exact ⟨b, hlk, by simpa using hs9⟩
  · rw [e1] at hk
    rcases hk with e | e | e | e | e | e | e | e
    · exact hne k (.inl e)
    · exact hne k (.inr (.inl e))
    · exact hne k (.inr (.inr (.inl e)))
    · exact hne k (.inr (.inr (.inr (.inl e))))
    · exact hne k (.inr (.inr (.inr (.inr (.inl e)))))
    · exact hne k (.inr (.inr (.inr (.inr (.inr (.inl e))))))
    · exact hne k (.inr (.inr (.inr (.inr (.inr (.inr (.inl e)))))))
    · rw [filesBlocks_append, List.mem_append] at e
      rcases e with e | e
      · exact hne k (.inr (.inr (.inr (.inr (.inr (.inr (.inr e)))))))
      · rw [filesBlocks_cons] at e
        simp [filesBlocks] at e
        rcases e with e | e
        · omega
        · have := hbl k e; omega
end Go.Proofs.YtcehddlplkfflaaGreat

/-
  LAYER 1 (fs): moves done to two directories that hold the same names. (For Clone.)
-/
namespace Go.Proofs.YtcehddlplkfflaaGreat
set_option maxRecDepth 100000
open Go.RowKit Go.Lib
open Go.Proofs (encStr)

theorem movesDone_add : ∀ (ml : List Mv) (m : Mv) (l : DirL), movesDone (ml ++ [m]) l = m.done (movesDone ml l)
  | [], _, _ => rfl
  | a :: ml, m, l => movesDone_add ml m (a.done l)
theorem okMoves_take : ∀ (ml : List Mv) (l : DirL) (j : Nat) (m : Mv), okMoves ml l → ml[j]? = some m → m.may (movesDone (ml.take j) l) ∧ (movesDone (ml.take j) l).length < maxLen
  | [], _, _, _, _, h => by simp at h
  | a :: ml, l, 0, m, h, h2 => by simp at h2; subst h2; exact ⟨h.1, h.2.1⟩
  | a :: ml, l, j + 1, m, h, h2 => by
    rw [List.getElem?_cons_succ] at h2
    exact okMoves_take ml (a.done l) j m h.2.2 h2
theorem DirL.names_drop (l : DirL) (x : List UInt8) : (l.drop x).names = l.names.filter (fun y => !(y == x)) := by
  unfold DirL.names DirL.drop
  rw [List.filter_map]
  rfl
theorem DirL.names_put (l : DirL) (x : List UInt8) (b : Nat) : (l.put x b).names = l.names.filter (fun y => !(y == x)) ++ [x] := by
  rw [← DirL.names_drop]
  simp [DirL.put, DirL.names]
theorem DirL.look_same {l l' : DirL} (h : l'.names.Perm l.names) (x : List UInt8) : (l'.look x).isSome = (l.look x).isSome := by
  rw [Bool.eq_iff_iff, DirL.look_names, DirL.look_names, h.mem_iff]

/-- How a move of a clone is like the one that it was made of. -/
structure LikeMv (F : Nat → FileV) (fl' : List (Nat × FileV)) (m' m : Mv) : Prop where
  src : m'.src = m.src
  dst : m'.dst = m.dst
  made : (m.made = none ∧ m'.made = none) ∨ ∃ b b' g, m.made = some b ∧ m'.made = some b' ∧ (b', g) ∈ fl' ∧ SameF g (F b)
theorem LikeMv.more {F : Nat → FileV} {fl' : List (Nat × FileV)} {m' m : Mv} (h : LikeMv F fl' m' m) (x : List (Nat × FileV)) : LikeMv F (fl' ++ x) m' m :=
  ⟨h.src, h.dst, h.made.imp id (fun ⟨b, b', g, h1, h2, h3, h4⟩ => ⟨b, b', g, h1, h2, List.mem_append_left _ h3, h4⟩)⟩
theorem LikeMv.names {F : Nat → FileV} {fl' : List (Nat × FileV)} {m' m : Mv} (h : LikeMv F fl' m' m) {l l' : DirL} (hp : l'.names.Perm l.names) : (m'.done l').names.Perm (m.done l).names := by
  have hl := DirL.look_same hp m.src.data.toList
  obtain ⟨a, c, x⟩ := m
  obtain ⟨a', c', x'⟩ := m'
  obtain ⟨h1, h2, h3⟩ := h
  dsimp only at h1 h2 h3 hl
  subst h1 h2
  rcases h3 with ⟨rfl, rfl⟩ | ⟨b, b', g, rfl, rfl, _⟩
  · unfold Mv.done
    dsimp only
    cases e1 : l.look a'.data.toList with
    | none =>
      rw [e1] at hl
      cases e2 : l'.look a'.data.toList with
      | none => exact hp
      | some _ => rw [e2] at hl; cases hl
    | some y =>
      rw [e1] at hl
      cases e2 : l'.look a'.data.toList with
      | none => rw [e2] at hl; cases hl
      | some z =>
        dsimp only
        split
        · rw [DirL.names_drop, DirL.names_drop]
          exact hp.filter _
        · rw [DirL.names_put, DirL.names_put, DirL.names_drop, DirL.names_drop]
          exact ((hp.filter _).filter _).append_right _
  · unfold Mv.done
    dsimp only
    rw [DirL.names_put, DirL.names_put]
    exact (hp.filter _).append_right _
theorem LikeMv.may {F : Nat → FileV} {fl' : List (Nat × FileV)} {m' m : Mv} (h : LikeMv F fl' m' m) {l l' : DirL} (hp : l'.names.Perm l.names) (hm : m.may l) : m'.may l' := by
  have hl := DirL.look_same hp m.src.data.toList
  obtain ⟨a, c, x⟩ := m
  obtain ⟨a', c', x'⟩ := m'
  obtain ⟨h1, h2, h3⟩ := h
  obtain ⟨k1, k2, k3⟩ := hm
  dsimp only at h1 h2 h3 hl k1 k2 k3
  subst h1 h2
  rcases h3 with ⟨rfl, rfl⟩ | ⟨b, b', g, rfl, rfl, _⟩
  · exact ⟨k1, k2, by dsimp only at k3 ⊢; rw [hl]; exact k3⟩
  · exact ⟨k1, k2, k3⟩

/-- A range over the moves, each of which is done to the clone. -/
def MovesI (n0 : Nat) (w0 : World) (ls : DirL) (ml : List Mv) (F : Nat → FileV) (gq : Nat) (dead : Bool) (p : PlV) (pl : Pl) (ops : Int) (gd gs : Nat) (L : DirL) (G : Nat → FileV) (j : Nat) (W : World) : Prop :=
  ∃ (ml' : List Mv) (fl' : List (Nat × FileV)) (mv' : Value), FsOk (fun k => n0 ≤ k) W gq dead p pl ops gd gs mv' (movesDone ml' L) L ml' (filesOf G L ++ fl') ∧ w0.grownBy W none ∧ ml'.length = j ∧ (movesDone ml' L).names.Perm (movesDone (ml.take j) ls).names ∧ (∀ (i : Nat) (m : Mv), (ml.take j)[i]? = some m → ∃ m' : Mv, ml'[i]? = some m' ∧ LikeMv F fl' m' m)

theorem MovesI.step {n0 : Nat} {w0 : World} {ls : DirL} {ml : List Mv} {F : Nat → FileV} {gq : Nat} {dead : Bool} {p : PlV} {pl : Pl} {ops : Int} {gd gs : Nat} {L : DirL} {G : Nat → FileV} {j : Nat} {W : World} {ml' : List Mv} {fl' : List (Nat × FileV)} {mv' : Value} {m m' : Mv}
    (hO : FsOk (fun k => n0 ≤ k) W gq dead p pl ops gd gs mv' (m'.done (movesDone ml' L)) L (ml' ++ [m']) (filesOf G L ++ fl')) (h0 : w0.grownBy W none) (hj : ml'.length = j) (hp : (movesDone ml' L).names.Perm (movesDone (ml.take j) ls).names) (hm : ml[j]? = some m) (hl : LikeMv F fl' m' m) (hlk : ∀ (i : Nat) (m : Mv), (ml.take j)[i]? = some m → ∃ m' : Mv, ml'[i]? = some m' ∧ LikeMv F fl' m' m) :
    MovesI n0 w0 ls ml F gq dead p pl ops gd gs L G (j + 1) W := by
  have ht : ml.take (j + 1) = ml.take j ++ [m] := by rw [List.take_add_one, hm]; rfl
  have hjl : j < ml.length := (List.getElem?_eq_some_iff.1 hm).1
  refine ⟨ml' ++ [m'], fl', mv', by rw [movesDone_add]; exact hO, h0, by simp [hj], by rw [movesDone_add, ht, movesDone_add]; exact hl.names hp, fun i x hx => ?_⟩
  rw [ht] at hx
  by_cases hi : i < j
  · rw [List.getElem?_append_left (by rw [List.length_take]; omega)] at hx
    obtain ⟨x', h1, h2⟩ := hlk i x hx
    exact ⟨x', by rw [List.getElem?_append_left (by omega)]; exact h1, h2⟩
  · have hil : i < (ml.take j ++ [m]).length := (List.getElem?_eq_some_iff.1 hx).1
    have hi2 : i = j := by simp at hil; omega
    subst hi2
    rw [List.getElem?_append_right (by rw [List.length_take]; omega)] at hx
    rw [List.length_take, Nat.min_eq_left (by omega)] at hx
    simp at hx
    subst hx
    exact ⟨m', by rw [List.getElem?_append_right (by omega), hj]; simp, hl⟩
end Go.Proofs.YtcehddlplkfflaaGreat

/-
  LAYER 1 (fs): the operations' other arms, where begin lets them on.
-/
namespace Go.Proofs.YtcehddlplkfflaaGreat
set_option maxRecDepth 100000
open Go.RowKit Go.Lib
attribute [local go_sem] Oper.semAt_some

section
variable {n0 : Nat → Prop} {w : World} {q : Nat} {p : PlV} {pl : Pl} {ops : Int} {d s : Nat} {mv : Value} {ld ls : DirL} {ml : List Mv} {fl : List (Nat × FileV)}
/-- What an operation finds behind its begin. -/
structure Begun (n0 : Nat → Prop) (w : World) (q : Nat) (p : PlV) (pl : Pl) (ops : Int) (d s : Nat) (mv : Value) (ld ls : DirL) (ml : List Mv) (fl : List (Nat × FileV)) (W : World) : Prop where
  begin : Calls Tryz.prog 56 #[.pointer (some ⟨q, 0, none⟩)] w fun e w' => e = .returned (.int .i64 0) ∧ ∃ m, w' = W.drewN m
  ok : ∀ m, FsOk n0 (W.drewN m) q false p pl (ops + 1) d s mv ld ls ml fl
  grown : ∀ m, w.grownBy (W.drewN m) (some q)
  cell : ∀ m, (W.drewN m).cell? ⟨q, 8, none⟩ = some (.map (some d))
theorem begun (h : FsOk n0 w q false p pl ops d s mv ld ls ml fl) (h0 : 0 ≤ ops) (h9 : ops < 4611686018427387904) (hc : ops + 1 ≠ pl.crash) (hsf : pl.fail.length < 4611686018427387904) (hnf : pl.fail.contains (ops + 1) = false) : ∃ W, Begun n0 w q p pl ops d s mv ld ls ml fl W := by
  have hb := begin_ok h h0 h9 hc hsf
  rw [hnf] at hb
  exact ⟨_, hb, fun m => (h.counted (ops + 1) m).1, fun m => (h.counted (ops + 1) m).2, fun m => (h.counted (ops + 1) m).1.fs.dir⟩
theorem Begun.look {W : World} (B : Begun n0 w q p pl ops d s mv ld ls ml fl W) (nm : ByteArray) (hs : nm.size ≤ maxLen) (m : Nat) : (Instr.lookup 67 (.map (some d)) (.string nm) false).run Tryz.prog (W.drewN m) = .ok (ptrV (ld.look nm.data.toList)) (W.drewN m) := (B.ok m).dir.lookup nm hs
theorem Begun.full {W : World} (B : Begun n0 w q p pl ops d s mv ld ls ml fl W) (hsu : pl.full.length < 4611686018427387904) (m : Nat) : Calls Tryz.prog 59 #[.pointer (some ⟨q, 0, none⟩)] (W.drewN m) fun e w' => e = .returned (.bool (pl.full.contains (ops + 1))) ∧ ∃ m', w' = (W.drewN m).drewN m' :=
  isFull_fs 0 pl.full (W.drewN m) (B.ok m).fs (B.ok m).ru hsu

set_option maxHeartbeats 2000000 in
theorem create_name (nm : ByteArray) {W : World} (B : Begun n0 w q p pl ops d s mv ld ls ml fl W) (hnm : okName nm = false) :
    Calls Tryz.prog 30 #[.pointer (some ⟨q, 0, none⟩), .string nm] w fun e w' => e = .returned (.int .i64 15) ∧ ∃ m, w' = W.drewN m := by
  have hmb := fun m => mayBe_any nm (W.drewN m)
  rw [hnm] at hmb
  have hfu : True := trivial
  go_enter Tryz.func30, Tryz.ntmps30
  go_wp2_with (first | (go_at_call 56; refine B.begin.mono ?_; rintro e w2 ⟨rfl, m1, rfl⟩) | (go_at_call 67; refine (hmb _).mono ?_; rintro e w2 ⟨rfl, rfl⟩) | (go_at_call 59; refine (hfu _).mono ?_; rintro e w2 ⟨rfl, m2, rfl⟩))
  go_ret
  exact ⟨rfl, _, rfl⟩
set_option maxHeartbeats 2000000 in
theorem create_exists (nm : ByteArray) {W : World} (B : Begun n0 w q p pl ops d s mv ld ls ml fl W) (hnm : okName nm = true) (hs : nm.size ≤ maxLen) (b : Nat) (hl : ld.look nm.data.toList = some b) :
    Calls Tryz.prog 30 #[.pointer (some ⟨q, 0, none⟩), .string nm] w fun e w' => e = .returned (.int .i64 13) ∧ ∃ m, w' = W.drewN m := by
  have hmb := fun m => mayBe_any nm (W.drewN m)
  rw [hnm] at hmb
  have hx := B.cell
  have hlk := B.look nm hs
  rw [hl] at hlk
  unfold ptrV at hlk
  have hfu : True := trivial
  go_enter Tryz.func30, Tryz.ntmps30
  go_wp2_with (first | (go_at_call 56; refine B.begin.mono ?_; rintro e w2 ⟨rfl, m1, rfl⟩) | (go_at_call 67; refine (hmb _).mono ?_; rintro e w2 ⟨rfl, rfl⟩) | (go_at_call 59; refine (hfu _).mono ?_; rintro e w2 ⟨rfl, m2, rfl⟩))
  go_ret
  exact ⟨rfl, _, rfl⟩
set_option maxHeartbeats 2000000 in
theorem create_long (nm : ByteArray) {W : World} (B : Begun n0 w q p pl ops d s mv ld ls ml fl W) (hnm : okName nm = true) (hs : nm.size ≤ maxLen) (hl : ld.look nm.data.toList = none) (hll : 4096 ≤ ld.length) :
    Calls Tryz.prog 30 #[.pointer (some ⟨q, 0, none⟩), .string nm] w fun e w' => e = .returned (.int .i64 2) ∧ ∃ m, w' = W.drewN m := by
  have hmb := fun m => mayBe_any nm (W.drewN m)
  rw [hnm] at hmb
  have hx := B.cell
  have hlk := B.look nm hs
  have hlen := fun m ty => (B.ok m).dir.len ty
  rw [hl] at hlk
  unfold ptrV at hlk
  have hfu : True := trivial
  go_enter Tryz.func30, Tryz.ntmps30
  go_wp2_with (first | (go_at_call 56; refine B.begin.mono ?_; rintro e w2 ⟨rfl, m1, rfl⟩) | (go_at_call 67; refine (hmb _).mono ?_; rintro e w2 ⟨rfl, rfl⟩) | (go_at_call 59; refine (hfu _).mono ?_; rintro e w2 ⟨rfl, m2, rfl⟩))
  go_ret
  exact ⟨rfl, _, rfl⟩
set_option maxHeartbeats 2000000 in
theorem create_full (nm : ByteArray) {W : World} (B : Begun n0 w q p pl ops d s mv ld ls ml fl W) (hnm : okName nm = true) (hs : nm.size ≤ maxLen) (hl : ld.look nm.data.toList = none) (hll : ld.length < 4096) (hsu : pl.full.length < 4611686018427387904) (hfl : pl.full.contains (ops + 1) = true) :
    Calls Tryz.prog 30 #[.pointer (some ⟨q, 0, none⟩), .string nm] w fun e w' => e = .returned (.int .i64 11) ∧ ∃ m, w' = W.drewN m := by
  have hmb := fun m => mayBe_any nm (W.drewN m)
  rw [hnm] at hmb
  have hx := B.cell
  have hlk := B.look nm hs
  have hlen := fun m ty => (B.ok m).dir.len ty
  rw [hl] at hlk
  unfold ptrV at hlk
  have hfu := B.full hsu
  rw [hfl] at hfu
  go_enter Tryz.func30, Tryz.ntmps30
  go_wp2_with (first | (go_at_call 56; refine B.begin.mono ?_; rintro e w2 ⟨rfl, m1, rfl⟩) | (go_at_call 67; refine (hmb _).mono ?_; rintro e w2 ⟨rfl, rfl⟩) | (go_at_call 59; refine (hfu _).mono ?_; rintro e w2 ⟨rfl, m2, rfl⟩))
  go_ret
  exact ⟨rfl, _, rfl⟩
set_option maxHeartbeats 2000000 in
theorem append_nofile (nm : ByteArray) (a : Option Addr) (n c : Nat) {W : World} (B : Begun n0 w q p pl ops d s mv ld ls ml fl W) (hs : nm.size ≤ maxLen) (hl : ld.look nm.data.toList = none) :
    Calls Tryz.prog 31 #[.pointer (some ⟨q, 0, none⟩), .string nm, .slice a n c] w fun e w' => e = .returned (.int .i64 14) ∧ ∃ m, w' = W.drewN m := by
  have hx := B.cell
  have hlk := B.look nm hs
  rw [hl] at hlk
  unfold ptrV at hlk
  go_enter Tryz.func31, Tryz.ntmps31
  go_wp2_with (go_at_call 56; refine B.begin.mono ?_; rintro e w2 ⟨rfl, m1, rfl⟩)
  go_ret
  exact ⟨rfl, _, rfl⟩
set_option maxHeartbeats 2000000 in
theorem cut_nofile (nm : ByteArray) (n : Int) {W : World} (B : Begun n0 w q p pl ops d s mv ld ls ml fl W) (hs : nm.size ≤ maxLen) (hl : ld.look nm.data.toList = none) :
    Calls Tryz.prog 36 #[.pointer (some ⟨q, 0, none⟩), .string nm, .int .i64 n] w fun e w' => e = .returned (.int .i64 14) ∧ ∃ m, w' = W.drewN m := by
  have hx := B.cell
  have hlk := B.look nm hs
  rw [hl] at hlk
  unfold ptrV at hlk
  go_enter Tryz.func36, Tryz.ntmps36
  go_wp2_with (go_at_call 56; refine B.begin.mono ?_; rintro e w2 ⟨rfl, m1, rfl⟩)
  go_ret
  exact ⟨rfl, _, rfl⟩
set_option maxHeartbeats 2000000 in
theorem sync_nofile (nm : ByteArray)  {W : World} (B : Begun n0 w q p pl ops d s mv ld ls ml fl W) (hs : nm.size ≤ maxLen) (hl : ld.look nm.data.toList = none) :
    Calls Tryz.prog 22 #[.pointer (some ⟨q, 0, none⟩), .string nm] w fun e w' => e = .returned (.int .i64 14) ∧ ∃ m, w' = W.drewN m := by
  have hx := B.cell
  have hlk := B.look nm hs
  rw [hl] at hlk
  unfold ptrV at hlk
  go_enter Tryz.func22, Tryz.ntmps22
  go_wp2_with (go_at_call 56; refine B.begin.mono ?_; rintro e w2 ⟨rfl, m1, rfl⟩)
  go_ret
  exact ⟨rfl, _, rfl⟩
set_option maxHeartbeats 2000000 in
theorem rename_nofile (nm : ByteArray) (nt : ByteArray) {W : World} (B : Begun n0 w q p pl ops d s mv ld ls ml fl W) (hs : nm.size ≤ maxLen) (hl : ld.look nm.data.toList = none) :
    Calls Tryz.prog 39 #[.pointer (some ⟨q, 0, none⟩), .string nm, .string nt] w fun e w' => e = .returned (.int .i64 14) ∧ ∃ m, w' = W.drewN m := by
  have hx := B.cell
  have hlk := B.look nm hs
  rw [hl] at hlk
  unfold ptrV at hlk
  go_enter Tryz.func39, Tryz.ntmps39
  go_wp2_with (go_at_call 56; refine B.begin.mono ?_; rintro e w2 ⟨rfl, m1, rfl⟩)
  go_ret
  exact ⟨rfl, _, rfl⟩
set_option maxHeartbeats 2000000 in
theorem remove_nofile (nm : ByteArray)  {W : World} (B : Begun n0 w q p pl ops d s mv ld ls ml fl W) (hs : nm.size ≤ maxLen) (hl : ld.look nm.data.toList = none) :
    Calls Tryz.prog 41 #[.pointer (some ⟨q, 0, none⟩), .string nm] w fun e w' => e = .returned (.int .i64 14) ∧ ∃ m, w' = W.drewN m := by
  have hx := B.cell
  have hlk := B.look nm hs
  rw [hl] at hlk
  unfold ptrV at hlk
  go_enter Tryz.func41, Tryz.ntmps41
  go_wp2_with (go_at_call 56; refine B.begin.mono ?_; rintro e w2 ⟨rfl, m1, rfl⟩)
  go_ret
  exact ⟨rfl, _, rfl⟩
set_option maxHeartbeats 2000000 in
theorem syncDir_full {W : World} (B : Begun n0 w q p pl ops d s mv ld ls ml fl W) (hsu : pl.full.length < 4611686018427387904) (hfl : pl.full.contains (ops + 1) = true) :
    Calls Tryz.prog 23 #[.pointer (some ⟨q, 0, none⟩)] w fun e w' => e = .returned (.int .i64 11) ∧ ∃ m, w' = W.drewN m := by
  have hfu := B.full hsu
  rw [hfl] at hfu
  have hmb : True := trivial
  go_enter Tryz.func23, Tryz.ntmps23
  go_wp2_with (first | (go_at_call 56; refine B.begin.mono ?_; rintro e w2 ⟨rfl, m1, rfl⟩) | (go_at_call 67; refine (hmb _).mono ?_; rintro e w2 ⟨rfl, rfl⟩) | (go_at_call 59; refine (hfu _).mono ?_; rintro e w2 ⟨rfl, m2, rfl⟩))
  go_ret
  exact ⟨rfl, _, rfl⟩
set_option maxHeartbeats 2000000 in
theorem rename_name (nm nt : ByteArray) {W : World} (B : Begun n0 w q p pl ops d s mv ld ls ml fl W) (hs : nm.size ≤ maxLen) (b : Nat) (hl : ld.look nm.data.toList = some b) (hnm : okName nt = false) :
    Calls Tryz.prog 39 #[.pointer (some ⟨q, 0, none⟩), .string nm, .string nt] w fun e w' => e = .returned (.int .i64 15) ∧ ∃ m, w' = W.drewN m := by
  have hmb := fun m => mayBe_any nt (W.drewN m)
  rw [hnm] at hmb
  have hx := B.cell
  have hlk := B.look nm hs
  rw [hl] at hlk
  unfold ptrV at hlk
  have hfu : True := trivial
  go_enter Tryz.func39, Tryz.ntmps39
  go_wp2_with (first | (go_at_call 56; refine B.begin.mono ?_; rintro e w2 ⟨rfl, m1, rfl⟩) | (go_at_call 67; refine (hmb _).mono ?_; rintro e w2 ⟨rfl, rfl⟩) | (go_at_call 59; refine (hfu _).mono ?_; rintro e w2 ⟨rfl, m2, rfl⟩))
  go_ret
  exact ⟨rfl, _, rfl⟩
set_option maxHeartbeats 2000000 in
theorem rename_same (nm : ByteArray) {W : World} (B : Begun n0 w q p pl ops d s mv ld ls ml fl W) (hs : nm.size ≤ maxLen) (b : Nat) (hl : ld.look nm.data.toList = some b) (hnm : okName nm = true) :
    Calls Tryz.prog 39 #[.pointer (some ⟨q, 0, none⟩), .string nm, .string nm] w fun e w' => e = .returned (.int .i64 0) ∧ ∃ m, w' = W.drewN m := by
  have hmb := fun m => mayBe_any nm (W.drewN m)
  rw [hnm] at hmb
  have hx := B.cell
  have hlk := B.look nm hs
  rw [hl] at hlk
  unfold ptrV at hlk
  have hfu : True := trivial
  go_enter Tryz.func39, Tryz.ntmps39
  go_wp2_with (first | (go_at_call 56; refine B.begin.mono ?_; rintro e w2 ⟨rfl, m1, rfl⟩) | (go_at_call 67; refine (hmb _).mono ?_; rintro e w2 ⟨rfl, rfl⟩) | (go_at_call 59; refine (hfu _).mono ?_; rintro e w2 ⟨rfl, m2, rfl⟩))
  go_ret
  exact ⟨rfl, _, rfl⟩
end
end Go.Proofs.YtcehddlplkfflaaGreat
