/-
  LAYER 1 (fs): SyncDir where nothing fails, nothing is full and nothing dies.
-/
import Derived.Test.YtafcgjbafihniaaGreatFA10
import Derived.Test.YtafcgjbafihniaaGreatFA07
import Derived.Test.YtafcgjbafihniaaGreatFA08
import Derived.Maps.RangeWalk
namespace Go.Proofs.YtafcgjbafihniaaGreat
set_option maxRecDepth 100000
open Go.RowKit Go.Lib
attribute [local go_sem] Oper.semAt_some

section
variable {w : World} {q : Nat} {p : PlV} {ops : Int} {d s : Nat} {mv : Value}
set_option maxHeartbeats 4000000 in
theorem syncDir_ok (B : Nat) (fail full : List Int) (ml : List Mv) (l : DirL) (w : World) (h : FsAt w q false p ops d s mv) (h0 : 0 ≤ ops) (h9 : ops < 4611686018427387904) (hc : ops + 1 ≠ p.c)
    (hf : w.ownsRow B 3 1 p.f fail.length ((inOrd fail).map intV)) (hu : w.ownsRow B 3 1 p.u full.length ((inOrd full).map intV)) (hq : p.f.ownBlock ≠ some q) (hqu : p.u.ownBlock ≠ some q) (hsf : fail.length < 4611686018427387904) (hsu : full.length < 4611686018427387904)
    (hnf : fail.contains (ops + 1) = false) (hnu : full.contains (ops + 1) = false) (hd : DirM w s l) (hr : w.ownsRow 0 110 3 mv ml.length (mvCells ml)) (hm : okMoves ml l) (hn2 : ml.length < 3518437208882)
    (hsq : s ≠ q) (hmq : mv.ownBlock ≠ some q) (hms : mv.ownBlock ≠ some s) :
    Calls Tryz.prog 24 #[.pointer (some ⟨q, 0, none⟩)] w fun e w' => e = .returned (.int .i64 0) ∧ FsAt w' q false p (ops + 1) d s (.slice none 0 0) ∧ DirM w' s (movesDone ml l) ∧ GP (fun k => k = q ∨ k = s) w w' := by
  have hb := begin_fs B fail w h h0 h9 hc hf hq hsf
  rw [hnf] at hb
  obtain ⟨W, hW⟩ : ∃ W, W = w.setCell ⟨q, 7, none⟩ (.int .i64 (ops + 1)) := ⟨_, rfl⟩
  have gF : w.grownBy W (some q) := by rw [hW]; exact gset (World.grownBy.refl w (some q)) 7 (.int .i64 (ops + 1))
  have hF : ∀ m, FsAt (W.drewN m) q false p (ops + 1) d s mv := fun m => by rw [hW]; exact h.setOps (ops + 1)
  have hx : ∀ m, (W.drewN m).cell? ⟨q, 10, none⟩ = some mv := fun m => (hF m).moves
  rw [← hW] at hb
  clear hW
  have gm := fun m => gdrewN gF m
  have huq : ∀ m, (W.drewN m).ownsRow B 3 1 p.u full.length ((inOrd full).map intV) := fun m => World.ownsRow.kept hu (gm m) (.inr hqu)
  have hfu := fun m => isFull_fs B full (W.drewN m) (hF m) (huq m) hsu
  rw [hnu] at hfu
  have hst := fun m => fsSettle_any ml.length ml l (W.drewN m) (hF m) (hd.kept (gm m) (by simp; exact hsq)) (World.ownsRow.kept hr (gm m) (.inr hmq)) (by rw [List.take_length]; exact hm) (Nat.le_refl _) hn2 hsq hmq hms
  rw [List.take_length] at hst
  obtain ⟨a, c, rfl⟩ : ∃ a c, mv = .slice a ml.length c := by
    obtain ⟨_, ⟨e, hz⟩ | ⟨g, cap, cur, e, _⟩⟩ := hr
    · exact ⟨none, 0, by rw [e, hz]⟩
    · exact ⟨_, _, e⟩
  go_enter Tryz.func24, Tryz.ntmps24
  go_wp2_with first
    | (go_at_call 57; refine hb.mono ?_; rintro e w2 ⟨rfl, m1, rfl⟩)
    | (go_at_call 60; refine (hfu _).mono ?_; rintro e w2 ⟨rfl, m2, rfl⟩)
    | (go_at_call 61; refine (hst _).mono ?_; rintro e w2 ⟨rfl, k1, k2, k3⟩)
  go_ret
  exact ⟨rfl, k1, k2, GP.trans (P := fun k => k = q ∨ k = s) (GP.of (gm _) (fun k e => by cases e; exact .inl rfl)) k3 (fun k e => .inl e)⟩
end
end Go.Proofs.YtafcgjbafihniaaGreat

/-
  LAYER 1 (fs): the operations on a whole file system, where nothing fails, is full or dies.
-/
namespace Go.Proofs.YtafcgjbafihniaaGreat
set_option maxRecDepth 100000
open Go.RowKit Go.Lib
open Go.Proofs (encStr)

section
variable {n0 : Nat → Prop} {w : World} {q : Nat} {dead : Bool} {p : PlV} {pl : Pl} {ops : Int} {d s : Nat} {mv : Value} {ld ls : DirL} {ml : List Mv} {fl : List (Nat × FileV)}
theorem FsOk.plan {w' : World} {P : Nat → Prop} (h : FsOk n0 w q dead p pl ops d s mv ld ls ml fl) (g : GP P w w') (hP : ∀ k, P k → k = q ∨ k = d ∨ k = s ∨ mv.ownBlock = some k ∨ k ∈ filesBlocks fl) :
    w'.ownsRow 0 3 1 p.k pl.keep.length (pl.keep.map intV) ∧ w'.ownsRow 0 3 1 p.f pl.fail.length ((inOrd pl.fail).map intV) ∧ w'.ownsRow 0 3 1 p.u pl.full.length ((inOrd pl.full).map intV) := by
  have key : ∀ {v : Value} {n : Nat} {xs : List Value}, w.ownsRow 0 3 1 v n xs → w'.ownsRow 0 3 1 v n xs := fun {v n xs} hv => own_gp hv g (fun k e hp => by
    have h1 := h.row_fs hv (by decide)
    rcases hP k hp with h2 | h2 | h2 | h2 | h2
    · exact h1.1 (by rw [← h2]; exact e)
    · exact h1.2.1 (by rw [← h2]; exact e)
    · exact h1.2.2 (by rw [← h2]; exact e)
    · exact own_own hv h.mr (by decide) k e h2
    · exact h.row_files hv ⟨by decide, by decide, by decide⟩ k h2 e)
  exact ⟨key h.rk, key h.rf, key h.ru⟩
theorem FsOk.foot_ge (h : FsOk n0 w q dead p pl ops d s mv ld ls ml fl) : ∀ k, FsFoot q d s p mv fl k → n0 k := h.new

theorem new_good (vk vf vu : Value) (pl : Pl) (w : World) (hk : Ints w vk pl.keep) (hf : Ints w vf pl.fail) (hu : Ints w vu pl.full)
    (lk : pl.keep.length * 8 ≤ 140737488351232) (lf : pl.fail.length * 8 ≤ 140737488351232) (lu : pl.full.length * 8 ≤ 140737488351232) :
    Calls Tryz.prog 12 #[.agg #[.int .i64 pl.crash, vk, vf, vu, .int .i64 pl.room]] w fun e w' => ∃ q d s p, e = .returned (.pointer (some ⟨q, 0, none⟩)) ∧ FsOk (fun k => w.heap.size ≤ k) w' q false p pl 0 d s (.slice none 0 0) [] [] [] [] ∧ w.grownBy w' none := by
  refine (new_any vk vf vu pl w hk hf hu lk lf lu).mono ?_
  rintro e w' ⟨q, d, s, k', f', u', rfl, n1, n2, n3, n4, n5, n6, n7, n8, n9, n10, g1⟩
  refine ⟨q, d, s, _, rfl, ⟨n1, rfl, rfl, rowMono n8 (Nat.zero_le _), rowMono n9 (Nat.zero_le _), rowMono n10 (Nat.zero_le _), DirM.fresh n2, DirM.fresh n3, World.ownsRow_nil _ _ _ _, ⟨by simp, by simp [filesBlocks]⟩, n4, fun k hk => ?_⟩, g1⟩
  rcases hk with rfl | rfl | rfl | e | e | e | e | e
  · exact n5
  · exact n6
  · exact n7
  · simp [Value.ownBlock] at e
  · exact (World.ownsRow.lt n8 k e).1
  · exact (World.ownsRow.lt n9 k e).1
  · exact (World.ownsRow.lt n10 k e).1
  · simp [filesBlocks] at e

theorem create_good (nm : ByteArray) (h : FsOk n0 w q false p pl ops d s mv ld ls ml fl) (hn0 : ∀ k, w.heap.size ≤ k → n0 k) (h0 : 0 ≤ ops) (h9 : ops < 4611686018427387904) (hc : ops + 1 ≠ pl.crash) (hsf : pl.fail.length < 4611686018427387904) (hsu : pl.full.length < 4611686018427387904)
    (hnf : pl.fail.contains (ops + 1) = false) (hnu : pl.full.contains (ops + 1) = false) (hs : nm.size ≤ maxLen) (hnm : okName nm = true) (hnm0 : nm.size ≠ 0) (hl : ld.look nm.data.toList = none) (hl9 : ld.length < 4096) (hn2 : ml.length < 3518437208882) :
    Calls Tryz.prog 31 #[.pointer (some ⟨q, 0, none⟩), .string nm] w fun e w' => e = .returned (.int .i64 0) ∧ ∃ mv', FsOk n0 w' q false p pl (ops + 1) d s mv' (ld.put nm.data.toList w.heap.size) ls (ml ++ [⟨⟨#[]⟩, nm, some w.heap.size⟩]) (fl ++ [(w.heap.size, ⟨.slice none 0 0, .slice none 0 0, .slice none 0 0, [], [], []⟩)]) ∧ GP (FsFoot q d s p mv fl) w w' := by
  have rf := h.row_fs h.mr (by decide)
  refine (create_ok 0 pl.fail pl.full nm ml ld w h.fs h0 h9 (by rw [h.pc]; exact hc) h.rf h.ru (h.row_fs h.rf (by decide)).1 (h.row_fs h.ru (by decide)).1 hsf hsu hnf hnu h.dir hs hnm hnm0 hl hl9 h.mr hn2 h.ndq rf.1 rf.2.1).mono ?_
  rintro e w' ⟨rfl, mv', k1, k2, k3, k4, k5, k6⟩
  have hpl := h.plan k6 (fun k hk => by
    rcases hk with e | e | e
    · exact .inl e
    · exact .inr (.inl e)
    · exact .inr (.inr (.inr (.inl e))))
  have hnf2 : ∀ k ∈ filesBlocks fl, ¬ (k = q ∨ k = d ∨ mv.ownBlock = some k) := fun k hk hp => by
    have := h.fb k hk
    rcases hp with e | e | e
    · exact this.1 e
    · exact this.2.1 e
    · exact h.row_files h.mr ⟨by decide, by decide, by decide⟩ k hk e
  have hlt := h.files.lt
  have hown : ∀ k, mv'.ownBlock = some k → mv.ownBlock = some k ∨ w.heap.size ≤ k := fun k e => by
    rcases k5 with e2 | ⟨k2, e2, h2⟩
    · exact .inl (by rw [← e2]; exact e)
    · rw [e] at e2; cases e2; exact .inr h2
  have hs' := h.safe.gp k6 (by rintro (e | e | e); exact h.nsq e; exact h.nds e.symm; exact rf.2.2 e)
  have hfl := h.files.kept k6 hnf2
  refine ⟨rfl, mv', ⟨k1, h.pc, h.pr, hpl.1, hpl.2.1, hpl.2.2, k2, hs', by rw [List.length_append]; exact k4, ⟨fun x hx => ?_, ?_⟩, h.nds, fun k hk => ?_⟩, (GP.refl _ _).trans k6 (fun k hk => .inl ?_)⟩
  · rcases List.mem_append.1 hx with hx | hx
    · exact hfl.1 x hx
    · simp at hx
      subst hx
      exact k3
  · rw [filesBlocks_append, List.nodup_append]
    refine ⟨hfl.2, by simp [filesBlocks, FileV.blocks, Value.ownBlock], fun a ha b hb e => ?_⟩
    simp [filesBlocks, FileV.blocks, Value.ownBlock] at hb
    have := hlt a ha
    omega
  · rcases hk with e | e | e | e | e | e | e | e
    · exact h.new k (.inl e)
    · exact h.new k (.inr (.inl e))
    · exact h.new k (.inr (.inr (.inl e)))
    · rcases hown k e with e | e
      · exact h.new k (.inr (.inr (.inr (.inl e))))
      · exact hn0 k e
    · exact h.new k (.inr (.inr (.inr (.inr (.inl e)))))
    · exact h.new k (.inr (.inr (.inr (.inr (.inr (.inl e))))))
    · exact h.new k (.inr (.inr (.inr (.inr (.inr (.inr (.inl e)))))))
    · rw [filesBlocks_append, List.mem_append] at e
      rcases e with e | e
      · exact h.new k (.inr (.inr (.inr (.inr (.inr (.inr (.inr e)))))))
      · simp [filesBlocks, FileV.blocks, Value.ownBlock] at e
        exact hn0 k (by omega)
  · rcases hk with e | e | e
    · exact .inl e
    · exact .inr (.inl e)
    · exact .inr (.inr (.inr (.inl e)))

/-- One file turned, all else kept: what is left of a file system whose block, and whose file b, an operation turned. -/
theorem FsOk.file {w' : World} {P : Nat → Prop} {ops' : Int} {A B : List (Nat × FileV)} {b : Nat} {f f' : FileV} (h : FsOk n0 w q dead p pl ops d s mv ld ls ml (A ++ (b, f) :: B)) (hn0 : ∀ k, w.heap.size ≤ k → n0 k) (g : GP P w w') (hP : ∀ k, P k → k = q ∨ k = b ∨ k ∈ f.blocks) (hq : FsAt w' q dead p ops' d s mv) (hf : FileAt w' b f') (hb : ∀ k ∈ f'.blocks, k ∈ f.blocks ∨ w.heap.size ≤ k) :
    FsOk n0 w' q dead p pl ops' d s mv ld ls ml (A ++ (b, f') :: B) ∧ GP (FsFoot q d s p mv (A ++ (b, f) :: B)) w w' := by
  have hin : ∀ k, k = b ∨ k ∈ f.blocks → k ∈ filesBlocks (A ++ (b, f) :: B) := fun k hk => mem_filesBlocks.2 ⟨(b, f), by simp, hk⟩
  have hPf : ∀ k, P k → k = q ∨ k ∈ filesBlocks (A ++ (b, f) :: B) := fun k hk => (hP k hk).imp id (hin k)
  have hpl := h.plan g (fun k hk => (hPf k hk).imp id (fun e => .inr (.inr (.inr e))))
  have r1 := h.row_fs h.mr (by decide)
  have hfb := h.fb
  refine ⟨⟨hq, h.pc, h.pr, hpl.1, hpl.2.1, hpl.2.2, h.dir.gp g (fun e => ?_), h.safe.gp g (fun e => ?_), own_gp h.mr g (fun k e e2 => ?_), h.files.turn g (fun k hk => ?_) hf hb, h.nds, fun k hk => ?_⟩, (GP.refl _ _).trans g (fun k hk => .inl ?_)⟩
  · rcases hPf d e with e | e
    · exact h.ndq e
    · exact (hfb d e).2.1 rfl
  · rcases hPf s e with e | e
    · exact h.nsq e
    · exact (hfb s e).2.2 rfl
  · rcases hPf k e2 with e3 | e3
    · exact r1.1 (by rw [← e3]; exact e)
    · exact h.row_files h.mr ⟨by decide, by decide, by decide⟩ k e3 e
  · rcases hP k hk with e | e | e
    · right; right
      intro hk2
      obtain ⟨x, hx, e2⟩ := mem_filesBlocks.1 hk2
      exact (hfb k (mem_filesBlocks.2 ⟨x, by
        rcases List.mem_append.1 hx with hx | hx
        · simp [hx]
        · simp [hx], e2⟩)).1 e
    · exact .inl e
    · exact .inr (.inl e)
  · rcases hk with e | e | e | e | e | e | e | e
    · exact h.new k (.inl e)
    · exact h.new k (.inr (.inl e))
    · exact h.new k (.inr (.inr (.inl e)))
    · exact h.new k (.inr (.inr (.inr (.inl e))))
    · exact h.new k (.inr (.inr (.inr (.inr (.inl e)))))
    · exact h.new k (.inr (.inr (.inr (.inr (.inr (.inl e))))))
    · exact h.new k (.inr (.inr (.inr (.inr (.inr (.inr (.inl e)))))))
    · have old : ∀ k, k ∈ filesBlocks (A ++ (b, f) :: B) → n0 k := fun k e => h.new k (.inr (.inr (.inr (.inr (.inr (.inr (.inr e)))))))
      obtain ⟨x, hx, e2⟩ := mem_filesBlocks.1 e
      rcases List.mem_append.1 hx with hx | hx
      · exact old k (mem_filesBlocks.2 ⟨x, by simp [hx], e2⟩)
      · rcases List.mem_cons.1 hx with rfl | hx
        · rcases e2 with e2 | e2
          · exact old k (hin k (.inl e2))
          · rcases hb k e2 with e3 | e3
            · exact old k (hin k (.inr e3))
            · exact hn0 k e3
        · exact old k (mem_filesBlocks.2 ⟨x, by simp [hx], e2⟩)
  · rcases hPf k hk with e | e
    · exact .inl e
    · exact .inr (.inr (.inr (.inr (.inr (.inr (.inr e))))))

theorem FsOk.fileq {A B : List (Nat × FileV)} {b : Nat} {f : FileV} (h : FsOk n0 w q dead p pl ops d s mv ld ls ml (A ++ (b, f) :: B)) : FileAt w b f ∧ b ≠ q ∧ f.sv.ownBlock ≠ some q ∧ f.dv.ownBlock ≠ some q ∧ f.cv.ownBlock ≠ some q := by
  have hf := h.files.1 (b, f) (by simp)
  have hin : ∀ k, k = b ∨ k ∈ f.blocks → k ∈ filesBlocks (A ++ (b, f) :: B) := fun k hk => mem_filesBlocks.2 ⟨(b, f), by simp, hk⟩
  exact ⟨hf, (h.fb b (hin b (.inl rfl))).1, fun e => (h.fb q (hin q (.inr (FileV.mem_s e)))).1 rfl, fun e => (h.fb q (hin q (.inr (FileV.mem_d e)))).1 rfl, fun e => (h.fb q (hin q (.inr (FileV.mem_c e)))).1 rfl⟩

theorem append_good (nm : ByteArray) (bv : Value) (bs : List UInt8) {A B : List (Nat × FileV)} {b : Nat} {f : FileV} (h : FsOk n0 w q false p pl ops d s mv ld ls ml (A ++ (b, f) :: B)) (hn0 : ∀ k, w.heap.size ≤ k → n0 k) (h0 : 0 ≤ ops) (h9 : ops < 4611686018427387904) (hc : ops + 1 ≠ pl.crash) (hsf : pl.fail.length < 4611686018427387904) (hsu : pl.full.length < 4611686018427387904)
    (hnf : pl.fail.contains (ops + 1) = false) (hnu : pl.full.contains (ops + 1) = false) (hs : nm.size ≤ maxLen) (hl : ld.look nm.data.toList = some b) (hn : f.chg.length < 8796093022207) (hb : Reads w bv bs) (hbv : bs ≠ [] → bv.ownBlock ≠ some q) (hne : bs ≠ []) (hlen : bs.length + f.data.length ≤ 268435456) (hroom : pl.room ≤ 0) :
    Calls Tryz.prog 32 #[.pointer (some ⟨q, 0, none⟩), .string nm, bv] w fun e w' => e = .returned (.int .i64 0) ∧ ∃ f', FsOk n0 w' q false p pl (ops + 1) d s mv ld ls ml (A ++ (b, f') :: B) ∧ f'.safe = f.safe ∧ f'.data = f.data ++ bs ∧ f'.chg = f.chg ++ [.add ⟨bs.toArray⟩] ∧ GP (FsFoot q d s p mv (A ++ (b, f) :: B)) w w' := by
  obtain ⟨hf, hbq⟩ := h.fileq
  refine (append_ok 0 pl.fail pl.full nm ld b f bv bs w h.fs h0 h9 (by rw [h.pc]; exact hc) h.rf h.ru (h.row_fs h.rf (by decide)).1 (h.row_fs h.ru (by decide)).1 hsf hsu hnf hnu h.dir hs hl hf hn hb hbv hne hlen (by rw [h.pr]; exact hroom) h.ndq hbq).mono ?_
  rintro e w' ⟨rfl, f', k1, k2, k3, k4, k5, k6, k7⟩
  have := h.file hn0 k5 (fun k hk => hk) k6 k1 k7
  exact ⟨rfl, f', this.1, k2, k3, k4, this.2⟩

theorem sync_good (nm : ByteArray) {A B : List (Nat × FileV)} {b : Nat} {f : FileV} (h : FsOk n0 w q false p pl ops d s mv ld ls ml (A ++ (b, f) :: B)) (hn0 : ∀ k, w.heap.size ≤ k → n0 k) (h0 : 0 ≤ ops) (h9 : ops < 4611686018427387904) (hc : ops + 1 ≠ pl.crash) (hsf : pl.fail.length < 4611686018427387904)
    (hnf : pl.fail.contains (ops + 1) = false) (hs : nm.size ≤ maxLen) (hl : ld.look nm.data.toList = some b) (hok : okL f.safe f.chg) (hn : f.chg.length < 4611686018427387904) :
    Calls Tryz.prog 23 #[.pointer (some ⟨q, 0, none⟩), .string nm] w fun e w' => e = .returned (.int .i64 0) ∧ ∃ f', FsOk n0 w' q false p pl (ops + 1) d s mv ld ls ml (A ++ (b, f') :: B) ∧ f'.safe = settleP (fun _ => -1) 0 true f.safe f.chg ∧ f'.data = f.data ∧ f'.chg = [] ∧ GP (FsFoot q d s p mv (A ++ (b, f) :: B)) w w' := by
  obtain ⟨hf, hbq⟩ := h.fileq
  refine (sync_ok 0 pl.fail nm ld b f w h.fs h0 h9 (by rw [h.pc]; exact hc) h.rf (h.row_fs h.rf (by decide)).1 hsf hnf h.dir hs hl hf hok hn h.ndq hbq).mono ?_
  rintro e w' ⟨rfl, sv, k1, k2, k3, k4⟩
  have := h.file hn0 k2 (fun k hk => by
    rcases hk with e | e | e
    · exact .inl e
    · exact .inr (.inl e)
    · exact .inr (.inr (FileV.mem_s e))) k3 k1 (fun k hk => by
    rcases FileV.mem hk with e | e | e
    · exact (k4 k e).imp FileV.mem_s id
    · exact .inl (FileV.mem_d e)
    · simp [Value.ownBlock] at e)
  exact ⟨rfl, _, this.1, rfl, rfl, rfl, this.2⟩

theorem syncDir_good (h : FsOk n0 w q false p pl ops d s mv ld ls ml fl) (h0 : 0 ≤ ops) (h9 : ops < 4611686018427387904) (hc : ops + 1 ≠ pl.crash) (hsf : pl.fail.length < 4611686018427387904) (hsu : pl.full.length < 4611686018427387904)
    (hnf : pl.fail.contains (ops + 1) = false) (hnu : pl.full.contains (ops + 1) = false) (hm : okMoves ml ls) (hn2 : ml.length < 3518437208882) :
    Calls Tryz.prog 24 #[.pointer (some ⟨q, 0, none⟩)] w fun e w' => e = .returned (.int .i64 0) ∧ FsOk n0 w' q false p pl (ops + 1) d s (.slice none 0 0) ld (movesDone ml ls) [] fl ∧ GP (FsFoot q d s p mv fl) w w' := by
  have rf := h.row_fs h.mr (by decide)
  refine (syncDir_ok 0 pl.fail pl.full ml ls w h.fs h0 h9 (by rw [h.pc]; exact hc) h.rf h.ru (h.row_fs h.rf (by decide)).1 (h.row_fs h.ru (by decide)).1 hsf hsu hnf hnu h.safe h.mr hm hn2 h.nsq rf.1 rf.2.2).mono ?_
  rintro e w' ⟨rfl, k1, k2, k3⟩
  have hpl := h.plan k3 (fun k hk => by
    rcases hk with e | e
    · exact .inl e
    · exact .inr (.inr (.inl e)))
  refine ⟨rfl, ⟨k1, h.pc, h.pr, hpl.1, hpl.2.1, hpl.2.2, h.dir.gp k3 (by rintro (e | e); exact h.ndq e; exact h.nds e), k2, World.ownsRow_nil _ _ _ _, h.files.kept k3 (fun k hk e => by
    have := h.fb k hk
    rcases e with e | e
    · exact this.1 e
    · exact this.2.2 e), h.nds, fun k hk => ?_⟩, (GP.refl _ _).trans k3 (fun k hk => .inl ?_)⟩
  · rcases hk with e | e | e | e | e | e | e | e
    · exact h.new k (.inl e)
    · exact h.new k (.inr (.inl e))
    · exact h.new k (.inr (.inr (.inl e)))
    · simp [Value.ownBlock] at e
    · exact h.new k (.inr (.inr (.inr (.inr (.inl e)))))
    · exact h.new k (.inr (.inr (.inr (.inr (.inr (.inl e))))))
    · exact h.new k (.inr (.inr (.inr (.inr (.inr (.inr (.inl e)))))))
    · exact h.new k (.inr (.inr (.inr (.inr (.inr (.inr (.inr e)))))))
  · rcases hk with e | e
    · exact .inl e
    · exact .inr (.inr (.inl e))
end
end Go.Proofs.YtafcgjbafihniaaGreat

/-
  LAYER 1 (fs): Start of a whole file system that lives: it dies first.
-/
namespace Go.Proofs.YtafcgjbafihniaaGreat
set_option maxRecDepth 100000
open Go.RowKit Go.Lib
open Go.Proofs (encStr)

section
variable {n0 : Nat → Prop} {w : World} {q : Nat} {p : PlV} {pl : Pl} {ops : Int} {d s : Nat} {mv : Value} {ld ls : DirL} {ml : List Mv} {fl : List (Nat × FileV)}

/-- die, of a whole file system. -/
theorem die_good (F : Nat → FileV) (nm : Nat) (hnm : nm = dieN pl.keep ml) (l' : DirL) (hl' : l' = movesDone (ml.take nm) ls) (h : FsOk n0 w q false p pl ops d s mv ld ls ml fl) (hn0 : ∀ k, w.heap.size ≤ k → n0 k) (hlk : pl.keep.length < 4611686018427387904)
    (hm : okMoves (ml.take nm) ls) (hn2 : ml.length < 3518437208882) (hl9 : l'.length ≤ 3518437208881) (hF : FilesM w (filesOf F l'.sorted)) (hsub : ∀ k ∈ filesBlocks (filesOf F l'.sorted), k ∈ filesBlocks fl) (hok : ∀ x ∈ l'.sorted, okL (F x.2).safe (F x.2).chg ∧ (F x.2).safe.length ≤ 140737488355328) (hcn : 1 + cnt F l'.sorted < 4611686018427387904) :
    Calls Tryz.prog 62 #[.pointer (some ⟨q, 0, none⟩)] w fun e w' => e = .returned (.tuple #[]) ∧ ∃ d' G, FsOk n0 w' q true p pl ops d' s (.slice none 0 0) l' l' [] (filesOf G l'.sorted) ∧ (∀ i x, l'.sorted[i]? = some x → diedAs (keepAt pl.keep) F (1 + cnt F (l'.sorted.take i)) x.2 (G x.2)) ∧ (∀ k, FsFoot q d' s p (.slice none 0 0) (filesOf G l'.sorted) k → FsFoot q d s p mv fl k ∨ w.heap.size ≤ k) ∧ GP (FsFoot q d s p mv fl) w w' := by
  have rf := h.row_fs h.mr (by decide)
  have rk := h.row_fs h.rk (by decide)
  refine (die_any pl.keep ml ls w (s := s) (F := F) (nm := nm) (hnm := hnm) (l' := l') (hl' := hl') h.fs h.rk hlk h.safe h.mr hm hn2 hl9 hF hok hcn h.nsq rf.1 rf.2.2 rk.1 rk.2.2 (fun k hk => by
    have := h.fb k (hsub k hk)
    exact ⟨this.1, this.2.2, h.row_files h.rk ⟨by decide, by decide, by decide⟩ k (hsub k hk)⟩)).mono ?_
  rintro e w' ⟨rfl, d', G, k1, k2, k3, k4, k5, k6, k7, k8, k9⟩
  have hpl := h.plan k9 (fun k hk => by
    rcases hk with e | e | e
    · exact .inl e
    · exact .inr (.inr (.inl e))
    · exact .inr (.inr (.inr (.inr (hsub k e)))))
  have hfoot : ∀ k, FsFoot q d' s p (.slice none 0 0) (filesOf G l'.sorted) k → FsFoot q d s p mv fl k ∨ w.heap.size ≤ k := by
    intro k hk
    rcases hk with e | e | e | e | e | e | e | e
    · exact .inl (.inl e)
    · right; omega
    · exact .inl (.inr (.inr (.inl e)))
    · simp [Value.ownBlock] at e
    · exact .inl (.inr (.inr (.inr (.inr (.inl e)))))
    · exact .inl (.inr (.inr (.inr (.inr (.inr (.inl e))))))
    · exact .inl (.inr (.inr (.inr (.inr (.inr (.inr (.inl e)))))))
    · have old : ∀ k, k ∈ filesBlocks fl → FsFoot q d s p mv fl k := fun k e => .inr (.inr (.inr (.inr (.inr (.inr (.inr e))))))
      obtain ⟨pp, hp, e2⟩ := mem_filesBlocks.1 e
      obtain ⟨x, hx, rfl⟩ := mem_filesOf.1 hp
      rcases e2 with e2 | e2
      · exact .inl (old k (hsub k (mem_filesBlocks.2 ⟨_, mem_filesOf.2 ⟨x, hx, rfl⟩, .inl e2⟩)))
      · rcases k7 x hx k e2 with e3 | e3
        · exact .inl (old k (hsub k (mem_filesBlocks.2 ⟨_, mem_filesOf.2 ⟨x, hx, rfl⟩, .inr e3⟩)))
        · exact .inr e3
  refine ⟨rfl, d', G, ⟨k1, h.pc, h.pr, hpl.1, hpl.2.1, hpl.2.2, k3, k2, World.ownsRow_nil _ _ _ _, k5, fun e => by have := h.safe.lt; omega, fun k hk => (hfoot k hk).elim (h.new k) (hn0 k)⟩, k6, hfoot, (GP.refl _ _).trans k9 (fun k hk => .inl ?_)⟩
  rcases hk with e | e | e
  · exact .inl e
  · exact .inr (.inr (.inl e))
  · exact .inr (.inr (.inr (.inr (.inr (.inr (.inr (hsub k e)))))))

theorem start_good (vk vf vu : Value) (pl2 : Pl) (F : Nat → FileV) (nm : Nat) (hnm : nm = dieN pl.keep ml) (l' : DirL) (hl' : l' = movesDone (ml.take nm) ls) (h : FsOk n0 w q false p pl ops d s mv ld ls ml fl) (hn0 : ∀ k, w.heap.size ≤ k → n0 k) (hlk : pl.keep.length < 4611686018427387904)
    (hm : okMoves (ml.take nm) ls) (hn2 : ml.length < 3518437208882) (hl9 : l'.length ≤ 3518437208881) (hF : FilesM w (filesOf F l'.sorted)) (hsub : ∀ k ∈ filesBlocks (filesOf F l'.sorted), k ∈ filesBlocks fl) (hok : ∀ x ∈ l'.sorted, okL (F x.2).safe (F x.2).chg ∧ (F x.2).safe.length ≤ 140737488355328) (hcn : 1 + cnt F l'.sorted < 4611686018427387904)
    (hA : ∀ W', GP n0 w W' → Ints W' vk pl2.keep ∧ Ints W' vf pl2.fail ∧ Ints W' vu pl2.full) (lk : pl2.keep.length * 8 ≤ 140737488351232) (lf : pl2.fail.length * 8 ≤ 140737488351232) (lu : pl2.full.length * 8 ≤ 140737488351232) :
    Calls Tryz.prog 25 #[.pointer (some ⟨q, 0, none⟩), .agg #[.int .i64 pl2.crash, vk, vf, vu, .int .i64 pl2.room]] w fun e w' => e = .returned (.int .i64 0) ∧ ∃ p' d' G, FsOk n0 w' q false p' pl2 0 d' s (.slice none 0 0) l' l' [] (filesOf G l'.sorted) ∧ (∀ i x, l'.sorted[i]? = some x → diedAs (keepAt pl.keep) F (1 + cnt F (l'.sorted.take i)) x.2 (G x.2)) ∧ (∀ k, FsFoot q d' s p' (.slice none 0 0) (filesOf G l'.sorted) k → FsFoot q d s p mv fl k ∨ w.heap.size ≤ k) ∧ GP (FsFoot q d s p mv fl) w w' := by
  have hql := h.fs.lt
  have hlt := h.lt
  have hqn := h.new q (.inl rfl)
  refine (start_gen false (fun W W' d' mv' => mv' = .slice none 0 0 ∧ ∃ G, FsOk n0 W' q true p pl ops d' s mv' l' l' [] (filesOf G l'.sorted) ∧ (∀ i x, l'.sorted[i]? = some x → diedAs (keepAt pl.keep) F (1 + cnt F (l'.sorted.take i)) x.2 (G x.2)) ∧ (∀ k, FsFoot q d' s p mv' (filesOf G l'.sorted) k → FsFoot q d s p mv fl k ∨ w.heap.size ≤ k) ∧ GP (FsFoot q d s p mv fl) W W')
    vk vf vu pl2 w h.fs (fun _ W hW => ?_) (fun e => by cases e) (fun W W' d' mv' hW hD => ?_) lk lf lu).mono ?_
  · refine (die_good F nm hnm l' hl' (h.grown hW) (fun k hk => hn0 k (Nat.le_trans hW.size hk)) hlk hm hn2 hl9 (hF.kept (P := fun _ => False) (GP.of hW (by simp)) (fun _ _ h => h)) hsub hok hcn).mono ?_
    rintro e w' ⟨rfl, d', G, k1, k2, k3, k4⟩
    exact ⟨rfl, d', _, k1.fs, rfl, G, k1, k2, fun k hk => (k3 k hk).imp id (fun h => Nat.le_trans hW.size h), k4⟩
  · obtain ⟨rfl, G, k1, k2, k3, k4⟩ := hD
    have gs := gset (World.grownBy.refl W' (some q)) 1 (.bool false)
    have gA : GP n0 w (W'.setCell ⟨q, 1, none⟩ (.bool false)) := (((GP.of (P := n0) hW (by simp)).trans k4 (fun k hk => .inl (h.new k hk))).step gs (fun k e => by cases e; exact .inl hqn))
    have hA2 := hA _ gA
    refine ⟨k4.size, hA2.1, hA2.2.1, hA2.2.2, fun x hx => ?_⟩
    exact (k4.block _ (lt_of_block hx) (fun hk => by have := hlt _ hk; omega)).trans hx
  · rintro e w' ⟨rfl, W, W', d', mv', k', f', u', g0, ⟨rfl, G, k1, k2, k3, k4⟩, hsz, r1, r2, r3, r4, g5⟩
    have hqf := k1.lt
    have g45 : GP (FsFoot q d s p mv fl) w w' := ((GP.of (P := FsFoot q d s p mv fl) g0 (by simp)).trans k4 (fun k hk => .inl hk)).trans g5 (fun k hk => .inl (.inl hk))
    have rowF := fun k hk => k1.fb k hk
    have big : ∀ {v : Value} {n : Nat} {xs : List Value}, w'.ownsRow W'.heap.size 3 1 v n xs → ∀ k, v.ownBlock = some k → w.heap.size ≤ k := fun {v n xs} hv k e => by
      have h1 := (World.ownsRow.lt hv k e).1
      have := k4.size
      have := g0.size
      omega
    have hfoot : ∀ k, FsFoot q d' s ⟨pl2.crash, k', f', u', pl2.room⟩ (.slice none 0 0) (filesOf G l'.sorted) k → FsFoot q d s p mv fl k ∨ w.heap.size ≤ k := by
      intro k hk
      rcases hk with e | e | e | e | e | e | e | e
      · exact k3 k (.inl e)
      · exact k3 k (.inr (.inl e))
      · exact k3 k (.inr (.inr (.inl e)))
      · simp [Value.ownBlock] at e
      · exact .inr (big r2 k e)
      · exact .inr (big r3 k e)
      · exact .inr (big r4 k e)
      · exact k3 k (.inr (.inr (.inr (.inr (.inr (.inr (.inr e)))))))
    exact ⟨rfl, _, d', G, ⟨r1, rfl, rfl, rowMono r2 (Nat.zero_le _), rowMono r3 (Nat.zero_le _), rowMono r4 (Nat.zero_le _), k1.dir.gp g5 k1.ndq, k1.safe.gp g5 k1.nsq, World.ownsRow_nil _ _ _ _, k1.files.kept g5 (fun k hk e => (rowF k hk).1 e), k1.nds, fun k hk => (hfoot k hk).elim (h.new k) (hn0 k)⟩, k2, hfoot, g45⟩
end
end Go.Proofs.YtafcgjbafihniaaGreat

/-
  LAYER 1 (fs): an operation's begin in every case; and that it ends the operation where it answers an error.
-/
namespace Go.Proofs.YtafcgjbafihniaaGreat
set_option maxRecDepth 100000
open Go.RowKit Go.Lib
attribute [local go_sem] Oper.semAt_some

theorem create_err (nm : ByteArray) (po : Option Addr) (x : Int) (R : World → Prop) (w : World) (hx : (x == 0) = false) (hb : Calls Tryz.prog 57 #[.pointer po] w fun e w' => e = .returned (.int .i64 x) ∧ R w') :
    Calls Tryz.prog 31 #[.pointer po, .string nm] w fun e w' => e = .returned (.int .i64 x) ∧ R w' := by
  go_enter Tryz.func31, Tryz.ntmps31
  go_wp2_with (go_at_call 57; refine hb.mono ?_; rintro e w' ⟨rfl, hR⟩)
  go_ret
  exact ⟨rfl, hR⟩
theorem append_err (nm : ByteArray) (a : Option Addr) (n c : Nat) (po : Option Addr) (x : Int) (R : World → Prop) (w : World) (hx : (x == 0) = false) (hb : Calls Tryz.prog 57 #[.pointer po] w fun e w' => e = .returned (.int .i64 x) ∧ R w') :
    Calls Tryz.prog 32 #[.pointer po, .string nm, .slice a n c] w fun e w' => e = .returned (.int .i64 x) ∧ R w' := by
  go_enter Tryz.func32, Tryz.ntmps32
  go_wp2_with (go_at_call 57; refine hb.mono ?_; rintro e w' ⟨rfl, hR⟩)
  go_ret
  exact ⟨rfl, hR⟩
theorem cut_err (nm : ByteArray) (n : Int) (po : Option Addr) (x : Int) (R : World → Prop) (w : World) (hx : (x == 0) = false) (hb : Calls Tryz.prog 57 #[.pointer po] w fun e w' => e = .returned (.int .i64 x) ∧ R w') :
    Calls Tryz.prog 33 #[.pointer po, .string nm, .int .i64 n] w fun e w' => e = .returned (.int .i64 x) ∧ R w' := by
  go_enter Tryz.func33, Tryz.ntmps33
  go_wp2_with (go_at_call 57; refine hb.mono ?_; rintro e w' ⟨rfl, hR⟩)
  go_ret
  exact ⟨rfl, hR⟩
theorem sync_err (nm : ByteArray) (po : Option Addr) (x : Int) (R : World → Prop) (w : World) (hx : (x == 0) = false) (hb : Calls Tryz.prog 57 #[.pointer po] w fun e w' => e = .returned (.int .i64 x) ∧ R w') :
    Calls Tryz.prog 23 #[.pointer po, .string nm] w fun e w' => e = .returned (.int .i64 x) ∧ R w' := by
  go_enter Tryz.func23, Tryz.ntmps23
  go_wp2_with (go_at_call 57; refine hb.mono ?_; rintro e w' ⟨rfl, hR⟩)
  go_ret
  exact ⟨rfl, hR⟩
theorem rename_err (nm nt : ByteArray) (po : Option Addr) (x : Int) (R : World → Prop) (w : World) (hx : (x == 0) = false) (hb : Calls Tryz.prog 57 #[.pointer po] w fun e w' => e = .returned (.int .i64 x) ∧ R w') :
    Calls Tryz.prog 34 #[.pointer po, .string nm, .string nt] w fun e w' => e = .returned (.int .i64 x) ∧ R w' := by
  go_enter Tryz.func34, Tryz.ntmps34
  go_wp2_with (go_at_call 57; refine hb.mono ?_; rintro e w' ⟨rfl, hR⟩)
  go_ret
  exact ⟨rfl, hR⟩
theorem remove_err (nm : ByteArray) (po : Option Addr) (x : Int) (R : World → Prop) (w : World) (hx : (x == 0) = false) (hb : Calls Tryz.prog 57 #[.pointer po] w fun e w' => e = .returned (.int .i64 x) ∧ R w') :
    Calls Tryz.prog 35 #[.pointer po, .string nm] w fun e w' => e = .returned (.int .i64 x) ∧ R w' := by
  go_enter Tryz.func35, Tryz.ntmps35
  go_wp2_with (go_at_call 57; refine hb.mono ?_; rintro e w' ⟨rfl, hR⟩)
  go_ret
  exact ⟨rfl, hR⟩
theorem syncDir_err  (po : Option Addr) (x : Int) (R : World → Prop) (w : World) (hx : (x == 0) = false) (hb : Calls Tryz.prog 57 #[.pointer po] w fun e w' => e = .returned (.int .i64 x) ∧ R w') :
    Calls Tryz.prog 24 #[.pointer po] w fun e w' => e = .returned (.int .i64 x) ∧ R w' := by
  go_enter Tryz.func24, Tryz.ntmps24
  go_wp2_with (go_at_call 57; refine hb.mono ?_; rintro e w' ⟨rfl, hR⟩)
  go_ret
  exact ⟨rfl, hR⟩

section
variable {n0 : Nat → Prop} {w : World} {q : Nat} {p : PlV} {pl : Pl} {ops : Int} {d s : Nat} {mv : Value} {ld ls : DirL} {ml : List Mv} {fl : List (Nat × FileV)}
/-- Of the dead. -/
theorem begin_dead {dead : Bool} (hdd : dead = true) (w : World) (h : FsOk n0 w q dead p pl ops d s mv ld ls ml fl) :
    Calls Tryz.prog 57 #[.pointer (some ⟨q, 0, none⟩)] w fun e w' => e = .returned (.int .i64 12) ∧ w = w' := by
  subst hdd
  have hm := dead_fs w h.fs
  clear h
  go_enter Tryz.func57, Tryz.ntmps57
  go_wp2_with (go_at_call 21; refine hm.mono ?_; rintro e w' ⟨rfl, rfl⟩)
  go_ret
  exact ⟨rfl, rfl⟩

/-- Counted, and nothing more. -/
theorem FsOk.counted (h : FsOk n0 w q false p pl ops d s mv ld ls ml fl) (x : Int) (m : Nat) : FsOk n0 ((w.setCell ⟨q, 7, none⟩ (.int .i64 x)).drewN m) q false p pl x d s mv ld ls ml fl ∧ w.grownBy ((w.setCell ⟨q, 7, none⟩ (.int .i64 x)).drewN m) (some q) := by
  have gF : w.grownBy ((w.setCell ⟨q, 7, none⟩ (.int .i64 x)).drewN m) (some q) := gdrewN (gset (World.grownBy.refl w (some q)) 7 (.int .i64 x)) m
  have g := GP.of (P := fun k => k = q) gF (fun k e => by cases e; rfl)
  have hpl := h.plan g (fun k hk => .inl hk)
  refine ⟨⟨h.fs.setOps x, h.pc, h.pr, hpl.1, hpl.2.1, hpl.2.2, h.dir.gp g h.ndq, h.safe.gp g h.nsq, own_gp h.mr g (fun k e e2 => (h.row_fs h.mr (by decide)).1 (by rw [← e2]; exact e)), h.files.kept g (fun k hk e => (h.fb k hk).1 e), h.nds, h.new⟩, gF⟩

/-- It neither dies nor is dead. -/
theorem begin_ok (h : FsOk n0 w q false p pl ops d s mv ld ls ml fl) (h0 : 0 ≤ ops) (h9 : ops < 4611686018427387904) (hc : ops + 1 ≠ pl.crash) (hsf : pl.fail.length < 4611686018427387904) :
    Calls Tryz.prog 57 #[.pointer (some ⟨q, 0, none⟩)] w fun e w' => e = .returned (.int .i64 (if pl.fail.contains (ops + 1) then 10 else 0)) ∧ ∃ m, w' = (w.setCell ⟨q, 7, none⟩ (.int .i64 (ops + 1))).drewN m :=
  begin_fs 0 pl.fail w h.fs h0 h9 (by rw [h.pc]; exact hc) h.rf (h.row_fs h.rf (by decide)).1 hsf

set_option maxHeartbeats 2000000 in
/-- It dies. -/
theorem begin_dies (F : Nat → FileV) (nm : Nat) (hnm : nm = dieN pl.keep ml) (l' : DirL) (hl' : l' = movesDone (ml.take nm) ls) (h : FsOk n0 w q false p pl ops d s mv ld ls ml fl) (hn0 : ∀ k, w.heap.size ≤ k → n0 k) (h0 : 0 ≤ ops) (h9 : ops < 4611686018427387904) (hc : ops + 1 = pl.crash) (hlk : pl.keep.length < 4611686018427387904)
    (hm : okMoves (ml.take nm) ls) (hn2 : ml.length < 3518437208882) (hl9 : l'.length ≤ 3518437208881) (hF : FilesM w (filesOf F l'.sorted)) (hsub : ∀ k ∈ filesBlocks (filesOf F l'.sorted), k ∈ filesBlocks fl) (hok : ∀ x ∈ l'.sorted, okL (F x.2).safe (F x.2).chg ∧ (F x.2).safe.length ≤ 140737488355328) (hcn : 1 + cnt F l'.sorted < 4611686018427387904) :
    Calls Tryz.prog 57 #[.pointer (some ⟨q, 0, none⟩)] w fun e w' => e = .returned (.int .i64 12) ∧ ∃ d' G, FsOk n0 w' q true p pl (ops + 1) d' s (.slice none 0 0) l' l' [] (filesOf G l'.sorted) ∧ (∀ i x, l'.sorted[i]? = some x → diedAs (keepAt pl.keep) F (1 + cnt F (l'.sorted.take i)) x.2 (G x.2)) ∧ (∀ k, FsFoot q d' s p (.slice none 0 0) (filesOf G l'.sorted) k → FsFoot q d s p mv fl k ∨ w.heap.size ≤ k) ∧ GP (FsFoot q d s p mv fl) w w' := by
  have hcd := h.counted (ops + 1) 0
  obtain ⟨W, hW⟩ : ∃ W, W = w.setCell ⟨q, 7, none⟩ (.int .i64 (ops + 1)) := ⟨_, rfl⟩
  rw [show (w.setCell ⟨q, 7, none⟩ (.int .i64 (ops + 1))).drewN 0 = W from hW.symm] at hcd
  obtain ⟨h1, g1⟩ := hcd
  have gq := GP.of (P := fun k => k = q) g1 (fun k e => by cases e; rfl)
  have hdie := die_good F nm hnm l' hl' h1 (fun k hk => hn0 k (Nat.le_trans g1.size hk)) hlk hm hn2 hl9 (hF.kept gq (fun k hk e => (h.fb k (hsub k hk)).1 e)) hsub hok hcn
  have hd := dead_fs w h.fs
  have ha := add_fs w h.fs h0 h9
  rw [← hW] at ha
  have hpc : p.c = ops + 1 := by rw [h.pc, hc]
  have c2 := h1.fs.crash
  rw [hpc] at c2
  clear h1 hc hpc hnm hl' hW
  go_enter Tryz.func57, Tryz.ntmps57
  go_wp2_with first
    | (go_at_call 21; refine hd.mono ?_; rintro e w' ⟨rfl, rfl⟩)
    | (go_at_call 84; refine ha.mono ?_; rintro e w' ⟨rfl, rfl⟩)
    | (go_at_call 62; refine hdie.mono ?_; clear hdie; rintro e w2 ⟨rfl, d', G, k1, k2, k3, k4⟩)
  go_ret
  exact ⟨rfl, d', G, k1, k2, fun k hk => (k3 k hk).imp id (fun h => Nat.le_trans g1.size h), (gq.trans (Q := fun _ => False) (GP.refl _ _) (fun _ h => h.elim)) |> fun _ => ((GP.refl _ _).trans gq (fun k e => .inl (.inl e))).trans k4 (fun k e => .inl e)⟩
end
end Go.Proofs.YtafcgjbafihniaaGreat

/-
  LAYER 1 (fs): a range over a directory, in whatever order, as a list of names met.
-/
namespace Go.Proofs.YtafcgjbafihniaaGreat
set_option maxRecDepth 100000
open Go.RowKit Go.Lib
open Go.Proofs (encStr)

def RangesD (w : World) (s r : Nat) (l : DirL) (cnt : Nat) (ss : List (List UInt8)) : Prop :=
  ∃ (n : Nat) (D : DataW Unit) (left : Lit → Bool), w.ranges Tryz.prog 9 ptrEl s r n D left cnt ∧ Collected D left ss ∧ (∀ x, Go.Maps.has D (.string x) = (l.look x).isSome ∧ D.atKey (.string x) (.lit (.int .i64 (-1))) = .lit (.int .i64 (ptrN (l.look x)))) ∧ l.names.Perm (strKeys D)

theorem DirM.ranged {W : World} {s : Nat} {l : DirL} (h : DirM W s l) : ∃ W', (Instr.range 69 (.map (some s))).run Tryz.prog W = .ok (.pointer (some ⟨W.heap.size, 0, none⟩)) W' ∧ RangesD W' s W.heap.size l l.length [] ∧ W.grownBy W' none ∧ W'.heap.size = W.heap.size + 1 := by
  obtain ⟨D, h3, h4, h5, h6⟩ := h.size
  obtain ⟨W', h7, h8, h9, h10⟩ := h3.range keyed_str Tryz.underlying69
  exact ⟨W', h7, ⟨_, D, _, by rw [← h4]; exact h8, Collected.start D, h6, h5⟩, h9, h10⟩

theorem RangesD.kept {w w' : World} {s r : Nat} {l : DirL} {cnt : Nat} {ss : List (List UInt8)} {q : Option Nat} (h : RangesD w s r l cnt ss) (g : w.grownBy w' q) (h1 : some s ≠ q) (h2 : some r ≠ q) : RangesD w' s r l cnt ss := by
  obtain ⟨n, D, left, a, b⟩ := h
  exact ⟨n, D, left, a.kept g h1 h2, b⟩
theorem RangesD.lt {w : World} {s r : Nat} {l : DirL} {cnt : Nat} {ss : List (List UInt8)} (h : RangesD w s r l cnt ss) : s < w.heap.size ∧ r < w.heap.size := by
  obtain ⟨n, D, left, a, _⟩ := h
  exact ⟨a.owns.lt, a.lt⟩

theorem RangesD.next {w : World} {s r : Nat} {l : DirL} {cnt : Nat} {ss : List (List UInt8)} (h : RangesD w s r l cnt ss) (ty : TypeId) :
    (ss.Perm l.names ∧ (Instr.next (.pointer (some ⟨r, 0, none⟩)) false ty).run Tryz.prog w = .ok (.tuple #[.bool false]) w) ∨
    ∃ x b w' cnt', l.look x = some b ∧ (Instr.next (.pointer (some ⟨r, 0, none⟩)) false ty).run Tryz.prog w = .ok (.tuple #[.bool true, encStr x, .pointer (some ⟨b, 0, none⟩)]) w' ∧
      RangesD w' s r l cnt' (ss ++ [x]) ∧ cnt' < cnt ∧ w.grownBy w' (some r) ∧ w'.heap.size = w.heap.size ∧ (Instr.entry (.pointer (some ⟨r, 0, none⟩))).run Tryz.prog w' = .ok (.tuple #[encStr x, .pointer (some ⟨b, 0, none⟩)]) w' := by
  obtain ⟨n, D, left, a, hC, hl, hp⟩ := h
  rcases a.next keyed_str ty with ⟨h0, hdone, hrun⟩ | ⟨key, v, kl, y, w', cnt', hkey, hlk, hv, hat, hrun, hrg, hlt, hgr, hsz, hen⟩
  · exact .inl ⟨(hC.perm a.owns keyed_str Tryz.underlying9 hdone).trans hp.symm, hrun⟩
  · obtain ⟨x, rfl, rfl, _⟩ := Maps.keyOf_str Tryz.underlying9 hkey
    have hC2 := hC.step hlk hat
    have hin : x ∈ ss ++ [x] := by simp
    have hhas : Go.Maps.has D (.string x) = true := (hC2.2 x |>.1 hin).1
    have hsome : (l.look x).isSome = true := by rw [← (hl x).1]; exact hhas
    obtain ⟨b, hb⟩ := Option.isSome_iff_exists.1 hsome
    have e1 := hat (.lit (.int .i64 (-1)))
    rw [(hl x).2, hb] at e1
    have hvv : v = .pointer (some ⟨b, 0, none⟩) := by
      obtain ⟨y1, y2⟩ := y
      dsimp only at e1
      subst e1
      exact ptrEl_inv (o := some b) hv
    subst hvv
    exact .inr ⟨x, b, w', cnt', hb, hrun, ⟨n, D, _, hrg, hC2, hl, hp⟩, hlt, hgr, hsz, hen⟩
end Go.Proofs.YtafcgjbafihniaaGreat
