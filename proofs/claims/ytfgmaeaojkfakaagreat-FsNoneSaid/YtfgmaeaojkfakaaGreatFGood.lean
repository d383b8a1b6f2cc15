/-
  LAYER 1 (fs): the operations on a whole file system, where nothing fails, is full or dies.
-/
import Derived.Test.YtfgmaeaojkfakaaGreatFOk
import Derived.Test.YtfgmaeaojkfakaaGreatFAppend
import Derived.Test.YtfgmaeaojkfakaaGreatFSync
import Derived.Test.YtfgmaeaojkfakaaGreatFSyncDir
namespace Go.Proofs.YtfgmaeaojkfakaaGreat
set_option maxRecDepth 100000
open Go.RowKit Go.Lib
open Go.Proofs (encStr)

section
variable {n0 : Nat} {w : World} {q : Nat} {dead : Bool} {p : PlV} {pl : Pl} {ops : Int} {d s : Nat} {mv : Value} {ld ls : DirL} {ml : List Mv} {fl : List (Nat × FileV)}
theorem FsOk.plan {w' : World} {P : Nat → Prop} (h : FsOk n0 w q dead p pl ops d s mv ld ls ml fl) (g : GP P w w') (hP : ∀ k, P k → k = q ∨ k = d ∨ k = s ∨ mv.ownBlock = some k ∨ k ∈ filesBlocks fl) :
    w'.ownsRow 0 3 1 p.k pl.keep.length (pl.keep.map intV) ∧ w'.ownsRow 0 3 1 p.f pl.fail.length ((inOrd pl.fail).map intV) ∧ w'.ownsRow 0 3 1 p.u pl.full.length ((inOrd pl.full).map intV) := by
  have key : ∀ {v : Value} {n : Nat} {xs : List Value}, w.ownsRow 0 3 1 v n xs → w'.ownsRow 0 3 1 v n xs := fun {v n xs} hv => own_gp hv g (fun k e hp => by
    have h1 := h.row_fs hv (by decide)
    rcases hP k hp with h2 | h2 | h2 | h2 | h2
    · exact h1.1 (by rw [← h2]; exact e)
    · exact h1.2.1 (by rw [← h2]; exact e)
    · exact h1.2.2 (by rw [← h2]; exact e)
    · exact own_own hv h.mr (by decide) k e h2
    · exact h.row_files hv ⟨by decide, by decide, by decide⟩ k h2 e)
  exact ⟨key h.rk, key h.rf, key h.ru⟩
theorem FsOk.foot_ge (h : FsOk n0 w q dead p pl ops d s mv ld ls ml fl) : ∀ k, FsFoot q d s p mv fl k → n0 ≤ k := h.new

theorem new_good (vk vf vu : Value) (pl : Pl) (w : World) (hk : Ints w vk pl.keep) (hf : Ints w vf pl.fail) (hu : Ints w vu pl.full)
    (lk : pl.keep.length * 8 ≤ 140737488351232) (lf : pl.fail.length * 8 ≤ 140737488351232) (lu : pl.full.length * 8 ≤ 140737488351232) :
    Calls Tryz.prog 12 #[.agg #[.int .i64 pl.crash, vk, vf, vu, .int .i64 pl.room]] w fun e w' => ∃ q d s p, e = .returned (.pointer (some ⟨q, 0, none⟩)) ∧ FsOk w.heap.size w' q false p pl 0 d s (.slice none 0 0) [] [] [] [] ∧ w.grownBy w' none := by
  refine (new_any vk vf vu pl w hk hf hu lk lf lu).mono ?_
  rintro e w' ⟨q, d, s, k', f', u', rfl, n1, n2, n3, n4, n5, n6, n7, n8, n9, n10, g1⟩
  refine ⟨q, d, s, _, rfl, ⟨n1, rfl, rfl, rowMono n8 (Nat.zero_le _), rowMono n9 (Nat.zero_le _), rowMono n10 (Nat.zero_le _), DirM.fresh n2, DirM.fresh n3, World.ownsRow_nil _ _ _ _, ⟨by simp, by simp [filesBlocks]⟩, n4, fun k hk => ?_⟩, g1⟩
  rcases hk with rfl | rfl | rfl | e | e | e | e | e
  · exact n5
  · exact n6
  · exact n7
  · simp [Value.ownBlock] at e
  · exact (World.ownsRow.lt n8 k e).1
  · exact (World.ownsRow.lt n9 k e).1
  · exact (World.ownsRow.lt n10 k e).1
  · simp [filesBlocks] at e

theorem create_good (nm : ByteArray) (h : FsOk n0 w q false p pl ops d s mv ld ls ml fl) (hn0 : n0 ≤ w.heap.size) (h0 : 0 ≤ ops) (h9 : ops < 4611686018427387904) (hc : ops + 1 ≠ pl.crash) (hsf : pl.fail.length < 4611686018427387904) (hsu : pl.full.length < 4611686018427387904)
    (hnf : pl.fail.contains (ops + 1) = false) (hnu : pl.full.contains (ops + 1) = false) (hs : nm.size ≤ maxLen) (hnm : okName nm = true) (hnm0 : nm.size ≠ 0) (hl : ld.look nm.data.toList = none) (hl9 : ld.length < 4096) (hn2 : ml.length < 3518437208882) :
    Calls Tryz.prog 31 #[.pointer (some ⟨q, 0, none⟩), .string nm] w fun e w' => e = .returned (.int .i64 0) ∧ ∃ mv', FsOk n0 w' q false p pl (ops + 1) d s mv' (ld.put nm.data.toList w.heap.size) ls (ml ++ [⟨⟨#[]⟩, nm, some w.heap.size⟩]) (fl ++ [(w.heap.size, ⟨.slice none 0 0, .slice none 0 0, .slice none 0 0, [], [], []⟩)]) ∧ GP (FsFoot q d s p mv fl) w w' := by
  have rf := h.row_fs h.mr (by decide)
  refine (create_ok 0 pl.fail pl.full nm ml ld w h.fs h0 h9 (by rw [h.pc]; exact hc) h.rf h.ru (h.row_fs h.rf (by decide)).1 (h.row_fs h.ru (by decide)).1 hsf hsu hnf hnu h.dir hs hnm hnm0 hl hl9 h.mr hn2 h.ndq rf.1 rf.2.1).mono ?_
  rintro e w' ⟨rfl, mv', k1, k2, k3, k4, k5, k6⟩
  have hpl := h.plan k6 (fun k hk => by
    rcases hk with e | e | e
    · exact .inl e
    · exact .inr (.inl e)
    · exact .inr (.inr (.inr (.inl e))))
  have hnf2 : ∀ k ∈ filesBlocks fl, ¬ (k = q ∨ k = d ∨ mv.ownBlock = some k) := fun k hk hp => by
    have := h.fb k hk
    rcases hp with e | e | e
    · exact this.1 e
    · exact this.2.1 e
    · exact h.row_files h.mr ⟨by decide, by decide, by decide⟩ k hk e
  have hlt := h.files.lt
  have hown : ∀ k, mv'.ownBlock = some k → mv.ownBlock = some k ∨ w.heap.size ≤ k := fun k e => by
    rcases k5 with e2 | ⟨k2, e2, h2⟩
    · exact .inl (by rw [← e2]; exact e)
    · rw [e] at e2; cases e2; exact .inr h2
  have hs' := h.safe.gp k6 (by rintro (e | e | e); exact h.nsq e; exact h.nds e.symm; exact rf.2.2 e)
  have hfl := h.files.kept k6 hnf2
  refine ⟨rfl, mv', ⟨k1, h.pc, h.pr, hpl.1, hpl.2.1, hpl.2.2, k2, hs', by rw [List.length_append]; exact k4, ⟨fun x hx => ?_, ?_⟩, h.nds, fun k hk => ?_⟩, (GP.refl _ _).trans k6 (fun k hk => .inl ?_)⟩
  · rcases List.mem_append.1 hx with hx | hx
    · exact hfl.1 x hx
    · simp at hx
      subst hx
      exact k3
  · rw [filesBlocks_append, List.nodup_append]
    refine ⟨hfl.2, by simp [filesBlocks, FileV.blocks, Value.ownBlock], fun a ha b hb e => ?_⟩
    simp [filesBlocks, FileV.blocks, Value.ownBlock] at hb
    have := hlt a ha
    omega
  · rcases hk with e | e | e | e | e | e | e | e
    · exact h.new k (.inl e)
    · exact h.new k (.inr (.inl e))
    · exact h.new k (.inr (.inr (.inl e)))
    · rcases hown k e with e | e
      · exact h.new k (.inr (.inr (.inr (.inl e))))
      · omega
    · exact h.new k (.inr (.inr (.inr (.inr (.inl e)))))
    · exact h.new k (.inr (.inr (.inr (.inr (.inr (.inl e))))))
    · exact h.new k (.inr (.inr (.inr (.inr (.inr (.inr (.inl e)))))))
    · rw [filesBlocks_append, List.mem_append] at e
      rcases e with e | e
      · exact h.new k (.inr (.inr (.inr (.inr (.inr (.inr (.inr e)))))))
      · simp [filesBlocks, FileV.blocks, Value.ownBlock] at e
        omega
  · rcases hk with e | e | e
    · exact .inl e
    · exact .inr (.inl e)
    · exact .inr (.inr (.inr (.inl e)))

/-- One file turned, all else kept: what is left of a file system whose block, and whose file b, an operation turned. -/
theorem FsOk.file {w' : World} {P : Nat → Prop} {ops' : Int} {A B : List (Nat × FileV)} {b : Nat} {f f' : FileV} (h : FsOk n0 w q dead p pl ops d s mv ld ls ml (A ++ (b, f) :: B)) (hn0 : n0 ≤ w.heap.size) (g : GP P w w') (hP : ∀ k, P k → k = q ∨ k = b ∨ k ∈ f.blocks) (hq : FsAt w' q dead p ops' d s mv) (hf : FileAt w' b f') (hb : ∀ k ∈ f'.blocks, k ∈ f.blocks ∨ w.heap.size ≤ k) :
    FsOk n0 w' q dead p pl ops' d s mv ld ls ml (A ++ (b, f') :: B) ∧ GP (FsFoot q d s p mv (A ++ (b, f) :: B)) w w' := by
  have hin : ∀ k, k = b ∨ k ∈ f.blocks → k ∈ filesBlocks (A ++ (b, f) :: B) := fun k hk => mem_filesBlocks.2 ⟨(b, f), by simp, hk⟩
  have hPf : ∀ k, P k → k = q ∨ k ∈ filesBlocks (A ++ (b, f) :: B) := fun k hk => (hP k hk).imp id (hin k)
  have hpl := h.plan g (fun k hk => (hPf k hk).imp id (fun e => .inr (.inr (.inr e))))
  have r1 := h.row_fs h.mr (by decide)
  have hfb := h.fb
  refine ⟨⟨hq, h.pc, h.pr, hpl.1, hpl.2.1, hpl.2.2, h.dir.gp g (fun e => ?_), h.safe.gp g (fun e => ?_), own_gp h.mr g (fun k e e2 => ?_), h.files.turn g (fun k hk => ?_) hf hb, h.nds, fun k hk => ?_⟩, (GP.refl _ _).trans g (fun k hk => .inl ?_)⟩
  · rcases hPf d e with e | e
    · exact h.ndq e
    · exact (hfb d e).2.1 rfl
  · rcases hPf s e with e | e
    · exact h.nsq e
    · exact (hfb s e).2.2 rfl
  · rcases hPf k e2 with e3 | e3
    · exact r1.1 (by rw [← e3]; exact e)
    · exact h.row_files h.mr ⟨by decide, by decide, by decide⟩ k e3 e
  · rcases hP k hk with e | e | e
    · right; right
      intro hk2
      obtain ⟨x, hx, e2⟩ := mem_filesBlocks.1 hk2
      exact (hfb k (mem_filesBlocks.2 ⟨x, by
        rcases List.mem_append.1 hx with hx | hx
        · simp [hx]
        · simp [hx], e2⟩)).1 e
    · exact .inl e
    · exact .inr (.inl e)
  · rcases hk with e | e | e | e | e | e | e | e
    · exact h.new k (.inl e)
    · exact h.new k (.inr (.inl e))
    · exact h.new k (.inr (.inr (.inl e)))
    · exact h.new k (.inr (.inr (.inr (.inl e))))
    · exact h.new k (.inr (.inr (.inr (.inr (.inl e)))))
    · exact h.new k (.inr (.inr (.inr (.inr (.inr (.inl e))))))
    · exact h.new k (.inr (.inr (.inr (.inr (.inr (.inr (.inl e)))))))
    · have old : ∀ k, k ∈ filesBlocks (A ++ (b, f) :: B) → n0 ≤ k := fun k e => h.new k (.inr (.inr (.inr (.inr (.inr (.inr (.inr e)))))))
      obtain ⟨x, hx, e2⟩ := mem_filesBlocks.1 e
      rcases List.mem_append.1 hx with hx | hx
      · exact old k (mem_filesBlocks.2 ⟨x, by simp [hx], e2⟩)
      · rcases List.mem_cons.1 hx with rfl | hx
        · rcases e2 with e2 | e2
          · exact old k (hin k (.inl e2))
          · rcases hb k e2 with e3 | e3
            · exact old k (hin k (.inr e3))
            · omega
        · exact old k (mem_filesBlocks.2 ⟨x, by simp [hx], e2⟩)
  · rcases hPf k hk with e | e
    · exact .inl e
    · exact .inr (.inr (.inr (.inr (.inr (.inr (.inr e))))))

theorem FsOk.fileq {A B : List (Nat × FileV)} {b : Nat} {f : FileV} (h : FsOk n0 w q dead p pl ops d s mv ld ls ml (A ++ (b, f) :: B)) : FileAt w b f ∧ b ≠ q ∧ f.sv.ownBlock ≠ some q ∧ f.dv.ownBlock ≠ some q ∧ f.cv.ownBlock ≠ some q := by
  have hf := h.files.1 (b, f) (by simp)
  have hin : ∀ k, k = b ∨ k ∈ f.blocks → k ∈ filesBlocks (A ++ (b, f) :: B) := fun k hk => mem_filesBlocks.2 ⟨(b, f), by simp, hk⟩
  exact ⟨hf, (h.fb b (hin b (.inl rfl))).1, fun e => (h.fb q (hin q (.inr (FileV.mem_s e)))).1 rfl, fun e => (h.fb q (hin q (.inr (FileV.mem_d e)))).1 rfl, fun e => (h.fb q (hin q (.inr (FileV.mem_c e)))).1 rfl⟩

theorem append_good (nm : ByteArray) (bv : Value) (bs : List UInt8) {A B : List (Nat × FileV)} {b : Nat} {f : FileV} (h : FsOk n0 w q false p pl ops d s mv ld ls ml (A ++ (b, f) :: B)) (hn0 : n0 ≤ w.heap.size) (h0 : 0 ≤ ops) (h9 : ops < 4611686018427387904) (hc : ops + 1 ≠ pl.crash) (hsf : pl.fail.length < 4611686018427387904) (hsu : pl.full.length < 4611686018427387904)
    (hnf : pl.fail.contains (ops + 1) = false) (hnu : pl.full.contains (ops + 1) = false) (hs : nm.size ≤ maxLen) (hl : ld.look nm.data.toList = some b) (hn : f.chg.length < 8796093022207) (hb : Reads w bv bs) (hbv : bs ≠ [] → bv.ownBlock ≠ some q) (hne : bs ≠ []) (hlen : bs.length + f.data.length ≤ 268435456) (hroom : pl.room ≤ 0) :
    Calls Tryz.prog 32 #[.pointer (some ⟨q, 0, none⟩), .string nm, bv] w fun e w' => e = .returned (.int .i64 0) ∧ ∃ f', FsOk n0 w' q false p pl (ops + 1) d s mv ld ls ml (A ++ (b, f') :: B) ∧ f'.safe = f.safe ∧ f'.data = f.data ++ bs ∧ f'.chg = f.chg ++ [.add ⟨bs.toArray⟩] ∧ GP (FsFoot q d s p mv (A ++ (b, f) :: B)) w w' := by
  obtain ⟨hf, hbq⟩ := h.fileq
  refine (append_ok 0 pl.fail pl.full nm ld b f bv bs w h.fs h0 h9 (by rw [h.pc]; exact hc) h.rf h.ru (h.row_fs h.rf (by decide)).1 (h.row_fs h.ru (by decide)).1 hsf hsu hnf hnu h.dir hs hl hf hn hb hbv hne hlen (by rw [h.pr]; exact hroom) h.ndq hbq).mono ?_
  rintro e w' ⟨rfl, f', k1, k2, k3, k4, k5, k6, k7⟩
  have := h.file hn0 k5 (fun k hk => hk) k6 k1 k7
  exact ⟨rfl, f', this.1, k2, k3, k4, this.2⟩

theorem sync_good (nm : ByteArray) {A B : List (Nat × FileV)} {b : Nat} {f : FileV} (h : FsOk n0 w q false p pl ops d s mv ld ls ml (A ++ (b, f) :: B)) (hn0 : n0 ≤ w.heap.size) (h0 : 0 ≤ ops) (h9 : ops < 4611686018427387904) (hc : ops + 1 ≠ pl.crash) (hsf : pl.fail.length < 4611686018427387904)
    (hnf : pl.fail.contains (ops + 1) = false) (hs : nm.size ≤ maxLen) (hl : ld.look nm.data.toList = some b) (hok : okL f.safe f.chg) (hn : f.chg.length < 4611686018427387904) :
    Calls Tryz.prog 23 #[.pointer (some ⟨q, 0, none⟩), .string nm] w fun e w' => e = .returned (.int .i64 0) ∧ ∃ f', FsOk n0 w' q false p pl (ops + 1) d s mv ld ls ml (A ++ (b, f') :: B) ∧ f'.safe = settleP (fun _ => -1) 0 true f.safe f.chg ∧ f'.data = f.data ∧ f'.chg = [] ∧ GP (FsFoot q d s p mv (A ++ (b, f) :: B)) w w' := by
  obtain ⟨hf, hbq⟩ := h.fileq
  refine (sync_ok 0 pl.fail nm ld b f w h.fs h0 h9 (by rw [h.pc]; exact hc) h.rf (h.row_fs h.rf (by decide)).1 hsf hnf h.dir hs hl hf hok hn h.ndq hbq).mono ?_
  rintro e w' ⟨rfl, sv, k1, k2, k3, k4⟩
  have := h.file hn0 k2 (fun k hk => by
    rcases hk with e | e | e
    · exact .inl e
    · exact .inr (.inl e)
    · exact .inr (.inr (FileV.mem_s e))) k3 k1 (fun k hk => by
    rcases FileV.mem hk with e | e | e
    · exact (k4 k e).imp FileV.mem_s id
    · exact .inl (FileV.mem_d e)
    · simp [Value.ownBlock] at e)
  exact ⟨rfl, _, this.1, rfl, rfl, rfl, this.2⟩

theorem syncDir_good (h : FsOk n0 w q false p pl ops d s mv ld ls ml fl) (h0 : 0 ≤ ops) (h9 : ops < 4611686018427387904) (hc : ops + 1 ≠ pl.crash) (hsf : pl.fail.length < 4611686018427387904) (hsu : pl.full.length < 4611686018427387904)
    (hnf : pl.fail.contains (ops + 1) = false) (hnu : pl.full.contains (ops + 1) = false) (hm : okMoves ml ls) (hn2 : ml.length < 3518437208882) :
    Calls Tryz.prog 24 #[.pointer (some ⟨q, 0, none⟩)] w fun e w' => e = .returned (.int .i64 0) ∧ FsOk n0 w' q false p pl (ops + 1) d s (.slice none 0 0) ld (movesDone ml ls) [] fl ∧ GP (FsFoot q d s p mv fl) w w' := by
  have rf := h.row_fs h.mr (by decide)
  refine (syncDir_ok 0 pl.fail pl.full ml ls w h.fs h0 h9 (by rw [h.pc]; exact hc) h.rf h.ru (h.row_fs h.rf (by decide)).1 (h.row_fs h.ru (by decide)).1 hsf hsu hnf hnu h.safe h.mr hm hn2 h.nsq rf.1 rf.2.2).mono ?_
  rintro e w' ⟨rfl, k1, k2, k3⟩
  have hpl := h.plan k3 (fun k hk => by
    rcases hk with e | e
    · exact .inl e
    · exact .inr (.inr (.inl e)))
  refine ⟨rfl, ⟨k1, h.pc, h.pr, hpl.1, hpl.2.1, hpl.2.2, h.dir.gp k3 (by rintro (e | e); exact h.ndq e; exact h.nds e), k2, World.ownsRow_nil _ _ _ _, h.files.kept k3 (fun k hk e => by
    have := h.fb k hk
    rcases e with e | e
    · exact this.1 e
    · exact this.2.2 e), h.nds, fun k hk => ?_⟩, (GP.refl _ _).trans k3 (fun k hk => .inl ?_)⟩
  · rcases hk with e | e | e | e | e | e | e | e
    · exact h.new k (.inl e)
    · exact h.new k (.inr (.inl e))
    · exact h.new k (.inr (.inr (.inl e)))
    · simp [Value.ownBlock] at e
    · exact h.new k (.inr (.inr (.inr (.inr (.inl e)))))
    · exact h.new k (.inr (.inr (.inr (.inr (.inr (.inl e))))))
    · exact h.new k (.inr (.inr (.inr (.inr (.inr (.inr (.inl e)))))))
    · exact h.new k (.inr (.inr (.inr (.inr (.inr (.inr (.inr e)))))))
  · rcases hk with e | e
    · exact .inl e
    · exact .inr (.inr (.inl e))
end
end Go.Proofs.YtfgmaeaojkfakaaGreat
