/-
  LAYER 1 (fs): Start of a whole file system that lives: it dies first.
-/
import Derived.Test.YtfgmaeaojkfakaaGreatFGood
namespace Go.Proofs.YtfgmaeaojkfakaaGreat
set_option maxRecDepth 100000
open Go.RowKit Go.Lib
open Go.Proofs (encStr)

section
variable {n0 : Nat} {w : World} {q : Nat} {p : PlV} {pl : Pl} {ops : Int} {d s : Nat} {mv : Value} {ld ls : DirL} {ml : List Mv} {fl : List (Nat × FileV)}

/-- die, of a whole file system. -/
theorem die_good (F : Nat → FileV) (nm : Nat) (hnm : nm = dieN pl.keep ml) (l' : DirL) (hl' : l' = movesDone (ml.take nm) ls) (h : FsOk n0 w q false p pl ops d s mv ld ls ml fl) (hn0 : n0 ≤ w.heap.size) (hlk : pl.keep.length < 4611686018427387904)
    (hm : okMoves (ml.take nm) ls) (hn2 : ml.length < 3518437208882) (hl9 : l'.length ≤ 3518437208881) (hF : FilesM w (filesOf F l'.sorted)) (hsub : ∀ k ∈ filesBlocks (filesOf F l'.sorted), k ∈ filesBlocks fl) (hok : ∀ x ∈ l'.sorted, okL (F x.2).safe (F x.2).chg ∧ (F x.2).safe.length ≤ 140737488355328) (hcn : 1 + cnt F l'.sorted < 4611686018427387904) :
    Calls Tryz.prog 62 #[.pointer (some ⟨q, 0, none⟩)] w fun e w' => e = .returned (.tuple #[]) ∧ ∃ d' G, FsOk n0 w' q true p pl ops d' s (.slice none 0 0) l' l' [] (filesOf G l'.sorted) ∧ (∀ i x, l'.sorted[i]? = some x → diedAs (keepAt pl.keep) F (1 + cnt F (l'.sorted.take i)) x.2 (G x.2)) ∧ (∀ k, FsFoot q d' s p (.slice none 0 0) (filesOf G l'.sorted) k → FsFoot q d s p mv fl k ∨ w.heap.size ≤ k) ∧ GP (FsFoot q d s p mv fl) w w' := by
  have rf := h.row_fs h.mr (by decide)
  have rk := h.row_fs h.rk (by decide)
  refine (die_any pl.keep ml ls w (s := s) (F := F) (nm := nm) (hnm := hnm) (l' := l') (hl' := hl') h.fs h.rk hlk h.safe h.mr hm hn2 hl9 hF hok hcn h.nsq rf.1 rf.2.2 rk.1 rk.2.2 (fun k hk => by
    have := h.fb k (hsub k hk)
    exact ⟨this.1, this.2.2, h.row_files h.rk ⟨by decide, by decide, by decide⟩ k (hsub k hk)⟩)).mono ?_
  rintro e w' ⟨rfl, d', G, k1, k2, k3, k4, k5, k6, k7, k8, k9⟩
  have hpl := h.plan k9 (fun k hk => by
    rcases hk with e | e | e
    · exact .inl e
    · exact .inr (.inr (.inl e))
    · exact .inr (.inr (.inr (.inr (hsub k e)))))
  have hfoot : ∀ k, FsFoot q d' s p (.slice none 0 0) (filesOf G l'.sorted) k → FsFoot q d s p mv fl k ∨ w.heap.size ≤ k := by
    intro k hk
    rcases hk with e | e | e | e | e | e | e | e
    · exact .inl (.inl e)
    · right; omega
    · exact .inl (.inr (.inr (.inl e)))
    · simp [Value.ownBlock] at e
    · exact .inl (.inr (.inr (.inr (.inr (.inl e)))))
    · exact .inl (.inr (.inr (.inr (.inr (.inr (.inl e))))))
    · exact .inl (.inr (.inr (.inr (.inr (.inr (.inr (.inl e)))))))
    · have old : ∀ k, k ∈ filesBlocks fl → FsFoot q d s p mv fl k := fun k e => .inr (.inr (.inr (.inr (.inr (.inr (.inr e))))))
      obtain ⟨pp, hp, e2⟩ := mem_filesBlocks.1 e
      obtain ⟨x, hx, rfl⟩ := mem_filesOf.1 hp
      rcases e2 with e2 | e2
      · exact .inl (old k (hsub k (mem_filesBlocks.2 ⟨_, mem_filesOf.2 ⟨x, hx, rfl⟩, .inl e2⟩)))
      · rcases k7 x hx k e2 with e3 | e3
        · exact .inl (old k (hsub k (mem_filesBlocks.2 ⟨_, mem_filesOf.2 ⟨x, hx, rfl⟩, .inr e3⟩)))
        · exact .inr e3
  refine ⟨rfl, d', G, ⟨k1, h.pc, h.pr, hpl.1, hpl.2.1, hpl.2.2, k3, k2, World.ownsRow_nil _ _ _ _, k5, fun e => by have := h.safe.lt; omega, fun k hk => (hfoot k hk).elim (h.new k) (fun h => by omega)⟩, k6, hfoot, (GP.refl _ _).trans k9 (fun k hk => .inl ?_)⟩
  rcases hk with e | e | e
  · exact .inl e
  · exact .inr (.inr (.inl e))
  · exact .inr (.inr (.inr (.inr (.inr (.inr (.inr (hsub k e)))))))

theorem start_good (vk vf vu : Value) (pl2 : Pl) (F : Nat → FileV) (nm : Nat) (hnm : nm = dieN pl.keep ml) (l' : DirL) (hl' : l' = movesDone (ml.take nm) ls) (h : FsOk n0 w q false p pl ops d s mv ld ls ml fl) (hn0 : n0 ≤ w.heap.size) (hlk : pl.keep.length < 4611686018427387904)
    (hm : okMoves (ml.take nm) ls) (hn2 : ml.length < 3518437208882) (hl9 : l'.length ≤ 3518437208881) (hF : FilesM w (filesOf F l'.sorted)) (hsub : ∀ k ∈ filesBlocks (filesOf F l'.sorted), k ∈ filesBlocks fl) (hok : ∀ x ∈ l'.sorted, okL (F x.2).safe (F x.2).chg ∧ (F x.2).safe.length ≤ 140737488355328) (hcn : 1 + cnt F l'.sorted < 4611686018427387904)
    (hA : ∀ W', GP (fun k => n0 ≤ k) w W' → Ints W' vk pl2.keep ∧ Ints W' vf pl2.fail ∧ Ints W' vu pl2.full) (lk : pl2.keep.length * 8 ≤ 140737488351232) (lf : pl2.fail.length * 8 ≤ 140737488351232) (lu : pl2.full.length * 8 ≤ 140737488351232) :
    Calls Tryz.prog 25 #[.pointer (some ⟨q, 0, none⟩), .agg #[.int .i64 pl2.crash, vk, vf, vu, .int .i64 pl2.room]] w fun e w' => e = .returned (.int .i64 0) ∧ ∃ p' d' G, FsOk n0 w' q false p' pl2 0 d' s (.slice none 0 0) l' l' [] (filesOf G l'.sorted) ∧ (∀ i x, l'.sorted[i]? = some x → diedAs (keepAt pl.keep) F (1 + cnt F (l'.sorted.take i)) x.2 (G x.2)) ∧ (∀ k, FsFoot q d' s p' (.slice none 0 0) (filesOf G l'.sorted) k → FsFoot q d s p mv fl k ∨ w.heap.size ≤ k) ∧ GP (FsFoot q d s p mv fl) w w' := by
  have hql := h.fs.lt
  have hlt := h.lt
  have hqn := h.new q (.inl rfl)
  refine (start_gen false (fun W W' d' mv' => mv' = .slice none 0 0 ∧ ∃ G, FsOk n0 W' q true p pl ops d' s mv' l' l' [] (filesOf G l'.sorted) ∧ (∀ i x, l'.sorted[i]? = some x → diedAs (keepAt pl.keep) F (1 + cnt F (l'.sorted.take i)) x.2 (G x.2)) ∧ (∀ k, FsFoot q d' s p mv' (filesOf G l'.sorted) k → FsFoot q d s p mv fl k ∨ w.heap.size ≤ k) ∧ GP (FsFoot q d s p mv fl) W W')
    vk vf vu pl2 w h.fs (fun _ W hW => ?_) (fun e => by cases e) (fun W W' d' mv' hW hD => ?_) lk lf lu).mono ?_
  · refine (die_good F nm hnm l' hl' (h.grown hW) (Nat.le_trans hn0 hW.size) hlk hm hn2 hl9 (hF.kept (P := fun _ => False) (GP.of hW (by simp)) (fun _ _ h => h)) hsub hok hcn).mono ?_
    rintro e w' ⟨rfl, d', G, k1, k2, k3, k4⟩
    exact ⟨rfl, d', _, k1.fs, rfl, G, k1, k2, fun k hk => (k3 k hk).imp id (fun h => Nat.le_trans hW.size h), k4⟩
  · obtain ⟨rfl, G, k1, k2, k3, k4⟩ := hD
    have gs := gset (World.grownBy.refl W' (some q)) 1 (.bool false)
    have gA : GP (fun k => n0 ≤ k) w (W'.setCell ⟨q, 1, none⟩ (.bool false)) := (((GP.of (P := fun k => n0 ≤ k) hW (by simp)).trans k4 (fun k hk => .inl (h.new k hk))).step gs (fun k e => by cases e; exact .inl hqn))
    have hA2 := hA _ gA
    refine ⟨k4.size, hA2.1, hA2.2.1, hA2.2.2, fun x hx => ?_⟩
    exact (k4.block _ (lt_of_block hx) (fun hk => by have := hlt _ hk; omega)).trans hx
  · rintro e w' ⟨rfl, W, W', d', mv', k', f', u', g0, ⟨rfl, G, k1, k2, k3, k4⟩, hsz, r1, r2, r3, r4, g5⟩
    have hqf := k1.lt
    have g45 : GP (FsFoot q d s p mv fl) w w' := ((GP.of (P := FsFoot q d s p mv fl) g0 (by simp)).trans k4 (fun k hk => .inl hk)).trans g5 (fun k hk => .inl (.inl hk))
    have rowF := fun k hk => k1.fb k hk
    have big : ∀ {v : Value} {n : Nat} {xs : List Value}, w'.ownsRow W'.heap.size 3 1 v n xs → ∀ k, v.ownBlock = some k → w.heap.size ≤ k := fun {v n xs} hv k e => by
      have h1 := (World.ownsRow.lt hv k e).1
      have := k4.size
      have := g0.size
      omega
    have hfoot : ∀ k, FsFoot q d' s ⟨pl2.crash, k', f', u', pl2.room⟩ (.slice none 0 0) (filesOf G l'.sorted) k → FsFoot q d s p mv fl k ∨ w.heap.size ≤ k := by
      intro k hk
      rcases hk with e | e | e | e | e | e | e | e
      · exact k3 k (.inl e)
      · exact k3 k (.inr (.inl e))
      · exact k3 k (.inr (.inr (.inl e)))
      · simp [Value.ownBlock] at e
      · exact .inr (big r2 k e)
      · exact .inr (big r3 k e)
      · exact .inr (big r4 k e)
      · exact k3 k (.inr (.inr (.inr (.inr (.inr (.inr (.inr e)))))))
    exact ⟨rfl, _, d', G, ⟨r1, rfl, rfl, rowMono r2 (Nat.zero_le _), rowMono r3 (Nat.zero_le _), rowMono r4 (Nat.zero_le _), k1.dir.gp g5 k1.ndq, k1.safe.gp g5 k1.nsq, World.ownsRow_nil _ _ _ _, k1.files.kept g5 (fun k hk e => (rowF k hk).1 e), k1.nds, fun k hk => (hfoot k hk).elim (h.new k) (fun h => by omega)⟩, k2, hfoot, g45⟩
end
end Go.Proofs.YtfgmaeaojkfakaaGreat
