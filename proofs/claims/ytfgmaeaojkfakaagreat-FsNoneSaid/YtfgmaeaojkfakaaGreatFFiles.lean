/-
  LAYER 1 (fs): Files and Safe; many files in memory, their blocks apart.
-/
import Derived.Test.YtfgmaeaojkfakaaGreatFTell
namespace Go.Proofs.YtfgmaeaojkfakaaGreat
set_option maxRecDepth 100000
open Go.RowKit Go.Lib
open Go.Proofs (encStr)
attribute [local go_sem] Oper.semAt_some

section
variable {q : Nat} {p : PlV} {ops : Int} {d s : Nat} {mv : Value}
set_option maxHeartbeats 4000000 in
theorem files_dead (w : World) (h : FsAt w q true p ops d s mv) :
    Calls Tryz.prog 22 #[.pointer (some ⟨q, 0, none⟩)] w fun e w' => e = .returned (.slice none 0 0) ∧ w = w' := by
  have hdead := dead_fs w h
  go_enter Tryz.func22, Tryz.ntmps22
  go_wp2_with (refine hdead.mono ?_; rintro e w2 ⟨rfl, rfl⟩)
  go_ret
  exact ⟨rfl, rfl⟩

set_option maxHeartbeats 4000000 in
theorem files_any (l : DirL) (F : Nat → FileV) (w : World) (h : FsAt w q false p ops d s mv) (hd : DirM w d l) (hf : ∀ x b, l.look x = some b → FileAt w b (F b) ∧ (F b).data.length ≤ 140737488355328) (hlim : l.length ≤ 3518437208881) :
    Calls Tryz.prog 22 #[.pointer (some ⟨q, 0, none⟩)] w fun e w' => ∃ v rows, e = .returned v ∧ FilesAt w' w.heap.size v rows ∧ rows.map (fun r => (r.1, r.2.2)) = l.sorted.map (fun x => (x.1, (F x.2).data)) ∧ w.grownBy w' none := by
  have hdead := dead_fs w h
  have x8 := h.dir
  have ht := tell_any _ _ _ selData d l F w hd hf hlim
  go_enter Tryz.func22, Tryz.ntmps22
  go_wp2_with first
    | (go_at_call 21; refine hdead.mono ?_; rintro e w2 ⟨rfl, rfl⟩)
    | (go_at_call 55; refine ht.mono ?_; rintro e w2 ⟨v, rows, rfl, k1, k2, k3⟩)
  go_ret
  exact ⟨v, rows, rfl, k1, k2, k3⟩

set_option maxHeartbeats 4000000 in
theorem safe_any {dead : Bool} (l : DirL) (F : Nat → FileV) (w : World) (h : FsAt w q dead p ops d s mv) (hd : DirM w s l) (hf : ∀ x b, l.look x = some b → FileAt w b (F b) ∧ (F b).safe.length ≤ 140737488355328) (hlim : l.length ≤ 3518437208881) :
    Calls Tryz.prog 27 #[.pointer (some ⟨q, 0, none⟩)] w fun e w' => ∃ v rows, e = .returned v ∧ FilesAt w' w.heap.size v rows ∧ rows.map (fun r => (r.1, r.2.2)) = l.sorted.map (fun x => (x.1, (F x.2).safe)) ∧ w.grownBy w' none := by
  have hdead := isMade_fs w h
  have x8 := h.safe
  have ht := tell_any _ _ _ selSafe s l F w hd hf hlim
  go_enter Tryz.func27, Tryz.ntmps27
  go_wp2_with first
    | (go_at_call 54; refine hdead.mono ?_; rintro e w2 ⟨rfl, rfl⟩)
    | (go_at_call 55; refine ht.mono ?_; rintro e w2 ⟨v, rows, rfl, k1, k2, k3⟩)
  go_ret
  exact ⟨v, rows, rfl, k1, k2, k3⟩
end

/-- Files in memory, whose blocks are apart. -/
def filesBlocks (fs : List (Nat × FileV)) : List Nat := fs.flatMap (fun p => p.1 :: p.2.blocks)
def FilesM (w : World) (fs : List (Nat × FileV)) : Prop := (∀ p ∈ fs, FileAt w p.1 p.2) ∧ (filesBlocks fs).Nodup
theorem filesBlocks_append (a b : List (Nat × FileV)) : filesBlocks (a ++ b) = filesBlocks a ++ filesBlocks b := by simp [filesBlocks]
theorem filesBlocks_cons (p : Nat × FileV) (b : List (Nat × FileV)) : filesBlocks (p :: b) = p.1 :: (p.2.blocks ++ filesBlocks b) := by simp [filesBlocks]
theorem mem_filesBlocks {fs : List (Nat × FileV)} {k : Nat} : k ∈ filesBlocks fs ↔ ∃ p ∈ fs, k = p.1 ∨ k ∈ p.2.blocks := by
  unfold filesBlocks
  rw [List.mem_flatMap]
  simp [List.mem_cons]
theorem FileAt.blocks_lt {w : World} {b : Nat} {f : FileV} (h : FileAt w b f) : ∀ k ∈ f.blocks, k < w.heap.size := by
  intro k hk
  rcases FileV.mem hk with e | e | e
  · exact (Owns.lt h.2.1 k e).2
  · exact (Owns.lt h.2.2.1 k e).2
  · exact (World.ownsRow.lt h.2.2.2.1 k e).2
theorem FilesM.lt {w : World} {fs : List (Nat × FileV)} (h : FilesM w fs) : ∀ k ∈ filesBlocks fs, k < w.heap.size := by
  intro k hk
  obtain ⟨p, hp, e | e⟩ := mem_filesBlocks.1 hk
  · rw [e]; exact (h.1 p hp).lt
  · exact (h.1 p hp).blocks_lt k e
theorem FilesM.kept {w w' : World} {fs : List (Nat × FileV)} {P : Nat → Prop} (h : FilesM w fs) (g : GP P w w') (hP : ∀ k ∈ filesBlocks fs, ¬ P k) : FilesM w' fs :=
  ⟨fun p hp => (h.1 p hp).kept g (hP _ (mem_filesBlocks.2 ⟨p, hp, .inl rfl⟩)) (fun k hk => hP _ (mem_filesBlocks.2 ⟨p, hp, .inr hk⟩)), h.2⟩
/-- One file is turned, and blocks beside all of them. -/
theorem FilesM.turn {w w' : World} {A B : List (Nat × FileV)} {b : Nat} {f f' : FileV} {P : Nat → Prop} (h : FilesM w (A ++ (b, f) :: B)) (g : GP P w w') (hP : ∀ k, P k → k = b ∨ k ∈ f.blocks ∨ k ∉ filesBlocks (A ++ B)) (hf : FileAt w' b f') (hb : ∀ k ∈ f'.blocks, k ∈ f.blocks ∨ w.heap.size ≤ k) : FilesM w' (A ++ (b, f') :: B) := by
  have hlt := h.lt
  obtain ⟨h1, h2⟩ := h
  have hn := h2
  rw [filesBlocks_append, filesBlocks_cons, List.nodup_append] at hn
  obtain ⟨nA, nB, nAB⟩ := hn
  have nB2 := List.nodup_cons.1 nB
  dsimp only at nB2
  have nfB := List.nodup_append.1 nB2.2
  rw [filesBlocks_append, filesBlocks_cons] at hlt
  have oA : ∀ k ∈ filesBlocks A, k ≠ b ∧ k ∉ f.blocks := fun k hk => ⟨fun e => nAB k hk b (by simp) e, fun hkf => nAB k hk k (by simp [hkf]) rfl⟩
  have oB : ∀ k ∈ filesBlocks B, k ≠ b ∧ k ∉ f.blocks := fun k hk => ⟨fun e => nB2.1 (by rw [← e]; simp [hk]), fun hkf => nfB.2.2 k hkf k hk rfl⟩
  have notP : ∀ k ∈ filesBlocks (A ++ B), ¬ P k := fun k hk hp => by
    have o : k ≠ b ∧ k ∉ f.blocks := by
      rw [filesBlocks_append, List.mem_append] at hk
      exact hk.elim (oA k) (oB k)
    rcases hP k hp with e | e | e
    · exact o.1 e
    · exact o.2 e
    · exact e hk
  refine ⟨fun p hp => ?_, ?_⟩
  · rcases List.mem_append.1 hp with hp | hp
    · exact (h1 p (by simp [hp])).kept g (notP _ (mem_filesBlocks.2 ⟨p, by simp [hp], .inl rfl⟩)) (fun k hk => notP _ (mem_filesBlocks.2 ⟨p, by simp [hp], .inr hk⟩))
    · rcases List.mem_cons.1 hp with rfl | hp
      · exact hf
      · exact (h1 p (by simp [hp])).kept g (notP _ (mem_filesBlocks.2 ⟨p, by simp [hp], .inl rfl⟩)) (fun k hk => notP _ (mem_filesBlocks.2 ⟨p, by simp [hp], .inr hk⟩))
  · have hnf := hf.2.2.2.2
    have hfb := List.nodup_cons.1 hnf
    rw [filesBlocks_append, filesBlocks_cons, List.nodup_append]
    have ltA : ∀ k ∈ filesBlocks A, k < w.heap.size := fun k hk => hlt k (by simp [hk])
    have ltB : ∀ k ∈ filesBlocks B, k < w.heap.size := fun k hk => hlt k (by simp [hk])
    refine ⟨nA, List.nodup_cons.2 ⟨?_, List.nodup_append.2 ⟨hfb.2, nfB.2.1, fun k hk k' hk' e => ?_⟩⟩, fun k hk k' hk' e => ?_⟩
    · dsimp only
      rw [List.mem_append, not_or]
      exact ⟨hfb.1, fun hk => (oB _ hk).1 rfl⟩
    · subst e
      rcases hb k hk with h3 | h3
      · exact (oB k hk').2 h3
      · have := ltB k hk'; omega
    · subst e
      dsimp only at hk'
      rw [List.mem_cons, List.mem_append] at hk'
      rcases hk' with e | e | e
      · exact (oA k hk).1 e
      · rcases hb k e with h3 | h3
        · exact (oA k hk).2 h3
        · have := ltA k hk; omega
      · exact nAB k hk k (by simp [e]) rfl
end Go.Proofs.YtfgmaeaojkfakaaGreat
