/-
  LAYER 1 (fs): a whole file system in memory; its blocks are apart by their kinds.
-/
import Derived.Test.YtfgmaeaojkfakaaGreatFStart
import Derived.Test.YtfgmaeaojkfakaaGreatFCloneA
namespace Go.Proofs.YtfgmaeaojkfakaaGreat
set_option maxRecDepth 100000
open Go.RowKit Go.Lib
open Go.Proofs (encStr)

/-- A file system in memory, all of it in blocks from n0 on. -/
structure FsOk (n0 : Nat) (w : World) (q : Nat) (dead : Bool) (p : PlV) (pl : Pl) (ops : Int) (d s : Nat) (mv : Value) (ld ls : DirL) (ml : List Mv) (fl : List (Nat × FileV)) : Prop where
  fs : FsAt w q dead p ops d s mv
  pc : p.c = pl.crash
  pr : p.r = pl.room
  rk : w.ownsRow 0 3 1 p.k pl.keep.length (pl.keep.map intV)
  rf : w.ownsRow 0 3 1 p.f pl.fail.length ((inOrd pl.fail).map intV)
  ru : w.ownsRow 0 3 1 p.u pl.full.length ((inOrd pl.full).map intV)
  dir : DirM w d ld
  safe : DirM w s ls
  mr : w.ownsRow 0 110 3 mv ml.length (mvCells ml)
  files : FilesM w fl
  nds : d ≠ s
  new : ∀ k, k = q ∨ k = d ∨ k = s ∨ mv.ownBlock = some k ∨ p.k.ownBlock = some k ∨ p.f.ownBlock = some k ∨ p.u.ownBlock = some k ∨ k ∈ filesBlocks fl → n0 ≤ k

def FsFoot (q d s : Nat) (p : PlV) (mv : Value) (fl : List (Nat × FileV)) (k : Nat) : Prop := k = q ∨ k = d ∨ k = s ∨ mv.ownBlock = some k ∨ p.k.ownBlock = some k ∨ p.f.ownBlock = some k ∨ p.u.ownBlock = some k ∨ k ∈ filesBlocks fl

theorem DirM.obj {w : World} {d : Nat} {l : DirL} (h : DirM w d l) : ∃ es c, w.heap[d]? = some (.map es c) := by
  obtain ⟨_, _, n, D, ⟨es, clock, hb, _⟩, _⟩ := h
  exact ⟨es, clock, hb⟩
theorem own_obj {w : World} {B e s n : Nat} {v : Value} {xs : List Value} (h : w.ownsRow B e s v n xs) : ∀ k, v.ownBlock = some k → ∃ c fr, w.heap[k]? = some (.cells c e fr) := by
  intro k hk
  obtain ⟨_, ⟨rfl, _⟩ | ⟨g, cap, cur, rfl, _, hg, _⟩⟩ := h
  · simp [Value.ownBlock] at hk
  · simp only [Value.ownBlock, Option.some.injEq] at hk
    subst hk
    exact ⟨_, _, hg⟩
theorem FilesM.obj {w : World} {fl : List (Nat × FileV)} (h : FilesM w fl) : ∀ k ∈ filesBlocks fl, ∃ c e fr, w.heap[k]? = some (.cells c e fr) ∧ (e = 96 ∨ e = 5 ∨ e = 140) := by
  intro k hk
  obtain ⟨x, hx, e | e⟩ := mem_filesBlocks.1 hk
  · rw [e]
    exact ⟨_, _, _, (h.1 x hx).1, .inl rfl⟩
  · have hf := h.1 x hx
    rcases FileV.mem e with e | e | e
    · obtain ⟨c, fr, h2⟩ := own_obj hf.2.1 k e
      exact ⟨c, _, fr, h2, .inr (.inl rfl)⟩
    · obtain ⟨c, fr, h2⟩ := own_obj hf.2.2.1 k e
      exact ⟨c, _, fr, h2, .inr (.inl rfl)⟩
    · obtain ⟨c, fr, h2⟩ := own_obj hf.2.2.2.1 k e
      exact ⟨c, _, fr, h2, .inr (.inr rfl)⟩
/-- Blocks of unlike kinds are apart. -/
theorem apart_obj {w : World} {k : Nat} {o o' : Obj} (h : w.heap[k]? = some o) (h' : w.heap[k]? = some o') : o = o' := by
  rw [h] at h'
  simpa using h'

section
variable {n0 : Nat} {w : World} {q : Nat} {dead : Bool} {p : PlV} {pl : Pl} {ops : Int} {d s : Nat} {mv : Value} {ld ls : DirL} {ml : List Mv} {fl : List (Nat × FileV)}
theorem FsOk.ndq (h : FsOk n0 w q dead p pl ops d s mv ld ls ml fl) : d ≠ q := by
  rintro rfl
  obtain ⟨es, c, h2⟩ := h.dir.obj
  cases apart_obj h2 (show _ = _ from h.fs)
theorem FsOk.nsq (h : FsOk n0 w q dead p pl ops d s mv ld ls ml fl) : s ≠ q := by
  rintro rfl
  obtain ⟨es, c, h2⟩ := h.safe.obj
  cases apart_obj h2 (show _ = _ from h.fs)
theorem FsOk.row_fs (h : FsOk n0 w q dead p pl ops d s mv ld ls ml fl) {B e z n : Nat} {v : Value} {xs : List Value} (hv : w.ownsRow B e z v n xs) (he : e ≠ 72) : v.ownBlock ≠ some q ∧ v.ownBlock ≠ some d ∧ v.ownBlock ≠ some s := by
  refine ⟨fun e2 => ?_, fun e2 => ?_, fun e2 => ?_⟩
  · obtain ⟨c, fr, h2⟩ := own_obj hv _ e2
    have := apart_obj h2 (show _ = _ from h.fs)
    simp at this
    exact he this.2.1
  · obtain ⟨c, fr, h2⟩ := own_obj hv _ e2
    obtain ⟨es, c2, h3⟩ := h.dir.obj
    cases apart_obj h2 h3
  · obtain ⟨c, fr, h2⟩ := own_obj hv _ e2
    obtain ⟨es, c2, h3⟩ := h.safe.obj
    cases apart_obj h2 h3
theorem FsOk.row_files (h : FsOk n0 w q dead p pl ops d s mv ld ls ml fl) {B e z n : Nat} {v : Value} {xs : List Value} (hv : w.ownsRow B e z v n xs) (he : e ≠ 96 ∧ e ≠ 5 ∧ e ≠ 140) : ∀ k ∈ filesBlocks fl, v.ownBlock ≠ some k := by
  intro k hk e2
  obtain ⟨c, fr, h2⟩ := own_obj hv _ e2
  obtain ⟨c3, e3, fr3, h3, h4⟩ := h.files.obj k hk
  have := apart_obj h2 h3
  simp at this
  obtain ⟨_, rfl, _⟩ := this
  rcases h4 with rfl | rfl | rfl
  · exact he.1 rfl
  · exact he.2.1 rfl
  · exact he.2.2 rfl
theorem FsOk.fb (h : FsOk n0 w q dead p pl ops d s mv ld ls ml fl) : ∀ k ∈ filesBlocks fl, k ≠ q ∧ k ≠ d ∧ k ≠ s := by
  intro k hk
  obtain ⟨c3, e3, fr3, h3, h4⟩ := h.files.obj k hk
  refine ⟨fun e => ?_, fun e => ?_, fun e => ?_⟩
  · subst e
    have := apart_obj h3 (show _ = _ from h.fs)
    simp at this
    obtain ⟨_, rfl, _⟩ := this
    rcases h4 with h4 | h4 | h4 <;> cases h4
  · subst e
    obtain ⟨es, c2, h5⟩ := h.dir.obj
    cases apart_obj h3 h5
  · subst e
    obtain ⟨es, c2, h5⟩ := h.safe.obj
    cases apart_obj h3 h5
/-- It is kept where its blocks are. -/
theorem FsOk.kept {w' : World} {P : Nat → Prop} (h : FsOk n0 w q dead p pl ops d s mv ld ls ml fl) (g : GP P w w') (hP : ∀ k, FsFoot q d s p mv fl k → ¬ P k) : FsOk n0 w' q dead p pl ops d s mv ld ls ml fl where
  fs := h.fs.gp g (hP q (.inl rfl))
  pc := h.pc
  pr := h.pr
  rk := own_gp h.rk g (fun k e => hP k (.inr (.inr (.inr (.inr (.inl e))))))
  rf := own_gp h.rf g (fun k e => hP k (.inr (.inr (.inr (.inr (.inr (.inl e)))))))
  ru := own_gp h.ru g (fun k e => hP k (.inr (.inr (.inr (.inr (.inr (.inr (.inl e))))))))
  dir := h.dir.gp g (hP d (.inr (.inl rfl)))
  safe := h.safe.gp g (hP s (.inr (.inr (.inl rfl))))
  mr := own_gp h.mr g (fun k e => hP k (.inr (.inr (.inr (.inl e)))))
  files := h.files.kept g (fun k hk => hP k (.inr (.inr (.inr (.inr (.inr (.inr (.inr hk))))))))
  nds := h.nds
  new := h.new
theorem FsOk.grown {w' : World} (h : FsOk n0 w q dead p pl ops d s mv ld ls ml fl) (g : w.grownBy w' none) : FsOk n0 w' q dead p pl ops d s mv ld ls ml fl :=
  h.kept (P := fun _ => False) (GP.of g (by simp)) (fun _ _ h => h)
theorem FsOk.lt (h : FsOk n0 w q dead p pl ops d s mv ld ls ml fl) : ∀ k, FsFoot q d s p mv fl k → k < w.heap.size := by
  intro k hk
  rcases hk with rfl | rfl | rfl | e | e | e | e | e
  · exact h.fs.lt
  · exact h.dir.lt
  · exact h.safe.lt
  · exact (World.ownsRow.lt h.mr k e).2
  · exact (World.ownsRow.lt h.rk k e).2
  · exact (World.ownsRow.lt h.rf k e).2
  · exact (World.ownsRow.lt h.ru k e).2
  · exact h.files.lt k e
end
end Go.Proofs.YtfgmaeaojkfakaaGreat
