/-
  LAYER 1 (fs): a whole file system, turned step by step: its flag, its count, one more file, a directory, a move. (For Clone.)
-/
import Derived.Test.YtafcgjbafihniaaGreatFA11
namespace Go.Proofs.YtafcgjbafihniaaGreat
set_option maxRecDepth 100000
open Go.RowKit Go.Lib
open Go.Proofs (encStr)

section
variable {n0 : Nat → Prop} {w w' : World} {q : Nat} {dead : Bool} {p : PlV} {pl : Pl} {ops : Int} {d s : Nat} {mv : Value} {ld ls : DirL} {ml : List Mv} {fl : List (Nat × FileV)}

/-- Its own block is turned, and nothing else. -/
theorem FsOk.block (h : FsOk n0 w q dead p pl ops d s mv ld ls ml fl) {dead' : Bool} {ops' : Int} (hq : FsAt w' q dead' p ops' d s mv) (g : w.grownBy w' (some q)) : FsOk n0 w' q dead' p pl ops' d s mv ld ls ml fl := by
  have g := GP.of (P := fun k => k = q) g (fun k e => by cases e; rfl)
  have hpl := h.plan g (fun k hk => .inl hk)
  exact ⟨hq, h.pc, h.pr, hpl.1, hpl.2.1, hpl.2.2, h.dir.gp g h.ndq, h.safe.gp g h.nsq, own_gp h.mr g (fun k e e2 => (h.row_fs h.mr (by decide)).1 (by rw [← e2]; exact e)), h.files.kept g (fun k hk e => (h.fb k hk).1 e), h.nds, h.new⟩

/-- One more file, of new blocks. -/
theorem FsOk.filed {b : Nat} {f : FileV} (h : FsOk n0 w q dead p pl ops d s mv ld ls ml fl) (hn0 : ∀ k, w.heap.size ≤ k → n0 k) (g : w.grownBy w' none) (hf : FileAt w' b f) (hb : w.heap.size ≤ b) (hbl : ∀ k ∈ f.blocks, w.heap.size ≤ k) : FsOk n0 w' q dead p pl ops d s mv ld ls ml (fl ++ [(b, f)]) := by
  have h2 := h.grown g
  have hlt := h.files.lt
  refine ⟨h2.fs, h2.pc, h2.pr, h2.rk, h2.rf, h2.ru, h2.dir, h2.safe, h2.mr, ⟨fun x hx => ?_, ?_⟩, h2.nds, fun k hk => ?_⟩
  · rcases List.mem_append.1 hx with hx | hx
    · exact h2.files.1 x hx
    · simp at hx
      subst hx
      exact hf
  · rw [filesBlocks_append, List.nodup_append]
    refine ⟨h2.files.2, by rw [filesBlocks_cons]; simpa [filesBlocks] using hf.2.2.2.2, fun a ha c hc e => ?_⟩
    have := hlt a ha
    rw [filesBlocks_cons] at hc
    simp [filesBlocks] at hc
    rcases hc with hc | hc
    · omega
    · have := hbl c hc; omega
  · rcases hk with e | e | e | e | e | e | e | e
    · exact h.new k (.inl e)
    · exact h.new k (.inr (.inl e))
    · exact h.new k (.inr (.inr (.inl e)))
    · exact h.new k (.inr (.inr (.inr (.inl e))))
    · exact h.new k (.inr (.inr (.inr (.inr (.inl e)))))
    · exact h.new k (.inr (.inr (.inr (.inr (.inr (.inl e))))))
    · exact h.new k (.inr (.inr (.inr (.inr (.inr (.inr (.inl e)))))))
    · rw [filesBlocks_append, List.mem_append] at e
      rcases e with e | e
      · exact h.new k (.inr (.inr (.inr (.inr (.inr (.inr (.inr e)))))))
      · rw [filesBlocks_cons] at e
        simp [filesBlocks] at e
        rcases e with e | e
        · exact hn0 k (by omega)
        · exact hn0 k (hbl k e)

/-- Its safe directory is turned. -/
theorem FsOk.putS {ls' : DirL} (h : FsOk n0 w q dead p pl ops d s mv ld ls ml fl) (hs : DirM w' s ls') (g : w.grownBy w' (some s)) : FsOk n0 w' q dead p pl ops d s mv ld ls' ml fl := by
  have g := GP.of (P := fun k => k = s) g (fun k e => by cases e; rfl)
  have rp := fun {v : Value} {n : Nat} {xs : List Value} (hv : w.ownsRow 0 3 1 v n xs) => own_gp hv g (fun k e e2 => (h.row_fs hv (by decide)).2.2 (by rw [← e2]; exact e))
  exact ⟨h.fs.gp g (fun e => h.nsq e.symm), h.pc, h.pr, rp h.rk, rp h.rf, rp h.ru, h.dir.gp g h.nds, hs, own_gp h.mr g (fun k e e2 => (h.row_fs h.mr (by decide)).2.2 (by rw [← e2]; exact e)), h.files.kept g (fun k hk e => (h.fb k hk).2.2 e), h.nds, h.new⟩

/-- Its directory is turned. -/
theorem FsOk.putD {ld' : DirL} (h : FsOk n0 w q dead p pl ops d s mv ld ls ml fl) (hd : DirM w' d ld') (g : w.grownBy w' (some d)) : FsOk n0 w' q dead p pl ops d s mv ld' ls ml fl := by
  have g := GP.of (P := fun k => k = d) g (fun k e => by cases e; rfl)
  have rp := fun {v : Value} {n : Nat} {xs : List Value} (hv : w.ownsRow 0 3 1 v n xs) => own_gp hv g (fun k e e2 => (h.row_fs hv (by decide)).2.1 (by rw [← e2]; exact e))
  exact ⟨h.fs.gp g (fun e => h.ndq e.symm), h.pc, h.pr, rp h.rk, rp h.rf, rp h.ru, hd, h.safe.gp g (fun e => h.nds e.symm), own_gp h.mr g (fun k e e2 => (h.row_fs h.mr (by decide)).2.1 (by rw [← e2]; exact e)), h.files.kept g (fun k hk e => (h.fb k hk).2.1 e), h.nds, h.new⟩

/-- A move is done, and kept. -/
theorem FsOk.moved {ld' : DirL} {ml' : List Mv} {mv' : Value} (h : FsOk n0 w q dead p pl ops d s mv ld ls ml fl) (hn0 : ∀ k, w.heap.size ≤ k → n0 k) (hq : FsAt w' q dead p ops d s mv') (hd : DirM w' d ld') (hr : w'.ownsRow 0 110 3 mv' ml'.length (mvCells ml')) (hown : mv'.ownBlock = mv.ownBlock ∨ ∃ k, mv'.ownBlock = some k ∧ w.heap.size ≤ k)
    (g : GP (fun k => k = q ∨ k = d ∨ mv.ownBlock = some k) w w') : FsOk n0 w' q dead p pl ops d s mv' ld' ls ml' fl := by
  have rf := h.row_fs h.mr (by decide)
  have hpl := h.plan g (fun k hk => by
    rcases hk with e | e | e
    · exact .inl e
    · exact .inr (.inl e)
    · exact .inr (.inr (.inr (.inl e))))
  refine ⟨hq, h.pc, h.pr, hpl.1, hpl.2.1, hpl.2.2, hd, h.safe.gp g (by rintro (e | e | e); exact h.nsq e; exact h.nds e.symm; exact rf.2.2 e), hr, h.files.kept g (fun k hk hp => ?_), h.nds, fun k hk => ?_⟩
  · have := h.fb k hk
    rcases hp with e | e | e
    · exact this.1 e
    · exact this.2.1 e
    · exact h.row_files h.mr ⟨by decide, by decide, by decide⟩ k hk e
  · rcases hk with e | e | e | e | e | e | e | e
    · exact h.new k (.inl e)
    · exact h.new k (.inr (.inl e))
    · exact h.new k (.inr (.inr (.inl e)))
    · rcases hown with e2 | ⟨k2, e2, h2⟩
      · exact h.new k (.inr (.inr (.inr (.inl (by rw [← e2]; exact e)))))
      · rw [e] at e2; cases e2; exact hn0 _ h2
    · exact h.new k (.inr (.inr (.inr (.inr (.inl e)))))
    · exact h.new k (.inr (.inr (.inr (.inr (.inr (.inl e))))))
    · exact h.new k (.inr (.inr (.inr (.inr (.inr (.inr (.inl e)))))))
    · exact h.new k (.inr (.inr (.inr (.inr (.inr (.inr (.inr e)))))))
end

theorem RangesD.nodup {w : World} {s r : Nat} {l : DirL} {cnt : Nat} {ss : List (List UInt8)} (h : RangesD w s r l cnt ss) : ss.Nodup := by
  obtain ⟨n, D, left, a, hC, _⟩ := h
  exact hC.1

/-- Two files that hold the same. -/
def SameF (g f : FileV) : Prop := g.safe = f.safe ∧ g.data = f.data ∧ g.chg = f.chg

theorem DirL.put_fresh (l : DirL) (x : List UInt8) (b : Nat) (h : x ∉ l.names) : l.put x b = l ++ [(x, b)] := by
  unfold DirL.put DirL.drop
  rw [List.filter_eq_self.2]
  intro a ha
  simp only [Bool.not_eq_true', beq_eq_false_iff_ne]
  exact fun e => h (by rw [← e]; exact List.mem_map.2 ⟨a, ha, rfl⟩)

/-- A range over the safe files, each of which is cloned into both directories. -/
def CloneI (n0 : Nat) (w0 : World) (s : Nat) (ls : DirL) (F : Nat → FileV) (gq : Nat) (dead : Bool) (p : PlV) (pl : Pl) (ops : Int) (gd gs r cnt : Nat) (L : DirL) (W : World) : Prop :=
  ∃ (G : Nat → FileV), RangesD W s r ls cnt L.names ∧ FsOk (fun k => n0 ≤ k) W gq dead p pl ops gd gs (.slice none 0 0) L L [] (filesOf G L) ∧ w0.grownBy W none ∧ (∀ x ∈ L, ∃ b, ls.look x.1 = some b ∧ SameF (G x.2) (F b)) ∧ (∀ k, FsFoot gq gd gs p (.slice none 0 0) (filesOf G L) k → k ≠ r) ∧ r < W.heap.size ∧ n0 ≤ r

theorem CloneI.round {n0 : Nat} {w0 : World} {s : Nat} {ls : DirL} {F : Nat → FileV} {gq : Nat} {dead : Bool} {p : PlV} {pl : Pl} {ops : Int} {gd gs r cnt : Nat} {W W1 W2 W3 W4 : World} {L : DirL} {G : Nat → FileV} {x : List UInt8} {b b9 : Nat} {g9 : FileV}
    (hw0 : w0.heap.size ≤ n0) (hO : FsOk (fun k => n0 ≤ k) W gq dead p pl ops gd gs (.slice none 0 0) L L [] (filesOf G L)) (h0 : w0.grownBy W none) (hL : ∀ x ∈ L, ∃ b, ls.look x.1 = some b ∧ SameF (G x.2) (F b)) (hne : ∀ k, FsFoot gq gd gs p (.slice none 0 0) (filesOf G L) k → k ≠ r) (hr : r < W.heap.size) (hrn : n0 ≤ r)
    (hlk : ls.look x = some b) (hR : RangesD W1 s r ls cnt (L.names ++ [x])) (g1 : W.grownBy W1 (some r)) (g2 : W1.grownBy W2 none) (hf : FileAt W2 b9 g9) (hs9 : SameF g9 (F b)) (hb9 : W1.heap.size ≤ b9) (hbl : ∀ k ∈ g9.blocks, W1.heap.size ≤ k)
    (hS : DirM W3 gs (L.put x b9)) (g3 : W2.grownBy W3 (some gs)) (hD : DirM W4 gd (L.put x b9)) (g4 : W3.grownBy W4 (some gd)) (hns : s < w0.heap.size) :
    CloneI n0 w0 s ls F gq dead p pl ops gd gs r cnt (L ++ [(x, b9)]) W4 := by
  have hnd := hR.nodup
  have hx : x ∉ L.names := fun h => (List.nodup_append.1 hnd).2.2 x h x (by simp) rfl
  rw [DirL.put_fresh L x b9 hx] at hS hD
  have hn0 : n0 ≤ W.heap.size := by omega
  have s1 := g1.size
  have s2 := g2.size
  have s3 := g3.size
  have s4 := g4.size
  have hgd : n0 ≤ gd := hO.new gd (.inr (.inl rfl))
  have hgs : n0 ≤ gs := hO.new gs (.inr (.inr (.inl rfl)))
  have hO1 : FsOk (fun k => n0 ≤ k) W1 gq dead p pl ops gd gs (.slice none 0 0) L L [] (filesOf G L) := hO.kept (P := fun k => k = r) (GP.of g1 (fun k e => by cases e; rfl)) (fun k hk => hne k hk)
  have hlt1 := hO1.lt
  have hO4 := (((hO1.filed (fun k hk => by omega) g2 hf hb9 hbl).putS hS g3).putD hD g4)
  have hbL : ∀ y ∈ L, y.2 ≠ b9 := fun y hy e => by
    have := hO1.files.lt y.2 (mem_filesBlocks.2 ⟨_, mem_filesOf.2 ⟨y, hy, rfl⟩, .inl rfl⟩)
    omega
  have e1 : filesOf (fun k => if k = b9 then g9 else G k) (L ++ [(x, b9)]) = filesOf G L ++ [(b9, g9)] := by
    rw [filesOf_append, filesOf_congr (F := fun k => if k = b9 then g9 else G k) (G := G) (fun y hy => by simp [hbL y hy])]
    simp [filesOf]
  have hRr := hR.kept g2 (by simp) (by simp)
  have hrd : r ≠ gd := fun e => hne gd (.inr (.inl rfl)) e.symm
  have hrs : r ≠ gs := fun e => hne gs (.inr (.inr (.inl rfl))) e.symm
  have hRr := (hRr.kept g3 (by simp; omega) (by simp; exact hrs)).kept g4 (by simp; omega) (by simp; exact hrd)
  refine ⟨fun k => if k = b9 then g9 else G k, by rw [show DirL.names (L ++ [(x, b9)]) = L.names ++ [x] by simp [DirL.names]]; exact hRr, by rw [e1]; exact hO4, ?_, fun y hy => ?_, fun k hk => ?_, by omega, hrn⟩
  · exact gnew (gnew (gnew h0 g1 (fun k e => by cases e; exact .inl (by omega))|>.trans g2) g3 (fun k e => by cases e; exact .inl (by omega))) g4 (fun k e => by cases e; exact .inl (by omega))
  · rcases List.mem_append.1 hy with hy | hy
    · obtain ⟨c, h1, h2⟩ := hL y hy
      exact ⟨c, h1, by simpa [hbL y hy] using h2⟩
    · simp at hy
      subst hy
      exact ⟨b, hlk, by simpa using hs9⟩
  · rw [e1] at hk
    rcases hk with e | e | e | e | e | e | e | e
    · exact hne k (.inl e)
    · exact hne k (.inr (.inl e))
    · exact hne k (.inr (.inr (.inl e)))
    · exact hne k (.inr (.inr (.inr (.inl e))))
    · exact hne k (.inr (.inr (.inr (.inr (.inl e)))))
    · exact hne k (.inr (.inr (.inr (.inr (.inr (.inl e))))))
    · exact hne k (.inr (.inr (.inr (.inr (.inr (.inr (.inl e)))))))
    · rw [filesBlocks_append, List.mem_append] at e
      rcases e with e | e
      · exact hne k (.inr (.inr (.inr (.inr (.inr (.inr (.inr e)))))))
      · rw [filesBlocks_cons] at e
        simp [filesBlocks] at e
        rcases e with e | e
        · omega
        · have := hbl k e; omega
end Go.Proofs.YtafcgjbafihniaaGreat

/-
  LAYER 1 (fs): moves done to two directories that hold the same names. (For Clone.)
-/
namespace Go.Proofs.YtafcgjbafihniaaGreat
set_option maxRecDepth 100000
open Go.RowKit Go.Lib
open Go.Proofs (encStr)

theorem movesDone_add : ∀ (ml : List Mv) (m : Mv) (l : DirL), movesDone (ml ++ [m]) l = m.done (movesDone ml l)
  | [], _, _ => rfl
  | a :: ml, m, l => movesDone_add ml m (a.done l)
theorem okMoves_take : ∀ (ml : List Mv) (l : DirL) (j : Nat) (m : Mv), okMoves ml l → ml[j]? = some m → m.may (movesDone (ml.take j) l) ∧ (movesDone (ml.take j) l).length < maxLen
  | [], _, _, _, _, h => by simp at h
  | a :: ml, l, 0, m, h, h2 => by simp at h2; subst h2; exact ⟨h.1, h.2.1⟩
  | a :: ml, l, j + 1, m, h, h2 => by
    rw [List.getElem?_cons_succ] at h2
    exact okMoves_take ml (a.done l) j m h.2.2 h2
theorem DirL.names_drop (l : DirL) (x : List UInt8) : (l.drop x).names = l.names.filter (fun y => !(y == x)) := by
  unfold DirL.names DirL.drop
  rw [List.filter_map]
  rfl
theorem DirL.names_put (l : DirL) (x : List UInt8) (b : Nat) : (l.put x b).names = l.names.filter (fun y => !(y == x)) ++ [x] := by
  rw [← DirL.names_drop]
  simp [DirL.put, DirL.names]
theorem DirL.look_same {l l' : DirL} (h : l'.names.Perm l.names) (x : List UInt8) : (l'.look x).isSome = (l.look x).isSome := by
  rw [Bool.eq_iff_iff, DirL.look_names, DirL.look_names, h.mem_iff]

/-- How a move of a clone is like the one that it was made of. -/
structure LikeMv (F : Nat → FileV) (fl' : List (Nat × FileV)) (m' m : Mv) : Prop where
  src : m'.src = m.src
  dst : m'.dst = m.dst
  made : (m.made = none ∧ m'.made = none) ∨ ∃ b b' g, m.made = some b ∧ m'.made = some b' ∧ (b', g) ∈ fl' ∧ SameF g (F b)
theorem LikeMv.more {F : Nat → FileV} {fl' : List (Nat × FileV)} {m' m : Mv} (h : LikeMv F fl' m' m) (x : List (Nat × FileV)) : LikeMv F (fl' ++ x) m' m :=
  ⟨h.src, h.dst, h.made.imp id (fun ⟨b, b', g, h1, h2, h3, h4⟩ => ⟨b, b', g, h1, h2, List.mem_append_left _ h3, h4⟩)⟩
theorem LikeMv.names {F : Nat → FileV} {fl' : List (Nat × FileV)} {m' m : Mv} (h : LikeMv F fl' m' m) {l l' : DirL} (hp : l'.names.Perm l.names) : (m'.done l').names.Perm (m.done l).names := by
  have hl := DirL.look_same hp m.src.data.toList
  obtain ⟨a, c, x⟩ := m
  obtain ⟨a', c', x'⟩ := m'
  obtain ⟨h1, h2, h3⟩ := h
  dsimp only at h1 h2 h3 hl
  subst h1 h2
  rcases h3 with ⟨rfl, rfl⟩ | ⟨b, b', g, rfl, rfl, _⟩
  · unfold Mv.done
    dsimp only
    cases e1 : l.look a'.data.toList with
    | none =>
      rw [e1] at hl
      cases e2 : l'.look a'.data.toList with
      | none => exact hp
      | some _ => rw [e2] at hl; cases hl
    | some y =>
      rw [e1] at hl
      cases e2 : l'.look a'.data.toList with
      | none => rw [e2] at hl; cases hl
      | some z =>
        dsimp only
        split
        · rw [DirL.names_drop, DirL.names_drop]
          exact hp.filter _
        · rw [DirL.names_put, DirL.names_put, DirL.names_drop, DirL.names_drop]
          exact ((hp.filter _).filter _).append_right _
  · unfold Mv.done
    dsimp only
    rw [DirL.names_put, DirL.names_put]
    exact (hp.filter _).append_right _
theorem LikeMv.may {F : Nat → FileV} {fl' : List (Nat × FileV)} {m' m : Mv} (h : LikeMv F fl' m' m) {l l' : DirL} (hp : l'.names.Perm l.names) (hm : m.may l) : m'.may l' := by
  have hl := DirL.look_same hp m.src.data.toList
  obtain ⟨a, c, x⟩ := m
  obtain ⟨a', c', x'⟩ := m'
  obtain ⟨h1, h2, h3⟩ := h
  obtain ⟨k1, k2, k3⟩ := hm
  dsimp only at h1 h2 h3 hl k1 k2 k3
  subst h1 h2
  rcases h3 with ⟨rfl, rfl⟩ | ⟨b, b', g, rfl, rfl, _⟩
  · exact ⟨k1, k2, by dsimp only at k3 ⊢; rw [hl]; exact k3⟩
  · exact ⟨k1, k2, k3⟩

/-- A range over the moves, each of which is done to the clone. -/
def MovesI (n0 : Nat) (w0 : World) (ls : DirL) (ml : List Mv) (F : Nat → FileV) (gq : Nat) (dead : Bool) (p : PlV) (pl : Pl) (ops : Int) (gd gs : Nat) (L : DirL) (G : Nat → FileV) (j : Nat) (W : World) : Prop :=
  ∃ (ml' : List Mv) (fl' : List (Nat × FileV)) (mv' : Value), FsOk (fun k => n0 ≤ k) W gq dead p pl ops gd gs mv' (movesDone ml' L) L ml' (filesOf G L ++ fl') ∧ w0.grownBy W none ∧ ml'.length = j ∧ (movesDone ml' L).names.Perm (movesDone (ml.take j) ls).names ∧ (∀ (i : Nat) (m : Mv), (ml.take j)[i]? = some m → ∃ m' : Mv, ml'[i]? = some m' ∧ LikeMv F fl' m' m) ∧ ml'.filterMap (fun m => m.made) = fl'.map (fun x => x.1)

theorem MovesI.step {n0 : Nat} {w0 : World} {ls : DirL} {ml : List Mv} {F : Nat → FileV} {gq : Nat} {dead : Bool} {p : PlV} {pl : Pl} {ops : Int} {gd gs : Nat} {L : DirL} {G : Nat → FileV} {j : Nat} {W : World} {ml' : List Mv} {fl' : List (Nat × FileV)} {mv' : Value} {m m' : Mv}
    (hO : FsOk (fun k => n0 ≤ k) W gq dead p pl ops gd gs mv' (m'.done (movesDone ml' L)) L (ml' ++ [m']) (filesOf G L ++ fl')) (h0 : w0.grownBy W none) (hj : ml'.length = j) (hp : (movesDone ml' L).names.Perm (movesDone (ml.take j) ls).names) (hm : ml[j]? = some m) (hl : LikeMv F fl' m' m) (hlk : ∀ (i : Nat) (m : Mv), (ml.take j)[i]? = some m → ∃ m' : Mv, ml'[i]? = some m' ∧ LikeMv F fl' m' m) (hmd : (ml' ++ [m']).filterMap (fun m => m.made) = fl'.map (fun x => x.1)) :
    MovesI n0 w0 ls ml F gq dead p pl ops gd gs L G (j + 1) W := by
  have ht : ml.take (j + 1) = ml.take j ++ [m] := by rw [List.take_add_one, hm]; rfl
  have hjl : j < ml.length := (List.getElem?_eq_some_iff.1 hm).1
  refine ⟨ml' ++ [m'], fl', mv', by rw [movesDone_add]; exact hO, h0, by simp [hj], by rw [movesDone_add, ht, movesDone_add]; exact hl.names hp, fun i x hx => ?_, hmd⟩
  rw [ht] at hx
  by_cases hi : i < j
  · rw [List.getElem?_append_left (by rw [List.length_take]; omega)] at hx
    obtain ⟨x', h1, h2⟩ := hlk i x hx
    exact ⟨x', by rw [List.getElem?_append_left (by omega)]; exact h1, h2⟩
  · have hil : i < (ml.take j ++ [m]).length := (List.getElem?_eq_some_iff.1 hx).1
    have hi2 : i = j := by simp at hil; omega
    subst hi2
    rw [List.getElem?_append_right (by rw [List.length_take]; omega)] at hx
    rw [List.length_take, Nat.min_eq_left (by omega)] at hx
    simp at hx
    subst hx
    exact ⟨m', by rw [List.getElem?_append_right (by omega), hj]; simp, hl⟩
end Go.Proofs.YtafcgjbafihniaaGreat

/-
  LAYER 1 (fs): the operations' other arms, where begin lets them on.
-/
namespace Go.Proofs.YtafcgjbafihniaaGreat
set_option maxRecDepth 100000
open Go.RowKit Go.Lib
attribute [local go_sem] Oper.semAt_some

section
variable {n0 : Nat → Prop} {w : World} {q : Nat} {p : PlV} {pl : Pl} {ops : Int} {d s : Nat} {mv : Value} {ld ls : DirL} {ml : List Mv} {fl : List (Nat × FileV)}
/-- What an operation finds behind its begin. -/
structure Begun (n0 : Nat → Prop) (w : World) (q : Nat) (p : PlV) (pl : Pl) (ops : Int) (d s : Nat) (mv : Value) (ld ls : DirL) (ml : List Mv) (fl : List (Nat × FileV)) (W : World) : Prop where
  begin : Calls Tryz.prog 57 #[.pointer (some ⟨q, 0, none⟩)] w fun e w' => e = .returned (.int .i64 0) ∧ ∃ m, w' = W.drewN m
  ok : ∀ m, FsOk n0 (W.drewN m) q false p pl (ops + 1) d s mv ld ls ml fl
  grown : ∀ m, w.grownBy (W.drewN m) (some q)
  cell : ∀ m, (W.drewN m).cell? ⟨q, 8, none⟩ = some (.map (some d))
theorem begun (h : FsOk n0 w q false p pl ops d s mv ld ls ml fl) (h0 : 0 ≤ ops) (h9 : ops < 4611686018427387904) (hc : ops + 1 ≠ pl.crash) (hsf : pl.fail.length < 4611686018427387904) (hnf : pl.fail.contains (ops + 1) = false) : ∃ W, Begun n0 w q p pl ops d s mv ld ls ml fl W := by
  have hb := begin_ok h h0 h9 hc hsf
  rw [hnf] at hb
  exact ⟨_, hb, fun m => (h.counted (ops + 1) m).1, fun m => (h.counted (ops + 1) m).2, fun m => (h.counted (ops + 1) m).1.fs.dir⟩
theorem Begun.look {W : World} (B : Begun n0 w q p pl ops d s mv ld ls ml fl W) (nm : ByteArray) (hs : nm.size ≤ maxLen) (m : Nat) : (Instr.lookup 69 (.map (some d)) (.string nm) false).run Tryz.prog (W.drewN m) = .ok (ptrV (ld.look nm.data.toList)) (W.drewN m) := (B.ok m).dir.lookup nm hs
theorem Begun.full {W : World} (B : Begun n0 w q p pl ops d s mv ld ls ml fl W) (hsu : pl.full.length < 4611686018427387904) (m : Nat) : Calls Tryz.prog 60 #[.pointer (some ⟨q, 0, none⟩)] (W.drewN m) fun e w' => e = .returned (.bool (pl.full.contains (ops + 1))) ∧ ∃ m', w' = (W.drewN m).drewN m' :=
  isFull_fs 0 pl.full (W.drewN m) (B.ok m).fs (B.ok m).ru hsu

set_option maxHeartbeats 2000000 in
theorem create_name (nm : ByteArray) {W : World} (B : Begun n0 w q p pl ops d s mv ld ls ml fl W) (hnm : okName nm = false) :
    Calls Tryz.prog 31 #[.pointer (some ⟨q, 0, none⟩), .string nm] w fun e w' => e = .returned (.int .i64 15) ∧ ∃ m, w' = W.drewN m := by
  have hmb := fun m => mayBe_any nm (W.drewN m)
  rw [hnm] at hmb
  have hfu : True := trivial
  go_enter Tryz.func31, Tryz.ntmps31
  go_wp2_with (first | (go_at_call 57; refine B.begin.mono ?_; rintro e w2 ⟨rfl, m1, rfl⟩) | (go_at_call 68; refine (hmb _).mono ?_; rintro e w2 ⟨rfl, rfl⟩) | (go_at_call 60; refine (hfu _).mono ?_; rintro e w2 ⟨rfl, m2, rfl⟩))
  go_ret
  exact ⟨rfl, _, rfl⟩
set_option maxHeartbeats 2000000 in
theorem create_exists (nm : ByteArray) {W : World} (B : Begun n0 w q p pl ops d s mv ld ls ml fl W) (hnm : okName nm = true) (hs : nm.size ≤ maxLen) (b : Nat) (hl : ld.look nm.data.toList = some b) :
    Calls Tryz.prog 31 #[.pointer (some ⟨q, 0, none⟩), .string nm] w fun e w' => e = .returned (.int .i64 13) ∧ ∃ m, w' = W.drewN m := by
  have hmb := fun m => mayBe_any nm (W.drewN m)
  rw [hnm] at hmb
  have hx := B.cell
  have hlk := B.look nm hs
  rw [hl] at hlk
  unfold ptrV at hlk
  have hfu : True := trivial
  go_enter Tryz.func31, Tryz.ntmps31
  go_wp2_with (first | (go_at_call 57; refine B.begin.mono ?_; rintro e w2 ⟨rfl, m1, rfl⟩) | (go_at_call 68; refine (hmb _).mono ?_; rintro e w2 ⟨rfl, rfl⟩) | (go_at_call 60; refine (hfu _).mono ?_; rintro e w2 ⟨rfl, m2, rfl⟩))
  go_ret
  exact ⟨rfl, _, rfl⟩
set_option maxHeartbeats 2000000 in
theorem create_long (nm : ByteArray) {W : World} (B : Begun n0 w q p pl ops d s mv ld ls ml fl W) (hnm : okName nm = true) (hs : nm.size ≤ maxLen) (hl : ld.look nm.data.toList = none) (hll : 4096 ≤ ld.length) :
    Calls Tryz.prog 31 #[.pointer (some ⟨q, 0, none⟩), .string nm] w fun e w' => e = .returned (.int .i64 2) ∧ ∃ m, w' = W.drewN m := by
  have hmb := fun m => mayBe_any nm (W.drewN m)
  rw [hnm] at hmb
  have hx := B.cell
  have hlk := B.look nm hs
  have hlen := fun m ty => (B.ok m).dir.len ty
  rw [hl] at hlk
  unfold ptrV at hlk
  have hfu : True := trivial
  go_enter Tryz.func31, Tryz.ntmps31
  go_wp2_with (first | (go_at_call 57; refine B.begin.mono ?_; rintro e w2 ⟨rfl, m1, rfl⟩) | (go_at_call 68; refine (hmb _).mono ?_; rintro e w2 ⟨rfl, rfl⟩) | (go_at_call 60; refine (hfu _).mono ?_; rintro e w2 ⟨rfl, m2, rfl⟩))
  go_ret
  exact ⟨rfl, _, rfl⟩
set_option maxHeartbeats 2000000 in
theorem create_full (nm : ByteArray) {W : World} (B : Begun n0 w q p pl ops d s mv ld ls ml fl W) (hnm : okName nm = true) (hs : nm.size ≤ maxLen) (hl : ld.look nm.data.toList = none) (hll : ld.length < 4096) (hsu : pl.full.length < 4611686018427387904) (hfl : pl.full.contains (ops + 1) = true) :
    Calls Tryz.prog 31 #[.pointer (some ⟨q, 0, none⟩), .string nm] w fun e w' => e = .returned (.int .i64 11) ∧ ∃ m, w' = W.drewN m := by
  have hmb := fun m => mayBe_any nm (W.drewN m)
  rw [hnm] at hmb
  have hx := B.cell
  have hlk := B.look nm hs
  have hlen := fun m ty => (B.ok m).dir.len ty
  rw [hl] at hlk
  unfold ptrV at hlk
  have hfu := B.full hsu
  rw [hfl] at hfu
  go_enter Tryz.func31, Tryz.ntmps31
  go_wp2_with (first | (go_at_call 57; refine B.begin.mono ?_; rintro e w2 ⟨rfl, m1, rfl⟩) | (go_at_call 68; refine (hmb _).mono ?_; rintro e w2 ⟨rfl, rfl⟩) | (go_at_call 60; refine (hfu _).mono ?_; rintro e w2 ⟨rfl, m2, rfl⟩))
  go_ret
  exact ⟨rfl, _, rfl⟩
set_option maxHeartbeats 2000000 in
theorem append_nofile (nm : ByteArray) (a : Option Addr) (n c : Nat) {W : World} (B : Begun n0 w q p pl ops d s mv ld ls ml fl W) (hs : nm.size ≤ maxLen) (hl : ld.look nm.data.toList = none) :
    Calls Tryz.prog 32 #[.pointer (some ⟨q, 0, none⟩), .string nm, .slice a n c] w fun e w' => e = .returned (.int .i64 14) ∧ ∃ m, w' = W.drewN m := by
  have hx := B.cell
  have hlk := B.look nm hs
  rw [hl] at hlk
  unfold ptrV at hlk
  go_enter Tryz.func32, Tryz.ntmps32
  go_wp2_with (go_at_call 57; refine B.begin.mono ?_; rintro e w2 ⟨rfl, m1, rfl⟩)
  go_ret
  exact ⟨rfl, _, rfl⟩
set_option maxHeartbeats 2000000 in
theorem cut_nofile (nm : ByteArray) (n : Int) {W : World} (B : Begun n0 w q p pl ops d s mv ld ls ml fl W) (hs : nm.size ≤ maxLen) (hl : ld.look nm.data.toList = none) :
    Calls Tryz.prog 33 #[.pointer (some ⟨q, 0, none⟩), .string nm, .int .i64 n] w fun e w' => e = .returned (.int .i64 14) ∧ ∃ m, w' = W.drewN m := by
  have hx := B.cell
  have hlk := B.look nm hs
  rw [hl] at hlk
  unfold ptrV at hlk
  go_enter Tryz.func33, Tryz.ntmps33
  go_wp2_with (go_at_call 57; refine B.begin.mono ?_; rintro e w2 ⟨rfl, m1, rfl⟩)
  go_ret
  exact ⟨rfl, _, rfl⟩
set_option maxHeartbeats 2000000 in
theorem sync_nofile (nm : ByteArray)  {W : World} (B : Begun n0 w q p pl ops d s mv ld ls ml fl W) (hs : nm.size ≤ maxLen) (hl : ld.look nm.data.toList = none) :
    Calls Tryz.prog 23 #[.pointer (some ⟨q, 0, none⟩), .string nm] w fun e w' => e = .returned (.int .i64 14) ∧ ∃ m, w' = W.drewN m := by
  have hx := B.cell
  have hlk := B.look nm hs
  rw [hl] at hlk
  unfold ptrV at hlk
  go_enter Tryz.func23, Tryz.ntmps23
  go_wp2_with (go_at_call 57; refine B.begin.mono ?_; rintro e w2 ⟨rfl, m1, rfl⟩)
  go_ret
  exact ⟨rfl, _, rfl⟩
set_option maxHeartbeats 2000000 in
theorem rename_nofile (nm : ByteArray) (nt : ByteArray) {W : World} (B : Begun n0 w q p pl ops d s mv ld ls ml fl W) (hs : nm.size ≤ maxLen) (hl : ld.look nm.data.toList = none) :
    Calls Tryz.prog 34 #[.pointer (some ⟨q, 0, none⟩), .string nm, .string nt] w fun e w' => e = .returned (.int .i64 14) ∧ ∃ m, w' = W.drewN m := by
  have hx := B.cell
  have hlk := B.look nm hs
  rw [hl] at hlk
  unfold ptrV at hlk
  go_enter Tryz.func34, Tryz.ntmps34
  go_wp2_with (go_at_call 57; refine B.begin.mono ?_; rintro e w2 ⟨rfl, m1, rfl⟩)
  go_ret
  exact ⟨rfl, _, rfl⟩
set_option maxHeartbeats 2000000 in
theorem remove_nofile (nm : ByteArray)  {W : World} (B : Begun n0 w q p pl ops d s mv ld ls ml fl W) (hs : nm.size ≤ maxLen) (hl : ld.look nm.data.toList = none) :
    Calls Tryz.prog 35 #[.pointer (some ⟨q, 0, none⟩), .string nm] w fun e w' => e = .returned (.int .i64 14) ∧ ∃ m, w' = W.drewN m := by
  have hx := B.cell
  have hlk := B.look nm hs
  rw [hl] at hlk
  unfold ptrV at hlk
  go_enter Tryz.func35, Tryz.ntmps35
  go_wp2_with (go_at_call 57; refine B.begin.mono ?_; rintro e w2 ⟨rfl, m1, rfl⟩)
  go_ret
  exact ⟨rfl, _, rfl⟩
set_option maxHeartbeats 2000000 in
theorem syncDir_full {W : World} (B : Begun n0 w q p pl ops d s mv ld ls ml fl W) (hsu : pl.full.length < 4611686018427387904) (hfl : pl.full.contains (ops + 1) = true) :
    Calls Tryz.prog 24 #[.pointer (some ⟨q, 0, none⟩)] w fun e w' => e = .returned (.int .i64 11) ∧ ∃ m, w' = W.drewN m := by
  have hfu := B.full hsu
  rw [hfl] at hfu
  have hmb : True := trivial
  go_enter Tryz.func24, Tryz.ntmps24
  go_wp2_with (first | (go_at_call 57; refine B.begin.mono ?_; rintro e w2 ⟨rfl, m1, rfl⟩) | (go_at_call 68; refine (hmb _).mono ?_; rintro e w2 ⟨rfl, rfl⟩) | (go_at_call 60; refine (hfu _).mono ?_; rintro e w2 ⟨rfl, m2, rfl⟩))
  go_ret
  exact ⟨rfl, _, rfl⟩
set_option maxHeartbeats 2000000 in
theorem rename_name (nm nt : ByteArray) {W : World} (B : Begun n0 w q p pl ops d s mv ld ls ml fl W) (hs : nm.size ≤ maxLen) (b : Nat) (hl : ld.look nm.data.toList = some b) (hnm : okName nt = false) :
    Calls Tryz.prog 34 #[.pointer (some ⟨q, 0, none⟩), .string nm, .string nt] w fun e w' => e = .returned (.int .i64 15) ∧ ∃ m, w' = W.drewN m := by
  have hmb := fun m => mayBe_any nt (W.drewN m)
  rw [hnm] at hmb
  have hx := B.cell
  have hlk := B.look nm hs
  rw [hl] at hlk
  unfold ptrV at hlk
  have hfu : True := trivial
  go_enter Tryz.func34, Tryz.ntmps34
  go_wp2_with (first | (go_at_call 57; refine B.begin.mono ?_; rintro e w2 ⟨rfl, m1, rfl⟩) | (go_at_call 68; refine (hmb _).mono ?_; rintro e w2 ⟨rfl, rfl⟩) | (go_at_call 60; refine (hfu _).mono ?_; rintro e w2 ⟨rfl, m2, rfl⟩))
  go_ret
  exact ⟨rfl, _, rfl⟩
set_option maxHeartbeats 2000000 in
theorem rename_same (nm : ByteArray) {W : World} (B : Begun n0 w q p pl ops d s mv ld ls ml fl W) (hs : nm.size ≤ maxLen) (b : Nat) (hl : ld.look nm.data.toList = some b) (hnm : okName nm = true) :
    Calls Tryz.prog 34 #[.pointer (some ⟨q, 0, none⟩), .string nm, .string nm] w fun e w' => e = .returned (.int .i64 0) ∧ ∃ m, w' = W.drewN m := by
  have hmb := fun m => mayBe_any nm (W.drewN m)
  rw [hnm] at hmb
  have hx := B.cell
  have hlk := B.look nm hs
  rw [hl] at hlk
  unfold ptrV at hlk
  have hfu : True := trivial
  go_enter Tryz.func34, Tryz.ntmps34
  go_wp2_with (first | (go_at_call 57; refine B.begin.mono ?_; rintro e w2 ⟨rfl, m1, rfl⟩) | (go_at_call 68; refine (hmb _).mono ?_; rintro e w2 ⟨rfl, rfl⟩) | (go_at_call 60; refine (hfu _).mono ?_; rintro e w2 ⟨rfl, m2, rfl⟩))
  go_ret
  exact ⟨rfl, _, rfl⟩
end
end Go.Proofs.YtafcgjbafihniaaGreat

/-
  LAYER 1 (fs): Used; lacksRoom in every case.
-/
namespace Go.Proofs.YtafcgjbafihniaaGreat
set_option maxRecDepth 100000
open Go.RowKit Go.Lib
open Go.Proofs (encStr)
attribute [local go_sem] Oper.semAt_some

theorem RangesD.left_eq {w : World} {s r : Nat} {l : DirL} {cnt : Nat} {ss : List (List UInt8)} (h : RangesD w s r l cnt ss) : w.rangeLeft s r = cnt := by
  obtain ⟨n, D, left, a, _⟩ := h
  exact a.left_eq

/-- The bytes of the files that these names have. -/
def lenOf (F : Nat → FileV) (l : DirL) (ss : List (List UInt8)) : Nat := (ss.map (fun x => match l.look x with | some b => (F b).data.length | none => 0)).sum
theorem lenOf_step (F : Nat → FileV) (l : DirL) (ss : List (List UInt8)) (x : List UInt8) (b : Nat) (h : l.look x = some b) : lenOf F l (ss ++ [x]) = lenOf F l ss + (F b).data.length := by simp [lenOf, h]
theorem lenOf_perm (F : Nat → FileV) (l : DirL) {ss tt : List (List UInt8)} (h : ss.Perm tt) : lenOf F l ss = lenOf F l tt := by
  unfold lenOf
  exact (h.map _).sum_nat

section
variable {n0 : Nat → Prop} {w : World} {q : Nat} {p : PlV} {pl : Pl} {ops : Int} {d s : Nat} {mv : Value} {ld ls : DirL} {ml : List Mv} {fl : List (Nat × FileV)}
set_option maxHeartbeats 4000000 in
theorem used_any (F : Nat → FileV) (w : World) (h : FsOk n0 w q false p pl ops d s mv ld ls ml fl) (hf : ∀ x b, ld.look x = some b → FileAt w b (F b) ∧ (F b).data.length ≤ 268435456) (hlim : ld.length ≤ 4294967296) :
    Calls Tryz.prog 36 #[.pointer (some ⟨q, 0, none⟩)] w fun e w' => e = .returned (.int .i64 (lenOf F ld ld.names : Int)) ∧ w.grownBy w' none := by
  have hdead := dead_fs w h.fs
  have x8 := h.fs.dir
  have hdl := h.dir.lt
  obtain ⟨W', r1, r2, r3, r4⟩ := h.dir.ranged
  obtain ⟨T, hT⟩ : ∃ T, T = lenOf F ld ld.names := ⟨_, rfl⟩
  rw [← hT]
  replace hT := Lib.hid hT
  replace r4 := Lib.hid r4
  go_enter Tryz.func36, Tryz.ntmps36
  go_wp2_with (go_at_call 21; refine hdead.mono ?_; rintro e w2 ⟨rfl, rfl⟩)
  go_loopw [3, 5] (fun v3 _ wr => ∃ (ss : List (List UInt8)) (cnt u : Nat), v3 = .int .i64 (u : Int) ∧ Hid (u = lenOf F ld ss) ∧ Hid (RangesD wr d w.heap.size ld cnt ss) ∧ Hid (w.grownBy wr none) ∧ ss.length + cnt ≤ ld.length ∧ u ≤ 268435456 * ss.length) (fun _ _ wr => wr.rangeLeft d w.heap.size)
  case atStart => exact ⟨[], _, 0, rfl, Lib.hid rfl, Lib.hid r2, Lib.hid r3, by simp, by simp⟩
  case round =>
    obtain ⟨ss, cnt, u, rfl, hu, hR, hG, hc, hb⟩ := hrel
    rcases hR.out.next 0 with ⟨hp, hrun⟩ | ⟨x, b, w3, cnt', hl, hrun, hR3, hlt, hg, hsz, hen⟩
    · have e1 : u = T := by rw [hu.out, hT.out]; exact lenOf_perm F ld hp
      subst e1
      go_wp2_with fail
      go_ret
      exact ⟨rfl, hG.out⟩
    · obtain ⟨hfa, hfl⟩ := hf x b hl
      have g3 : w.grownBy w3 none := gnew hG.out hg (fun k e => by cases e; exact .inl (Nat.le_refl _))
      have c1 : w3.cell? ⟨b, 1, none⟩ = some (F b).dv := (hfa.kept (P := fun _ => False) (GP.of g3 (by simp)) (fun h => h) (fun _ _ h => h)).c1
      obtain ⟨da, dc, hdv⟩ : ∃ a c, (F b).dv = .slice a (F b).data.length c := rowFormS hfa.2.2.1
      rw [hdv] at c1
      obtain ⟨n, hn⟩ : ∃ n, n = (F b).data.length := ⟨_, rfl⟩
      rw [← hn] at c1 hfl
      have hu2 : Hid (u + n = lenOf F ld (ss ++ [x])) := Lib.hid (by rw [lenOf_step F ld ss x b hl, hu.out, hn])
      have hle1 := hR.out.left_eq
      have hle3 := hR3.left_eq
      have hms : w3.rangeLeft d w.heap.size < wr.rangeLeft d w.heap.size := by omega
      unfold encStr at hrun hen
      obtain ⟨s', hs'⟩ : ∃ s' : ByteArray, s' = ⟨x.toArray⟩ := ⟨_, rfl⟩
      rw [← hs'] at hrun hen
      have hcc : (ss ++ [x]).length + cnt' ≤ ld.length := by rw [List.length_append]; simp; omega
      have hbb : u + n ≤ 268435456 * (ss ++ [x]).length := by rw [List.length_append]; simp; omega
      replace hms := Lib.hid hms
      replace hR3 := Lib.hid hR3
      replace hn := Lib.hid hn
      have hub : u ≤ 1152921504606846976 := by omega
      clear hle1 hle3 hlt hs' hfa hdv hl hu hR hc hb
      go_wp2_with fail
      exact ⟨⟨ss ++ [x], cnt', u + n, by go_num, hu2, hR3, Lib.hid g3, hcc, hbb⟩, hms.out⟩
end
end Go.Proofs.YtafcgjbafihniaaGreat

/-
  LAYER 1 (fs): Clone of any file system.
-/
namespace Go.Proofs.YtafcgjbafihniaaGreat
set_option maxRecDepth 100000
open Go.RowKit Go.Lib
open Go.Proofs (encStr)
attribute [local go_sem] Oper.semAt_some

section
variable {n0 : Nat → Prop} {q : Nat} {dead : Bool} {p : PlV} {pl : Pl} {ops : Int} {d s : Nat} {mv : Value} {ld ls : DirL} {ml : List Mv} {fl : List (Nat × FileV)}
set_option maxHeartbeats 8000000 in
theorem clone_any (F : Nat → FileV) (w : World) (h : FsOk n0 w q dead p pl ops d s mv ld ls ml fl) (lk : pl.keep.length * 8 ≤ 140737488351232) (lf : pl.fail.length * 8 ≤ 140737488351232) (lu : pl.full.length * 8 ≤ 140737488351232)
    (hF : ∀ b, (∃ x, ls.look x = some b) ∨ (∃ m ∈ ml, m.made = some b) → FileAt w b (F b) ∧ (F b).safe.length ≤ 140737488355328 ∧ (F b).data.length ≤ 140737488355328 ∧ (F b).chg.length < 8796093022207) (hm : okMoves ml ls) (hn2 : ml.length < 3518437208882) (hls : ls.length < maxLen) :
    Calls Tryz.prog 29 #[.pointer (some ⟨q, 0, none⟩)] w fun e w' => ∃ gq gd gs p' L G, e = .returned (.pointer (some ⟨gq, 0, none⟩)) ∧ MovesI w.heap.size w ls ml F gq dead p' ⟨pl.crash, pl.keep, inOrd pl.fail, inOrd pl.full, pl.room⟩ ops gd gs L G ml.length w' ∧ L.names.Perm ls.names ∧ (∀ x ∈ L, ∃ b, ls.look x.1 = some b ∧ SameF (G x.2) (F b)) := by
  have hfs := h.fs
  have hmade := isMade_fs w hfs
  have x2 := hfs.crash
  have x3 := hfs.keep
  have x4 := hfs.fail
  have x5 := hfs.full
  have x6 := hfs.room
  have rf1 : w.ownsRow 0 3 1 p.f (inOrd pl.fail).length ((inOrd pl.fail).map intV) := by rw [inOrd_length]; exact h.rf
  have ru1 : w.ownsRow 0 3 1 p.u (inOrd pl.full).length ((inOrd pl.full).map intV) := by rw [inOrd_length]; exact h.ru
  obtain ⟨ka, kc, hkv⟩ := rowForm h.rk
  obtain ⟨fa, fc, hfv⟩ := rowForm rf1
  obtain ⟨ua, uc, huv⟩ := rowForm ru1
  have hnew := new_good p.k p.f p.u ⟨pl.crash, pl.keep, inOrd pl.fail, inOrd pl.full, pl.room⟩ w (ints_of_own h.rk) (ints_of_own rf1) (ints_of_own ru1) lk (by dsimp only; rw [inOrd_length]; exact lf) (by dsimp only; rw [inOrd_length]; exact lu)
  dsimp only at hnew
  rw [hkv, hfv, huv] at hnew
  rw [hkv] at x3
  rw [hfv] at x4
  rw [huv] at x5
  rw [h.pc] at x2
  rw [h.pr] at x6
  clear rf1 ru1
  go_enter Tryz.func29, Tryz.ntmps29
  go_wp2_with first
    | (go_at_call 54; refine hmade.mono ?_; rintro e w2 ⟨rfl, rfl⟩)
    | (go_at_call 12; refine hnew.mono ?_; clear hnew; rintro e w1 ⟨gq, gd, gs, p', rfl, n1, g1⟩; have y1 := (hfs.kept g1 (by simp)).isDead; have y2 := n1.fs.isDead; have y3 := n1.fs.free 1; have y4 := n1.fs.setDead dead)
  obtain ⟨W3, hW3⟩ : ∃ W3, W3 = w1.setCell ⟨gq, 1, none⟩ (.bool dead) := ⟨_, rfl⟩
  have g3 : w1.grownBy W3 (some gq) := by rw [hW3]; exact gset (World.grownBy.refl w1 (some gq)) 1 (.bool dead)
  rw [← hW3] at y4 ⊢
  clear hW3 y1 y2 y3
  have n3 := n1.block y4 g3
  have hqn := n1.new gq (.inl rfl)
  have w13 : w.grownBy W3 none := gnew g1 g3 (fun k e => by cases e; exact .inl hqn)
  have gV := gdrew (World.grownBy.refl W3 none)
  obtain ⟨V, hV⟩ : ∃ V, V = W3.drew := ⟨_, rfl⟩
  have hL := hfs.kept (w13.trans gV) (by simp)
  have hG := n3.grown gV
  refine wp_region_held_drew (S := fun _ => True) (by kernel_rfl) trivial (fun hS0 => ?_)
  rw [← hV] at gV hL hG ⊢
  clear hV
  have hld := load_fs V hL
  have hst := store_fs ops V hG.fs
  refine wpAnyH_take (i := 0) (oi := ⟨some 24, _, _, _, _, _⟩) (v := ?_) rfl (by kernel_rfl) (by kernel_rfl) (by kernel_rfl) (fun _ _ _ h => h) (Or.inl ⟨by rfl, ?_⟩) (by assumption) ?_
  rotate_left
  · (intro w hSw; (try dsimp only at hSw); go_simp; try with_reducible rfl)
  try simp only [Act.put, List.setIfInBounds_toArray, List.set_cons_zero, List.set_cons_succ]
  refine wpAnyH_take (i := 1) (oi := ⟨some 25, _, _, _, _, _⟩) (v := ?_) rfl (by kernel_rfl) (by kernel_rfl) (by kernel_rfl) (fun _ _ _ h => h) (Or.inl ⟨by rfl, ?_⟩) (by assumption) ?_
  rotate_left
  · (intro w hSw; (try dsimp only at hSw); go_simp; try with_reducible rfl)
  try simp only [Act.put, List.setIfInBounds_toArray, List.set_cons_zero, List.set_cons_succ]
  refine wpAnyH_take (i := 2) (oi := ⟨some 26, _, _, _, _, _⟩) (v := ?_) rfl (by kernel_rfl) (by kernel_rfl) (by kernel_rfl) (fun _ _ _ h => h) (Or.inl ⟨by rfl, ?_⟩) (by assumption) ?_
  rotate_left
  · (intro w hSw; (try dsimp only at hSw); go_simp; try with_reducible rfl)
  try simp only [Act.put, List.setIfInBounds_toArray, List.set_cons_zero, List.set_cons_succ]
  refine wpAnyH_take (i := 3) (oi := ⟨some 27, _, _, _, _, _⟩) (v := ?_) rfl (by kernel_rfl) (by kernel_rfl) (by kernel_rfl) (fun _ _ _ h => h) (Or.inl ⟨by rfl, ?_⟩) (by assumption) ?_
  rotate_left
  · (intro w hSw; (try dsimp only at hSw); go_simp; try with_reducible rfl)
  try simp only [Act.put, List.setIfInBounds_toArray, List.set_cons_zero, List.set_cons_succ]
  refine wpAnyH_take (i := 4) (oi := ⟨some 28, _, _, _, _, _⟩) (v := ?_) rfl (by kernel_rfl) (by kernel_rfl) (by kernel_rfl) (fun _ _ _ h => h) (Or.inl ⟨by rfl, ?_⟩) (by assumption) ?_
  rotate_left
  · (intro w hSw; (try dsimp only at hSw); go_simp; try with_reducible rfl)
  try simp only [Act.put, List.setIfInBounds_toArray, List.set_cons_zero, List.set_cons_succ]
  refine wpAnyH_take (i := 5) (oi := ⟨some 29, _, _, _, _, _⟩) (v := ?_) rfl (by kernel_rfl) (by kernel_rfl) (by kernel_rfl) (fun _ _ _ h => h) (Or.inl ⟨by rfl, ?_⟩) (by assumption) ?_
  rotate_left
  · (intro w hSw; (try dsimp only at hSw); go_simp; try with_reducible rfl)
  try simp only [Act.put, List.setIfInBounds_toArray, List.set_cons_zero, List.set_cons_succ]
  refine wpAnyH_ready (rs := [6]) (by kernel_rfl) (by simp) ?_
  refine AllReadyH.cons rfl (fun K hK => ?_) AllReadyH.nil
  go_simp
  refine hld.mono ?_
  rintro e w2 ⟨rfl, rfl⟩
  refine hK.out _ _ trivial (fun _ => ?_)
  clear hK
  refine wpAnyH_ready (rs := [7]) (by kernel_rfl) (by simp) ?_
  refine AllReadyH.cons rfl (fun K hK => ?_) AllReadyH.nil
  go_simp
  refine hst.mono ?_
  rintro e W5 ⟨rfl, hW5⟩
  have hG5 := hG.fs.setOps ops
  have g5 := gset (World.grownBy.refl V (some gq)) 7 (.int .i64 ops)
  rw [← hW5] at hG5 g5
  clear hW5 hst hld
  refine hK.out _ _ trivial (fun _ => ?_)
  clear hK
  refine wpAnyH_done (by kernel_rfl) ?_ _
  have n5 := hG.block hG5 g5
  have w15 : w.grownBy W5 none := gnew (w13.trans gV) g5 (fun k e => by cases e; exact .inl hqn)
  have hL5 := hfs.kept w15 (by simp)
  have y9 := hL5.safe
  obtain ⟨W6, r1, hR6, g6, hs6⟩ := (h.safe.kept w15 (by simp)).ranged
  have hw5 := w15.size
  have hci : CloneI w.heap.size w s ls F gq dead p' ⟨pl.crash, pl.keep, inOrd pl.fail, inOrd pl.full, pl.room⟩ ops gd gs W5.heap.size ls.length [] W6 := ⟨F, hR6, n5.grown g6, w15.trans g6, by simp, fun k hk e => by have := n5.lt k hk; omega, by omega, by omega⟩
  replace hs6 := Lib.hid hs6
  obtain ⟨ma, mc, hmv⟩ := rowForm h.mr
  have hsl := h.safe.lt
  clear hL hL5 hG n5 n3 n1 hG5 y4 hR6 hfv huv hkv x2 x3 x4 x5 x6
  go_wp2_with fail
  go_loopw [4, 5, 6] (fun _ _ _ wr => ∃ cnt L, Hid (CloneI w.heap.size w s ls F gq dead p' ⟨pl.crash, pl.keep, inOrd pl.fail, inOrd pl.full, pl.room⟩ ops gd gs W5.heap.size cnt L wr) ∧ L.length + cnt ≤ ls.length) (fun _ _ _ wr => wr.rangeLeft s W5.heap.size)
  case atStart => exact ⟨_, [], Lib.hid hci, by simp⟩
  case round =>
    clear hci
    obtain ⟨cnt, L, hC, hle⟩ := hrel
    obtain ⟨G, hR, hO, h0, hLk, hne, hr, hrn⟩ := hC.out
    clear hC
    rcases hR.next 0 with ⟨hp, hrun⟩ | ⟨x, b, w3, cnt', hl, hrun, hR3, hlt, hg, hsz, hen⟩
    · have y10 := (hfs.kept h0 (by simp)).moves
      rw [hmv] at y10
      have hmr := World.ownsRow.kept h.mr h0 (by cases mv.ownBlock <;> simp)
      rw [hmv] at hmr
      have hMI : MovesI w.heap.size w ls ml F gq dead p' ⟨pl.crash, pl.keep, inOrd pl.fail, inOrd pl.full, pl.room⟩ ops gd gs L G 0 wr := ⟨[], [], .slice none 0 0, by rw [List.append_nil]; exact hO, h0, rfl, hp, by simp, rfl⟩
      go_wp2_with fail
      clear hR hO h0 hne hr hmr y10 y9 hs6 hrun hmade
      go_loopw [8, 61] (fun _ va wr' => ∃ j : Nat, va = .int .i64 (j : Int) ∧ j ≤ ml.length ∧ Hid (MovesI w.heap.size w ls ml F gq dead p' ⟨pl.crash, pl.keep, inOrd pl.fail, inOrd pl.full, pl.room⟩ ops gd gs L G j wr')) (fun _ va _ => ml.length - (RowKit.intOf va).toNat)
      case atStart => exact ⟨0, rfl, Nat.zero_le _, Lib.hid hMI⟩
      case round =>
        clear hMI
        obtain ⟨j, rfl, hj, hM⟩ := hrel
        by_cases hlt : j < ml.length
        · obtain ⟨ml', fl', mv', hO2, h2, hl2, hp2, hlk2, hmd2⟩ := hM.out
          clear hM
          have hm9 : ml[j]? = some ml[j] := List.getElem?_eq_getElem hlt
          obtain ⟨m, hmm⟩ : ∃ m, m = ml[j] := ⟨_, rfl⟩
          obtain ⟨gc, rfl, c0, c1, c2⟩ : ∃ gc, ma = some ⟨gc, 0, none⟩ ∧ wr.cell? ⟨gc, j * 3, none⟩ = some (.string m.src) ∧ wr.cell? ⟨gc, j * 3 + 1, none⟩ = some (.string m.dst) ∧ wr.cell? ⟨gc, j * 3 + 2, none⟩ = some (ptrV m.made) := by
            have hrow := World.ownsRow.kept h.mr h2 (by cases mv.ownBlock <;> simp)
            rw [hmv] at hrow
            have hr0 := hrow
            obtain ⟨_, ⟨e, hz⟩ | ⟨g9, cap, cur, e, _⟩⟩ := hrow
            · omega
            · simp at e
              obtain ⟨rfl, rfl⟩ := e
              have := mvCells_at ml j hlt
              rw [hmm]
              exact ⟨g9, rfl, by rw [World.ownsRow.cellAt hr0 _ (by omega)]; exact this.1, by rw [World.ownsRow.cellAt hr0 _ (by omega)]; exact this.2.1, by rw [World.ownsRow.cellAt hr0 _ (by omega)]; exact this.2.2⟩
          rw [← hmm] at hm9
          have hin : m ∈ ml := List.mem_of_getElem? hm9
          clear hmm
          have hmay := okMoves_take ml ls j m hm hm9
          have hln : (movesDone ml' L).length = (movesDone (ml.take j) ls).length := by have := hp2.length_eq; simpa [DirL.names] using this
          have hwr := h2.size
          have keyM : ∀ W8 fl2 m', FsOk (fun k => w.heap.size ≤ k) W8 gq dead p' ⟨pl.crash, pl.keep, inOrd pl.fail, inOrd pl.full, pl.room⟩ ops gd gs mv' (movesDone ml' L) L ml' (filesOf G L ++ fl2) → w.grownBy W8 none → (∀ (i : Nat) (m : Mv), (ml.take j)[i]? = some m → ∃ m' : Mv, ml'[i]? = some m' ∧ LikeMv F fl2 m' m) → LikeMv F fl2 m' m → (ml' ++ [m']).filterMap (fun m => m.made) = fl2.map (fun x => x.1) →
              Calls Tryz.prog 67 #[.pointer (some ⟨gq, 0, none⟩), m'.v] W8 fun e w' => e = .returned (.tuple #[]) ∧ MovesI w.heap.size w ls ml F gq dead p' ⟨pl.crash, pl.keep, inOrd pl.fail, inOrd pl.full, pl.room⟩ ops gd gs L G (j + 1) w' := by
            intro W8 fl2 m' hO8 h8 hlk8 hl8 hmd8
            have rf := hO8.row_fs hO8.mr (by decide)
            refine (move_any m' ml' (movesDone ml' L) W8 hO8.fs hO8.dir hO8.mr (hl8.may hp2 hmay.1) (by rw [hln]; exact hmay.2) (by omega) hO8.ndq rf.1 rf.2.1).mono ?_
            rintro e w10 ⟨rfl, mv2, p1, p2, p3, p4, p5⟩
            exact ⟨rfl, MovesI.step (hO8.moved (fun k hk => Nat.le_trans h8.size hk) p1 p2 (by rw [List.length_append]; exact p3) p4 p5) (grown_gp h8 p5 (by
              rintro k (e | e | e)
              · exact hO8.new k (.inl e)
              · exact hO8.new k (.inr (.inl e))
              · exact hO8.new k (.inr (.inr (.inr (.inl e)))))) hl2 hp2 hm9 hl8 hlk8 hmd8⟩
          have hfc := fun b (hb : m.made = some b) W (g : w.grownBy W none) => fileClone_any b (F b) W ((hF b (.inr ⟨m, hin, hb⟩)).1.kept (P := fun _ => False) (GP.of g (by simp)) (fun h => h) (fun _ _ h => h)) (hF b (.inr ⟨m, hin, hb⟩)).2.1 (hF b (.inr ⟨m, hin, hb⟩)).2.2.1 (hF b (.inr ⟨m, hin, hb⟩)).2.2.2
          obtain ⟨a, c, made⟩ := m
          dsimp only at c0 c1 c2 hfc
          have gx := World.grownBy_alloc wr (.cells #[.string a, .string c, ptrV made] 110) none
          have ex := World.alloc_heap_new wr (.cells #[.string a, .string c, ptrV made] 110)
          obtain ⟨W7, hW7⟩ : ∃ W7, W7 = wr.alloc (.cells #[.string a, .string c, ptrV made] 110) := ⟨_, rfl⟩
          rw [← hW7] at gx ex
          have s7 : W7.heap.size = wr.heap.size + 1 := by rw [hW7]; simp
          have hM7 : MvAt W7 wr.heap.size ⟨a, c, made⟩ := ex
          have z0 := hM7.c0
          have z1 := hM7.c1
          have z2 := hM7.c2
          have hO7 := hO2.grown gx
          have h7 := h2.trans gx
          have hlt2 := hO2.lt
          dsimp only at z0 z1 z2
          cases made with
          | none =>
            have hk := keyM W7 fl' ⟨a, c, none⟩ hO7 h7 hlk2 ⟨rfl, rfl, .inl ⟨rfl, rfl⟩⟩ (by rw [List.filterMap_append, hmd2]; simp)
            unfold ptrV at z2 c2 hW7
            dsimp only [Mv.v, ptrV] at hk
            clear keyM hfc hO7 hO2 hlk2 hmd2 ex gx
            go_wp2_with fail
            rw [← hW7]
            clear hW7
            refine hk.mono ?_
            clear hk
            rintro e w10 ⟨rfl, k1⟩
            replace k1 := Lib.hid k1
            go_wp2_with fail
            exact ⟨⟨j + 1, by go_num, by omega, k1⟩, by simp [RowKit.intOf]; omega⟩
          | some b =>
            have hf7 := hfc b rfl W7 h7
            have keyS : ∀ w8 b' g', W7.grownBy w8 none → FileAt w8 b' g' → SameF g' (F b) → W7.heap.size ≤ b' → (∀ k ∈ g'.blocks, W7.heap.size ≤ k) → w8.cell? ⟨wr.heap.size, 2, none⟩ = some (.pointer (some ⟨b, 0, none⟩)) ∧ w8.frozen? ⟨wr.heap.size, 2, none⟩ = false ∧
                (w8.setCell ⟨wr.heap.size, 2, none⟩ (.pointer (some ⟨b', 0, none⟩))).cell? ⟨wr.heap.size, 0, none⟩ = some (.string a) ∧ (w8.setCell ⟨wr.heap.size, 2, none⟩ (.pointer (some ⟨b', 0, none⟩))).cell? ⟨wr.heap.size, 1, none⟩ = some (.string c) ∧ (w8.setCell ⟨wr.heap.size, 2, none⟩ (.pointer (some ⟨b', 0, none⟩))).cell? ⟨wr.heap.size, 2, none⟩ = some (.pointer (some ⟨b', 0, none⟩)) ∧
                Calls Tryz.prog 67 #[.pointer (some ⟨gq, 0, none⟩), .agg #[.string a, .string c, .pointer (some ⟨b', 0, none⟩)]] (w8.setCell ⟨wr.heap.size, 2, none⟩ (.pointer (some ⟨b', 0, none⟩))) fun e w' => e = .returned (.tuple #[]) ∧ MovesI w.heap.size w ls ml F gq dead p' ⟨pl.crash, pl.keep, inOrd pl.fail, inOrd pl.full, pl.room⟩ ops gd gs L G (j + 1) w' := by
              intro w8 b' g' q7 q1 qs q5 q6
              have hM8 := hM7.kept q7 (by simp)
              have u2 := hM8.c2
              have hM9 : MvAt (w8.setCell ⟨wr.heap.size, 2, none⟩ (.pointer (some ⟨b', 0, none⟩))) wr.heap.size ⟨a, c, some b'⟩ := heap_setCell_same w8 wr.heap.size 2 _ _ _ hM8
              have gs9 := gset (World.grownBy.refl w8 (some wr.heap.size)) 2 (.pointer (some ⟨b', 0, none⟩))
              have hO8 := hO7.filed (fun k hk => Nat.le_trans h7.size hk) q7 q1 q5 q6
              rw [List.append_assoc] at hO8
              have hO9 := hO8.kept (P := fun k => k = wr.heap.size) (GP.of gs9 (fun k e => by cases e; rfl)) (fun k hk e => by
                subst e
                rcases hk with e | e | e | e | e | e | e | e
                · have := hlt2 _ (.inl e); omega
                · have := hlt2 _ (.inr (.inl e)); omega
                · have := hlt2 _ (.inr (.inr (.inl e))); omega
                · have := hlt2 _ (.inr (.inr (.inr (.inl e)))); omega
                · have := hlt2 _ (.inr (.inr (.inr (.inr (.inl e))))); omega
                · have := hlt2 _ (.inr (.inr (.inr (.inr (.inr (.inl e)))))); omega
                · have := hlt2 _ (.inr (.inr (.inr (.inr (.inr (.inr (.inl e))))))); omega
                · rw [← List.append_assoc, filesBlocks_append, List.mem_append] at e
                  rcases e with e | e
                  · have := hlt2 _ (.inr (.inr (.inr (.inr (.inr (.inr (.inr e))))))); omega
                  · rw [filesBlocks_cons] at e
                    simp [filesBlocks] at e
                    rcases e with e | e
                    · omega
                    · have := q6 _ e; omega)
              have h9 : w.grownBy (w8.setCell ⟨wr.heap.size, 2, none⟩ (.pointer (some ⟨b', 0, none⟩))) none := gnew (h7.trans q7) gs9 (fun k e => by cases e; exact .inl hwr)
              exact ⟨u2, by simp [World.frozen?, show _ = _ from hM8], hM9.c0, hM9.c1, hM9.c2, keyM _ (fl' ++ [(b', g')]) ⟨a, c, some b'⟩ hO9 h9 (fun i m hx => by
                obtain ⟨m', k1, k2⟩ := hlk2 i m hx
                exact ⟨m', k1, k2.more _⟩) ⟨rfl, rfl, .inr ⟨b, b', g', rfl, rfl, by simp, qs⟩⟩ (by rw [List.filterMap_append, hmd2]; simp)⟩
            unfold ptrV at z2 c2 hW7
            clear keyM hfc hO7 hO2 hlk2 hmd2 ex gx
            go_wp2_with fail
            rw [← hW7]
            clear hW7
            refine hf7.mono ?_
            clear hf7
            rintro e w8 ⟨b', g', rfl, q1, q2, q3, q4, q5, q6, q7⟩
            obtain ⟨k1, k2, k3, k4, k5, hk⟩ := keyS w8 b' g' q7 q1 ⟨q2, q3, q4⟩ q5 q6
            clear keyS q1 q2 q3 q4 q5 q6 q7 z0 z1 z2 c0 c1 c2
            go_wp2_with fail
            refine hk.mono ?_
            clear hk
            rintro e w10 ⟨rfl, k9⟩
            replace k9 := Lib.hid k9
            go_wp2_with fail
            exact ⟨⟨j + 1, by go_num, by omega, k9⟩, by simp [RowKit.intOf]; omega⟩
        · obtain rfl : j = ml.length := by omega
          go_wp2_with fail
          go_ret
          exact ⟨_, _, _, _, _, _, rfl, hM.out, hp, hLk⟩
    · obtain ⟨f1, f2, f3, f4⟩ := hF b (.inl ⟨x, hl⟩)
      have g03 : w.grownBy w3 none := gnew h0 hg (fun k e => by cases e; exact .inl (by omega))
      have hfc := fileClone_any b (F b) w3 (f1.kept (P := fun _ => False) (GP.of g03 (by simp)) (fun h => h) (fun _ _ h => h)) f2 f3 f4
      have hxs : x.length ≤ maxLen := h.safe.2.1 x (DirL.look_names.1 (by rw [hl]; rfl))
      have hLl : L.length < maxLen := by omega
      have hO3 := hO.kept (P := fun k => k = W5.heap.size) (GP.of hg (fun k e => by cases e; rfl)) (fun k hk => hne k hk)
      have hle1 := hR.left_eq
      have hle3 := hR3.left_eq
      have hms : w3.rangeLeft s W5.heap.size < wr.rangeLeft s W5.heap.size := by omega
      have key : ∀ W9 b9 g9, w3.grownBy W9 none → FileAt W9 b9 g9 → SameF g9 (F b) → w3.heap.size ≤ b9 → (∀ k ∈ g9.blocks, w3.heap.size ≤ k) → W9.cell? ⟨gq, 9, none⟩ = some (.map (some gs)) ∧ ∃ w10, (Instr.mapUpdate 69 (.map (some gs)) (.string ⟨x.toArray⟩) (.pointer (some ⟨b9, 0, none⟩))).run Tryz.prog W9 = .ok () w10 ∧ w10.cell? ⟨gq, 8, none⟩ = some (.map (some gd)) ∧
          ∃ w11, (Instr.mapUpdate 69 (.map (some gd)) (.string ⟨x.toArray⟩) (.pointer (some ⟨b9, 0, none⟩))).run Tryz.prog w10 = .ok () w11 ∧ CloneI w.heap.size w s ls F gq dead p' ⟨pl.crash, pl.keep, inOrd pl.fail, inOrd pl.full, pl.room⟩ ops gd gs W5.heap.size cnt' (L ++ [(x, b9)]) w11 ∧ w11.rangeLeft s W5.heap.size < wr.rangeLeft s W5.heap.size := by
        intro W9 b9 g9 g2 q1 q2 q3 q4
        have hO9 := hO3.grown g2
        obtain ⟨w10, u1, u2, u3, _⟩ := hO9.safe.store ⟨x.toArray⟩ (by simpa [ByteArray.size] using hxs) b9 hLl
        have hO10 := hO9.putS u2 u3
        obtain ⟨w11, v1, v2, v3, _⟩ := hO10.dir.store ⟨x.toArray⟩ (by simpa [ByteArray.size] using hxs) b9 hLl
        have hCR := CloneI.round (Nat.le_refl _) hO h0 hLk hne hr hrn hl hR3 hg g2 q1 q2 q3 q4 u2 u3 v2 v3 hsl
        refine ⟨hO9.fs.safe, w10, u1, hO10.fs.dir, w11, v1, hCR, ?_⟩
        obtain ⟨_, hRR, _⟩ := hCR
        have := hRR.left_eq
        omega
      have hle9 : ∀ b9, (L ++ [(x, b9)]).length + cnt' ≤ ls.length := fun b9 => by rw [List.length_append]; simp; omega
      unfold encStr at hrun hen
      obtain ⟨s', hs'⟩ : ∃ s' : ByteArray, s' = ⟨x.toArray⟩ := ⟨_, rfl⟩
      rw [← hs'] at hrun hen key
      clear hle1 hle3 hlt hs' hl hR hR3 hO hO3 hne hLk h0 f1
      go_wp2_with first
        | (go_at_call 66
           refine hfc.mono ?_
           clear hfc
           rintro e w9 ⟨b9, g9, rfl, q1, q2, q3, q4, q5, q6, q7⟩
           obtain ⟨k1, w10, k2, k3, w11, k4, k5, k6⟩ := key w9 b9 g9 q7 q1 ⟨q2, q3, q4⟩ q5 q6
           replace k5 := Lib.hid k5
           replace k6 := Lib.hid k6
           clear key q1 q2 q3 q4 q5 q6 q7)
      exact ⟨⟨cnt', L ++ [(x, b9)], k5, hle9 b9⟩, k6.out⟩
end
end Go.Proofs.YtafcgjbafihniaaGreat
