/-
  LAYER 1 (fs): the numbers that moves made are fresh: not safe, none twice. (For the clone of a file system.)
-/
import Derived.Test.YtafcgjbafihniaaGreatFA23
import Derived.Test.YtafcgjbafihniaaGreatFA12
import Derived.Test.YtafcgjbafihniaaGreatFA13
import Derived.Test.YtafcgjbafihniaaGreatFA20
namespace Go.Proofs.YtafcgjbafihniaaGreat
set_option maxRecDepth 100000
open Go.RowKit Go.Lib

/-- The number that a move made. -/
def RMv.num : RMv → Option Nat
  | .made _ i => some i
  | _ => none
/-- What is safe, and what the moves made. -/
def RefP.nums (a : RefP) : List Nat := a.safe.map (·.2) ++ a.moves.filterMap RMv.num
structure Fresh (a : RefP) : Prop where
  nodup : a.nums.Nodup
  lt : ∀ i ∈ a.nums, i < a.nodes.length
section
variable {N K : Nat} {a b : RefP}
theorem Fresh.same (h : Fresh a) (hs : b.nums = a.nums) (hn : a.nodes.length ≤ b.nodes.length) : Fresh b :=
  ⟨by rw [hs]; exact h.nodup, fun i hi => Nat.lt_of_lt_of_le (h.lt i (by rw [← hs]; exact hi)) hn⟩
theorem Fresh.settled (hm : b.moves = []) (hd : DOk K b.nodes.length b.safe) : Fresh b := by
  have e : b.nums = b.safe.map (·.2) := by unfold RefP.nums; rw [hm]; simp
  refine ⟨by rw [e]; exact hd.nums, fun i hi => ?_⟩
  rw [e] at hi
  obtain ⟨p, hp, rfl⟩ := List.mem_map.1 hi
  exact hd.lt p hp
theorem Fresh.counted (h : Fresh a) : Fresh { a with count := a.count + 1 } := h.same rfl (Nat.le_refl _)
theorem RInv.safeOk0 (I : RInv N a) : DOk 4096 a.nodes.length a.safe := by
  have := I.pre 0
  simpa using this
theorem Fresh.die (I : RInv N a) : Fresh a.die := Fresh.settled (K := 4096) rfl I.die.safeOk0
theorem Fresh.begin (h : Fresh a) (I : RInv N a) : Fresh a.begin.2 := by
  unfold RefP.begin
  split
  · exact h
  · split
    · exact Fresh.die I.counted
    · exact h.counted
theorem Fresh.move (h : Fresh a) (c : Int) (d : DirL) (m : RMv) (hm : m.num = none) : Fresh { a with count := c, dir := d, moves := a.moves ++ [m] } :=
  h.same (by show a.safe.map (·.2) ++ (a.moves ++ [m]).filterMap RMv.num = _; rw [List.filterMap_append]; simp [hm, RefP.nums]) (Nat.le_refl _)
theorem Fresh.create (h : Fresh a) (I : RInv N a) (s : ByteArray) : Fresh (a.create s).2 := by
  unfold RefP.create
  split
  · split
    · split
      · exact h.counted
      · split
        · exact h.counted
        · split
          · exact h.counted
          · have e : ({ a with count := a.count + 1, nodes := a.nodes ++ [⟨[], []⟩], dir := RMv.done a.dir (.made s a.nodes.length), moves := a.moves ++ [.made s a.nodes.length] } : RefP).nums = a.nums ++ [a.nodes.length] := by
              show a.safe.map (·.2) ++ (a.moves ++ [RMv.made s a.nodes.length]).filterMap RMv.num = _
              rw [List.filterMap_append]
              simp [RMv.num, RefP.nums]
            refine ⟨?_, fun i hi => ?_⟩
            · rw [e, List.nodup_append]
              refine ⟨h.nodup, by simp, fun x hx y hy hxy => ?_⟩
              have h1 := h.lt x hx
              have h2 : y = a.nodes.length := by simpa using hy
              omega
            · rw [e, List.mem_append] at hi
              show i < (a.nodes ++ [(⟨[], []⟩ : NodeP)]).length
              rw [List.length_append, List.length_singleton]
              rcases hi with hi | hi
              · have := h.lt i hi
                omega
              · have h2 : i = a.nodes.length := by simpa using hi
                omega
    · exact h.counted
  · exact h.begin I
theorem Fresh.node (h : Fresh a) (c : Int) (ns : List NodeP) (hn : ns.length = a.nodes.length) : Fresh { a with count := c, nodes := ns } := h.same rfl (by show _ ≤ ns.length; omega)
theorem Fresh.sync (h : Fresh a) (I : RInv N a) (s : ByteArray) : Fresh (a.sync s).2 := by
  unfold RefP.sync
  split
  · split
    · exact h.counted
    · exact h.node _ _ (by simp)
  · exact h.begin I
theorem Fresh.cut (h : Fresh a) (I : RInv N a) (s : ByteArray) (n : Int) : Fresh (a.cut s n).2 := by
  unfold RefP.cut
  split
  · split
    · exact h.counted
    · split
      · exact h.counted
      · split
        · exact h.node _ _ (by simp)
        · exact h.counted
  · exact h.begin I
theorem Fresh.append (h : Fresh a) (I : RInv N a) (s : ByteArray) (bs : List UInt8) : Fresh (a.append s bs).2 := by
  unfold RefP.append
  split
  · split
    · exact h.counted
    · repeat' split
      all_goals first | exact h.counted | exact h.node _ _ (by simp)
  · exact h.begin I
theorem Fresh.remove (h : Fresh a) (I : RInv N a) (s : ByteArray) : Fresh (a.remove s).2 := by
  unfold RefP.remove
  split
  · split
    · exact h.move _ _ _ rfl
    · exact h.counted
  · exact h.begin I
theorem Fresh.rename (h : Fresh a) (I : RInv N a) (s t : ByteArray) : Fresh (a.rename s t).2 := by
  unfold RefP.rename
  split
  · split
    · exact h.counted
    · split
      · split
        · exact h.counted
        · exact h.move _ _ _ rfl
      · exact h.counted
  · exact h.begin I
theorem Fresh.syncDir (h : Fresh a) (I : RInv N a) : Fresh a.syncDir.2 := by
  unfold RefP.syncDir
  split
  · split
    · exact h.counted
    · exact Fresh.settled (K := 4096) rfl I.dirOk
  · exact h.begin I
theorem Fresh.start (I : RInv N a) (p : Pl) (h : Fresh a) : Fresh (a.start p) := by
  unfold RefP.start
  split
  · exact h.same rfl (Nat.le_refl _)
  · exact (Fresh.die I).same rfl (Nat.le_refl _)
theorem Fresh.op (h : Fresh a) (I : RInv N a) (o : OpP) (ho : o.Fits) : Fresh (a.op o) := by
  unfold RefP.op
  split
  · exact h.create I _
  · split
    · exact h.append I _ _
    · split
      · exact h.cut I _ _
      · split
        · exact h.sync I _
        · split
          · exact h.rename I _ _
          · split
            · exact h.remove I _
            · split
              · exact h.syncDir I
              · exact Fresh.start I _ h
theorem Fresh.new (p : Pl) : Fresh (RefP.new p) := ⟨by simp [RefP.nums, RefP.new], fun i hi => by simp [RefP.nums, RefP.new] at hi⟩
theorem made_fresh {p : Pl} (hp : planFits p) : ∀ {L : List OpP}, (∀ o ∈ L, o.Fits) → ∀ {a : RefP} {N : Nat}, RInv N a → Fresh a → Fresh (L.foldl RefP.op a)
  | [], _, _, _, _, h => h
  | o :: L, hL, _, _, I, h => made_fresh hp (fun o' ho' => hL o' (List.mem_cons_of_mem _ ho')) (I.op o (hL o (List.mem_cons_self ..))) (h.op I o (hL o (List.mem_cons_self ..)))
end
end Go.Proofs.YtafcgjbafihniaaGreat

/-
  LAYER 1 (fs): a directory speaks of looks alone; moves done to directories that look alike. (For the clone of a file system.)
-/
namespace Go.Proofs.YtafcgjbafihniaaGreat
set_option maxRecDepth 100000
open Go.RowKit Go.Lib

section
variable {l l' : DirL}
theorem DirL.look_drop_eq (h : ∀ x, l'.look x = l.look x) (y : List UInt8) : ∀ x, (l'.drop y).look x = (l.drop y).look x := by
  intro x
  by_cases e : x = y
  · subst e
    rw [DirL.look_drop_same, DirL.look_drop_same]
  · rw [DirL.look_drop_other _ e, DirL.look_drop_other _ e, h]
theorem DirL.look_put_eq (h : ∀ x, l'.look x = l.look x) (y : List UInt8) (b : Nat) : ∀ x, (l'.put y b).look x = (l.put y b).look x := by
  intro x
  by_cases e : x = y
  · subst e
    rw [DirL.look_put_same, DirL.look_put_same]
  · rw [DirL.look_put_other _ e, DirL.look_put_other _ e, h]
theorem Mv.done_look (h : ∀ x, l'.look x = l.look x) (m : Mv) : ∀ x, (m.done l').look x = (m.done l).look x := by
  unfold Mv.done
  split
  · exact DirL.look_put_eq h _ _
  · rw [h]
    split
    · split
      · exact DirL.look_drop_eq h _
      · exact DirL.look_put_eq (DirL.look_drop_eq h _) _ _
    · exact h
end
theorem movesDone_look : ∀ (ml : List Mv) {l l' : DirL}, (∀ x, l'.look x = l.look x) → ∀ x, (movesDone ml l').look x = (movesDone ml l).look x
  | [], _, _, h => h
  | m :: ml, _, _, h => movesDone_look ml (Mv.done_look h m)
theorem DirM.relist {w : World} {d : Nat} {l l' : DirL} (h : DirM w d l) (hn : l'.names.Nodup) (hl : ∀ x, l'.look x = l.look x) : DirM w d l' := by
  obtain ⟨_, h2, n, D, h3, h4⟩ := h
  refine ⟨hn, fun x hx => h2 x ?_, n, D, h3, fun x => by rw [hl]; exact h4 x⟩
  rw [← DirL.look_names, ← hl]
  exact DirL.look_names.2 hx
/-- The same file system, its directories listed anew, its plan's lists as they came. -/
theorem FsOk.relist {n0 : Nat → Prop} {w : World} {q : Nat} {dead : Bool} {p : PlV} {pl : Pl} {ops : Int} {d s : Nat} {mv : Value} {ld ls ld' ls' : DirL} {ml : List Mv} {fl : List (Nat × FileV)}
    (h : FsOk n0 w q dead p ⟨pl.crash, pl.keep, inOrd pl.fail, inOrd pl.full, pl.room⟩ ops d s mv ld ls ml fl) (hd : ld'.names.Nodup) (hs : ls'.names.Nodup) (hld : ∀ x, ld'.look x = ld.look x) (hls : ∀ x, ls'.look x = ls.look x) :
    FsOk n0 w q dead p pl ops d s mv ld' ls' ml fl := by
  have rf := h.rf
  have ru := h.ru
  dsimp only at rf ru
  rw [inOrd_length, inOrd_inOrd] at rf ru
  exact ⟨h.fs, h.pc, h.pr, h.rk, rf, ru, h.dir.relist hd hld, h.safe.relist hs hls, h.mr, h.files, h.nds, h.new⟩
end Go.Proofs.YtafcgjbafihniaaGreat

/-
  LAYER 1 (fs): a clone's files beside the numbers of the plain file system. (For the clone of a file system.)
-/
namespace Go.Proofs.YtafcgjbafihniaaGreat
set_option maxRecDepth 100000
open Go.RowKit Go.Lib

theorem nodup_inj {α β : Type} (f : α → β) : ∀ {l : List α}, (l.map f).Nodup → ∀ x ∈ l, ∀ y ∈ l, f x = f y → x = y
  | [], _, x, hx, _, _, _ => by cases hx
  | z :: l, h, x, hx, y, hy, e => by
    rw [List.map_cons, List.nodup_cons] at h
    rcases List.mem_cons.1 hx with rfl | hx2
    · rcases List.mem_cons.1 hy with rfl | hy2
      · rfl
      · exact (h.1 (e ▸ List.mem_map_of_mem hy2)).elim
    · rcases List.mem_cons.1 hy with rfl | hy2
      · exact (h.1 (e ▸ List.mem_map_of_mem hx2)).elim
      · exact nodup_inj f h.2 x hx2 y hy2 e
theorem filterMap_inj {α : Type} (f : α → Option Nat) : ∀ {l : List α}, (l.filterMap f).Nodup → ∀ (j k : Nat) (x y : α) (i : Nat), l[j]? = some x → l[k]? = some y → f x = some i → f y = some i → j = k
  | [], _, _, _, _, _, _, h, _, _, _ => by simp at h
  | z :: l, h, j, k, x, y, i, hj, hk, hx, hy => by
    have htl : (l.filterMap f).Nodup := by
      rw [List.filterMap_cons] at h
      split at h
      · exact h
      · exact (List.nodup_cons.1 h).2
    have hno : ∀ k' y', l[k']? = some y' → f y' = some i → f z = some i → False := fun k' y' h1 h2 h3 => by
      rw [List.filterMap_cons, h3] at h
      exact (List.nodup_cons.1 h).1 (List.mem_filterMap.2 ⟨y', List.mem_of_getElem? h1, h2⟩)
    cases j with
    | zero =>
      simp at hj
      subst hj
      cases k with
      | zero => rfl
      | succ k => exact (hno k y (by simpa using hk) hy hx).elim
    | succ j =>
      cases k with
      | zero =>
        simp at hk
        subst hk
        exact (hno j x (by simpa using hj) hx hy).elim
      | succ k => rw [filterMap_inj f htl j k x y i (by simpa using hj) (by simpa using hk) hx hy]
/-- Where a number comes from. -/
theorem look_from : ∀ (ml : List RMv) (l : DirL), okR ml l → ∀ (x : List UInt8) (i : Nat), (ml.foldl RMv.done l).look x = some i → (∃ y, l.look y = some i) ∨ i ∈ ml.filterMap RMv.num
  | [], _, _, x, i, h => .inl ⟨x, h⟩
  | m :: ml, l, ho, x, i, h => by
    rcases look_from ml (RMv.done l m) ho.2 x i h with ⟨y, hy⟩ | h2
    · have drp : ∀ z, (DirL.drop l z).look y = some i → ∃ y, l.look y = some i := fun z e => by
        by_cases e2 : y = z
        · subst e2
          rw [DirL.look_drop_same] at e
          cases e
        · rw [DirL.look_drop_other _ e2] at e
          exact ⟨y, e⟩
      cases m with
      | made a k =>
        change (DirL.put l a.data.toList k).look y = some i at hy
        by_cases e : y = a.data.toList
        · subst e
          rw [DirL.look_put_same] at hy
          cases hy
          exact .inr (by simp [RMv.num])
        · rw [DirL.look_put_other _ e] at hy
          exact .inl ⟨y, hy⟩
      | ren a b k =>
        change ((DirL.drop l a.data.toList).put b.data.toList k).look y = some i at hy
        by_cases e : y = b.data.toList
        · subst e
          rw [DirL.look_put_same] at hy
          cases hy
          exact .inl ⟨_, ho.1.1⟩
        · rw [DirL.look_put_other _ e] at hy
          exact .inl (drp _ hy)
      | rem a => exact .inl (drp _ hy)
    · right
      rw [List.filterMap_cons]
      split
      · exact h2
      · exact List.mem_cons_of_mem _ h2
end Go.Proofs.YtafcgjbafihniaaGreat

/-
  LAYER 1 (fs): a clone's files stand for the same plain file system. (For the clone of a file system.)
-/
namespace Go.Proofs.YtafcgjbafihniaaGreat
set_option maxRecDepth 100000
open Go.RowKit Go.Lib

/-- Which block a clone has for a number. -/
def CloneP (a : RefP) (L : DirL) (ml' : List Mv) (i b : Nat) : Prop :=
  (∃ x, a.safe.look x = some i ∧ L.look x = some b) ∨ (∃ (j : Nat) (x : ByteArray) (m' : Mv), a.moves[j]? = some (.made x i) ∧ ml'[j]? = some m' ∧ m'.made = some b)
section
variable {a : RefP} {N i j b c : Nat} {L : DirL} {ml' : List Mv} {F G : Nat → FileV} {fl' : List (Nat × FileV)} {φ : Nat → Nat}
theorem CloneP.one (Fr : Fresh a) (I : RInv N a) (h1 : CloneP a L ml' i b) (h2 : CloneP a L ml' i c) : b = c := by
  have hn := Fr.nodup
  unfold RefP.nums at hn
  rw [List.nodup_append] at hn
  have apart : ∀ {x : List UInt8} {j : Nat} {y : ByteArray}, a.safe.look x = some i → a.moves[j]? = some (.made y i) → False := fun h3 h4 =>
    hn.2.2 i (List.mem_map.2 ⟨_, DirL.look_mem h3, rfl⟩) i (List.mem_filterMap.2 ⟨_, List.mem_of_getElem? h4, rfl⟩) rfl
  rcases h1 with ⟨x, q1, q2⟩ | ⟨j, x, m, q1, q2, q3⟩
  · rcases h2 with ⟨y, r1, r2⟩ | ⟨k, y, m2, r1, r2, r3⟩
    · have := nodup_inj (fun p : List UInt8 × Nat => p.2) hn.1 _ (DirL.look_mem q1) _ (DirL.look_mem r1) rfl
      have e : x = y := congrArg (fun p : List UInt8 × Nat => p.1) this
      subst e
      rw [q2] at r2
      cases r2
      rfl
    · exact (apart q1 r1).elim
  · rcases h2 with ⟨y, r1, r2⟩ | ⟨k, y, m2, r1, r2, r3⟩
    · exact (apart r1 q1).elim
    · have e := filterMap_inj RMv.num hn.2.1 j k _ _ i q1 r1 rfl rfl
      subst e
      rw [q2] at r2
      cases r2
      rw [q3] at r3
      cases r3
      rfl
theorem CloneP.inj (hn : (L.map (fun x => x.2) ++ ml'.filterMap (fun m => m.made)).Nodup) (h1 : CloneP a L ml' i b) (h2 : CloneP a L ml' j b) : i = j := by
  rw [List.nodup_append] at hn
  have apart : ∀ {x : List UInt8} {k : Nat} {m : Mv}, L.look x = some b → ml'[k]? = some m → m.made = some b → False := fun h3 h4 h5 =>
    hn.2.2 b (List.mem_map.2 ⟨_, DirL.look_mem h3, rfl⟩) b (List.mem_filterMap.2 ⟨_, List.mem_of_getElem? h4, h5⟩) rfl
  rcases h1 with ⟨x, q1, q2⟩ | ⟨k, x, m, q1, q2, q3⟩
  · rcases h2 with ⟨y, r1, r2⟩ | ⟨k2, y, m2, r1, r2, r3⟩
    · have := nodup_inj (fun p : List UInt8 × Nat => p.2) hn.1 _ (DirL.look_mem q2) _ (DirL.look_mem r2) rfl
      have e : x = y := congrArg (fun p : List UInt8 × Nat => p.1) this
      subst e
      rw [q1] at r1
      cases r1
      rfl
    · exact (apart q2 r2 r3).elim
  · rcases h2 with ⟨y, r1, r2⟩ | ⟨k2, y, m2, r1, r2, r3⟩
    · exact (apart r2 q2 q3).elim
    · have e := filterMap_inj (fun m : Mv => m.made) hn.2.1 k k2 _ _ b q2 r2 q3 r3
      subst e
      rw [q1] at r1
      cases r1
      rfl
theorem clone_sim (Fr : Fresh a) (I : RInv N a) (hL : L.names.Perm (DirL.names a.safe)) (hLG : ∀ x ∈ L, ∃ b, (a.safe.mapB φ).look x.1 = some b ∧ SameF (G x.2) (F b)) (hlen : ml'.length = a.moves.length)
    (hlk : ∀ (i : Nat) (m : Mv), (a.moves.map (mvOf φ))[i]? = some m → ∃ m', ml'[i]? = some m' ∧ LikeMv F fl' m' m) (hmd : ml'.filterMap (fun m => m.made) = fl'.map (fun x => x.1)) (hnd : (filesBlocks (filesOf G L ++ fl')).Nodup)
    (hF : ∀ i, a.live i → (F (φ i)).safe = (a.file i).safe ∧ (F (φ i)).chg = (a.file i).chg ∧ (F (φ i)).data = (a.file i).data) :
    ∃ φ' : Nat → Nat, (∀ x, (a.safe.mapB φ').look x = L.look x) ∧ ml' = a.moves.map (mvOf φ') ∧ FSim φ' a (filesOf G L ++ fl') := by
  have hn1 := blocks_one hnd
  have e0 : (filesOf G L).map (fun x => x.1) = L.map (fun x => x.2) := by unfold filesOf; rw [List.map_map]; rfl
  rw [List.map_append] at hn1
  have hn2 : (L.map (fun x => x.2) ++ ml'.filterMap (fun m => m.made)).Nodup := by rw [hmd, ← e0]; exact hn1
  obtain ⟨φ', hφ⟩ : ∃ φ' : Nat → Nat, ∀ i b, CloneP a L ml' i b → φ' i = b := by
    classical
    exact ⟨fun i => if h : ∃ b, CloneP a L ml' i b then h.choose else 0, fun i b hb => by
      have hx : ∃ b, CloneP a L ml' i b := ⟨b, hb⟩
      show (if h : ∃ b, CloneP a L ml' i b then h.choose else 0) = b
      rw [dif_pos hx]
      exact CloneP.one Fr I hx.choose_spec hb⟩
  have hsome : ∀ x i, a.safe.look x = some i → ∃ b, L.look x = some b := fun x i e => by
    have := DirL.look_same hL x
    rw [e] at this
    exact Option.isSome_iff_exists.1 (by rw [this]; rfl)
  have hmade : ∀ (j : Nat) (x : ByteArray) (i : Nat), a.moves[j]? = some (.made x i) → ∃ b g m', ml'[j]? = some m' ∧ m'.made = some b ∧ (b, g) ∈ fl' ∧ SameF g (F (φ i)) := fun j x i e => by
    obtain ⟨m', k1, k2⟩ := hlk j (mvOf φ (.made x i)) (by rw [List.getElem?_map, e]; rfl)
    rcases k2.made with ⟨h1, _⟩ | ⟨b, b', g, h1, h2, h3, h4⟩
    · cases h1
    · cases h1
      exact ⟨b', g, m', k1, h2, h3, h4⟩
  have hfile : ∀ i, a.live i → ∃ b g, CloneP a L ml' i b ∧ (b, g) ∈ filesOf G L ++ fl' ∧ SameF g (F (φ i)) := fun i hi => by
    obtain ⟨m, x, e⟩ := hi
    have hcase : (∃ y, a.safe.look y = some i) ∨ i ∈ a.moves.filterMap RMv.num := by
      rcases look_from _ _ (okR_take _ _ m I.okr) x i e with h | h
      · exact .inl h
      · obtain ⟨mm, h1, h2⟩ := List.mem_filterMap.1 h
        exact .inr (List.mem_filterMap.2 ⟨mm, List.mem_of_mem_take h1, h2⟩)
    rcases hcase with ⟨y, hy⟩ | h
    · obtain ⟨b, hb⟩ := hsome y i hy
      obtain ⟨b0, h1, h2⟩ := hLG (y, b) (DirL.look_mem hb)
      rw [DirL.mapB_look, hy] at h1
      cases h1
      exact ⟨b, G b, .inl ⟨y, hy, hb⟩, List.mem_append_left _ (List.mem_map.2 ⟨(y, b), DirL.look_mem hb, rfl⟩), h2⟩
    · obtain ⟨mm, h1, h2⟩ := List.mem_filterMap.1 h
      obtain ⟨j, hj⟩ := List.getElem?_of_mem h1
      cases mm with
      | made y k =>
        have e : k = i := by simpa [RMv.num] using h2
        subst e
        obtain ⟨b, g, m', k1, k2, k3, k4⟩ := hmade j y k hj
        exact ⟨b, g, .inr ⟨j, y, m', hj, k1, k2⟩, List.mem_append_right _ k3, k4⟩
      | ren _ _ _ => simp [RMv.num] at h2
      | rem _ => simp [RMv.num] at h2
  refine ⟨φ', fun x => ?_, ?_, ⟨fun i hi => ?_, fun i j hi hj e => ?_⟩⟩
  · rw [DirL.mapB_look]
    cases e : a.safe.look x with
    | none =>
      have := DirL.look_same hL x
      rw [e] at this
      cases e2 : L.look x with
      | none => rfl
      | some _ => rw [e2] at this; cases this
    | some i =>
      obtain ⟨b, hb⟩ := hsome x i e
      rw [hb, Option.map_some, hφ i b (.inl ⟨x, e, hb⟩)]
  · refine List.ext_getElem? fun j => ?_
    rw [List.getElem?_map]
    cases e : a.moves[j]? with
    | none =>
      rw [List.getElem?_eq_none_iff] at e
      rw [List.getElem?_eq_none_iff.2 (by omega)]
      rfl
    | some m =>
      obtain ⟨m', k1, k2⟩ := hlk j (mvOf φ m) (by rw [List.getElem?_map, e]; rfl)
      rw [k1, Option.map_some]
      congr 1
      obtain ⟨s1, d1, md⟩ := m'
      obtain ⟨h1, h2, h3⟩ := k2
      dsimp only at h1 h2 h3
      subst h1 h2
      cases m with
      | made x i =>
        rcases h3 with ⟨h3, _⟩ | ⟨b, b', g, h3, h4, _⟩
        · cases h3
        · subst h4
          have := hφ i b' (.inr ⟨j, x, _, e, k1, rfl⟩)
          show (⟨_, _, some b'⟩ : Mv) = ⟨_, _, some (φ' i)⟩
          rw [this]
          rfl
      | ren x y i =>
        rcases h3 with ⟨_, h3⟩ | ⟨b, b', g, h3, _⟩
        · subst h3
          rfl
        · cases h3
      | rem x =>
        rcases h3 with ⟨_, h3⟩ | ⟨b, b', g, h3, _⟩
        · subst h3
          rfl
        · cases h3
  · obtain ⟨b, g, h1, h2, h3⟩ := hfile i hi
    have hf := hF i hi
    rw [hφ i b h1]
    exact ⟨g, h2, h3.1.trans hf.1, h3.2.2.trans hf.2.1, h3.2.1.trans hf.2.2⟩
  · obtain ⟨b, g, h1, _⟩ := hfile i hi
    obtain ⟨c, g2, h2, _⟩ := hfile j hj
    rw [hφ i b h1, hφ j c h2] at e
    subst e
    exact CloneP.inj hn2 h1 h2
end
end Go.Proofs.YtafcgjbafihniaaGreat

/-
  LAYER 1 (fs): Clone: a second file system that stands for the same plain one.
-/
namespace Go.Proofs.YtafcgjbafihniaaGreat
set_option maxRecDepth 100000
open Go.RowKit Go.Lib

/-- The number of a made file is alive. -/
theorem made_live : ∀ (ml : List RMv) (l : DirL) (j : Nat) (x : ByteArray) (i : Nat), ml[j]? = some (.made x i) → ((ml.take (j + 1)).foldl RMv.done l).look x.data.toList = some i
  | [], _, _, _, _, h => by simp at h
  | m :: ml, l, 0, x, i, h => by
    simp at h
    subst h
    exact DirL.look_put_same l x.data.toList i
  | m :: ml, l, j + 1, x, i, h => made_live ml (RMv.done l m) j x i (by simpa using h)
section
variable {n0 : Nat → Prop} {q : Nat} {a : RefP} {N : Nat} {w : World}
theorem FsSim.clone (S : FsSim n0 w q a) (Fr : Fresh a) (I : RInv N a) (hN : N ≤ 2199023255552) :
    Calls Tryz.prog 29 #[.pointer (some ⟨q, 0, none⟩)] w fun e w' => ∃ gq, e = .returned (.pointer (some ⟨gq, 0, none⟩)) ∧ FsSim (fun k => w.heap.size ≤ k) w' gq a ∧ w.grownBy w' none := by
  obtain ⟨φ, p, d, s, mv, fl, h, hs⟩ := S
  have hb := blocks_one h.files.2
  have hfl : ∀ i, a.live i → FileAt w (φ i) (fileOf fl (φ i)) ∧ (fileOf fl (φ i)).safe = (a.file i).safe ∧ (fileOf fl (φ i)).chg = (a.file i).chg ∧ (fileOf fl (φ i)).data = (a.file i).data := fun i hi => by
    obtain ⟨f, h1, h2, h3, h4⟩ := hs.file i hi
    rw [fileOf_mem hb h1]
    exact ⟨h.files.1 _ h1, h2, h3, h4⟩
  have hlen : ∀ i, a.live i → (fileOf fl (φ i)).safe.length ≤ 140737488355328 ∧ (fileOf fl (φ i)).data.length ≤ 140737488355328 ∧ (fileOf fl (φ i)).chg.length < 8796093022207 := fun i hi => by
    obtain ⟨_, h2, h3, h4⟩ := hfl i hi
    rw [h2, h3, h4]
    have hl := I.liveLt hi
    have hg := I.good _ (RefP.file_mem hl)
    have g1 := hg.head
    have g2 := hg.last
    have g3 := chgSum_set [] a.nodes i _ (RefP.file_at hl)
    have g4 := I.sum
    refine ⟨by omega, ?_, by omega⟩
    have : (a.file i).data.length ≤ 268435456 := g2
    omega
  have hm : okMoves (a.moves.map (mvOf φ)) (a.safe.mapB φ) := okMoves_mapB φ (N := 4096) (by decide) a.moves a.safe I.okr I.pre
  have hsl : ∀ x i, a.safe.look x = some i → a.live i := fun x i e => ⟨0, x, e⟩
  refine (clone_any (fileOf fl) w h I.pl.1 I.pl.2.1 I.pl.2.2.1 (fun b hb2 => ?_) hm (by rw [List.length_map]; have := I.ml; omega) (by rw [DirL.mapB_length]; have := I.safeOk0.len; unfold maxLen; omega)).mono ?_
  · have : ∃ i, a.live i ∧ b = φ i := by
      rcases hb2 with ⟨x, e⟩ | ⟨m, h1, h2⟩
      · rw [DirL.mapB_look] at e
        obtain ⟨i, h3, rfl⟩ := Option.map_eq_some_iff.1 e
        exact ⟨i, hsl x i h3, rfl⟩
      · obtain ⟨m0, h3, rfl⟩ := List.mem_map.1 h1
        cases m0 with
        | made y i =>
          cases h2
          obtain ⟨j, hj⟩ := List.getElem?_of_mem h3
          exact ⟨i, ⟨j + 1, _, made_live _ _ j y i hj⟩, rfl⟩
        | ren _ _ _ => cases h2
        | rem _ => cases h2
    obtain ⟨i, hi, rfl⟩ := this
    exact ⟨(hfl i hi).1, hlen i hi⟩
  · rintro e w' ⟨gq, gd, gs, p', L, G, rfl, ⟨ml', fl', mv', k1, k2, k3, k4, k5, k6⟩, k7, k8⟩
    rw [List.take_length] at k5
    rw [DirL.mapB_names] at k7
    obtain ⟨φ', f1, f2, f3⟩ := clone_sim Fr I k7 k8 (by rw [k3, List.length_map]) k5 k6 k1.files.2 (fun i hi => (hfl i hi).2)
    refine ⟨gq, rfl, ⟨φ', p', gd, gs, mv', _, ?_, f3⟩, k2⟩
    have hdir : a.dir.mapB φ' = movesDone ml' (a.safe.mapB φ') := by rw [f2, movesDone_mapB φ' a.moves a.safe I.okr, ← I.dir]
    rw [← f2]
    refine k1.relist (by rw [DirL.mapB_names]; exact I.dirOk.names) (by rw [DirL.mapB_names]; exact I.safeOk0.names) (fun x => ?_) f1
    rw [hdir]
    exact movesDone_look ml' f1 x
end
end Go.Proofs.YtafcgjbafihniaaGreat
