/-
  LAYER 1 (fs): the operations as plain data: what each answers and leaves; what they keep to.
-/
import Derived.Test.YtafcgjbafihniaaGreatFA17
import Derived.Test.YtafcgjbafihniaaGreatFA11
import Derived.Test.YtafcgjbafihniaaGreatFA12
import Derived.Deep.RegionHeld3
namespace Go.Proofs.YtafcgjbafihniaaGreat
set_option maxRecDepth 100000
open Go.RowKit Go.Lib

theorem sum_bound {α : Type} (f : α → Nat) (M : Nat) : ∀ l : List α, (∀ x ∈ l, f x ≤ M) → (l.map f).sum ≤ l.length * M
  | [], _ => by simp
  | x :: l, h => by
    have h1 := h x (by simp)
    have h2 := sum_bound f M l (fun y hy => h y (by simp [hy]))
    simp only [List.map_cons, List.sum_cons, List.length_cons, Nat.add_mul, Nat.one_mul]
    omega
theorem DirL.sorted_look (l : DirL) : ∀ y ∈ l.sorted, l.look y.1 = some y.2 := by
  intro y hy
  unfold DirL.sorted at hy
  obtain ⟨x, hx, rfl⟩ := List.mem_map.1 hy
  obtain ⟨b, hb⟩ := Option.isSome_iff_exists.1 (DirL.look_names.2 (List.mem_mergeSort.1 hx))
  dsimp only
  rw [hb]
  rfl
def NodeP.push (n : NodeP) (c : Chg) : NodeP := ⟨n.safe, n.chg ++ [c]⟩
/-- All files' bytes. -/
def RefP.used (a : RefP) : Nat := (a.dir.sorted.map fun x => (a.file x.2).data.length).sum
def RefP.cut (a : RefP) (s : ByteArray) (long : Int) : Int × RefP :=
  if a.begin.1 = 0 then (match a.dir.look s.data.toList with
    | none => (14, { a with count := a.count + 1 })
    | some j => if long < 0 ∨ ((a.file j).data.length : Int) < long then (1, { a with count := a.count + 1 })
      else if long < ((a.file j).data.length : Int) then (0, { a with count := a.count + 1, nodes := a.nodes.set j ((a.file j).push (.cut long.toNat)) })
      else (0, { a with count := a.count + 1 }))
  else a.begin
def RefP.append (a : RefP) (s : ByteArray) (bs : List UInt8) : Int × RefP :=
  if a.begin.1 = 0 then (match a.dir.look s.data.toList with
    | none => (14, { a with count := a.count + 1 })
    | some j => if 268435456 < bs.length + (a.file j).data.length then (2, { a with count := a.count + 1 })
      else if a.pl.full.contains (a.count + 1) = true then (11, { a with count := a.count + 1 })
      else if 0 < bs.length ∧ 0 < a.pl.room ∧ a.pl.room < (a.used + bs.length : Nat) then (11, { a with count := a.count + 1 })
      else if bs = [] then (0, { a with count := a.count + 1 })
      else (0, { a with count := a.count + 1, nodes := a.nodes.set j ((a.file j).push (.add ⟨bs.toArray⟩)) }))
  else a.begin
def RefP.start (a : RefP) (p : Pl) : RefP := { (if a.died = true then a else a.die) with died := false, count := 0, pl := p }
def RefP.new (p : Pl) : RefP := ⟨p, 0, false, [], [], [], []⟩
def RefP.read (a : RefP) (s : ByteArray) (i n : Int) : List UInt8 × Int :=
  if a.died = true then ([], 12) else match a.dir.look s.data.toList with
    | none => ([], 14)
    | some j => if i < 0 ∨ n < 0 ∨ ((a.file j).data.length : Int) < i ∨ ((a.file j).data.length : Int) - i < n then ([], 1) else (((a.file j).data.drop i.toNat).take n.toNat, 0)
def RefP.files (a : RefP) : List (List UInt8 × List UInt8) := if a.died = true then [] else a.dir.sorted.map fun x => (x.1, (a.file x.2).data)
def RefP.safeFiles (a : RefP) : List (List UInt8 × List UInt8) := a.safe.sorted.map fun x => (x.1, (a.file x.2).safe)

theorem RefP.file_mem {a : RefP} {j : Nat} (h : j < a.nodes.length) : a.file j ∈ a.nodes := by
  unfold RefP.file
  rw [List.getD_eq_getElem?_getD, List.getElem?_eq_getElem h]
  exact List.getElem_mem h
theorem RefP.file_at {a : RefP} {j : Nat} (h : j < a.nodes.length) : a.nodes[j]? = some (a.file j) := by
  unfold RefP.file
  rw [List.getD_eq_getElem?_getD, List.getElem?_eq_getElem h]
  rfl
theorem okName_size {s : ByteArray} (h : okName s = true) : 1 ≤ s.size ∧ s.size ≤ 32 := by
  unfold okName at h
  simp only [Bool.and_eq_true, decide_eq_true_eq] at h
  exact h.1
theorem chgSum_push (c : Chg) : ∀ (ns : List NodeP) (j : Nat) (n : NodeP), ns[j]? = some n → chgSum (ns.set j (n.push c)) = chgSum ns + 1
  | [], _, _, h => by simp at h
  | x :: ns, 0, n, h => by
    simp at h
    subst h
    simp only [chgSum, List.set_cons_zero, List.map_cons, List.sum_cons, NodeP.push, List.length_append, List.length_singleton]
    omega
  | x :: ns, j + 1, n, h => by
    have ih := chgSum_push c ns j n (by simpa using h)
    simp only [chgSum, List.set_cons_succ, List.map_cons, List.sum_cons] at ih ⊢
    omega
section
variable {N : Nat} {a : RefP}
/-- A file turned. -/
theorem RInv.setNode (h : RInv N a) {M : Nat} (hM : N + 1 ≤ M) (j : Nat) (n : NodeP) (hn : okB n.safe n.chg) (hs : chgSum (a.nodes.set j n) ≤ M) : RInv M { a with count := a.count + 1, nodes := a.nodes.set j n } := by
  have k := h.counted.weak hM
  refine ⟨k.pl, ?_, k.ml, k.okr, fun m => ?_, k.dir, fun n' hn' => ?_, hs, k.c0, k.c9⟩
  · show (a.nodes.set j n).length ≤ M
    rw [List.length_set]
    exact k.nl
  · show DOk 4096 (a.nodes.set j n).length _
    rw [List.length_set]
    exact k.pre m
  · rcases List.mem_or_eq_of_mem_set hn' with h1 | rfl
    · exact k.good n' h1
    · exact hn
theorem RInv.create (h : RInv N a) (s : ByteArray) : RInv (N + 1) (a.create s).2 := by
  unfold RefP.create
  split
  · split
    · rename_i hnm
      split
      · exact h.counted
      · split
        · exact h.counted
        · split
          · exact h.counted
          · refine h.move (.made s a.nodes.length) (okName_size hnm) (a.nodes ++ [⟨[], []⟩]) (by simp) ?_ ?_ ?_ ?_
            · have := h.nl
              simp only [List.length_append, List.length_singleton]
              omega
            · intro n hn
              rcases List.mem_append.1 hn with h1 | h1
              · exact h.good n h1
              · simp at h1
                subst h1
                exact Nat.zero_le _
            · have := h.sum
              have e : chgSum (a.nodes ++ [⟨[], []⟩]) = chgSum a.nodes := by simp [chgSum]
              omega
            · intro x i e
              cases e
              exact ⟨Nat.le_refl _, by simp, by omega⟩
    · exact h.counted
  · exact h.begin
theorem RInv.remove (h : RInv N a) (s : ByteArray) : RInv (N + 1) (a.remove s).2 := by
  unfold RefP.remove
  split
  · split
    · rename_i hl
      have k := h.weak (Nat.le_succ N)
      exact h.move (.rem s) hl a.nodes (Nat.le_refl _) k.nl k.good k.sum (fun x i e => by cases e)
    · exact h.counted
  · exact h.begin
theorem RInv.rename (h : RInv N a) (s t : ByteArray) : RInv (N + 1) (a.rename s t).2 := by
  unfold RefP.rename
  split
  · split
    · exact h.counted
    · rename_i j hl
      split
      · rename_i hnm
        split
        · exact h.counted
        · have k := h.weak (Nat.le_succ N)
          exact h.move (.ren s t j) ⟨hl, okName_size hnm⟩ a.nodes (Nat.le_refl _) k.nl k.good k.sum (fun x i e => by cases e)
      · exact h.counted
  · exact h.begin
theorem RInv.syncDir (h : RInv N a) : RInv (N + 1) a.syncDir.2 := by
  unfold RefP.syncDir
  split
  · split
    · exact h.counted
    · have k := h.counted
      refine ⟨k.pl, k.nl, Nat.zero_le _, trivial, fun m => ?_, rfl, k.good, k.sum, k.c0, k.c9⟩
      show DOk 4096 a.nodes.length ((([] : List RMv).take m).foldl RMv.done a.dir)
      rw [List.take_nil]
      exact k.dirOk
  · exact h.begin
theorem RInv.sync (h : RInv N a) (s : ByteArray) : RInv (N + 1) (a.sync s).2 := by
  unfold RefP.sync
  split
  · split
    · exact h.counted
    · rename_i j hl
      have hj := h.dirOk.lookLt hl
      have hm := RefP.file_mem hj
      have ha := RefP.file_at hj
      have h1 := (h.good _ hm).last
      have h3 := chgSum_set (a.file j).data a.nodes j _ ha
      have h4 := h.sum
      refine h.setNode (Nat.le_refl _) j (a.file j).synced h1 ?_
      · show chgSum (a.nodes.set j ⟨(a.file j).data, []⟩) ≤ N + 1
        omega
  · exact h.begin
theorem RInv.cut (h : RInv N a) (s : ByteArray) (long : Int) : RInv (N + 1) (a.cut s long).2 := by
  unfold RefP.cut
  split
  · split
    · exact h.counted
    · rename_i j hl
      have hj := h.dirOk.lookLt hl
      have hm := RefP.file_mem hj
      have ha := RefP.file_at hj
      split
      · exact h.counted
      · rename_i h1
        split
        · rename_i h2
          have hg := h.good _ hm
          have hl2 := hg.last
          refine h.setNode (Nat.le_refl _) j _ (hg.add ?_ ?_) ?_
          · show long.toNat ≤ (a.file j).data.length
            omega
          · show (List.take long.toNat (a.file j).data).length ≤ 268435456
            rw [List.length_take]
            exact Nat.le_trans (Nat.min_le_right _ _) hl2
          · rw [chgSum_push _ _ _ _ ha]
            have := h.sum
            omega
        · exact h.counted
  · exact h.begin
theorem RInv.append (h : RInv N a) (s : ByteArray) (bs : List UInt8) : RInv (N + 1) (a.append s bs).2 := by
  have hw : N + 1 ≤ N + 1 := Nat.le_refl _
  unfold RefP.append
  split
  · split
    · exact h.counted.weak hw
    · rename_i j hl
      have hj := h.dirOk.lookLt hl
      have hm := RefP.file_mem hj
      have ha := RefP.file_at hj
      split
      · exact h.counted.weak hw
      · rename_i h1
        split
        · exact h.counted.weak hw
        · split
          · exact h.counted.weak hw
          · split
            · exact h.counted.weak hw
            · have hg := h.good _ hm
              refine h.setNode hw j _ (hg.add ?_ ?_) ?_
              · show (a.file j).data.length + bs.toArray.size ≤ 140737488355328
                simp only [List.size_toArray]
                omega
              · show ((a.file j).data ++ bs.toArray.toList).length ≤ 268435456
                rw [List.length_append, List.toList_toArray]
                omega
              · rw [chgSum_push _ _ _ _ ha]
                have := h.sum
                omega
  · exact h.begin.weak hw
theorem RInv.start (h : RInv N a) (p : Pl) (hp : planFits p) : RInv N (a.start p) := by
  have k : RInv N (if a.died = true then a else a.die) := by
    split
    · exact h
    · exact h.die
  exact ⟨hp, k.nl, k.ml, k.okr, k.pre, k.dir, k.good, k.sum, Int.le_refl 0, by show (0 : Int) ≤ N; omega⟩
theorem RInv.new (p : Pl) (hp : planFits p) : RInv 0 (RefP.new p) := by
  refine ⟨hp, Nat.le_refl _, Nat.le_refl _, trivial, fun m => ?_, rfl, (fun n hn => by cases hn), Nat.le_refl _, Int.le_refl _, Int.le_refl _⟩
  show DOk 4096 0 ((([] : List RMv).take m).foldl RMv.done [])
  rw [List.take_nil]
  exact DOk.nil
end
end Go.Proofs.YtafcgjbafihniaaGreat

/-
  LAYER 1 (fs): Start of a whole file system that is dead already.
-/
namespace Go.Proofs.YtafcgjbafihniaaGreat
set_option maxRecDepth 100000
open Go.RowKit Go.Lib
open Go.Proofs (encStr)

section
variable {n0 : Nat → Prop} {w : World} {q : Nat} {p : PlV} {pl : Pl} {ops : Int} {d s : Nat} {mv : Value} {ld ls : DirL} {ml : List Mv} {fl : List (Nat × FileV)}

theorem start_dead (vk vf vu : Value) (pl2 : Pl) (h : FsOk n0 w q true p pl ops d s mv ld ls ml fl) (hn0 : ∀ k, w.heap.size ≤ k → n0 k)
    (hA : ∀ W', GP n0 w W' → Ints W' vk pl2.keep ∧ Ints W' vf pl2.fail ∧ Ints W' vu pl2.full) (lk : pl2.keep.length * 8 ≤ 140737488351232) (lf : pl2.fail.length * 8 ≤ 140737488351232) (lu : pl2.full.length * 8 ≤ 140737488351232) :
    Calls Tryz.prog 25 #[.pointer (some ⟨q, 0, none⟩), .agg #[.int .i64 pl2.crash, vk, vf, vu, .int .i64 pl2.room]] w fun e w' => e = .returned (.int .i64 0) ∧ ∃ p', FsOk n0 w' q false p' pl2 0 d s mv ld ls ml fl ∧ (∀ k, FsFoot q d s p' mv fl k → FsFoot q d s p mv fl k ∨ w.heap.size ≤ k) ∧ GP (fun k => k = q) w w' := by
  have hql := h.fs.lt
  have hqn := h.new q (.inl rfl)
  refine (start_gen true (fun W W' d' mv' => W' = W ∧ d' = d ∧ mv' = mv)
    vk vf vu pl2 w h.fs (fun e => by cases e) (fun _ W hW => ⟨rfl, rfl, rfl⟩) (fun W W' d' mv' hW hD => ?_) lk lf lu).mono ?_
  · obtain ⟨rfl, rfl, rfl⟩ := hD
    have gs := gset (World.grownBy.refl W' (some q)) 1 (.bool false)
    have gA : GP n0 w (W'.setCell ⟨q, 1, none⟩ (.bool false)) := ((GP.of (P := n0) hW (by simp)).step gs (fun k e => by cases e; exact .inl hqn))
    have hA2 := hA _ gA
    exact ⟨Nat.le_refl _, hA2.1, hA2.2.1, hA2.2.2, fun x hx => hx⟩
  · rintro e w' ⟨rfl, W, W', d', mv', k', f', u', g0, ⟨rfl, rfl, rfl⟩, hsz, r1, r2, r3, r4, g5⟩
    have g45 : GP (fun k => k = q) w w' := ((GP.of (P := fun k => k = q) g0 (by simp)).trans g5 (fun k hk => .inl hk))
    have hnq : ∀ k, FsFoot q d' s p mv' fl k → k = q → k = q := fun k _ e => e
    have big : ∀ {v : Value} {n : Nat} {xs : List Value}, w'.ownsRow W'.heap.size 3 1 v n xs → ∀ k, v.ownBlock = some k → w.heap.size ≤ k := fun {v n xs} hv k e => by
      have h1 := (World.ownsRow.lt hv k e).1
      have := g0.size
      omega
    have hfoot : ∀ k, FsFoot q d' s ⟨pl2.crash, k', f', u', pl2.room⟩ mv' fl k → FsFoot q d' s p mv' fl k ∨ w.heap.size ≤ k := by
      intro k hk
      rcases hk with e | e | e | e | e | e | e | e
      · exact .inl (.inl e)
      · exact .inl (.inr (.inl e))
      · exact .inl (.inr (.inr (.inl e)))
      · exact .inl (.inr (.inr (.inr (.inl e))))
      · exact .inr (big r2 k e)
      · exact .inr (big r3 k e)
      · exact .inr (big r4 k e)
      · exact .inl (.inr (.inr (.inr (.inr (.inr (.inr (.inr e)))))))
    have rq := h.row_fs h.mr (by decide)
    exact ⟨rfl, _, ⟨r1, rfl, rfl, rowMono r2 (Nat.zero_le _), rowMono r3 (Nat.zero_le _), rowMono r4 (Nat.zero_le _), h.dir.gp g45 h.ndq, h.safe.gp g45 h.nsq, own_gp h.mr g45 (fun k e e2 => rq.1 (by rw [e, e2])), h.files.kept g45 (fun k hk e => (h.fb k hk).1 e), h.nds, fun k hk => (hfoot k hk).elim (h.new k) (hn0 k)⟩, hfoot, g45⟩
end
end Go.Proofs.YtafcgjbafihniaaGreat

/-
  LAYER 1 (fs): the program's file system beside the reference's: the same names, moves and files; a death keeps it so.
-/
namespace Go.Proofs.YtafcgjbafihniaaGreat
set_option maxRecDepth 100000
open Go.RowKit Go.Lib

/-- Which numbers matter. -/
def RefP.live (a : RefP) (i : Nat) : Prop := ∃ m x, ((a.moves.take m).foldl RMv.done a.safe).look x = some i
/-- The files of the one are the files of the other, number i in block φ i. -/
structure FSim (φ : Nat → Nat) (a : RefP) (fl : List (Nat × FileV)) : Prop where
  file : ∀ i, a.live i → ∃ f, (φ i, f) ∈ fl ∧ f.safe = (a.file i).safe ∧ f.chg = (a.file i).chg ∧ f.data = (a.file i).data
  inj : ∀ i j, a.live i → a.live j → φ i = φ j → i = j

theorem pair_all {α : Type} {R : α → α → Prop} (hs : ∀ x y, R x y → R y x) : ∀ {l : List α}, l.Pairwise R → ∀ x ∈ l, ∀ y ∈ l, x ≠ y → R x y
  | [], _, x, hx, _, _, _ => by simp at hx
  | z :: l, h, x, hx, y, hy, hne => by
    rw [List.pairwise_cons] at h
    rcases List.mem_cons.1 hx with e1 | hx2
    · rcases List.mem_cons.1 hy with e2 | hy2
      · exact (hne (by rw [e1, e2])).elim
      · rw [e1]
        exact h.1 y hy2
    · rcases List.mem_cons.1 hy with e2 | hy2
      · rw [e2]
        exact hs _ _ (h.1 x hx2)
      · exact pair_all hs h.2 x hx2 y hy2 hne
/-- Some of many files. -/
theorem FilesM.some {w : World} {fl gl : List (Nat × FileV)} (h : FilesM w fl) (hs : ∀ p ∈ gl, p ∈ fl) (hn : gl.Nodup) : FilesM w gl ∧ ∀ k ∈ filesBlocks gl, k ∈ filesBlocks fl := by
  refine ⟨⟨fun p hp => h.1 p (hs p hp), ?_⟩, fun k hk => ?_⟩
  · have h2 := h.2
    unfold filesBlocks at h2 ⊢
    rw [List.Nodup, List.pairwise_flatMap] at h2 ⊢
    refine ⟨fun a ha => h2.1 a (hs a ha), ?_⟩
    refine List.Pairwise.imp_of_mem (fun {x y} hx hy hne => ?_) hn
    exact pair_all (fun x y hxy u hu v hv e => hxy v hv u hu e.symm) h2.2 x (hs x hx) y (hs y hy) hne
  · obtain ⟨p, hp, e⟩ := mem_filesBlocks.1 hk
    exact mem_filesBlocks.2 ⟨p, hs p hp, e⟩
/-- The file that lies in a block. -/
def fileOf (fl : List (Nat × FileV)) (b : Nat) : FileV := ((fl.find? fun p => p.1 == b).map (·.2)).getD ⟨.slice none 0 0, .slice none 0 0, .slice none 0 0, [], [], []⟩
theorem blocks_one : ∀ {fl : List (Nat × FileV)}, (filesBlocks fl).Nodup → (fl.map (·.1)).Nodup
  | [], _ => by simp
  | p :: fl, h => by
    rw [filesBlocks_cons, List.nodup_cons, List.nodup_append] at h
    rw [List.map_cons, List.nodup_cons]
    refine ⟨fun hm => ?_, blocks_one h.2.2.1⟩
    obtain ⟨p2, hp2, e⟩ := List.mem_map.1 hm
    exact h.1 (List.mem_append.2 (.inr (mem_filesBlocks.2 ⟨p2, hp2, .inl e.symm⟩)))
theorem fileOf_mem : ∀ {fl : List (Nat × FileV)}, (fl.map (·.1)).Nodup → ∀ {b : Nat} {f : FileV}, (b, f) ∈ fl → fileOf fl b = f
  | [], _, _, _, h => by simp at h
  | p :: fl, hn, b, f, h => by
    rw [List.map_cons, List.nodup_cons] at hn
    unfold fileOf
    rcases List.mem_cons.1 h with rfl | h
    · simp
    · have hne : ¬ p.1 = b := fun e => hn.1 (by rw [e]; exact List.mem_map.2 ⟨_, h, rfl⟩)
      rw [List.find?_cons_of_neg (by simpa using hne)]
      exact fileOf_mem hn.2 h
theorem look_of_mem : ∀ {l : DirL}, l.names.Nodup → ∀ {x : List UInt8} {b : Nat}, (x, b) ∈ l → l.look x = some b
  | [], _, _, _, h => by simp at h
  | p :: l, hn, x, b, h => by
    unfold DirL.names at hn
    rw [List.map_cons, List.nodup_cons] at hn
    unfold DirL.look
    rcases List.mem_cons.1 h with rfl | h
    · simp
    · have hne : ¬ p.1 = x := fun e => hn.1 (by rw [e]; exact List.mem_map.2 ⟨_, h, rfl⟩)
      rw [List.find?_cons_of_neg (by simpa using hne)]
      exact look_of_mem hn.2 h
theorem sorted_perm {l : DirL} (h : l.names.Nodup) : l.sorted.Perm l := by
  have e : l = l.names.map fun x => (x, (l.look x).getD 0) := by
    unfold DirL.names
    rw [List.map_map]
    conv => lhs; rw [← List.map_id l]
    refine List.map_congr_left fun p hp => ?_
    have := look_of_mem h (x := p.1) (b := p.2) hp
    show p = (p.1, (l.look p.1).getD 0)
    rw [this]
    rfl
  unfold DirL.sorted
  conv => rhs; rw [e]
  exact (List.mergeSort_perm _ _).map _

section
variable {ks : Nat → Int} {D : DirL}
/-- How many changes the file of a name has. -/
def chgLen (D : DirL) (ns : List NodeP) (x : List UInt8) : Nat := match D.look x with
  | none => 0
  | some j => (ns.getD j ⟨[], []⟩).chg.length
theorem nodesDie_other (j : Nat) : ∀ (xs : List (List UInt8)) (i : Nat) (ns : List NodeP), (∀ x ∈ xs, D.look x ≠ some j) → (nodesDie ks D xs i ns)[j]? = ns[j]?
  | [], _, _, _ => rfl
  | x :: xs, i, ns, h => by
    have h1 := h x (by simp)
    have h2 : ∀ y ∈ xs, D.look y ≠ some j := fun y hy => h y (by simp [hy])
    unfold nodesDie
    cases hlx : D.look x with
    | none => exact nodesDie_other j xs i ns h2
    | some j2 =>
      have hj2 := hlx
      dsimp only
      split
      · exact nodesDie_other j xs i ns h2
      · rw [nodesDie_other j xs _ _ h2, List.getElem?_set_ne (fun e => h1 (by rw [hj2, e]))]
theorem nodesDie_at : ∀ (xs : List (List UInt8)) (i : Nat) (ns : List NodeP), (∀ x ∈ xs, ∃ j, D.look x = some j ∧ j < ns.length) → xs.Nodup → (∀ x ∈ xs, ∀ y ∈ xs, D.look x = D.look y → x = y) →
    ∀ (k : Nat) (x : List UInt8) (j : Nat) (n : NodeP), xs[k]? = some x → D.look x = some j → ns[j]? = some n → (nodesDie ks D xs i ns)[j]? = some ⟨settleP ks (i + ((xs.take k).map (chgLen D ns)).sum) true n.safe n.chg, []⟩
  | [], _, _, _, _, _, _, _, _, _, h, _, _ => by simp at h
  | x0 :: xs, i, ns, hall, hnd, hone, k, x, j, n, hk, hj, hn => by
    rw [List.nodup_cons] at hnd
    obtain ⟨j0, hj0, hl0⟩ := hall x0 (by simp)
    have hall2 : ∀ (ns2 : List NodeP), ns2.length = ns.length → ∀ y ∈ xs, ∃ j, D.look y = some j ∧ j < ns2.length := fun ns2 e y hy => by
      obtain ⟨j1, h1, h2⟩ := hall y (by simp [hy])
      exact ⟨j1, h1, by omega⟩
    have hone2 : ∀ x ∈ xs, ∀ y ∈ xs, D.look x = D.look y → x = y := fun x hx y hy e => hone x (by simp [hx]) y (by simp [hy]) e
    obtain ⟨n0, hn0⟩ : ∃ n0, ns[j0]? = some n0 := ⟨_, List.getElem?_eq_getElem hl0⟩
    have hrest : ∀ y ∈ xs, D.look y ≠ some j0 := fun y hy e => by
      have := hone y (by simp [hy]) x0 (by simp) (by rw [e, hj0])
      exact hnd.1 (by rw [← this]; exact hy)
    have hstep : nodesDie ks D (x0 :: xs) i ns = nodesDie ks D xs (i + n0.chg.length) (ns.set j0 ⟨settleP ks i true n0.safe n0.chg, []⟩) := by
      conv => lhs; unfold nodesDie
      rw [hj0]
      dsimp only
      rw [hn0]
    rw [hstep]
    cases k with
    | zero =>
      simp at hk
      subst hk
      rw [hj0] at hj
      obtain rfl : j0 = j := by simpa using hj
      rw [hn0] at hn
      obtain rfl : n0 = n := by simpa using hn
      rw [nodesDie_other j0 xs _ _ hrest, List.getElem?_set_self hl0]
      simp
    | succ k =>
      have hk2 : xs[k]? = some x := by simpa using hk
      have hxm := List.mem_of_getElem? hk2
      have hne : j0 ≠ j := fun e => hrest x hxm (by rw [hj, e])
      have ih := nodesDie_at xs (i + n0.chg.length) (ns.set j0 ⟨settleP ks i true n0.safe n0.chg, []⟩) (hall2 _ (by simp)) hnd.2 hone2 k x j n hk2 hj (by rw [List.getElem?_set_ne hne]; exact hn)
      rw [ih]
      have e1 : chgLen D ns x0 = n0.chg.length := by
        unfold chgLen
        rw [hj0]
        dsimp only
        rw [List.getD_eq_getElem?_getD, hn0]
        rfl
      have e2 : (xs.take k).map (chgLen D (ns.set j0 ⟨settleP ks i true n0.safe n0.chg, []⟩)) = (xs.take k).map (chgLen D ns) := by
        refine List.map_congr_left fun y hy => ?_
        have hy2 := List.mem_of_mem_take hy
        unfold chgLen
        cases hly : D.look y with
        | none => rfl
        | some j1 =>
          dsimp only
          have hne1 : j0 ≠ j1 := fun e => hrest y hy2 (by rw [hly, e])
          rw [List.getD_eq_getElem?_getD, List.getD_eq_getElem?_getD, List.getElem?_set_ne hne1]
      rw [e2, List.take_succ_cons, List.map_cons, List.sum_cons, e1, ← Nat.add_assoc]
end
end Go.Proofs.YtafcgjbafihniaaGreat

/-
  LAYER 1 (fs): the program's file system beside the reference's: what a death leaves of both.
-/
namespace Go.Proofs.YtafcgjbafihniaaGreat
set_option maxRecDepth 100000
open Go.RowKit Go.Lib

theorem RInv.chgLe {N : Nat} {a : RefP} (I : RInv N a) {j : Nat} (hj : j < a.nodes.length) : (a.file j).chg.length ≤ N := by
  have h1 := chgSum_set [] a.nodes j _ (RefP.file_at hj)
  have h2 := I.sum
  omega

theorem die_sim {n0 : Nat → Prop} {w : World} {q : Nat} {p : PlV} {d s : Nat} {mv : Value} {ops : Int} {dead : Bool} {pl : Pl} {φ : Nat → Nat} {fl : List (Nat × FileV)} {a : RefP} {N : Nat}
    (h : FsOk n0 w q dead p pl ops d s mv (a.dir.mapB φ) (a.safe.mapB φ) (a.moves.map (mvOf φ)) fl) (S : FSim φ a fl) (I : RInv N a) (hN : N ≤ 2199023255552) :
    a.dieDir.mapB φ = movesDone ((a.moves.map (mvOf φ)).take (dieN a.pl.keep (a.moves.map (mvOf φ)))) (a.safe.mapB φ) ∧ okMoves ((a.moves.map (mvOf φ)).take (dieN a.pl.keep (a.moves.map (mvOf φ)))) (a.safe.mapB φ) ∧ (a.moves.map (mvOf φ)).length < 3518437208882 ∧ (a.dieDir.mapB φ).length ≤ 3518437208881 ∧
      FilesM w (filesOf (fileOf fl) (a.dieDir.mapB φ).sorted) ∧ (∀ k ∈ filesBlocks (filesOf (fileOf fl) (a.dieDir.mapB φ).sorted), k ∈ filesBlocks fl) ∧ (∀ x ∈ (a.dieDir.mapB φ).sorted, okL (fileOf fl x.2).safe (fileOf fl x.2).chg ∧ (fileOf fl x.2).safe.length ≤ 140737488355328) ∧ 1 + cnt (fileOf fl) (a.dieDir.mapB φ).sorted < 4611686018427387904 ∧
      (∀ G : Nat → FileV, (∀ i x, (a.dieDir.mapB φ).sorted[i]? = some x → diedAs (keepAt a.pl.keep) (fileOf fl) (1 + cnt (fileOf fl) ((a.dieDir.mapB φ).sorted.take i)) x.2 (G x.2)) → FSim φ a.die (filesOf G (a.dieDir.mapB φ).sorted)) := by
  obtain ⟨nm, hnm⟩ : ∃ nm, nm = dieN a.pl.keep (a.moves.map (mvOf φ)) := ⟨_, rfl⟩
  have hnm2 : nm = dieL a.pl.keep a.moves.length := by rw [hnm]; unfold dieN dieL; rw [List.length_map]
  have hdd : a.dieDir = (a.moves.take nm).foldl RMv.done a.safe := by rw [hnm2]; rfl
  have hD : DOk 4096 a.nodes.length a.dieDir := by rw [hdd]; exact I.pre nm
  rw [← hnm]
  have hl' : a.dieDir.mapB φ = movesDone ((a.moves.map (mvOf φ)).take nm) (a.safe.mapB φ) := by
    rw [← List.map_take, movesDone_mapB _ _ _ (okR_take _ _ _ I.okr), hdd]
  have hm : okMoves ((a.moves.map (mvOf φ)).take nm) (a.safe.mapB φ) := by
    rw [← List.map_take]
    exact okMoves_mapB φ (N := 4096) (K := a.nodes.length) (by unfold maxLen; omega) _ _ (okR_take _ _ _ I.okr) (fun m => by rw [List.take_take]; exact I.pre _)
  have hlive : ∀ x i, a.dieDir.look x = some i → a.live i := fun x i e => ⟨nm, x, by rw [← hdd]; exact e⟩
  have hlook : ∀ x ∈ a.dieDir.sorted, a.dieDir.look x.1 = some x.2 := fun x hx => look_of_mem hD.names ((sorted_perm hD.names).mem_iff.1 hx)
  have hF : ∀ i, a.live i → (φ i, fileOf fl (φ i)) ∈ fl ∧ (fileOf fl (φ i)).safe = (a.file i).safe ∧ (fileOf fl (φ i)).chg = (a.file i).chg ∧ (fileOf fl (φ i)).data = (a.file i).data := fun i hi => by
    obtain ⟨f, h1, h2⟩ := S.file i hi
    rw [fileOf_mem (blocks_one h.files.2) h1]
    exact ⟨h1, h2⟩
  have hlt : ∀ x ∈ a.dieDir.sorted, x.2 < a.nodes.length := fun x hx => hD.lookLt (hlook x hx)
  have hsrt : (a.dieDir.mapB φ).sorted = DirL.mapB φ a.dieDir.sorted := DirL.mapB_sorted φ _
  have hsn : (a.dieDir.sorted.map (·.2)).Nodup := ((sorted_perm hD.names).map _).nodup_iff.2 hD.nums
  rw [hsrt]
  have hfo : ∀ G : Nat → FileV, filesOf G (DirL.mapB φ a.dieDir.sorted) = a.dieDir.sorted.map (fun x => (φ x.2, G (φ x.2))) := fun G => by
    unfold filesOf DirL.mapB
    rw [List.map_map]
    rfl
  have hsome := FilesM.some (gl := filesOf (fileOf fl) (DirL.mapB φ a.dieDir.sorted)) h.files (fun pp hp => by
    rw [hfo] at hp
    obtain ⟨x, hx, rfl⟩ := List.mem_map.1 hp
    exact (hF x.2 (hlive _ _ (hlook x hx))).1) (by
    rw [hfo, List.Nodup, List.pairwise_map]
    rw [List.Nodup, List.pairwise_map] at hsn
    refine List.Pairwise.imp_of_mem (fun {x y} hx hy hne e => hne ?_) hsn
    exact S.inj _ _ (hlive _ _ (hlook x hx)) (hlive _ _ (hlook y hy)) (Prod.mk.inj e).1)
  have hslen : a.dieDir.sorted.length ≤ 4096 := by rw [DirL.sorted_length]; exact hD.len
  refine ⟨hl', hm, ?_, ?_, hsome.1, hsome.2, ?_, ?_, ?_⟩
  · rw [List.length_map]
    have := I.ml
    omega
  · rw [DirL.mapB_length]
    have := hD.len
    omega
  · intro x hx
    obtain ⟨y, hy, rfl⟩ := List.mem_map.1 hx
    have h1 := hF y.2 (hlive _ _ (hlook y hy))
    have h2 := I.good _ (RefP.file_mem (hlt y hy))
    dsimp only
    rw [h1.2.1, h1.2.2.1]
    exact ⟨h2.okL, Nat.le_trans h2.head (by omega)⟩
  · have h1 : cnt (fileOf fl) (DirL.mapB φ a.dieDir.sorted) ≤ a.dieDir.sorted.length * N := by
      unfold cnt DirL.mapB
      rw [List.map_map]
      refine sum_bound _ N _ (fun x hx => ?_)
      show (fileOf fl (φ x.2)).chg.length ≤ N
      rw [(hF x.2 (hlive _ _ (hlook x hx))).2.2.1]
      exact I.chgLe (hlt x hx)
    have h2 : a.dieDir.sorted.length * N ≤ 4096 * 2199023255552 := Nat.mul_le_mul hslen hN
    omega
  · intro G hG
    have hdl : ∀ i, a.die.live i → ∃ x, a.dieDir.look x = some i := by
      rintro i ⟨m, x, e⟩
      refine ⟨x, ?_⟩
      have e' : ((([] : List RMv).take m).foldl RMv.done a.dieDir).look x = some i := e
      rw [List.take_nil] at e'
      exact e'
    refine ⟨fun i hi => ?_, fun i j hi hj e => ?_⟩
    · obtain ⟨x, hx⟩ := hdl i hi
      have hm1 : (x, i) ∈ a.dieDir.sorted := (sorted_perm hD.names).mem_iff.2 (DirL.look_mem hx)
      obtain ⟨k, hk⟩ := List.mem_iff_getElem?.1 hm1
      have hGk := hG k (x, φ i) (by unfold DirL.mapB; rw [List.getElem?_map, hk]; rfl)
      have hxs : (a.dieDir.names.mergeSort leB)[k]? = some x := by
        unfold DirL.sorted at hk
        rw [List.getElem?_map] at hk
        obtain ⟨y, hy, e⟩ := Option.map_eq_some_iff.1 hk
        rw [hy]
        exact congrArg some (Prod.mk.inj e).1
      have hFi := hF i (hlive _ _ hx)
      have hil := hD.lookLt hx
      have hmn : ∀ y ∈ a.dieDir.names.mergeSort leB, ∃ j, a.dieDir.look y = some j ∧ j < a.nodes.length := fun y hy => by
        obtain ⟨b, hb⟩ := Option.isSome_iff_exists.1 (DirL.look_names.2 (List.mem_mergeSort.1 hy))
        exact ⟨b, hb, hD.lookLt hb⟩
      have hnat := nodesDie_at (ks := keepAt a.pl.keep) (D := a.dieDir) (a.dieDir.names.mergeSort leB) 1 a.nodes hmn ((List.mergeSort_perm _ _).nodup_iff.2 hD.names) (fun y hy z hz e => by
        obtain ⟨b, hb, _⟩ := hmn y hy
        have h1 := DirL.look_mem hb
        have h2 := DirL.look_mem (show a.dieDir.look z = some b by rw [← e]; exact hb)
        exact congrArg Prod.fst (num_one hD.nums _ h1 _ h2 rfl)) k x i (a.file i) hxs hx (RefP.file_at hil)
      have hcs : cnt (fileOf fl) ((DirL.mapB φ a.dieDir.sorted).take k) = (((a.dieDir.names.mergeSort leB).take k).map (chgLen a.dieDir a.nodes)).sum := by
        unfold cnt DirL.mapB
        rw [← List.map_take, List.map_map]
        unfold DirL.sorted
        rw [← List.map_take, List.map_map]
        congr 1
        refine List.map_congr_left fun y hy => ?_
        obtain ⟨b, hb, hbl⟩ := hmn y (List.mem_of_mem_take hy)
        show (fileOf fl (φ ((a.dieDir.look y).getD 0))).chg.length = chgLen a.dieDir a.nodes y
        unfold chgLen
        rw [hb]
        show (fileOf fl (φ b)).chg.length = (a.file b).chg.length
        rw [(hF b (hlive _ _ hb)).2.2.1]
      rw [hcs] at hGk
      obtain ⟨g1, g2, g3⟩ := hGk
      dsimp only at g1 g2 g3
      rw [hFi.2.1, hFi.2.2.1] at g1
      have hfd : a.die.file i = ⟨settleP (keepAt a.pl.keep) (1 + (((a.dieDir.names.mergeSort leB).take k).map (chgLen a.dieDir a.nodes)).sum) true (a.file i).safe (a.file i).chg, []⟩ := by
        unfold RefP.file
        rw [List.getD_eq_getElem?_getD]
        show ((nodesDie (keepAt a.pl.keep) a.dieDir (a.dieDir.names.mergeSort leB) 1 a.nodes)[i]?).getD ⟨[], []⟩ = _
        rw [hnat]
        rfl
      refine ⟨G (φ i), by rw [hfo]; exact List.mem_map.2 ⟨_, hm1, rfl⟩, ?_, ?_, ?_⟩
      · rw [hfd, g1]
      · rw [hfd, g3]
      · rw [hfd, g2, g1]
        rfl
    · obtain ⟨x, hx⟩ := hdl i hi
      obtain ⟨y, hy⟩ := hdl j hj
      exact S.inj i j (hlive _ _ hx) (hlive _ _ hy) e
end Go.Proofs.YtafcgjbafihniaaGreat

/-
  LAYER 1 (fs): lacksRoom where there is a room, and something to lay.
-/
namespace Go.Proofs.YtafcgjbafihniaaGreat
set_option maxRecDepth 100000
open Go.RowKit Go.Lib
open Go.Proofs (encStr)
attribute [local go_sem] Oper.semAt_some

theorem lenOf_le (F : Nat → FileV) (l : DirL) (ss : List (List UInt8)) (h : ∀ x b, l.look x = some b → (F b).data.length ≤ 268435456) : lenOf F l ss ≤ 268435456 * ss.length := by
  induction ss with
  | nil => simp [lenOf]
  | cons x ss ih =>
    unfold lenOf at ih ⊢
    simp only [List.map_cons, List.sum_cons, List.length_cons]
    cases hx : l.look x with
    | none => dsimp only; omega
    | some b => have := h x b hx; dsimp only; omega

section
variable {n0 : Nat → Prop} {w : World} {q : Nat} {p : PlV} {pl : Pl} {ops : Int} {d s : Nat} {mv : Value} {ld ls : DirL} {ml : List Mv} {fl : List (Nat × FileV)}
set_option maxHeartbeats 4000000 in
theorem lacksRoom_some (F : Nat → FileV) (n : Nat) (hn : n < 4611686018427387904) (w : World) (h : FsOk n0 w q false p pl ops d s mv ld ls ml fl) (hf : ∀ x b, ld.look x = some b → FileAt w b (F b) ∧ (F b).data.length ≤ 268435456) (hlim : ld.length ≤ 4294967296) (hr : 0 < pl.room) (hr9 : pl.room ≤ 9223372036854775807) (hn0 : 0 < n) :
    Calls Tryz.prog 69 #[.pointer (some ⟨q, 0, none⟩), .int .i64 (n : Int)] w fun e w' => e = .returned (.bool (decide (pl.room - (lenOf F ld ld.names : Int) < (n : Int)))) ∧ w.grownBy w' none := by
  have hus := fun W (g : w.grownBy W none) => used_any F W (h.grown g) (fun x b hl => ⟨(hf x b hl).1.kept (P := fun _ => False) (GP.of g (by simp)) (fun h => h) (fun _ _ h => h), (hf x b hl).2⟩) hlim
  have h6 := h.fs.roomC
  rw [h.pr] at h6
  have hle := lenOf_le F ld ld.names (fun x b hl => (hf x b hl).2)
  have hnl : ld.names.length = ld.length := by simp [DirL.names]
  obtain ⟨u, hu⟩ : ∃ u, u = lenOf F ld ld.names := ⟨_, rfl⟩
  rw [← hu] at hus hle ⊢
  have hu9 : u ≤ 1152921504606846976 := by omega
  obtain ⟨r, hrr⟩ : ∃ r, r = pl.room := ⟨_, rfl⟩
  rw [← hrr] at h6 hr hr9 ⊢
  have k1 : decide (0 < r) = true := by simp [hr]
  have k2 : decide ((0 : Int) < (n : Int)) = true := by simp; omega
  clear hu hle hnl hrr hf
  go_enter Tryz.func69, Tryz.ntmps69
  go_upto_region 1 with fail
  have gd := gdrew (World.grownBy.refl w none)
  refine wp_region_held_drew (S := fun w' => w'.cell? ⟨q, 6, none⟩ = some (.int .i64 r)) (by kernel_rfl) (gd.cell h6 (by simp)) (fun hS0 => ?_)
  obtain ⟨V, hV⟩ : ∃ V, V = w.drew := ⟨_, rfl⟩
  rw [← hV] at hS0 gd ⊢
  clear hV
  refine wpAnyH_take (i := 0) (oi := ⟨some 5, _, _, _, _, _⟩) (v := ?_) rfl (by kernel_rfl) (by kernel_rfl) (by kernel_rfl) (fun _ _ _ h => h) (Or.inl ⟨by rfl, ?_⟩) (by assumption) ?_
  rotate_left
  · (intro w hSw; (try dsimp only at hSw); go_simp; try with_reducible rfl)
  try simp only [Act.put, List.setIfInBounds_toArray, List.set_cons_zero, List.set_cons_succ]
  refine wpAnyH_take (i := 1) (oi := ⟨some 6, _, _, _, _, _⟩) (v := ?_) rfl (by kernel_rfl) (by kernel_rfl) (by kernel_rfl) (fun _ _ _ h => h) (Or.inl ⟨by rfl, ?_⟩) (by assumption) ?_
  rotate_left
  · (intro w hSw; (try dsimp only at hSw); go_simp; try with_reducible rfl)
  try simp only [Act.put, List.setIfInBounds_toArray, List.set_cons_zero, List.set_cons_succ]
  refine wpAnyH_take (i := 2) (oi := ⟨some 7, _, _, _, _, _⟩) (v := ?_) rfl (by kernel_rfl) (by kernel_rfl) (by kernel_rfl) (fun _ _ _ h => h) (Or.inl ⟨by rfl, ?_⟩) (by assumption) ?_
  rotate_left
  · (intro w hSw; (try dsimp only at hSw); go_simp; try with_reducible rfl)
  try simp only [Act.put, List.setIfInBounds_toArray, List.set_cons_zero, List.set_cons_succ]
  refine wpAnyH_take (i := 3) (oi := ⟨some 8, _, _, _, _, _⟩) (v := ?_) rfl (by kernel_rfl) (by kernel_rfl) (by kernel_rfl) (fun _ _ _ h => h) (Or.inl ⟨by rfl, ?_⟩) (by assumption) ?_
  rotate_left
  · (intro w hSw; (try dsimp only at hSw); go_simp; try with_reducible rfl)
  try simp only [Act.put, List.setIfInBounds_toArray, List.set_cons_zero, List.set_cons_succ]
  refine wpAnyH_take (i := 4) (oi := ⟨some 9, _, _, _, _, _⟩) (v := ?_) rfl (by kernel_rfl) (by kernel_rfl) (by kernel_rfl) (fun _ _ _ h => h) (Or.inl ⟨by rfl, ?_⟩) (by assumption) ?_
  rotate_left
  · (intro w hSw; (try dsimp only at hSw); go_simp; try with_reducible rfl)
  try simp only [Act.put, List.setIfInBounds_toArray, List.set_cons_zero, List.set_cons_succ]
  refine wpAnyH_take (i := 5) (oi := ⟨some 10, _, _, _, _, _⟩) (v := ?_) rfl (by kernel_rfl) (by kernel_rfl) (by kernel_rfl) (fun _ _ _ h => h) (Or.inl ⟨by rfl, ?_⟩) (by assumption) ?_
  rotate_left
  · (intro w hSw; (try dsimp only at hSw); go_simp; try with_reducible rfl)
  try simp only [Act.put, List.setIfInBounds_toArray, List.set_cons_zero, List.set_cons_succ]
  refine wpAnyH_take (i := 6) (oi := ⟨some 11, _, _, _, _, _⟩) (v := ?_) rfl (by kernel_rfl) (by kernel_rfl) (by kernel_rfl) (fun _ _ _ h => h) (Or.inl ⟨by rfl, ?_⟩) (by assumption) ?_
  rotate_left
  · (intro w hSw; (try dsimp only at hSw); go_simp; try with_reducible rfl)
  try simp only [Act.put, List.setIfInBounds_toArray, List.set_cons_zero, List.set_cons_succ]
  refine wpAnyH_take (i := 7) (oi := ⟨some 12, _, _, _, _, _⟩) (v := ?_) rfl (by kernel_rfl) (by kernel_rfl) (by kernel_rfl) (fun _ _ _ h => h) (Or.inl ⟨by rfl, ?_⟩) (by assumption) ?_
  rotate_left
  · (intro w hSw; (try dsimp only at hSw); go_simp; try with_reducible rfl)
  try simp only [Act.put, List.setIfInBounds_toArray, List.set_cons_zero, List.set_cons_succ]
  refine wpAnyH_take (i := 8) (oi := ⟨some 13, _, _, _, _, _⟩) (v := ?_) rfl (by kernel_rfl) (by kernel_rfl) (by kernel_rfl) (fun _ _ _ h => h) (Or.inl ⟨by rfl, ?_⟩) (by assumption) ?_
  rotate_left
  · (intro w hSw; (try dsimp only at hSw); go_simp; try with_reducible rfl)
  try simp only [Act.put, List.setIfInBounds_toArray, List.set_cons_zero, List.set_cons_succ]
  refine wpAnyH_take (i := 9) (oi := ⟨some 14, _, _, _, _, _⟩) (v := ?_) rfl (by kernel_rfl) (by kernel_rfl) (by kernel_rfl) (fun _ _ _ h => h) (Or.inl ⟨by rfl, ?_⟩) (by assumption) ?_
  rotate_left
  · (intro w hSw; (try dsimp only at hSw); go_simp; try with_reducible rfl)
  try simp only [Act.put, List.setIfInBounds_toArray, List.set_cons_zero, List.set_cons_succ]
  refine wpAnyH_take (i := 10) (oi := ⟨some 15, _, _, _, _, _⟩) (v := ?_) rfl (by kernel_rfl) (by kernel_rfl) (by kernel_rfl) (fun _ _ _ h => h) (Or.inl ⟨by rfl, ?_⟩) (by assumption) ?_
  rotate_left
  · (intro w hSw; (try dsimp only at hSw); go_simp; try with_reducible rfl)
  try simp only [Act.put, List.setIfInBounds_toArray, List.set_cons_zero, List.set_cons_succ]
  refine wpAnyH_take (i := 11) (oi := ⟨some 16, _, _, _, _, _⟩) (v := ?_) rfl (by kernel_rfl) (by kernel_rfl) (by kernel_rfl) (fun _ _ _ h => h) (Or.inl ⟨by rfl, ?_⟩) (by assumption) ?_
  rotate_left
  · (intro w hSw; (try dsimp only at hSw); go_simp; try with_reducible rfl)
  try simp only [Act.put, List.setIfInBounds_toArray, List.set_cons_zero, List.set_cons_succ]
  refine wpAnyH_take (i := 12) (oi := ⟨some 17, _, _, _, _, _⟩) (v := ?_) rfl (by kernel_rfl) (by kernel_rfl) (by kernel_rfl) (fun _ _ _ h => h) (Or.inl ⟨by rfl, ?_⟩) (by assumption) ?_
  rotate_left
  · (intro w hSw; (try dsimp only at hSw); go_simp; try with_reducible rfl)
  try simp only [Act.put, List.setIfInBounds_toArray, List.set_cons_zero, List.set_cons_succ]
  refine wpAnyH_take (i := 13) (oi := ⟨some 18, _, _, _, _, _⟩) (v := ?_) rfl (by kernel_rfl) (by kernel_rfl) (by kernel_rfl) (fun _ _ _ h => h) (Or.inl ⟨by rfl, ?_⟩) (by assumption) ?_
  rotate_left
  · (intro w hSw; (try dsimp only at hSw); go_simp; try with_reducible rfl)
  try simp only [Act.put, List.setIfInBounds_toArray, List.set_cons_zero, List.set_cons_succ]
  refine wpAnyH_take (i := 14) (oi := ⟨some 19, _, _, _, _, _⟩) (v := ?_) rfl (by kernel_rfl) (by kernel_rfl) (by kernel_rfl) (fun _ _ _ h => h) (Or.inl ⟨by rfl, ?_⟩) (by assumption) ?_
  rotate_left
  · (intro w hSw; (try dsimp only at hSw); go_simp; try with_reducible rfl)
  try simp only [Act.put, List.setIfInBounds_toArray, List.set_cons_zero, List.set_cons_succ]
  refine wpAnyH_take (i := 15) (oi := ⟨some 20, _, _, _, _, _⟩) (v := ?_) rfl (by kernel_rfl) (by kernel_rfl) (by kernel_rfl) (fun _ _ _ h => h) (Or.inl ⟨by rfl, ?_⟩) (by assumption) ?_
  rotate_left
  · (intro w hSw; (try dsimp only at hSw); go_simp; try with_reducible rfl)
  try simp only [Act.put, List.setIfInBounds_toArray, List.set_cons_zero, List.set_cons_succ]
  refine wpAnyH_take (i := 16) (oi := ⟨some 21, _, _, _, _, _⟩) (v := ?_) rfl (by kernel_rfl) (by kernel_rfl) (by kernel_rfl) (fun _ _ _ h => h) (Or.inl ⟨by rfl, ?_⟩) (by assumption) ?_
  rotate_left
  · (intro w hSw; (try dsimp only at hSw); go_simp; try with_reducible rfl)
  try simp only [Act.put, List.setIfInBounds_toArray, List.set_cons_zero, List.set_cons_succ]
  refine wpAnyH_take (i := 17) (oi := ⟨some 22, _, _, _, _, _⟩) (v := ?_) rfl (by kernel_rfl) (by kernel_rfl) (by kernel_rfl) (fun _ _ _ h => h) (Or.inl ⟨by rfl, ?_⟩) (by assumption) ?_
  rotate_left
  · (intro w hSw; (try dsimp only at hSw); go_simp; try with_reducible rfl)
  try simp only [Act.put, List.setIfInBounds_toArray, List.set_cons_zero, List.set_cons_succ]
  refine wpAnyH_ready (rs := [18]) (by kernel_rfl) (by simp) ?_
  refine AllReadyH.cons rfl (fun K hK => ?_) AllReadyH.nil
  go_simp
  refine (hus _ gd).mono ?_
  rintro e w3 ⟨rfl, g3⟩
  refine hK.out _ _ (g3.cell hS0 (by simp)) (fun _ => ?_)
  clear hK
  refine wpAnyH_take (i := 19) (oi := ⟨some 24, _, _, _, _, _⟩) (v := ?_) rfl (by kernel_rfl) (by kernel_rfl) (by kernel_rfl) (fun _ _ _ h => h) (Or.inl ⟨by rfl, ?_⟩) (by assumption) ?_
  rotate_left
  · (intro w hSw; (try dsimp only at hSw); go_simp; try with_reducible rfl)
  try simp only [Act.put, List.setIfInBounds_toArray, List.set_cons_zero, List.set_cons_succ]
  refine wpAnyH_take (i := 20) (oi := ⟨some 25, _, _, _, _, _⟩) (v := ?_) rfl (by kernel_rfl) (by kernel_rfl) (by kernel_rfl) (fun _ _ _ h => h) (Or.inl ⟨by rfl, ?_⟩) (by assumption) ?_
  rotate_left
  · (intro w hSw; (try dsimp only at hSw); go_simp; try with_reducible rfl)
  try simp only [Act.put, List.setIfInBounds_toArray, List.set_cons_zero, List.set_cons_succ]
  refine wpAnyH_take (i := 21) (oi := ⟨some 26, _, _, _, _, _⟩) (v := ?_) rfl (by kernel_rfl) (by kernel_rfl) (by kernel_rfl) (fun _ _ _ h => h) (Or.inl ⟨by rfl, ?_⟩) (by assumption) ?_
  rotate_left
  · (intro w hSw; (try dsimp only at hSw); go_simp; try with_reducible rfl)
  try simp only [Act.put, List.setIfInBounds_toArray, List.set_cons_zero, List.set_cons_succ]
  refine wpAnyH_take (i := 22) (oi := ⟨some 4, _, _, _, _, _⟩) (v := ?_) rfl (by kernel_rfl) (by kernel_rfl) (by kernel_rfl) (fun _ _ _ h => h) (Or.inl ⟨by rfl, ?_⟩) (by assumption) ?_
  rotate_left
  · (intro w hSw; (try dsimp only at hSw); go_simp; try with_reducible rfl)
  try simp only [Act.put, List.setIfInBounds_toArray, List.set_cons_zero, List.set_cons_succ]
  refine wpAnyH_done (by kernel_rfl) ?_ _
  go_wp2_with fail
  go_ret
  exact ⟨by rw [show IntKind.i64.wrap (r - (u : Int)) = r - (u : Int) from IntWalk.i64_in _ (by omega)]; simp, gd.trans g3⟩
end
end Go.Proofs.YtafcgjbafihniaaGreat
