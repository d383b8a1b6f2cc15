/-
  LAYER 1 (fs): what is settled: a death leaves nothing that another death could take.
-/
import Derived.Test.YtafcgjbafihniaaGreatFA23
import Derived.Test.YtafcgjbafihniaaGreatFA25
import Derived.Test.YtafcgjbafihniaaGreatFA09
import Derived.Test.YtafcgjbafihniaaGreatFA21
import Derived.Test.YtafcgjbafihniaaGreatFA02
namespace Go.Proofs.YtafcgjbafihniaaGreat
set_option maxRecDepth 100000
open Go.RowKit Go.Lib

section
variable {N : Nat} {a : RefP}
/-- All is safe. -/
structure Settled (a : RefP) : Prop where
  moves : a.moves = []
  dir : a.dir = a.safe
  chg : ∀ x i, a.dir.look x = some i → (a.file i).chg = []
theorem die_file (I : RInv N a) {x : List UInt8} {i : Nat} (hx : a.dieDir.look x = some i) : ∃ k, a.die.file i = ⟨settleP (keepAt a.pl.keep) k true (a.file i).safe (a.file i).chg, []⟩ := by
  have hD : DOk 4096 a.nodes.length a.dieDir := I.pre (dieL a.pl.keep a.moves.length)
  have hmn : ∀ y ∈ a.dieDir.names.mergeSort leB, ∃ j, a.dieDir.look y = some j ∧ j < a.nodes.length := fun y hy => by
    obtain ⟨b, hb⟩ := Option.isSome_iff_exists.1 (DirL.look_names.2 (List.mem_mergeSort.1 hy))
    exact ⟨b, hb, hD.lookLt hb⟩
  have hxm : x ∈ a.dieDir.names.mergeSort leB := List.mem_mergeSort.2 (DirL.look_names.1 (by rw [hx]; rfl))
  obtain ⟨k, hk⟩ := List.mem_iff_getElem?.1 hxm
  have hnat := nodesDie_at (ks := keepAt a.pl.keep) (D := a.dieDir) (a.dieDir.names.mergeSort leB) 1 a.nodes hmn ((List.mergeSort_perm _ _).nodup_iff.2 hD.names) (fun y hy z hz e => by
    obtain ⟨b, hb, _⟩ := hmn y hy
    have h1 := DirL.look_mem hb
    have h2 := DirL.look_mem (show a.dieDir.look z = some b by rw [← e]; exact hb)
    exact congrArg Prod.fst (num_one hD.nums _ h1 _ h2 rfl)) k x i (a.file i) hk hx (RefP.file_at (hD.lookLt hx))
  refine ⟨1 + (((a.dieDir.names.mergeSort leB).take k).map (chgLen a.dieDir a.nodes)).sum, ?_⟩
  unfold RefP.file
  rw [List.getD_eq_getElem?_getD]
  show ((nodesDie (keepAt a.pl.keep) a.dieDir (a.dieDir.names.mergeSort leB) 1 a.nodes)[i]?).getD ⟨[], []⟩ = _
  rw [hnat]
  rfl
theorem settled_die (I : RInv N a) : Settled a.die := by
  refine ⟨rfl, rfl, fun x i hx => ?_⟩
  obtain ⟨k, hk⟩ := die_file I (x := x) (i := i) hx
  rw [hk]
theorem begin_settled (I : RInv N a) (h : a.died = true → Settled a) : a.begin.2.died = true → Settled a.begin.2 := by
  unfold RefP.begin
  split
  · exact h
  · split
    · exact fun _ => settled_die I.counted
    · rename_i hd _
      exact fun e => (hd e).elim
theorem begin_alive (h : a.begin.1 = 0) : a.died = false := by
  cases e : a.died with
  | false => rfl
  | true => unfold RefP.begin at h; rw [if_pos e] at h; cases h
/-- The dead are settled. -/
theorem op_settled (I : RInv N a) (h : a.died = true → Settled a) (o : OpP) : (a.op o).died = true → Settled (a.op o) := by
  have hb := begin_settled I h
  have key : ∀ (X : Int × RefP), (a.begin.1 = 0 → X.2.died = a.died) → ((if a.begin.1 = 0 then X else a.begin).2.died = true → Settled (if a.begin.1 = 0 then X else a.begin).2) := fun X hX => by
    split
    · rename_i h0
      intro e
      rw [hX h0, begin_alive h0] at e
      cases e
    · exact hb
  unfold RefP.op
  split
  · refine key _ (fun _ => ?_)
    split
    · split
      · rfl
      · split
        · rfl
        · split <;> rfl
    · rfl
  · split
    · refine key _ (fun _ => ?_)
      split
      · rfl
      · split
        · rfl
        · split
          · rfl
          · split
            · rfl
            · split <;> rfl
    · split
      · refine key _ (fun _ => ?_)
        split
        · rfl
        · split
          · rfl
          · split <;> rfl
      · split
        · refine key _ (fun _ => ?_)
          split <;> rfl
        · split
          · refine key _ (fun _ => ?_)
            split
            · rfl
            · split
              · split <;> rfl
              · rfl
          · split
            · refine key _ (fun _ => ?_)
              split <;> rfl
            · split
              · refine key _ (fun _ => ?_)
                split <;> rfl
              · intro e
                cases e
theorem fold_settled : ∀ (L : List OpP) (a : RefP) (N : Nat), RInv N a → (∀ o ∈ L, o.Fits) → (a.died = true → Settled a) → ((L.foldl RefP.op a).died = true → Settled (L.foldl RefP.op a))
  | [], _, _, _, _, h => h
  | o :: L, a, N, I, hf, h => fold_settled L (a.op o) (N + 1) (I.op o (hf o (by simp))) (fun o' ho => hf o' (by simp [ho])) (op_settled I h o)
theorem fold_inv : ∀ (L : List OpP) (a : RefP) (N : Nat), RInv N a → (∀ o ∈ L, o.Fits) → RInv (N + L.length) (L.foldl RefP.op a)
  | [], _, _, I, _ => I
  | o :: L, a, N, I, hf => by
    have := fold_inv L (a.op o) (N + 1) (I.op o (hf o (by simp))) (fun o' ho => hf o' (by simp [ho]))
    rw [List.length_cons, show N + (L.length + 1) = N + 1 + L.length by omega]
    exact this
theorem made_inv {L : List OpP} {p : Pl} (hp : planFits p) (hf : ∀ o ∈ L, o.Fits) : RInv L.length (L.foldl RefP.op (RefP.new p)) ∧ ((L.foldl RefP.op (RefP.new p)).died = true → Settled (L.foldl RefP.op (RefP.new p))) := by
  have h1 := fold_inv L _ 0 (RInv.new p hp) hf
  rw [Nat.zero_add] at h1
  exact ⟨h1, fold_settled L _ 0 (RInv.new p hp) hf (fun e => by cases e)⟩
/-- Behind a start all is settled. -/
theorem start_settled (I : RInv N a) (h : a.died = true → Settled a) (p : Pl) : Settled (a.start p) := by
  unfold RefP.start
  by_cases hd : a.died = true
  · rw [if_pos hd]
    exact ⟨(h hd).moves, (h hd).dir, (h hd).chg⟩
  · rw [if_neg hd]
    have := settled_die I
    exact ⟨this.moves, this.dir, this.chg⟩
/-- What is settled is safe. -/
theorem Settled.files (h : Settled a) (hd : a.died = false) : a.safeFiles = a.files := by
  unfold RefP.files RefP.safeFiles
  rw [if_neg (by rw [hd]; simp), ← h.dir]
  refine List.map_congr_left fun x hx => ?_
  have := h.chg x.1 x.2 (DirL.sorted_look _ x hx)
  unfold NodeP.data
  rw [this]
  rfl
/-- Another start takes nothing. -/
theorem Settled.start (h : Settled a) (I : RInv N a) (hd : a.died = false) (p : Pl) : (a.start p).files = a.files := by
  have hdd : a.dieDir = a.dir := by
    unfold RefP.dieDir
    rw [h.moves, List.take_nil, h.dir]
    rfl
  have e : a.start p = { a.die with died := false, count := 0, pl := p } := by unfold RefP.start; rw [if_neg (by rw [hd]; simp)]
  rw [e]
  unfold RefP.files
  rw [if_neg (by simp), if_neg (by rw [hd]; simp)]
  show a.dieDir.sorted.map (fun x => (x.1, (a.die.file x.2).data)) = _
  rw [hdd]
  refine List.map_congr_left fun x hx => ?_
  have hlk := DirL.sorted_look _ x hx
  obtain ⟨k, hk⟩ := die_file I (x := x.1) (i := x.2) (by rw [hdd]; exact hlk)
  rw [hk]
  have hc := h.chg x.1 x.2 hlk
  unfold NodeP.data
  rw [hc]
  rfl
theorem rsync_okP {s : ByteArray} (h : (a.sync s).1 = 0) : ∃ j, a.dir.look s.data.toList = some j ∧ (a.sync s).2 = { a with count := a.count + 1, nodes := a.nodes.set j (a.file j).synced } := by
  unfold RefP.sync at h ⊢
  by_cases h0 : a.begin.1 = 0
  · rw [if_pos h0] at h ⊢
    cases hl : a.dir.look s.data.toList with
    | none =>
      rw [hl] at h
      cases h
    | some j => exact ⟨j, rfl, rfl⟩
  · rw [if_neg h0] at h
    exact (h0 h).elim
theorem rsyncDir_okP (h : a.syncDir.1 = 0) : a.syncDir.2 = { a with count := a.count + 1, safe := a.dir, moves := [] } := by
  unfold RefP.syncDir at h ⊢
  by_cases h0 : a.begin.1 = 0
  · rw [if_pos h0] at h ⊢
    by_cases hf : a.pl.full.contains (a.count + 1) = true
    · rw [if_pos hf] at h
      cases h
    · rw [if_neg hf]
  · rw [if_neg h0] at h
    exact (h0 h).elim
/-- So many of these names' files have no changes. -/
structure Syncing (A : RefP) (ns : List (List UInt8)) (j : Nat) (a : RefP) : Prop where
  died : a.died = A.died
  dir : a.dir = A.dir
  chg : ∀ k x i, k < j → ns[k]? = some x → A.dir.look x = some i → (a.file i).chg = []
theorem Syncing.next {A : RefP} {ns : List (List UInt8)} {j : Nat} (h : Syncing A ns j a) (I : RInv N a) {x : List UInt8} (hx : ns[j]? = some x) (h0 : (a.sync ⟨x.toArray⟩).1 = 0) : Syncing A ns (j + 1) (a.sync ⟨x.toArray⟩).2 := by
  obtain ⟨i0, h1, h2⟩ := rsync_okP h0
  rw [h2]
  have hil := I.dirOk.lookLt h1
  have hf : ∀ i, RefP.file { a with count := a.count + 1, nodes := a.nodes.set i0 (a.file i0).synced } i = if i = i0 then (a.file i0).synced else a.file i := fun i => by
    unfold RefP.file
    rw [List.getD_eq_getElem?_getD, List.getD_eq_getElem?_getD]
    show ((a.nodes.set i0 _)[i]?).getD _ = _
    split
    · rename_i e
      rw [e, List.getElem?_set_self hil]
      rfl
    · rename_i e
      rw [List.getElem?_set_ne (fun e2 => e e2.symm)]
      first | rfl | rw [List.getD_eq_getElem?_getD]
  refine ⟨h.died, h.dir, fun k y i hk hy hi => ?_⟩
  rw [hf]
  split
  · rfl
  · rename_i hne
    by_cases hkj : k = j
    · subst hkj
      rw [hx] at hy
      cases hy
      rw [← h.dir] at hi
      have e : a.dir.look x = some i0 := h1
      rw [e] at hi
      cases hi
      exact (hne rfl).elim
    · exact h.chg k y i (by omega) hy hi
theorem Syncing.settled {A : RefP} (h : Syncing A (A.dir.sorted.map (·.1)) A.dir.length a) (h0 : a.syncDir.1 = 0) : Settled a.syncDir.2 ∧ a.syncDir.2.died = A.died := by
  rw [rsyncDir_okP h0]
  refine ⟨⟨rfl, rfl, fun x i hx => ?_⟩, h.died⟩
  have hx2 : A.dir.look x = some i := by rw [← h.dir]; exact hx
  have hm : x ∈ A.dir.sorted.map (·.1) := by
    unfold DirL.sorted
    rw [List.map_map]
    exact List.mem_map.2 ⟨x, List.mem_mergeSort.2 (DirL.look_names.1 (by rw [hx2]; rfl)), rfl⟩
  obtain ⟨k, hk⟩ := List.mem_iff_getElem?.1 hm
  have hkl := (List.getElem?_eq_some_iff.1 hk).1
  rw [List.length_map, DirL.sorted_length] at hkl
  exact h.chg k x i hkl hk hx2
end
end Go.Proofs.YtafcgjbafihniaaGreat

/-
  LAYER 1 (fs): FsSettled, its walk.
-/
namespace Go.Proofs.YtafcgjbafihniaaGreat
set_option maxRecDepth 100000
open Go.RowKit Go.Lib Go.ChangeShapes Go.WideShapes Go.ChangeAt
attribute [local go_sem] Oper.semAt_some

theorem FilesAt.gp {w w' : World} {P : Nat → Prop} {B : Nat} {v : Value} {rows : List FRow} (h : FilesAt w B v rows) (g : GP P w w') (hP : ∀ k, P k → k < B ∨ w.heap.size ≤ k) : FilesAt w' B v rows := by
  have key : ∀ {e s n : Nat} {u : Value} {xs : List Value}, w.ownsRow B e s u n xs → w'.ownsRow B e s u n xs := fun {e s n u xs} o => own_gp o g (fun k hk hp => by
    have h1 := World.ownsRow.lt o k hk
    rcases hP k hp with h | h <;> omega)
  exact ⟨key h.1, fun r hr => key (h.2 r hr)⟩
theorem files_len {N : Nat} {a : RefP} (I : RInv N a) : a.files.length ≤ 4096 ∧ a.safeFiles.length ≤ 4096 := by
  refine ⟨?_, ?_⟩
  · unfold RefP.files
    split
    · simp
    · rw [List.length_map, DirL.sorted_length]
      exact I.dirOk.len
  · unfold RefP.safeFiles
    rw [List.length_map, DirL.sorted_length]
    exact I.safeOk.len
/-- The program's file system alone, in blocks of F, all of them new since w. -/
structure FAlone (w : World) (f : Nat) (a : RefP) (W : World) (F : Nat → Prop) : Prop where
  fs : FsSim F W f a
  fl : ∀ k, F k → w.heap.size ≤ k ∧ k < W.heap.size
  grown : w.grownBy W none
section
variable {N : Nat} {w W W' : World} {f : Nat} {a : RefP} {F : Nat → Prop}
theorem FAlone.new (h : FAlone w f a W F) (g : W.grownBy W' none) : FAlone w f a W' F :=
  ⟨h.fs.kept (P := fun _ => False) (GP.of g (by simp)) (fun _ h => h.elim), fun k hk => ⟨(h.fl k hk).1, Nat.lt_of_lt_of_le (h.fl k hk).2 g.size⟩, h.grown.trans g⟩
theorem Made.alone {L : List OpP} {p : Pl} {q : Nat} {R : Nat → Prop} (M : Made w L p W f q F R) : FAlone w f (L.foldl RefP.op (RefP.new p)) W F := ⟨M.both.fs, fun k hk => ⟨M.fl k hk, M.both.fl k hk⟩, M.grown⟩
/-- A step of the program's alone: what lay outside F stays. -/
theorem FAlone.step {fn : Nat} {args : Array Value} {E : Ending} {a' : RefP} (h : FAlone w f a W F) (C : FsSim (fun k => F k ∨ W.heap.size ≤ k) W f a → (∀ k, W.heap.size ≤ k → (F k ∨ W.heap.size ≤ k)) → Calls Tryz.prog fn args W fun e w' => e = E ∧ FsSim (fun k => F k ∨ W.heap.size ≤ k) w' f a' ∧ GP (fun k => F k ∨ W.heap.size ≤ k) W w') :
    Calls Tryz.prog fn args W fun e w' => e = E ∧ FAlone w f a' w' (RU F W w') ∧ GP F W w' := by
  refine (C (h.fs.re (fun k _ h => .inl h)) (fun k hk => .inr hk)).mono ?_
  rintro e w' ⟨he, h1, g⟩
  refine ⟨he, ⟨h1.re (fun k hk h => h.elim .inl (fun h => .inr ⟨h, hk⟩)), fun k hk => ?_, grown_gp h.grown g.old (fun k hk => (h.fl k hk).1)⟩, g.old⟩
  have hs := h.grown.size
  rcases hk with hk | hk
  · exact ⟨(h.fl k hk).1, Nat.lt_of_lt_of_le (h.fl k hk).2 g.size⟩
  · exact ⟨Nat.le_trans hs hk.1, hk.2⟩
theorem FAlone.start (h : FAlone w f a W F) (I : RInv N a) (hN : N ≤ 2199023255552) {v : Value} {p : Pl} (hp : PlanR w v p) :
    Calls Tryz.prog 25 #[.pointer (some ⟨f, 0, none⟩), v] W fun e w' => e = .returned (.int .i64 0) ∧ FAlone w f (a.start p) w' (RU F W w') ∧ GP F W w' := by
  obtain ⟨a1, c1, a2, c2, a3, c3, rfl, pf, i1, i2, i3⟩ := hp
  refine h.step (fun S hn => S.start I hN hn _ _ _ p pf (fun W' g => ?_))
  have g2 := grown_gp h.grown g.old (fun k hk => (h.fl k hk).1)
  exact ⟨i1.all g2, i2.all g2, i3.all g2⟩
end
def planCells (p : Pl) (a1 : Option Addr) (n1 c1 : Nat) (a2 : Option Addr) (n2 c2 : Nat) (a3 : Option Addr) (n3 c3 : Nat) : Array Value := #[.int .i64 p.crash, .slice a1 n1 c1, .slice a2 n2 c2, .slice a3 n3 c3, .int .i64 p.room]
set_option maxHeartbeats 16000000 in
theorem FsSettled_go (w : World) (pv v qv rv : Value) (p qp rp : Pl) (L : List OpP) (hp : PlanR w pv p) (h : OpsR w v L) (hq : PlanR w qv qp) (hr : PlanR w rv rp) :
    Calls Tryz.prog 9 #[pv, v, qv, rv] w fun e w' => e = .returned (.bool true) ∧ w.grownBy w' none := by
  have hL : L.length ≤ 2199023255552 := by obtain ⟨_, _, _, h2, _⟩ := h; omega
  have hfit : ∀ o ∈ L, o.Fits := by obtain ⟨_, _, _, _, h3, _⟩ := h; exact h3
  obtain ⟨va, vc, hv⟩ : ∃ a c, v = .slice a L.length c := by obtain ⟨a, c, h2, _⟩ := h; exact ⟨a, c, h2⟩
  subst hv
  have hp0 := hp
  have hq0 := hq
  have hr0 := hr
  obtain ⟨a1, c1, a2, c2, a3, c3, rfl, hpf, -, -, -⟩ := hp0
  obtain ⟨b1, d1, b2, d2, b3, d3, rfl, -, -, -, -⟩ := hq0
  obtain ⟨e1, f1, e2, f2, e3, f3, rfl, -, -, -, -⟩ := hr0
  obtain ⟨ln, hln⟩ : ∃ n, n = L.length := ⟨_, rfl⟩
  rw [← hln] at h ⊢
  generalize hn1 : p.keep.length = n1 at *
  generalize hn2 : p.fail.length = n2 at *
  generalize hn3 : p.full.length = n3 at *
  generalize hm1 : qp.keep.length = m1 at *
  generalize hm2 : qp.fail.length = m2 at *
  generalize hm3 : qp.full.length = m3 at *
  generalize ho1 : rp.keep.length = o1 at *
  generalize ho2 : rp.fail.length = o2 at *
  generalize ho3 : rp.full.length = o3 at *
  obtain ⟨W0, hW0⟩ : ∃ W0, W0 = ((w.alloc (.cells #[.int .i64 p.crash, .slice a1 n1 c1, .slice a2 n2 c2, .slice a3 n3 c3, .int .i64 p.room] 24)).alloc (.cells #[.int .i64 qp.crash, .slice b1 m1 d1, .slice b2 m2 d2, .slice b3 m3 d3, .int .i64 qp.room] 24)).alloc (.cells #[.int .i64 rp.crash, .slice e1 o1 f1, .slice e2 o2 f2, .slice e3 o3 f3, .int .i64 rp.room] 24) := ⟨_, rfl⟩
  have gB : w.grownBy W0 none := by rw [hW0]; exact galloc (galloc (World.grownBy_alloc w _ none) _) _
  have P0 : PlanAt W0 w.heap.size (.int .i64 p.crash) (.slice a1 n1 c1) (.slice a2 n2 c2) (.slice a3 n3 c3) (.int .i64 p.room) := by
    rw [hW0]
    exact ((galloc (World.grownBy_alloc (w.alloc _) _ none) _).block w.heap.size (by simp) (by simp)).trans (World.alloc_heap_new w _)
  have Q0 : PlanAt W0 (w.heap.size + 1) (.int .i64 qp.crash) (.slice b1 m1 d1) (.slice b2 m2 d2) (.slice b3 m3 d3) (.int .i64 qp.room) := by
    rw [hW0]
    refine ((World.grownBy_alloc ((w.alloc _).alloc _) _ none).block (w.heap.size + 1) (by simp) (by simp)).trans ?_
    have := World.alloc_heap_new (w.alloc (.cells #[.int .i64 p.crash, .slice a1 n1 c1, .slice a2 n2 c2, .slice a3 n3 c3, .int .i64 p.room] 24)) (.cells #[.int .i64 qp.crash, .slice b1 m1 d1, .slice b2 m2 d2, .slice b3 m3 d3, .int .i64 qp.room] 24)
    rwa [World.size_alloc] at this
  have R0 : PlanAt W0 (w.heap.size + 1 + 1) (.int .i64 rp.crash) (.slice e1 o1 f1) (.slice e2 o2 f2) (.slice e3 o3 f3) (.int .i64 rp.room) := by
    rw [hW0]
    have := World.alloc_heap_new ((w.alloc (.cells #[.int .i64 p.crash, .slice a1 n1 c1, .slice a2 n2 c2, .slice a3 n3 c3, .int .i64 p.room] 24)).alloc (.cells #[.int .i64 qp.crash, .slice b1 m1 d1, .slice b2 m2 d2, .slice b3 m3 d3, .int .i64 qp.room] 24)) (.cells #[.int .i64 rp.crash, .slice e1 o1 f1, .slice e2 o2 f2, .slice e3 o3 f3, .int .i64 rp.room] 24)
    rwa [World.size_alloc, World.size_alloc] at this
  have haw := fawake_any W0
  have hfi : Hid (∀ W, w.grownBy W none → Calls Tryz.prog 11 #[.slice va ln vc] W (SomeB W)) := Lib.hid fun W g => fits_any _ L W (h.new g)
  have hma : Hid (∀ W, w.grownBy W none → Calls Tryz.prog 16 #[.agg #[.int .i64 p.crash, .slice a1 n1 c1, .slice a2 n2 c2, .slice a3 n3 c3, .int .i64 p.room], .slice va ln vc] W fun e w' => ∃ f q F R, e = .returned (.tuple #[.pointer (some ⟨f, 0, none⟩), .pointer (some ⟨q, 0, none⟩), .bool true]) ∧ Made W L p w' f q F R) := Lib.hid fun W g => made_any _ _ p L W (hp.new g) (h.new g)
  obtain ⟨A, hA⟩ : ∃ A, A = L.foldl RefP.op (RefP.new p) := ⟨_, rfl⟩
  have hAI : RInv L.length A ∧ (A.died = true → Settled A) := by rw [hA]; exact made_inv hpf hfit
  have hBS := start_settled hAI.1 hAI.2 qp
  have hBI := hAI.1.start qp (by obtain ⟨_, _, _, _, _, _, _, k, _⟩ := hq; exact k)
  have hBd : (A.start qp).died = false := rfl
  have hCI := hBI.start rp (by obtain ⟨_, _, _, _, _, _, _, k, _⟩ := hr; exact k)
  have hCf := hBS.start hBI hBd rp
  have hCs := (start_settled hBI (fun e => by rw [hBd] at e; cases e) rp).files rfl
  have hBs := hBS.files hBd
  rw [hCf] at hCs
  have hlen := files_len hBI
  have hlen5 : ∀ rows : List FRow, rows.map (fun r => (r.1, r.2.2)) = (A.start qp).files → rows.length ≤ 65536 := fun rows e => by
    have := congrArg List.length e
    rw [List.length_map] at this
    omega
  replace hA := Lib.hid hA
  replace hAI := Lib.hid hAI
  replace hBI := Lib.hid hBI
  replace hCI := Lib.hid hCI
  replace hBs := Lib.hid hBs
  replace hCf := Lib.hid hCf
  replace hCs := Lib.hid hCs
  replace hlen5 := Lib.hid hlen5
  replace hq := Lib.hid hq
  replace hr := Lib.hid hr
  replace hL := Lib.hid hL
  replace hln := Lib.hid hln
  replace gB := Lib.hid gB
  replace hn1 := Lib.hid hn1
  replace hn2 := Lib.hid hn2
  replace hn3 := Lib.hid hn3
  replace hm1 := Lib.hid hm1
  replace hm2 := Lib.hid hm2
  replace hm3 := Lib.hid hm3
  replace ho1 := Lib.hid ho1
  replace ho2 := Lib.hid ho2
  replace ho3 := Lib.hid ho3
  obtain ⟨bq, hbq⟩ : ∃ bq, bq = w.heap.size + 1 := ⟨_, rfl⟩
  obtain ⟨br, hbr⟩ : ∃ br, br = w.heap.size + 1 + 1 := ⟨_, rfl⟩
  rw [← hbr] at R0
  rw [← hbq] at Q0
  clear h hp hBS hBd hlen hfit hpf
  go_enter Tryz.func9, Tryz.ntmps9
  go_upto_region 1 with fail
  rw [← hW0, ← hbr, ← hbq]
  replace hW0 := Lib.hid hW0
  replace hbq := Lib.hid hbq
  replace hbr := Lib.hid hbr
  go_upto_region 3 with
    (go_at_call 10
     refine haw.mono ?_
     clear haw
     rintro e w1 ⟨rfl, g1⟩
     have G1 := Lib.hid (gB.out.trans g1)
     have hf1 := hfi.out w1 G1.out
     have P1 := P0.kept g1 (by simp)
     have Q1 := Q0.kept g1 (by simp)
     have R1 := R0.kept g1 (by simp)
     clear g1 P0 Q0 R0)
  go_wp2_with fail
  refine hf1.mono ?_
  clear hf1
  rintro e w2 ⟨b, rfl, g2⟩
  have G2 := Lib.hid (G1.out.trans g2)
  have hm2 := hma.out w2 G2.out
  have P2 := P1.kept g2 (by simp)
  have Q2 := Lib.hid (Q1.kept g2 (by simp))
  have R2 := Lib.hid (R1.kept g2 (by simp))
  have x0 := P2.c0
  have x1 := P2.c1
  have x2 := P2.c2
  have x3 := P2.c3
  have x4 := P2.c4
  clear g2 P1 P2 Q1 R1
  cases b
  · go_wp2_with fail
    go_ret
    exact ⟨rfl, G2.out⟩
  · go_wp2_with first
      | (go_at_call 16
         refine hm2.mono ?_
         clear hm2
         rintro e w3 ⟨f, q, F, R, rfl, M⟩
         have FA := M.alone
         rw [← hA.out] at FA
         have hst1 := FA.start hAI.out.1 hL.out (hq.out.new G2.out)
         have Q3 := Q2.out.kept M.grown (by simp)
         have y0 := Q3.c0
         have y1 := Q3.c1
         have y2 := Q3.c2
         have y3 := Q3.c3
         have y4 := Q3.c4
         clear M FA Q3 x0 x1 x2 x3 x4)
      | (go_at_call 25
         refine hst1.mono ?_
         clear hst1
         rintro e w4 ⟨rfl, FB, g4⟩
         have hfs1 := FB.fs.files hBI.out hL.out
         have FB4 := Lib.hid FB
         clear FB g4 y0 y1 y2 y3 y4)
      | (go_at_call 22
         refine hfs1.mono ?_
         clear hfs1
         rintro e w5 ⟨v5, rows5, rfl, k5, e5, g5⟩
         obtain ⟨x5, y5, rfl⟩ := rowFormS k5.1
         have FB5 := Lib.hid (FB4.out.new g5)
         have hsf1 := FB5.out.fs.safes hBI.out hL.out
         have l5 := Lib.hid (hlen5.out rows5 e5)
         have k5h := Lib.hid k5
         have e5h := Lib.hid e5
         clear k5 e5 g5)
      | (go_at_call 27
         refine hsf1.mono ?_
         clear hsf1
         rintro e w6 ⟨v6, rows6, rfl, k6, e6, g6⟩
         obtain ⟨x6, y6, rfl⟩ := rowFormS k6.1
         have FB6 := Lib.hid (FB5.out.new g6)
         have e65 : rows6.map (fun r => (r.1, r.2.2)) = (A.start qp).files := by rw [e6, hBs.out]
         have hsm1 := rsame_any k6 (k5h.out.new g6) (by rw [e65, e5h.out]) (hlen5.out rows6 e65)
         have k56 := Lib.hid (k5h.out.new g6)
         clear k6 e6 g6 e65)
      | (go_at_call 26
         refine hsm1.mono ?_
         clear hsm1
         rintro e w7 ⟨rfl, g7⟩
         have FB7 := Lib.hid (FB6.out.new g7)
         have hst2 := FB7.out.start hBI.out hL.out (hr.out.new G2.out)
         have R3 := R2.out.kept FB7.out.grown (by simp)
         have z0 := R3.c0
         have z1 := R3.c1
         have z2 := R3.c2
         have z3 := R3.c3
         have z4 := R3.c4
         have k57 := Lib.hid (k56.out.new g7)
         clear R3 g7)
      | (go_at_call 25
         refine hst2.mono ?_
         clear hst2
         rintro e w8 ⟨rfl, FC, g8⟩
         have hfs2 := FC.fs.files hCI.out hL.out
         have FC8 := Lib.hid FC
         have k58 := Lib.hid (k57.out.gp g8 (fun k hk => .inl (FB4.out.fl k hk).2))
         clear FC g8 z0 z1 z2 z3 z4)
      | (go_at_call 22
         refine hfs2.mono ?_
         clear hfs2
         rintro e w9 ⟨v9, rows9, rfl, k9, e9, g9⟩
         obtain ⟨x9, y9, rfl⟩ := rowFormS k9.1
         rw [hCf.out] at e9
         have FC9 := Lib.hid (FC8.out.new g9)
         have hsm2 := rsame_any k9 (k58.out.new g9) (by rw [e9, e5h.out]) (hlen5.out rows9 e9)
         have k59 := Lib.hid (k58.out.new g9)
         clear k9 e9 g9)
      | (go_at_call 26
         refine hsm2.mono ?_
         clear hsm2
         rintro e w10 ⟨rfl, g10⟩
         have FC10 := Lib.hid (FC9.out.new g10)
         have hsf2 := FC10.out.fs.safes hCI.out hL.out
         have k510 := Lib.hid (k59.out.new g10)
         clear g10)
      | (go_at_call 27
         refine hsf2.mono ?_
         clear hsf2
         rintro e w11 ⟨v11, rows11, rfl, k11, e11, g11⟩
         obtain ⟨x11, y11, rfl⟩ := rowFormS k11.1
         rw [hCs.out] at e11
         have FC11 := Lib.hid (FC10.out.new g11)
         have hsm3 := rsame_any k11 (k510.out.new g11) (by rw [e11, e5h.out]) (hlen5.out rows11 e11)
         clear k11 e11 g11)
      | (go_at_call 26
         refine hsm3.mono ?_
         clear hsm3
         rintro e w12 ⟨rfl, g12⟩
         have FF := Lib.hid (G2.out.trans (FC11.out.grown.trans g12))
         clear g12)
    go_ret
    exact ⟨rfl, FF.out⟩
theorem FsSettled_walk (w : World) (pv : Value) (p : Pl) (hp : PlanR w pv p) (v : Value) (L : List OpP) (h : OpsR w v L) (qv : Value) (qp : Pl) (hq : PlanR w qv qp) (rv : Value) (rp : Pl) (hr : PlanR w rv rp) :
    Calls Tryz.prog 9 #[pv, v, qv, rv] w fun e w' => e = .returned (.bool true) ∧ Below w.heap.size w w' := by
  refine (FsSettled_go w pv v qv rv p qp rp L hp h hq hr).mono ?_
  rintro e w' ⟨rfl, g⟩
  exact ⟨rfl, gbelow g (Nat.le_refl _) (by simp)⟩
end Go.Proofs.YtafcgjbafihniaaGreat

/-
  LAYER 1 (fs): FsSynced, its walk.
-/
namespace Go.Proofs.YtafcgjbafihniaaGreat
set_option maxRecDepth 100000
open Go.RowKit Go.Lib Go.ChangeShapes Go.WideShapes Go.ChangeAt
attribute [local go_sem] Oper.semAt_some

section
variable {n0 : Nat → Prop} {w W W' : World} {f : Nat} {a : RefP} {F : Nat → Prop} {N : Nat}
theorem FsSim.dead (S : FsSim n0 w f a) : Calls Tryz.prog 21 #[.pointer (some ⟨f, 0, none⟩)] w fun e w' => e = .returned (.bool a.died) ∧ w = w' := by
  obtain ⟨φ, p, d, s, mv, fl, h, hs⟩ := S
  exact dead_fs w h.fs
theorem FsSim.ops (S : FsSim n0 w f a) : Calls Tryz.prog 28 #[.pointer (some ⟨f, 0, none⟩)] w fun e w' => e = .returned (.int .i64 a.count) ∧ w = w' := by
  obtain ⟨φ, p, d, s, mv, fl, h, hs⟩ := S
  exact ops_fs w h.fs
/-- A list of files that was told keeps, whatever files are turned that lay there before, or made since. -/
theorem FilesAt.since {w5 : World} {P : Nat → Prop} {B : Nat} {v : Value} {rows : List FRow} (h : FilesAt w5 B v rows) (g : GP P w5 W) (hP : ∀ k, P k → k < B) : FilesAt W B v rows := h.gp g (fun k hk => .inl (hP k hk))
end
set_option maxHeartbeats 16000000 in
theorem FsSynced_go (w : World) (pv v qv : Value) (p qp : Pl) (L : List OpP) (hp : PlanR w pv p) (h : OpsR w v L) (hq : PlanR w qv qp) :
    Calls Tryz.prog 5 #[pv, v, qv] w fun e w' => e = .returned (.bool true) ∧ w.grownBy w' none := by
  have hL : L.length ≤ 2199023255552 := by obtain ⟨_, _, _, h2, _⟩ := h; omega
  have hfit : ∀ o ∈ L, o.Fits := by obtain ⟨_, _, _, _, h3, _⟩ := h; exact h3
  have hlB : L.length ≤ 879609302208 := by obtain ⟨_, _, _, h2, _⟩ := h; exact h2
  obtain ⟨va, vc, hv⟩ : ∃ a c, v = .slice a L.length c := by obtain ⟨a, c, h2, _⟩ := h; exact ⟨a, c, h2⟩
  subst hv
  have hp0 := hp
  have hq0 := hq
  obtain ⟨a1, c1, a2, c2, a3, c3, rfl, hpf, -, -, -⟩ := hp0
  obtain ⟨b1, d1, b2, d2, b3, d3, rfl, -, -, -, -⟩ := hq0
  obtain ⟨ln, hln⟩ : ∃ n, n = L.length := ⟨_, rfl⟩
  rw [← hln] at h ⊢
  generalize hn1 : p.keep.length = n1 at *
  generalize hn2 : p.fail.length = n2 at *
  generalize hn3 : p.full.length = n3 at *
  generalize hm1 : qp.keep.length = m1 at *
  generalize hm2 : qp.fail.length = m2 at *
  generalize hm3 : qp.full.length = m3 at *
  obtain ⟨W0, hW0⟩ : ∃ W0, W0 = (w.alloc (.cells #[.int .i64 p.crash, .slice a1 n1 c1, .slice a2 n2 c2, .slice a3 n3 c3, .int .i64 p.room] 24)).alloc (.cells #[.int .i64 qp.crash, .slice b1 m1 d1, .slice b2 m2 d2, .slice b3 m3 d3, .int .i64 qp.room] 24) := ⟨_, rfl⟩
  have gB : w.grownBy W0 none := by rw [hW0]; exact galloc (World.grownBy_alloc w _ none) _
  have P0 : PlanAt W0 w.heap.size (.int .i64 p.crash) (.slice a1 n1 c1) (.slice a2 n2 c2) (.slice a3 n3 c3) (.int .i64 p.room) := by
    rw [hW0]
    exact ((World.grownBy_alloc (w.alloc _) _ none).block w.heap.size (by simp) (by simp)).trans (World.alloc_heap_new w _)
  have Q0 : PlanAt W0 (w.heap.size + 1) (.int .i64 qp.crash) (.slice b1 m1 d1) (.slice b2 m2 d2) (.slice b3 m3 d3) (.int .i64 qp.room) := by
    rw [hW0]
    have := World.alloc_heap_new (w.alloc (.cells #[.int .i64 p.crash, .slice a1 n1 c1, .slice a2 n2 c2, .slice a3 n3 c3, .int .i64 p.room] 24)) (.cells #[.int .i64 qp.crash, .slice b1 m1 d1, .slice b2 m2 d2, .slice b3 m3 d3, .int .i64 qp.room] 24)
    rwa [World.size_alloc] at this
  have haw := fawake_any W0
  have hfi : Hid (∀ W, w.grownBy W none → Calls Tryz.prog 11 #[.slice va ln vc] W (SomeB W)) := Lib.hid fun W g => fits_any _ L W (h.new g)
  have hma : Hid (∀ W, w.grownBy W none → Calls Tryz.prog 16 #[.agg #[.int .i64 p.crash, .slice a1 n1 c1, .slice a2 n2 c2, .slice a3 n3 c3, .int .i64 p.room], .slice va ln vc] W fun e w' => ∃ f q F R, e = .returned (.tuple #[.pointer (some ⟨f, 0, none⟩), .pointer (some ⟨q, 0, none⟩), .bool true]) ∧ Made W L p w' f q F R) := Lib.hid fun W g => made_any _ _ p L W (hp.new g) (h.new g)
  obtain ⟨A, hA⟩ : ∃ A, A = L.foldl RefP.op (RefP.new p) := ⟨_, rfl⟩
  have hAI : RInv L.length A ∧ (A.died = true → Settled A) := by rw [hA]; exact made_inv hpf hfit
  have hqf : planFits qp := by obtain ⟨_, _, _, _, _, _, _, k, _⟩ := hq; exact k
  obtain ⟨NL, hNL⟩ : ∃ NL, NL = A.dir.length := ⟨_, rfl⟩
  have hNL9 : NL ≤ 4096 := by rw [hNL]; exact hAI.1.dirOk.len
  replace hNL := Lib.hid hNL
  obtain ⟨ad, had⟩ : ∃ ad, ad = A.died := ⟨_, rfl⟩
  replace had := Lib.hid had
  replace hA := Lib.hid hA
  replace hAI := Lib.hid hAI
  replace hqf := Lib.hid hqf
  replace hq := Lib.hid hq
  replace hL := Lib.hid hL
  replace hlB := Lib.hid hlB
  replace hln := Lib.hid hln
  replace gB := Lib.hid gB
  replace hn1 := Lib.hid hn1
  replace hn2 := Lib.hid hn2
  replace hn3 := Lib.hid hn3
  replace hm1 := Lib.hid hm1
  replace hm2 := Lib.hid hm2
  replace hm3 := Lib.hid hm3
  obtain ⟨bq, hbq⟩ : ∃ bq, bq = w.heap.size + 1 := ⟨_, rfl⟩
  rw [← hbq] at Q0
  clear h hp hfit hpf
  go_enter Tryz.func5, Tryz.ntmps5
  go_upto_region 1 with fail
  rw [← hW0, ← hbq]
  replace hW0 := Lib.hid hW0
  replace hbq := Lib.hid hbq
  go_upto_region 3 with
    (go_at_call 10
     refine haw.mono ?_
     clear haw
     rintro e w1 ⟨rfl, g1⟩
     have G1 := Lib.hid (gB.out.trans g1)
     have hf1 := hfi.out w1 G1.out
     have P1 := P0.kept g1 (by simp)
     have Q1 := Q0.kept g1 (by simp)
     clear g1 P0 Q0)
  go_wp2_with fail
  refine hf1.mono ?_
  clear hf1
  rintro e w2 ⟨b, rfl, g2⟩
  have G2 := Lib.hid (G1.out.trans g2)
  have hm2 := hma.out w2 G2.out
  have P2 := P1.kept g2 (by simp)
  have Q2 := Lib.hid (Q1.kept g2 (by simp))
  have x0 := P2.c0
  have x1 := P2.c1
  have x2 := P2.c2
  have x3 := P2.c3
  have x4 := P2.c4
  clear g2 P1 P2 Q1
  cases b
  · go_wp2_with fail
    go_ret
    exact ⟨rfl, G2.out⟩
  · cases ad
    · go_upto_region 11 with first
        | (go_at_call 16
           refine hm2.mono ?_
           clear hm2
           rintro e w3 ⟨f, q, F3, R, rfl, M⟩
           have FA := M.alone
           rw [← hA.out] at FA
           have hdd := FA.fs.dead
           rw [← had.out] at hdd
           have hfs := FA.fs.files hAI.out.1 hL.out
           have FA3 := Lib.hid FA
           clear M FA x0 x1 x2 x3 x4)
        | (go_at_call 21
           refine hdd.mono ?_
           clear hdd
           rintro e w3' ⟨rfl, rfl⟩)
        | (go_at_call 22
           refine hfs.mono ?_
           clear hfs
           rintro e w5 ⟨v5, rows, rfl, k5, e5, g5⟩
           obtain ⟨x5, y5, rfl⟩ := rowFormS k5.1
           have hre : rows.map (fun r => r.1) = A.dir.sorted.map (·.1) := by
             have h9 := congrArg (List.map Prod.fst) e5
             rw [List.map_map] at h9
             unfold RefP.files at h9
             rw [if_neg (by rw [← had.out]; simp), List.map_map] at h9
             exact h9
           have hrl : rows.length = NL := by
             have := congrArg List.length hre
             rw [List.length_map, List.length_map, DirL.sorted_length, ← hNL.out] at this
             exact this
           rw [hrl] at k5 ⊢
           have k5h := Lib.hid k5
           have hreh := Lib.hid hre
           have hrlh := Lib.hid hrl
           have FA5 := Lib.hid (FA3.out.new g5)
           have gs5 := Lib.hid g5.size
           have hF3 : Hid (∀ k, F3 k → k < w3.heap.size) := Lib.hid (fun k hk => (FA3.out.fl k hk).2)
           clear k5 e5 g5 hre hrl)
      go_loopw [11, 32] (fun _ vi wr => ∃ (j : Nat) (F : Nat → Prop) (a : RefP), vi = .int .i64 (j : Int) ∧ j ≤ NL ∧ Hid (FAlone w2 f a wr F) ∧ Hid (RInv (L.length + j) a) ∧ Hid (Syncing A (A.dir.sorted.map (·.1)) j a) ∧ Hid (GP F3 w5 wr) ∧ Hid (∀ k, F k → F3 k ∨ w5.heap.size ≤ k)) (fun _ vi _ => NL - (RowKit.intOf vi).toNat)
      case atStart => exact ⟨0, F3, A, rfl, Nat.zero_le _, FA5, Lib.hid hAI.out.1, Lib.hid ⟨rfl, rfl, fun k x i hk => by omega⟩, Lib.hid (GP.refl _ _), Lib.hid (fun k hk => .inl hk)⟩
      case round =>
        obtain ⟨j, F, a, rfl, hj, hFA, hI, hS, hG, hFF⟩ := hrel
        by_cases hlt : j < NL
        · have hltz : (j : Int) < (NL : Int) := by omega
          obtain ⟨x, hx⟩ : ∃ x, rows[j]? = some x := ⟨_, List.getElem?_eq_getElem (by rw [hrlh.out]; exact hlt)⟩
          have hxn : (A.dir.sorted.map (·.1))[j]? = some x.1 := by rw [← hreh.out, List.getElem?_map, hx]; rfl
          obtain ⟨b, da, dc, rfl, _, hbl, q0, _, q1⟩ := (k5h.out.since hG.out hF3.out).at hx
          obtain ⟨xs, hxs⟩ : ∃ xs : ByteArray, xs = ⟨x.1.toArray⟩ := ⟨_, rfl⟩
          rw [← hxs] at q0
          generalize x.2.2.length = dl at *
          have gX := World.grownBy_alloc wr (.cells #[.string xs, .slice da dl dc] 53) none
          have FX := hFA.out.new gX
          have hxz : xs.size ≤ maxLen := by
            obtain ⟨y, hy, hye⟩ := List.mem_map.1 (List.mem_of_getElem? hxn)
            have h32 := hAI.out.1.dirOk.lookShort (DirL.sorted_look _ y hy)
            rw [hye, ← show xs.data.toList = x.1 by rw [hxs], bsize] at h32
            unfold maxLen
            omega
          have hsy := FX.step (fun S hn => S.sync hI.out (by have := hlB.out; omega) hn xs hxz)
          obtain ⟨r1, hr1⟩ : ∃ r1, r1 = (a.sync xs).1 := ⟨_, rfl⟩
          rw [← hr1] at hsy
          by_cases hz : r1 = 0
          · subst hz
            have hS2 : Hid (Syncing A (A.dir.sorted.map (·.1)) (j + 1) (a.sync xs).2) := Lib.hid (by
              rw [hxs]
              exact hS.out.next hI.out hxn (by rw [← hxs]; exact hr1.symm))
            have hI2 : Hid (RInv (L.length + (j + 1)) (a.sync xs).2) := Lib.hid (by rw [← Nat.add_assoc]; exact hI.out.sync xs)
            replace hr1 := Lib.hid hr1
            replace hxs := Lib.hid hxs
            replace gX := Lib.hid gX
            clear hx hxn FX hxz
            go_wp2_with (go_at_call 23
                         refine hsy.mono ?_
                         clear hsy
                         rintro e w6 ⟨rfl, h6, g6⟩
                         have h6h := Lib.hid h6
                         have hs9 := hG.out.size
                         have g6h := Lib.hid ((hG.out.trans (GP.of (P := F3) gX.out (by simp)) (fun k hk => .inl hk)).trans g6 (fun k hk => hFF.out k hk))
                         clear h6 g6)
            exact ⟨⟨j + 1, _, _, by go_num, by omega, h6h, hI2, hS2, g6h, Lib.hid (fun k hk => hk.elim (hFF.out k) (fun h => .inr (Nat.le_trans hs9 (Nat.le_trans gX.out.size h.1))))⟩, by simp [RowKit.intOf]; omega⟩
          · have hzb : (r1 == 0) = false := by simpa using hz
            replace hr1 := Lib.hid hr1
            replace hxs := Lib.hid hxs
            clear hx hxn FX hxz gX hz
            go_wp2_with (go_at_call 23
                         refine hsy.mono ?_
                         clear hsy
                         rintro e w6 ⟨rfl, h6, g6⟩
                         have FFn := Lib.hid (G2.out.trans h6.grown)
                         clear h6 g6)
            go_ret
            exact ⟨rfl, FFn.out⟩
        · obtain rfl : j = NL := by omega
          have hsd := hFA.out.step (fun S hn => S.syncDir hI.out (by have := hlB.out; omega) hn)
          obtain ⟨r2, hr2⟩ : ∃ r2, r2 = a.syncDir.1 := ⟨_, rfl⟩
          obtain ⟨b, hb⟩ : ∃ b, b = a.syncDir.2 := ⟨_, rfl⟩
          have hBI := hI.out.syncDir
          rw [← hr2, ← hb] at hsd
          rw [← hb] at hBI
          by_cases hz : r2 = 0
          · subst hz
            have hset := hS.out
            rw [hNL.out] at hset
            have hset2 := hset.settled hr2.symm
            rw [← hb, ← had.out] at hset2
            have hN : L.length + j + 1 ≤ 2199023255552 := by have := hlB.out; omega
            have hCI := hBI.start qp hqf.out
            have hCf := hset2.1.start hBI hset2.2 qp
            have hCs := (start_settled hBI (fun e => by rw [hset2.2] at e; cases e) qp).files rfl
            rw [hCf] at hCs
            have hlen := files_len hBI
            have hlen5 : ∀ rows : List FRow, rows.map (fun r => (r.1, r.2.2)) = b.files → rows.length ≤ 65536 := fun rows e => by
              have := congrArg List.length e
              rw [List.length_map] at this
              omega
            replace hBI := Lib.hid hBI
            replace hCI := Lib.hid hCI
            replace hCf := Lib.hid hCf
            replace hCs := Lib.hid hCs
            replace hlen5 := Lib.hid hlen5
            replace hN := Lib.hid hN
            replace hr2 := Lib.hid hr2
            replace hb := Lib.hid hb
            clear hset hset2 hlen hS hI hG hFF
            go_wp2_with first
              | (go_at_call 24
                 refine hsd.mono ?_
                 clear hsd
                 rintro e w7 ⟨rfl, FB, g7⟩
                 have hfs1 := FB.fs.files hBI.out hN.out
                 have FB7 := Lib.hid FB
                 clear FB g7)
              | (go_at_call 22
                 refine hfs1.mono ?_
                 clear hfs1
                 rintro e w8 ⟨v8, rows8, rfl, k8, e8, g8⟩
                 obtain ⟨x8, y8, rfl⟩ := rowFormS k8.1
                 have FB8 := Lib.hid (FB7.out.new g8)
                 have hst := FB8.out.start hBI.out hN.out (hq.out.new G2.out)
                 have Q8 := Q2.out.kept FB8.out.grown (by simp)
                 have y0 := Q8.c0
                 have y1 := Q8.c1
                 have y2 := Q8.c2
                 have y3 := Q8.c3
                 have y4 := Q8.c4
                 have k8h := Lib.hid k8
                 have e8h := Lib.hid e8
                 clear k8 e8 g8 Q8)
              | (go_at_call 25
                 refine hst.mono ?_
                 clear hst
                 rintro e w9 ⟨rfl, FC, g9⟩
                 have hfs2 := FC.fs.files hCI.out hN.out
                 have FC9 := Lib.hid FC
                 have k89 := Lib.hid (k8h.out.since g9 (fun k hk => (FB7.out.fl k hk).2))
                 clear FC g9 y0 y1 y2 y3 y4)
              | (go_at_call 22
                 refine hfs2.mono ?_
                 clear hfs2
                 rintro e w10 ⟨v10, rows10, rfl, k10, e10, g10⟩
                 obtain ⟨x10, y10, rfl⟩ := rowFormS k10.1
                 rw [hCf.out] at e10
                 have FC10 := Lib.hid (FC9.out.new g10)
                 have hsm1 := rsame_any k10 (k89.out.new g10) (by rw [e10, e8h.out]) (hlen5.out rows10 e10)
                 have k810 := Lib.hid (k89.out.new g10)
                 clear k10 e10 g10)
              | (go_at_call 26
                 refine hsm1.mono ?_
                 clear hsm1
                 rintro e w11 ⟨rfl, g11⟩
                 have FC11 := Lib.hid (FC10.out.new g11)
                 have hsf := FC11.out.fs.safes hCI.out hN.out
                 have k811 := Lib.hid (k810.out.new g11)
                 clear g11)
              | (go_at_call 27
                 refine hsf.mono ?_
                 clear hsf
                 rintro e w12 ⟨v12, rows12, rfl, k12, e12, g12⟩
                 obtain ⟨x12, y12, rfl⟩ := rowFormS k12.1
                 rw [hCs.out] at e12
                 have FC12 := Lib.hid (FC11.out.new g12)
                 have hsm2 := rsame_any k12 (k811.out.new g12) (by rw [e12, e8h.out]) (hlen5.out rows12 e12)
                 clear k12 e12 g12)
              | (go_at_call 26
                 refine hsm2.mono ?_
                 clear hsm2
                 rintro e w13 ⟨rfl, g13⟩
                 have FC13 := Lib.hid (FC12.out.new g13)
                 have hop := FC13.out.fs.ops
                 rw [show (b.start qp).count = 0 from rfl] at hop
                 have hde := FC13.out.fs.dead
                 rw [show (b.start qp).died = false from rfl] at hde
                 clear g13)
              | (go_at_call 28
                 refine hop.mono ?_
                 clear hop
                 rintro e w13' ⟨rfl, rfl⟩)
              | (go_at_call 21
                 refine hde.mono ?_
                 clear hde
                 rintro e w13' ⟨rfl, rfl⟩)
            go_ret
            exact ⟨rfl, G2.out.trans FC13.out.grown⟩
          · have hzb : (r2 == 0) = false := by simpa using hz
            replace hr2 := Lib.hid hr2
            replace hb := Lib.hid hb
            clear hz hBI
            go_wp2_with (go_at_call 24
                         refine hsd.mono ?_
                         clear hsd
                         rintro e w7 ⟨rfl, FB, g7⟩
                         have FFn := Lib.hid (G2.out.trans FB.grown)
                         clear FB g7)
            go_ret
            exact ⟨rfl, FFn.out⟩
    · go_wp2_with first
        | (go_at_call 16
           refine hm2.mono ?_
           clear hm2
           rintro e w3 ⟨f, q, F3, R, rfl, M⟩
           have FA := M.alone
           rw [← hA.out] at FA
           have hdd := FA.fs.dead
           rw [← had.out] at hdd
           have FA3 := Lib.hid FA.grown
           clear M FA x0 x1 x2 x3 x4)
        | (go_at_call 21
           refine hdd.mono ?_
           clear hdd
           rintro e w3' ⟨rfl, rfl⟩)
      go_ret
      exact ⟨rfl, G2.out.trans FA3.out⟩
theorem FsSynced_walk (w : World) (pv : Value) (p : Pl) (hp : PlanR w pv p) (v : Value) (L : List OpP) (h : OpsR w v L) (qv : Value) (qp : Pl) (hq : PlanR w qv qp) :
    Calls Tryz.prog 5 #[pv, v, qv] w fun e w' => e = .returned (.bool true) ∧ Below w.heap.size w w' := by
  refine (FsSynced_go w pv v qv p qp L hp h hq).mono ?_
  rintro e w' ⟨rfl, g⟩
  exact ⟨rfl, gbelow g (Nat.le_refl _) (by simp)⟩
end Go.Proofs.YtafcgjbafihniaaGreat

/-
  LAYER 1 (fs): lecternlaw01's same: both file systems tell the same.
-/
namespace Go.Proofs.YtafcgjbafihniaaGreat
set_option maxRecDepth 100000
variable {DX : Nat → Prop}
open Go.RowKit Go.Lib
open Go.Proofs (encStr)
attribute [local go_sem] Oper.semAt_some

theorem nilEachF (nb sb : Nat) (w : World) : (binOp .eql 91 (.func (.func 83) #[] #[.pointer (some ⟨nb, 0, none⟩), .pointer (some ⟨sb, 0, none⟩)]) .nilFunc).run Tryz.prog w = .ok (.bool false) w := by kernel_rfl

section
variable {F R : Nat → Prop} {f q N : Nat} {a : RefP}
/-- What same asks of both. -/
structure Asks (w : World) (f q : Nat) (a : RefP) : Prop where
  fi : ∀ V, w.grownBy V none → Calls Tryz.prog 22 #[.pointer (some ⟨f, 0, none⟩)] V fun e w' => ∃ v rows, e = .returned v ∧ FilesAt w' V.heap.size v rows ∧ rows.map (fun r => (r.1, r.2.2)) = a.files ∧ V.grownBy w' none
  rf : ∀ V, w.grownBy V none → Calls Tryz.prog 47 #[.pointer (some ⟨q, 0, none⟩)] V fun e w' => ∃ v rows, e = .returned v ∧ FilesAt w' V.heap.size v rows ∧ rows.map (fun r => (r.1, r.2.2)) = a.files ∧ V.grownBy w' none
  sa : ∀ V, w.grownBy V none → Calls Tryz.prog 27 #[.pointer (some ⟨f, 0, none⟩)] V fun e w' => ∃ v rows, e = .returned v ∧ FilesAt w' V.heap.size v rows ∧ rows.map (fun r => (r.1, r.2.2)) = a.safeFiles ∧ V.grownBy w' none
  rs : ∀ V, w.grownBy V none → Calls Tryz.prog 48 #[.pointer (some ⟨q, 0, none⟩)] V fun e w' => ∃ v rows, e = .returned v ∧ FilesAt w' V.heap.size v rows ∧ rows.map (fun r => (r.1, r.2.2)) = a.safeFiles ∧ V.grownBy w' none
  op : ∀ V, w.grownBy V none → Calls Tryz.prog 28 #[.pointer (some ⟨f, 0, none⟩)] V fun e w' => e = .returned (.int .i64 a.count) ∧ V = w'
  de : ∀ V, w.grownBy V none → Calls Tryz.prog 21 #[.pointer (some ⟨f, 0, none⟩)] V fun e w' => e = .returned (.bool a.died) ∧ V = w'
  us : ∀ V, w.grownBy V none → Calls Tryz.prog 36 #[.pointer (some ⟨f, 0, none⟩)] V fun e w' => e = .returned (.int .i64 (((a.files.map fun x => x.2.length).sum : Nat) : Int)) ∧ V.grownBy w' none
  ru : ∀ V, w.grownBy V none → Calls Tryz.prog 49 #[.pointer (some ⟨q, 0, none⟩)] V fun e w' => e = .returned (.int .i64 (((a.files.map fun x => x.2.length).sum : Nat) : Int)) ∧ V.grownBy w' none
  ea : ∀ V, w.grownBy V none → Calls Tryz.prog 50 #[.pointer (some ⟨f, 0, none⟩)] V fun e w' => ∃ nb sb v u, e = .returned (.func (.func 83) #[] #[.pointer (some ⟨nb, 0, none⟩), .pointer (some ⟨sb, 0, none⟩)]) ∧ Boxed w' nb 127 v ∧ Boxed w' sb 22 u ∧
      w'.ownsRow V.heap.size 9 1 v a.told.length (a.told.map (fun x => encStr x.1)) ∧ w'.ownsRow V.heap.size 3 1 u a.told.length (a.told.map (fun x => .int .i64 x.2)) ∧ V.grownBy w' none ∧ V.heap.size ≤ nb ∧ V.heap.size ≤ sb
  ce : ∀ V, w.grownBy V none → V.cell? ⟨q, 5, none⟩ = some (.int .i64 a.count) ∧ V.cell? ⟨q, 6, none⟩ = some (.bool a.died)
  fl : a.files.length ≤ 65536
  sl : a.safeFiles.length ≤ 65536
theorem asks_of {w : World} (H : Both DX F R w f q a a) (I : RInv N a) (hN : N ≤ 2199023255552) : Asks w f q a := by
  obtain ⟨k1, k2, k3, k4, k5, k6, k7⟩ := I.asks hN
  have hfl : a.files.length ≤ 65536 := by
    unfold RefP.files
    split
    · simp
    · rw [List.length_map, DirL.sorted_length]
      exact k2
  refine ⟨fun V g => (H.new g).fs.files I hN, fun V g => ?_, fun V g => (H.new g).fs.safes I hN, fun V g => ?_, fun V g => (H.new g).fs.ops, fun V g => (H.new g).fs.dead, fun V g => (H.new g).fs.usedA I hN, fun V g => ?_, fun V g => (H.new g).fs.each I hN, fun V g => ?_, hfl, ?_⟩
  · obtain ⟨r, vs, h⟩ := (H.new g).rf
    exact rfiles_any h k1 k2 k3
  · obtain ⟨r, vs, h⟩ := (H.new g).rf
    exact rsafes_any h k1 k1.safe (fun x j e => k1.dies 0 x j e)
  · obtain ⟨r, vs, h⟩ := (H.new g).rf
    refine rused_any h k1 k2 k3 (fun x hx => ?_)
    unfold RefP.files at hx
    split at hx
    · cases hx
    · obtain ⟨y, h1, rfl⟩ := List.mem_map.1 hx
      exact k6 _ (RefP.file_mem (k3 y.1 y.2 (DirL.sorted_look _ y h1)))
  · obtain ⟨r, vs, h⟩ := (H.new g).rf
    have c5 := h.at_.c5
    have c6 := h.at_.c6
    rw [h.count] at c5
    rw [h.died] at c6
    exact ⟨c5, c6⟩
  · unfold RefP.safeFiles
    rw [List.length_map, DirL.sorted_length]
    exact k1.safe

set_option maxHeartbeats 16000000 in
theorem same_law (w : World) (A : Asks w f q a) :
    CallsIn Fence.wide 20 Tryz.prog 15 #[.pointer (some ⟨f, 0, none⟩), .pointer (some ⟨q, 0, none⟩)] w fun e w' => e = .returned (.bool true) ∧ w.grownBy w' none := by
  obtain ⟨W0, hW0⟩ : ∃ W0, W0 = w.alloc (.cells #[.bool false] 4) := ⟨_, rfl⟩
  have g0 : w.grownBy W0 none := by rw [hW0]; exact World.grownBy_alloc _ _ _
  have eR : Boxed W0 w.heap.size 4 (.bool false) := by rw [hW0]; exact World.alloc_heap_new w _
  have gd := gdrew (World.grownBy.refl W0 none)
  have g0d := g0.trans gd
  have eRd := eR.kept gd (by simp)
  have hS : Hid (∀ V, w.grownBy V none → V.cell? ⟨q, 5, none⟩ = some (.int .i64 a.count) ∧ V.cell? ⟨q, 6, none⟩ = some (.bool a.died)) := Lib.hid A.ce
  have s0 := hS.out _ g0d
  replace A := Lib.hid A
  have hFi := A.out.fi _ g0d
  replace g0d := Lib.hid g0d
  replace eRd := Lib.hid eRd
  clear g0 eR gd
  refine callsIn_of_wp_marks Tryz.func15 rfl trivial ?_ rfl
  simp only [Tryz.ntmps15, List.size_toArray, List.length_cons, List.length_nil, Nat.reduceAdd, Nat.reduceSub, Array.replicate_succ, Array.replicate_zero, List.push_toArray, List.append_toArray, List.nil_append, List.cons_append]
  gi_wp2_with fail
  rw [← hW0]
  replace hW0 := Lib.hid hW0
  apply wpIn_noPanic
  refine wpIn_region_held (S := fun V => V.cell? ⟨q, 5, none⟩ = some (.int .i64 a.count) ∧ V.cell? ⟨q, 6, none⟩ = some (.bool a.died)) (by kernel_rfl) s0 (fun hS0 => ?_)
  refine wpAnyHIn_take (i := 0) (oi := ⟨some 10, _, _, _, _, _⟩) (v := ?_) rfl (by kernel_rfl) (by kernel_rfl) (by kernel_rfl) (by kernel_rfl) (fun _ _ _ h => h) (fun _ => rfl) (Or.inl ⟨by rfl, ?_⟩) (by assumption) ?_
  rotate_left
  · (intro w hSw; (try dsimp only at hSw); go_simp; try with_reducible rfl)
  try simp only [Act.put, List.setIfInBounds_toArray, List.set_cons_zero, List.set_cons_succ]
  refine wpAnyHIn_take (i := 2) (oi := ⟨some 12, _, _, _, _, _⟩) (v := ?_) rfl (by kernel_rfl) (by kernel_rfl) (by kernel_rfl) (by kernel_rfl) (fun _ _ _ h => h) (fun _ => rfl) (Or.inl ⟨by rfl, ?_⟩) (by assumption) ?_
  rotate_left
  · (intro w hSw; (try dsimp only at hSw); go_simp; try with_reducible rfl)
  try simp only [Act.put, List.setIfInBounds_toArray, List.set_cons_zero, List.set_cons_succ]
  refine wpAnyHIn_next (i := 1) (by kernel_rfl) rfl (by rfl) (fun K hK => ?_)
  go_simp
  refine ⟨trivial, (callsIn_wide.2 hFi).mono ?_⟩
  rintro e w1 ⟨v1, rows1, rfl, m1, n1, g1⟩
  clear hFi
  have gw1 := g0d.out.trans g1
  have hRf := A.out.rf _ gw1
  refine hK.out _ _ (hS.out _ gw1) (fun hS1 => ?_)
  clear hK
  refine wpAnyHIn_next (i := 3) (by kernel_rfl) rfl (by rfl) (fun K hK => ?_)
  go_simp
  refine ⟨trivial, (callsIn_wide.2 hRf).mono ?_⟩
  rintro e w2 ⟨v2, rows2, rfl, m2, n2, g2⟩
  clear hRf
  have gw2 := gw1.trans g2
  have hSm := rsame_any (m1.new g2) m2 (by rw [n1, n2]) (by have := congrArg List.length n1; rw [List.length_map] at this; rw [this]; exact A.out.fl)
  refine hK.out _ _ (hS.out _ gw2) (fun hS2 => ?_)
  clear hK m1 m2 n1 n2
  refine wpAnyHIn_next (i := 4) (by kernel_rfl) rfl (by rfl) (fun K hK => ?_)
  go_simp
  refine ⟨trivial, (callsIn_wide.2 hSm).mono ?_⟩
  rintro e w3 ⟨rfl, g3⟩
  clear hSm
  have gw3 := gw2.trans g3
  have hSa := A.out.sa _ gw3
  refine hK.out _ _ (hS.out _ gw3) (fun hS3 => ?_)
  clear hK
  refine wpAnyHIn_take (i := 5) (oi := ⟨some 15, _, _, _, _, _⟩) (v := ?_) rfl (by kernel_rfl) (by kernel_rfl) (by kernel_rfl) (by kernel_rfl) (fun _ _ _ h => h) (fun _ => rfl) (Or.inl ⟨by rfl, ?_⟩) (by assumption) ?_
  rotate_left
  · (intro w hSw; (try dsimp only at hSw); go_simp; try with_reducible rfl)
  try simp only [Act.put, List.setIfInBounds_toArray, List.set_cons_zero, List.set_cons_succ]
  refine wpAnyHIn_take (i := 6) (oi := ⟨some 16, _, _, _, _, _⟩) (v := ?_) rfl (by kernel_rfl) (by kernel_rfl) (by kernel_rfl) (by kernel_rfl) (fun _ _ _ h => h) (fun _ => rfl) (Or.inl ⟨by rfl, ?_⟩) (by assumption) ?_
  rotate_left
  · (intro w hSw; (try dsimp only at hSw); go_simp; try with_reducible rfl)
  try simp only [Act.put, List.setIfInBounds_toArray, List.set_cons_zero, List.set_cons_succ]
  refine wpAnyHIn_take (i := 7) (oi := ⟨some 17, _, _, _, _, _⟩) (v := ?_) rfl (by kernel_rfl) (by kernel_rfl) (by kernel_rfl) (by kernel_rfl) (fun _ _ _ h => h) (fun _ => rfl) (Or.inl ⟨by rfl, ?_⟩) (by assumption) ?_
  rotate_left
  · (intro w hSw; (try dsimp only at hSw); go_simp; try with_reducible rfl)
  try simp only [Act.put, List.setIfInBounds_toArray, List.set_cons_zero, List.set_cons_succ]
  refine wpAnyHIn_take (i := 9) (oi := ⟨some 19, _, _, _, _, _⟩) (v := ?_) rfl (by kernel_rfl) (by kernel_rfl) (by kernel_rfl) (by kernel_rfl) (fun _ _ _ h => h) (fun _ => rfl) (Or.inl ⟨by rfl, ?_⟩) (by assumption) ?_
  rotate_left
  · (intro w hSw; (try dsimp only at hSw); go_simp; try with_reducible rfl)
  try simp only [Act.put, List.setIfInBounds_toArray, List.set_cons_zero, List.set_cons_succ]
  refine wpAnyHIn_next (i := 8) (by kernel_rfl) rfl (by rfl) (fun K hK => ?_)
  go_simp
  refine ⟨trivial, (callsIn_wide.2 hSa).mono ?_⟩
  rintro e w4 ⟨v4, rows4, rfl, m4, n4, g4⟩
  clear hSa
  have gw4 := gw3.trans g4
  have hRs := A.out.rs _ gw4
  refine hK.out _ _ (hS.out _ gw4) (fun hS4 => ?_)
  clear hK
  refine wpAnyHIn_next (i := 10) (by kernel_rfl) rfl (by rfl) (fun K hK => ?_)
  go_simp
  refine ⟨trivial, (callsIn_wide.2 hRs).mono ?_⟩
  rintro e w5 ⟨v5, rows5, rfl, m5, n5, g5⟩
  clear hRs
  have gw5 := gw4.trans g5
  have hSm2 := rsame_any (m4.new g5) m5 (by rw [n4, n5]) (by have := congrArg List.length n4; rw [List.length_map] at this; rw [this]; exact A.out.sl)
  refine hK.out _ _ (hS.out _ gw5) (fun hS5 => ?_)
  clear hK m4 m5 n4 n5
  refine wpAnyHIn_next (i := 11) (by kernel_rfl) rfl (by rfl) (fun K hK => ?_)
  go_simp
  refine ⟨trivial, (callsIn_wide.2 hSm2).mono ?_⟩
  rintro e w6 ⟨rfl, g6⟩
  clear hSm2
  have gw6 := gw5.trans g6
  have hOp := A.out.op _ gw6
  refine hK.out _ _ (hS.out _ gw6) (fun hS6 => ?_)
  clear hK
  refine wpAnyHIn_take (i := 12) (oi := ⟨some 22, _, _, _, _, _⟩) (v := ?_) rfl (by kernel_rfl) (by kernel_rfl) (by kernel_rfl) (by kernel_rfl) (fun _ _ _ h => h) (fun _ => rfl) (Or.inl ⟨by rfl, ?_⟩) (by assumption) ?_
  rotate_left
  · (intro w hSw; (try dsimp only at hSw); go_simp; try with_reducible rfl)
  try simp only [Act.put, List.setIfInBounds_toArray, List.set_cons_zero, List.set_cons_succ]
  refine wpAnyHIn_take (i := 13) (oi := ⟨some 23, _, _, _, _, _⟩) (v := ?_) rfl (by kernel_rfl) (by kernel_rfl) (by kernel_rfl) (by kernel_rfl) (fun _ _ _ h => h) (fun _ => rfl) (Or.inl ⟨by rfl, ?_⟩) (by assumption) ?_
  rotate_left
  · (intro w hSw; (try dsimp only at hSw); go_simp; try with_reducible rfl)
  try simp only [Act.put, List.setIfInBounds_toArray, List.set_cons_zero, List.set_cons_succ]
  refine wpAnyHIn_take (i := 14) (oi := ⟨some 24, _, _, _, _, _⟩) (v := ?_) rfl (by kernel_rfl) (by kernel_rfl) (by kernel_rfl) (by kernel_rfl) (fun _ _ _ h => h) (fun _ => rfl) (Or.inl ⟨by rfl, ?_⟩) (by assumption) ?_
  rotate_left
  · (intro w hSw; (try dsimp only at hSw); go_simp; try with_reducible rfl)
  try simp only [Act.put, List.setIfInBounds_toArray, List.set_cons_zero, List.set_cons_succ]
  refine wpAnyHIn_take (i := 15) (oi := ⟨some 25, _, _, _, _, _⟩) (v := ?_) rfl (by kernel_rfl) (by kernel_rfl) (by kernel_rfl) (by kernel_rfl) (fun _ _ _ h => h) (fun _ => rfl) (Or.inl ⟨by rfl, ?_⟩) (by assumption) ?_
  rotate_left
  · (intro w hSw; (try dsimp only at hSw); go_simp; try with_reducible rfl)
  try simp only [Act.put, List.setIfInBounds_toArray, List.set_cons_zero, List.set_cons_succ]
  refine wpAnyHIn_take (i := 17) (oi := ⟨some 27, _, _, _, _, _⟩) (v := ?_) rfl (by kernel_rfl) (by kernel_rfl) (by kernel_rfl) (by kernel_rfl) (fun _ _ _ h => h) (fun _ => rfl) (Or.inl ⟨by rfl, ?_⟩) (by assumption) ?_
  rotate_left
  · (intro w hSw; (try dsimp only at hSw); go_simp; try with_reducible rfl)
  try simp only [Act.put, List.setIfInBounds_toArray, List.set_cons_zero, List.set_cons_succ]
  refine wpAnyHIn_take (i := 18) (oi := ⟨some 28, _, _, _, _, _⟩) (v := ?_) rfl (by kernel_rfl) (by kernel_rfl) (by kernel_rfl) (by kernel_rfl) (fun _ _ _ h => h) (fun _ => rfl) (Or.inl ⟨by rfl, ?_⟩) (by assumption) ?_
  rotate_left
  · (intro w hSw; (try dsimp only at hSw); go_simp; try with_reducible rfl)
  try simp only [Act.put, List.setIfInBounds_toArray, List.set_cons_zero, List.set_cons_succ]
  refine wpAnyHIn_take (i := 19) (oi := ⟨some 29, _, _, _, _, _⟩) (v := ?_) rfl (by kernel_rfl) (by kernel_rfl) (by kernel_rfl) (by kernel_rfl) (fun _ _ _ h => h) (fun _ => rfl) (Or.inl ⟨by rfl, ?_⟩) (by assumption) ?_
  rotate_left
  · (intro w hSw; (try dsimp only at hSw); go_simp; try with_reducible rfl)
  try simp only [Act.put, List.setIfInBounds_toArray, List.set_cons_zero, List.set_cons_succ]
  refine wpAnyHIn_take (i := 20) (oi := ⟨some 30, _, _, _, _, _⟩) (v := ?_) rfl (by kernel_rfl) (by kernel_rfl) (by kernel_rfl) (by kernel_rfl) (fun _ _ _ h => h) (fun _ => rfl) (Or.inl ⟨by rfl, ?_⟩) (by assumption) ?_
  rotate_left
  · (intro w hSw; (try dsimp only at hSw); go_simp; try with_reducible rfl)
  try simp only [Act.put, List.setIfInBounds_toArray, List.set_cons_zero, List.set_cons_succ]
  refine wpAnyHIn_next (i := 16) (by kernel_rfl) rfl (by rfl) (fun K hK => ?_)
  go_simp
  refine ⟨trivial, (callsIn_wide.2 hOp).mono ?_⟩
  rintro e w7 ⟨rfl, rfl⟩
  clear hOp
  have hDe := A.out.de _ gw6
  refine hK.out _ _ (hS.out _ gw6) (fun hS7 => ?_)
  clear hK
  have cn : (a.count != a.count) = false := by simp
  refine wpAnyHIn_take (i := 21) (oi := ⟨some 31, _, _, _, _, _⟩) (v := ?_) rfl (by kernel_rfl) (by kernel_rfl) (by kernel_rfl) (by kernel_rfl) (fun _ _ _ h => h) (fun _ => rfl) (Or.inl ⟨by rfl, ?_⟩) (by assumption) ?_
  rotate_left
  · (intro w hSw; (try dsimp only at hSw); go_simp; try with_reducible rfl)
  try simp only [Act.put, List.setIfInBounds_toArray, List.set_cons_zero, List.set_cons_succ]
  refine wpAnyHIn_take (i := 22) (oi := ⟨some 32, _, _, _, _, _⟩) (v := ?_) rfl (by kernel_rfl) (by kernel_rfl) (by kernel_rfl) (by kernel_rfl) (fun _ _ _ h => h) (fun _ => rfl) (Or.inl ⟨by rfl, ?_⟩) (by assumption) ?_
  rotate_left
  · (intro w hSw; (try dsimp only at hSw); go_simp; try with_reducible rfl)
  try simp only [Act.put, List.setIfInBounds_toArray, List.set_cons_zero, List.set_cons_succ]
  refine wpAnyHIn_take (i := 23) (oi := ⟨some 33, _, _, _, _, _⟩) (v := ?_) rfl (by kernel_rfl) (by kernel_rfl) (by kernel_rfl) (by kernel_rfl) (fun _ _ _ h => h) (fun _ => rfl) (Or.inl ⟨by rfl, ?_⟩) (by assumption) ?_
  rotate_left
  · (intro w hSw; (try dsimp only at hSw); go_simp; try with_reducible rfl)
  try simp only [Act.put, List.setIfInBounds_toArray, List.set_cons_zero, List.set_cons_succ]
  refine wpAnyHIn_take (i := 24) (oi := ⟨some 34, _, _, _, _, _⟩) (v := ?_) rfl (by kernel_rfl) (by kernel_rfl) (by kernel_rfl) (by kernel_rfl) (fun _ _ _ h => h) (fun _ => rfl) (Or.inl ⟨by rfl, ?_⟩) (by assumption) ?_
  rotate_left
  · (intro w hSw; (try dsimp only at hSw); go_simp; try with_reducible rfl)
  try simp only [Act.put, List.setIfInBounds_toArray, List.set_cons_zero, List.set_cons_succ]
  refine wpAnyHIn_take (i := 26) (oi := ⟨some 36, _, _, _, _, _⟩) (v := ?_) rfl (by kernel_rfl) (by kernel_rfl) (by kernel_rfl) (by kernel_rfl) (fun _ _ _ h => h) (fun _ => rfl) (Or.inl ⟨by rfl, ?_⟩) (by assumption) ?_
  rotate_left
  · (intro w hSw; (try dsimp only at hSw); go_simp; try with_reducible rfl)
  try simp only [Act.put, List.setIfInBounds_toArray, List.set_cons_zero, List.set_cons_succ]
  refine wpAnyHIn_take (i := 27) (oi := ⟨some 37, _, _, _, _, _⟩) (v := ?_) rfl (by kernel_rfl) (by kernel_rfl) (by kernel_rfl) (by kernel_rfl) (fun _ _ _ h => h) (fun _ => rfl) (Or.inl ⟨by rfl, ?_⟩) (by assumption) ?_
  rotate_left
  · (intro w hSw; (try dsimp only at hSw); go_simp; try with_reducible rfl)
  try simp only [Act.put, List.setIfInBounds_toArray, List.set_cons_zero, List.set_cons_succ]
  refine wpAnyHIn_take (i := 28) (oi := ⟨some 38, _, _, _, _, _⟩) (v := ?_) rfl (by kernel_rfl) (by kernel_rfl) (by kernel_rfl) (by kernel_rfl) (fun _ _ _ h => h) (fun _ => rfl) (Or.inl ⟨by rfl, ?_⟩) (by assumption) ?_
  rotate_left
  · (intro w hSw; (try dsimp only at hSw); go_simp; try with_reducible rfl)
  try simp only [Act.put, List.setIfInBounds_toArray, List.set_cons_zero, List.set_cons_succ]
  refine wpAnyHIn_take (i := 29) (oi := ⟨some 39, _, _, _, _, _⟩) (v := ?_) rfl (by kernel_rfl) (by kernel_rfl) (by kernel_rfl) (by kernel_rfl) (fun _ _ _ h => h) (fun _ => rfl) (Or.inl ⟨by rfl, ?_⟩) (by assumption) ?_
  rotate_left
  · (intro w hSw; (try dsimp only at hSw); go_simp; try with_reducible rfl)
  try simp only [Act.put, List.setIfInBounds_toArray, List.set_cons_zero, List.set_cons_succ]
  refine wpAnyHIn_next (i := 25) (by kernel_rfl) rfl (by rfl) (fun K hK => ?_)
  go_simp
  refine ⟨trivial, (callsIn_wide.2 hDe).mono ?_⟩
  rintro e w7 ⟨rfl, rfl⟩
  clear hDe
  have hUs := A.out.us _ gw6
  refine hK.out _ _ (hS.out _ gw6) (fun hS8 => ?_)
  clear hK
  have dn : (a.died != a.died) = false := by simp
  refine wpAnyHIn_take (i := 30) (oi := ⟨some 40, _, _, _, _, _⟩) (v := ?_) rfl (by kernel_rfl) (by kernel_rfl) (by kernel_rfl) (by kernel_rfl) (fun _ _ _ h => h) (fun _ => rfl) (Or.inl ⟨by rfl, ?_⟩) (by assumption) ?_
  rotate_left
  · (intro w hSw; (try dsimp only at hSw); go_simp; try with_reducible rfl)
  try simp only [Act.put, List.setIfInBounds_toArray, List.set_cons_zero, List.set_cons_succ]
  refine wpAnyHIn_take (i := 31) (oi := ⟨some 41, _, _, _, _, _⟩) (v := ?_) rfl (by kernel_rfl) (by kernel_rfl) (by kernel_rfl) (by kernel_rfl) (fun _ _ _ h => h) (fun _ => rfl) (Or.inl ⟨by rfl, ?_⟩) (by assumption) ?_
  rotate_left
  · (intro w hSw; (try dsimp only at hSw); go_simp; try with_reducible rfl)
  try simp only [Act.put, List.setIfInBounds_toArray, List.set_cons_zero, List.set_cons_succ]
  refine wpAnyHIn_take (i := 32) (oi := ⟨some 42, _, _, _, _, _⟩) (v := ?_) rfl (by kernel_rfl) (by kernel_rfl) (by kernel_rfl) (by kernel_rfl) (fun _ _ _ h => h) (fun _ => rfl) (Or.inl ⟨by rfl, ?_⟩) (by assumption) ?_
  rotate_left
  · (intro w hSw; (try dsimp only at hSw); go_simp; try with_reducible rfl)
  try simp only [Act.put, List.setIfInBounds_toArray, List.set_cons_zero, List.set_cons_succ]
  refine wpAnyHIn_take (i := 33) (oi := ⟨some 43, _, _, _, _, _⟩) (v := ?_) rfl (by kernel_rfl) (by kernel_rfl) (by kernel_rfl) (by kernel_rfl) (fun _ _ _ h => h) (fun _ => rfl) (Or.inl ⟨by rfl, ?_⟩) (by assumption) ?_
  rotate_left
  · (intro w hSw; (try dsimp only at hSw); go_simp; try with_reducible rfl)
  try simp only [Act.put, List.setIfInBounds_toArray, List.set_cons_zero, List.set_cons_succ]
  refine wpAnyHIn_take (i := 35) (oi := ⟨some 45, _, _, _, _, _⟩) (v := ?_) rfl (by kernel_rfl) (by kernel_rfl) (by kernel_rfl) (by kernel_rfl) (fun _ _ _ h => h) (fun _ => rfl) (Or.inl ⟨by rfl, ?_⟩) (by assumption) ?_
  rotate_left
  · (intro w hSw; (try dsimp only at hSw); go_simp; try with_reducible rfl)
  try simp only [Act.put, List.setIfInBounds_toArray, List.set_cons_zero, List.set_cons_succ]
  refine wpAnyHIn_next (i := 34) (by kernel_rfl) rfl (by rfl) (fun K hK => ?_)
  go_simp
  refine ⟨trivial, (callsIn_wide.2 hUs).mono ?_⟩
  rintro e w7 ⟨rfl, g7⟩
  clear hUs
  have gw7 := gw6.trans g7
  have hRu := A.out.ru _ gw7
  refine hK.out _ _ (hS.out _ gw7) (fun hS9 => ?_)
  clear hK
  refine wpAnyHIn_next (i := 36) (by kernel_rfl) rfl (by rfl) (fun K hK => ?_)
  go_simp
  refine ⟨trivial, (callsIn_wide.2 hRu).mono ?_⟩
  rintro e w8 ⟨rfl, g8⟩
  clear hRu
  have gw8 := gw7.trans g8
  refine hK.out _ _ (hS.out _ gw8) (fun hS10 => ?_)
  clear hK
  refine wpAnyHIn_take (i := 37) (oi := ⟨some 47, _, _, _, _, _⟩) (v := ?_) rfl (by kernel_rfl) (by kernel_rfl) (by kernel_rfl) (by kernel_rfl) (fun _ _ _ h => h) (fun _ => rfl) (Or.inl ⟨by rfl, ?_⟩) (by assumption) ?_
  rotate_left
  · (intro w hSw; (try dsimp only at hSw); go_simp; try with_reducible rfl)
  try simp only [Act.put, List.setIfInBounds_toArray, List.set_cons_zero, List.set_cons_succ]
  refine wpAnyHIn_take (i := 38) (oi := ⟨some 48, _, _, _, _, _⟩) (v := ?_) rfl (by kernel_rfl) (by kernel_rfl) (by kernel_rfl) (by kernel_rfl) (fun _ _ _ h => h) (fun _ => rfl) (Or.inl ⟨by rfl, ?_⟩) (by assumption) ?_
  rotate_left
  · (intro w hSw; (try dsimp only at hSw); go_simp; try with_reducible rfl)
  try simp only [Act.put, List.setIfInBounds_toArray, List.set_cons_zero, List.set_cons_succ]
  refine wpAnyHIn_done (by kernel_rfl) ?_ _
  refine noPanic_normal ?_
  have gR8 := ((((((g1.trans g2).trans g3).trans g4).trans g5).trans g6).trans g7).trans g8
  have eR8 := eRd.out.kept gR8 (by simp)
  replace gw8 := Lib.hid gw8
  clear hS0 hS1 hS2 hS3 hS4 hS5 hS6 hS7 hS8 hS9 hS10 s0 g1 g2 g3 g4 g5 g6 g7 g8 gw1 gw2 gw3 gw4 gw5 gw6 gw7 gR8
  have hEa := A.out.ea _ gw8.out
  gi_wp2_with fail
  refine ⟨trivial, (callsIn_wide.2 hEa).mono ?_⟩
  clear hEa
  rintro e w9 ⟨nb, sb, v, u, rfl, bn, bs, ov, ou, g9, hnb, hsb⟩
  have gw9 := gw8.out.trans g9
  have eR9 := eR8.kept g9 (by simp)
  have hne := nilEachF nb sb
  clear eR8
  gi_wp2_with fail
  have hlim : a.told.length ≤ 8796093022208 := by unfold RefP.told; rw [List.length_map]; have := A.out.fl; omega
  have T9 := each1_tells 16 nb sb _ v u a.told w9 bn bs ov ou hlim
  have hbl : ∀ k, (k = nb ∨ k = sb ∨ v.ownBlock = some k ∨ u.ownBlock = some k) → k < w9.heap.size := fun k hk => by
    rcases hk with rfl | rfl | h | h
    · exact bn.lt
    · exact bs.lt
    · exact (World.ownsRow.lt ov k h).2
    · exact (World.ownsRow.lt ou k h).2
  refine rangeF_break (by decide) rfl (by omega) (gf := 83) (lb := #[.pointer (some ⟨nb, 0, none⟩), .pointer (some ⟨sb, 0, none⟩)]) rfl trivial (enters_of Tryz.func83 (by kernel_rfl) rfl)
    T9 hbl (fun _ => rfl) (fun _ _ _ _ _ _ h _ _ _ => h) (fun _ _ _ _ h _ => h) _ (fun _ _ h => h) (fun _ _ h => wpIn_exit (by simpa [Exit.inBlock] using h)) ?_
  clear T9
  intro D1 w10 hD1 g10 hM1
  have gw10 := gw9.trans g10
  have eR10 := eR9.kept g10 (by simp)
  have hRf := A.out.rf _ gw10
  clear eR9 hne
  dsimp only
  gi_wp2_with fail
  refine ⟨trivial, (callsIn_wide.2 hRf).mono ?_⟩
  clear hRf
  rintro e w11 ⟨vf, rows, rfl, m11, n11, g11⟩
  obtain ⟨fa, fc, rfl⟩ := rowFormS m11.1
  obtain ⟨n, hn⟩ : ∃ n, n = rows.length := ⟨_, rfl⟩
  rw [← hn] at m11 ⊢
  replace hn := Lib.hid hn
  replace n11 := Lib.hid n11
  gi_wp2_with fail
  obtain ⟨X1, hX1⟩ : ∃ X, X = w11.alloc (.cells #[.slice fa n fc] 50) := ⟨_, rfl⟩
  obtain ⟨X2, hX2⟩ : ∃ X, X = X1.alloc (.cells #[.int .i64 0] 3) := ⟨_, rfl⟩
  have z1 : X1.heap.size = w11.heap.size + 1 := by rw [hX1]; simp
  have z2 : X2.heap.size = w11.heap.size + 2 := by rw [hX2]; simp [z1]
  have x1 : w11.grownBy X1 none := by rw [hX1]; exact World.grownBy_alloc _ _ _
  have x2 : X1.grownBy X2 none := by rw [hX2]; exact World.grownBy_alloc _ _ _
  have bw1 : Boxed X1 w11.heap.size 50 (.slice fa n fc) := by rw [hX1]; exact World.alloc_heap_new w11 _
  have bk : Boxed X2 (w11.heap.size + 1) 3 (.int .i64 0) := by rw [hX2, ← z1]; exact World.alloc_heap_new X1 _
  have bw := bw1.kept x2 (by simp)
  have x9 := x1.trans x2
  rw [← hX1, ← hX2]
  obtain ⟨wb, hwb⟩ : ∃ wb, wb = w11.heap.size := ⟨_, rfl⟩
  rw [← hwb] at bw bk ⊢
  obtain ⟨kb, hkb⟩ : ∃ kb, kb = wb + 1 := ⟨_, rfl⟩
  rw [← hkb] at bk ⊢
  have g9X : w9.grownBy X2 none := (g10.trans g11).trans x9
  have gwX := gw9.trans g9X
  have g10X := g11.trans x9
  have eRX := eR10.kept g10X (by simp)
  have mX := m11.new x9
  have hs9 := g9X.size
  have hs11 := g11.size
  have hrb : w.heap.size < w9.heap.size := Nat.lt_of_lt_of_le (lt_of_block (show _ = _ from bn)) (Nat.le_refl _) |> fun _ => by
    have := gw8.out.size
    have := g9.size
    have := eR10.lt
    have h0 := bn.lt
    omega
  have hD1l := lt_of_block hM1
  have hown : ∀ k, k = kb → (Value.slice fa n fc).ownBlock ≠ some k ∧ ∀ r ∈ rows, r.2.1.ownBlock ≠ some k := fun k hk => by
    refine ⟨fun e => ?_, fun r hr e => ?_⟩
    · have := (World.ownsRow.lt m11.1 k e).2
      omega
    · have := (World.ownsRow.lt (m11.2 r hr) k e).2
      omega
  have hkX : kb < X2.heap.size := by omega
  have ST : Hid (∀ B, X2.grownBy B (some kb) → w.grownBy B none ∧ Boxed B w.heap.size 4 (.bool false) ∧ Boxed B wb 50 (.slice fa n fc) ∧ FilesAt B w10.heap.size (.slice fa n fc) rows ∧ B.heap[D1]? = some (.deferred (some []))) := Lib.hid fun B g => by
    have hne : ∀ k, k ≠ kb → some k ≠ some kb := fun k h e => h (by cases e; rfl)
    refine ⟨gnew gwX g (fun r e => by cases e; left; omega), eRX.kept g (hne _ (by omega)), bw.kept g (hne _ (by omega)), mX.kept g (fun k e => hown k (by cases e; rfl)), ?_⟩
    have h1 := (g10X.block D1 hD1l (by simp)).trans hM1
    exact (g.block D1 (Nat.lt_of_lt_of_le hD1l g10X.size) (fun e => by cases e; omega)).trans h1
  have T2 := each1_tells 16 nb sb _ v u a.told X2 (bn.kept g9X (by simp)) (bs.kept g9X (by simp)) (World.ownsRow.kept ov g9X (by cases v.ownBlock <;> simp)) (World.ownsRow.kept ou g9X (by cases u.ownBlock <;> simp)) hlim
  have hnr : Hid (∀ (k : Nat) (x : List UInt8 × Int), a.told[k]? = some x → ∃ r, rows[k]? = some r ∧ r.1 = x.1 ∧ (r.2.2.length : Int) = x.2) := Lib.hid fun k x hx => by
    unfold RefP.told at hx
    rw [← n11.out, List.map_map, List.getElem?_map] at hx
    obtain ⟨r, h1, rfl⟩ := Option.map_eq_some_iff.1 hx
    exact ⟨r, h1, rfl, rfl⟩
  have hnl : Hid (a.told.length = n) := Lib.hid (by unfold RefP.told; rw [List.length_map, ← n11.out, List.length_map, hn.out])
  have hn65 : n ≤ 65536 := by
    have := A.out.fl
    rw [← n11.out, List.length_map] at this
    rw [hn.out]
    exact this
  have hbl2 : ∀ k, (k = nb ∨ k = sb ∨ v.ownBlock = some k ∨ u.ownBlock = some k) → k < X2.heap.size := fun k hk => Nat.lt_of_lt_of_le (hbl k hk) hs9
  have hkz : ¬ (kb = nb ∨ kb = sb ∨ v.ownBlock = some kb ∨ u.ownBlock = some kb) := fun h => by
    have := hbl kb h
    have := g10.size
    omega
  have hD1' : w9.heap.size ≤ D1 := hD1
  have hDk : D1 < kb := by omega
  have h10k : w10.heap.size ≤ kb := by omega
  clear m11 hX1 hX2 z1 z2 x1 x2 bw1 bw x9 hwb g9X gwX g10X eRX mX hown hbl bn bs ov ou g9 hnb hsb hM1 g11 g10 gw10 eR10 hD1 gw9
  replace hkb := Lib.hid hkb
  refine range_tellsZ1 (a := _) (w := X2) (α := List UInt8 × Int) rfl (by omega) (gf := 83) (lb := #[.pointer (some ⟨nb, 0, none⟩), .pointer (some ⟨sb, 0, none⟩)]) rfl trivial (enters_of Tryz.func83 (by kernel_rfl) rfl)
    T2 hbl2 (fun _ => rfl) (fun _ _ _ _ _ _ h _ _ _ => h)
    (fun Z (pre : List (List UInt8 × Int)) B => ¬ Z kb ∧ Boxed B kb 3 (.int .i64 (pre.length : Int)) ∧ X2.grownBy B (some kb)) (fun _ _ _ _ => False) (fun _ _ _ h => h.2.2.size) ?hI (fun c => ⟨fun _ _ _ _ _ h _ _ _ => h.elim, fun _ _ _ _ _ h _ _ _ => h.elim⟩)
    ⟨hkz, bk, World.grownBy.refl _ _⟩
    ?a1 (fun _ _ _ _ h _ => h) ?assign ?body ?done ?stop
  case hI =>
    refine ⟨fun Z Z' s B C h g h1 h2 => ⟨fun e => ?_, h.2.1.kept g (by simp), gnew h.2.2 g (fun r e => by cases e)⟩, fun Z s B C r h hr hn' g => ⟨h.1, h.2.1.kept g (fun e => by cases e; exact h.1 hr), ?_⟩⟩
    · rcases h2 _ e with e | e
      · exact h.1 e
      · have := h.2.1.lt; omega
    · exact gnew h.2.2 g (fun r e => by cases e; left; omega)
  case assign =>
    intro ll x W K hK
    dsimp only [eEnc]
    gi_wp2
    exact hK
  case body =>
    rintro ll Z pre x B hZ0 hZl ⟨i1, i2, i3⟩ ⟨hpre, hx⟩ hsz
    obtain ⟨gB, bR, bW, mB, m1⟩ := ST.out B i3
    obtain ⟨r, hr, hr1, hr2⟩ := hnr.out _ _ hx
    obtain ⟨b, da, dc, rfl, hb0, hb1, c0, hv, c1⟩ := mB.at hr
    obtain ⟨k, hk⟩ : ∃ k, k = pre.length := ⟨_, rfl⟩
    obtain ⟨nm, z⟩ := x
    dsimp only at hr1 hr2
    rw [hr1] at c0
    rw [← hk] at i2 hx c0 c1
    have hkn : k < n := by have := (List.getElem?_eq_some_iff.1 hx).1; have := hnl.out; omega
    obtain ⟨xs, hxs⟩ : ∃ xs : ByteArray, xs = ⟨nm.toArray⟩ := ⟨_, rfl⟩
    have he : encStr nm = .string xs := by rw [hxs]
    rw [← hxs] at c0
    obtain ⟨dl, hdl⟩ : ∃ dl, dl = r.2.2.length := ⟨_, rfl⟩
    rw [← hdl] at c1 hr2
    obtain rfl : z = (dl : Int) := hr2.symm
    have k0 := i2.cell
    have fz := i2.frozen
    have w0 := bW.cell
    have hdec : decide (n ≤ k) = false := decide_eq_false (by omega)
    have e1 : (xs.toList == xs.toList) = true := by simp
    have e2 : (xs.toList != xs.toList) = false := by simp
    have hwk1 : IntKind.i64.wrap ((k : Int) + 1) = (k : Int) + 1 := IntWalk.i64_in _ (by omega)
    have bk3 := i2.set (.int .i64 ((k : Int) + 1))
    have gst : B.grownBy (B.setCell ⟨kb, 0, none⟩ (.int .i64 ((k : Int) + 1))) (some kb) := gset (World.grownBy.refl B (some kb)) 0 _
    have FF : Hid (ZK Z B (B.setCell ⟨kb, 0, none⟩ (.int .i64 ((k : Int) + 1))) ∧ ¬ Z kb ∧ Boxed (B.setCell ⟨kb, 0, none⟩ (.int .i64 ((k : Int) + 1))) kb 3 (.int .i64 (((pre ++ [(nm, (dl : Int))]).length : Nat) : Int)) ∧ X2.grownBy (B.setCell ⟨kb, 0, none⟩ (.int .i64 ((k : Int) + 1))) (some kb)) := Lib.hid (by
      refine ⟨ZK.of gst (fun q e => by cases e; exact i1), i1, ?_, i3.trans gst⟩
      have : (((pre ++ [(nm, (dl : Int))]).length : Nat) : Int) = (k : Int) + 1 := by rw [List.length_append, ← hk]; simp
      rw [this]
      exact bk3)
    clear gB bR bW mB m1 hr hr1 hx hpre hk hxs hdl hv i1 i2 i3 bk3 gst hb0 hb1 hZ0 hZl hsz T2
    dsimp only
    simp only [he]
    gi_wp2_with fail
    exact FF.out
  case done =>
    rintro D2 Z xs B C hD2 hZD hz' hzl' hxs ⟨i1, i2, i3⟩ hg hM2
    obtain ⟨gC, bR, bW, mC, m1⟩ := ST.out C i3
    have hxl : xs.length = n := by rw [show xs = a.told from hxs]; exact hnl.out
    rw [hxl] at i2
    have c1 := i2.cell
    have c2 := bW.cell
    have f0 := bR.frozen
    have r0 := bR.cell
    have hBr := bR.set (.bool true)
    have hgr := gnew gC (gq C w.heap.size 0 (.bool true)) (fun r e => by cases e; left; exact Nat.le_refl _)
    have hoth : ∀ k, k ≠ w.heap.size → (C.setCell ⟨w.heap.size, 0, none⟩ (.bool true)).heap[k]? = C.heap[k]? := fun k hk => Below.heap_setCell _ _ _ _ (fun e => hk (by simpa using e))
    have hd1 : w.heap.size < D1 := by omega
    have hd2 : D1 < D2 := by omega
    have MF : Hid (MarkedF [D2, D1] (C.setCell ⟨w.heap.size, 0, none⟩ (.bool true)) ∧ Boxed (C.setCell ⟨w.heap.size, 0, none⟩ (.bool true)) w.heap.size 4 (.bool true) ∧ w.grownBy (C.setCell ⟨w.heap.size, 0, none⟩ (.bool true)) none ∧ ∀ D ∈ [D2, D1], w.heap.size < D) := Lib.hid (by
      refine ⟨⟨by simp; omega, fun D hD => ?_⟩, hBr, hgr, fun D hD => ?_⟩
      · simp at hD
        rcases hD with rfl | rfl
        · exact (hoth _ (by omega)).trans hM2
        · exact (hoth _ (by omega)).trans m1
      · simp at hD
        rcases hD with rfl | rfl <;> omega)
    clear gC bR bW mC m1 i1 i2 i3 hM2 hBr hgr hoth hD2 hZD hz' hzl' hxs hxl hg T2
    dsimp only
    gi_wp2_with fail
    obtain ⟨f1, f2, f3, f4⟩ := MF.out
    generalize C.setCell ⟨w.heap.size, 0, none⟩ (.bool true) = C3 at f1 f2 f3 ⊢
    refine leavesF_with (fun V => Boxed V w.heap.size 4 (.bool true) ∧ w.grownBy V none) [D2, D1] C3 f1 ⟨f2, f3⟩
      (fun D hD V h hb => ⟨(World.putObj_heap_other (Nat.ne_of_lt (f4 D hD))).trans h.1, gnew h.2 (grownBy_putObj' V D _) (fun r e => by cases e; left; exact Nat.le_of_lt (f4 D hD))⟩)
      (fun V h => ⟨.bool true, ?_, rfl, h.2⟩)
    have hc := h.1.cell
    simp [results, Tryz.results15, go_sem, hc]
  case stop =>
    rintro D c Z pre B C _ _ _ _ _ h
    exact h.elim

theorem same_any {w : World} (H : Both DX F R w f q a a) (I : RInv N a) (hN : N ≤ 2199023255552) :
    Calls Tryz.prog 15 #[.pointer (some ⟨f, 0, none⟩), .pointer (some ⟨q, 0, none⟩)] w fun e w' => e = .returned (.bool true) ∧ w.grownBy w' none := callsIn_wide.1 (same_law w (asks_of H I hN))
end
end Go.Proofs.YtafcgjbafihniaaGreat
