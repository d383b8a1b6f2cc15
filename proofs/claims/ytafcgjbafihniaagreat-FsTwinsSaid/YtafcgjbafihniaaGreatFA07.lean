/-
  LAYER 1 (fs): a move made: laid down among the moves, and done to the directory.
-/
import Derived.Test.YtafcgjbafihniaaGreatFA06
import Derived.Test.YtafcgjbafihniaaGreatFA04
import Derived.Maps.AppendAt
import Derived.Laws.LoneSync
import Derived.Laws.EntriesVeiled
namespace Go.Proofs.YtafcgjbafihniaaGreat
set_option maxRecDepth 100000
open Go.RowKit Go.Lib
attribute [local go_sem] Oper.semAt_some

def mvCells (l : List Mv) : List Value := l.flatMap (fun m => [.string m.src, .string m.dst, ptrV m.made])
theorem infoMv : (Tryz.prog.info? 110).map (fun i => (i.zero, i.size, i.bytes)) = some (some (.agg #[.string ⟨#[]⟩, .string ⟨#[]⟩, .pointer none]), 3, 40) := by kernel_rfl
theorem info_partsM : ∃ i0 : TypeInfo, Tryz.prog.info? 110 = some i0 ∧ i0.zero = some (.agg #[.string ⟨#[]⟩, .string ⟨#[]⟩, .pointer none]) ∧ i0.size = 3 ∧ i0.bytes = 40 := by
  have h := infoMv
  cases hi : Tryz.prog.info? 110 with
  | none => rw [hi] at h; cases h
  | some i =>
    rw [hi] at h
    simp only [Option.map_some, Option.some.injEq, Prod.mk.injEq] at h
    exact ⟨i, rfl, h.1, h.2.1, h.2.2⟩

/-- An append whose run is known, as one operation. -/
theorem wp_app_run {P : Program} {o : Oper} {a : Act} {w : World} {K : Act → World → Prop} {Q : Exit → Act → World → Prop} (sl x : Operand) (t : TypeId) (ho : o.op = .call { callee := .builtin .append, args := #[sl, x], argTypes := #[t, t] })
    (v xv : Value) (hs : a.eval sl = v) (hx : a.eval x = xv) {v' : Value} {w' : World} (hrun : (Builtin.append_ #[t, t] o.type #[v, xv]).run P w = .ok v' w') (h : K (a.put o.dst v') w') : Oper.wp P o a w K Q := by
  unfold Oper.wp execOp
  simp only [ho, resolve, invoke, builtin, Sem.run_bind, Sem.run_pure, Result.andThen_ok, List.map_toArray, List.map_cons, List.map_nil, hs, hx, hrun]
  exact h

section
variable {w : World} {q : Nat} {dead : Bool} {p : PlV} {ops : Int} {d s : Nat} {mv : Value}
theorem FsAt.setMoves (h : FsAt w q dead p ops d s mv) (v : Value) : FsAt (w.setCell ⟨q, 10, none⟩ v) q dead p ops d s v := heap_setCell_same w q 10 _ _ _ h
theorem FsAt.gp {w' : World} {P : Nat → Prop} (h : FsAt w q dead p ops d s mv) (hg : GP P w w') (hq : ¬ P q) : FsAt w' q dead p ops d s mv := (hg.block q h.lt hq).trans h

set_option maxHeartbeats 8000000 in
theorem move_any (m : Mv) (ml : List Mv) (l : DirL) (w : World) (h : FsAt w q dead p ops d s mv) (hd : DirM w d l) (hr : w.ownsRow 0 110 3 mv ml.length (mvCells ml)) (hm : m.may l) (hn : l.length < maxLen) (hn2 : ml.length < 3518437208882)
    (hdq : d ≠ q) (hmq : mv.ownBlock ≠ some q) (hmd : mv.ownBlock ≠ some d) :
    Calls Tryz.prog 67 #[.pointer (some ⟨q, 0, none⟩), m.v] w fun e w' => e = .returned (.tuple #[]) ∧ ∃ mv', FsAt w' q dead p ops d s mv' ∧ DirM w' d (m.done l) ∧ w'.ownsRow 0 110 3 mv' (ml.length + 1) (mvCells (ml ++ [m])) ∧ (mv'.ownBlock = mv.ownBlock ∨ ∃ k, mv'.ownBlock = some k ∧ w.heap.size ≤ k) ∧
      GP (fun k => k = q ∨ k = d ∨ mv.ownBlock = some k) w w' := by
  have hg0 := World.grownBy_alloc w (.cells #[.string m.src, .string m.dst, ptrV m.made] 110) none
  have hM : MvAt (w.alloc (.cells #[.string m.src, .string m.dst, ptrV m.made] 110)) w.heap.size m := World.alloc_heap_new w _
  obtain ⟨W, hW⟩ : ∃ W, W = w.alloc (.cells #[.string m.src, .string m.dst, ptrV m.made] 110) := ⟨_, rfl⟩
  have hWs : W.heap.size = w.heap.size + 1 := by rw [hW]; simp
  rw [← hW] at hg0 hM
  have h1 := h.kept hg0 (by simp)
  have hd1 := hd.kept hg0 (by simp)
  have hr1 := World.ownsRow.kept hr hg0 (by cases mv.ownBlock <;> simp)
  have hql := h.lt
  have hdl := hd.lt
  obtain ⟨i0, hi, hz0, hz1, hz2⟩ := info_partsM
  have hdone := fun W h => done_any m d l W h hm hn
  obtain ⟨pv, hpv⟩ : ∃ pv, pv = ptrV m.made := ⟨_, rfl⟩
  have hform : ∃ o, pv = .pointer o := by rw [hpv]; cases m.made <;> exact ⟨_, rfl⟩
  obtain ⟨po, rfl⟩ := hform
  unfold Mv.v at hdone ⊢
  rw [← hpv] at hdone hW ⊢
  replace hpv := Lib.hid hpv
  go_enter Tryz.func67, Tryz.ntmps67
  go_upto_region 1 with fail
  rw [← hW]
  clear hW
  have hS : ∀ w' row, W.grownBy w' row → row ≠ some w.heap.size → MvAt w' w.heap.size m ∧ w'.cell? ⟨w.heap.size, 0, none⟩ = some (.string m.src) ∧ w'.cell? ⟨w.heap.size, 1, none⟩ = some (.string m.dst) ∧ w'.cell? ⟨w.heap.size, 2, none⟩ = some (.pointer po) := fun w' row g hne => by
    have e := hM.kept g hne
    exact ⟨e, e.c0, e.c1, by rw [e.c2, hpv.out]⟩
  have hmvl : ∀ k, mv.ownBlock = some k → k < w.heap.size := fun k e => (World.ownsRow.lt hr k e).2
  -- the append, wherever it comes
  have hApp : ∀ X, W.grownBy X none → (X.cell? ⟨X.heap.size - 1, 0, none⟩ = some (.string m.src) ∧ X.cell? ⟨X.heap.size - 1, 1, none⟩ = some (.string m.dst) ∧ X.cell? ⟨X.heap.size - 1, 2, none⟩ = some (.pointer po)) → w.heap.size + 2 ≤ X.heap.size →
      ∃ v' w', (Builtin.append_ #[70, 70] 70 #[mv, .slice (some ⟨X.heap.size - 1, 0, none⟩) 1 1]).run Tryz.prog X = .ok v' w' ∧ w'.ownsRow 0 110 3 v' (ml.length + 1) (mvCells (ml ++ [m])) ∧ X.grownBy w' mv.ownBlock ∧ (v'.ownBlock = mv.ownBlock ∨ v'.ownBlock = some X.heap.size) ∧ ∃ a n c, v' = .slice a n c := by
    intro X gX ⟨c0, c1, c2⟩ hsz
    obtain ⟨v', w', hrun, h5, h6, _, h7⟩ := run_append_own_at (P := Tryz.prog) X 0 70 70 110 i0 (.agg #[.string ⟨#[]⟩, .string ⟨#[]⟩, .pointer none]) 3 40 Tryz.underlying70 hi hz0 hz1 hz2 rfl (by decide) mv ml.length (mvCells ml)
      (World.ownsRow.kept hr1 gX (by cases mv.ownBlock <;> simp)) ⟨X.heap.size - 1, 0, none⟩ 1 1 [.string m.src, .string m.dst, .pointer po] rfl (fun j u hj => by
        match j, hj with
        | 0, hj => simp at hj; subst hj; exact c0
        | 1, hj => simp at hj; subst hj; exact c1
        | 2, hj => simp at hj; subst hj; exact c2) (fun u hu => by simp at hu; rcases hu with rfl | rfl | rfl <;> rfl) (by unfold maxLen; omega) (by omega) (Nat.zero_le _)
    have e : mvCells (ml ++ [m]) = mvCells ml ++ [.string m.src, .string m.dst, .pointer po] := by unfold mvCells; rw [List.flatMap_append]; simp [hpv.out]
    refine ⟨v', w', hrun, by rw [e]; exact h5, h6, h7, ?_⟩
    obtain ⟨_, ⟨rfl, _⟩ | ⟨g, cap, cur, rfl, _⟩⟩ := h5
    · exact ⟨_, _, _, rfl⟩
    · exact ⟨_, _, _, rfl⟩
  refine wp_region_held_drew (S := fun w' => MvAt w' w.heap.size m ∧ w'.cell? ⟨w.heap.size, 0, none⟩ = some (.string m.src) ∧ w'.cell? ⟨w.heap.size, 1, none⟩ = some (.string m.dst) ∧ w'.cell? ⟨w.heap.size, 2, none⟩ = some (.pointer po)) (by kernel_rfl) (hS _ none (gdrew (World.grownBy.refl W none)) (by simp)) (fun hS0 => ?_)
  obtain ⟨V, hV⟩ : ∃ V, V = W.drew := ⟨_, rfl⟩
  have gV : W.grownBy V none := by rw [hV]; exact gdrew (World.grownBy.refl W none)
  rw [← hV] at hS0 ⊢
  clear hV
  have hVs := gV.size
  have h2 := h1.kept gV (by simp)
  have x10 := h2.moves
  have gX := galloc gV (.cells #[.string m.src, .string m.dst, .pointer po] 110)
  have hXs : (V.alloc (.cells #[.string m.src, .string m.dst, .pointer po] 110)).heap.size = V.heap.size + 1 := by simp
  have hXn := World.alloc_heap_new V (.cells #[.string m.src, .string m.dst, .pointer po] 110)
  have h3 := h1.kept gX (by simp)
  have x11 := h3.moves
  obtain ⟨v', w', hrun, o5, g5, l5, a', n', c', rfl⟩ := hApp _ gX (by
    rw [hXs, Nat.add_sub_cancel]
    unfold World.cell?
    dsimp only
    rw [hXn]
    exact ⟨rfl, rfl, rfl⟩) (by omega)
  rw [hXs, Nat.add_sub_cancel] at hrun
  rw [hXs] at l5
  have hmq' : mv.ownBlock ≠ some w.heap.size := fun e => by have := hmvl _ e; omega
  have gW5 : GP (fun k => mv.ownBlock = some k) W w' := (GP.of (P := fun k => mv.ownBlock = some k) gX (by simp)).step g5 (fun k e => .inl e)
  have hSw : MvAt w' w.heap.size m ∧ w'.cell? ⟨w.heap.size, 0, none⟩ = some (.string m.src) ∧ w'.cell? ⟨w.heap.size, 1, none⟩ = some (.string m.dst) ∧ w'.cell? ⟨w.heap.size, 2, none⟩ = some (.pointer po) := by
    have e : MvAt w' w.heap.size m := (gW5.block _ (lt_of_block hM) (fun e => hmq' e)).trans hM
    exact ⟨e, e.c0, e.c1, by rw [e.c2, hpv.out]⟩
  have h5 : FsAt w' q dead p ops d s mv := h1.gp gW5 (fun e => hmq e)
  have q10 := h5.free 10
  have y10 := h5.moves
  have gQ := gset (World.grownBy.refl w' (some q)) 10 (.slice a' n' c')
  have hSf : MvAt (w'.setCell ⟨q, 10, none⟩ (.slice a' n' c')) w.heap.size m ∧ (w'.setCell ⟨q, 10, none⟩ (.slice a' n' c')).cell? ⟨w.heap.size, 0, none⟩ = some (.string m.src) ∧ (w'.setCell ⟨q, 10, none⟩ (.slice a' n' c')).cell? ⟨w.heap.size, 1, none⟩ = some (.string m.dst) ∧ (w'.setCell ⟨q, 10, none⟩ (.slice a' n' c')).cell? ⟨w.heap.size, 2, none⟩ = some (.pointer po) := by
    have e : MvAt (w'.setCell ⟨q, 10, none⟩ (.slice a' n' c')) w.heap.size m := hSw.1.kept gQ (by simp; omega)
    exact ⟨e, e.c0, e.c1, by rw [e.c2, hpv.out]⟩
  obtain ⟨_, z0, z1, z2⟩ := hSf
  have hSf : MvAt (w'.setCell ⟨q, 10, none⟩ (.slice a' n' c')) w.heap.size m ∧ (w'.setCell ⟨q, 10, none⟩ (.slice a' n' c')).cell? ⟨w.heap.size, 0, none⟩ = some (.string m.src) ∧ (w'.setCell ⟨q, 10, none⟩ (.slice a' n' c')).cell? ⟨w.heap.size, 1, none⟩ = some (.string m.dst) ∧ (w'.setCell ⟨q, 10, none⟩ (.slice a' n' c')).cell? ⟨w.heap.size, 2, none⟩ = some (.pointer po) := ⟨by assumption, z0, z1, z2⟩
  have h6 : FsAt (w'.setCell ⟨q, 10, none⟩ (.slice a' n' c')) q dead p ops d s (.slice a' n' c') := h5.setMoves _
  have r8 := h6.dir
  have hd6 : DirM (w'.setCell ⟨q, 10, none⟩ (.slice a' n' c')) d l := ((hd1.kept gX (by simp)).kept g5 (fun e => hmd e.symm)).kept gQ (by simp; exact hdq)
  have hown : (Value.slice a' n' c').ownBlock = mv.ownBlock ∨ ∃ k, (Value.slice a' n' c').ownBlock = some k ∧ w.heap.size ≤ k := by
    rcases l5 with e | e
    · exact .inl e
    · exact .inr ⟨_, e, by omega⟩
  have hq6 : (Value.slice a' n' c').ownBlock ≠ some q := by
    rcases hown with e | ⟨k, e, hk⟩
    · rw [e]; exact hmq
    · rw [e]; intro e2; cases e2; omega
  have hd7 : (Value.slice a' n' c').ownBlock ≠ some d := by
    rcases hown with e | ⟨k, e, hk⟩
    · rw [e]; exact hmd
    · rw [e]; intro e2; cases e2; omega
  have hfin : ∀ w9, DirM w9 d (m.done l) → (w'.setCell ⟨q, 10, none⟩ (.slice a' n' c')).grownBy w9 (some d) → ∃ mv', FsAt w9 q dead p ops d s mv' ∧ DirM w9 d (m.done l) ∧ w9.ownsRow 0 110 3 mv' (ml.length + 1) (mvCells (ml ++ [m])) ∧ (mv'.ownBlock = mv.ownBlock ∨ ∃ k, mv'.ownBlock = some k ∧ w.heap.size ≤ k) ∧ GP (fun k => k = q ∨ k = d ∨ mv.ownBlock = some k) w w9 := fun w9 hd9 g9 =>
    ⟨_, h6.kept g9 (by simp; exact hdq), hd9, World.ownsRow.kept (World.ownsRow.kept o5 gQ (.inr hq6)) g9 (.inr hd7), hown,
      (((GP.of (P := fun k => k = q ∨ k = d ∨ mv.ownBlock = some k) hg0 (by simp)).trans gW5 (fun k e => .inl (.inr (.inr e)))).step gQ (fun k e => by cases e; exact .inl (.inl rfl))).step g9 (fun k e => by cases e; exact .inl (.inr (.inl rfl)))⟩
  replace hfin := Lib.hid hfin
  refine wpAnyH_take (i := 0) (oi := ⟨some 4, _, _, _, _, _⟩) (v := ?_) rfl (by kernel_rfl) (by kernel_rfl) (by kernel_rfl) (fun _ _ _ h => h) (Or.inl ⟨by rfl, ?_⟩) (by assumption) ?_
  rotate_left
  · (intro w hSw; (try dsimp only at hSw); go_simp; try with_reducible rfl)
  try simp only [Act.put, List.setIfInBounds_toArray, List.set_cons_zero, List.set_cons_succ]
  refine wpAnyH_take (i := 1) (oi := ⟨some 5, _, _, _, _, _⟩) (v := ?_) rfl (by kernel_rfl) (by kernel_rfl) (by kernel_rfl) (fun _ _ _ h => h) (Or.inl ⟨by rfl, ?_⟩) (by assumption) ?_
  rotate_left
  · (intro w hSw; (try dsimp only at hSw); go_simp; try with_reducible rfl)
  try simp only [Act.put, List.setIfInBounds_toArray, List.set_cons_zero, List.set_cons_succ]
  refine wpAnyH_take (i := 2) (oi := ⟨some 6, _, _, _, _, _⟩) (v := ?_) rfl (by kernel_rfl) (by kernel_rfl) (by kernel_rfl) (fun _ _ _ h => h) (Or.inl ⟨by rfl, ?_⟩) (by assumption) ?_
  rotate_left
  · (intro w hSw; (try dsimp only at hSw); go_simp; try with_reducible rfl)
  try simp only [Act.put, List.setIfInBounds_toArray, List.set_cons_zero, List.set_cons_succ]
  refine wpAnyH_take (i := 3) (oi := ⟨some 7, _, _, _, _, _⟩) (v := ?_) rfl (by kernel_rfl) (by kernel_rfl) (by kernel_rfl) (fun _ _ _ h => h) (Or.inl ⟨by rfl, ?_⟩) (by assumption) ?_
  rotate_left
  · (intro w hSw; (try dsimp only at hSw); go_simp; try with_reducible rfl)
  try simp only [Act.put, List.setIfInBounds_toArray, List.set_cons_zero, List.set_cons_succ]
  refine wpAnyH_take (i := 5) (oi := ⟨some 9, _, _, _, _, _⟩) (v := ?_) rfl (by kernel_rfl) (by kernel_rfl) (by kernel_rfl) (fun _ _ _ h => h) (Or.inl ⟨by rfl, ?_⟩) (by assumption) ?_
  rotate_left
  · (intro w hSw; (try dsimp only at hSw); go_simp; try with_reducible rfl)
  try simp only [Act.put, List.setIfInBounds_toArray, List.set_cons_zero, List.set_cons_succ]
  refine wpAnyH_ready (rs := [4, 6]) (by kernel_rfl) (by simp) ?_
  refine AllReadyH.cons rfl (fun K hK => ?_) (AllReadyH.cons rfl (fun K hK => ?_) AllReadyH.nil)
  · go_simp
    refine hK.out _ _ hS0 (fun _ => ?_)
    clear hK
    refine wpAnyH_ready (rs := [6]) (by kernel_rfl) (by simp) ?_
    refine AllReadyH.cons rfl (fun K hK => ?_) AllReadyH.nil
    go_simp
    refine hK.out _ _ (hS _ none gX (by simp)) (fun _ => ?_)
    clear hK
    refine wpAnyH_ready (rs := [7]) (by kernel_rfl) (by simp) ?_
    refine AllReadyH.cons rfl (fun K hK => ?_) AllReadyH.nil
    rw [if_pos (by rfl)]
    refine wp_app_run _ _ _ rfl mv _ rfl rfl hrun ?_
    refine hK.out _ _ hSw (fun _ => ?_)
    clear hK
    refine wpAnyH_take (i := 8) (oi := ⟨some 12, _, _, _, _, _⟩) (v := ?_) rfl (by kernel_rfl) (by kernel_rfl) (by kernel_rfl) (fun _ _ _ h => h) (Or.inl ⟨by rfl, ?_⟩) (by assumption) ?_
    rotate_left
    · (intro w hSw; (try dsimp only at hSw); go_simp; try with_reducible rfl)
    try simp only [Act.put, List.setIfInBounds_toArray]
    refine wpAnyH_take (i := 9) (oi := ⟨some 13, _, _, _, _, _⟩) (v := ?_) rfl (by kernel_rfl) (by kernel_rfl) (by kernel_rfl) (fun _ _ _ h => h) (Or.inl ⟨by rfl, ?_⟩) (by assumption) ?_
    rotate_left
    · (intro w hSw; (try dsimp only at hSw); go_simp; try with_reducible rfl)
    try simp only [Act.put]
    refine wpAnyH_ready (rs := [10]) (by kernel_rfl) (by simp) ?_
    refine AllReadyH.cons rfl (fun K hK => ?_) AllReadyH.nil
    go_simp
    refine hK.out _ _ hSf (fun _ => ?_)
    clear hK
    refine wpAnyH_done (by kernel_rfl) ?_ _
    go_wp2_with fail
    have gD := gdrew (World.grownBy.refl (w'.setCell ⟨q, 10, none⟩ (.slice a' n' c')) none)
    have z0 := gD.cell z0 (by simp)
    have z1 := gD.cell z1 (by simp)
    have z2 := gD.cell z2 (by simp)
    have r8 := (h6.kept gD (by simp)).dir
    have hd8 := hd6.kept gD (by simp)
    refine wp_region_held_drew (S := fun w' => w'.cell? ⟨w.heap.size, 0, none⟩ = some (.string m.src) ∧ w'.cell? ⟨w.heap.size, 1, none⟩ = some (.string m.dst) ∧ w'.cell? ⟨w.heap.size, 2, none⟩ = some (.pointer po) ∧ w'.cell? ⟨q, 8, none⟩ = some (.map (some d))) (by kernel_rfl) ⟨z0, z1, z2, r8⟩ (fun hS9 => ?_)
    refine wpAnyH_take (i := 0) (oi := ⟨some 14, _, _, _, _, _⟩) (v := ?_) rfl (by kernel_rfl) (by kernel_rfl) (by kernel_rfl) (fun _ _ _ h => h) (Or.inl ⟨by rfl, ?_⟩) (by assumption) ?_
    rotate_left
    · (intro w hSw; (try dsimp only at hSw); go_simp; try with_reducible rfl)
    try simp only [Act.put, List.setIfInBounds_toArray, List.set_cons_zero, List.set_cons_succ]
    refine wpAnyH_take (i := 1) (oi := ⟨some 15, _, _, _, _, _⟩) (v := ?_) rfl (by kernel_rfl) (by kernel_rfl) (by kernel_rfl) (fun _ _ _ h => h) (Or.inl ⟨by rfl, ?_⟩) (by assumption) ?_
    rotate_left
    · (intro w hSw; (try dsimp only at hSw); go_simp; try with_reducible rfl)
    try simp only [Act.put, List.setIfInBounds_toArray, List.set_cons_zero, List.set_cons_succ]
    refine wpAnyH_take (i := 2) (oi := ⟨some 16, _, _, _, _, _⟩) (v := ?_) rfl (by kernel_rfl) (by kernel_rfl) (by kernel_rfl) (fun _ _ _ h => h) (Or.inl ⟨by rfl, ?_⟩) (by assumption) ?_
    rotate_left
    · (intro w hSw; (try dsimp only at hSw); go_simp; try with_reducible rfl)
    try simp only [Act.put, List.setIfInBounds_toArray, List.set_cons_zero, List.set_cons_succ]
    refine wpAnyH_take (i := 3) (oi := ⟨some 17, _, _, _, _, _⟩) (v := ?_) rfl (by kernel_rfl) (by kernel_rfl) (by kernel_rfl) (fun _ _ _ h => h) (Or.inl ⟨by rfl, ?_⟩) (by assumption) ?_
    rotate_left
    · (intro w hSw; (try dsimp only at hSw); go_simp; try with_reducible rfl)
    try simp only [Act.put, List.setIfInBounds_toArray, List.set_cons_zero, List.set_cons_succ]
    refine wpAnyH_take (i := 4) (oi := ⟨some 18, _, _, _, _, _⟩) (v := ?_) rfl (by kernel_rfl) (by kernel_rfl) (by kernel_rfl) (fun _ _ _ h => h) (Or.inl ⟨by rfl, ?_⟩) (by assumption) ?_
    rotate_left
    · (intro w hSw; (try dsimp only at hSw); go_simp; try with_reducible rfl)
    try simp only [Act.put, List.setIfInBounds_toArray, List.set_cons_zero, List.set_cons_succ]
    refine wpAnyH_ready (rs := [5]) (by kernel_rfl) (by simp) ?_
    refine AllReadyH.cons rfl (fun K hK => ?_) AllReadyH.nil
    go_simp
    refine (hdone _ hd8).mono ?_
    rintro e w9 ⟨rfl, hd9, g9⟩
    refine hK.out _ _ ⟨g9.cell z0 (by simp; omega), g9.cell z1 (by simp; omega), g9.cell z2 (by simp; omega), g9.cell r8 (by simp; omega)⟩ (fun _ => ?_)
    clear hK
    refine wpAnyH_done (by kernel_rfl) ?_ _
    go_wp2
    go_end0
    exact ⟨rfl, hfin.out w9 hd9 ((gdrew (World.grownBy.refl _ (some d))).trans g9)⟩
  · go_simp
    refine hK.out _ _ (hS _ none gX (by simp)) (fun _ => ?_)
    clear hK
    refine wpAnyH_ready (rs := [4]) (by kernel_rfl) (by simp) ?_
    refine AllReadyH.cons rfl (fun K hK => ?_) AllReadyH.nil
    go_simp
    refine hK.out _ _ (hS _ none gX (by simp)) (fun _ => ?_)
    clear hK
    refine wpAnyH_ready (rs := [7]) (by kernel_rfl) (by simp) ?_
    refine AllReadyH.cons rfl (fun K hK => ?_) AllReadyH.nil
    rw [if_pos (by rfl)]
    refine wp_app_run _ _ _ rfl mv _ rfl rfl hrun ?_
    refine hK.out _ _ hSw (fun _ => ?_)
    clear hK
    refine wpAnyH_take (i := 8) (oi := ⟨some 12, _, _, _, _, _⟩) (v := ?_) rfl (by kernel_rfl) (by kernel_rfl) (by kernel_rfl) (fun _ _ _ h => h) (Or.inl ⟨by rfl, ?_⟩) (by assumption) ?_
    rotate_left
    · (intro w hSw; (try dsimp only at hSw); go_simp; try with_reducible rfl)
    try simp only [Act.put, List.setIfInBounds_toArray]
    refine wpAnyH_take (i := 9) (oi := ⟨some 13, _, _, _, _, _⟩) (v := ?_) rfl (by kernel_rfl) (by kernel_rfl) (by kernel_rfl) (fun _ _ _ h => h) (Or.inl ⟨by rfl, ?_⟩) (by assumption) ?_
    rotate_left
    · (intro w hSw; (try dsimp only at hSw); go_simp; try with_reducible rfl)
    try simp only [Act.put]
    refine wpAnyH_ready (rs := [10]) (by kernel_rfl) (by simp) ?_
    refine AllReadyH.cons rfl (fun K hK => ?_) AllReadyH.nil
    go_simp
    refine hK.out _ _ hSf (fun _ => ?_)
    clear hK
    refine wpAnyH_done (by kernel_rfl) ?_ _
    go_wp2_with fail
    have gD := gdrew (World.grownBy.refl (w'.setCell ⟨q, 10, none⟩ (.slice a' n' c')) none)
    have z0 := gD.cell z0 (by simp)
    have z1 := gD.cell z1 (by simp)
    have z2 := gD.cell z2 (by simp)
    have r8 := (h6.kept gD (by simp)).dir
    have hd8 := hd6.kept gD (by simp)
    refine wp_region_held_drew (S := fun w' => w'.cell? ⟨w.heap.size, 0, none⟩ = some (.string m.src) ∧ w'.cell? ⟨w.heap.size, 1, none⟩ = some (.string m.dst) ∧ w'.cell? ⟨w.heap.size, 2, none⟩ = some (.pointer po) ∧ w'.cell? ⟨q, 8, none⟩ = some (.map (some d))) (by kernel_rfl) ⟨z0, z1, z2, r8⟩ (fun hS9 => ?_)
    refine wpAnyH_take (i := 0) (oi := ⟨some 14, _, _, _, _, _⟩) (v := ?_) rfl (by kernel_rfl) (by kernel_rfl) (by kernel_rfl) (fun _ _ _ h => h) (Or.inl ⟨by rfl, ?_⟩) (by assumption) ?_
    rotate_left
    · (intro w hSw; (try dsimp only at hSw); go_simp; try with_reducible rfl)
    try simp only [Act.put, List.setIfInBounds_toArray, List.set_cons_zero, List.set_cons_succ]
    refine wpAnyH_take (i := 1) (oi := ⟨some 15, _, _, _, _, _⟩) (v := ?_) rfl (by kernel_rfl) (by kernel_rfl) (by kernel_rfl) (fun _ _ _ h => h) (Or.inl ⟨by rfl, ?_⟩) (by assumption) ?_
    rotate_left
    · (intro w hSw; (try dsimp only at hSw); go_simp; try with_reducible rfl)
    try simp only [Act.put, List.setIfInBounds_toArray, List.set_cons_zero, List.set_cons_succ]
    refine wpAnyH_take (i := 2) (oi := ⟨some 16, _, _, _, _, _⟩) (v := ?_) rfl (by kernel_rfl) (by kernel_rfl) (by kernel_rfl) (fun _ _ _ h => h) (Or.inl ⟨by rfl, ?_⟩) (by assumption) ?_
    rotate_left
    · (intro w hSw; (try dsimp only at hSw); go_simp; try with_reducible rfl)
    try simp only [Act.put, List.setIfInBounds_toArray, List.set_cons_zero, List.set_cons_succ]
    refine wpAnyH_take (i := 3) (oi := ⟨some 17, _, _, _, _, _⟩) (v := ?_) rfl (by kernel_rfl) (by kernel_rfl) (by kernel_rfl) (fun _ _ _ h => h) (Or.inl ⟨by rfl, ?_⟩) (by assumption) ?_
    rotate_left
    · (intro w hSw; (try dsimp only at hSw); go_simp; try with_reducible rfl)
    try simp only [Act.put, List.setIfInBounds_toArray, List.set_cons_zero, List.set_cons_succ]
    refine wpAnyH_take (i := 4) (oi := ⟨some 18, _, _, _, _, _⟩) (v := ?_) rfl (by kernel_rfl) (by kernel_rfl) (by kernel_rfl) (fun _ _ _ h => h) (Or.inl ⟨by rfl, ?_⟩) (by assumption) ?_
    rotate_left
    · (intro w hSw; (try dsimp only at hSw); go_simp; try with_reducible rfl)
    try simp only [Act.put, List.setIfInBounds_toArray, List.set_cons_zero, List.set_cons_succ]
    refine wpAnyH_ready (rs := [5]) (by kernel_rfl) (by simp) ?_
    refine AllReadyH.cons rfl (fun K hK => ?_) AllReadyH.nil
    go_simp
    refine (hdone _ hd8).mono ?_
    rintro e w9 ⟨rfl, hd9, g9⟩
    refine hK.out _ _ ⟨g9.cell z0 (by simp; omega), g9.cell z1 (by simp; omega), g9.cell z2 (by simp; omega), g9.cell r8 (by simp; omega)⟩ (fun _ => ?_)
    clear hK
    refine wpAnyH_done (by kernel_rfl) ?_ _
    go_wp2
    go_end0
    exact ⟨rfl, hfin.out w9 hd9 ((gdrew (World.grownBy.refl _ (some d))).trans g9)⟩
end
end Go.Proofs.YtafcgjbafihniaaGreat

/-
  LAYER 1 (fs): the moves that survive, done to what is safe.
-/
namespace Go.Proofs.YtafcgjbafihniaaGreat
set_option maxRecDepth 100000
open Go.RowKit Go.Lib
attribute [local go_sem] Oper.semAt_some

/-- Moves done in order. -/
def movesDone : List Mv → DirL → DirL
  | [], l => l
  | m :: ms, l => movesDone ms (m.done l)
/-- Which may be done in order: the directory stays short. -/
def okMoves : List Mv → DirL → Prop
  | [], _ => True
  | m :: ms, l => m.may l ∧ l.length < maxLen ∧ okMoves ms (m.done l)

theorem mvCells_at : ∀ (ml : List Mv) (j : Nat) (hj : j < ml.length), (mvCells ml)[j * 3]? = some (.string ml[j].src) ∧ (mvCells ml)[j * 3 + 1]? = some (.string ml[j].dst) ∧ (mvCells ml)[j * 3 + 2]? = some (ptrV ml[j].made)
  | m :: ms, 0, _ => ⟨rfl, rfl, rfl⟩
  | m :: ms, j + 1, hj => by
    have ih := mvCells_at ms j (Nat.lt_of_succ_lt_succ hj)
    have e : mvCells (m :: ms) = .string m.src :: .string m.dst :: ptrV m.made :: mvCells ms := rfl
    rw [e, show (j + 1) * 3 = j * 3 + 1 + 1 + 1 from by omega, show j * 3 + 1 + 1 + 1 + 1 = (j * 3 + 1) + 1 + 1 + 1 from rfl, show j * 3 + 1 + 1 + 1 + 2 = (j * 3 + 2) + 1 + 1 + 1 from rfl]
    simpa using ih

section
variable {w : World} {q : Nat} {dead : Bool} {p : PlV} {ops : Int} {d s : Nat} {mv : Value}
set_option maxHeartbeats 8000000 in
theorem fsSettle_any (n : Nat) (ml : List Mv) (l : DirL) (w : World) (h : FsAt w q dead p ops d s mv) (hd : DirM w s l) (hr : w.ownsRow 0 110 3 mv ml.length (mvCells ml)) (hm : okMoves (ml.take n) l) (hn : n ≤ ml.length) (hn2 : ml.length < 3518437208882)
    (hsq : s ≠ q) (hmq : mv.ownBlock ≠ some q) (hms : mv.ownBlock ≠ some s) :
    Calls Tryz.prog 61 #[.pointer (some ⟨q, 0, none⟩), .int .i64 n] w fun e w' => e = .returned (.tuple #[]) ∧ FsAt w' q dead p ops d s (.slice none 0 0) ∧ DirM w' s (movesDone (ml.take n) l) ∧ GP (fun k => k = q ∨ k = s) w w' := by
  have hr0 := hr
  have x9 := h.safe
  have x10 := h.moves
  have hform : ∃ a c, mv = .slice a ml.length c ∧ ml.length ≤ c := by
    obtain ⟨_, ⟨rfl, e⟩ | ⟨g, cap, cur, rfl, _, _, e, _⟩⟩ := hr0
    · exact ⟨none, 0, by rw [e], by omega⟩
    · exact ⟨_, _, rfl, e⟩
  obtain ⟨a, c, rfl, hc⟩ := hform
  obtain ⟨L, hL⟩ : ∃ L, L = ml.length := ⟨_, rfl⟩
  clear hr0
  replace hc := Lib.hid hc
  go_enter Tryz.func61, Tryz.ntmps61
  have hc := hc.out
  go_wp2_with fail
  go_loopw [5, 13] (fun _ vi wr => ∃ (j : Nat) (l2 : DirL), vi = .int .i64 (j : Int) ∧ j ≤ n ∧ Hid (FsAt wr q dead p ops d s (.slice a ml.length c)) ∧ Hid (DirM wr s l2) ∧ Hid (okMoves ((ml.take n).drop j) l2) ∧ Hid (movesDone ((ml.take n).drop j) l2 = movesDone (ml.take n) l) ∧ Hid (wr.ownsRow 0 110 3 (.slice a ml.length c) ml.length (mvCells ml)) ∧ Hid (GP (fun k => k = s) w wr)) (fun _ vi _ => n - (RowKit.intOf vi).toNat)
  case atStart => exact ⟨0, l, rfl, Nat.zero_le _, Lib.hid h, Lib.hid hd, Lib.hid hm, Lib.hid rfl, Lib.hid hr, Lib.hid (GP.refl _ _)⟩
  case round =>
    obtain ⟨j, l2, rfl, hj, hF, hD, hO, hE, hR, hG⟩ := hrel
    by_cases hlt : j < n
    · have hjl : j < ml.length := by omega
      obtain ⟨m, hm9⟩ : ∃ m, m = ml[j] := ⟨_, rfl⟩
      have hdrop : (ml.take n).drop j = m :: (ml.take n).drop (j + 1) := by
        rw [hm9, List.drop_eq_getElem_cons (by rw [List.length_take]; omega)]
        simp
      rw [hdrop] at hO hE
      clear hdrop
      obtain ⟨gc, rfl, c0, c1, c2⟩ : ∃ gc, a = some ⟨gc, 0, none⟩ ∧ wr.cell? ⟨gc, j * 3, none⟩ = some (.string m.src) ∧ wr.cell? ⟨gc, j * 3 + 1, none⟩ = some (.string m.dst) ∧ wr.cell? ⟨gc, j * 3 + 2, none⟩ = some (ptrV m.made) := by
        have hrow := hR.out
        have hr0 := hrow
        obtain ⟨_, ⟨e, hz⟩ | ⟨g9, cap, cur, e, _⟩⟩ := hrow
        · omega
        · simp at e
          obtain ⟨rfl, rfl⟩ := e
          have := mvCells_at ml j hjl
          rw [hm9]
          exact ⟨g9, rfl, by rw [World.ownsRow.cellAt hr0 _ (by omega)]; exact this.1, by rw [World.ownsRow.cellAt hr0 _ (by omega)]; exact this.2.1, by rw [World.ownsRow.cellAt hr0 _ (by omega)]; exact this.2.2⟩
      replace hm9 := Lib.hid hm9
      obtain ⟨pv, hpv⟩ : ∃ pv, pv = ptrV m.made := ⟨_, rfl⟩
      rw [← hpv] at c2
      have hform : ∃ o, pv = .pointer o := by rw [hpv]; cases m.made <;> exact ⟨_, rfl⟩
      obtain ⟨po, rfl⟩ := hform
      have hO2 : m.may l2 ∧ l2.length < maxLen ∧ okMoves ((ml.take n).drop (j + 1)) (m.done l2) := hO.out
      have hE2 : movesDone ((ml.take n).drop (j + 1)) (m.done l2) = movesDone (ml.take n) l := hE.out
      have hdone := fun W h => done_any m s l2 W h hO2.1 hO2.2.1
      unfold Mv.v at hdone
      rw [← hpv] at hdone
      replace hO2 := Lib.hid hO2
      replace hE2 := Lib.hid hE2
      replace hpv := Lib.hid hpv
      go_upto_region 3 with fail
      have gW := World.grownBy_alloc wr (.cells #[.string m.src, .string m.dst, .pointer po] 110) none
      have eW := World.alloc_heap_new wr (.cells #[.string m.src, .string m.dst, .pointer po] 110)
      obtain ⟨W, hW⟩ : ∃ W, W = wr.alloc (.cells #[.string m.src, .string m.dst, .pointer po] 110) := ⟨_, rfl⟩
      rw [← hW] at gW eW ⊢
      clear hW
      have gD := gdrew gW
      have hl1 := hF.out.lt
      have hl2 := hD.out.lt
      have hF2 := hF.out.kept gD (by simp)
      have hD2 := hD.out.kept gD (by simp)
      have hR2 := World.ownsRow.kept hR.out gD (.inr (by simp [Value.ownBlock]))
      have hG2 := hG.out.step gD (by simp)
      have z0 : W.drew.cell? ⟨wr.heap.size, 0, none⟩ = some (.string m.src) := (gdrew (World.grownBy.refl W none)).cell (by simp [World.cell?, eW]) (by simp)
      have z1 : W.drew.cell? ⟨wr.heap.size, 1, none⟩ = some (.string m.dst) := (gdrew (World.grownBy.refl W none)).cell (by simp [World.cell?, eW]) (by simp)
      have z2 : W.drew.cell? ⟨wr.heap.size, 2, none⟩ = some (.pointer po) := (gdrew (World.grownBy.refl W none)).cell (by simp [World.cell?, eW]) (by simp)
      have r9 := hF2.safe
      refine wp_region_held_drew (S := fun w' => w'.cell? ⟨wr.heap.size, 0, none⟩ = some (.string m.src) ∧ w'.cell? ⟨wr.heap.size, 1, none⟩ = some (.string m.dst) ∧ w'.cell? ⟨wr.heap.size, 2, none⟩ = some (.pointer po) ∧ w'.cell? ⟨q, 9, none⟩ = some (.map (some s))) (by kernel_rfl) ⟨z0, z1, z2, r9⟩ (fun hS9 => ?_)
      refine wpAnyH_take (i := 0) (oi := ⟨some 17, _, _, _, _, _⟩) (v := ?_) rfl (by kernel_rfl) (by kernel_rfl) (by kernel_rfl) (fun _ _ _ h => h) (Or.inl ⟨by rfl, ?_⟩) (by assumption) ?_
      rotate_left
      · (intro w hSw; (try dsimp only at hSw); go_simp; try with_reducible rfl)
      try simp only [Act.put, List.setIfInBounds_toArray, List.set_cons_zero, List.set_cons_succ]
      refine wpAnyH_take (i := 1) (oi := ⟨some 18, _, _, _, _, _⟩) (v := ?_) rfl (by kernel_rfl) (by kernel_rfl) (by kernel_rfl) (fun _ _ _ h => h) (Or.inl ⟨by rfl, ?_⟩) (by assumption) ?_
      rotate_left
      · (intro w hSw; (try dsimp only at hSw); go_simp; try with_reducible rfl)
      try simp only [Act.put, List.setIfInBounds_toArray, List.set_cons_zero, List.set_cons_succ]
      refine wpAnyH_take (i := 2) (oi := ⟨some 19, _, _, _, _, _⟩) (v := ?_) rfl (by kernel_rfl) (by kernel_rfl) (by kernel_rfl) (fun _ _ _ h => h) (Or.inl ⟨by rfl, ?_⟩) (by assumption) ?_
      rotate_left
      · (intro w hSw; (try dsimp only at hSw); go_simp; try with_reducible rfl)
      try simp only [Act.put, List.setIfInBounds_toArray, List.set_cons_zero, List.set_cons_succ]
      refine wpAnyH_take (i := 3) (oi := ⟨some 20, _, _, _, _, _⟩) (v := ?_) rfl (by kernel_rfl) (by kernel_rfl) (by kernel_rfl) (fun _ _ _ h => h) (Or.inl ⟨by rfl, ?_⟩) (by assumption) ?_
      rotate_left
      · (intro w hSw; (try dsimp only at hSw); go_simp; try with_reducible rfl)
      try simp only [Act.put, List.setIfInBounds_toArray, List.set_cons_zero, List.set_cons_succ]
      refine wpAnyH_take (i := 4) (oi := ⟨some 21, _, _, _, _, _⟩) (v := ?_) rfl (by kernel_rfl) (by kernel_rfl) (by kernel_rfl) (fun _ _ _ h => h) (Or.inl ⟨by rfl, ?_⟩) (by assumption) ?_
      rotate_left
      · (intro w hSw; (try dsimp only at hSw); go_simp; try with_reducible rfl)
      try simp only [Act.put, List.setIfInBounds_toArray, List.set_cons_zero, List.set_cons_succ]
      refine wpAnyH_ready (rs := [5]) (by kernel_rfl) (by simp) ?_
      refine AllReadyH.cons rfl (fun K hK => ?_) AllReadyH.nil
      go_simp
      refine (hdone _ hD2).mono ?_
      rintro e w9 ⟨rfl, hd9, g9⟩
      refine hK.out _ _ ⟨g9.cell z0 (by simp; omega), g9.cell z1 (by simp; omega), g9.cell z2 (by simp; omega), g9.cell r9 (by simp; omega)⟩ (fun _ => ?_)
      clear hK
      refine wpAnyH_done (by kernel_rfl) ?_ _
      go_wp2
      exact ⟨⟨j + 1, m.done l2, by go_num, by omega, Lib.hid (hF2.kept g9 (by simp; exact hsq)), Lib.hid hd9, Lib.hid hO2.out.2.2, Lib.hid hE2.out, Lib.hid (World.ownsRow.kept hR2 g9 (.inr hms)), Lib.hid (hG2.step g9 (fun k e => by cases e; exact .inl rfl))⟩, by simp [RowKit.intOf]; omega⟩
    · obtain rfl : j = n := by omega
      have f10 := hF.out.free 10
      have cx := hF.out.moves
      have hS := hF.out.setMoves (.slice none 0 0)
      have gF := gset (World.grownBy.refl wr (some q)) 10 (.slice none 0 0)
      replace hS := Lib.hid hS
      go_wp2
      go_end0
      have hEf : l2 = movesDone (ml.take j) l := by
        have := hE.out
        rw [List.drop_of_length_le (by rw [List.length_take]; omega)] at this
        exact this
      refine ⟨rfl, hS.out, ?_, (GP.trans (P := fun k => k = q ∨ k = s) (GP.refl _ _) hG.out (fun k e => .inl (.inr e))).step gF (fun k e => by cases e; exact .inl (.inl rfl))⟩
      rw [← hEf]
      exact hD.out.kept gF (by simp; exact hsq)
end
end Go.Proofs.YtafcgjbafihniaaGreat

/-
  LAYER 1 (fs): the counter: Load, Store, Add; Ops.
-/
namespace Go.Proofs.YtafcgjbafihniaaGreat
set_option maxRecDepth 100000
open Go.RowKit Go.Lib
attribute [local go_sem] Oper.semAt_some
section
variable {w : World} {q : Nat} {dead : Bool} {p : PlV} {ops : Int} {d s : Nat} {mv : Value}
theorem FsAt.setOps (h : FsAt w q dead p ops d s mv) (x : Int) : FsAt (w.setCell ⟨q, 7, none⟩ (.int .i64 x)) q dead p x d s mv := heap_setCell_same w q 7 _ _ _ h
theorem FsAt.setDead (h : FsAt w q dead p ops d s mv) (x : Bool) : FsAt (w.setCell ⟨q, 1, none⟩ (.bool x)) q x p ops d s mv := heap_setCell_same w q 1 _ _ _ h

theorem load_fs (w : World) (h : FsAt w q dead p ops d s mv) :
    Calls Tryz.prog 65 #[.pointer (some ⟨q, 7, none⟩)] w fun e w' => e = .returned (.int .i64 ops) ∧ w = w' := by
  have h0 := h.count
  have hl := run_call_load (P := Tryz.prog) Tryz.func91 (by kernel_rfl) (by kernel_rfl) (by kernel_rfl) .i64 (by kernel_rfl) h0
  go_enter Tryz.func65, Tryz.ntmps65
  go_wp2_with (fail)
  go_ret
  exact ⟨rfl, rfl⟩

theorem store_fs (x : Int) (w : World) (h : FsAt w q dead p ops d s mv) :
    Calls Tryz.prog 63 #[.pointer (some ⟨q, 7, none⟩), .int .i64 x] w fun e w' => e = .returned (.tuple #[]) ∧ w' = w.setCell ⟨q, 7, none⟩ (.int .i64 x) := by
  have h0 := h.count
  have h1 := h.free 7
  have hl := run_call_store (P := Tryz.prog) Tryz.func90 (by kernel_rfl) (by kernel_rfl) (by kernel_rfl) (by kernel_rfl) (k := .i64) (y := x) h0 h1
  go_enter Tryz.func63, Tryz.ntmps63
  go_wp2_with (fail)
  go_end0
  exact ⟨rfl, rfl⟩

theorem add_fs (w : World) (h : FsAt w q dead p ops d s mv) (h0 : 0 ≤ ops) (h9 : ops < 4611686018427387904) :
    Calls Tryz.prog 84 #[.pointer (some ⟨q, 7, none⟩), .int .i64 1] w fun e w' => e = .returned (.int .i64 (ops + 1)) ∧ w' = w.setCell ⟨q, 7, none⟩ (.int .i64 (ops + 1)) := by
  have hc := h.count
  have h1 := h.free 7
  have hl := run_call_add (P := Tryz.prog) Tryz.func102 (by kernel_rfl) (by kernel_rfl) (by kernel_rfl) .i64 (by kernel_rfl) (y := 1) (s := ops + 1) hc h1 (by simp [go_sem]; exact IntWalk.i64_in _ (by omega))
  go_enter Tryz.func84, Tryz.ntmps84
  go_wp2_with (fail)
  go_ret
  exact ⟨rfl, rfl⟩

theorem ops_fs (w : World) (h : FsAt w q dead p ops d s mv) :
    Calls Tryz.prog 28 #[.pointer (some ⟨q, 0, none⟩)] w fun e w' => e = .returned (.int .i64 ops) ∧ w = w' := by
  go_enter Tryz.func28, Tryz.ntmps28
  go_wp2_with (first
    | (go_at_call 54; refine (isMade_fs _ h).mono ?_; rintro e w' ⟨rfl, rfl⟩)
    | (go_at_call 65; refine (load_fs _ h).mono ?_; rintro e w' ⟨rfl, rfl⟩))
  go_ret
  exact ⟨rfl, rfl⟩
end
end Go.Proofs.YtafcgjbafihniaaGreat

/-
  LAYER 1 (fs): a search in a plan's sorted list.
-/
namespace Go.Proofs.YtafcgjbafihniaaGreat
set_option maxRecDepth 100000
open Go.RowKit Go.Lib
attribute [local go_sem] Oper.semAt_some

theorem inOrd_sorted (zs : List Int) : (inOrd zs).Pairwise (· ≤ ·) := by
  have h := List.pairwise_mergeSort (le := fun x y : Int => decide (x ≤ y)) (fun a b c h1 h2 => by simp at *; omega) (fun a b => by simp; omega) zs
  exact h.imp (fun h => by simpa using h)
theorem inOrd_mem (zs : List Int) (x : Int) : (inOrd zs).contains x = zs.contains x := by
  have h : x ∈ inOrd zs ↔ x ∈ zs := by unfold inOrd; exact List.mem_mergeSort
  rw [Bool.eq_iff_iff]
  simp [h]

theorem search_own (B : Nat) (v : Value) (n : Nat) (zs : List Int) (x : Int) (w : World) (ho : w.ownsRow B 3 1 v n ((inOrd zs).map intV)) (hn : n = zs.length) (hsz : zs.length < 4611686018427387904) :
    Calls Tryz.prog 85 #[v, .int .i64 x] w fun e w' => e = .returned (.tuple #[.int .i64 (((inOrd zs).countP (· < x) : Nat) : Int), .bool (zs.contains x)]) ∧ ∃ m, w' = w.drewN m := by
  subst hn
  have h0 := ho
  obtain ⟨_, ⟨rfl, hn⟩ | ⟨g, cap, cur, rfl, hB, hgg, h1, h2, h3, h4⟩⟩ := ho
  · obtain rfl := List.length_eq_zero_iff.1 hn
    refine (Tryz.slices_BinarySearch_int_empty none 0 x w).mono ?_
    rintro e w' ⟨rfl, rfl⟩
    exact ⟨by simp [inOrd], 0, rfl⟩
  · have hq := Tryz.slices_BinarySearch_int g 0 zs.length cap (inOrd zs) x w (by rw [inOrd_length]; exact Nat.le_refl _) hsz (fun j hj => by
      rw [Nat.zero_add, World.ownsRow.cellAt h0 j (by rw [inOrd_length] at hj; simpa using hj)]
      simp [intV, List.getD_eq_getElem?_getD, List.getElem?_eq_getElem hj]) (by rw [List.take_of_length_le (by rw [inOrd_length]; exact Nat.le_refl _)]; exact inOrd_sorted zs)
    rw [List.take_of_length_le (by rw [inOrd_length]; exact Nat.le_refl _), inOrd_mem] at hq
    exact hq

section
variable {w : World} {q : Nat} {dead : Bool} {p : PlV} {ops : Int} {d s : Nat} {mv : Value}
theorem FsAt.full (h : FsAt w q dead p ops d s mv) : w.cell? ⟨q, 5, none⟩ = some p.u := by simp [World.cell?, show _ = _ from h]
theorem FsAt.fail (h : FsAt w q dead p ops d s mv) : w.cell? ⟨q, 4, none⟩ = some p.f := by simp [World.cell?, show _ = _ from h]
theorem FsAt.keep (h : FsAt w q dead p ops d s mv) : w.cell? ⟨q, 3, none⟩ = some p.k := by simp [World.cell?, show _ = _ from h]
theorem FsAt.crash (h : FsAt w q dead p ops d s mv) : w.cell? ⟨q, 2, none⟩ = some (.int .i64 p.c) := by simp [World.cell?, show _ = _ from h]
theorem FsAt.room (h : FsAt w q dead p ops d s mv) : w.cell? ⟨q, 6, none⟩ = some (.int .i64 p.r) := by simp [World.cell?, show _ = _ from h]

end
end Go.Proofs.YtafcgjbafihniaaGreat

/-
  LAYER 1 (fs): die.
-/
namespace Go.Proofs.YtafcgjbafihniaaGreat
set_option maxRecDepth 100000
open Go.RowKit Go.Lib
open Go.Proofs (encStr)
attribute [local go_sem] Oper.semAt_some

/-- How many moves survive. -/
def dieN (keep : List Int) (ml : List Mv) : Nat := surv (keepAt keep 0) ml.length

section
variable {w : World} {q : Nat} {p : PlV} {ops : Int} {d s : Nat} {mv : Value}
theorem FsAt.setDir (h : FsAt w q false p ops d s mv) (d' : Nat) : FsAt (w.setCell ⟨q, 8, none⟩ (.map (some d'))) q false p ops d' s mv := heap_setCell_same w q 8 _ _ _ h

set_option maxHeartbeats 8000000 in
theorem die_any (keep : List Int) (ml : List Mv) (l : DirL) (F : Nat → FileV) (w : World) (h : FsAt w q false p ops d s mv) (hk : w.ownsRow 0 3 1 p.k keep.length (keep.map intV)) (hlk : keep.length < 4611686018427387904)
    (hds : DirM w s l) (hr : w.ownsRow 0 110 3 mv ml.length (mvCells ml)) (nm : Nat) (hnm : nm = dieN keep ml) (hm : okMoves (ml.take nm) l) (l' : DirL) (hl' : l' = movesDone (ml.take nm) l) (hn2 : ml.length < 3518437208882) (hl9 : l'.length ≤ 3518437208881)
    (hF : FilesM w (filesOf F l'.sorted)) (hok : ∀ x ∈ l'.sorted, okL (F x.2).safe (F x.2).chg ∧ (F x.2).safe.length ≤ 140737488355328) (hcn : 1 + cnt F l'.sorted < 4611686018427387904)
    (hsq : s ≠ q) (hmq : mv.ownBlock ≠ some q) (hms : mv.ownBlock ≠ some s) (hkq : p.k.ownBlock ≠ some q) (hks : p.k.ownBlock ≠ some s)
    (hfb : ∀ k ∈ filesBlocks (filesOf F l'.sorted), k ≠ q ∧ k ≠ s ∧ p.k.ownBlock ≠ some k) :
    Calls Tryz.prog 62 #[.pointer (some ⟨q, 0, none⟩)] w fun e w' => e = .returned (.tuple #[]) ∧ ∃ d' G, FsAt w' q true p ops d' s (.slice none 0 0) ∧ DirM w' s l' ∧ DirM w' d' l' ∧ w.heap.size ≤ d' ∧
      FilesM w' (filesOf G l'.sorted) ∧ (∀ i x, l'.sorted[i]? = some x → diedAs (keepAt keep) F (1 + cnt F (l'.sorted.take i)) x.2 (G x.2)) ∧
      (∀ x ∈ l'.sorted, ∀ k ∈ (G x.2).blocks, k ∈ (F x.2).blocks ∨ w.heap.size ≤ k) ∧ (∀ k ∈ filesBlocks (filesOf G l'.sorted), k ≠ d') ∧
      GP (fun k => k = q ∨ k = s ∨ k ∈ filesBlocks (filesOf F l'.sorted)) w w' := by
  replace hnm := Lib.hid hnm
  replace hl' := Lib.hid hl'
  have hql := h.lt
  have hsl := hds.lt
  have hfl := hF.lt
  have x3 := h.keep
  obtain ⟨ka, kc, hkv⟩ := rowFormS hk
  rw [hkv] at x3
  have hit := inTurn_any p.k keep w hk
  rw [hkv] at hit
  refine (callsIn_wide (n := 20)).1 ?_
  have hf1 : Fence.wide.fn 87 := trivial
  have hf2 : Fence.wide.fn 82 := trivial
  have hf3 : Fence.wide.fn 89 := trivial
  refine callsIn_of_wp_marks Tryz.func62 rfl trivial ?_ rfl
  simp only [Tryz.ntmps62, List.size_toArray, List.length_cons, List.length_nil, Nat.reduceAdd, Nat.reduceSub, Array.replicate_succ, Array.replicate_zero, List.push_toArray, List.append_toArray, List.nil_append, List.cons_append]
  gi_wp2_with first
    | (gi_at_call 87; refine (callsIn_wide.2 hit).mono ?_; clear hit; rintro e w1 ⟨ab, kb, rfl, hT, g1, hab, hkb, hne⟩; have cN : (w1.alloc (.cells #[.nilFunc] 58)).cell? ⟨w1.heap.size, 0, none⟩ = some .nilFunc := (Boxed.new w1 _ _).cell; have fN : (w1.alloc (.cells #[.nilFunc] 58)).frozen? ⟨w1.heap.size, 0, none⟩ = false := (Boxed.new w1 _ _).frozen)
  obtain ⟨W2, hW2⟩ : ∃ W2, W2 = w1.alloc (.cells #[.func (.func 105) #[] #[.pointer (some ⟨kb, 0, none⟩), .pointer (some ⟨ab, 0, none⟩)]] 58) := ⟨_, rfl⟩
  rw [← hW2]
  have g12 : w1.grownBy W2 none := by rw [hW2]; exact World.grownBy_alloc w1 _ none
  have hb2 : Boxed W2 w1.heap.size 58 (.func (.func 105) #[] #[.pointer (some ⟨kb, 0, none⟩), .pointer (some ⟨ab, 0, none⟩)]) := by rw [hW2]; exact Boxed.new w1 _ _
  clear hW2 cN fN
  rw [hkv] at hkq hks hk hfb
  have hkl := World.ownsRow.lt hk
  have N := turnNext ab kb (.slice ka keep.length kc) keep ⟨hne, fun e => by have := hkl _ e; omega⟩ hlk
  have hw1s := g1.size
  have hnbl : ∀ k ∈ (ab :: kb :: (Value.slice ka keep.length kc).ownBlock.toList), k ≠ q ∧ k ≠ s ∧ k ∉ filesBlocks (filesOf F l'.sorted) := by
    intro k hk'
    simp only [List.mem_cons, Option.mem_toList] at hk'
    rcases hk' with rfl | rfl | hk'
    · exact ⟨by omega, by omega, fun hk2 => by have := hfl _ hk2; omega⟩
    · exact ⟨by omega, by omega, fun hk2 => by have := hfl _ hk2; omega⟩
    · exact ⟨fun e => hkq (by rw [← e]; exact hk'), fun e => hks (by rw [← e]; exact hk'), fun hk2 => (hfb k hk2).2.2 hk'⟩
  have hN1 : (∃ i', (keep = [] ∧ i' = 0 ∨ keep ≠ [] ∧ i' = 0) ∧ TurnAt ab kb (.slice ka keep.length kc) keep i' w1) := ⟨0, by by_cases e : keep = [] <;> simp [e], hT⟩
  have hN2 := N.kept 0 w1 W2 hN1 (fun k hk' => g12.block k (N.lt 0 w1 hN1 k hk') (by simp))
  obtain ⟨V, hV⟩ : ∃ V, V = W2.drew := ⟨_, rfl⟩
  have gV2 : W2.grownBy V none := by rw [hV]; exact gdrew (World.grownBy.refl W2 none)
  have hNV := N.kept 0 W2 V hN2 (fun k hk' => gV2.block k (N.lt 0 W2 hN2 k hk') (by simp))
  have hbV := hb2.kept gV2 (by simp)
  have gV : w.grownBy V none := (g1.trans g12).trans gV2
  have hFV := h.kept gV (by simp)
  have x10 := hFV.moves
  obtain ⟨ma, mc, hmv⟩ := rowFormS hr
  rw [hmv] at x10
  have hablt := N.lt 0 w1 hN1 ab (by simp)
  clear hN1 hN2 hT
  refine wpIn_mono (Q := fun e a' w' => e = .normal ∧ a' = { tmps := #[.pointer (some ⟨q, 0, none⟩), undef, .pointer (some ⟨w1.heap.size, 0, none⟩), undef, undef, .pointer (some ⟨q, 0, none⟩), .pointer (some ⟨q, 0, none⟩), .pointer (some ⟨q, 2, none⟩), .pointer (some ⟨q, 3, none⟩), .slice ka keep.length kc, .func (.func 105) #[] #[.pointer (some ⟨kb, 0, none⟩), .pointer (some ⟨ab, 0, none⟩)], .pointer (some ⟨q, 0, none⟩), .func (.func 105) #[] #[.pointer (some ⟨kb, 0, none⟩), .pointer (some ⟨ab, 0, none⟩)], .int .i64 (keepAt keep 0), .pointer (some ⟨q, 0, none⟩), .pointer (some ⟨q, 0, none⟩), .pointer (some ⟨q, 10, none⟩), .slice ma ml.length mc, .int .i64 (ml.length : Int), .int .i64 (nm : Int), .tuple #[], undef, undef, undef, undef, undef, undef, undef, undef, undef, undef, undef, undef, undef, undef, undef, undef, undef, undef, undef, undef, undef, undef, undef, undef, undef, undef, undef, undef, undef], defers := [] } ∧ FsAt w' q false p ops d s (.slice none 0 0) ∧ DirM w' s l' ∧ (∃ i', (keep = [] ∧ i' = 0 ∨ keep ≠ [] ∧ i' = 0 + 1) ∧ TurnAt ab kb (.slice ka keep.length kc) keep i' w') ∧ Boxed w' w1.heap.size 58 (.func (.func 105) #[] #[.pointer (some ⟨kb, 0, none⟩), .pointer (some ⟨ab, 0, none⟩)]) ∧ GP (fun k => k = q ∨ k = s) w w') ?reg ?cont
  case reg =>
    apply wpIn_noPanic
    refine wpIn_region_held (S := fun V' => V'.cell? ⟨w1.heap.size, 0, none⟩ = some (.func (.func 105) #[] #[.pointer (some ⟨kb, 0, none⟩), .pointer (some ⟨ab, 0, none⟩)])) (by kernel_rfl) (by rw [← hV]; exact hbV.cell) (fun hS0 => ?_)
    rw [← hV]
    have hSV := hbV.cell
    clear hS0 hV
    refine wpAnyHIn_take (i := 0) (oi := ⟨some 11, _, _, _, _, _⟩) (v := ?_) rfl (by kernel_rfl) (by kernel_rfl) (by kernel_rfl) (by kernel_rfl) (fun _ _ _ h => h) (fun _ => rfl) (Or.inl ⟨by rfl, ?_⟩) (by assumption) ?_
    rotate_left
    · (intro w hSw; (try dsimp only at hSw); go_simp; try with_reducible rfl)
    try simp only [Act.put, List.setIfInBounds_toArray, List.set_cons_zero, List.set_cons_succ]
    refine wpAnyHIn_take (i := 1) (oi := ⟨some 12, _, _, _, _, _⟩) (v := ?_) rfl (by kernel_rfl) (by kernel_rfl) (by kernel_rfl) (by kernel_rfl) (fun _ _ _ h => h) (fun _ => rfl) (Or.inl ⟨by rfl, ?_⟩) (by assumption) ?_
    rotate_left
    · (intro w hSw; (try dsimp only at hSw); go_simp; try with_reducible rfl)
    try simp only [Act.put, List.setIfInBounds_toArray, List.set_cons_zero, List.set_cons_succ]
    refine wpAnyHIn_take (i := 3) (oi := ⟨some 14, _, _, _, _, _⟩) (v := ?_) rfl (by kernel_rfl) (by kernel_rfl) (by kernel_rfl) (by kernel_rfl) (fun _ _ _ h => h) (fun _ => rfl) (Or.inl ⟨by rfl, ?_⟩) (by assumption) ?_
    rotate_left
    · (intro w hSw; (try dsimp only at hSw); go_simp; try with_reducible rfl)
    try simp only [Act.put, List.setIfInBounds_toArray, List.set_cons_zero, List.set_cons_succ]
    refine wpAnyHIn_take (i := 4) (oi := ⟨some 15, _, _, _, _, _⟩) (v := ?_) rfl (by kernel_rfl) (by kernel_rfl) (by kernel_rfl) (by kernel_rfl) (fun _ _ _ h => h) (fun _ => rfl) (Or.inl ⟨by rfl, ?_⟩) (by assumption) ?_
    rotate_left
    · (intro w hSw; (try dsimp only at hSw); go_simp; try with_reducible rfl)
    try simp only [Act.put, List.setIfInBounds_toArray, List.set_cons_zero, List.set_cons_succ]
    refine wpAnyHIn_take (i := 5) (oi := ⟨some 16, _, _, _, _, _⟩) (v := ?_) rfl (by kernel_rfl) (by kernel_rfl) (by kernel_rfl) (by kernel_rfl) (fun _ _ _ h => h) (fun _ => rfl) (Or.inl ⟨by rfl, ?_⟩) (by assumption) ?_
    rotate_left
    · (intro w hSw; (try dsimp only at hSw); go_simp; try with_reducible rfl)
    try simp only [Act.put, List.setIfInBounds_toArray, List.set_cons_zero, List.set_cons_succ]
    refine wpAnyHIn_two (i := 2) (j := 6) (by kernel_rfl) rfl rfl (by rfl) (by rfl) (fun K hK => ?_) (fun K hK => ?_)
    · go_simp
      refine ⟨trivial, (callsIn_wide.2 (N.call 0 V (by decide) hNV)).mono ?_⟩
      rintro e w3 ⟨rfl, hN3, g3⟩
      have gV3 : w.grownBy w3 none := gnew gV g3 (fun k e => by cases e; exact .inl hab)
      have hb3 := hbV.kept g3 (by simp; omega)
      have hF3 := h.kept gV3 (by simp)
      have y10 := hF3.moves
      rw [hmv] at y10
      refine hK.out _ _ hb3.cell (fun _ => ?_)
      clear hK
      refine wpAnyHIn_next (i := 6) (by kernel_rfl) rfl (by rfl) (fun K hK => ?_)
      go_simp
      refine hK.out _ _ hb3.cell (fun _ => ?_)
      clear hK
      refine wpAnyHIn_take (i := 7) (oi := ⟨some 18, _, _, _, _, _⟩) (v := ?_) rfl (by kernel_rfl) (by kernel_rfl) (by kernel_rfl) (by kernel_rfl) (fun _ _ _ h => h) (fun _ => rfl) (Or.inl ⟨by rfl, ?_⟩) (by assumption) ?_
      rotate_left
      · (intro w hSw; (try dsimp only at hSw); go_simp; try with_reducible rfl)
      try simp only [Act.put, List.setIfInBounds_toArray, List.set_cons_zero, List.set_cons_succ]
      refine wpAnyHIn_next (i := 8) (by kernel_rfl) rfl (by rfl) (fun K hK => ?_)
      go_simp
      refine ⟨trivial, (callsIn_wide.2 (surv_any (keepAt keep 0) ml.length (by omega) w3)).mono ?_⟩
      rintro e w4 ⟨rfl, rfl⟩
      rw [show surv (keepAt keep 0) ml.length = nm from hnm.out.symm]
      refine hK.out _ _ hb3.cell (fun _ => ?_)
      clear hK
      refine wpAnyHIn_next (i := 9) (by kernel_rfl) rfl (by rfl) (fun K hK => ?_)
      go_simp
      refine ⟨trivial, (callsIn_wide.2 (fsSettle_any nm ml l w3 hF3 (hds.kept gV3 (by simp)) (World.ownsRow.kept hr gV3 (by cases mv.ownBlock <;> simp)) hm (by rw [hnm.out]; exact surv_le _ _) hn2 hsq hmq hms)).mono ?_⟩
      rintro e w5 ⟨rfl, k1, k2, k3⟩
      have hb5 : Boxed w5 w1.heap.size 58 (.func (.func 105) #[] #[.pointer (some ⟨kb, 0, none⟩), .pointer (some ⟨ab, 0, none⟩)]) := (k3.block _ hb3.lt (by rintro (e | e) <;> omega)).trans hb3
      refine hK.out _ _ hb5.cell (fun _ => ?_)
      clear hK
      refine wpAnyHIn_done (by kernel_rfl) ?_ _
      refine noPanic_normal ?_
      exact ⟨rfl, rfl, k1, by rw [hl'.out]; exact k2, N.kept _ _ _ hN3 (fun k hk => k3.block k (N.lt _ _ hN3 k hk) (by rintro (e | e) <;> (have := hnbl k hk; omega))), hb5, (GP.of (P := fun k => k = q ∨ k = s) gV3 (by simp)).trans k3 (fun k e => .inl e)⟩
    · go_simp
      refine hK.out _ _ hbV.cell (fun _ => ?_)
      clear hK
      refine wpAnyHIn_take (i := 7) (oi := ⟨some 18, _, _, _, _, _⟩) (v := ?_) rfl (by kernel_rfl) (by kernel_rfl) (by kernel_rfl) (by kernel_rfl) (fun _ _ _ h => h) (fun _ => rfl) (Or.inl ⟨by rfl, ?_⟩) (by assumption) ?_
      rotate_left
      · (intro w hSw; (try dsimp only at hSw); go_simp; try with_reducible rfl)
      try simp only [Act.put, List.setIfInBounds_toArray, List.set_cons_zero, List.set_cons_succ]
      refine wpAnyHIn_next (i := 2) (by kernel_rfl) rfl (by rfl) (fun K hK => ?_)
      go_simp
      refine ⟨trivial, (callsIn_wide.2 (N.call 0 V (by decide) hNV)).mono ?_⟩
      rintro e w3 ⟨rfl, hN3, g3⟩
      have gV3 : w.grownBy w3 none := gnew gV g3 (fun k e => by cases e; exact .inl hab)
      have hb3 := hbV.kept g3 (by simp; omega)
      have hF3 := h.kept gV3 (by simp)
      have y10 := hF3.moves
      rw [hmv] at y10
      refine hK.out _ _ hb3.cell (fun _ => ?_)
      clear hK
      refine wpAnyHIn_next (i := 8) (by kernel_rfl) rfl (by rfl) (fun K hK => ?_)
      go_simp
      refine ⟨trivial, (callsIn_wide.2 (surv_any (keepAt keep 0) ml.length (by omega) w3)).mono ?_⟩
      rintro e w4 ⟨rfl, rfl⟩
      rw [show surv (keepAt keep 0) ml.length = nm from hnm.out.symm]
      refine hK.out _ _ hb3.cell (fun _ => ?_)
      clear hK
      refine wpAnyHIn_next (i := 9) (by kernel_rfl) rfl (by rfl) (fun K hK => ?_)
      go_simp
      refine ⟨trivial, (callsIn_wide.2 (fsSettle_any nm ml l w3 hF3 (hds.kept gV3 (by simp)) (World.ownsRow.kept hr gV3 (by cases mv.ownBlock <;> simp)) hm (by rw [hnm.out]; exact surv_le _ _) hn2 hsq hmq hms)).mono ?_⟩
      rintro e w5 ⟨rfl, k1, k2, k3⟩
      have hb5 : Boxed w5 w1.heap.size 58 (.func (.func 105) #[] #[.pointer (some ⟨kb, 0, none⟩), .pointer (some ⟨ab, 0, none⟩)]) := (k3.block _ hb3.lt (by rintro (e | e) <;> omega)).trans hb3
      refine hK.out _ _ hb5.cell (fun _ => ?_)
      clear hK
      refine wpAnyHIn_done (by kernel_rfl) ?_ _
      refine noPanic_normal ?_
      exact ⟨rfl, rfl, k1, by rw [hl'.out]; exact k2, N.kept _ _ _ hN3 (fun k hk => k3.block k (N.lt _ _ hN3 k hk) (by rintro (e | e) <;> (have := hnbl k hk; omega))), hb5, (GP.of (P := fun k => k = q ∨ k = s) gV3 (by simp)).trans k3 (fun k e => .inl e)⟩
  case cont =>
    rintro e a' W ⟨rfl, rfl, hF5, hD5, hN5, hb5, gw5⟩
    dsimp only
    have x9 := hF5.safe
    have hio := inOrder_any s W
    clear x10 hFV hbV hNV gV gV2 hV hb2 g12 x3 hds hr hm
    replace hN5 := Lib.hid hN5
    gi_wp2_with first
      | (gi_at_call 82; refine (callsIn_wide.2 hio).mono ?_; clear hio; rintro e W3 ⟨bx, rfl, hbx, g3, hbxl⟩)
    obtain ⟨NS, hNS⟩ : ∃ NS : Nat → World → Prop, NS = (fun i w => ∃ i', (keep = [] ∧ i' = 0 ∨ keep ≠ [] ∧ i' = i) ∧ TurnAt ab kb (.slice ka keep.length kc) keep i' w) := ⟨_, rfl⟩
    have hN5' : NS 1 W := by rw [hNS]; exact hN5.out
    rw [← hNS] at N
    clear hN5 hNS
    have hw1 : w1.heap.size + 1 ≤ W3.heap.size := by have := hb5.lt; have := g3.size; omega
    have sW := g3.size
    have hb5l := hb5.lt
    have hF3 := hF5.kept g3 (by simp)
    have hD3 := hD5.kept g3 (by simp)
    have hb3 := hb5.kept g3 (by simp)
    have hN3 : NS 1 W3 := N.kept 1 W W3 hN5' (fun k hk' => g3.block k (N.lt 1 W hN5' k hk') (by simp))
    have hnl3 := N.lt 1 W3 hN3
    have hM3 : FilesM W3 (filesOf F l'.sorted) := (hF.kept gw5 (fun k hk' e => by rcases e with e | e; exact (hfb k hk').1 e; exact (hfb k hk').2.1 e)).kept (GP.of (P := fun _ => False) g3 (by simp)) (fun _ _ h => h)
    have hfl3 := hM3.lt
    have wW := gw5.size
    have hap3 : ∀ k ∈ filesBlocks (filesOf F l'.sorted), k ∉ (ab :: kb :: (Value.slice ka keep.length kc).ownBlock.toList) ∧ k < W3.heap.size := fun k hk' => ⟨fun e => (hnbl k e).2.2 hk', hfl3 k hk'⟩
    have hbxl3 : bx < W3.heap.size := lt_of_block hbx
    have hnb3 : w1.heap.size ∉ filesBlocks (filesOf F l'.sorted) ∧ w1.heap.size < W3.heap.size ∧ some ab ≠ some w1.heap.size := ⟨fun e => by have := hfl _ e; omega, by omega, by simp; omega⟩
    refine range_tellsZ1 (a := _) (w := W3) (α := List UInt8 × Nat) rfl (by omega) (gf := 99) (lb := #[.pointer (some ⟨bx, 0, none⟩)]) rfl trivial (enters_of Tryz.func99 (by kernel_rfl) rfl)
      (inOrder1_tells _ bx s l' W3 (by omega) hbx hD3 (by omega)) (fun k hk' => by rcases hk' with rfl | rfl <;> omega) (fun _ => rfl) (fun _ _ _ _ _ _ h _ _ _ => h)
      (Ft (DieI W3 (some ab) w1.heap.size (.func (.func 105) #[] #[.pointer (some ⟨kb, 0, none⟩), .pointer (some ⟨ab, 0, none⟩)]) NS (ab :: kb :: (Value.slice ka keep.length kc).ownBlock.toList) (keepAt keep) l'.sorted F)) (fun _ _ _ _ => False) (fun Z s A h => by obtain ⟨_, ⟨h, _⟩, _⟩ := h; exact h)
      (Ft.tame (DieI.keep N)) (fun c => ⟨fun _ _ _ _ _ h => h.elim, fun _ _ _ _ _ h => h.elim⟩)
      ⟨fun k => k = w1.heap.size ∨ k ∈ (ab :: kb :: (Value.slice ka keep.length kc).ownBlock.toList) ∨ k ∈ filesBlocks (filesOf F l'.sorted), ⟨Nat.le_refl _, hb3, .inl rfl, fun k hk' => .inr (.inl hk'), hN3, F, by simpa [filesOf] using hM3, fun k hk' => .inr (.inr (by simpa [filesOf] using hk')), fun i x hi => by simp at hi, fun x hx => by simp at hx, GP.refl _ _⟩, fun k hk' => by
        rcases hk' with e | e | e
        · exact ⟨fun hz => by rcases hz with hz | hz <;> omega, by omega⟩
        · have h1 := hnl3 k e
          have h2 := N.lt 1 W hN5' k e
          have h3 := hnbl k e
          exact ⟨fun hz => by rcases hz with hz | hz <;> omega, h1⟩
        · have h1 := hfl k e
          have h2 := hfb k e
          exact ⟨fun hz => by rcases hz with hz | hz <;> omega, hfl3 k e⟩⟩
      ?a1 (fun _ _ _ _ h _ => h) ?assign ?body ?done ?stop
    case assign =>
      intro ll x W K hK
      dsimp only [dEnc]
      gi_wp2
      exact hK
    case stop =>
      rintro D c Z pre W W' _ _ _ _ _ h
      exact h.elim
    case body =>
      rintro ll Z pre x W4 hZ0 hZl ⟨Foot, hJ, hFt⟩ ⟨hpre, hx⟩ hsz
      obtain ⟨nmx, b⟩ := x
      have hin : (nmx, b) ∈ l'.sorted := List.mem_of_getElem? hx
      obtain ⟨hok1, hok2⟩ := hok _ hin
      dsimp only at hok1 hok2
      have hJ0 := hJ
      obtain ⟨j1, j2, j3, j4, j5, G, j6, j7, j8, j9, j10⟩ := hJ
      have hpl : pre.length < l'.sorted.length := (List.getElem?_eq_some_iff.1 hx).1
      have hdrop : List.drop pre.length l'.sorted = (nmx, b) :: List.drop (pre.length + 1) l'.sorted := by
        rw [List.drop_eq_getElem_cons hpl]
        rw [(List.getElem?_eq_some_iff.1 hx).2]
      have hfile : FileAt W4 b (F b) := j6.1 (b, F b) (by rw [hdrop]; simp [filesOf])
      have hfin : ∀ k, k = b ∨ k ∈ (F b).blocks → k ∈ filesBlocks (filesOf F l'.sorted) := fun k hk' => mem_filesBlocks.2 ⟨(b, F b), mem_filesOf.2 ⟨_, hin, rfl⟩, hk'⟩
      have hcb : 1 + cnt F pre + (F b).chg.length < 4611686018427387904 := by
        have h1 := cnt_append F pre (nmx, b)
        have h2 := cnt_take F l'.sorted (pre.length + 1)
        rw [List.take_add_one, hx, ← hpre] at h2
        simp only [Option.toList_some] at h2
        dsimp only at h1
        omega
      have hst := settle_any _ _ _ _ _ NS N b (F b) W4 (1 + cnt F pre) hfile j5 hok1 hcb ⟨(hap3 b (hfin b (.inl rfl))).1, fun k hk' => (hap3 k (hfin k (.inr hk'))).1⟩
      have cnb := j2.cell
      have hslen := settleP_len (keepAt keep) (F b).chg (1 + cnt F pre) (F b).safe hok1 hok2
      obtain ⟨S, hS⟩ : ∃ S, S = settleP (keepAt keep) (1 + cnt F pre) true (F b).safe (F b).chg := ⟨_, rfl⟩
      rw [← hS] at hst hslen
      replace hS := Lib.hid hS
      replace hJ0 := Lib.hid hJ0
      replace hpre := Lib.hid hpre
      replace hx := Lib.hid hx
      have hnext := fun W7 f' g h3 h4 h5 h6 => DieI.next (Z := Z) (P := fun k => k = b ∨ (F b).sv.ownBlock = some k ∨ some ab = some k) (W5 := W7) (f' := f') hJ0.out hFt hZl hpre.out hx.out hap3 hnb3 (fun r e => N.mem r e) hnl3 g (fun k hk' => by
        rcases hk' with e | e | e
        · exact .inl e
        · exact .inr (.inl (FileV.mem_s e))
        · exact .inr (.inr e)) h3 h4 h5 h6
      replace hnext := Lib.hid hnext
      clear j1 j2 j3 j4 j5 j6 j7 j8 j9 j10 hdrop hpl hF hM3 hF3 hD3 hb3 hN3 hok
      have hg1 : Fence.wide.fn 58 := trivial
      have hg2 : Fence.wide.fn 51 := trivial
      gi_wp2_with first
        | (gi_at_call 58; refine (callsIn_wide.2 hst).mono ?_; clear hst; rintro e W5 ⟨rfl, sv, k1, k2, k3, k4⟩; obtain ⟨sa, sc, hsv⟩ : ∃ a c, sv = .slice a S.length c := rowFormS k1.2.1; subst hsv; have c0 := k1.c0; have hcp := fcopied_any sa S.length sc S W5 k1.2.1.reads hslen; dsimp only at c0; replace k1 := Lib.hid k1; replace k2 := Lib.hid k2; replace k3 := Lib.hid k3; replace k4 := Lib.hid k4)
        | (gi_at_call 51; refine (callsIn_wide.2 hcp).mono ?_; clear hcp; rintro e W6 ⟨v6, rfl, o6, g6⟩; obtain ⟨a6, c6, rfl⟩ := rowFormS o6; have k6 := k1.out.kept (GP.of (P := fun _ => False) g6 (by simp)) (fun h => h) (fun _ _ h => h); have c1 := k6.c1; have f1 := k6.free 1; dsimp only at c1; replace k6 := Lib.hid k6; replace o6 := Lib.hid o6; replace g6 := Lib.hid g6)
      have gs := gset (World.grownBy.refl W6 (some b)) 1 (.slice a6 S.length c6)
      have k1 := k1.out
      have k6 := k6.out
      have o6 := o6.out
      have g6 := g6.out
      have k3 := k3.out
      have k4 := k4.out
      have sz5 := k3.size
      have hb7 := heap_setCell_same W6 b 1 _ _ (.slice a6 S.length c6) k6.1
      obtain ⟨_, hs6, _, hc6, hnd6⟩ := k6
      dsimp only at hs6 hc6 hnd6
      have hvo := Owns.lt o6
      have hbl5 := k1.lt
      have hsb : (Value.slice sa S.length sc).ownBlock ≠ some b := fun e => by have := (List.nodup_cons.1 hnd6).1; simp [FileV.blocks, e] at this
      have hvb : (Value.slice a6 S.length c6).ownBlock ≠ some b := fun e => by have := (hvo b e).1; omega
      have hss := Owns.lt k1.2.1
      have hf7 : FileAt (W6.setCell ⟨b, 1, none⟩ (.slice a6 S.length c6)) b ⟨.slice sa S.length sc, .slice a6 S.length c6, .slice none 0 0, S, S, []⟩ :=
        ⟨hb7, Owns.kept hs6 gs (.inr hsb), Owns.kept (o6.mono (B' := 0) (Nat.zero_le _)) gs (.inr hvb), World.ownsRow_nil _ _ _ _, nodup3 hsb hvb (by simp [Value.ownBlock]) (fun k e e2 => by have := (hvo k e2).1; have := (hss k e).2; omega) (fun k _ e => by simp [Value.ownBlock] at e) (fun k _ e => by simp [Value.ownBlock] at e)⟩
      refine hnext.out _ _ ((k3.step g6 (by simp)).step gs (fun k e => by cases e; exact .inl (.inl rfl))) hf7 (fun k hk' => ?_) ⟨hS.out, rfl, rfl⟩ ?_
      · rcases FileV.mem hk' with e | e | e
        · exact (k4 k e).imp FileV.mem_s id
        · exact .inr (Nat.le_trans sz5 (hvo k e).1)
        · simp [Value.ownBlock] at e
      · rw [cnt_append, ← Nat.add_assoc]
        exact N.kept _ _ _ k2.out (fun k hk' => (gs.block k (by have := N.lt _ _ k2.out k hk'; have := g6.size; omega) (fun e => by
          cases e
          exact (hap3 b (hfin b (.inl rfl))).1 hk')).trans (g6.block k (N.lt _ _ k2.out k hk') (by simp)))
    case done =>
      rintro D Z xs Wd W15 hD hZD hZ0 hZl hS ⟨Foot, hJ, hFt⟩ g15 hM
      obtain rfl : xs = l'.sorted := hS
      obtain ⟨j1, j2, j3, j4, j5, G, j6, j7, j8, j9, j10⟩ := hJ
      rw [List.drop_length, show filesOf F [] = [] from rfl, List.append_nil] at j6 j7
      have nq : ¬ (some ab = some q ∨ q ∈ filesBlocks (filesOf F l'.sorted)) := fun e => by
        rcases e with e | e
        · simp at e; omega
        · exact (hfb q e).1 rfl
      have ns : ¬ (some ab = some s ∨ s ∈ filesBlocks (filesOf F l'.sorted)) := fun e => by
        rcases e with e | e
        · simp at e; omega
        · exact (hfb s e).2.1 rfl
      have hF15 := hF3.gp j10 nq
      have hD15 : DirM W15 s l' := hD3.zk (Z := fun k => k = s) ⟨j10.size, fun k h1 h2 => j10.block k h1 (by rw [h2]; exact ns)⟩ rfl
      have hmc := mapClone_any s l' W15 hD15
      have x9 := hF15.safe
      have hDl : D < W15.heap.size := (Array.getElem?_eq_some_iff.1 hM).1
      have hqD : q ≠ D := by omega
      have hsD : s ≠ D := by omega
      have s15 := j10.size
      have hjl := j6.lt
      have hGD : ∀ k ∈ filesBlocks (filesOf G l'.sorted), k ≠ D := fun k hk' e => (hFt k (j7 k hk')).1 (by rw [e]; exact hZD)
      have hGq : ∀ k ∈ filesBlocks (filesOf G l'.sorted), k ≠ q := fun k hk' => by
        obtain ⟨pp, hp, hk''⟩ := mem_filesBlocks.1 hk'
        obtain ⟨x, hx1, rfl⟩ := mem_filesOf.1 hp
        rcases hk'' with e | e
        · exact (hfb k (mem_filesBlocks.2 ⟨_, mem_filesOf.2 ⟨x, hx1, rfl⟩, .inl e⟩)).1
        · rcases j9 x hx1 k e with e2 | e2
          · exact (hfb k (mem_filesBlocks.2 ⟨_, mem_filesOf.2 ⟨x, hx1, rfl⟩, .inr e2⟩)).1
          · omega
      clear hF hM3 hF3 hD3 hb3 hN3 hok j1 j2 j3 j4 j5 hFt hZl hZ0 g15
      replace j6 := Lib.hid j6
      replace j7 := Lib.hid j7
      replace j8 := Lib.hid j8
      replace j9 := Lib.hid j9
      replace j10 := Lib.hid j10
      replace hD15 := Lib.hid hD15
      replace hM := Lib.hid hM
      gi_wp2_with first
        | (gi_at_call 89; refine (callsIn_wide.2 hmc).mono ?_; clear hmc; rintro e W16 ⟨rfl, m1, g16⟩; have hF16 := hF15.kept g16 (by simp); have c8 := hF16.dir; have f8 := hF16.free 8; have hF17 := hF16.setDir W15.heap.size; have c1 := hF17.isDead; have f1 := hF17.free 1; have hF18 := hF17.setDead true; replace hF16 := Lib.hid hF16; replace hF17 := Lib.hid hF17; replace hF18 := Lib.hid hF18; replace m1 := Lib.hid m1; replace g16 := Lib.hid g16)
      have g16 := g16.out
      have hF18 := hF18.out
      have g18 : W16.grownBy ((W16.setCell ⟨q, 8, none⟩ (.map (some W15.heap.size))).setCell ⟨q, 1, none⟩ (.bool true)) (some q) := gset (gset (World.grownBy.refl W16 (some q)) 8 _) 1 _
      generalize (W16.setCell ⟨q, 8, none⟩ (.map (some W15.heap.size))).setCell ⟨q, 1, none⟩ (.bool true) = W18 at hF18 g18 ⊢
      have s16 := g16.size
      have s18 := g18.size
      have hql15 : q < W15.heap.size := by omega
      have hM18 := (g18.block D (by omega) (by simp; omega)).trans ((g16.block D hDl (by simp)).trans hM.out)
      have gp := grownBy_putObj' W18 D (.deferred none)
      have r1 := hF18.kept gp (by simp; omega)
      have r2 := ((hD15.out.kept g16 (by simp)).kept g18 (by simp; omega)).kept gp (by simp; omega)
      have r3 := (m1.out.kept g18 (by simp; omega)).kept gp (by simp; omega)
      have r4 : FilesM (W18.putObj D (.deferred none)) (filesOf G l'.sorted) := ((j6.out.kept (GP.of (P := fun _ => False) g16 (by simp)) (fun _ _ h => h)).kept (GP.of (P := fun k => k = q) g18 (fun k e => by cases e; rfl)) hGq).kept (GP.of (P := fun k => k = D) gp (fun k e => by cases e; rfl)) hGD
      have r5 : GP (fun k => k = q ∨ k = s ∨ k ∈ filesBlocks (filesOf F l'.sorted)) w (W18.putObj D (.deferred none)) := ((((((GP.refl _ w).trans gw5 (fun k e => .inl (by rcases e with e | e; exact .inl e; exact .inr (.inl e)))).step g3 (by simp)).trans j10.out (fun k e => by
        rcases e with e | e
        · right; simp at e; omega
        · exact .inl (.inr (.inr e)))).step g16 (by simp)).step g18 (fun k e => by cases e; exact .inl (.inl rfl))).step gp (fun k e => by cases e; right; omega)
      have r6 : ∀ k ∈ filesBlocks (filesOf G l'.sorted), k ≠ W15.heap.size := fun k hk' => by have := hjl k hk'; omega
      have r7 : ∀ x ∈ l'.sorted, ∀ k ∈ (G x.2).blocks, k ∈ (F x.2).blocks ∨ w.heap.size ≤ k := fun x hx1 k hk' => (j9.out x hx1 k hk').imp id (fun h => by omega)
      have r8 := j8.out
      have r9 : w.heap.size ≤ W15.heap.size := by omega
      refine ⟨by simp, .inl ⟨_, _, rfl, run_takeDeferred hM18, ?_⟩⟩
      clear gp hM18 g18 hF18 j6 j7 j8 j9 j10
      generalize W18.putObj D (.deferred none) = W19 at r1 r2 r3 r4 r5 ⊢
      simp only [LeavesInM, LeavesIn]
      exact ⟨.tuple #[], results_none rfl _ _ _, rfl, _, G, r1, r2, r3, r9, r4, r8, r7, r6, r5⟩
end
end Go.Proofs.YtafcgjbafihniaaGreat
