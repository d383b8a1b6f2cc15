/-
  LAYER 1 (fs): a move made: laid down among the moves, and done to the directory.
-/
import Derived.Test.YtfgmaeaojkfakaaGreatFDone
import Derived.Test.YtfgmaeaojkfakaaGreatFNew
import Derived.Maps.AppendAt
namespace Go.Proofs.YtfgmaeaojkfakaaGreat
set_option maxRecDepth 100000
open Go.RowKit Go.Lib
attribute [local go_sem] Oper.semAt_some

def mvCells (l : List Mv) : List Value := l.flatMap (fun m => [.string m.src, .string m.dst, ptrV m.made])
theorem infoMv : (Tryz.prog.info? 110).map (fun i => (i.zero, i.size, i.bytes)) = some (some (.agg #[.string ⟨#[]⟩, .string ⟨#[]⟩, .pointer none]), 3, 40) := by kernel_rfl
theorem info_partsM : ∃ i0 : TypeInfo, Tryz.prog.info? 110 = some i0 ∧ i0.zero = some (.agg #[.string ⟨#[]⟩, .string ⟨#[]⟩, .pointer none]) ∧ i0.size = 3 ∧ i0.bytes = 40 := by
  have h := infoMv
  cases hi : Tryz.prog.info? 110 with
  | none => rw [hi] at h; cases h
  | some i =>
    rw [hi] at h
    simp only [Option.map_some, Option.some.injEq, Prod.mk.injEq] at h
    exact ⟨i, rfl, h.1, h.2.1, h.2.2⟩

/-- An append whose run is known, as one operation. -/
theorem wp_app_run {P : Program} {o : Oper} {a : Act} {w : World} {K : Act → World → Prop} {Q : Exit → Act → World → Prop} (sl x : Operand) (t : TypeId) (ho : o.op = .call { callee := .builtin .append, args := #[sl, x], argTypes := #[t, t] })
    (v xv : Value) (hs : a.eval sl = v) (hx : a.eval x = xv) {v' : Value} {w' : World} (hrun : (Builtin.append_ #[t, t] o.type #[v, xv]).run P w = .ok v' w') (h : K (a.put o.dst v') w') : Oper.wp P o a w K Q := by
  unfold Oper.wp execOp
  simp only [ho, resolve, invoke, builtin, Sem.run_bind, Sem.run_pure, Result.andThen_ok, List.map_toArray, List.map_cons, List.map_nil, hs, hx, hrun]
  exact h

section
variable {w : World} {q : Nat} {dead : Bool} {p : PlV} {ops : Int} {d s : Nat} {mv : Value}
theorem FsAt.setMoves (h : FsAt w q dead p ops d s mv) (v : Value) : FsAt (w.setCell ⟨q, 10, none⟩ v) q dead p ops d s v := heap_setCell_same w q 10 _ _ _ h
theorem FsAt.gp {w' : World} {P : Nat → Prop} (h : FsAt w q dead p ops d s mv) (hg : GP P w w') (hq : ¬ P q) : FsAt w' q dead p ops d s mv := (hg.block q h.lt hq).trans h

set_option maxHeartbeats 8000000 in
theorem move_any (m : Mv) (ml : List Mv) (l : DirL) (w : World) (h : FsAt w q dead p ops d s mv) (hd : DirM w d l) (hr : w.ownsRow 0 110 3 mv ml.length (mvCells ml)) (hm : m.may l) (hn : l.length < maxLen) (hn2 : ml.length < 3518437208882)
    (hdq : d ≠ q) (hmq : mv.ownBlock ≠ some q) (hmd : mv.ownBlock ≠ some d) :
    Calls Tryz.prog 67 #[.pointer (some ⟨q, 0, none⟩), m.v] w fun e w' => e = .returned (.tuple #[]) ∧ ∃ mv', FsAt w' q dead p ops d s mv' ∧ DirM w' d (m.done l) ∧ w'.ownsRow 0 110 3 mv' (ml.length + 1) (mvCells (ml ++ [m])) ∧ (mv'.ownBlock = mv.ownBlock ∨ ∃ k, mv'.ownBlock = some k ∧ w.heap.size ≤ k) ∧
      GP (fun k => k = q ∨ k = d ∨ mv.ownBlock = some k) w w' := by
  have hg0 := World.grownBy_alloc w (.cells #[.string m.src, .string m.dst, ptrV m.made] 110) none
  have hM : MvAt (w.alloc (.cells #[.string m.src, .string m.dst, ptrV m.made] 110)) w.heap.size m := World.alloc_heap_new w _
  obtain ⟨W, hW⟩ : ∃ W, W = w.alloc (.cells #[.string m.src, .string m.dst, ptrV m.made] 110) := ⟨_, rfl⟩
  have hWs : W.heap.size = w.heap.size + 1 := by rw [hW]; simp
  rw [← hW] at hg0 hM
  have h1 := h.kept hg0 (by simp)
  have hd1 := hd.kept hg0 (by simp)
  have hr1 := World.ownsRow.kept hr hg0 (by cases mv.ownBlock <;> simp)
  have hql := h.lt
  have hdl := hd.lt
  obtain ⟨i0, hi, hz0, hz1, hz2⟩ := info_partsM
  have hdone := fun W h => done_any m d l W h hm hn
  obtain ⟨pv, hpv⟩ : ∃ pv, pv = ptrV m.made := ⟨_, rfl⟩
  have hform : ∃ o, pv = .pointer o := by rw [hpv]; cases m.made <;> exact ⟨_, rfl⟩
  obtain ⟨po, rfl⟩ := hform
  unfold Mv.v at hdone ⊢
  rw [← hpv] at hdone hW ⊢
  replace hpv := Lib.hid hpv
  go_enter Tryz.func67, Tryz.ntmps67
  go_upto_region 1 with fail
  rw [← hW]
  clear hW
  have hS : ∀ w' row, W.grownBy w' row → row ≠ some w.heap.size → MvAt w' w.heap.size m ∧ w'.cell? ⟨w.heap.size, 0, none⟩ = some (.string m.src) ∧ w'.cell? ⟨w.heap.size, 1, none⟩ = some (.string m.dst) ∧ w'.cell? ⟨w.heap.size, 2, none⟩ = some (.pointer po) := fun w' row g hne => by
    have e := hM.kept g hne
    exact ⟨e, e.c0, e.c1, by rw [e.c2, hpv.out]⟩
  have hmvl : ∀ k, mv.ownBlock = some k → k < w.heap.size := fun k e => (World.ownsRow.lt hr k e).2
  -- the append, wherever it comes
  have hApp : ∀ X, W.grownBy X none → (X.cell? ⟨X.heap.size - 1, 0, none⟩ = some (.string m.src) ∧ X.cell? ⟨X.heap.size - 1, 1, none⟩ = some (.string m.dst) ∧ X.cell? ⟨X.heap.size - 1, 2, none⟩ = some (.pointer po)) → w.heap.size + 2 ≤ X.heap.size →
      ∃ v' w', (Builtin.append_ #[70, 70] 70 #[mv, .slice (some ⟨X.heap.size - 1, 0, none⟩) 1 1]).run Tryz.prog X = .ok v' w' ∧ w'.ownsRow 0 110 3 v' (ml.length + 1) (mvCells (ml ++ [m])) ∧ X.grownBy w' mv.ownBlock ∧ (v'.ownBlock = mv.ownBlock ∨ v'.ownBlock = some X.heap.size) ∧ ∃ a n c, v' = .slice a n c := by
    intro X gX ⟨c0, c1, c2⟩ hsz
    obtain ⟨v', w', hrun, h5, h6, _, h7⟩ := run_append_own_at (P := Tryz.prog) X 0 70 70 110 i0 (.agg #[.string ⟨#[]⟩, .string ⟨#[]⟩, .pointer none]) 3 40 Tryz.underlying70 hi hz0 hz1 hz2 rfl (by decide) mv ml.length (mvCells ml)
      (World.ownsRow.kept hr1 gX (by cases mv.ownBlock <;> simp)) ⟨X.heap.size - 1, 0, none⟩ 1 1 [.string m.src, .string m.dst, .pointer po] rfl (fun j u hj => by
        match j, hj with
        | 0, hj => simp at hj; subst hj; exact c0
        | 1, hj => simp at hj; subst hj; exact c1
        | 2, hj => simp at hj; subst hj; exact c2) (fun u hu => by simp at hu; rcases hu with rfl | rfl | rfl <;> rfl) (by unfold maxLen; omega) (by omega) (Nat.zero_le _)
    have e : mvCells (ml ++ [m]) = mvCells ml ++ [.string m.src, .string m.dst, .pointer po] := by unfold mvCells; rw [List.flatMap_append]; simp [hpv.out]
    refine ⟨v', w', hrun, by rw [e]; exact h5, h6, h7, ?_⟩
    obtain ⟨_, ⟨rfl, _⟩ | ⟨g, cap, cur, rfl, _⟩⟩ := h5
    · exact ⟨_, _, _, rfl⟩
    · exact ⟨_, _, _, rfl⟩
  refine wp_region_held_drew (S := fun w' => MvAt w' w.heap.size m ∧ w'.cell? ⟨w.heap.size, 0, none⟩ = some (.string m.src) ∧ w'.cell? ⟨w.heap.size, 1, none⟩ = some (.string m.dst) ∧ w'.cell? ⟨w.heap.size, 2, none⟩ = some (.pointer po)) (by kernel_rfl) (hS _ none (gdrew (World.grownBy.refl W none)) (by simp)) (fun hS0 => ?_)
  obtain ⟨V, hV⟩ : ∃ V, V = W.drew := ⟨_, rfl⟩
  have gV : W.grownBy V none := by rw [hV]; exact gdrew (World.grownBy.refl W none)
  rw [← hV] at hS0 ⊢
  clear hV
  have hVs := gV.size
  have h2 := h1.kept gV (by simp)
  have x10 := h2.moves
  have gX := galloc gV (.cells #[.string m.src, .string m.dst, .pointer po] 110)
  have hXs : (V.alloc (.cells #[.string m.src, .string m.dst, .pointer po] 110)).heap.size = V.heap.size + 1 := by simp
  have hXn := World.alloc_heap_new V (.cells #[.string m.src, .string m.dst, .pointer po] 110)
  have h3 := h1.kept gX (by simp)
  have x11 := h3.moves
  obtain ⟨v', w', hrun, o5, g5, l5, a', n', c', rfl⟩ := hApp _ gX (by
    rw [hXs, Nat.add_sub_cancel]
    unfold World.cell?
    dsimp only
    rw [hXn]
    exact ⟨rfl, rfl, rfl⟩) (by omega)
  rw [hXs, Nat.add_sub_cancel] at hrun
  rw [hXs] at l5
  have hmq' : mv.ownBlock ≠ some w.heap.size := fun e => by have := hmvl _ e; omega
  have gW5 : GP (fun k => mv.ownBlock = some k) W w' := (GP.of (P := fun k => mv.ownBlock = some k) gX (by simp)).step g5 (fun k e => .inl e)
  have hSw : MvAt w' w.heap.size m ∧ w'.cell? ⟨w.heap.size, 0, none⟩ = some (.string m.src) ∧ w'.cell? ⟨w.heap.size, 1, none⟩ = some (.string m.dst) ∧ w'.cell? ⟨w.heap.size, 2, none⟩ = some (.pointer po) := by
    have e : MvAt w' w.heap.size m := (gW5.block _ (lt_of_block hM) (fun e => hmq' e)).trans hM
    exact ⟨e, e.c0, e.c1, by rw [e.c2, hpv.out]⟩
  have h5 : FsAt w' q dead p ops d s mv := h1.gp gW5 (fun e => hmq e)
  have q10 := h5.free 10
  have y10 := h5.moves
  have gQ := gset (World.grownBy.refl w' (some q)) 10 (.slice a' n' c')
  have hSf : MvAt (w'.setCell ⟨q, 10, none⟩ (.slice a' n' c')) w.heap.size m ∧ (w'.setCell ⟨q, 10, none⟩ (.slice a' n' c')).cell? ⟨w.heap.size, 0, none⟩ = some (.string m.src) ∧ (w'.setCell ⟨q, 10, none⟩ (.slice a' n' c')).cell? ⟨w.heap.size, 1, none⟩ = some (.string m.dst) ∧ (w'.setCell ⟨q, 10, none⟩ (.slice a' n' c')).cell? ⟨w.heap.size, 2, none⟩ = some (.pointer po) := by
    have e : MvAt (w'.setCell ⟨q, 10, none⟩ (.slice a' n' c')) w.heap.size m := hSw.1.kept gQ (by simp; omega)
    exact ⟨e, e.c0, e.c1, by rw [e.c2, hpv.out]⟩
  obtain ⟨_, z0, z1, z2⟩ := hSf
  have hSf : MvAt (w'.setCell ⟨q, 10, none⟩ (.slice a' n' c')) w.heap.size m ∧ (w'.setCell ⟨q, 10, none⟩ (.slice a' n' c')).cell? ⟨w.heap.size, 0, none⟩ = some (.string m.src) ∧ (w'.setCell ⟨q, 10, none⟩ (.slice a' n' c')).cell? ⟨w.heap.size, 1, none⟩ = some (.string m.dst) ∧ (w'.setCell ⟨q, 10, none⟩ (.slice a' n' c')).cell? ⟨w.heap.size, 2, none⟩ = some (.pointer po) := ⟨by assumption, z0, z1, z2⟩
  have h6 : FsAt (w'.setCell ⟨q, 10, none⟩ (.slice a' n' c')) q dead p ops d s (.slice a' n' c') := h5.setMoves _
  have r8 := h6.dir
  have hd6 : DirM (w'.setCell ⟨q, 10, none⟩ (.slice a' n' c')) d l := ((hd1.kept gX (by simp)).kept g5 (fun e => hmd e.symm)).kept gQ (by simp; exact hdq)
  have hown : (Value.slice a' n' c').ownBlock = mv.ownBlock ∨ ∃ k, (Value.slice a' n' c').ownBlock = some k ∧ w.heap.size ≤ k := by
    rcases l5 with e | e
    · exact .inl e
    · exact .inr ⟨_, e, by omega⟩
  have hq6 : (Value.slice a' n' c').ownBlock ≠ some q := by
    rcases hown with e | ⟨k, e, hk⟩
    · rw [e]; exact hmq
    · rw [e]; intro e2; cases e2; omega
  have hd7 : (Value.slice a' n' c').ownBlock ≠ some d := by
    rcases hown with e | ⟨k, e, hk⟩
    · rw [e]; exact hmd
    · rw [e]; intro e2; cases e2; omega
  have hfin : ∀ w9, DirM w9 d (m.done l) → (w'.setCell ⟨q, 10, none⟩ (.slice a' n' c')).grownBy w9 (some d) → ∃ mv', FsAt w9 q dead p ops d s mv' ∧ DirM w9 d (m.done l) ∧ w9.ownsRow 0 110 3 mv' (ml.length + 1) (mvCells (ml ++ [m])) ∧ (mv'.ownBlock = mv.ownBlock ∨ ∃ k, mv'.ownBlock = some k ∧ w.heap.size ≤ k) ∧ GP (fun k => k = q ∨ k = d ∨ mv.ownBlock = some k) w w9 := fun w9 hd9 g9 =>
    ⟨_, h6.kept g9 (by simp; exact hdq), hd9, World.ownsRow.kept (World.ownsRow.kept o5 gQ (.inr hq6)) g9 (.inr hd7), hown,
      (((GP.of (P := fun k => k = q ∨ k = d ∨ mv.ownBlock = some k) hg0 (by simp)).trans gW5 (fun k e => .inl (.inr (.inr e)))).step gQ (fun k e => by cases e; exact .inl (.inl rfl))).step g9 (fun k e => by cases e; exact .inl (.inr (.inl rfl)))⟩
  replace hfin := Lib.hid hfin
  refine wpAnyH_take (i := 0) (oi := ⟨some 4, _, _, _, _, _⟩) (v := ?_) rfl (by kernel_rfl) (by kernel_rfl) (by kernel_rfl) (fun _ _ _ h => h) (Or.inl ⟨by rfl, ?_⟩) (by assumption) ?_
  rotate_left
  · (intro w hSw; (try dsimp only at hSw); go_simp; try with_reducible rfl)
  try simp only [Act.put, List.setIfInBounds_toArray, List.set_cons_zero, List.set_cons_succ]
  refine wpAnyH_take (i := 1) (oi := ⟨some 5, _, _, _, _, _⟩) (v := ?_) rfl (by kernel_rfl) (by kernel_rfl) (by kernel_rfl) (fun _ _ _ h => h) (Or.inl ⟨by rfl, ?_⟩) (by assumption) ?_
  rotate_left
  · (intro w hSw; (try dsimp only at hSw); go_simp; try with_reducible rfl)
  try simp only [Act.put, List.setIfInBounds_toArray, List.set_cons_zero, List.set_cons_succ]
  refine wpAnyH_take (i := 2) (oi := ⟨some 6, _, _, _, _, _⟩) (v := ?_) rfl (by kernel_rfl) (by kernel_rfl) (by kernel_rfl) (fun _ _ _ h => h) (Or.inl ⟨by rfl, ?_⟩) (by assumption) ?_
  rotate_left
  · (intro w hSw; (try dsimp only at hSw); go_simp; try with_reducible rfl)
  try simp only [Act.put, List.setIfInBounds_toArray, List.set_cons_zero, List.set_cons_succ]
  refine wpAnyH_take (i := 3) (oi := ⟨some 7, _, _, _, _, _⟩) (v := ?_) rfl (by kernel_rfl) (by kernel_rfl) (by kernel_rfl) (fun _ _ _ h => h) (Or.inl ⟨by rfl, ?_⟩) (by assumption) ?_
  rotate_left
  · (intro w hSw; (try dsimp only at hSw); go_simp; try with_reducible rfl)
  try simp only [Act.put, List.setIfInBounds_toArray, List.set_cons_zero, List.set_cons_succ]
  refine wpAnyH_take (i := 5) (oi := ⟨some 9, _, _, _, _, _⟩) (v := ?_) rfl (by kernel_rfl) (by kernel_rfl) (by kernel_rfl) (fun _ _ _ h => h) (Or.inl ⟨by rfl, ?_⟩) (by assumption) ?_
  rotate_left
  · (intro w hSw; (try dsimp only at hSw); go_simp; try with_reducible rfl)
  try simp only [Act.put, List.setIfInBounds_toArray, List.set_cons_zero, List.set_cons_succ]
  refine wpAnyH_ready (rs := [4, 6]) (by kernel_rfl) (by simp) ?_
  refine AllReadyH.cons rfl (fun K hK => ?_) (AllReadyH.cons rfl (fun K hK => ?_) AllReadyH.nil)
  · go_simp
    refine hK.out _ _ hS0 (fun _ => ?_)
    clear hK
    refine wpAnyH_ready (rs := [6]) (by kernel_rfl) (by simp) ?_
    refine AllReadyH.cons rfl (fun K hK => ?_) AllReadyH.nil
    go_simp
    refine hK.out _ _ (hS _ none gX (by simp)) (fun _ => ?_)
    clear hK
    refine wpAnyH_ready (rs := [7]) (by kernel_rfl) (by simp) ?_
    refine AllReadyH.cons rfl (fun K hK => ?_) AllReadyH.nil
    rw [if_pos (by rfl)]
    refine wp_app_run _ _ _ rfl mv _ rfl rfl hrun ?_
    refine hK.out _ _ hSw (fun _ => ?_)
    clear hK
    refine wpAnyH_take (i := 8) (oi := ⟨some 12, _, _, _, _, _⟩) (v := ?_) rfl (by kernel_rfl) (by kernel_rfl) (by kernel_rfl) (fun _ _ _ h => h) (Or.inl ⟨by rfl, ?_⟩) (by assumption) ?_
    rotate_left
    · (intro w hSw; (try dsimp only at hSw); go_simp; try with_reducible rfl)
    try simp only [Act.put, List.setIfInBounds_toArray, List.set_cons_zero, List.set_cons_succ]
    refine wpAnyH_take (i := 9) (oi := ⟨some 13, _, _, _, _, _⟩) (v := ?_) rfl (by kernel_rfl) (by kernel_rfl) (by kernel_rfl) (fun _ _ _ h => h) (Or.inl ⟨by rfl, ?_⟩) (by assumption) ?_
    rotate_left
    · (intro w hSw; (try dsimp only at hSw); go_simp; try with_reducible rfl)
    try simp only [Act.put, List.setIfInBounds_toArray, List.set_cons_zero, List.set_cons_succ]
    refine wpAnyH_ready (rs := [10]) (by kernel_rfl) (by simp) ?_
    refine AllReadyH.cons rfl (fun K hK => ?_) AllReadyH.nil
    go_simp
    refine hK.out _ _ hSf (fun _ => ?_)
    clear hK
    refine wpAnyH_done (by kernel_rfl) ?_ _
    go_wp2_with fail
    have gD := gdrew (World.grownBy.refl (w'.setCell ⟨q, 10, none⟩ (.slice a' n' c')) none)
    have z0 := gD.cell z0 (by simp)
    have z1 := gD.cell z1 (by simp)
    have z2 := gD.cell z2 (by simp)
    have r8 := (h6.kept gD (by simp)).dir
    have hd8 := hd6.kept gD (by simp)
    refine wp_region_held_drew (S := fun w' => w'.cell? ⟨w.heap.size, 0, none⟩ = some (.string m.src) ∧ w'.cell? ⟨w.heap.size, 1, none⟩ = some (.string m.dst) ∧ w'.cell? ⟨w.heap.size, 2, none⟩ = some (.pointer po) ∧ w'.cell? ⟨q, 8, none⟩ = some (.map (some d))) (by kernel_rfl) ⟨z0, z1, z2, r8⟩ (fun hS9 => ?_)
    refine wpAnyH_take (i := 0) (oi := ⟨some 14, _, _, _, _, _⟩) (v := ?_) rfl (by kernel_rfl) (by kernel_rfl) (by kernel_rfl) (fun _ _ _ h => h) (Or.inl ⟨by rfl, ?_⟩) (by assumption) ?_
    rotate_left
    · (intro w hSw; (try dsimp only at hSw); go_simp; try with_reducible rfl)
    try simp only [Act.put, List.setIfInBounds_toArray, List.set_cons_zero, List.set_cons_succ]
    refine wpAnyH_take (i := 1) (oi := ⟨some 15, _, _, _, _, _⟩) (v := ?_) rfl (by kernel_rfl) (by kernel_rfl) (by kernel_rfl) (fun _ _ _ h => h) (Or.inl ⟨by rfl, ?_⟩) (by assumption) ?_
    rotate_left
    · (intro w hSw; (try dsimp only at hSw); go_simp; try with_reducible rfl)
    try simp only [Act.put, List.setIfInBounds_toArray, List.set_cons_zero, List.set_cons_succ]
    refine wpAnyH_take (i := 2) (oi := ⟨some 16, _, _, _, _, _⟩) (v := ?_) rfl (by kernel_rfl) (by kernel_rfl) (by kernel_rfl) (fun _ _ _ h => h) (Or.inl ⟨by rfl, ?_⟩) (by assumption) ?_
    rotate_left
    · (intro w hSw; (try dsimp only at hSw); go_simp; try with_reducible rfl)
    try simp only [Act.put, List.setIfInBounds_toArray, List.set_cons_zero, List.set_cons_succ]
    refine wpAnyH_take (i := 3) (oi := ⟨some 17, _, _, _, _, _⟩) (v := ?_) rfl (by kernel_rfl) (by kernel_rfl) (by kernel_rfl) (fun _ _ _ h => h) (Or.inl ⟨by rfl, ?_⟩) (by assumption) ?_
    rotate_left
    · (intro w hSw; (try dsimp only at hSw); go_simp; try with_reducible rfl)
    try simp only [Act.put, List.setIfInBounds_toArray, List.set_cons_zero, List.set_cons_succ]
    refine wpAnyH_take (i := 4) (oi := ⟨some 18, _, _, _, _, _⟩) (v := ?_) rfl (by kernel_rfl) (by kernel_rfl) (by kernel_rfl) (fun _ _ _ h => h) (Or.inl ⟨by rfl, ?_⟩) (by assumption) ?_
    rotate_left
    · (intro w hSw; (try dsimp only at hSw); go_simp; try with_reducible rfl)
    try simp only [Act.put, List.setIfInBounds_toArray, List.set_cons_zero, List.set_cons_succ]
    refine wpAnyH_ready (rs := [5]) (by kernel_rfl) (by simp) ?_
    refine AllReadyH.cons rfl (fun K hK => ?_) AllReadyH.nil
    go_simp
    refine (hdone _ hd8).mono ?_
    rintro e w9 ⟨rfl, hd9, g9⟩
    refine hK.out _ _ ⟨g9.cell z0 (by simp; omega), g9.cell z1 (by simp; omega), g9.cell z2 (by simp; omega), g9.cell r8 (by simp; omega)⟩ (fun _ => ?_)
    clear hK
    refine wpAnyH_done (by kernel_rfl) ?_ _
    go_wp2
    go_end0
    exact ⟨rfl, hfin.out w9 hd9 ((gdrew (World.grownBy.refl _ (some d))).trans g9)⟩
  · go_simp
    refine hK.out _ _ (hS _ none gX (by simp)) (fun _ => ?_)
    clear hK
    refine wpAnyH_ready (rs := [4]) (by kernel_rfl) (by simp) ?_
    refine AllReadyH.cons rfl (fun K hK => ?_) AllReadyH.nil
    go_simp
    refine hK.out _ _ (hS _ none gX (by simp)) (fun _ => ?_)
    clear hK
    refine wpAnyH_ready (rs := [7]) (by kernel_rfl) (by simp) ?_
    refine AllReadyH.cons rfl (fun K hK => ?_) AllReadyH.nil
    rw [if_pos (by rfl)]
    refine wp_app_run _ _ _ rfl mv _ rfl rfl hrun ?_
    refine hK.out _ _ hSw (fun _ => ?_)
    clear hK
    refine wpAnyH_take (i := 8) (oi := ⟨some 12, _, _, _, _, _⟩) (v := ?_) rfl (by kernel_rfl) (by kernel_rfl) (by kernel_rfl) (fun _ _ _ h => h) (Or.inl ⟨by rfl, ?_⟩) (by assumption) ?_
    rotate_left
    · (intro w hSw; (try dsimp only at hSw); go_simp; try with_reducible rfl)
    try simp only [Act.put, List.setIfInBounds_toArray, List.set_cons_zero, List.set_cons_succ]
    refine wpAnyH_take (i := 9) (oi := ⟨some 13, _, _, _, _, _⟩) (v := ?_) rfl (by kernel_rfl) (by kernel_rfl) (by kernel_rfl) (fun _ _ _ h => h) (Or.inl ⟨by rfl, ?_⟩) (by assumption) ?_
    rotate_left
    · (intro w hSw; (try dsimp only at hSw); go_simp; try with_reducible rfl)
    try simp only [Act.put, List.setIfInBounds_toArray, List.set_cons_zero, List.set_cons_succ]
    refine wpAnyH_ready (rs := [10]) (by kernel_rfl) (by simp) ?_
    refine AllReadyH.cons rfl (fun K hK => ?_) AllReadyH.nil
    go_simp
    refine hK.out _ _ hSf (fun _ => ?_)
    clear hK
    refine wpAnyH_done (by kernel_rfl) ?_ _
    go_wp2_with fail
    have gD := gdrew (World.grownBy.refl (w'.setCell ⟨q, 10, none⟩ (.slice a' n' c')) none)
    have z0 := gD.cell z0 (by simp)
    have z1 := gD.cell z1 (by simp)
    have z2 := gD.cell z2 (by simp)
    have r8 := (h6.kept gD (by simp)).dir
    have hd8 := hd6.kept gD (by simp)
    refine wp_region_held_drew (S := fun w' => w'.cell? ⟨w.heap.size, 0, none⟩ = some (.string m.src) ∧ w'.cell? ⟨w.heap.size, 1, none⟩ = some (.string m.dst) ∧ w'.cell? ⟨w.heap.size, 2, none⟩ = some (.pointer po) ∧ w'.cell? ⟨q, 8, none⟩ = some (.map (some d))) (by kernel_rfl) ⟨z0, z1, z2, r8⟩ (fun hS9 => ?_)
    refine wpAnyH_take (i := 0) (oi := ⟨some 14, _, _, _, _, _⟩) (v := ?_) rfl (by kernel_rfl) (by kernel_rfl) (by kernel_rfl) (fun _ _ _ h => h) (Or.inl ⟨by rfl, ?_⟩) (by assumption) ?_
    rotate_left
    · (intro w hSw; (try dsimp only at hSw); go_simp; try with_reducible rfl)
    try simp only [Act.put, List.setIfInBounds_toArray, List.set_cons_zero, List.set_cons_succ]
    refine wpAnyH_take (i := 1) (oi := ⟨some 15, _, _, _, _, _⟩) (v := ?_) rfl (by kernel_rfl) (by kernel_rfl) (by kernel_rfl) (fun _ _ _ h => h) (Or.inl ⟨by rfl, ?_⟩) (by assumption) ?_
    rotate_left
    · (intro w hSw; (try dsimp only at hSw); go_simp; try with_reducible rfl)
    try simp only [Act.put, List.setIfInBounds_toArray, List.set_cons_zero, List.set_cons_succ]
    refine wpAnyH_take (i := 2) (oi := ⟨some 16, _, _, _, _, _⟩) (v := ?_) rfl (by kernel_rfl) (by kernel_rfl) (by kernel_rfl) (fun _ _ _ h => h) (Or.inl ⟨by rfl, ?_⟩) (by assumption) ?_
    rotate_left
    · (intro w hSw; (try dsimp only at hSw); go_simp; try with_reducible rfl)
    try simp only [Act.put, List.setIfInBounds_toArray, List.set_cons_zero, List.set_cons_succ]
    refine wpAnyH_take (i := 3) (oi := ⟨some 17, _, _, _, _, _⟩) (v := ?_) rfl (by kernel_rfl) (by kernel_rfl) (by kernel_rfl) (fun _ _ _ h => h) (Or.inl ⟨by rfl, ?_⟩) (by assumption) ?_
    rotate_left
    · (intro w hSw; (try dsimp only at hSw); go_simp; try with_reducible rfl)
    try simp only [Act.put, List.setIfInBounds_toArray, List.set_cons_zero, List.set_cons_succ]
    refine wpAnyH_take (i := 4) (oi := ⟨some 18, _, _, _, _, _⟩) (v := ?_) rfl (by kernel_rfl) (by kernel_rfl) (by kernel_rfl) (fun _ _ _ h => h) (Or.inl ⟨by rfl, ?_⟩) (by assumption) ?_
    rotate_left
    · (intro w hSw; (try dsimp only at hSw); go_simp; try with_reducible rfl)
    try simp only [Act.put, List.setIfInBounds_toArray, List.set_cons_zero, List.set_cons_succ]
    refine wpAnyH_ready (rs := [5]) (by kernel_rfl) (by simp) ?_
    refine AllReadyH.cons rfl (fun K hK => ?_) AllReadyH.nil
    go_simp
    refine (hdone _ hd8).mono ?_
    rintro e w9 ⟨rfl, hd9, g9⟩
    refine hK.out _ _ ⟨g9.cell z0 (by simp; omega), g9.cell z1 (by simp; omega), g9.cell z2 (by simp; omega), g9.cell r8 (by simp; omega)⟩ (fun _ => ?_)
    clear hK
    refine wpAnyH_done (by kernel_rfl) ?_ _
    go_wp2
    go_end0
    exact ⟨rfl, hfin.out w9 hd9 ((gdrew (World.grownBy.refl _ (some d))).trans g9)⟩
end
end Go.Proofs.YtfgmaeaojkfakaaGreat
