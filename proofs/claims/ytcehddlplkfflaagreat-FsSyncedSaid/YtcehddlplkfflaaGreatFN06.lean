/-
  LAYER 1 (fs): the reference's Twin and without.
-/
import Derived.Test.YtcehddlplkfflaaGreatFN04
import Derived.Test.YtcehddlplkfflaaGreatFN05
import Derived.Maps.AppendAt
namespace Go.Proofs.YtcehddlplkfflaaGreat
set_option maxRecDepth 100000
open Go.RowKit Go.Lib
open Go.Proofs (encStr)
attribute [local go_sem] Oper.semAt_some

set_option maxHeartbeats 4000000 in
theorem twin_any (v : Value) (bs : List UInt8) (w : World) (hr : Reads w v bs) (hl : bs.length ≤ 140737488355328) :
    Calls Tryz.prog 77 #[v] w fun e w' => ∃ v', e = .returned v' ∧ Owns w' w.heap.size 5 v' bs ∧ w.grownBy w' none := by
  obtain ⟨i0, hi, hz0, hz1, hz2⟩ := info_parts infoU8
  go_enter Tryz.func77, Tryz.ntmps77
  go_wp2_with (at_builtin; refine wpList_append_bytes _ rfl _ _ 32 rfl w.heap.size 5 i0 Tryz.underlying32 hi hz0 hz1 hz2 (.slice none 0 0) [] rfl (World.ownsRow_nil _ _ _ 1) v bs rfl hr (by simp; omega) (Nat.le_refl _) ?_; intro v' w' ho hg; rw [List.nil_append] at ho; replace hg : w.grownBy w' none := hg)
  go_ret
  exact ⟨v', rfl, ho, hg⟩
end Go.Proofs.YtcehddlplkfflaaGreat

/-
  LAYER 1 (fs): a move done to a directory.
-/
namespace Go.Proofs.YtcehddlplkfflaaGreat
set_option maxRecDepth 100000
open Go.RowKit Go.Lib
attribute [local go_sem] Oper.semAt_some

/-- A move: from, to, the file that was made. -/
structure Mv where
  src : ByteArray
  dst : ByteArray
  made : Option Nat
def Mv.v (m : Mv) : Value := .agg #[.string m.src, .string m.dst, ptrV m.made]
/-- Done to a directory. -/
def Mv.done (m : Mv) (l : DirL) : DirL :=
  match m.made with
  | some b => l.put m.dst.data.toList b
  | none => match l.look m.src.data.toList with
    | some b => if m.dst.size = 0 then l.drop m.src.data.toList else (l.drop m.src.data.toList).put m.dst.data.toList b
    | none => l
/-- Which moves may be done to a directory: one that makes, with a name; one whose file is there. -/
def Mv.may (m : Mv) (l : DirL) : Prop := m.src.size ≤ maxLen ∧ m.dst.size ≤ maxLen ∧ (match m.made with | some _ => m.dst.size ≠ 0 | none => (l.look m.src.data.toList).isSome = true)

def MvAt (w : World) (q : Nat) (m : Mv) : Prop := w.heap[q]? = some (.cells #[.string m.src, .string m.dst, ptrV m.made] 108 (0, 0))
theorem MvAt.c0 {w : World} {q : Nat} {m : Mv} (h : MvAt w q m) : w.cell? ⟨q, 0, none⟩ = some (.string m.src) := by simp [World.cell?, show _ = _ from h]
theorem MvAt.c1 {w : World} {q : Nat} {m : Mv} (h : MvAt w q m) : w.cell? ⟨q, 1, none⟩ = some (.string m.dst) := by simp [World.cell?, show _ = _ from h]
theorem MvAt.c2 {w : World} {q : Nat} {m : Mv} (h : MvAt w q m) : w.cell? ⟨q, 2, none⟩ = some (ptrV m.made) := by simp [World.cell?, show _ = _ from h]
theorem MvAt.kept {w w' : World} {q : Nat} {m : Mv} {row : Option Nat} (h : MvAt w q m) (hg : w.grownBy w' row) (hne : row ≠ some q) : MvAt w' q m := (hg.block q (lt_of_block h) (fun e => hne e.symm)).trans h

theorem str_empty (s : ByteArray) : s.toList.isEmpty = decide (s.size = 0) := by
  have hl : s.toList.length = s.size := by rw [ByteArray.toList_eq]; simp
  rw [← hl]
  cases s.toList <;> simp

set_option maxHeartbeats 4000000 in
theorem done_any (m : Mv) (d : Nat) (l : DirL) (w : World) (h : DirM w d l) (hm : m.may l) (hn : l.length < maxLen) :
    Calls Tryz.prog 85 #[m.v, .map (some d)] w fun e w' => e = .returned (.tuple #[]) ∧ DirM w' d (m.done l) ∧ w.grownBy w' (some d) := by
  obtain ⟨a, b, mk⟩ := m
  have hg0 := World.grownBy_alloc w (.cells #[.string a, .string b, ptrV mk] 108) none
  have hM : MvAt (w.alloc (.cells #[.string a, .string b, ptrV mk] 108)) w.heap.size ⟨a, b, mk⟩ := World.alloc_heap_new w _
  have hd0 := h.kept hg0 (by simp)
  obtain ⟨ha, hb, hc⟩ := hm
  dsimp only at ha hb hc
  unfold Mv.v
  dsimp only
  cases mk with
  | some x =>
    dsimp only at hc
    unfold ptrV at *
    have hbe : b.toList.isEmpty = false := by rw [str_empty]; simpa using hc
    obtain ⟨w', hrun, h2, h3, h4⟩ := hd0.store b hb x hn
    go_enter Tryz.func85, Tryz.ntmps85
    go_wp2
    go_end0
    exact ⟨rfl, h2, World.grownBy.trans ⟨hg0.os, hg0.tape, hg0.output, hg0.size, fun i hi _ => hg0.block i hi (by simp)⟩ h3⟩
  | none =>
    dsimp only at hc
    obtain ⟨x, hx⟩ := Option.isSome_iff_exists.1 hc
    have hlk := hd0.lookup a ha
    rw [hx] at hlk
    unfold ptrV at *
    obtain ⟨w1, hdel, h2, h3, h4⟩ := hd0.remove a ha 0
    have hM1 := hM.kept h3 (by simp; have := h.lt; omega)
    have c1 := hM1.c1
    have g1 : w.grownBy w1 (some d) := World.grownBy.trans ⟨hg0.os, hg0.tape, hg0.output, hg0.size, fun i hi _ => hg0.block i hi (by simp)⟩ h3
    by_cases hb0 : b.size = 0
    · have hbe : b.toList.isEmpty = true := by rw [str_empty]; simpa using hb0
      go_enter Tryz.func85, Tryz.ntmps85
      go_wp2
      go_end0
      refine ⟨rfl, ?_, g1⟩
      unfold Mv.done
      simp only [hx, hb0, if_true]
      exact h2
    · have hbe : b.toList.isEmpty = false := by rw [str_empty]; simpa using hb0
      have hln : (l.drop a.data.toList).length < maxLen := Nat.lt_of_le_of_lt (by unfold DirL.drop; exact List.length_filter_le _ _) hn
      obtain ⟨w', hrun, h5, h6, h7⟩ := h2.store b hb x hln
      go_enter Tryz.func85, Tryz.ntmps85
      go_wp2
      go_end0
      refine ⟨rfl, ?_, g1.trans h6⟩
      unfold Mv.done
      simp only [hx, hb0, if_false]
      exact h5
end Go.Proofs.YtcehddlplkfflaaGreat

/-
  LAYER 1 (fs): a move made: laid down among the moves, and done to the directory.
-/
namespace Go.Proofs.YtcehddlplkfflaaGreat
set_option maxRecDepth 100000
open Go.RowKit Go.Lib
attribute [local go_sem] Oper.semAt_some

def mvCells (l : List Mv) : List Value := l.flatMap (fun m => [.string m.src, .string m.dst, ptrV m.made])
theorem infoMv : (Tryz.prog.info? 108).map (fun i => (i.zero, i.size, i.bytes)) = some (some (.agg #[.string ⟨#[]⟩, .string ⟨#[]⟩, .pointer none]), 3, 40) := by kernel_rfl
theorem info_partsM : ∃ i0 : TypeInfo, Tryz.prog.info? 108 = some i0 ∧ i0.zero = some (.agg #[.string ⟨#[]⟩, .string ⟨#[]⟩, .pointer none]) ∧ i0.size = 3 ∧ i0.bytes = 40 := by
  have h := infoMv
  cases hi : Tryz.prog.info? 108 with
  | none => rw [hi] at h; cases h
  | some i =>
    rw [hi] at h
    simp only [Option.map_some, Option.some.injEq, Prod.mk.injEq] at h
    exact ⟨i, rfl, h.1, h.2.1, h.2.2⟩

/-- An append whose run is known, as one operation. -/
theorem wp_app_run {P : Program} {o : Oper} {a : Act} {w : World} {K : Act → World → Prop} {Q : Exit → Act → World → Prop} (sl x : Operand) (t : TypeId) (ho : o.op = .call { callee := .builtin .append, args := #[sl, x], argTypes := #[t, t] })
    (v xv : Value) (hs : a.eval sl = v) (hx : a.eval x = xv) {v' : Value} {w' : World} (hrun : (Builtin.append_ #[t, t] o.type #[v, xv]).run P w = .ok v' w') (h : K (a.put o.dst v') w') : Oper.wp P o a w K Q := by
  unfold Oper.wp execOp
  simp only [ho, resolve, invoke, builtin, Sem.run_bind, Sem.run_pure, Result.andThen_ok, List.map_toArray, List.map_cons, List.map_nil, hs, hx, hrun]
  exact h

section
variable {w : World} {q : Nat} {dead : Bool} {p : PlV} {ops : Int} {d s : Nat} {mv : Value}
theorem FsAt.setMoves (h : FsAt w q dead p ops d s mv) (v : Value) : FsAt (w.setCell ⟨q, 10, none⟩ v) q dead p ops d s v := heap_setCell_same w q 10 _ _ _ h
theorem FsAt.gp {w' : World} {P : Nat → Prop} (h : FsAt w q dead p ops d s mv) (hg : GP P w w') (hq : ¬ P q) : FsAt w' q dead p ops d s mv := (hg.block q h.lt hq).trans h

set_option maxHeartbeats 8000000 in
theorem move_any (m : Mv) (ml : List Mv) (l : DirL) (w : World) (h : FsAt w q dead p ops d s mv) (hd : DirM w d l) (hr : w.ownsRow 0 108 3 mv ml.length (mvCells ml)) (hm : m.may l) (hn : l.length < maxLen) (hn2 : ml.length < 3518437208882)
    (hdq : d ≠ q) (hmq : mv.ownBlock ≠ some q) (hmd : mv.ownBlock ≠ some d) :
    Calls Tryz.prog 66 #[.pointer (some ⟨q, 0, none⟩), m.v] w fun e w' => e = .returned (.tuple #[]) ∧ ∃ mv', FsAt w' q dead p ops d s mv' ∧ DirM w' d (m.done l) ∧ w'.ownsRow 0 108 3 mv' (ml.length + 1) (mvCells (ml ++ [m])) ∧ (mv'.ownBlock = mv.ownBlock ∨ ∃ k, mv'.ownBlock = some k ∧ w.heap.size ≤ k) ∧
      GP (fun k => k = q ∨ k = d ∨ mv.ownBlock = some k) w w' := by
  have hg0 := World.grownBy_alloc w (.cells #[.string m.src, .string m.dst, ptrV m.made] 108) none
  have hM : MvAt (w.alloc (.cells #[.string m.src, .string m.dst, ptrV m.made] 108)) w.heap.size m := World.alloc_heap_new w _
  obtain ⟨W, hW⟩ : ∃ W, W = w.alloc (.cells #[.string m.src, .string m.dst, ptrV m.made] 108) := ⟨_, rfl⟩
  have hWs : W.heap.size = w.heap.size + 1 := by rw [hW]; simp
  rw [← hW] at hg0 hM
  have h1 := h.kept hg0 (by simp)
  have hd1 := hd.kept hg0 (by simp)
  have hr1 := World.ownsRow.kept hr hg0 (by cases mv.ownBlock <;> simp)
  have hql := h.lt
  have hdl := hd.lt
  obtain ⟨i0, hi, hz0, hz1, hz2⟩ := info_partsM
  have hdone := fun W h => done_any m d l W h hm hn
  obtain ⟨pv, hpv⟩ : ∃ pv, pv = ptrV m.made := ⟨_, rfl⟩
  have hform : ∃ o, pv = .pointer o := by rw [hpv]; cases m.made <;> exact ⟨_, rfl⟩
  obtain ⟨po, rfl⟩ := hform
  unfold Mv.v at hdone ⊢
  rw [← hpv] at hdone hW ⊢
  replace hpv := Lib.hid hpv
  go_enter Tryz.func66, Tryz.ntmps66
  go_upto_region 1 with fail
  rw [← hW]
  clear hW
  have hS : ∀ w' row, W.grownBy w' row → row ≠ some w.heap.size → MvAt w' w.heap.size m ∧ w'.cell? ⟨w.heap.size, 0, none⟩ = some (.string m.src) ∧ w'.cell? ⟨w.heap.size, 1, none⟩ = some (.string m.dst) ∧ w'.cell? ⟨w.heap.size, 2, none⟩ = some (.pointer po) := fun w' row g hne => by
    have e := hM.kept g hne
    exact ⟨e, e.c0, e.c1, by rw [e.c2, hpv.out]⟩
  have hmvl : ∀ k, mv.ownBlock = some k → k < w.heap.size := fun k e => (World.ownsRow.lt hr k e).2
  -- the append, wherever it comes
  have hApp : ∀ X, W.grownBy X none → (X.cell? ⟨X.heap.size - 1, 0, none⟩ = some (.string m.src) ∧ X.cell? ⟨X.heap.size - 1, 1, none⟩ = some (.string m.dst) ∧ X.cell? ⟨X.heap.size - 1, 2, none⟩ = some (.pointer po)) → w.heap.size + 2 ≤ X.heap.size →
      ∃ v' w', (Builtin.append_ #[73, 73] 73 #[mv, .slice (some ⟨X.heap.size - 1, 0, none⟩) 1 1]).run Tryz.prog X = .ok v' w' ∧ w'.ownsRow 0 108 3 v' (ml.length + 1) (mvCells (ml ++ [m])) ∧ X.grownBy w' mv.ownBlock ∧ (v'.ownBlock = mv.ownBlock ∨ v'.ownBlock = some X.heap.size) ∧ ∃ a n c, v' = .slice a n c := by
    intro X gX ⟨c0, c1, c2⟩ hsz
    obtain ⟨v', w', hrun, h5, h6, _, h7⟩ := run_append_own_at (P := Tryz.prog) X 0 73 73 108 i0 (.agg #[.string ⟨#[]⟩, .string ⟨#[]⟩, .pointer none]) 3 40 Tryz.underlying73 hi hz0 hz1 hz2 rfl (by decide) mv ml.length (mvCells ml)
      (World.ownsRow.kept hr1 gX (by cases mv.ownBlock <;> simp)) ⟨X.heap.size - 1, 0, none⟩ 1 1 [.string m.src, .string m.dst, .pointer po] rfl (fun j u hj => by
        match j, hj with
        | 0, hj => simp at hj; subst hj; exact c0
        | 1, hj => simp at hj; subst hj; exact c1
        | 2, hj => simp at hj; subst hj; exact c2) (fun u hu => by simp at hu; rcases hu with rfl | rfl | rfl <;> rfl) (by unfold maxLen; omega) (by omega) (Nat.zero_le _)
    have e : mvCells (ml ++ [m]) = mvCells ml ++ [.string m.src, .string m.dst, .pointer po] := by unfold mvCells; rw [List.flatMap_append]; simp [hpv.out]
    refine ⟨v', w', hrun, by rw [e]; exact h5, h6, h7, ?_⟩
    obtain ⟨_, ⟨rfl, _⟩ | ⟨g, cap, cur, rfl, _⟩⟩ := h5
    · exact ⟨_, _, _, rfl⟩
    · exact ⟨_, _, _, rfl⟩
  refine wp_region_held_drew (S := fun w' => MvAt w' w.heap.size m ∧ w'.cell? ⟨w.heap.size, 0, none⟩ = some (.string m.src) ∧ w'.cell? ⟨w.heap.size, 1, none⟩ = some (.string m.dst) ∧ w'.cell? ⟨w.heap.size, 2, none⟩ = some (.pointer po)) (by kernel_rfl) (hS _ none (gdrew (World.grownBy.refl W none)) (by simp)) (fun hS0 => ?_)
  obtain ⟨V, hV⟩ : ∃ V, V = W.drew := ⟨_, rfl⟩
  have gV : W.grownBy V none := by rw [hV]; exact gdrew (World.grownBy.refl W none)
  rw [← hV] at hS0 ⊢
  clear hV
  have hVs := gV.size
  have h2 := h1.kept gV (by simp)
  have x10 := h2.moves
  have gX := galloc gV (.cells #[.string m.src, .string m.dst, .pointer po] 108)
  have hXs : (V.alloc (.cells #[.string m.src, .string m.dst, .pointer po] 108)).heap.size = V.heap.size + 1 := by simp
  have hXn := World.alloc_heap_new V (.cells #[.string m.src, .string m.dst, .pointer po] 108)
  have h3 := h1.kept gX (by simp)
  have x11 := h3.moves
  obtain ⟨v', w', hrun, o5, g5, l5, a', n', c', rfl⟩ := hApp _ gX (by
    rw [hXs, Nat.add_sub_cancel]
    unfold World.cell?
    dsimp only
    rw [hXn]
    exact ⟨rfl, rfl, rfl⟩) (by omega)
  rw [hXs, Nat.add_sub_cancel] at hrun
  rw [hXs] at l5
  have hmq' : mv.ownBlock ≠ some w.heap.size := fun e => by have := hmvl _ e; omega
  have gW5 : GP (fun k => mv.ownBlock = some k) W w' := (GP.of (P := fun k => mv.ownBlock = some k) gX (by simp)).step g5 (fun k e => .inl e)
  have hSw : MvAt w' w.heap.size m ∧ w'.cell? ⟨w.heap.size, 0, none⟩ = some (.string m.src) ∧ w'.cell? ⟨w.heap.size, 1, none⟩ = some (.string m.dst) ∧ w'.cell? ⟨w.heap.size, 2, none⟩ = some (.pointer po) := by
    have e : MvAt w' w.heap.size m := (gW5.block _ (lt_of_block hM) (fun e => hmq' e)).trans hM
    exact ⟨e, e.c0, e.c1, by rw [e.c2, hpv.out]⟩
  have h5 : FsAt w' q dead p ops d s mv := h1.gp gW5 (fun e => hmq e)
  have q10 := h5.free 10
  have y10 := h5.moves
  have gQ := gset (World.grownBy.refl w' (some q)) 10 (.slice a' n' c')
  have hSf : MvAt (w'.setCell ⟨q, 10, none⟩ (.slice a' n' c')) w.heap.size m ∧ (w'.setCell ⟨q, 10, none⟩ (.slice a' n' c')).cell? ⟨w.heap.size, 0, none⟩ = some (.string m.src) ∧ (w'.setCell ⟨q, 10, none⟩ (.slice a' n' c')).cell? ⟨w.heap.size, 1, none⟩ = some (.string m.dst) ∧ (w'.setCell ⟨q, 10, none⟩ (.slice a' n' c')).cell? ⟨w.heap.size, 2, none⟩ = some (.pointer po) := by
    have e : MvAt (w'.setCell ⟨q, 10, none⟩ (.slice a' n' c')) w.heap.size m := hSw.1.kept gQ (by simp; omega)
    exact ⟨e, e.c0, e.c1, by rw [e.c2, hpv.out]⟩
  obtain ⟨_, z0, z1, z2⟩ := hSf
  have hSf : MvAt (w'.setCell ⟨q, 10, none⟩ (.slice a' n' c')) w.heap.size m ∧ (w'.setCell ⟨q, 10, none⟩ (.slice a' n' c')).cell? ⟨w.heap.size, 0, none⟩ = some (.string m.src) ∧ (w'.setCell ⟨q, 10, none⟩ (.slice a' n' c')).cell? ⟨w.heap.size, 1, none⟩ = some (.string m.dst) ∧ (w'.setCell ⟨q, 10, none⟩ (.slice a' n' c')).cell? ⟨w.heap.size, 2, none⟩ = some (.pointer po) := ⟨by assumption, z0, z1, z2⟩
  have h6 : FsAt (w'.setCell ⟨q, 10, none⟩ (.slice a' n' c')) q dead p ops d s (.slice a' n' c') := h5.setMoves _
  have r8 := h6.dir
  have hd6 : DirM (w'.setCell ⟨q, 10, none⟩ (.slice a' n' c')) d l := ((hd1.kept gX (by simp)).kept g5 (fun e => hmd e.symm)).kept gQ (by simp; exact hdq)
  have hown : (Value.slice a' n' c').ownBlock = mv.ownBlock ∨ ∃ k, (Value.slice a' n' c').ownBlock = some k ∧ w.heap.size ≤ k := by
    rcases l5 with e | e
    · exact .inl e
    · exact .inr ⟨_, e, by omega⟩
  have hq6 : (Value.slice a' n' c').ownBlock ≠ some q := by
    rcases hown with e | ⟨k, e, hk⟩
    · rw [e]; exact hmq
    · rw [e]; intro e2; cases e2; omega
  have hd7 : (Value.slice a' n' c').ownBlock ≠ some d := by
    rcases hown with e | ⟨k, e, hk⟩
    · rw [e]; exact hmd
    · rw [e]; intro e2; cases e2; omega
  have hfin : ∀ w9, DirM w9 d (m.done l) → (w'.setCell ⟨q, 10, none⟩ (.slice a' n' c')).grownBy w9 (some d) → ∃ mv', FsAt w9 q dead p ops d s mv' ∧ DirM w9 d (m.done l) ∧ w9.ownsRow 0 108 3 mv' (ml.length + 1) (mvCells (ml ++ [m])) ∧ (mv'.ownBlock = mv.ownBlock ∨ ∃ k, mv'.ownBlock = some k ∧ w.heap.size ≤ k) ∧ GP (fun k => k = q ∨ k = d ∨ mv.ownBlock = some k) w w9 := fun w9 hd9 g9 =>
    ⟨_, h6.kept g9 (by simp; exact hdq), hd9, World.ownsRow.kept (World.ownsRow.kept o5 gQ (.inr hq6)) g9 (.inr hd7), hown,
      (((GP.of (P := fun k => k = q ∨ k = d ∨ mv.ownBlock = some k) hg0 (by simp)).trans gW5 (fun k e => .inl (.inr (.inr e)))).step gQ (fun k e => by cases e; exact .inl (.inl rfl))).step g9 (fun k e => by cases e; exact .inl (.inr (.inl rfl)))⟩
  replace hfin := Lib.hid hfin
  refine wpAnyH_take (i := 0) (oi := ⟨some 4, _, _, _, _, _⟩) (v := ?_) rfl (by kernel_rfl) (by kernel_rfl) (by kernel_rfl) (fun _ _ _ h => h) (Or.inl ⟨by rfl, ?_⟩) (by assumption) ?_
  rotate_left
  · (intro w hSw; (try dsimp only at hSw); go_simp; try with_reducible rfl)
  try simp only [Act.put, List.setIfInBounds_toArray, List.set_cons_zero, List.set_cons_succ]
  refine wpAnyH_take (i := 1) (oi := ⟨some 5, _, _, _, _, _⟩) (v := ?_) rfl (by kernel_rfl) (by kernel_rfl) (by kernel_rfl) (fun _ _ _ h => h) (Or.inl ⟨by rfl, ?_⟩) (by assumption) ?_
  rotate_left
  · (intro w hSw; (try dsimp only at hSw); go_simp; try with_reducible rfl)
  try simp only [Act.put, List.setIfInBounds_toArray, List.set_cons_zero, List.set_cons_succ]
  refine wpAnyH_take (i := 2) (oi := ⟨some 6, _, _, _, _, _⟩) (v := ?_) rfl (by kernel_rfl) (by kernel_rfl) (by kernel_rfl) (fun _ _ _ h => h) (Or.inl ⟨by rfl, ?_⟩) (by assumption) ?_
  rotate_left
  · (intro w hSw; (try dsimp only at hSw); go_simp; try with_reducible rfl)
  try simp only [Act.put, List.setIfInBounds_toArray, List.set_cons_zero, List.set_cons_succ]
  refine wpAnyH_take (i := 3) (oi := ⟨some 7, _, _, _, _, _⟩) (v := ?_) rfl (by kernel_rfl) (by kernel_rfl) (by kernel_rfl) (fun _ _ _ h => h) (Or.inl ⟨by rfl, ?_⟩) (by assumption) ?_
  rotate_left
  · (intro w hSw; (try dsimp only at hSw); go_simp; try with_reducible rfl)
  try simp only [Act.put, List.setIfInBounds_toArray, List.set_cons_zero, List.set_cons_succ]
  refine wpAnyH_take (i := 5) (oi := ⟨some 9, _, _, _, _, _⟩) (v := ?_) rfl (by kernel_rfl) (by kernel_rfl) (by kernel_rfl) (fun _ _ _ h => h) (Or.inl ⟨by rfl, ?_⟩) (by assumption) ?_
  rotate_left
  · (intro w hSw; (try dsimp only at hSw); go_simp; try with_reducible rfl)
  try simp only [Act.put, List.setIfInBounds_toArray, List.set_cons_zero, List.set_cons_succ]
  refine wpAnyH_ready (rs := [4, 6]) (by kernel_rfl) (by simp) ?_
  refine AllReadyH.cons rfl (fun K hK => ?_) (AllReadyH.cons rfl (fun K hK => ?_) AllReadyH.nil)
  · go_simp
    refine hK.out _ _ hS0 (fun _ => ?_)
    clear hK
    refine wpAnyH_ready (rs := [6]) (by kernel_rfl) (by simp) ?_
    refine AllReadyH.cons rfl (fun K hK => ?_) AllReadyH.nil
    go_simp
    refine hK.out _ _ (hS _ none gX (by simp)) (fun _ => ?_)
    clear hK
    refine wpAnyH_ready (rs := [7]) (by kernel_rfl) (by simp) ?_
    refine AllReadyH.cons rfl (fun K hK => ?_) AllReadyH.nil
    rw [if_pos (by rfl)]
    refine wp_app_run _ _ _ rfl mv _ rfl rfl hrun ?_
    refine hK.out _ _ hSw (fun _ => ?_)
    clear hK
    refine wpAnyH_take (i := 8) (oi := ⟨some 12, _, _, _, _, _⟩) (v := ?_) rfl (by kernel_rfl) (by kernel_rfl) (by kernel_rfl) (fun _ _ _ h => h) (Or.inl ⟨by rfl, ?_⟩) (by assumption) ?_
    rotate_left
    · (intro w hSw; (try dsimp only at hSw); go_simp; try with_reducible rfl)
    try simp only [Act.put, List.setIfInBounds_toArray]
    refine wpAnyH_take (i := 9) (oi := ⟨some 13, _, _, _, _, _⟩) (v := ?_) rfl (by kernel_rfl) (by kernel_rfl) (by kernel_rfl) (fun _ _ _ h => h) (Or.inl ⟨by rfl, ?_⟩) (by assumption) ?_
    rotate_left
    · (intro w hSw; (try dsimp only at hSw); go_simp; try with_reducible rfl)
    try simp only [Act.put]
    refine wpAnyH_ready (rs := [10]) (by kernel_rfl) (by simp) ?_
    refine AllReadyH.cons rfl (fun K hK => ?_) AllReadyH.nil
    go_simp
    refine hK.out _ _ hSf (fun _ => ?_)
    clear hK
    refine wpAnyH_done (by kernel_rfl) ?_ _
    go_wp2_with fail
    have gD := gdrew (World.grownBy.refl (w'.setCell ⟨q, 10, none⟩ (.slice a' n' c')) none)
    have z0 := gD.cell z0 (by simp)
    have z1 := gD.cell z1 (by simp)
    have z2 := gD.cell z2 (by simp)
    have r8 := (h6.kept gD (by simp)).dir
    have hd8 := hd6.kept gD (by simp)
    refine wp_region_held_drew (S := fun w' => w'.cell? ⟨w.heap.size, 0, none⟩ = some (.string m.src) ∧ w'.cell? ⟨w.heap.size, 1, none⟩ = some (.string m.dst) ∧ w'.cell? ⟨w.heap.size, 2, none⟩ = some (.pointer po) ∧ w'.cell? ⟨q, 8, none⟩ = some (.map (some d))) (by kernel_rfl) ⟨z0, z1, z2, r8⟩ (fun hS9 => ?_)
    refine wpAnyH_take (i := 0) (oi := ⟨some 14, _, _, _, _, _⟩) (v := ?_) rfl (by kernel_rfl) (by kernel_rfl) (by kernel_rfl) (fun _ _ _ h => h) (Or.inl ⟨by rfl, ?_⟩) (by assumption) ?_
    rotate_left
    · (intro w hSw; (try dsimp only at hSw); go_simp; try with_reducible rfl)
    try simp only [Act.put, List.setIfInBounds_toArray, List.set_cons_zero, List.set_cons_succ]
    refine wpAnyH_take (i := 1) (oi := ⟨some 15, _, _, _, _, _⟩) (v := ?_) rfl (by kernel_rfl) (by kernel_rfl) (by kernel_rfl) (fun _ _ _ h => h) (Or.inl ⟨by rfl, ?_⟩) (by assumption) ?_
    rotate_left
    · (intro w hSw; (try dsimp only at hSw); go_simp; try with_reducible rfl)
    try simp only [Act.put, List.setIfInBounds_toArray, List.set_cons_zero, List.set_cons_succ]
    refine wpAnyH_take (i := 2) (oi := ⟨some 16, _, _, _, _, _⟩) (v := ?_) rfl (by kernel_rfl) (by kernel_rfl) (by kernel_rfl) (fun _ _ _ h => h) (Or.inl ⟨by rfl, ?_⟩) (by assumption) ?_
    rotate_left
    · (intro w hSw; (try dsimp only at hSw); go_simp; try with_reducible rfl)
    try simp only [Act.put, List.setIfInBounds_toArray, List.set_cons_zero, List.set_cons_succ]
    refine wpAnyH_take (i := 3) (oi := ⟨some 17, _, _, _, _, _⟩) (v := ?_) rfl (by kernel_rfl) (by kernel_rfl) (by kernel_rfl) (fun _ _ _ h => h) (Or.inl ⟨by rfl, ?_⟩) (by assumption) ?_
    rotate_left
    · (intro w hSw; (try dsimp only at hSw); go_simp; try with_reducible rfl)
    try simp only [Act.put, List.setIfInBounds_toArray, List.set_cons_zero, List.set_cons_succ]
    refine wpAnyH_take (i := 4) (oi := ⟨some 18, _, _, _, _, _⟩) (v := ?_) rfl (by kernel_rfl) (by kernel_rfl) (by kernel_rfl) (fun _ _ _ h => h) (Or.inl ⟨by rfl, ?_⟩) (by assumption) ?_
    rotate_left
    · (intro w hSw; (try dsimp only at hSw); go_simp; try with_reducible rfl)
    try simp only [Act.put, List.setIfInBounds_toArray, List.set_cons_zero, List.set_cons_succ]
    refine wpAnyH_ready (rs := [5]) (by kernel_rfl) (by simp) ?_
    refine AllReadyH.cons rfl (fun K hK => ?_) AllReadyH.nil
    go_simp
    refine (hdone _ hd8).mono ?_
    rintro e w9 ⟨rfl, hd9, g9⟩
    refine hK.out _ _ ⟨g9.cell z0 (by simp; omega), g9.cell z1 (by simp; omega), g9.cell z2 (by simp; omega), g9.cell r8 (by simp; omega)⟩ (fun _ => ?_)
    clear hK
    refine wpAnyH_done (by kernel_rfl) ?_ _
    go_wp2
    go_end0
    exact ⟨rfl, hfin.out w9 hd9 ((gdrew (World.grownBy.refl _ (some d))).trans g9)⟩
  · go_simp
    refine hK.out _ _ (hS _ none gX (by simp)) (fun _ => ?_)
    clear hK
    refine wpAnyH_ready (rs := [4]) (by kernel_rfl) (by simp) ?_
    refine AllReadyH.cons rfl (fun K hK => ?_) AllReadyH.nil
    go_simp
    refine hK.out _ _ (hS _ none gX (by simp)) (fun _ => ?_)
    clear hK
    refine wpAnyH_ready (rs := [7]) (by kernel_rfl) (by simp) ?_
    refine AllReadyH.cons rfl (fun K hK => ?_) AllReadyH.nil
    rw [if_pos (by rfl)]
    refine wp_app_run _ _ _ rfl mv _ rfl rfl hrun ?_
    refine hK.out _ _ hSw (fun _ => ?_)
    clear hK
    refine wpAnyH_take (i := 8) (oi := ⟨some 12, _, _, _, _, _⟩) (v := ?_) rfl (by kernel_rfl) (by kernel_rfl) (by kernel_rfl) (fun _ _ _ h => h) (Or.inl ⟨by rfl, ?_⟩) (by assumption) ?_
    rotate_left
    · (intro w hSw; (try dsimp only at hSw); go_simp; try with_reducible rfl)
    try simp only [Act.put, List.setIfInBounds_toArray]
    refine wpAnyH_take (i := 9) (oi := ⟨some 13, _, _, _, _, _⟩) (v := ?_) rfl (by kernel_rfl) (by kernel_rfl) (by kernel_rfl) (fun _ _ _ h => h) (Or.inl ⟨by rfl, ?_⟩) (by assumption) ?_
    rotate_left
    · (intro w hSw; (try dsimp only at hSw); go_simp; try with_reducible rfl)
    try simp only [Act.put]
    refine wpAnyH_ready (rs := [10]) (by kernel_rfl) (by simp) ?_
    refine AllReadyH.cons rfl (fun K hK => ?_) AllReadyH.nil
    go_simp
    refine hK.out _ _ hSf (fun _ => ?_)
    clear hK
    refine wpAnyH_done (by kernel_rfl) ?_ _
    go_wp2_with fail
    have gD := gdrew (World.grownBy.refl (w'.setCell ⟨q, 10, none⟩ (.slice a' n' c')) none)
    have z0 := gD.cell z0 (by simp)
    have z1 := gD.cell z1 (by simp)
    have z2 := gD.cell z2 (by simp)
    have r8 := (h6.kept gD (by simp)).dir
    have hd8 := hd6.kept gD (by simp)
    refine wp_region_held_drew (S := fun w' => w'.cell? ⟨w.heap.size, 0, none⟩ = some (.string m.src) ∧ w'.cell? ⟨w.heap.size, 1, none⟩ = some (.string m.dst) ∧ w'.cell? ⟨w.heap.size, 2, none⟩ = some (.pointer po) ∧ w'.cell? ⟨q, 8, none⟩ = some (.map (some d))) (by kernel_rfl) ⟨z0, z1, z2, r8⟩ (fun hS9 => ?_)
    refine wpAnyH_take (i := 0) (oi := ⟨some 14, _, _, _, _, _⟩) (v := ?_) rfl (by kernel_rfl) (by kernel_rfl) (by kernel_rfl) (fun _ _ _ h => h) (Or.inl ⟨by rfl, ?_⟩) (by assumption) ?_
    rotate_left
    · (intro w hSw; (try dsimp only at hSw); go_simp; try with_reducible rfl)
    try simp only [Act.put, List.setIfInBounds_toArray, List.set_cons_zero, List.set_cons_succ]
    refine wpAnyH_take (i := 1) (oi := ⟨some 15, _, _, _, _, _⟩) (v := ?_) rfl (by kernel_rfl) (by kernel_rfl) (by kernel_rfl) (fun _ _ _ h => h) (Or.inl ⟨by rfl, ?_⟩) (by assumption) ?_
    rotate_left
    · (intro w hSw; (try dsimp only at hSw); go_simp; try with_reducible rfl)
    try simp only [Act.put, List.setIfInBounds_toArray, List.set_cons_zero, List.set_cons_succ]
    refine wpAnyH_take (i := 2) (oi := ⟨some 16, _, _, _, _, _⟩) (v := ?_) rfl (by kernel_rfl) (by kernel_rfl) (by kernel_rfl) (fun _ _ _ h => h) (Or.inl ⟨by rfl, ?_⟩) (by assumption) ?_
    rotate_left
    · (intro w hSw; (try dsimp only at hSw); go_simp; try with_reducible rfl)
    try simp only [Act.put, List.setIfInBounds_toArray, List.set_cons_zero, List.set_cons_succ]
    refine wpAnyH_take (i := 3) (oi := ⟨some 17, _, _, _, _, _⟩) (v := ?_) rfl (by kernel_rfl) (by kernel_rfl) (by kernel_rfl) (fun _ _ _ h => h) (Or.inl ⟨by rfl, ?_⟩) (by assumption) ?_
    rotate_left
    · (intro w hSw; (try dsimp only at hSw); go_simp; try with_reducible rfl)
    try simp only [Act.put, List.setIfInBounds_toArray, List.set_cons_zero, List.set_cons_succ]
    refine wpAnyH_take (i := 4) (oi := ⟨some 18, _, _, _, _, _⟩) (v := ?_) rfl (by kernel_rfl) (by kernel_rfl) (by kernel_rfl) (fun _ _ _ h => h) (Or.inl ⟨by rfl, ?_⟩) (by assumption) ?_
    rotate_left
    · (intro w hSw; (try dsimp only at hSw); go_simp; try with_reducible rfl)
    try simp only [Act.put, List.setIfInBounds_toArray, List.set_cons_zero, List.set_cons_succ]
    refine wpAnyH_ready (rs := [5]) (by kernel_rfl) (by simp) ?_
    refine AllReadyH.cons rfl (fun K hK => ?_) AllReadyH.nil
    go_simp
    refine (hdone _ hd8).mono ?_
    rintro e w9 ⟨rfl, hd9, g9⟩
    refine hK.out _ _ ⟨g9.cell z0 (by simp; omega), g9.cell z1 (by simp; omega), g9.cell z2 (by simp; omega), g9.cell r8 (by simp; omega)⟩ (fun _ => ?_)
    clear hK
    refine wpAnyH_done (by kernel_rfl) ?_ _
    go_wp2
    go_end0
    exact ⟨rfl, hfin.out w9 hd9 ((gdrew (World.grownBy.refl _ (some d))).trans g9)⟩
end
end Go.Proofs.YtcehddlplkfflaaGreat

/-
  LAYER 1 (fs): the reference's without.
-/
namespace Go.Proofs.YtcehddlplkfflaaGreat
set_option maxRecDepth 100000
open Go.RowKit Go.Lib
open Go.Proofs (encStr)
attribute [local go_sem] Oper.semAt_some

theorem infoNm : (Tryz.prog.info? 128).map (fun i => (i.zero, i.size, i.bytes)) = some (some (.agg #[.string ⟨#[]⟩, .int .i64 0]), 2, 24) := by kernel_rfl
theorem infoNm_parts : ∃ i0 : TypeInfo, Tryz.prog.info? 128 = some i0 ∧ i0.zero = some (.agg #[.string ⟨#[]⟩, .int .i64 0]) ∧ i0.size = 2 ∧ i0.bytes = 24 := by
  have h := infoNm
  cases hi : Tryz.prog.info? 128 with
  | none => rw [hi] at h; cases h
  | some i =>
    rw [hi] at h
    simp only [Option.map_some, Option.some.injEq, Prod.mk.injEq] at h
    exact ⟨i, rfl, h.1, h.2.1, h.2.2⟩
theorem wpList_app_run {P : Program} {ops : Array Oper} {rest : List Oper} {o : Oper} {a : Act} {w : World} {Q : Exit → Act → World → Prop} (hgd : o.guard = none) (sl x : Operand) (t : TypeId) (ho : o.op = .call { callee := .builtin .append, args := #[sl, x], argTypes := #[t, t] })
    (v xv : Value) (hs : a.eval sl = v) (hx : a.eval x = xv) {v' : Value} {w' : World} (hrun : (Builtin.append_ #[t, t] o.type #[v, xv]).run P w = .ok v' w') (h : wpList P ops Q rest (a.put o.dst v') w') : wpList P ops Q (o :: rest) a w :=
  wpList_plain hgd fun _ hK => wp_app_run sl x t ho v xv hs hx hrun (hK _ _ h)

set_option maxHeartbeats 4000000 in
theorem without_any (v : Value) (l : DirL) (s : ByteArray) (w : World) (hr : w.ownsRow 0 128 2 v l.length (nameCells l)) (hm : l.length ≤ 3518437208881) :
    Calls Tryz.prog 96 #[v, .string s] w fun e w' => ∃ v', e = .returned v' ∧ w'.ownsRow w.heap.size 128 2 v' (DirL.drop l s.data.toList).length (nameCells (DirL.drop l s.data.toList)) ∧ w.grownBy w' none := by
  obtain ⟨a, c, rfl⟩ := rowFormS hr
  obtain ⟨i0, hi, hz0, hz1, hz2⟩ := infoNm_parts
  go_enter Tryz.func96, Tryz.ntmps96
  go_wp2_with fail
  go_loopw [5, 7, 10] (fun u _ va wr => ∃ (k : Nat) (M : DirL), va = .int .i64 (k : Int) ∧ k ≤ l.length ∧ Hid (M = DirL.drop (List.take k l) s.data.toList) ∧ Hid (wr.ownsRow w.heap.size 128 2 u M.length (nameCells M)) ∧ Hid (w.grownBy wr none)) (fun _ _ va _ => l.length - (RowKit.intOf va).toNat)
  case atStart => exact ⟨0, [], rfl, Nat.zero_le _, Lib.hid rfl, Lib.hid (World.ownsRow_nil _ _ _ _), Lib.hid (World.grownBy.refl _ _)⟩
  case round =>
    obtain ⟨k, M, rfl, hk, hK, hO, hw⟩ := hrel
    obtain ⟨ua, uc, rfl⟩ := rowFormS hO.out
    by_cases hlt : k < l.length
    · have hrow := World.ownsRow.kept hr hw.out (by cases (Value.slice a l.length c).ownBlock <;> simp)
      obtain ⟨x, hx⟩ : ∃ x, x = l[k] := ⟨_, rfl⟩
      obtain ⟨gc, rfl, c0, c1⟩ : ∃ gc, a = some ⟨gc, 0, none⟩ ∧ wr.cell? ⟨gc, k * 2, none⟩ = some (encStr x.1) ∧ wr.cell? ⟨gc, k * 2 + 1, none⟩ = some (.int .i64 (x.2 : Int)) := by
        have hr0 := hrow
        obtain ⟨_, ⟨e, hz⟩ | ⟨g9, cap, cur, e, _⟩⟩ := hrow
        · omega
        · simp at e
          obtain ⟨rfl, rfl⟩ := e
          have := nameCells_at l k hlt
          rw [hx]
          exact ⟨g9, rfl, by rw [World.ownsRow.cellAt hr0 _ (by omega)]; exact this.1, by rw [World.ownsRow.cellAt hr0 _ (by omega)]; exact this.2⟩
      have ht : List.take (k + 1) l = List.take k l ++ [x] := by rw [hx, List.take_succ_eq_append_getElem hlt]
      have hML : M.length ≤ k := by
        rw [hK.out]
        unfold DirL.drop
        exact Nat.le_trans (List.length_filter_le _ _) (by rw [List.length_take]; omega)
      have hD : DirL.drop (List.take (k + 1) l) s.data.toList = M ++ (if x.1 = s.data.toList then [] else [x]) := by
        rw [ht, hK.out]
        unfold DirL.drop
        rw [List.filter_append]
        by_cases h : x.1 = s.data.toList <;> simp [h]
      clear hK hx ht
      obtain ⟨x1, x2⟩ := x
      dsimp only at c0 c1 hD
      unfold encStr at c0
      obtain ⟨s', hs'⟩ : ∃ s' : ByteArray, s' = ⟨x1.toArray⟩ := ⟨_, rfl⟩
      have hes : encStr x1 = .string s' := by unfold encStr; rw [hs']
      rw [← hs'] at c0
      have hst : s'.toList = x1 := by rw [ByteArray.toList_eq, hs']
      have hst2 : s.toList = s.data.toList := by rw [ByteArray.toList_eq]
      have gx := World.grownBy_alloc wr (.cells #[.string s', .int .i64 (x2 : Int)] 128) none
      have gy := World.grownBy_alloc (wr.alloc (.cells #[.string s', .int .i64 (x2 : Int)] 128)) (.cells #[.string s', .int .i64 (x2 : Int)] 128) none
      have ey := World.alloc_heap_new (wr.alloc (.cells #[.string s', .int .i64 (x2 : Int)] 128)) (.cells #[.string s', .int .i64 (x2 : Int)] 128)
      have hws := hw.out.size
      have keep1 := World.ownsRow.kept hO.out gx (notOwn (by simp))
      obtain ⟨X, hX⟩ : ∃ X, X = (wr.alloc (.cells #[.string s', .int .i64 (x2 : Int)] 128)).alloc (.cells #[.string s', .int .i64 (x2 : Int)] 128) := ⟨_, rfl⟩
      rw [World.size_alloc, ← hX] at ey
      rw [← hX] at gy
      have keep2 := World.ownsRow.kept keep1 gy (notOwn (by simp))
      have hXs : wr.heap.size ≤ X.heap.size := (gx.trans gy).size
      obtain ⟨v8, w8, hrun, o8, g8, _, _⟩ := run_append_own_at (P := Tryz.prog) X w.heap.size 77 77 128 i0 (.agg #[.string ⟨#[]⟩, .int .i64 0]) 2 24 Tryz.underlying77 hi hz0 hz1 hz2 rfl (by decide) (.slice ua M.length uc) M.length (nameCells M)
        keep2 ⟨wr.heap.size + 1, 0, none⟩ 1 1 [.string s', .int .i64 (x2 : Int)] rfl (fun j u hj => by
          have eX : ∀ i, X.cell? ⟨wr.heap.size + 1, i, none⟩ = #[Value.string s', .int .i64 (x2 : Int)][i]? := fun i => by simp [World.cell?, ey]
          match j, hj with
          | 0, hj => simp at hj; subst hj; exact eX 0
          | 1, hj => simp at hj; subst hj; exact eX 1) (fun u hu => by simp at hu; rcases hu with rfl | rfl <;> rfl) (by unfold maxLen; omega) (by omega) (by omega)
      have hown := World.ownsRow.lt hO.out
      have hg8 := Lib.hid (gnew ((hw.out.trans gx).trans gy) g8 (fun k e => .inl (hown k e).1))
      have hg7 := Lib.hid (hw.out.trans gx)
      rw [hX] at hrun
      have o9 := Lib.hid (show w8.ownsRow w.heap.size 128 2 v8 (M ++ [(x1, x2)]).length (nameCells (M ++ [(x1, x2)])) by
        rw [show nameCells (M ++ [(x1, x2)]) = nameCells M ++ [.string s', .int .i64 (x2 : Int)] by simp [nameCells, hes], List.length_append]
        exact o8)
      replace keep1 := Lib.hid keep1
      replace ey := Lib.hid ey
      replace hX := Lib.hid hX
      clear hrow gx gy keep2 hO hXs o8 g8
      by_cases he : x1 = s.data.toList
      · have h1 : (s'.toList == s.toList) = true := by rw [hst, hst2, he]; simp
        rw [if_pos he, List.append_nil] at hD
        replace hD := Lib.hid hD.symm
        replace he := Lib.hid he
        replace hst := Lib.hid hst
        replace hst2 := Lib.hid hst2
        replace hs' := Lib.hid hs'
        replace hes := Lib.hid hes
        have hrH := Lib.hid hr
        clear hr hrun
        go_wp2_with fail
        exact ⟨⟨k + 1, M, by go_num, by omega, hD, keep1, hg7⟩, by simp [RowKit.intOf]; omega⟩
      · have h1 : (s'.toList == s.toList) = false := by rw [hst, hst2]; simpa using he
        rw [if_neg he] at hD
        replace hD := Lib.hid hD.symm
        replace he := Lib.hid he
        replace hst := Lib.hid hst
        replace hst2 := Lib.hid hst2
        replace hs' := Lib.hid hs'
        replace hes := Lib.hid hes
        have hrH := Lib.hid hr
        clear hr
        go_wp2_with (at_builtin; refine wpList_app_run rfl _ _ 77 rfl (.slice ua M.length uc) _ rfl rfl hrun ?_)
        exact ⟨⟨k + 1, M ++ [(x1, x2)], by go_num, by omega, hD, o9, hg8⟩, by simp [RowKit.intOf]; omega⟩
    · obtain rfl : k = l.length := by omega
      have hMl : M = DirL.drop l s.data.toList := by rw [hK.out, List.take_length]
      subst hMl
      clear hK
      go_wp2
      go_ret
      exact ⟨_, rfl, hO.out, hw.out⟩
end Go.Proofs.YtcehddlplkfflaaGreat

/-
  LAYER 1 (fs): a file's settle, with whatever tells the numbers.
-/
namespace Go.Proofs.YtcehddlplkfflaaGreat
set_option maxRecDepth 100000
open Go.RowKit Go.Lib
attribute [local go_sem] Oper.semAt_some

/-- Each change may be behind those ahead of it. -/
def okL : List UInt8 → List Chg → Prop
  | _, [] => True
  | bs, c :: l => c.may bs ∧ okL (c.done bs) l
/-- What is safe behind the changes, by the numbers ks from i on. -/
def settleP (ks : Nat → Int) : Nat → Bool → List UInt8 → List Chg → List UInt8
  | _, _, bs, [] => bs
  | i, true, bs, c :: l => settleP ks (i + 1) (c.kept (ks i) bs).2 (c.kept (ks i) bs).1 l
  | i, false, bs, _ :: l => settleP ks (i + 1) false bs l

theorem kept_whole (k : Int) (bs : List UInt8) (c : Chg) (h : (c.kept k bs).2 = true) : (c.kept k bs).1 = c.done bs := by
  cases c with
  | add a =>
    simp only [Chg.kept, decide_eq_true_eq] at h
    simp only [Chg.kept, Chg.done, h]
    rw [List.take_of_length_le (by simp)]
  | cut c =>
    simp only [Chg.kept] at h
    simp [Chg.kept, Chg.done, h]

/-- What tells the numbers: a function value, of a state that lies in the blocks nb; it turns block R. -/
structure NextOk (P : Program) (g : Nat) (lb : Array Value) (ks : Nat → Int) (R : Option Nat) (nb : List Nat) (NS : Nat → World → Prop) : Prop where
  enter : ∀ args W, (callFunc g args).run P W = .ok (.enter g args) W
  call : ∀ i W, i < 4611686018427387904 → NS i W → Calls P g lb W fun e W' => e = .returned (.int .i64 (ks i)) ∧ NS (i + 1) W' ∧ W.grownBy W' R
  kept : ∀ i A B, NS i A → (∀ k ∈ nb, B.heap[k]? = A.heap[k]?) → NS i B
  mem : ∀ r, R = some r → r ∈ nb
  lt : ∀ i A, NS i A → ∀ k ∈ nb, k < A.heap.size

set_option maxHeartbeats 8000000 in
theorem settle_any (g : Nat) (lb : Array Value) (ks : Nat → Int) (R : Option Nat) (nb : List Nat) (NS : Nat → World → Prop) (N : NextOk Tryz.prog g lb ks R nb NS) (b : Nat) (f : FileV) (w : World) (i0 : Nat) (h : FileAt w b f) (hN : NS i0 w)
    (hok : okL f.safe f.chg) (hn : i0 + f.chg.length < 4611686018427387904) (hap : b ∉ nb ∧ ∀ k ∈ f.blocks, k ∉ nb) :
    Calls Tryz.prog 57 #[.pointer (some ⟨b, 0, none⟩), .func (.func g) #[] lb] w fun e w' => e = .returned (.tuple #[]) ∧ ∃ sv, FileAt w' b { f with sv := sv, cv := .slice none 0 0, safe := settleP ks i0 true f.safe f.chg, chg := [] } ∧ NS (i0 + f.chg.length) w' ∧
      GP (fun k => k = b ∨ f.sv.ownBlock = some k ∨ R = some k) w w' ∧ (∀ k, sv.ownBlock = some k → f.sv.ownBlock = some k ∨ w.heap.size ≤ k) := by
  have c2 := h.c2
  obtain ⟨ac, cc, hcv⟩ : ∃ a c, f.cv = .slice a f.chg.length c := by
    obtain ⟨_, ⟨e, hz⟩ | ⟨g, cap, cur, e, _⟩⟩ := h.2.2.2.1
    · exact ⟨none, 0, by rw [e, hz]⟩
    · exact ⟨_, _, e⟩
  rw [hcv] at c2
  have hent := N.enter
  have hl0 := N.lt i0 w hN
  obtain ⟨fin, hfin⟩ : ∃ x, x = settleP ks i0 true f.safe f.chg := ⟨_, rfl⟩
  rw [← hfin]
  replace hfin := Lib.hid hfin
  go_enter Tryz.func57, Tryz.ntmps57
  go_wp2
  go_loopw [4, 6, 7, 13] (fun v4 _ _ vi wr => ∃ (j : Nat) (wh : Bool) (sv : Value) (bs : List UInt8), v4 = .bool wh ∧ vi = .int .i64 (j : Int) ∧ j ≤ f.chg.length ∧ Hid (FileAt wr b { f with sv := sv, safe := bs }) ∧ Hid (NS (i0 + j) wr) ∧ Hid (settleP ks (i0 + j) wh bs (f.chg.drop j) = fin) ∧
    Hid (wh = true → okL bs (f.chg.drop j)) ∧ Hid (GP (fun k => k = b ∨ f.sv.ownBlock = some k ∨ R = some k) w wr) ∧ Hid (∀ k, sv.ownBlock = some k → f.sv.ownBlock = some k ∨ w.heap.size ≤ k)) (fun _ _ _ vi _ => f.chg.length - (RowKit.intOf vi).toNat)
  case atStart => exact ⟨0, true, f.sv, f.safe, rfl, rfl, Nat.zero_le _, Lib.hid h, Lib.hid hN, Lib.hid hfin.out.symm, Lib.hid (fun _ => hok), Lib.hid (GP.refl _ _), Lib.hid (fun k e => .inl e)⟩
  case round =>
    obtain ⟨j, wh, sv, bs, rfl, rfl, hj, hF, hNS, hE, hO, hG, hB⟩ := hrel
    by_cases hlt : j < f.chg.length
    · obtain ⟨c, hc⟩ : ∃ c, c = f.chg[j] := ⟨_, rfl⟩
      have hdrop : f.chg.drop j = c :: f.chg.drop (j + 1) := by rw [hc]; exact List.drop_eq_getElem_cons hlt
      have hna := fun m W => nilAhead_kept c m W
      have hme := fun m W => method_kept c m W
      have hcf := fun args W => callFunc_kept c args W
      obtain ⟨gc, hgc, hcell⟩ : ∃ gc, ac = some ⟨gc, 0, none⟩ ∧ wr.cell? ⟨gc, j, none⟩ = some c.v := by
        have hrow := hF.out.2.2.2.1
        dsimp only at hrow
        rw [hcv] at hrow
        have hr0 := hrow
        obtain ⟨_, ⟨e, hz⟩ | ⟨g9, cap, cur, e, _⟩⟩ := hrow
        · omega
        · simp at e
          obtain ⟨rfl, rfl⟩ := e
          refine ⟨g9, rfl, ?_⟩
          rw [World.ownsRow.cellAt hr0 j (by omega)]
          simp [hc, hlt]
      subst hgc
      obtain ⟨ty, x, hv⟩ := c.form
      rw [hv] at hna hme hcell
      replace hv := Lib.hid hv
      rw [hdrop] at hE hO
      replace hc := Lib.hid hc
      clear hdrop
      have nbF : b ∉ nb ∧ ∀ k ∈ (FileV.blocks { f with sv := sv, safe := bs }), k ∉ nb := by
        refine ⟨hap.1, fun k hk hkn => ?_⟩
        rcases FileV.mem hk with e | e | e
        · rcases hB.out k e with e2 | e2
          · exact hap.2 k (FileV.mem_s e2) hkn
          · have := hl0 k hkn; omega
        · exact hap.2 k (FileV.mem_d e) hkn
        · exact hap.2 k (FileV.mem_c e) hkn
      replace nbF := Lib.hid nbF
      cases wh
      · go_wp2_with (refine (N.call (i0 + j) _ (by omega) hNS.out).mono ?_; rintro e w2 ⟨rfl, hN2, g2⟩)
        have gg := GP.of (P := fun k => R = some k) g2 (fun _ h => h)
        have hF2 := hF.out.kept gg (fun e => nbF.out.1 (N.mem _ e)) (fun k hk e => nbF.out.2 k hk (N.mem _ e))
        refine ⟨⟨j + 1, false, sv, bs, rfl, by go_num, by omega, Lib.hid hF2, Lib.hid (by rw [← Nat.add_assoc]; exact hN2), Lib.hid (by rw [← Nat.add_assoc]; exact hE.out), Lib.hid (fun e => by cases e), Lib.hid (hG.out.step g2 (fun k e => .inl (.inr (.inr e)))), hB⟩, by simp [RowKit.intOf]; omega⟩
      · go_upto_region 6 with (refine (N.call (i0 + j) _ (by omega) hNS.out).mono ?_; rintro e w2 ⟨rfl, hN2, g2⟩)
        have gg := GP.of (P := fun k => R = some k) g2 (fun _ h => h)
        have hF2 := hF.out.kept gg (fun e => nbF.out.1 (N.mem _ e)) (fun k hk e => nbF.out.2 k hk (N.mem _ e))
        have hG2 := hG.out.step g2 (fun k e => .inl (.inr (.inr e)))
        have hO2 := hO.out (by first | trivial | rfl)
        have hmay : c.may bs := hO2.1
        obtain ⟨hb2, hs2, hd2, hc2, hnd⟩ := hF2
        dsimp only at hb2 hs2 hd2 hc2 hnd
        have hsb : sv.ownBlock ≠ some b := fun e => by have := (List.nodup_cons.1 hnd).1; simp [FileV.blocks, e] at this
        have hnd2 := (List.nodup_cons.1 hnd).2
        have hsd : ∀ k, sv.ownBlock = some k → f.dv.ownBlock ≠ some k := fun k e e2 => by
          unfold FileV.blocks at hnd2
          dsimp only at hnd2
          rw [e, e2, List.nodup_append] at hnd2
          have := (List.nodup_append.1 hnd2.1).2.2
          exact this k (by simp) k (by simp) rfl
        have hsc : ∀ k, sv.ownBlock = some k → f.cv.ownBlock ≠ some k := fun k e e2 => by
          unfold FileV.blocks at hnd2
          dsimp only at hnd2
          rw [e, e2, List.nodup_append] at hnd2
          exact hnd2.2.2 k (by simp) k (by simp) rfl
        have hKept := fun W h hB => kept_any c (ks (i0 + j)) 0 sv bs W h hmay hB
        have hW9 := kept_whole (ks (i0 + j)) bs c
        rw [settleP] at hE
        obtain ⟨nb2, hnb2⟩ : ∃ y, y = (c.kept (ks (i0 + j)) bs).1 := ⟨_, rfl⟩
        obtain ⟨wh2, hwh2⟩ : ∃ y, y = (c.kept (ks (i0 + j)) bs).2 := ⟨_, rfl⟩
        have hE2 : Hid (settleP ks (i0 + j + 1) wh2 nb2 (f.chg.drop (j + 1)) = fin) := Lib.hid (by rw [hnb2, hwh2]; exact hE.out)
        rw [← hnb2, ← hwh2] at hKept hW9
        clear hnb2 hwh2 hE
        replace hW9 := Lib.hid hW9
        refine wp_region_held_drew (S := fun _ => True) (by kernel_rfl) trivial (fun hS0 => ?_)
        have hs3 : Owns w2.drew 0 5 sv bs := Owns.kept hs2 (gdrew (World.grownBy.refl w2 none)) (by cases sv.ownBlock <;> simp)
        obtain ⟨V, hV⟩ : ∃ V, V = w2.drew := ⟨_, rfl⟩
        have gV : w2.grownBy V none := by rw [hV]; exact gdrew (World.grownBy.refl w2 none)
        rw [← hV] at hs3 ⊢
        clear hV
        have hbV := (gV.block b (lt_of_block hb2) (by simp)).trans hb2
        have l1 : V.cell? ⟨b, 0, none⟩ = some sv := by simp [World.cell?, hbV]
        refine wpAnyH_take (i := 0) (oi := ⟨some 21, _, _, _, _, _⟩) (v := ?_) rfl (by kernel_rfl) (by kernel_rfl) (by kernel_rfl) (fun _ _ _ h => h) (Or.inl ⟨by rfl, ?_⟩) (by assumption) ?_
        rotate_left
        · (intro w hSw; (try dsimp only at hSw); go_simp; try with_reducible rfl)
        try simp only [Act.put, List.setIfInBounds_toArray, List.set_cons_zero, List.set_cons_succ]
        refine wpAnyH_take (i := 1) (oi := ⟨some 22, _, _, _, _, _⟩) (v := ?_) rfl (by kernel_rfl) (by kernel_rfl) (by kernel_rfl) (fun _ _ _ h => h) (Or.inl ⟨by rfl, ?_⟩) (by assumption) ?_
        rotate_left
        · (intro w hSw; (try dsimp only at hSw); go_simp; try with_reducible rfl)
        try simp only [Act.put, List.setIfInBounds_toArray, List.set_cons_zero, List.set_cons_succ]
        refine wpAnyH_take (i := 2) (oi := ⟨some 23, _, _, _, _, _⟩) (v := ?_) rfl (by kernel_rfl) (by kernel_rfl) (by kernel_rfl) (fun _ _ _ h => h) (Or.inl ⟨by rfl, ?_⟩) (by assumption) ?_
        rotate_left
        · (intro w hSw; (try dsimp only at hSw); go_simp; try with_reducible rfl)
        try simp only [Act.put, List.setIfInBounds_toArray, List.set_cons_zero, List.set_cons_succ]
        refine wpAnyH_take (i := 3) (oi := ⟨some 24, _, _, _, _, _⟩) (v := ?_) rfl (by kernel_rfl) (by kernel_rfl) (by kernel_rfl) (fun _ _ _ h => h) (Or.inl ⟨by rfl, ?_⟩) (by assumption) ?_
        rotate_left
        · (intro w hSw; (try dsimp only at hSw); go_simp; try with_reducible rfl)
        try simp only [Act.put, List.setIfInBounds_toArray, List.set_cons_zero, List.set_cons_succ]
        refine wpAnyH_take (i := 4) (oi := ⟨some 25, _, _, _, _, _⟩) (v := ?_) rfl (by kernel_rfl) (by kernel_rfl) (by kernel_rfl) (fun _ _ _ h => h) (Or.inl ⟨by rfl, ?_⟩) (by assumption) ?_
        rotate_left
        · (intro w hSw; (try dsimp only at hSw); go_simp; try with_reducible rfl)
        try simp only [Act.put, List.setIfInBounds_toArray, List.set_cons_zero, List.set_cons_succ]
        refine wpAnyH_take (i := 6) (oi := ⟨some 27, _, _, _, _, _⟩) (v := ?_) rfl (by kernel_rfl) (by kernel_rfl) (by kernel_rfl) (fun _ _ _ h => h) (Or.inl ⟨by rfl, ?_⟩) (by assumption) ?_
        rotate_left
        · (intro w hSw; (try dsimp only at hSw); go_simp; try with_reducible rfl)
        try simp only [Act.put, List.setIfInBounds_toArray, List.set_cons_zero, List.set_cons_succ]
        refine wpAnyH_take (i := 7) (oi := ⟨some 28, _, _, _, _, _⟩) (v := ?_) rfl (by kernel_rfl) (by kernel_rfl) (by kernel_rfl) (fun _ _ _ h => h) (Or.inl ⟨by rfl, ?_⟩) (by assumption) ?_
        rotate_left
        · (intro w hSw; (try dsimp only at hSw); go_simp; try with_reducible rfl)
        try simp only [Act.put, List.setIfInBounds_toArray, List.set_cons_zero, List.set_cons_succ]
        refine wpAnyH_take (i := 8) (oi := ⟨some 29, _, _, _, _, _⟩) (v := ?_) rfl (by kernel_rfl) (by kernel_rfl) (by kernel_rfl) (fun _ _ _ h => h) (Or.inl ⟨by rfl, ?_⟩) (by assumption) ?_
        rotate_left
        · (intro w hSw; (try dsimp only at hSw); go_simp; try with_reducible rfl)
        try simp only [Act.put, List.setIfInBounds_toArray, List.set_cons_zero, List.set_cons_succ]
        refine wpAnyH_take (i := 9) (oi := ⟨some 30, _, _, _, _, _⟩) (v := ?_) rfl (by kernel_rfl) (by kernel_rfl) (by kernel_rfl) (fun _ _ _ h => h) (Or.inl ⟨by rfl, ?_⟩) (by assumption) ?_
        rotate_left
        · (intro w hSw; (try dsimp only at hSw); go_simp; try with_reducible rfl)
        try simp only [Act.put, List.setIfInBounds_toArray, List.set_cons_zero, List.set_cons_succ]
        refine wpAnyH_ready (rs := [5]) (by kernel_rfl) (by simp) ?_
        refine AllReadyH.cons rfl (fun K hK => ?_) AllReadyH.nil
        go_simp
        refine hK.out _ _ trivial (fun _ => ?_)
        clear hK
        refine wpAnyH_ready (rs := [10]) (by kernel_rfl) (by simp) ?_
        refine AllReadyH.cons rfl (fun K hK => ?_) AllReadyH.nil
        go_simp
        refine (hKept _ hs3 (Nat.zero_le _)).mono ?_
        rintro e w5 ⟨v5, rfl, ho5, g5, hl5⟩
        refine hK.out _ _ trivial (fun _ => ?_)
        clear hK
        refine wpAnyH_take (i := 11) (oi := ⟨some 20, _, _, _, _, _⟩) (v := ?_) rfl (by kernel_rfl) (by kernel_rfl) (by kernel_rfl) (fun _ _ _ h => h) (Or.inl ⟨by rfl, ?_⟩) (by assumption) ?_
        rotate_left
        · (intro w hSw; (try dsimp only at hSw); go_simp; try with_reducible rfl)
        try simp only [Act.put, List.setIfInBounds_toArray, List.set_cons_zero, List.set_cons_succ]
        refine wpAnyH_take (i := 12) (oi := ⟨some 32, _, _, _, _, _⟩) (v := ?_) rfl (by kernel_rfl) (by kernel_rfl) (by kernel_rfl) (fun _ _ _ h => h) (Or.inl ⟨by rfl, ?_⟩) (by assumption) ?_
        rotate_left
        · (intro w hSw; (try dsimp only at hSw); go_simp; try with_reducible rfl)
        try simp only [Act.put, List.setIfInBounds_toArray, List.set_cons_zero, List.set_cons_succ]
        refine wpAnyH_take (i := 13) (oi := ⟨some 33, _, _, _, _, _⟩) (v := ?_) rfl (by kernel_rfl) (by kernel_rfl) (by kernel_rfl) (fun _ _ _ h => h) (Or.inl ⟨by rfl, ?_⟩) (by assumption) ?_
        rotate_left
        · (intro w hSw; (try dsimp only at hSw); go_simp; try with_reducible rfl)
        try simp only [Act.put, List.setIfInBounds_toArray, List.set_cons_zero, List.set_cons_succ]
        refine wpAnyH_take (i := 14) (oi := ⟨some 34, _, _, _, _, _⟩) (v := ?_) rfl (by kernel_rfl) (by kernel_rfl) (by kernel_rfl) (fun _ _ _ h => h) (Or.inl ⟨by rfl, ?_⟩) (by assumption) ?_
        rotate_left
        · (intro w hSw; (try dsimp only at hSw); go_simp; try with_reducible rfl)
        try simp only [Act.put, List.setIfInBounds_toArray, List.set_cons_zero, List.set_cons_succ]
        refine wpAnyH_take (i := 15) (oi := ⟨some 35, _, _, _, _, _⟩) (v := ?_) rfl (by kernel_rfl) (by kernel_rfl) (by kernel_rfl) (fun _ _ _ h => h) (Or.inl ⟨by rfl, ?_⟩) (by assumption) ?_
        rotate_left
        · (intro w hSw; (try dsimp only at hSw); go_simp; try with_reducible rfl)
        try simp only [Act.put, List.setIfInBounds_toArray, List.set_cons_zero, List.set_cons_succ]
        refine wpAnyH_ready (rs := [16]) (by kernel_rfl) (by simp) ?_
        refine AllReadyH.cons rfl (fun K hK => ?_) AllReadyH.nil
        have hb5 := (g5.block b (lt_of_block hbV) (fun e => hsb e.symm)).trans hbV
        have q1 : w5.frozen? ⟨b, 0, none⟩ = false := by simp [World.frozen?, hb5]
        have q2 : w5.cell? ⟨b, 0, none⟩ = some sv := by simp [World.cell?, hb5]
        obtain ⟨a5, n5, c5, rfl⟩ : ∃ a n c, v5 = .slice a n c := by
          obtain ⟨_, ⟨rfl, _⟩ | ⟨g, cap, cur, rfl, _⟩⟩ := ho5
          · exact ⟨_, _, _, rfl⟩
          · exact ⟨_, _, _, rfl⟩
        go_simp
        refine hK.out _ _ trivial (fun _ => ?_)
        clear hK
        refine wpAnyH_take (i := 17) (oi := ⟨some 4, _, _, _, _, _⟩) (v := ?_) rfl (by kernel_rfl) (by kernel_rfl) (by kernel_rfl) (fun _ _ _ h => h) (Or.inl ⟨by rfl, ?_⟩) (by assumption) ?_
        rotate_left
        · (intro w hSw; (try dsimp only at hSw); go_simp; try with_reducible rfl)
        try simp only [Act.put, List.setIfInBounds_toArray, List.set_cons_zero, List.set_cons_succ]
        refine wpAnyH_done (by kernel_rfl) ?_ _
        go_wp2_with fail
        have alt : ∀ (v : Value) (q : Option Nat), (∀ k, v.ownBlock = some k → q ≠ some k) → v.ownBlock = none ∨ v.ownBlock ≠ q := fun v q h => by
          cases e : v.ownBlock with
          | none => exact .inl rfl
          | some k => exact .inr (fun e2 => h k e e2.symm)
        have hdb : f.dv.ownBlock ≠ some b := fun e => by have := (List.nodup_cons.1 hnd).1; simp [FileV.blocks, e] at this
        have hcb : f.cv.ownBlock ≠ some b := fun e => by have := (List.nodup_cons.1 hnd).1; simp [FileV.blocks, e] at this
        have hdc : ∀ k, f.dv.ownBlock = some k → f.cv.ownBlock ≠ some k := fun k e e2 => by
          unfold FileV.blocks at hnd2
          dsimp only at hnd2
          rw [e, e2, List.nodup_append] at hnd2
          exact hnd2.2.2 k (by simp) k (by simp) rfl
        have gF := gset (World.grownBy.refl w5 (some b)) 0 (.slice a5 n5 c5)
        have hb6 := heap_setCell_same w5 b 0 _ _ (.slice a5 n5 c5) hb5
        obtain ⟨Z, hZ⟩ : ∃ Z, Z = w5.setCell ⟨b, 0, none⟩ (.slice a5 n5 c5) := ⟨_, rfl⟩
        rw [← hZ] at gF hb6 ⊢
        clear hZ
        have Vs := gV.size
        have w2s := g2.size
        have wrs := hG.out.size
        have bV := lt_of_block hbV
        have dold : ∀ k, f.dv.ownBlock = some k → k < V.heap.size := fun k e => by have := (Owns.lt hd2 k e).2; omega
        have cold : ∀ k, f.cv.ownBlock = some k → k < V.heap.size := fun k e => by have := (World.ownsRow.lt hc2 k e).2; omega
        have hvn : ∀ k, (Value.slice a5 n5 c5).ownBlock = some k → sv.ownBlock = some k ∨ k = V.heap.size := fun k e => by
          rcases hl5 with e2 | e2
          · left; rw [← e2]; exact e
          · right; rw [e] at e2; simpa using e2
        have hvb : (Value.slice a5 n5 c5).ownBlock ≠ some b := fun e => by
          rcases hvn b e with h | h
          · exact hsb h
          · omega
        have vd : ∀ k, (Value.slice a5 n5 c5).ownBlock = some k → f.dv.ownBlock ≠ some k := fun k e e2 => by
          rcases hvn k e with h | h
          · exact hsd k h e2
          · have := dold k e2; omega
        have vc : ∀ k, (Value.slice a5 n5 c5).ownBlock = some k → f.cv.ownBlock ≠ some k := fun k e e2 => by
          rcases hvn k e with h | h
          · exact hsc k h e2
          · have := cold k e2; omega
        have hd6 := ((Owns.kept hd2 gV (alt _ _ (fun k _ => by simp))).kept g5 (alt _ _ (fun k e e2 => hsd k e2 e))).kept gF (alt _ _ (fun k e e2 => hdb (by rw [e]; simpa using e2.symm)))
        have hc6 := World.ownsRow.kept (World.ownsRow.kept (World.ownsRow.kept hc2 gV (alt _ _ (fun k _ => by simp))) g5 (alt _ _ (fun k e e2 => hsc k e2 e))) gF (alt _ _ (fun k e e2 => hcb (by rw [e]; simpa using e2.symm)))
        have hv6 := Owns.kept ho5 gF (alt _ _ (fun k e e2 => hvb (by rw [e]; simpa using e2.symm)))
        have hFZ : FileAt Z b { f with sv := .slice a5 n5 c5, safe := nb2 } := ⟨hb6, hv6, hd6, hc6, nodup3 hvb hdb hcb vd vc hdc⟩
        have gX := (((GP.of (P := fun k => k = b ∨ sv.ownBlock = some k) gV (by simp)).step g5 (fun k e => .inl (.inr e))).step gF (fun k e => by cases e; exact .inl (.inl rfl)))
        have hNZ : NS (i0 + j + 1) Z := N.kept _ _ _ hN2 (fun k hk => gX.block k (N.lt _ _ hN2 k hk) (fun e => by
          rcases e with rfl | e
          · exact nbF.out.1 hk
          · exact nbF.out.2 k (FileV.mem_s e) hk))
        have hGZ := hG2.trans gX (fun k e => by
          rcases e with rfl | e
          · exact .inl (.inl rfl)
          · rcases hB.out k e with h | h
            · exact .inl (.inr (.inl h))
            · exact .inr h)
        have hBZ : ∀ k, (Value.slice a5 n5 c5).ownBlock = some k → f.sv.ownBlock = some k ∨ w.heap.size ≤ k := fun k e => by
          rcases hvn k e with h | h
          · exact hB.out k h
          · right; omega
        refine ⟨⟨j + 1, wh2, .slice a5 n5 c5, nb2, rfl, by go_num, by omega, Lib.hid hFZ, Lib.hid (by rw [← Nat.add_assoc]; exact hNZ), Lib.hid (by rw [← Nat.add_assoc]; exact hE2.out), Lib.hid (fun e => ?_), Lib.hid hGZ, Lib.hid hBZ⟩, by simp [RowKit.intOf]; omega⟩
        have := hO2.2
        rw [← hW9.out e] at this
        exact this
    · obtain rfl : j = f.chg.length := by omega
      have hFo := hF.out
      have f2 := hFo.free 2
      have hb2 := hFo.1
      have gF := gset (World.grownBy.refl wr (some b)) 2 (.slice none 0 0)
      have hb6 := heap_setCell_same wr b 2 _ _ (.slice none 0 0) hb2
      have cx : wr.cell? ⟨b, 2, none⟩ = some f.cv := hFo.c2
      rw [hcv] at cx
      go_wp2
      have hEf : bs = fin := by
        have := hE.out
        rw [List.drop_length] at this
        cases wh <;> exact this
      obtain ⟨hb3, hs3, hd3, hc3, hnd⟩ := hFo
      dsimp only at hb3 hs3 hd3 hc3 hnd
      have alt : ∀ (v : Value) (q : Option Nat), (∀ k, v.ownBlock = some k → q ≠ some k) → v.ownBlock = none ∨ v.ownBlock ≠ q := fun v q h => by
        cases e : v.ownBlock with
        | none => exact .inl rfl
        | some k => exact .inr (fun e2 => h k e e2.symm)
      have hsb : sv.ownBlock ≠ some b := fun e => by have := (List.nodup_cons.1 hnd).1; simp [FileV.blocks, e] at this
      have hdb : f.dv.ownBlock ≠ some b := fun e => by have := (List.nodup_cons.1 hnd).1; simp [FileV.blocks, e] at this
      have hnd2 := (List.nodup_cons.1 hnd).2
      have hsd : ∀ k, sv.ownBlock = some k → f.dv.ownBlock ≠ some k := fun k e e2 => by
        unfold FileV.blocks at hnd2
        dsimp only at hnd2
        rw [e, e2, List.nodup_append] at hnd2
        have := (List.nodup_append.1 hnd2.1).2.2
        exact this k (by simp) k (by simp) rfl
      have hs4 := Owns.kept hs3 gF (alt _ _ (fun k e e2 => hsb (by rw [e]; simpa using e2.symm)))
      have hd4 := Owns.kept hd3 gF (alt _ _ (fun k e e2 => hdb (by rw [e]; simpa using e2.symm)))
      have hN4 : NS (i0 + f.chg.length) (wr.setCell ⟨b, 2, none⟩ (.slice none 0 0)) := N.kept _ _ _ hNS.out (fun k hk => gF.block k (N.lt _ _ hNS.out k hk) (fun e => hap.1 (by cases e; exact hk)))
      go_end0
      refine ⟨rfl, sv, ⟨hb6, by rw [← hEf]; exact hs4, hd4, World.ownsRow_nil _ _ _ _, nodup3 hsb hdb (by simp [Value.ownBlock]) hsd (fun k _ e => by simp [Value.ownBlock] at e) (fun k _ e => by simp [Value.ownBlock] at e)⟩, hN4, hG.out.step gF (fun k e => by cases e; exact .inl (.inl rfl)), hB.out⟩
end Go.Proofs.YtcehddlplkfflaaGreat
