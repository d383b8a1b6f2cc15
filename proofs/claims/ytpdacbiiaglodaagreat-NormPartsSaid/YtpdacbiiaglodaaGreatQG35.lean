/-
  LAYER 4 (utf): Decode.
-/
import Derived.Test.YtpdacbiiaglodaaGreatQG34
import Derived.Test.YtpdacbiiaglodaaGreatQG06
import Derived.Laws.IdiomStrings
import Derived.Test.YtpdacbiiaglodaaGreatQG05
import Derived.Test.YtpdacbiiaglodaaGreatQG17
import Derived.Test.YtpdacbiiaglodaaGreatQG24
import Derived.Test.YtpdacbiiaglodaaGreatQG32
import Derived.RangeFuncBox
import Derived.RangeFuncNested
import Derived.Test.YtpdacbiiaglodaaGreatQG01
import Derived.Test.YtpdacbiiaglodaaGreatRows
import Derived.Laws.BytesString
import Derived.Laws.CopyOwn
namespace Go.Proofs.YtpdacbiiaglodaaGreat.U
set_option maxRecDepth 100000
open Go.RowKit Go.Lib
attribute [local go_sem] Oper.semAt_some

set_option maxHeartbeats 1000000 in
theorem clip_any (b n c : Nat) (w : World) (hn : n ≤ c) (_hm : c ≤ maxLen) :
    Calls Tryz.prog 69 #[.slice (some ⟨b, 0, none⟩) n c] w fun e w' => e = .returned (.slice (some ⟨b, 0, none⟩) n n) ∧ w = w' := by
  go_enter Tryz.func69, Tryz.ntmps69
  go_wp2
  go_ret
  simp

theorem clip_nil (w : World) : Calls Tryz.prog 69 #[.slice none 0 0] w fun e w' => e = .returned (.slice none 0 0) ∧ w = w' := by
  go_enter Tryz.func69, Tryz.ntmps69
  go_wp2
  go_ret
  simp

/-- A slice reads as these runes. -/
def Runes (w : World) (v : Value) (l : List Int) : Prop := Row w v (runeCells l)
theorem Runes.all {w w' : World} {v : Value} {l : List Int} (h : Runes w v l) (hb : Below w.heap.size w w') : Runes w' v l := Row.all h hb


theorem infoRune : (Tryz.prog.info? 21).map (fun i => (i.zero, i.size, i.bytes)) = some (some (.int .i32 0), 1, 4) := by kernel_rfl
theorem infoRune_parts : ∃ i0 : TypeInfo, Tryz.prog.info? 21 = some i0 ∧ i0.zero = some (.int .i32 0) ∧ i0.size = 1 ∧ i0.bytes = 4 := by
  have h := infoRune
  cases hi : Tryz.prog.info? 21 with
  | none => rw [hi] at h; cases h
  | some i =>
    rw [hi] at h
    simp only [Option.map_some, Option.some.injEq, Prod.mk.injEq] at h
    exact ⟨i, rfl, h.1, h.2.1, h.2.2⟩

/-- The cells of what was told. -/
def rCells (pre : List Told) : List Value := pre.map fun x => .int .i32 (x.2.1 : Int)
theorem places_cells : ∀ (k : Nat) (t : List (Nat × Nat)), rCells (places k t) = t.map fun x => .int .i32 (x.1 : Int)
  | _, [] => rfl
  | k, (r, n) :: t => by
    have := places_cells (k + n) t
    simp [places, rCells] at this ⊢
    exact this
theorem pls_cells (l : List UInt8) : rCells (pls l) = runeCells (runes l) := by
  unfold pls
  rw [places_cells]
  simp [runeCells, runes]
theorem pls_length (l : List UInt8) : (pls l).length = (runes l).length := by
  have := congrArg List.length (pls_cells l)
  simpa [rCells, runeCells] using this
theorem tot_runes_le (l : List UInt8) : (runes l).length ≤ l.length := by
  have key : ∀ (k : Nat) (l : List UInt8), l.length ≤ k → (runes l).length ≤ l.length := by
    intro k
    induction k with
    | zero => intro l h; obtain rfl : l = [] := List.length_eq_zero_iff.1 (by omega); simp [runes_nil]
    | succ k ih =>
      intro l h
      cases hd : dec l with
      | none => simp [runes, rs_none hd]
      | some x =>
        obtain ⟨r, n⟩ := x
        have h1 := dec_some hd
        rw [runes_some hd]
        have := ih (l.drop n) (by simp; omega)
        simp at this ⊢
        omega
  exact key _ l (Nat.le_refl _)

def DecQ (l : List UInt8) (bl : Nat) (w w' : World) : Prop := ∃ v, Boxed w' bl 50 v ∧ w'.ownsRow w.heap.size 21 1 v (pls l).length (rCells (pls l)) ∧ w.grownBy w' (some bl)
/-- What Decode's closure leaves: l's box holds an own row of the scalars; it returns, or it has thrown. -/
def DecPost (l : List UInt8) (bl : Nat) (w : World) (e : Ending) (w' : World) : Prop :=
  e = (if tot l = l.length then .returned (.tuple #[]) else .panicked (thrown (tot l : Int))) ∧ DecQ l bl w w'

theorem rowForm {w : World} {B s n : Nat} {e : TypeId} {v : Value} {xs : List Value} (h : w.ownsRow B e s v n xs) : ∃ a c, v = .slice a n c := by
  obtain ⟨_, ⟨rfl, hn⟩ | ⟨g, cap, cur, rfl, _⟩⟩ := h
  · exact ⟨none, 0, by rw [hn]⟩
  · exact ⟨_, _, rfl⟩

theorem dec_end {l : List UInt8} {bl : Nat} {w w1 W : World} {D : Nat} {v : Value} {ch : Ending} (hs1 : w.heap.size ≤ w1.heap.size) (hll : bl < w.heap.size) (hD : w1.heap.size ≤ D) (h1 : Boxed W bl 50 v)
    (h2 : W.ownsRow w1.heap.size 21 1 v (pls l).length (rCells (pls l))) (h4 : w.grownBy W (some bl)) (hM : W.heap[D]? = some (.deferred (some [])))
    (he : ch = if tot l = l.length then .returned (.tuple #[]) else .panicked (thrown (tot l : Int))) : DecPost l bl w ch (W.putObj D (.deferred none)) := by
  have gp := grownBy_putObj' W D (.deferred none)
  refine ⟨he, v, h1.kept gp (by simp; omega), ?_, gnew h4 gp (fun r e => by cases e; left; omega)⟩
  have h2' : W.ownsRow w.heap.size 21 1 v (pls l).length (rCells (pls l)) := by
    obtain ⟨q1, q2 | ⟨g, cap, cur, q3, q4, q5⟩⟩ := h2
    · exact ⟨q1, .inl q2⟩
    · exact ⟨q1, .inr ⟨g, cap, cur, q3, by omega, q5⟩⟩
  refine h2'.kept gp ?_
  obtain ⟨_, ⟨q2, _⟩ | ⟨g, cap, cur, q3, _, hgg, _⟩⟩ := h2
  · left; rw [q2]; rfl
  · right
    rw [q3]
    intro e
    simp only [Value.ownBlock, Option.some.injEq] at e
    subst e
    rw [hM] at hgg
    cases hgg

set_option maxHeartbeats 8000000 in
theorem decode1_in (s : ByteArray) (b bl : Nat) (w : World) (hs : s.size ≤ 1048576) (hb : Boxed w b 9 (.string s)) (hl : Boxed w bl 50 (.slice none 0 0)) :
    CallsIn Fence.wide 8 Tryz.prog 103 #[.pointer (some ⟨b, 0, none⟩), .pointer (some ⟨bl, 0, none⟩)] w (DecPost s.data.toList bl w) := by
  have hm : s.size ≤ maxLen := by unfold maxLen; omega
  have hc := hb.cell
  have hbl := hb.lt
  have hll := hl.lt
  have hpl : (pls s.data.toList).length ≤ 1048576 := by
    rw [pls_length]
    have h1 := tot_runes_le s.data.toList
    simp at h1
    omega
  obtain ⟨i0, hi, hz0, hz1, hz2⟩ := infoRune_parts
  refine callsIn_of_wp_marks Tryz.func103 rfl trivial ?_ rfl
  simp only [Tryz.ntmps103, List.size_toArray, List.length_cons, List.length_nil, Nat.reduceAdd, Nat.reduceSub, Array.replicate_succ, Array.replicate_zero, List.push_toArray, List.append_toArray, List.nil_append, List.cons_append]
  gi_wp2_with (refine ⟨trivial, ?_⟩; gi_at_call 102; refine (callsIn_wide.2 (scalars_any s _)).mono ?_; rintro e w1 ⟨rfl, hb1, hg1⟩)
  clear hc
  have hs1 := hg1.size
  have hTell := scal1_tells 4 w.heap.size w1.heap.size bl s w1 hb1 ⟨hb1.lt, by omega⟩ hm
  refine range_tellsP (a := _) (w := w1) (α := Told) rfl (by omega) (gf := 135) (lb := #[.pointer (some ⟨w.heap.size, 0, none⟩)]) rfl trivial (enters_of Tryz.func135 (by kernel_rfl) rfl)
    hTell (by simp) (fun _ => rfl) (fun _ _ _ _ _ _ h _ _ _ => h)
    (fun pre W => ∃ v, Boxed W bl 50 v ∧ W.ownsRow w1.heap.size 21 1 v pre.length (rCells pre) ∧ KeptX w1.heap.size bl w1 W ∧ w.grownBy W (some bl)) (fun _ _ _ => False)
    ?hI (fun _ _ _ _ _ h _ _ => h.elim) ⟨_, hl.kept hg1 (by simp), World.ownsRow_nil _ _ _ _, KeptX.refl _, gbut hg1 _⟩ ?a1 ?assign ?body ?done ?stop ?panic
  case hI =>
    rintro pre A B k ⟨v, h1, h2, h3, h4⟩ hg hk
    have hA := h3.1
    rcases hk with rfl | ⟨q, rfl, hq, ho⟩
    · exact ⟨v, h1.kept hg (by simp), h2.kept hg (by cases v.ownBlock <;> simp), h3.trans ⟨hg.size, fun i hi _ => hg.block i (Nat.lt_of_lt_of_le hi h3.1) (by simp)⟩, h4.trans (gbut hg _)⟩
    · refine ⟨v, h1.kept hg (by simp; omega), h2.kept hg ?_, h3.trans (KeptX.grown hg h3.1 (.inr hq)), gnew h4 hg (fun r e => by cases e; left; omega)⟩
      obtain ⟨_, ⟨rfl, _⟩ | ⟨g, cap, cur, rfl, _, hgg, _⟩⟩ := h2
      · exact .inl rfl
      · right
        intro e
        simp only [Value.ownBlock, Option.some.injEq] at e
        subst e
        have := ho _ hgg
        cases this
  case assign =>
    intro l x W K hK
    dsimp only [tEnc]
    gi_wp2
    exact hK
  case body =>
    rintro l2 pre x W ⟨v, h1, h2, h3, h4⟩ hget hsz
    have hpz : pre.length < (pls s.data.toList).length := (List.getElem?_eq_some_iff.1 hget).1
    have r1 := h1.cell
    have r2 := h1.frozen
    clear hTell hb hl hb1
    gi_wp2_with (gi_at_builtin; refine wpListIn_append_own _ rfl _ _ 50 rfl w1.heap.size 21 i0 (.int .i32 0) 1 4 Tryz.underlying50 hi hz0 hz1 hz2 rfl (by decide) _ _ _ rfl (h2.alloc _) ⟨W.heap.size, 0, none⟩ 1 1 [.int .i32 (x.2.1 : Int)] rfl rfl ?c1 ?c2 ?c3 ?c4 ?c5 ?_)
    case c1 =>
      intro j u hj
      match j, hj with
      | 0, hj => simp at hj; subst hj; simp [Addr.add]
    case c2 => intro u hu; simp at hu; subst hu; rfl
    case c3 => unfold maxLen; omega
    case c4 => omega
    case c5 => simp; omega
    intro v' W1 hown' hgrow _
    obtain ⟨a', c', rfl⟩ := rowForm hown'
    have hvb : ∀ q, v.ownBlock = some q → w1.heap.size ≤ q ∧ q < W.heap.size := fun q e => World.ownsRow.lt h2 q e
    have gW : W.grownBy W1 v.ownBlock := (gbut (World.grownBy_alloc W _ none) _).trans hgrow
    have hbb : bl < W.heap.size := h1.lt
    have hne2 : v.ownBlock ≠ some bl := fun e => by have := hvb _ e; omega
    have h1' := h1.kept gW (Ne.symm hne2)
    have r3 := h1'.cell
    have r4 := h1'.frozen
    have hko : KeepsOthers W W1 := KeepsOthers.of_grownBy gW (by
      rintro j o hj ho
      obtain ⟨_, ⟨rfl, _⟩ | ⟨g, cap, cur, rfl, _, hgg, _⟩⟩ := h2
      · cases hj
      · simp only [Value.ownBlock, Option.some.injEq] at hj
        subst hj
        rw [hgg] at ho
        cases ho
        rfl)
    have hkx : KeptX w1.heap.size bl W W1 := ⟨gW.size, fun k hk _ => gW.block k (by omega) (fun e => by have := hvb k e.symm; omega)⟩
    have hbw : w.grownBy W1 (some bl) := gnew h4 gW (fun q e => by have := hvb q e; left; omega)
    have hown2 : W1.ownsRow w1.heap.size 21 1 (.slice a' (pre.length + 1) c') (pre ++ [x]).length (rCells (pre ++ [x])) := by
      simpa [rCells] using hown'
    have hvb2 := World.ownsRow.lt hown2
    replace hown2 := Lib.hid hown2
    replace h1' := Lib.hid h1'
    replace hko := Lib.hid hko
    replace hkx := Lib.hid hkx
    replace hbw := Lib.hid hbw
    replace h3 := Lib.hid h3
    clear hown' hgrow h2 h1 r1 r2 h4 hget
    gi_wp2_with fail
    have gs := gset (World.grownBy.refl W1 (some bl)) 0 (.slice a' (pre.length + 1) c')
    refine ⟨hko.out.trans (KeepsOthers.setCell W1 _ _), hkx.out.trans (KeptX.grown gs (Nat.le_trans hsz hkx.out.1) (.inl rfl)), _, h1'.out.set _, hown2.out.kept gs ?_, (h3.out.trans hkx.out).trans (KeptX.grown gs (Nat.le_trans hsz hkx.out.1) (.inl rfl)), hbw.out.trans gs⟩
    right
    intro e
    have := hvb2 _ e
    omega
  case stop =>
    rintro D c pre Wd W15 hD _ h _ _
    exact h.elim
  case done =>
    rintro D xs Wd W15 hD hS ⟨v, h1, h2, h3, h4⟩ hg hM
    obtain ⟨rfl, hS⟩ := hS
    have hP : DecPost s.data.toList bl w (.returned (.tuple #[])) (W15.putObj D (.deferred none)) := dec_end hs1 hll hD h1 h2 h4 hM (by rw [if_pos hS])
    clear hTell hb hl hb1 h1 h2 h3 h4 hg
    gi_wp2_with fail
    refine ⟨by simp, .inl ⟨_, _, rfl, run_takeDeferred hM, ?_⟩⟩
    simp [LeavesInM, LeavesIn, results, Tryz.results103, go_sem]
    exact hP
  case panic =>
    rintro D ch pre W15 hD hS ⟨v, h1, h2, h3, h4⟩ hM
    obtain ⟨rfl, hS, rfl⟩ := hS
    have hP : DecPost s.data.toList bl w (.panicked (thrown (tot s.data.toList : Int))) (W15.putObj D (.deferred none)) := dec_end hs1 hll hD h1 h2 h4 hM (by rw [if_neg hS])
    clear hTell
    refine ⟨by simp, .inl ⟨_, _, rfl, run_takeDeferred hM, ?_⟩⟩
    simp [LeavesInM, LeavesIn]
    exact hP
theorem decode1_any (s : ByteArray) (b bl : Nat) (w : World) (hs : s.size ≤ 1048576) (hb : Boxed w b 9 (.string s)) (hl : Boxed w bl 50 (.slice none 0 0)) :
    Calls Tryz.prog 103 #[.pointer (some ⟨b, 0, none⟩), .pointer (some ⟨bl, 0, none⟩)] w (DecPost s.data.toList bl w) := callsIn_wide.1 (decode1_in s b bl w hs hb hl)

theorem _root_.Go.Proofs.YtpdacbiiaglodaaGreat.Row.keptD {w w' : World} {v : Value} {vs : List Value} {r : Nat} (h : Row w v vs) (hg : w.grownBy w' (some r)) (hne : v.ownBlock ≠ some r) : Row w' v vs := by
  rcases h with h | ⟨b, off, cap, rfl, h1, h2, hc⟩
  · exact .inl h
  · refine .inr ⟨b, off, cap, rfl, h1, h2, fun i u hu => ?_⟩
    have h3 := hc i u hu
    have hlt : b < w.heap.size := World.block_lt_of_cell? w _ h3
    have := hg.block b hlt (fun e => hne (by simp only [Value.ownBlock]; exact e.symm ▸ rfl))
    simp only [World.cell?] at h3 ⊢
    rw [this]; exact h3

/-- Clip of an own row. -/
theorem clip_own (B n : Nat) (v : Value) (vs : List Value) (w : World) (h : w.ownsRow B 21 1 v n vs) (hn : n = vs.length) :
    Calls Tryz.prog 69 #[v] w fun e w' => ∃ a c, e = .returned (.slice a vs.length c) ∧ Row w (.slice a vs.length c) vs ∧ (Value.slice a vs.length c).ownBlock = v.ownBlock ∧ w = w' := by
  subst hn
  obtain ⟨h0, ⟨rfl, hn⟩ | ⟨g, cap, cur, rfl, hB, hgg, h1, h2, h3, h4⟩⟩ := h
  · obtain rfl := List.length_eq_zero_iff.1 hn
    exact (clip_nil w).mono fun e w' ⟨h1, h2⟩ => ⟨none, 0, h1, .inl ⟨rfl, rfl⟩, rfl, h2⟩
  · refine (clip_any g vs.length cap w h1 h2).mono fun e w' ⟨q1, q2⟩ => ⟨_, _, q1, .inr ⟨g, 0, vs.length, rfl, Nat.le_refl _, Nat.le_trans h1 h2, fun i u hu => ?_⟩, rfl, q2⟩
    rw [Nat.mul_one] at h4
    have hi := (List.getElem?_eq_some_iff.1 hu).1
    have h5 : cur.toList[i]? = some u := by
      rw [← h4, List.getElem?_take_of_lt hi] at hu
      exact hu
    have h6 : cur[i]? = some u := by simpa using h5
    have hj := (Array.getElem?_eq_some_iff.1 h6).1
    rw [Nat.zero_add]
    simp [World.cell?, hgg, go_sem, h6]

/-- What stands behind the closure that is caught. -/
theorem dec_caught (s : ByteArray) (w w1 : World) (hw1 : w1 = (w.alloc (.cells #[.string s] 9)).alloc (.cells #[.slice none 0 0] 50)) (hs : s.size ≤ 1048576) :
    Calls Tryz.prog 100 #[.func (.func 103) #[] #[.pointer (some ⟨w.heap.size, 0, none⟩), .pointer (some ⟨w.heap.size + 1, 0, none⟩)]] w1 fun e w' =>
      e = .returned (if tot s.data.toList = s.data.toList.length then .tuple #[.int .i64 0, .int .i64 0] else .tuple #[.int .i64 (tot s.data.toList : Int), .int .i64 40]) ∧
      ∃ v, Boxed w' (w.heap.size + 1) 50 v ∧ w'.ownsRow (w.heap.size + 2) 21 1 v (pls s.data.toList).length (rCells (pls s.data.toList)) ∧ Below w.heap.size w w' := by
  have hb1 : Boxed w1 w.heap.size 9 (.string s) := by rw [hw1]; exact (Boxed.new w _ _).alloc _
  have hl1 : Boxed w1 (w.heap.size + 1) 50 (.slice none 0 0) := by
    have := Boxed.new (w.alloc (.cells #[.string s] 9)) 50 (.slice none 0 0)
    rw [World.size_alloc] at this
    rwa [hw1]
  have hg1 : w.grownBy w1 none := by rw [hw1]; exact galloc (World.grownBy_alloc w _ none) _
  have hsz : w1.heap.size = w.heap.size + 2 := by rw [hw1]; simp
  have hsz2 : (two w1).heap.size = w.heap.size + 4 := by unfold two; simp [hsz]
  have hcl := decode1_any s w.heap.size (w.heap.size + 1) (two w1) hs (hb1.kept (two_grown w1) (by simp)) (hl1.kept (two_grown w1) (by simp))
  have key : ∀ (x e : Int) (w3 : World) (v : Value), Boxed w3 (w.heap.size + 1) 50 v → w3.ownsRow (two w1).heap.size 21 1 v (pls s.data.toList).length (rCells (pls s.data.toList)) → (two w1).grownBy w3 (some (w.heap.size + 1)) →
      ∃ v, Boxed (res w1 x e w3) (w.heap.size + 1) 50 v ∧ (res w1 x e w3).ownsRow (w.heap.size + 2) 21 1 v (pls s.data.toList).length (rCells (pls s.data.toList)) ∧ Below w.heap.size w (res w1 x e w3) := by
    intro x e w3 v h1 h2 h3
    have hlt := World.ownsRow.lt h2
    refine ⟨v, ?_, ?_, ?_⟩
    · unfold res; exact (h1.other (by omega) _).other (by omega) _
    · have h2' : w3.ownsRow (w.heap.size + 2) 21 1 v (pls s.data.toList).length (rCells (pls s.data.toList)) := by
        obtain ⟨q1, q2 | ⟨g, cap, cur, q3, q4, q5⟩⟩ := h2
        · exact ⟨q1, .inl q2⟩
        · exact ⟨q1, .inr ⟨g, cap, cur, q3, by omega, q5⟩⟩
      unfold res
      refine (h2'.kept (grownBy_setCell' w3 _ _) ?_).kept (grownBy_setCell' _ _ _) ?_
      all_goals
        right
        intro e
        have := hlt _ e
        omega
    · have hB : Below w.heap.size w w3 := (belowg' ((hg1.trans (two_grown w1)))).trans (gbelow h3 (by omega) (fun r e => by cases e; omega))
      unfold res
      exact (hB.setCell (p := ⟨w1.heap.size, 0, none⟩) (by show w.heap.size ≤ w1.heap.size; omega) _).setCell (p := ⟨w1.heap.size + 1, 0, none⟩) (by show w.heap.size ≤ w1.heap.size + 1; omega) _
  have hT : ∀ w3, DecQ s.data.toList (w.heap.size + 1) (two w1) w3 → Two w1 w3 := by
    rintro w3 ⟨v, _, _, h3⟩
    exact ⟨(two_two w1).1.kept h3 (by simp; omega), (two_two w1).2.kept h3 (by simp; omega)⟩
  by_cases h : tot s.data.toList = s.data.toList.length
  · refine (caught_ok 103 #[] #[.pointer (some ⟨w.heap.size, 0, none⟩), .pointer (some ⟨w.heap.size + 1, 0, none⟩)] w1 (DecQ s.data.toList (w.heap.size + 1) (two w1)) (enters_of Tryz.func103 (by kernel_rfl) rfl) (hcl.mono fun e w' ⟨h1, h2⟩ => ⟨by rw [if_pos h] at h1; exact ⟨_, h1⟩, h2⟩) hT).mono ?_
    rintro e w' ⟨rfl, w3, ⟨v, h1, h2, h3⟩, rfl⟩
    rw [if_pos h]
    exact ⟨rfl, key _ _ _ _ h1 h2 h3⟩
  · refine (caught_bad 103 #[] #[.pointer (some ⟨w.heap.size, 0, none⟩), .pointer (some ⟨w.heap.size + 1, 0, none⟩)] (tot s.data.toList : Int) w1 (DecQ s.data.toList (w.heap.size + 1) (two w1)) (enters_of Tryz.func103 (by kernel_rfl) rfl) (hcl.mono fun e w' ⟨h1, h2⟩ => ⟨by rw [if_neg h] at h1; exact h1, h2⟩) hT).mono ?_
    rintro e w' ⟨rfl, w3, ⟨v, h1, h2, h3⟩, rfl⟩
    rw [if_neg h]
    exact ⟨rfl, key _ _ _ _ h1 h2 h3⟩

set_option maxHeartbeats 1000000 in
theorem decode_new (s : ByteArray) (w : World) (hs : s.size ≤ 1048576) (h : tot s.data.toList = s.data.toList.length) :
    Calls Tryz.prog 58 #[.string s] w fun e w' => ∃ v, e = .returned (.tuple #[v, .int .i64 0, .int .i64 0]) ∧ (∀ k, v.ownBlock = some k → w.heap.size ≤ k) ∧ Runes w' v (runes s.data.toList) ∧ Below w.heap.size w w' := by
  have hmf : ∀ (fn : Fn) (first cap : Array Value) (w : World), (Instr.makeFunc fn first cap).run Tryz.prog w = .ok (.func fn first cap) w := fun _ _ _ _ => rfl
  go_enter Tryz.func58, Tryz.ntmps58
  obtain ⟨w1, hw1⟩ : ∃ w1, w1 = (w.alloc (.cells #[.string s] 9)).alloc (.cells #[.slice none 0 0] 50) := ⟨_, rfl⟩
  have hc := dec_caught s w w1 hw1 hs
  rw [if_pos h] at hc
  replace hw1 := Lib.hid hw1
  go_wp2_with fail
  rw [← hw1.out]
  go_wp2_with (first
    | (go_at_call 100; refine hc.mono ?_; rintro e W ⟨rfl, v, hbx, hown, hbel⟩; have r1 := hbx.cell; have r2 := hbx.frozen; have hC := clip_own _ _ v _ W hown (by simp [rCells]); rw [pls_cells] at hC)
    | (go_at_call 69; refine hC.mono ?_; rintro e W2 ⟨a, c, rfl, hrow, hob, rfl⟩))
  have gs := grownBy_setCell' W (w.heap.size + 1) (.slice a (runeCells (runes s.data.toList)).length c)
  have hne : (Value.slice a (runeCells (runes s.data.toList)).length c).ownBlock ≠ some (w.heap.size + 1) := fun e => by
    rw [hob] at e
    have := World.ownsRow.lt hown _ e
    omega
  have hrow2 := hrow.keptD gs hne
  have hbx2 := (hbx.set (.slice a (runeCells (runes s.data.toList)).length c)).cell
  have hB := hbel.setCell (p := ⟨w.heap.size + 1, 0, none⟩) (by show w.heap.size ≤ w.heap.size + 1; omega) (.slice a (runeCells (runes s.data.toList)).length c)
  refine bodyPost_ret (v := .tuple #[.slice a (runeCells (runes s.data.toList)).length c, .int .i64 0, .int .i64 0]) ?_ rfl ⟨_, rfl, fun k e => by { rw [hob] at e; have := World.ownsRow.lt hown _ e; omega }, hrow2, hB⟩
  simp [results, Tryz.results58, go_sem, hbx2]
theorem decode_ok (s : ByteArray) (w : World) (hs : s.size ≤ 1048576) (h : tot s.data.toList = s.data.toList.length) :
    Calls Tryz.prog 58 #[.string s] w fun e w' => ∃ v, e = .returned (.tuple #[v, .int .i64 0, .int .i64 0]) ∧ Runes w' v (runes s.data.toList) ∧ Below w.heap.size w w' :=
  (decode_new s w hs h).mono fun _ _ ⟨v, h1, _, h3⟩ => ⟨v, h1, h3⟩

set_option maxHeartbeats 1000000 in
theorem decode_bad (s : ByteArray) (w : World) (hs : s.size ≤ 1048576) (h : tot s.data.toList ≠ s.data.toList.length) :
    Calls Tryz.prog 58 #[.string s] w fun e w' => e = .returned (.tuple #[.slice none 0 0, .int .i64 (tot s.data.toList : Int), .int .i64 40]) ∧ Below w.heap.size w w' := by
  have hmf : ∀ (fn : Fn) (first cap : Array Value) (w : World), (Instr.makeFunc fn first cap).run Tryz.prog w = .ok (.func fn first cap) w := fun _ _ _ _ => rfl
  have hl := tot_length s.data.toList
  have hl2 : s.data.toList.length = s.size := by simp
  go_enter Tryz.func58, Tryz.ntmps58
  obtain ⟨w1, hw1⟩ : ∃ w1, w1 = (w.alloc (.cells #[.string s] 9)).alloc (.cells #[.slice none 0 0] 50) := ⟨_, rfl⟩
  have hc := dec_caught s w w1 hw1 hs
  rw [if_neg h] at hc
  replace hw1 := Lib.hid hw1
  generalize tot s.data.toList = T at hc hl ⊢
  clear h hl2
  go_wp2_with fail
  rw [← hw1.out]
  go_wp2_with (go_at_call 100; refine hc.mono ?_; rintro e W ⟨rfl, v, hbx, hown, hbel⟩; have r1 := hbx.cell; have r2 := hbx.frozen)
  have hbx2 := (hbx.set (.slice none 0 0)).cell
  have hB := hbel.setCell (p := ⟨w.heap.size + 1, 0, none⟩) (by show w.heap.size ≤ w.heap.size + 1; omega) (.slice none 0 0)
  refine bodyPost_ret (v := .tuple #[.slice none 0 0, .int .i64 (T : Int), .int .i64 40]) ?_ rfl ⟨rfl, hB⟩
  simp [results, Tryz.results58, go_sem, hbx2]

end Go.Proofs.YtpdacbiiaglodaaGreat.U

/-
  LAYER 6 (norm), plain: lists in order; the normal form of a list and of a text; once is enough.
-/
namespace Go.Proofs.YtpdacbiiaglodaaGreat
set_option maxRecDepth 100000

section
variable (f : Int → Int)
/-- In order: nothing stands behind what it should stand ahead of. -/
def Chn : List Int → Prop
  | [] => True
  | x :: t => (∀ y, t.head? = some y → ¬ (0 < f y ∧ f y < f x)) ∧ Chn t
theorem Chn.app : ∀ (A B : List Int), Chn f A → Chn f B → (∀ x y, A.getLast? = some x → B.head? = some y → ¬ (0 < f y ∧ f y < f x)) → Chn f (A ++ B)
  | [], _, _, h, _ => h
  | x :: t, B, h1, h2, h3 => by
    refine ⟨fun y hy => ?_, Chn.app t B h1.2 h2 (fun a b ha hb => h3 a b ?_ hb)⟩
    · cases t with
      | nil => exact h3 x y (by simp) (by simpa using hy)
      | cons z t => exact h1.1 y (by simpa using hy)
    · cases t with
      | nil => simp at ha
      | cons z t => simpa [List.getLast?_cons_cons] using ha
theorem Chn.left : ∀ (A B : List Int), Chn f (A ++ B) → Chn f A
  | [], _, _ => trivial
  | x :: t, B, h => by
    refine ⟨fun y hy => h.1 y ?_, Chn.left t B h.2⟩
    cases t with
    | nil => simp at hy
    | cons z t => simpa using hy
theorem Chn.right : ∀ (A B : List Int), Chn f (A ++ B) → Chn f B
  | [], _, h => h
  | _ :: t, B, h => Chn.right t B h.2
theorem Chn.mid : ∀ (A B : List Int) (x y : Int), A.getLast? = some x → B.head? = some y → Chn f (A ++ B) → ¬ (0 < f y ∧ f y < f x)
  | [], _, _, _, h, _, _ => by simp at h
  | a :: t, B, x, y, h1, h2, h => by
    cases t with
    | nil =>
      simp only [List.getLast?_singleton, Option.some.injEq] at h1
      subst h1
      exact h.1 y (by simpa using h2)
    | cons z t => exact Chn.mid (z :: t) B x y (by simpa [List.getLast?_cons_cons] using h1) h2 h.2
theorem insR_chn (out : List Int) (r : Int) (h : Chn f out) : Chn f (insR f out r) := by
  obtain ⟨S1, S2, e, q1, q2, q3⟩ := insR_split f out r
  subst e
  rw [q1]
  refine Chn.app f S1 (r :: S2) (h.left f S1 S2) ⟨fun y hy => ?_, h.right f S1 S2⟩ (fun x y hx hy => ?_)
  · have := q2 y (List.mem_of_head? hy)
    omega
  · simp only [List.head?_cons, Option.some.injEq] at hy
    subst hy
    exact q3 x hx
theorem foldl_chn : ∀ (l out : List Int), Chn f out → Chn f (l.foldl (insR f) out)
  | [], _, h => h
  | x :: t, out, h => foldl_chn t _ (insR_chn f out x h)
theorem ord_chn (l : List Int) : Chn f (ord f l) := foldl_chn f l [] trivial
theorem insR_end (out : List Int) (r : Int) (h : ∀ y, out.getLast? = some y → ¬ (0 < f r ∧ f r < f y)) : insR f out r = out ++ [r] := by
  unfold insR
  cases e : out.reverse with
  | nil =>
    obtain rfl : out = [] := by simpa using e
    rfl
  | cons y t =>
    have e2 : out = t.reverse ++ [y] := by have := congrArg List.reverse e; simpa using this
    rw [insB, if_neg (h y (by rw [e2]; simp))]
    rw [e2]
    simp
theorem foldl_same : ∀ (l out : List Int), Chn f (out ++ l) → l.foldl (insR f) out = out ++ l
  | [], out, _ => by simp
  | x :: t, out, h => by
    rw [List.foldl_cons, insR_end f out x (fun y hy => h.mid f out (x :: t) y x hy (by simp)), foldl_same t (out ++ [x]) (by simpa using h)]
    simp
theorem ord_same {l : List Int} (h : Chn f l) : ord f l = l := by
  have := foldl_same f l [] (by simpa using h)
  simpa [ord] using this
theorem ord_once (l : List Int) : ord f (ord f l) = ord f l := ord_same f (ord_chn f l)
theorem insR_perm (out : List Int) (r : Int) : (insR f out r).Perm (r :: out) := by
  obtain ⟨S1, S2, e, q1, _, _⟩ := insR_split f out r
  rw [q1, e]
  exact List.perm_middle
theorem foldl_perm : ∀ (l out : List Int), (l.foldl (insR f) out).Perm (out ++ l)
  | [], out => by simp
  | x :: t, out => by
    rw [List.foldl_cons]
    refine (foldl_perm t _).trans ?_
    refine ((insR_perm f out x).append_right t).trans ?_
    exact List.perm_middle.symm
theorem ord_perm (l : List Int) : (ord f l).Perm l := by simpa [ord] using foldl_perm f l []
theorem ord_mem (l : List Int) (y : Int) : y ∈ ord f l ↔ y ∈ l := (ord_perm f l).mem_iff
end

theorem flatMap_same {g : Int → List Int} : ∀ {l : List Int}, (∀ y ∈ l, g y = [y]) → l.flatMap g = l
  | [], _ => rfl
  | x :: t, h => by rw [List.flatMap_cons, h x (by simp), flatMap_same (fun y hy => h y (by simp [hy]))]; rfl
theorem flatMap_len {g : Int → List Int} (hg : ∀ r, (g r).length ≤ 7) : ∀ l : List Int, (l.flatMap g).length ≤ 7 * l.length
  | [] => by simp
  | x :: t => by rw [List.flatMap_cons, List.length_append, List.length_cons]; have := flatMap_len hg t; have := hg x; omega

/-- What decompositions come to: short, of scalars, and to no more. -/
structure DfOk (df : Int → List Int) : Prop where
  len : ∀ r, (df r).length ≤ 7
  sc : ∀ r, scal r = true → ∀ y ∈ df r, scal y = true
  end_ : ∀ r, ∀ y ∈ df r, df y = [y]
/-- The normal form of a list. -/
def nf (cf : Int → Int) (df : Int → List Int) (l : List Int) : List Int := ord cf (l.flatMap df)
theorem nf_once {cf : Int → Int} {df : Int → List Int} (h : DfOk df) (l : List Int) : nf cf df (nf cf df l) = nf cf df l := by
  unfold nf
  rw [flatMap_same (fun y hy => ?_), ord_once]
  rw [ord_mem] at hy
  obtain ⟨r, _, hr⟩ := List.mem_flatMap.1 hy
  exact h.end_ r y hr
theorem nf_len {cf : Int → Int} {df : Int → List Int} (h : DfOk df) (l : List Int) : (nf cf df l).length ≤ 7 * l.length := by
  unfold nf
  rw [ord_length]
  exact flatMap_len h.len l
theorem nf_sc {cf : Int → Int} {df : Int → List Int} (h : DfOk df) {l : List Int} (hl : ∀ r ∈ l, scal r = true) : ∀ y ∈ nf cf df l, scal y = true := by
  intro y hy
  unfold nf at hy
  rw [ord_mem] at hy
  obtain ⟨r, hr, hy⟩ := List.mem_flatMap.1 hy
  exact h.sc r (hl r hr) y hy

theorem uscal (r : Int) : U.scalar r = scal r := by
  rw [Bool.eq_iff_iff]
  simp only [U.scalar, scal, Bool.or_eq_true, Bool.and_eq_true, decide_eq_true_eq]
theorem rs_scal : ∀ (k : Nat) (l : List UInt8), l.length ≤ k → ∀ x ∈ U.rs l, scal (x.1 : Int) = true := by
  intro k
  induction k with
  | zero =>
    intro l hl x hx
    obtain rfl := List.length_eq_zero_iff.1 (Nat.le_zero.1 hl)
    rw [U.rs_none U.dec_nil] at hx
    cases hx
  | succ k ih =>
    intro l hl x hx
    cases hd : U.dec l with
    | none => rw [U.rs_none hd] at hx; cases hx
    | some p =>
      obtain ⟨r, n⟩ := p
      obtain ⟨h1, h2, h3, h4, _⟩ := U.dec_some hd
      rw [U.rs_some hd] at hx
      rcases List.mem_cons.1 hx with rfl | hx
      · rw [← uscal]; exact h4
      · exact ih (l.drop n) (by rw [List.length_drop]; omega) x hx
theorem runes_scal (l : List UInt8) : ∀ r ∈ U.runes l, scal r = true := by
  intro r hr
  obtain ⟨x, hx, rfl⟩ := List.mem_map.1 hr
  exact rs_scal _ l (Nat.le_refl _) x hx

/-! ### Texts -/
def txE (l : List UInt8) : Int := if U.tot l = l.length then (if 1000 < l.length then 2 else 0) else 40
def txV (cf : Int → Int) (df : Int → List Int) (l : List UInt8) : List UInt8 := if txE l = 0 then U.enc (nf cf df (U.runes l)) else []
theorem txE_zero {l : List UInt8} (h : txE l = 0) : U.tot l = l.length ∧ l.length ≤ 1000 := by
  unfold txE at h
  by_cases h1 : U.tot l = l.length
  · rw [if_pos h1] at h
    by_cases h2 : 1000 < l.length
    · rw [if_pos h2] at h; cases h
    · exact ⟨h1, by omega⟩
  · rw [if_neg h1] at h; cases h
theorem txE_ok {l : List UInt8} (h1 : U.tot l = l.length) (h2 : l.length ≤ 1000) : txE l = 0 := by
  unfold txE
  rw [if_pos h1, if_neg (by omega)]
theorem txE_cases (l : List UInt8) : (U.tot l ≠ l.length ∧ txE l = 40) ∨ (U.tot l = l.length ∧ 1000 < l.length ∧ txE l = 2) ∨ (U.tot l = l.length ∧ l.length ≤ 1000 ∧ txE l = 0) := by
  unfold txE
  by_cases h1 : U.tot l = l.length
  · by_cases h2 : 1000 < l.length
    · exact .inr (.inl ⟨h1, h2, by rw [if_pos h1, if_pos h2]⟩)
    · exact .inr (.inr ⟨h1, by omega, by rw [if_pos h1, if_neg h2]⟩)
  · exact .inl ⟨h1, by rw [if_neg h1]⟩
theorem txV_ok {cf : Int → Int} {df : Int → List Int} {l : List UInt8} (h : txE l = 0) : txV cf df l = U.enc (nf cf df (U.runes l)) := if_pos h
theorem txV_no {cf : Int → Int} {df : Int → List Int} {l : List UInt8} (h : txE l ≠ 0) : txV cf df l = [] := if_neg h
theorem nf_allSc {cf : Int → Int} {df : Int → List Int} (h : DfOk df) (l : List UInt8) : U.allSc (nf cf df (U.runes l)) := fun y hy => by
  rw [uscal]
  exact nf_sc h (runes_scal l) y hy
/-- A normal text is a text. -/
theorem txV_valid {cf : Int → Int} {df : Int → List Int} (h : DfOk df) {l : List UInt8} : U.tot (txV cf df l) = (txV cf df l).length := by
  by_cases h0 : txE l = 0
  · rw [txV_ok h0]
    exact (U.enc_back _ (nf_allSc h l)).2
  · rw [txV_no h0]; rfl
theorem txV_once {cf : Int → Int} {df : Int → List Int} (h : DfOk df) {l : List UInt8} (hl : (txV cf df l).length ≤ 1000) : txE (txV cf df l) = 0 ∧ txV cf df (txV cf df l) = txV cf df l := by
  have h1 : txE (txV cf df l) = 0 := txE_ok (txV_valid h) hl
  refine ⟨h1, ?_⟩
  rw [txV_ok h1]
  by_cases h0 : txE l = 0
  · rw [txV_ok h0, (U.enc_back _ (nf_allSc h l)).1, nf_once h]
  · rw [txV_no h0]; rfl
theorem enc_len : ∀ l : List Int, (U.enc l).length ≤ 4 * l.length
  | [] => by simp [U.enc]
  | x :: t => by
    rw [U.enc_cons, List.length_append, List.length_cons, U.form_length]
    have := enc_len t
    have : U.wideOf x.toNat ≤ 4 := by unfold U.wideOf; split <;> (try split) <;> (try split) <;> omega
    omega
theorem txV_len {cf : Int → Int} {df : Int → List Int} (h : DfOk df) (l : List UInt8) : (txV cf df l).length ≤ 28000 := by
  by_cases h0 : txE l = 0
  · rw [txV_ok h0]
    have h1 := enc_len (nf cf df (U.runes l))
    have h2 := nf_len (cf := cf) h (U.runes l)
    have h3 := U.tot_runes_le l
    have h4 := (txE_zero h0).2
    omega
  · rw [txV_no h0]; simp

/-! ### The small data -/
theorem small_jamo : ∀ x ∈ smallD, x.1 < 4352 ∨ 4546 < x.1 := by decide +kernel
theorem small_end : ∀ x ∈ smallD, ∀ y ∈ whl smallD 4 x, told' smallD y = [y] ∧ scal y = true := by decide +kernel
theorem stp_none {d : List Dec} {r : Int} (h : ∀ x ∈ d, x.1 ≠ r) : stp d r = none := by
  unfold stp
  rw [List.find?_eq_none]
  intro x hx
  simpa using h x hx
theorem hang_jamo {r : Int} (h : syl r = true) : ∀ y ∈ hang r, 4352 ≤ y ∧ y ≤ 4546 := by
  unfold syl at h
  rw [decide_eq_true_eq] at h
  intro y hy
  simp only [hang, List.mem_append, List.mem_cons, List.not_mem_nil, or_false] at hy
  rcases hy with (rfl | rfl) | hy
  · omega
  · omega
  · split at hy
    · cases hy
    · simp only [List.mem_cons, List.not_mem_nil, or_false] at hy
      omega
theorem small_dfok : DfOk (told' smallD) := by
  refine ⟨told_length smallD, fun r hr y hy => ?_, fun r y hy => ?_⟩
  · unfold told' at hy
    cases hs : stp smallD r with
    | none =>
      rw [hs] at hy
      simp only [byR] at hy
      split at hy
      · rename_i h
        have := hang_jamo h y hy
        simp only [scal, decide_eq_true_eq]
        omega
      · simp only [List.mem_cons, List.not_mem_nil, or_false] at hy
        subst hy; exact hr
    | some x =>
      rw [hs] at hy
      unfold stp at hs
      exact (small_end x (List.mem_of_find?_eq_some hs) y hy).2
  · unfold told' at hy
    cases hs : stp smallD r with
    | none =>
      rw [hs] at hy
      simp only [byR] at hy
      split at hy
      · rename_i h
        have hj := hang_jamo h y hy
        have hn : stp smallD y = none := stp_none fun x hx e => by
          have := small_jamo x hx
          omega
        unfold told'
        rw [hn]
        show byR y = [y]
        unfold byR syl
        rw [decide_eq_false (by omega)]
        rfl
      · simp only [List.mem_cons, List.not_mem_nil, or_false] at hy
        subst hy
        rename_i h
        unfold told'
        rw [hs]
        show byR y = [y]
        unfold byR
        rw [if_neg h]
    | some x =>
      rw [hs] at hy
      unfold stp at hs
      exact (small_end x (List.mem_of_find?_eq_some hs) y hy).1
end Go.Proofs.YtpdacbiiaglodaaGreat

/-
  LAYER 6 (norm): NFD of a list.
-/
namespace Go.Proofs.YtpdacbiiaglodaaGreat
set_option maxRecDepth 100000
open Go.RowKit Go.Lib

set_option maxHeartbeats 8000000 in
theorem nfd_any (p v : Value) (cf : Int → Int) (df : Int → List Int) (F : Nat → Prop) (l : List Int) (w : World) (hN : ND p cf df F w) (hR : RS w v l) (hsc : allSc l = true) (hl : l.length ≤ 4096) (hv : l ≠ [] → ∀ k, v.ownBlock = some k → p ≠ .pointer (some ⟨k, 0, none⟩)) (hfl : (l.flatMap df).length < 549755813888) :
    Calls Tryz.prog 38 #[p, v] w fun e w' => ∃ a n, e = .returned (.tuple #[.slice a n n, .int .i64 0]) ∧ n = (l.flatMap df).length ∧ RO w.heap.size w' (.slice a n n) (ord cf (l.flatMap df)) ∧ ∃ F' : Nat → Prop, ND p cf df F' w' ∧ (∀ k, F k → F' k) ∧ (∀ k, F' k → F k ∨ w.heap.size ≤ k) ∧ GX (fun k => p = .pointer (some ⟨k, 0, none⟩)) w w' := by
  have hC := containsFunc_any v l w hR (by omega)
  rw [hsc] at hC
  have hNew := new_strm p cf df F w hN
  have hmf : ∀ (fn : Fn) (first cap : Array Value) (w : World), (Instr.makeFunc fn first cap).run Tryz.prog w = .ok (.func fn first cap) w := fun _ _ _ _ => rfl
  have hT := fun W (hS : Strm W w.heap.size p cf df F (.slice none 0 0) []) (hg : w.grownBy W none) => told_any w.heap.size p v cf df F l W hS (hR.new hg) (fun r hr => by rw [allSc, List.all_eq_true] at hsc; exact hsc r hr) (fun hne k e => ⟨fun h => by have := hR.lt hne k e; omega, hv hne k e⟩) (by omega) hfl
  have hpl := psh_len cf (l.flatMap df) []
  have hpo := psh_ord cf (l.flatMap df) []
  rw [List.nil_append] at hpo
  have hE := fun W hv' F' (hS : Strm W w.heap.size p cf df F' hv' (psh cf [] (l.flatMap df)).2) => end_any w.heap.size p cf df F' hv' _ W hS (by simp only [List.length_nil] at hpl; omega)
  unfold TInv at hT
  obtain ⟨a, c, rfl, _⟩ := hR
  generalize psh cf [] (l.flatMap df) = po at hT hpl hpo hE
  obtain ⟨o, h1⟩ := po
  dsimp only at hT hpl hpo hE
  have HPO := Lib.hid hpo
  have hol : o.length + h1.length = (l.flatMap df).length := by simpa using hpl
  obtain ⟨n, hn⟩ : ∃ n, n = l.length := ⟨_, rfl⟩
  rw [← hn] at hC hT hl ⊢
  have HOL := Lib.hid hol
  have HFL := Lib.hid hfl
  clear hn hpl hpo hol hfl hN hsc hv
  go_enter Tryz.func38, Tryz.ntmps38
  go_wp2_with (first
    | (go_at_call 72; refine hC.mono ?_; rintro e w' ⟨rfl, rfl⟩)
    | (go_at_call 31; refine hNew.mono ?_; rintro e w1 ⟨rfl, hS1, hg1⟩; have hlt1 := hS1.at_.lt)
    | (go_at_call 74; refine (hT _ hS1 hg1).mono ?_; rintro e w2 ⟨v2, rfl, hv2, F2, o2, S2, t1, t2, t3, t4, t5⟩; obtain ⟨a2, n2, rfl⟩ := o2.form; have hsz2 := t5.size; have hE2 := hE _ _ _ S2)
    | (go_at_call 36; refine hE2.mono ?_; rintro e w3 ⟨a3, rfl, hr3, S3, hg3⟩; have o3 := o2.kept hg3 (fun k e e' => by cases e'; have := (o2.lt _ e).1; omega))
    | (at_builtin; refine wpList_append_rs _ rfl _ _ 50 rfl w1.heap.size Tryz.underlying50 (.slice a2 o.length n2) o rfl o3 (.slice a3 h1.length h1.length) (ord cf h1) rfl hr3.reads (by rw [ord_length]; have := HOL.out; have := HFL.out; omega) (by have := hg3.size; omega) ?_; intro v4 w4 ho4 hg4 hb4; obtain ⟨a4, m4, rfl⟩ := ho4.form; have hcl := clip_any w1.heap.size _ _ w4 ho4.ro (by rw [List.length_append, ord_length]; have := HOL.out; have := HFL.out; omega); rw [List.length_append] at hcl)
    | (go_at_call 69; refine hcl.mono ?_; rintro e w5 ⟨a5, rfl, hr5, rfl⟩))
  go_ret2
  have hfin : GX (fun k => p = .pointer (some ⟨k, 0, none⟩)) w w4 := (((GX.of hg1 (by simp)).trans t5 (fun k hk => hk.imp id (fun h => by omega))).step hg3 (fun k e => .inr (by cases e; exact Nat.le_refl _))).step hg4 (fun k e => .inr (by have := (o2.lt k e).1; omega))
  refine ⟨a5, o.length + (ord cf h1).length, rfl, by rw [ord_length]; exact HOL.out, ?_, F2, S3.nd.grown hg4 (fun k e => (t3 k e).1), t1, fun k hk => (t2 k hk).imp id (fun h => by omega), hfin⟩
  rw [HPO.out]
  exact hr5.low (by omega)
theorem nfd_bad (p v : Value) (l : List Int) (w : World) (hR : RS w v l) (hsc : allSc l = false) (hlen : l.length < 1099511627776) :
    Calls Tryz.prog 38 #[p, v] w fun e w' => e = .returned (.tuple #[.slice none 0 0, .int .i64 41]) ∧ w = w' := by
  have hC := containsFunc_any v l w hR hlen
  rw [hsc] at hC
  obtain ⟨a, c, rfl, _⟩ := hR
  generalize l.length = n at hC ⊢
  go_enter Tryz.func38, Tryz.ntmps38
  go_wp2_with (go_at_call 72; refine hC.mono ?_; rintro e w' ⟨rfl, rfl⟩)
  go_ret2
  exact ⟨rfl, rfl⟩
theorem nfd_long (p v : Value) (l : List Int) (w : World) (hR : RS w v l) (hsc : allSc l = true) (hl : 4096 < l.length) (hlen : l.length < 1099511627776) :
    Calls Tryz.prog 38 #[p, v] w fun e w' => e = .returned (.tuple #[.slice none 0 0, .int .i64 2]) ∧ w = w' := by
  have hC := containsFunc_any v l w hR hlen
  rw [hsc] at hC
  obtain ⟨a, c, rfl, _⟩ := hR
  generalize l.length = n at hC hl hlen ⊢
  go_enter Tryz.func38, Tryz.ntmps38
  go_wp2_with (go_at_call 72; refine hC.mono ?_; rintro e w' ⟨rfl, rfl⟩)
  go_ret2
  exact ⟨rfl, rfl⟩
end Go.Proofs.YtpdacbiiaglodaaGreat

/-
  LAYER 4 (utf): the reference's form of a scalar.
-/
namespace Go.Proofs.YtpdacbiiaglodaaGreat.U
set_option maxRecDepth 100000
open Go.RowKit Go.Lib

theorem owns_lit {w : World} {e : TypeId} {bs : List UInt8} {cs : Array Value} {n : Nat} (hc : cs = (byteCells bs).toArray) (hn : bs.length = n) (hm : n ≤ maxLen) :
    Owns (w.alloc (.cells cs e)) w.heap.size e (.slice (some ⟨w.heap.size, 0, none⟩) n n) bs := by
  subst hn
  subst hc
  have hl : (byteCells bs).length = bs.length := by simp [byteCells]
  exact ⟨by simp [hl], .inr ⟨w.heap.size, _, _, rfl, Nat.le_refl _, World.alloc_heap_new w _, Nat.le_refl _, hm, by simp [hl], by simp [hl, List.take_of_length_le]⟩⟩

theorem form_cells1 {r : Nat} (h1 : r < 128) : #[Value.int .u8 (r : Int)] = (byteCells (form r)).toArray ∧ (form r).length = 1 := by
  rw [form, if_pos h1]
  simp only [byteCells, List.map, ofNat_toNat (show r < 256 by omega)]
  exact ⟨trivial, rfl⟩

theorem form_cells2 {r : Nat} (h1 : ¬ r < 128) (h2 : r < 2048) : #[Value.int .u8 (192 + (r : Int) / 64), Value.int .u8 (128 + (r : Int) % 64)] = (byteCells (form r)).toArray ∧ (form r).length = 2 := by
  rw [form, if_neg h1, if_pos h2]
  simp only [byteCells, List.map, ofNat_toNat (show 192 + r / 64 < 256 by omega), ofNat_toNat (show 128 + r % 64 < 256 by omega)]
  exact ⟨rfl, rfl⟩
theorem form_cells3 {r x y z : Nat} (h2 : ¬ r < 2048) (h3 : r < 65536) (hx : (r : Int) / 4096 = (x : Int)) (hy : (r : Int) / 64 % 64 = (y : Int)) (hz : (r : Int) % 64 = (z : Int)) :
    #[Value.int .u8 (224 + (x : Int)), Value.int .u8 (128 + (y : Int)), Value.int .u8 (128 + (z : Int))] = (byteCells (form r)).toArray ∧ (form r).length = 3 := by
  rw [form, if_neg (by omega), if_neg h2, if_pos h3]
  obtain rfl : r / 4096 = x := by omega
  obtain rfl : r / 64 % 64 = y := by omega
  obtain rfl : r % 64 = z := by omega
  simp only [byteCells, List.map, ofNat_toNat (show 224 + r / 4096 < 256 by omega), ofNat_toNat (show 128 + r / 64 % 64 < 256 by omega), ofNat_toNat (show 128 + r % 64 < 256 by omega)]
  exact ⟨rfl, rfl⟩
theorem form_cells4 {r u x y z : Nat} (h3 : ¬ r < 65536) (hr : r ≤ 1114111) (hu : (r : Int) / 262144 = (u : Int)) (hx : (r : Int) / 4096 % 64 = (x : Int)) (hy : (r : Int) / 64 % 64 = (y : Int)) (hz : (r : Int) % 64 = (z : Int)) :
    #[Value.int .u8 (240 + (u : Int)), Value.int .u8 (128 + (x : Int)), Value.int .u8 (128 + (y : Int)), Value.int .u8 (128 + (z : Int))] = (byteCells (form r)).toArray ∧ (form r).length = 4 := by
  rw [form, if_neg (by omega), if_neg (by omega), if_neg h3]
  obtain rfl : r / 262144 = u := by omega
  obtain rfl : r / 4096 % 64 = x := by omega
  obtain rfl : r / 64 % 64 = y := by omega
  obtain rfl : r % 64 = z := by omega
  simp only [byteCells, List.map, ofNat_toNat (show 240 + r / 262144 < 256 by omega), ofNat_toNat (show 128 + r / 4096 % 64 < 256 by omega), ofNat_toNat (show 128 + r / 64 % 64 < 256 by omega), ofNat_toNat (show 128 + r % 64 < 256 by omega)]
  exact ⟨rfl, rfl⟩

set_option maxRecDepth 100000 in
set_option maxHeartbeats 1000000 in
theorem form_any (r : Nat) (w : World) (hr : r ≤ 1114111) :
    Calls Tryz.prog 105 #[.int .i32 (r : Int)] w fun e w' => ∃ v, e = .returned v ∧ Owns w' w.heap.size 5 v (form r) ∧ w.grownBy w' none := by
  by_cases h1 : r < 128
  · have hf := form_cells1 h1
    have H := Lib.hid hf; clear hf
    go_enter Tryz.func105, Tryz.ntmps105
    go_wp2
    go_ret
    exact ⟨_, rfl, owns_lit H.out.1 H.out.2 (by decide), World.grownBy_alloc w _ none⟩
  · by_cases h2 : r < 2048
    · have H := Lib.hid (form_cells2 h1 h2)
      go_enter Tryz.func105, Tryz.ntmps105
      go_wp2
      go_ret
      exact ⟨_, rfl, owns_lit H.out.1 H.out.2 (by decide), World.grownBy_alloc w _ none⟩
    · by_cases h3 : r < 65536
      · obtain ⟨x, hx, hxb⟩ : ∃ x : Nat, (r : Int) / 4096 = (x : Int) ∧ x ≤ 15 := ⟨r / 4096, by omega, by omega⟩
        obtain ⟨y, hy, hyb⟩ : ∃ y : Nat, (r : Int) / 64 % 64 = (y : Int) ∧ y ≤ 63 := ⟨r / 64 % 64, by omega, by omega⟩
        obtain ⟨z, hz, hzb⟩ : ∃ z : Nat, (r : Int) % 64 = (z : Int) ∧ z ≤ 63 := ⟨r % 64, by omega, by omega⟩
        have d1 : decide ((r : Int) < 128) = false := by simp; omega
        have d2 : decide ((r : Int) < 2048) = false := by simp; omega
        have d3 : decide ((r : Int) < 65536) = true := by simp; omega
        have H := Lib.hid (form_cells3 h2 h3 hx hy hz)
        clear h1 h2 h3 hr
        go_enter Tryz.func105, Tryz.ntmps105
        go_wp2
        go_ret
        exact ⟨_, rfl, owns_lit H.out.1 H.out.2 (by decide), World.grownBy_alloc w _ none⟩
      · obtain ⟨u, hu, hub⟩ : ∃ u : Nat, (r : Int) / 262144 = (u : Int) ∧ u ≤ 4 := ⟨r / 262144, by omega, by omega⟩
        obtain ⟨x, hx, hxb⟩ : ∃ x : Nat, (r : Int) / 4096 % 64 = (x : Int) ∧ x ≤ 63 := ⟨r / 4096 % 64, by omega, by omega⟩
        obtain ⟨y, hy, hyb⟩ : ∃ y : Nat, (r : Int) / 64 % 64 = (y : Int) ∧ y ≤ 63 := ⟨r / 64 % 64, by omega, by omega⟩
        obtain ⟨z, hz, hzb⟩ : ∃ z : Nat, (r : Int) % 64 = (z : Int) ∧ z ≤ 63 := ⟨r % 64, by omega, by omega⟩
        have d1 : decide ((r : Int) < 128) = false := by simp; omega
        have d2 : decide ((r : Int) < 2048) = false := by simp; omega
        have d3 : decide ((r : Int) < 65536) = false := by simp; omega
        have H := Lib.hid (form_cells4 h3 hr hu hx hy hz)
        clear h1 h2 h3 hr
        go_enter Tryz.func105, Tryz.ntmps105
        go_wp2
        go_ret
        exact ⟨_, rfl, owns_lit H.out.1 H.out.2 (by decide), World.grownBy_alloc w _ none⟩
end Go.Proofs.YtpdacbiiaglodaaGreat.U

/-
  Bytes of the call's own: appends, and string(b) of bytes that a slice reads as.
-/
namespace Go.Proofs.YtpdacbiiaglodaaGreat.U
set_option maxRecDepth 100000
open Go.RowKit Go.Lib

theorem infoU8 : (Tryz.prog.info? 5).map (fun i => (i.zero, i.size, i.bytes)) = some (some (.int .u8 0), 1, 1) := by kernel_rfl
theorem sizeU8 : (Tryz.prog.info? 5).map (·.size) = some 1 := by kernel_rfl

/-- An own row, laid anew. -/
theorem owns_block {w : World} {B g cap : Nat} {e : TypeId} {bs : List UInt8} (hB : B ≤ g) (hg : w.heap[g]? = some (.cells (byteCells bs).toArray e (0, 0))) (hm : bs.length ≤ maxLen) (hc : cap = bs.length) :
    Owns w B e (.slice (some ⟨g, 0, none⟩) bs.length cap) bs := by
  subst hc
  have hl : (byteCells bs).length = bs.length := by simp [byteCells]
  exact ⟨by simp [hl], .inr ⟨g, _, _, rfl, hB, hg, Nat.le_refl _, hm, by simp [hl], by simp [hl, List.take_of_length_le]⟩⟩

theorem byteCells_one (bs : List UInt8) : ∀ v ∈ byteCells bs, v.oneCell' = true := by
  intro v hv
  simp only [byteCells, List.mem_map] at hv
  obtain ⟨u, _, rfl⟩ := hv
  rfl

/-- The cells of what is read, from an address on. -/
theorem _root_.Go.Proofs.YtpdacbiiaglodaaGreat.Reads.ucells {w : World} {a : Addr} {l c : Nat} {bs : List UInt8} (h : Reads w (.slice (some a) l c) bs) : ∀ j v, (byteCells bs)[j]? = some v → w.cell? (a.add j) = some v := by
  rcases h with ⟨h, rfl⟩ | ⟨b, off, cap, h, h1, h2, hc⟩
  · simp at h
  · simp at h
    obtain ⟨rfl, rfl, rfl⟩ := h
    intro j v hv
    rw [byteCells_get] at hv
    obtain ⟨u, hu, rfl⟩ := Option.map_eq_some_iff.1 hv
    have := hc j u hu
    have e : (⟨b, off, none⟩ : Addr).add j = ⟨b, off + j, none⟩ := by unfold Addr.add; split <;> simp_all
    rw [e]
    exact this

theorem byteCells_len (bs : List UInt8) : (byteCells bs).length = bs.length := by simp [byteCells]

/-- 'append(out, f...)' at bytes: out the call's own (or nil), f whatever reads as bytes, nil too. -/
theorem wpList_append_bytes {P : Program} (w : World) {ops : Array Oper} {rest : List Oper} {o : Oper} {a : Act} {Q : Exit → Act → World → Prop} (hgd : o.guard = none) (s x : Operand) (t : TypeId)
    (ho : o.op = .call { callee := .builtin .append, args := #[s, x], argTypes := #[t, t] })
    (base : Nat) (e : TypeId) (i : TypeInfo) (ht : P.underlying t = some (.slice e)) (hi : P.info? e = some i) (hz : i.zero = some (.int .u8 0)) (hsize : i.size = 1) (hby : i.bytes = 1)
    (v : Value) (bs : List UInt8) (hs : a.eval s = v) (hown : Owns w base e v bs) (xv : Value) (f : List UInt8) (hx : a.eval x = xv) (hr : Reads w xv f)
    (hlim : bs.length + f.length ≤ 140737488355328) (hbase : base ≤ w.heap.size)
    (h : ∀ v' w', Owns w' base e v' (bs ++ f) → w.grownBy w' v.ownBlock → wpList P ops Q rest (a.put o.dst v') w') : wpList P ops Q (o :: rest) a w := by
  have hr0 := hr
  rcases hr with ⟨rfl, rfl⟩ | ⟨b, off, cap, rfl, _, _, _⟩
  · refine wpList_plain hgd fun K hK => ?_
    have hrun := run_append_owned_none (P := P) w base t o.type e i 1 ht hi v _ _ hown
    unfold Oper.wp execOp
    simp only [ho, resolve, invoke, builtin, Sem.run_bind, Sem.run_pure, Result.andThen_ok, List.map_toArray, List.map_cons, List.map_nil, hs, hx, hrun]
    exact hK _ _ (h v w (by simpa using hown) (World.grownBy.refl _ _))
  · refine wpList_append_own w hgd s x t ho base e i (.int .u8 0) 1 1 ht hi hz hsize hby rfl (by decide) v bs.length (byteCells bs) hs hown ⟨b, off, none⟩ f.length cap (byteCells f) hx (by rw [byteCells_len]; omega) hr0.ucells (byteCells_one f) (by unfold maxLen; omega) (by omega) hbase fun v' w' h2 h3 _ => h v' w' ?_ h3
    unfold Owns
    rw [byteCells_append, List.length_append]
    exact h2

theorem fold_push : ∀ (bs p : List UInt8), ((bs.map fun u => (u.toNat : Int)).foldl (fun (r : ByteArray) n => r.push (UInt8.ofNat n.toNat)) ⟨p.toArray⟩) = ⟨(p ++ bs).toArray⟩
  | [], p => by simp
  | u :: bs, p => by
    have h := fold_push bs (p ++ [u])
    simp only [List.map_cons, List.foldl_cons, Int.toNat_natCast, UInt8.ofNat_toNat]
    have e : (⟨p.toArray⟩ : ByteArray).push u = ⟨(p ++ [u]).toArray⟩ := by
      show ByteArray.mk _ = ByteArray.mk _
      simp
    rw [e, h, List.append_assoc]
    rfl

theorem conv_of {w : World} {v : Value} {bs : List UInt8} (h : Reads w v bs) : (convert 27 9 v).run Tryz.prog w = .ok (.string ⟨bs.toArray⟩) w := by
  have h0 := h
  rcases h with ⟨rfl, rfl⟩ | ⟨b, off, cap, rfl, _, _, _⟩
  · rw [run_convert_bytes_string w 27 9 5 none 0 0 Tryz.underlying27 Tryz.underlying5 Tryz.underlying9]
    simp [Conv.bytesToString]
    rfl
  · rw [run_convert_bytes_string w 27 9 5 _ _ _ Tryz.underlying27 Tryz.underlying5 Tryz.underlying9]
    have hl := run_loadCells_list (P := Tryz.prog) w ⟨b, off, none⟩ (byteCells bs) h0.ucells
    have e : byteCells bs = (bs.map fun u => (u.toNat : Int)).map (Value.int .u8) := by simp [byteCells]
    rw [byteCells_len, e] at hl
    rw [run_bytesToString w _ _ _ _ hl]
    have := fold_push bs []
    simp only [List.nil_append] at this
    exact congrArg (fun s => Result.ok (Value.string s) w) this
end Go.Proofs.YtpdacbiiaglodaaGreat.U
