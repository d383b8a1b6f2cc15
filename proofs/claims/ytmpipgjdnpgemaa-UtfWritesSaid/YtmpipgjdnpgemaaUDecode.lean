/-
  LAYER 4 (utf): Decode.
-/
import Derived.Test.YtmpipgjdnpgemaaUCheck
import Derived.Test.YtmpipgjdnpgemaaUDecP
import Derived.Laws.IdiomStrings
namespace Go.Proofs.Ytmpipgjdnpgemaa
set_option maxRecDepth 100000
open Go.RowKit Go.Lib
attribute [local go_sem] Oper.semAt_some

set_option maxHeartbeats 1000000 in
theorem clip_any (b n c : Nat) (w : World) (hn : n ≤ c) (_hm : c ≤ maxLen) :
    Calls Try.prog 33 #[.slice (some ⟨b, 0, none⟩) n c] w fun e w' => e = .returned (.slice (some ⟨b, 0, none⟩) n n) ∧ w = w' := by
  go_enter Try.func33, Try.ntmps33
  go_wp2
  go_ret
  simp

theorem clip_nil (w : World) : Calls Try.prog 33 #[.slice none 0 0] w fun e w' => e = .returned (.slice none 0 0) ∧ w = w' := by
  go_enter Try.func33, Try.ntmps33
  go_wp2
  go_ret
  simp

/-- A slice reads as these runes. -/
def Runes (w : World) (v : Value) (l : List Int) : Prop := Row w v (runeCells l)
theorem Runes.all {w w' : World} {v : Value} {l : List Int} (h : Runes w v l) (hb : Below w.heap.size w w') : Runes w' v l := Row.all h hb


theorem infoRune : (Try.prog.info? 21).map (fun i => (i.zero, i.size, i.bytes)) = some (some (.int .i32 0), 1, 4) := by kernel_rfl
theorem infoRune_parts : ∃ i0 : TypeInfo, Try.prog.info? 21 = some i0 ∧ i0.zero = some (.int .i32 0) ∧ i0.size = 1 ∧ i0.bytes = 4 := by
  have h := infoRune
  cases hi : Try.prog.info? 21 with
  | none => rw [hi] at h; cases h
  | some i =>
    rw [hi] at h
    simp only [Option.map_some, Option.some.injEq, Prod.mk.injEq] at h
    exact ⟨i, rfl, h.1, h.2.1, h.2.2⟩

/-- The cells of what was told. -/
def rCells (pre : List Told) : List Value := pre.map fun x => .int .i32 (x.2.1 : Int)
theorem places_cells : ∀ (k : Nat) (t : List (Nat × Nat)), rCells (places k t) = t.map fun x => .int .i32 (x.1 : Int)
  | _, [] => rfl
  | k, (r, n) :: t => by
    have := places_cells (k + n) t
    simp [places, rCells] at this ⊢
    exact this
theorem pls_cells (l : List UInt8) : rCells (pls l) = runeCells (runes l) := by
  unfold pls
  rw [places_cells]
  simp [runeCells, runes]
theorem pls_length (l : List UInt8) : (pls l).length = (runes l).length := by
  have := congrArg List.length (pls_cells l)
  simpa [rCells, runeCells] using this
theorem tot_runes_le (l : List UInt8) : (runes l).length ≤ l.length := by
  have key : ∀ (k : Nat) (l : List UInt8), l.length ≤ k → (runes l).length ≤ l.length := by
    intro k
    induction k with
    | zero => intro l h; obtain rfl : l = [] := List.length_eq_zero_iff.1 (by omega); simp [runes_nil]
    | succ k ih =>
      intro l h
      cases hd : dec l with
      | none => simp [runes, rs_none hd]
      | some x =>
        obtain ⟨r, n⟩ := x
        have h1 := dec_some hd
        rw [runes_some hd]
        have := ih (l.drop n) (by simp; omega)
        simp at this ⊢
        omega
  exact key _ l (Nat.le_refl _)

def DecQ (l : List UInt8) (bl : Nat) (w w' : World) : Prop := ∃ v, Boxed w' bl 28 v ∧ w'.ownsRow w.heap.size 21 1 v (pls l).length (rCells (pls l)) ∧ w.grownBy w' (some bl)
/-- What Decode's closure leaves: l's box holds an own row of the scalars; it returns, or it has thrown. -/
def DecPost (l : List UInt8) (bl : Nat) (w : World) (e : Ending) (w' : World) : Prop :=
  e = (if tot l = l.length then .returned (.tuple #[]) else .panicked (thrown (tot l : Int))) ∧ DecQ l bl w w'

theorem rowForm {w : World} {B s n : Nat} {e : TypeId} {v : Value} {xs : List Value} (h : w.ownsRow B e s v n xs) : ∃ a c, v = .slice a n c := by
  obtain ⟨_, ⟨rfl, hn⟩ | ⟨g, cap, cur, rfl, _⟩⟩ := h
  · exact ⟨none, 0, by rw [hn]⟩
  · exact ⟨_, _, rfl⟩

theorem dec_end {l : List UInt8} {bl : Nat} {w w1 W : World} {D : Nat} {v : Value} {ch : Ending} (hs1 : w.heap.size ≤ w1.heap.size) (hll : bl < w.heap.size) (hD : w1.heap.size ≤ D) (h1 : Boxed W bl 28 v)
    (h2 : W.ownsRow w1.heap.size 21 1 v (pls l).length (rCells (pls l))) (h4 : w.grownBy W (some bl)) (hM : W.heap[D]? = some (.deferred (some [])))
    (he : ch = if tot l = l.length then .returned (.tuple #[]) else .panicked (thrown (tot l : Int))) : DecPost l bl w ch (W.putObj D (.deferred none)) := by
  have gp := grownBy_putObj' W D (.deferred none)
  refine ⟨he, v, h1.kept gp (by simp; omega), ?_, gnew h4 gp (fun r e => by cases e; left; omega)⟩
  have h2' : W.ownsRow w.heap.size 21 1 v (pls l).length (rCells (pls l)) := by
    obtain ⟨q1, q2 | ⟨g, cap, cur, q3, q4, q5⟩⟩ := h2
    · exact ⟨q1, .inl q2⟩
    · exact ⟨q1, .inr ⟨g, cap, cur, q3, by omega, q5⟩⟩
  refine h2'.kept gp ?_
  obtain ⟨_, ⟨q2, _⟩ | ⟨g, cap, cur, q3, _, hgg, _⟩⟩ := h2
  · left; rw [q2]; rfl
  · right
    rw [q3]
    intro e
    simp only [Value.ownBlock, Option.some.injEq] at e
    subst e
    rw [hM] at hgg
    cases hgg

set_option maxHeartbeats 8000000 in
theorem decode1_in (s : ByteArray) (b bl : Nat) (w : World) (hs : s.size ≤ 1048576) (hb : Boxed w b 9 (.string s)) (hl : Boxed w bl 28 (.slice none 0 0)) :
    CallsIn Fence.wide 8 Try.prog 32 #[.pointer (some ⟨b, 0, none⟩), .pointer (some ⟨bl, 0, none⟩)] w (DecPost s.data.toList bl w) := by
  have hm : s.size ≤ maxLen := by unfold maxLen; omega
  have hc := hb.cell
  have hbl := hb.lt
  have hll := hl.lt
  have hpl : (pls s.data.toList).length ≤ 1048576 := by
    rw [pls_length]
    have h1 := tot_runes_le s.data.toList
    simp at h1
    omega
  obtain ⟨i0, hi, hz0, hz1, hz2⟩ := infoRune_parts
  refine callsIn_of_wp_marks Try.func32 rfl trivial ?_ rfl
  simp only [Try.ntmps32, List.size_toArray, List.length_cons, List.length_nil, Nat.reduceAdd, Nat.reduceSub, Array.replicate_succ, Array.replicate_zero, List.push_toArray, List.append_toArray, List.nil_append, List.cons_append]
  gi_wp2_with (refine ⟨trivial, ?_⟩; gi_at_call 30; refine (callsIn_wide.2 (scalars_any s _)).mono ?_; rintro e w1 ⟨rfl, hb1, hg1⟩)
  clear hc
  have hs1 := hg1.size
  have hTell := scal1_tells 4 w.heap.size w1.heap.size bl s w1 hb1 ⟨hb1.lt, by omega⟩ hm
  refine range_tellsP (a := _) (w := w1) (α := Told) rfl (by omega) (gf := 45) (lb := #[.pointer (some ⟨w.heap.size, 0, none⟩)]) rfl trivial (enters_of Try.func45 (by kernel_rfl) rfl)
    hTell (by simp) (fun _ => rfl) (fun _ _ _ _ _ _ h _ _ _ => h)
    (fun pre W => ∃ v, Boxed W bl 28 v ∧ W.ownsRow w1.heap.size 21 1 v pre.length (rCells pre) ∧ KeptX w1.heap.size bl w1 W ∧ w.grownBy W (some bl)) (fun _ _ _ => False)
    ?hI (fun _ _ _ _ _ h _ _ => h.elim) ⟨_, hl.kept hg1 (by simp), World.ownsRow_nil _ _ _ _, KeptX.refl _, gbut hg1 _⟩ ?a1 ?assign ?body ?done ?stop ?panic
  case hI =>
    rintro pre A B k ⟨v, h1, h2, h3, h4⟩ hg hk
    have hA := h3.1
    rcases hk with rfl | ⟨q, rfl, hq, ho⟩
    · exact ⟨v, h1.kept hg (by simp), h2.kept hg (by cases v.ownBlock <;> simp), h3.trans ⟨hg.size, fun i hi _ => hg.block i (Nat.lt_of_lt_of_le hi h3.1) (by simp)⟩, h4.trans (gbut hg _)⟩
    · refine ⟨v, h1.kept hg (by simp; omega), h2.kept hg ?_, h3.trans (KeptX.grown hg h3.1 (.inr hq)), gnew h4 hg (fun r e => by cases e; left; omega)⟩
      obtain ⟨_, ⟨rfl, _⟩ | ⟨g, cap, cur, rfl, _, hgg, _⟩⟩ := h2
      · exact .inl rfl
      · right
        intro e
        simp only [Value.ownBlock, Option.some.injEq] at e
        subst e
        have := ho _ hgg
        cases this
  case assign =>
    intro l x W K hK
    dsimp only [tEnc]
    gi_wp2
    exact hK
  case body =>
    rintro l2 pre x W ⟨v, h1, h2, h3, h4⟩ hget hsz
    have hpz : pre.length < (pls s.data.toList).length := (List.getElem?_eq_some_iff.1 hget).1
    have r1 := h1.cell
    have r2 := h1.frozen
    clear hTell hb hl hb1
    gi_wp2_with (gi_at_builtin; refine wpListIn_append_own _ rfl _ _ 28 rfl w1.heap.size 21 i0 (.int .i32 0) 1 4 Try.underlying28 hi hz0 hz1 hz2 rfl (by decide) _ _ _ rfl (h2.alloc _) ⟨W.heap.size, 0, none⟩ 1 1 [.int .i32 (x.2.1 : Int)] rfl rfl ?c1 ?c2 ?c3 ?c4 ?c5 ?_)
    case c1 =>
      intro j u hj
      match j, hj with
      | 0, hj => simp at hj; subst hj; simp [Addr.add]
    case c2 => intro u hu; simp at hu; subst hu; rfl
    case c3 => unfold maxLen; omega
    case c4 => omega
    case c5 => simp; omega
    intro v' W1 hown' hgrow _
    obtain ⟨a', c', rfl⟩ := rowForm hown'
    have hvb : ∀ q, v.ownBlock = some q → w1.heap.size ≤ q ∧ q < W.heap.size := fun q e => World.ownsRow.lt h2 q e
    have gW : W.grownBy W1 v.ownBlock := (gbut (World.grownBy_alloc W _ none) _).trans hgrow
    have hbb : bl < W.heap.size := h1.lt
    have hne2 : v.ownBlock ≠ some bl := fun e => by have := hvb _ e; omega
    have h1' := h1.kept gW (Ne.symm hne2)
    have r3 := h1'.cell
    have r4 := h1'.frozen
    have hko : KeepsOthers W W1 := KeepsOthers.of_grownBy gW (by
      rintro j o hj ho
      obtain ⟨_, ⟨rfl, _⟩ | ⟨g, cap, cur, rfl, _, hgg, _⟩⟩ := h2
      · cases hj
      · simp only [Value.ownBlock, Option.some.injEq] at hj
        subst hj
        rw [hgg] at ho
        cases ho
        rfl)
    have hkx : KeptX w1.heap.size bl W W1 := ⟨gW.size, fun k hk _ => gW.block k (by omega) (fun e => by have := hvb k e.symm; omega)⟩
    have hbw : w.grownBy W1 (some bl) := gnew h4 gW (fun q e => by have := hvb q e; left; omega)
    have hown2 : W1.ownsRow w1.heap.size 21 1 (.slice a' (pre.length + 1) c') (pre ++ [x]).length (rCells (pre ++ [x])) := by
      simpa [rCells] using hown'
    have hvb2 := World.ownsRow.lt hown2
    replace hown2 := Lib.hid hown2
    replace h1' := Lib.hid h1'
    replace hko := Lib.hid hko
    replace hkx := Lib.hid hkx
    replace hbw := Lib.hid hbw
    replace h3 := Lib.hid h3
    clear hown' hgrow h2 h1 r1 r2 h4 hget
    gi_wp2_with fail
    have gs := gset (World.grownBy.refl W1 (some bl)) 0 (.slice a' (pre.length + 1) c')
    refine ⟨hko.out.trans (KeepsOthers.setCell W1 _ _), hkx.out.trans (KeptX.grown gs (Nat.le_trans hsz hkx.out.1) (.inl rfl)), _, h1'.out.set _, hown2.out.kept gs ?_, (h3.out.trans hkx.out).trans (KeptX.grown gs (Nat.le_trans hsz hkx.out.1) (.inl rfl)), hbw.out.trans gs⟩
    right
    intro e
    have := hvb2 _ e
    omega
  case stop =>
    rintro D c pre Wd W15 hD _ h _ _
    exact h.elim
  case done =>
    rintro D xs Wd W15 hD hS ⟨v, h1, h2, h3, h4⟩ hg hM
    obtain ⟨rfl, hS⟩ := hS
    have hP : DecPost s.data.toList bl w (.returned (.tuple #[])) (W15.putObj D (.deferred none)) := dec_end hs1 hll hD h1 h2 h4 hM (by rw [if_pos hS])
    clear hTell hb hl hb1 h1 h2 h3 h4 hg
    gi_wp2_with fail
    refine ⟨by simp, .inl ⟨_, _, rfl, run_takeDeferred hM, ?_⟩⟩
    simp [LeavesInM, LeavesIn, results, Try.results32, go_sem]
    exact hP
  case panic =>
    rintro D ch pre W15 hD hS ⟨v, h1, h2, h3, h4⟩ hM
    obtain ⟨rfl, hS, rfl⟩ := hS
    have hP : DecPost s.data.toList bl w (.panicked (thrown (tot s.data.toList : Int))) (W15.putObj D (.deferred none)) := dec_end hs1 hll hD h1 h2 h4 hM (by rw [if_neg hS])
    clear hTell
    refine ⟨by simp, .inl ⟨_, _, rfl, run_takeDeferred hM, ?_⟩⟩
    simp [LeavesInM, LeavesIn]
    exact hP
theorem decode1_any (s : ByteArray) (b bl : Nat) (w : World) (hs : s.size ≤ 1048576) (hb : Boxed w b 9 (.string s)) (hl : Boxed w bl 28 (.slice none 0 0)) :
    Calls Try.prog 32 #[.pointer (some ⟨b, 0, none⟩), .pointer (some ⟨bl, 0, none⟩)] w (DecPost s.data.toList bl w) := callsIn_wide.1 (decode1_in s b bl w hs hb hl)

theorem Row.keptD {w w' : World} {v : Value} {vs : List Value} {r : Nat} (h : Row w v vs) (hg : w.grownBy w' (some r)) (hne : v.ownBlock ≠ some r) : Row w' v vs := by
  rcases h with h | ⟨b, off, cap, rfl, h1, h2, hc⟩
  · exact .inl h
  · refine .inr ⟨b, off, cap, rfl, h1, h2, fun i u hu => ?_⟩
    have h3 := hc i u hu
    have hlt : b < w.heap.size := World.block_lt_of_cell? w _ h3
    have := hg.block b hlt (fun e => hne (by simp only [Value.ownBlock]; exact e.symm ▸ rfl))
    simp only [World.cell?] at h3 ⊢
    rw [this]; exact h3

/-- Clip of an own row. -/
theorem clip_own (B n : Nat) (v : Value) (vs : List Value) (w : World) (h : w.ownsRow B 21 1 v n vs) (hn : n = vs.length) :
    Calls Try.prog 33 #[v] w fun e w' => ∃ a c, e = .returned (.slice a vs.length c) ∧ Row w (.slice a vs.length c) vs ∧ (Value.slice a vs.length c).ownBlock = v.ownBlock ∧ w = w' := by
  subst hn
  obtain ⟨h0, ⟨rfl, hn⟩ | ⟨g, cap, cur, rfl, hB, hgg, h1, h2, h3, h4⟩⟩ := h
  · obtain rfl := List.length_eq_zero_iff.1 hn
    exact (clip_nil w).mono fun e w' ⟨h1, h2⟩ => ⟨none, 0, h1, .inl ⟨rfl, rfl⟩, rfl, h2⟩
  · refine (clip_any g vs.length cap w h1 h2).mono fun e w' ⟨q1, q2⟩ => ⟨_, _, q1, .inr ⟨g, 0, vs.length, rfl, Nat.le_refl _, Nat.le_trans h1 h2, fun i u hu => ?_⟩, rfl, q2⟩
    rw [Nat.mul_one] at h4
    have hi := (List.getElem?_eq_some_iff.1 hu).1
    have h5 : cur.toList[i]? = some u := by
      rw [← h4, List.getElem?_take_of_lt hi] at hu
      exact hu
    have h6 : cur[i]? = some u := by simpa using h5
    have hj := (Array.getElem?_eq_some_iff.1 h6).1
    rw [Nat.zero_add]
    simp [World.cell?, hgg, go_sem, h6]

/-- What stands behind the closure that is caught. -/
theorem dec_caught (s : ByteArray) (w w1 : World) (hw1 : w1 = (w.alloc (.cells #[.string s] 9)).alloc (.cells #[.slice none 0 0] 28)) (hs : s.size ≤ 1048576) :
    Calls Try.prog 28 #[.func (.func 32) #[] #[.pointer (some ⟨w.heap.size, 0, none⟩), .pointer (some ⟨w.heap.size + 1, 0, none⟩)]] w1 fun e w' =>
      e = .returned (if tot s.data.toList = s.data.toList.length then .tuple #[.int .i64 0, .int .i64 0] else .tuple #[.int .i64 (tot s.data.toList : Int), .int .i64 40]) ∧
      ∃ v, Boxed w' (w.heap.size + 1) 28 v ∧ w'.ownsRow (w.heap.size + 2) 21 1 v (pls s.data.toList).length (rCells (pls s.data.toList)) ∧ Below w.heap.size w w' := by
  have hb1 : Boxed w1 w.heap.size 9 (.string s) := by rw [hw1]; exact (Boxed.new w _ _).alloc _
  have hl1 : Boxed w1 (w.heap.size + 1) 28 (.slice none 0 0) := by
    have := Boxed.new (w.alloc (.cells #[.string s] 9)) 28 (.slice none 0 0)
    rw [World.size_alloc] at this
    rwa [hw1]
  have hg1 : w.grownBy w1 none := by rw [hw1]; exact galloc (World.grownBy_alloc w _ none) _
  have hsz : w1.heap.size = w.heap.size + 2 := by rw [hw1]; simp
  have hsz2 : (two w1).heap.size = w.heap.size + 4 := by unfold two; simp [hsz]
  have hcl := decode1_any s w.heap.size (w.heap.size + 1) (two w1) hs (hb1.kept (two_grown w1) (by simp)) (hl1.kept (two_grown w1) (by simp))
  have key : ∀ (x e : Int) (w3 : World) (v : Value), Boxed w3 (w.heap.size + 1) 28 v → w3.ownsRow (two w1).heap.size 21 1 v (pls s.data.toList).length (rCells (pls s.data.toList)) → (two w1).grownBy w3 (some (w.heap.size + 1)) →
      ∃ v, Boxed (res w1 x e w3) (w.heap.size + 1) 28 v ∧ (res w1 x e w3).ownsRow (w.heap.size + 2) 21 1 v (pls s.data.toList).length (rCells (pls s.data.toList)) ∧ Below w.heap.size w (res w1 x e w3) := by
    intro x e w3 v h1 h2 h3
    have hlt := World.ownsRow.lt h2
    refine ⟨v, ?_, ?_, ?_⟩
    · unfold res; exact (h1.other (by omega) _).other (by omega) _
    · have h2' : w3.ownsRow (w.heap.size + 2) 21 1 v (pls s.data.toList).length (rCells (pls s.data.toList)) := by
        obtain ⟨q1, q2 | ⟨g, cap, cur, q3, q4, q5⟩⟩ := h2
        · exact ⟨q1, .inl q2⟩
        · exact ⟨q1, .inr ⟨g, cap, cur, q3, by omega, q5⟩⟩
      unfold res
      refine (h2'.kept (grownBy_setCell' w3 _ _) ?_).kept (grownBy_setCell' _ _ _) ?_
      all_goals
        right
        intro e
        have := hlt _ e
        omega
    · have hB : Below w.heap.size w w3 := (belowg' ((hg1.trans (two_grown w1)))).trans (gbelow h3 (by omega) (fun r e => by cases e; omega))
      unfold res
      exact (hB.setCell (p := ⟨w1.heap.size, 0, none⟩) (by show w.heap.size ≤ w1.heap.size; omega) _).setCell (p := ⟨w1.heap.size + 1, 0, none⟩) (by show w.heap.size ≤ w1.heap.size + 1; omega) _
  have hT : ∀ w3, DecQ s.data.toList (w.heap.size + 1) (two w1) w3 → Two w1 w3 := by
    rintro w3 ⟨v, _, _, h3⟩
    exact ⟨(two_two w1).1.kept h3 (by simp; omega), (two_two w1).2.kept h3 (by simp; omega)⟩
  by_cases h : tot s.data.toList = s.data.toList.length
  · refine (caught_ok 32 #[] #[.pointer (some ⟨w.heap.size, 0, none⟩), .pointer (some ⟨w.heap.size + 1, 0, none⟩)] w1 (DecQ s.data.toList (w.heap.size + 1) (two w1)) (enters_of Try.func32 (by kernel_rfl) rfl) (hcl.mono fun e w' ⟨h1, h2⟩ => ⟨by rw [if_pos h] at h1; exact ⟨_, h1⟩, h2⟩) hT).mono ?_
    rintro e w' ⟨rfl, w3, ⟨v, h1, h2, h3⟩, rfl⟩
    rw [if_pos h]
    exact ⟨rfl, key _ _ _ _ h1 h2 h3⟩
  · refine (caught_bad 32 #[] #[.pointer (some ⟨w.heap.size, 0, none⟩), .pointer (some ⟨w.heap.size + 1, 0, none⟩)] (tot s.data.toList : Int) w1 (DecQ s.data.toList (w.heap.size + 1) (two w1)) (enters_of Try.func32 (by kernel_rfl) rfl) (hcl.mono fun e w' ⟨h1, h2⟩ => ⟨by rw [if_neg h] at h1; exact h1, h2⟩) hT).mono ?_
    rintro e w' ⟨rfl, w3, ⟨v, h1, h2, h3⟩, rfl⟩
    rw [if_neg h]
    exact ⟨rfl, key _ _ _ _ h1 h2 h3⟩

set_option maxHeartbeats 1000000 in
theorem decode_ok (s : ByteArray) (w : World) (hs : s.size ≤ 1048576) (h : tot s.data.toList = s.data.toList.length) :
    Calls Try.prog 11 #[.string s] w fun e w' => ∃ v, e = .returned (.tuple #[v, .int .i64 0, .int .i64 0]) ∧ Runes w' v (runes s.data.toList) ∧ Below w.heap.size w w' := by
  have hmf : ∀ (fn : Fn) (first cap : Array Value) (w : World), (Instr.makeFunc fn first cap).run Try.prog w = .ok (.func fn first cap) w := fun _ _ _ _ => rfl
  go_enter Try.func11, Try.ntmps11
  obtain ⟨w1, hw1⟩ : ∃ w1, w1 = (w.alloc (.cells #[.string s] 9)).alloc (.cells #[.slice none 0 0] 28) := ⟨_, rfl⟩
  have hc := dec_caught s w w1 hw1 hs
  rw [if_pos h] at hc
  replace hw1 := Lib.hid hw1
  go_wp2_with fail
  rw [← hw1.out]
  go_wp2_with (first
    | (go_at_call 28; refine hc.mono ?_; rintro e W ⟨rfl, v, hbx, hown, hbel⟩; have r1 := hbx.cell; have r2 := hbx.frozen; have hC := clip_own _ _ v _ W hown (by simp [rCells]); rw [pls_cells] at hC)
    | (go_at_call 33; refine hC.mono ?_; rintro e W2 ⟨a, c, rfl, hrow, hob, rfl⟩))
  have gs := grownBy_setCell' W (w.heap.size + 1) (.slice a (runeCells (runes s.data.toList)).length c)
  have hne : (Value.slice a (runeCells (runes s.data.toList)).length c).ownBlock ≠ some (w.heap.size + 1) := fun e => by
    rw [hob] at e
    have := World.ownsRow.lt hown _ e
    omega
  have hrow2 := hrow.keptD gs hne
  have hbx2 := (hbx.set (.slice a (runeCells (runes s.data.toList)).length c)).cell
  have hB := hbel.setCell (p := ⟨w.heap.size + 1, 0, none⟩) (by show w.heap.size ≤ w.heap.size + 1; omega) (.slice a (runeCells (runes s.data.toList)).length c)
  refine bodyPost_ret (v := .tuple #[.slice a (runeCells (runes s.data.toList)).length c, .int .i64 0, .int .i64 0]) ?_ rfl ⟨_, rfl, hrow2, hB⟩
  simp [results, Try.results11, go_sem, hbx2]

set_option maxHeartbeats 1000000 in
theorem decode_bad (s : ByteArray) (w : World) (hs : s.size ≤ 1048576) (h : tot s.data.toList ≠ s.data.toList.length) :
    Calls Try.prog 11 #[.string s] w fun e w' => e = .returned (.tuple #[.slice none 0 0, .int .i64 (tot s.data.toList : Int), .int .i64 40]) ∧ Below w.heap.size w w' := by
  have hmf : ∀ (fn : Fn) (first cap : Array Value) (w : World), (Instr.makeFunc fn first cap).run Try.prog w = .ok (.func fn first cap) w := fun _ _ _ _ => rfl
  have hl := tot_length s.data.toList
  have hl2 : s.data.toList.length = s.size := by simp
  go_enter Try.func11, Try.ntmps11
  obtain ⟨w1, hw1⟩ : ∃ w1, w1 = (w.alloc (.cells #[.string s] 9)).alloc (.cells #[.slice none 0 0] 28) := ⟨_, rfl⟩
  have hc := dec_caught s w w1 hw1 hs
  rw [if_neg h] at hc
  replace hw1 := Lib.hid hw1
  generalize tot s.data.toList = T at hc hl ⊢
  clear h hl2
  go_wp2_with fail
  rw [← hw1.out]
  go_wp2_with (go_at_call 28; refine hc.mono ?_; rintro e W ⟨rfl, v, hbx, hown, hbel⟩; have r1 := hbx.cell; have r2 := hbx.frozen)
  have hbx2 := (hbx.set (.slice none 0 0)).cell
  have hB := hbel.setCell (p := ⟨w.heap.size + 1, 0, none⟩) (by show w.heap.size ≤ w.heap.size + 1; omega) (.slice none 0 0)
  refine bodyPost_ret (v := .tuple #[.slice none 0 0, .int .i64 (T : Int), .int .i64 40]) ?_ rfl ⟨rfl, hB⟩
  simp [results, Try.results11, go_sem, hbx2]

end Go.Proofs.Ytmpipgjdnpgemaa
