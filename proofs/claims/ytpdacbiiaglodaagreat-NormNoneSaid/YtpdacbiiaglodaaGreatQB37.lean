/-
  LAYER 4 (utf): scalars: its iterator tells the scalars with their places, and throws where no form begins.
-/
import Derived.Test.YtpdacbiiaglodaaGreatQB06
import Derived.Test.YtpdacbiiaglodaaGreatQB36
import Derived.TacticsInMore
import Derived.BigRegionIn
import Derived.LoopIn
import Derived.LoopNIn
import Derived.OwnWalkIn
import Derived.Laws.Pointers
import Derived.Maps.RangeWalk
import Derived.RangeFuncBox
import Derived.Test.YtpdacbiiaglodaaGreatQB07
import Derived.Laws.IdiomStrings
import Derived.RangeFuncNested
namespace Go.Proofs.YtpdacbiiaglodaaGreat.U
set_option maxRecDepth 100000
open Go.RowKit Go.Lib
attribute [local go_sem] Oper.semAt_some

def tEnc (x : Told) : Array Value := #[.int .i64 (x.1 : Int), .int .i32 (x.2.1 : Int)]
def tOk (l : List UInt8) (pre : List Told) (x : Told) (_W : World) : Prop := (pls l)[pre.length]? = some x
def tAll (l : List UInt8) (xs : List Told) (_W : World) : Prop := xs = pls l
/-- What is thrown. -/
def thrown (x : Int) : List PanicEntry := [{ v := .iface 196 (.int .i64 x), recovered := false }]
/-- All is told, and nothing is left. -/
def sAll (l : List UInt8) (xs : List Told) (_W : World) : Prop := xs = pls l ∧ tot l = l.length
/-- All is told, and something is left. -/
def sBad (l : List UInt8) (ch : List PanicEntry) (pre : List Told) (_W : World) : Prop := pre = pls l ∧ tot l ≠ l.length ∧ ch = thrown (tot l : Int)

set_option maxHeartbeats 8000000 in
theorem scal1_tells (n : Nat) (b n0 ib : Nat) (s : ByteArray) (w : World) (hw : Boxed w b 9 (.string s)) (hb : b < n0 ∧ b ≠ ib) (hm : s.size ≤ maxLen) :
    TellsP Fence.wide (n + 3) Tryz.prog 135 #[.pointer (some ⟨b, 0, none⟩)] tEnc (tOk s.data.toList) none n0 ib (sAll s.data.toList) (fun _ _ => True) (sBad s.data.toList) w := by
  intro l J Jx W hkx hn0 hJ hJx hY h0
  have hst : Boxed W b 9 (.string s) := (hkx.2 b hb.1 hb.2).trans hw
  have hsz : s.data.toList.length = s.size := by simp
  clear hw hkx
  refine callsIn_of_wp Tryz.func135 rfl trivial ?_ rfl
  simp only [Tryz.ntmps135, List.size_toArray, List.length_cons, List.length_nil, Nat.reduceAdd, Nat.reduceSub, Array.replicate_succ, Array.replicate_zero, List.push_toArray, List.append_toArray, List.nil_append, List.cons_append]
  gi_wp2
  gi_loopw [3] (fun va wr => ∃ (pre : List Told) (k : Nat), va = .int .i64 (k : Int) ∧ k ≤ s.size ∧ Hid (pls s.data.toList = pre ++ places k (rs (s.data.toList.drop k))) ∧ Hid (k + tot (s.data.toList.drop k) = tot s.data.toList) ∧ J pre wr ∧ Boxed wr b 9 (.string s) ∧ n0 ≤ wr.heap.size) (fun va _ => s.size - (RowKit.intOf va).toNat)
  case atStart => exact ⟨[], 0, rfl, Nat.zero_le _, Lib.hid rfl, Lib.hid (by simp), h0, hst, hn0⟩
  case round =>
    clear h0 hst hn0
    obtain ⟨pre, k, rfl, hk, hfr, htt, hj, hst, hn0⟩ := hrel
    have hc := hst.cell
    have hfo := hfr.out
    have hto := htt.out
    have hm' := hm
    unfold maxLen at hm'
    by_cases hlt : k < s.size
    · have hN := fun w => first_any s k _ w hm hlt rfl
      cases hd : dec (s.data.toList.drop k) with
      | none =>
        rw [hd] at hN
        rw [places_none hd, List.append_nil] at hfo
        rw [tot_none hd, Nat.add_zero] at hto
        have hdone : sBad s.data.toList (thrown (k : Int)) pre wr := ⟨hfo.symm, by rw [hsz, ← hto]; omega, by rw [← hto]⟩
        replace hdone := Lib.hid hdone
        clear hd hfr hfo htt hto hsz
        gi_wp2_with (refine ⟨trivial, ?_⟩; gi_at_call 136; refine (callsIn_wide.2 (hN _)).mono ?_; rintro e W2 ⟨rfl, ⟨m, rfl⟩⟩)
        exact ⟨rfl, .inr ⟨_, pre, rfl, hdone.out, hJ _ _ _ hj (gdrewN (World.grownBy.refl _ _) m)⟩⟩
      | some x =>
        obtain ⟨rr, m⟩ := x
        rw [hd] at hN
        have h1 := dec_some hd
        simp at h1
        have hm1 := h1.1
        have hm2 := h1.2.2.1
        rw [places_some hd] at hfo
        rw [tot_some hd, List.drop_drop, ← Nat.add_assoc] at hto
        have hget : (pls s.data.toList)[pre.length]? = some (k, rr, m) := by rw [hfo]; simp
        have hfr2 : Hid (pls s.data.toList = (pre ++ [((k, rr, m) : Told)]) ++ places (k + m) (rs (s.data.toList.drop (k + m)))) := Lib.hid (by rw [hfo]; simp)
        replace hget := Lib.hid hget
        replace hto := Lib.hid hto
        clear hd hfr hfo h1 htt hsz
        gi_wp2_with (refine ⟨trivial, ?_⟩; gi_at_call 136; refine (callsIn_wide.2 (hN _)).mono ?_; rintro e W2 ⟨rfl, ⟨p, rfl⟩⟩; have hgW : wr.grownBy (wr.drewN p) none := gdrewN (World.grownBy.refl _ _) p; have hst2 := hst.kept hgW (by simp); obtain ⟨W2, hW2⟩ : ∃ W2, wr.drewN p = W2 := ⟨_, rfl⟩; rw [hW2] at hgW hst2 ⊢; clear hW2; obtain ⟨fn, tmps, assign, body, hy, hR⟩ := hY pre (k, rr, m) W2 (hJ _ _ _ hj hgW) hget.out (Nat.le_trans hn0 hgW.size); dsimp only [tEnc] at hy)
        refine hR.mono ?_
        rintro e3 W3 (⟨rfl, hj3, hk3⟩ | ⟨rfl, hj3, hk3⟩)
        all_goals gi_wp2
        all_goals first
          | exact ⟨⟨pre ++ [(k, rr, m)], k + m, by go_num, by omega, hfr2, hto, hj3, (hk3.2 b hb.1 hb.2).trans hst2, Nat.le_trans hn0 (Nat.le_trans hgW.size hk3.1)⟩, by simp [RowKit.intOf]; omega⟩
          | (refine bodyPost_ret (results_none rfl _ _ _) rfl ?_; exact .inl ⟨⟨_, rfl⟩, .inr ⟨_, trivial, hj3⟩⟩)
          | (go_end0; exact .inl ⟨⟨_, rfl⟩, .inr ⟨_, trivial, hj3⟩⟩)
    · rw [List.drop_eq_nil_of_le (by simp; omega)] at hfo hto
      have hdone : sAll s.data.toList pre wr := ⟨by rw [hfo]; simp [rs, rsN, places], by rw [hsz, ← hto, tot_nil]; omega⟩
      clear hfr hfo htt hto
      gi_wp2
      all_goals first
        | (refine bodyPost_ret (results_none rfl _ _ _) rfl ?_; exact .inl ⟨⟨_, rfl⟩, .inl ⟨pre, hdone, hj⟩⟩)
        | (go_end0; exact .inl ⟨⟨_, rfl⟩, .inl ⟨pre, hdone, hj⟩⟩)

set_option maxHeartbeats 1000000 in
theorem scalars_any (s : ByteArray) (w : World) :
    Calls Tryz.prog 102 #[.string s] w fun e w' => e = .returned (.func (.func 135) #[] #[.pointer (some ⟨w.heap.size, 0, none⟩)]) ∧ Boxed w' w.heap.size 9 (.string s) ∧ w.grownBy w' none := by
  have hmf : ∀ (fn : Fn) (first cap : Array Value) (w : World), (Instr.makeFunc fn first cap).run Tryz.prog w = .ok (.func fn first cap) w := fun _ _ _ _ => rfl
  go_enter Tryz.func102, Tryz.ntmps102
  go_wp2
  go_ret
  exact ⟨rfl, Boxed.new w _ _, World.grownBy_alloc w _ none⟩
end Go.Proofs.YtpdacbiiaglodaaGreat.U

/-
  LAYER 4 (utf): Check and its closure.
-/
namespace Go.Proofs.YtpdacbiiaglodaaGreat.U
set_option maxRecDepth 100000
open Go.RowKit Go.Lib

/-- What Check's closure answers. -/
def CheckPost (l : List UInt8) (w : World) (e : Ending) (w' : World) : Prop :=
  e = (if tot l = l.length then .returned (.tuple #[]) else .panicked [{ v := .iface 196 (.int .i64 (tot l : Int)), recovered := false }]) ∧ w.grownBy w' none

set_option maxHeartbeats 4000000 in
theorem check1_in (s : ByteArray) (b : Nat) (w : World) (hs : s.size ≤ maxLen) (hb : Boxed w b 9 (.string s)) :
    CallsIn Fence.wide 8 Tryz.prog 101 #[.pointer (some ⟨b, 0, none⟩)] w (CheckPost s.data.toList w) := by
  have hc := hb.cell
  have hbl := hb.lt
  refine callsIn_of_wp_marks Tryz.func101 rfl trivial ?_ rfl
  simp only [Tryz.ntmps101, List.size_toArray, List.length_cons, List.length_nil, Nat.reduceAdd, Nat.reduceSub, Array.replicate_succ, Array.replicate_zero, List.push_toArray, List.append_toArray, List.nil_append, List.cons_append]
  gi_wp2_with (refine ⟨trivial, ?_⟩; gi_at_call 102; refine (callsIn_wide.2 (scalars_any s _)).mono ?_; rintro e w1 ⟨rfl, hb1, hg1⟩)
  clear hc
  have hTell := scal1_tells 4 w.heap.size w1.heap.size w1.heap.size s w1 hb1 ⟨hb1.lt, by have := hb1.lt; omega⟩ hs
  refine range_tellsP (a := _) (w := w1) (α := Told) rfl (by omega) (gf := 135) (lb := #[.pointer (some ⟨w.heap.size, 0, none⟩)]) rfl trivial (enters_of Tryz.func135 (by kernel_rfl) rfl)
    hTell (by simp) (fun _ => rfl) (fun _ _ _ _ _ _ h _ _ _ => h)
    (fun pre W => w1.heap.size ≤ W.heap.size ∧ Below w.heap.size w W) (fun _ _ _ => False)
    ?hI (fun _ _ _ _ _ h _ _ => h.elim) ⟨Nat.le_refl _, belowg' hg1⟩ ?a1 ?assign ?body ?done ?stop ?panic
  case hI =>
    rintro pre A B k ⟨h1, h2⟩ hg hk
    refine ⟨Nat.le_trans h1 hg.size, h2.trans (gbelow hg h2.size ?_)⟩
    rintro q rfl
    rcases hk with hk | ⟨q', hk, hq, _⟩
    · cases hk
    · cases hk; have := hg1.size; omega
  case assign =>
    intro l x W K hK
    dsimp only [tEnc]
    gi_wp2
    exact hK
  case body =>
    rintro l2 pre x W ⟨h1, h2⟩ hget hsz
    gi_wp2_with fail
    exact ⟨KeepsOthers.refl _, KeptX.refl _, h1, h2⟩
  case stop =>
    rintro D c pre Wd W15 hD _ h _ _
    exact h.elim
  case done =>
    rintro D xs Wd W15 hD hS ⟨h1, h2⟩ hg hM
    have gp := grownBy_putObj' W15 D (.deferred none)
    have hb19 := belowg (h2.trans (gbelow gp h2.size (by simp; have := hg1.size; omega))) none
    have hP : CheckPost s.data.toList w (.returned (.tuple #[])) (W15.putObj D (.deferred none)) := ⟨by rw [if_pos hS.2], hb19⟩
    clear gp hb19 h2 hg hTell
    gi_wp2_with fail
    refine ⟨by simp, .inl ⟨_, _, rfl, run_takeDeferred hM, ?_⟩⟩
    simp [LeavesInM, LeavesIn, results, Tryz.results101, go_sem]
    exact hP
  case panic =>
    rintro D ch pre W15 hD hS ⟨h1, h2⟩ hM
    have gp := grownBy_putObj' W15 D (.deferred none)
    have hb19 := belowg (h2.trans (gbelow gp h2.size (by simp; have := hg1.size; omega))) none
    have hP : CheckPost s.data.toList w (.panicked ch) (W15.putObj D (.deferred none)) := ⟨by rw [if_neg hS.2.1, hS.2.2]; rfl, hb19⟩
    clear gp hb19 h2 hTell
    refine ⟨by simp, .inl ⟨_, _, rfl, run_takeDeferred hM, ?_⟩⟩
    simp [LeavesInM, LeavesIn]
    exact hP

theorem check1_any (s : ByteArray) (b : Nat) (w : World) (hs : s.size ≤ maxLen) (hb : Boxed w b 9 (.string s)) :
    Calls Tryz.prog 101 #[.pointer (some ⟨b, 0, none⟩)] w (CheckPost s.data.toList w) := callsIn_wide.1 (check1_in s b w hs hb)

theorem two_drewN {w W : World} (h : Two w W) (m : Nat) : Two w (W.drewN m) := h
theorem two_kept {w W W' : World} (h : Two w W) (hg : W.grownBy W' none) : Two w W' := ⟨h.1.kept hg (by simp), h.2.kept hg (by simp)⟩
theorem res_below {w w3 : World} {B : Nat} (x e : Int) (hB : B ≤ w.heap.size) (h : Below B w w3) : Below B w (res w x e w3) :=
  (h.setCell (p := ⟨w.heap.size, 0, none⟩) hB _).setCell (p := ⟨w.heap.size + 1, 0, none⟩) (by show B ≤ w.heap.size + 1; omega) _

set_option maxHeartbeats 1000000 in
theorem check_ok (s : ByteArray) (w : World) (hs : s.size ≤ maxLen) (h : tot s.data.toList = s.data.toList.length) :
    Calls Tryz.prog 57 #[.string s] w fun e w' => e = .returned (.tuple #[.int .i64 0, .int .i64 0]) ∧ Below w.heap.size w w' := by
  have hmf : ∀ (fn : Fn) (first cap : Array Value) (w : World), (Instr.makeFunc fn first cap).run Tryz.prog w = .ok (.func fn first cap) w := fun _ _ _ _ => rfl
  obtain ⟨w1, hw1⟩ : ∃ w1, w1 = w.alloc (.cells #[.string s] 9) := ⟨_, rfl⟩
  have hb1 : Boxed w1 w.heap.size 9 (.string s) := by rw [hw1]; exact Boxed.new w _ _
  have hg1 : w.grownBy w1 none := by rw [hw1]; exact World.grownBy_alloc w _ none
  have hbt := hb1.kept (two_grown w1) (by simp)
  have hc := caught_ok 101 #[] #[.pointer (some ⟨w.heap.size, 0, none⟩)] w1 (fun w3 => (two w1).grownBy w3 none)
    (enters_of Tryz.func101 (by kernel_rfl) rfl)
    ((check1_any s w.heap.size (two w1) hs hbt).mono fun e w' ⟨h1, h2⟩ => ⟨by rw [if_pos h] at h1; exact ⟨_, h1⟩, h2⟩)
    (fun w3 h => two_kept (two_two w1) h)
  clear hbt hb1
  replace hw1 := Lib.hid hw1
  go_enter Tryz.func57, Tryz.ntmps57
  go_wp2_with fail
  rw [← hw1.out]
  go_wp2_with (go_at_call 100; refine hc.mono ?_; rintro e w' ⟨rfl, ⟨w3, hg3, rfl⟩⟩)
  go_ret2
  exact ⟨rfl, (belowg' hg1).trans (res_below _ _ hg1.size ((belowg' ((two_grown w1).trans hg3)).mono hg1.size))⟩

set_option maxHeartbeats 1000000 in
theorem check_bad (s : ByteArray) (w : World) (hs : s.size ≤ maxLen) (h : tot s.data.toList ≠ s.data.toList.length) :
    Calls Tryz.prog 57 #[.string s] w fun e w' => e = .returned (.tuple #[.int .i64 (tot s.data.toList : Int), .int .i64 40]) ∧ Below w.heap.size w w' := by
  have hmf : ∀ (fn : Fn) (first cap : Array Value) (w : World), (Instr.makeFunc fn first cap).run Tryz.prog w = .ok (.func fn first cap) w := fun _ _ _ _ => rfl
  obtain ⟨w1, hw1⟩ : ∃ w1, w1 = w.alloc (.cells #[.string s] 9) := ⟨_, rfl⟩
  have hb1 : Boxed w1 w.heap.size 9 (.string s) := by rw [hw1]; exact Boxed.new w _ _
  have hg1 : w.grownBy w1 none := by rw [hw1]; exact World.grownBy_alloc w _ none
  have hbt := hb1.kept (two_grown w1) (by simp)
  have hc := caught_bad 101 #[] #[.pointer (some ⟨w.heap.size, 0, none⟩)] (tot s.data.toList : Int) w1 (fun w3 => (two w1).grownBy w3 none)
    (enters_of Tryz.func101 (by kernel_rfl) rfl)
    ((check1_any s w.heap.size (two w1) hs hbt).mono fun e w' ⟨h1, h2⟩ => ⟨by rw [if_neg h] at h1; exact h1, h2⟩)
    (fun w3 h => two_kept (two_two w1) h)
  clear hbt hb1
  replace hw1 := Lib.hid hw1
  go_enter Tryz.func57, Tryz.ntmps57
  go_wp2_with fail
  rw [← hw1.out]
  go_wp2_with (go_at_call 100; refine hc.mono ?_; rintro e w' ⟨rfl, ⟨w3, hg3, rfl⟩⟩)
  go_ret2
  exact ⟨rfl, (belowg' hg1).trans (res_below _ _ hg1.size ((belowg' ((two_grown w1).trans hg3)).mono hg1.size))⟩
end Go.Proofs.YtpdacbiiaglodaaGreat.U

/-
  LAYER 4 (utf): Decode.
-/
namespace Go.Proofs.YtpdacbiiaglodaaGreat.U
set_option maxRecDepth 100000
open Go.RowKit Go.Lib
attribute [local go_sem] Oper.semAt_some

set_option maxHeartbeats 1000000 in
theorem clip_any (b n c : Nat) (w : World) (hn : n ≤ c) (_hm : c ≤ maxLen) :
    Calls Tryz.prog 69 #[.slice (some ⟨b, 0, none⟩) n c] w fun e w' => e = .returned (.slice (some ⟨b, 0, none⟩) n n) ∧ w = w' := by
  go_enter Tryz.func69, Tryz.ntmps69
  go_wp2
  go_ret
  simp

theorem clip_nil (w : World) : Calls Tryz.prog 69 #[.slice none 0 0] w fun e w' => e = .returned (.slice none 0 0) ∧ w = w' := by
  go_enter Tryz.func69, Tryz.ntmps69
  go_wp2
  go_ret
  simp

/-- A slice reads as these runes. -/
def Runes (w : World) (v : Value) (l : List Int) : Prop := Row w v (runeCells l)
theorem Runes.all {w w' : World} {v : Value} {l : List Int} (h : Runes w v l) (hb : Below w.heap.size w w') : Runes w' v l := Row.all h hb


theorem infoRune : (Tryz.prog.info? 21).map (fun i => (i.zero, i.size, i.bytes)) = some (some (.int .i32 0), 1, 4) := by kernel_rfl
theorem infoRune_parts : ∃ i0 : TypeInfo, Tryz.prog.info? 21 = some i0 ∧ i0.zero = some (.int .i32 0) ∧ i0.size = 1 ∧ i0.bytes = 4 := by
  have h := infoRune
  cases hi : Tryz.prog.info? 21 with
  | none => rw [hi] at h; cases h
  | some i =>
    rw [hi] at h
    simp only [Option.map_some, Option.some.injEq, Prod.mk.injEq] at h
    exact ⟨i, rfl, h.1, h.2.1, h.2.2⟩

/-- The cells of what was told. -/
def rCells (pre : List Told) : List Value := pre.map fun x => .int .i32 (x.2.1 : Int)
theorem places_cells : ∀ (k : Nat) (t : List (Nat × Nat)), rCells (places k t) = t.map fun x => .int .i32 (x.1 : Int)
  | _, [] => rfl
  | k, (r, n) :: t => by
    have := places_cells (k + n) t
    simp [places, rCells] at this ⊢
    exact this
theorem pls_cells (l : List UInt8) : rCells (pls l) = runeCells (runes l) := by
  unfold pls
  rw [places_cells]
  simp [runeCells, runes]
theorem pls_length (l : List UInt8) : (pls l).length = (runes l).length := by
  have := congrArg List.length (pls_cells l)
  simpa [rCells, runeCells] using this
theorem tot_runes_le (l : List UInt8) : (runes l).length ≤ l.length := by
  have key : ∀ (k : Nat) (l : List UInt8), l.length ≤ k → (runes l).length ≤ l.length := by
    intro k
    induction k with
    | zero => intro l h; obtain rfl : l = [] := List.length_eq_zero_iff.1 (by omega); simp [runes_nil]
    | succ k ih =>
      intro l h
      cases hd : dec l with
      | none => simp [runes, rs_none hd]
      | some x =>
        obtain ⟨r, n⟩ := x
        have h1 := dec_some hd
        rw [runes_some hd]
        have := ih (l.drop n) (by simp; omega)
        simp at this ⊢
        omega
  exact key _ l (Nat.le_refl _)

def DecQ (l : List UInt8) (bl : Nat) (w w' : World) : Prop := ∃ v, Boxed w' bl 50 v ∧ w'.ownsRow w.heap.size 21 1 v (pls l).length (rCells (pls l)) ∧ w.grownBy w' (some bl)
/-- What Decode's closure leaves: l's box holds an own row of the scalars; it returns, or it has thrown. -/
def DecPost (l : List UInt8) (bl : Nat) (w : World) (e : Ending) (w' : World) : Prop :=
  e = (if tot l = l.length then .returned (.tuple #[]) else .panicked (thrown (tot l : Int))) ∧ DecQ l bl w w'

theorem rowForm {w : World} {B s n : Nat} {e : TypeId} {v : Value} {xs : List Value} (h : w.ownsRow B e s v n xs) : ∃ a c, v = .slice a n c := by
  obtain ⟨_, ⟨rfl, hn⟩ | ⟨g, cap, cur, rfl, _⟩⟩ := h
  · exact ⟨none, 0, by rw [hn]⟩
  · exact ⟨_, _, rfl⟩

theorem dec_end {l : List UInt8} {bl : Nat} {w w1 W : World} {D : Nat} {v : Value} {ch : Ending} (hs1 : w.heap.size ≤ w1.heap.size) (hll : bl < w.heap.size) (hD : w1.heap.size ≤ D) (h1 : Boxed W bl 50 v)
    (h2 : W.ownsRow w1.heap.size 21 1 v (pls l).length (rCells (pls l))) (h4 : w.grownBy W (some bl)) (hM : W.heap[D]? = some (.deferred (some [])))
    (he : ch = if tot l = l.length then .returned (.tuple #[]) else .panicked (thrown (tot l : Int))) : DecPost l bl w ch (W.putObj D (.deferred none)) := by
  have gp := grownBy_putObj' W D (.deferred none)
  refine ⟨he, v, h1.kept gp (by simp; omega), ?_, gnew h4 gp (fun r e => by cases e; left; omega)⟩
  have h2' : W.ownsRow w.heap.size 21 1 v (pls l).length (rCells (pls l)) := by
    obtain ⟨q1, q2 | ⟨g, cap, cur, q3, q4, q5⟩⟩ := h2
    · exact ⟨q1, .inl q2⟩
    · exact ⟨q1, .inr ⟨g, cap, cur, q3, by omega, q5⟩⟩
  refine h2'.kept gp ?_
  obtain ⟨_, ⟨q2, _⟩ | ⟨g, cap, cur, q3, _, hgg, _⟩⟩ := h2
  · left; rw [q2]; rfl
  · right
    rw [q3]
    intro e
    simp only [Value.ownBlock, Option.some.injEq] at e
    subst e
    rw [hM] at hgg
    cases hgg

set_option maxHeartbeats 8000000 in
theorem decode1_in (s : ByteArray) (b bl : Nat) (w : World) (hs : s.size ≤ 1048576) (hb : Boxed w b 9 (.string s)) (hl : Boxed w bl 50 (.slice none 0 0)) :
    CallsIn Fence.wide 8 Tryz.prog 103 #[.pointer (some ⟨b, 0, none⟩), .pointer (some ⟨bl, 0, none⟩)] w (DecPost s.data.toList bl w) := by
  have hm : s.size ≤ maxLen := by unfold maxLen; omega
  have hc := hb.cell
  have hbl := hb.lt
  have hll := hl.lt
  have hpl : (pls s.data.toList).length ≤ 1048576 := by
    rw [pls_length]
    have h1 := tot_runes_le s.data.toList
    simp at h1
    omega
  obtain ⟨i0, hi, hz0, hz1, hz2⟩ := infoRune_parts
  refine callsIn_of_wp_marks Tryz.func103 rfl trivial ?_ rfl
  simp only [Tryz.ntmps103, List.size_toArray, List.length_cons, List.length_nil, Nat.reduceAdd, Nat.reduceSub, Array.replicate_succ, Array.replicate_zero, List.push_toArray, List.append_toArray, List.nil_append, List.cons_append]
  gi_wp2_with (refine ⟨trivial, ?_⟩; gi_at_call 102; refine (callsIn_wide.2 (scalars_any s _)).mono ?_; rintro e w1 ⟨rfl, hb1, hg1⟩)
  clear hc
  have hs1 := hg1.size
  have hTell := scal1_tells 4 w.heap.size w1.heap.size bl s w1 hb1 ⟨hb1.lt, by omega⟩ hm
  refine range_tellsP (a := _) (w := w1) (α := Told) rfl (by omega) (gf := 135) (lb := #[.pointer (some ⟨w.heap.size, 0, none⟩)]) rfl trivial (enters_of Tryz.func135 (by kernel_rfl) rfl)
    hTell (by simp) (fun _ => rfl) (fun _ _ _ _ _ _ h _ _ _ => h)
    (fun pre W => ∃ v, Boxed W bl 50 v ∧ W.ownsRow w1.heap.size 21 1 v pre.length (rCells pre) ∧ KeptX w1.heap.size bl w1 W ∧ w.grownBy W (some bl)) (fun _ _ _ => False)
    ?hI (fun _ _ _ _ _ h _ _ => h.elim) ⟨_, hl.kept hg1 (by simp), World.ownsRow_nil _ _ _ _, KeptX.refl _, gbut hg1 _⟩ ?a1 ?assign ?body ?done ?stop ?panic
  case hI =>
    rintro pre A B k ⟨v, h1, h2, h3, h4⟩ hg hk
    have hA := h3.1
    rcases hk with rfl | ⟨q, rfl, hq, ho⟩
    · exact ⟨v, h1.kept hg (by simp), h2.kept hg (by cases v.ownBlock <;> simp), h3.trans ⟨hg.size, fun i hi _ => hg.block i (Nat.lt_of_lt_of_le hi h3.1) (by simp)⟩, h4.trans (gbut hg _)⟩
    · refine ⟨v, h1.kept hg (by simp; omega), h2.kept hg ?_, h3.trans (KeptX.grown hg h3.1 (.inr hq)), gnew h4 hg (fun r e => by cases e; left; omega)⟩
      obtain ⟨_, ⟨rfl, _⟩ | ⟨g, cap, cur, rfl, _, hgg, _⟩⟩ := h2
      · exact .inl rfl
      · right
        intro e
        simp only [Value.ownBlock, Option.some.injEq] at e
        subst e
        have := ho _ hgg
        cases this
  case assign =>
    intro l x W K hK
    dsimp only [tEnc]
    gi_wp2
    exact hK
  case body =>
    rintro l2 pre x W ⟨v, h1, h2, h3, h4⟩ hget hsz
    have hpz : pre.length < (pls s.data.toList).length := (List.getElem?_eq_some_iff.1 hget).1
    have r1 := h1.cell
    have r2 := h1.frozen
    clear hTell hb hl hb1
    gi_wp2_with (gi_at_builtin; refine wpListIn_append_own _ rfl _ _ 50 rfl w1.heap.size 21 i0 (.int .i32 0) 1 4 Tryz.underlying50 hi hz0 hz1 hz2 rfl (by decide) _ _ _ rfl (h2.alloc _) ⟨W.heap.size, 0, none⟩ 1 1 [.int .i32 (x.2.1 : Int)] rfl rfl ?c1 ?c2 ?c3 ?c4 ?c5 ?_)
    case c1 =>
      intro j u hj
      match j, hj with
      | 0, hj => simp at hj; subst hj; simp [Addr.add]
    case c2 => intro u hu; simp at hu; subst hu; rfl
    case c3 => unfold maxLen; omega
    case c4 => omega
    case c5 => simp; omega
    intro v' W1 hown' hgrow _
    obtain ⟨a', c', rfl⟩ := rowForm hown'
    have hvb : ∀ q, v.ownBlock = some q → w1.heap.size ≤ q ∧ q < W.heap.size := fun q e => World.ownsRow.lt h2 q e
    have gW : W.grownBy W1 v.ownBlock := (gbut (World.grownBy_alloc W _ none) _).trans hgrow
    have hbb : bl < W.heap.size := h1.lt
    have hne2 : v.ownBlock ≠ some bl := fun e => by have := hvb _ e; omega
    have h1' := h1.kept gW (Ne.symm hne2)
    have r3 := h1'.cell
    have r4 := h1'.frozen
    have hko : KeepsOthers W W1 := KeepsOthers.of_grownBy gW (by
      rintro j o hj ho
      obtain ⟨_, ⟨rfl, _⟩ | ⟨g, cap, cur, rfl, _, hgg, _⟩⟩ := h2
      · cases hj
      · simp only [Value.ownBlock, Option.some.injEq] at hj
        subst hj
        rw [hgg] at ho
        cases ho
        rfl)
    have hkx : KeptX w1.heap.size bl W W1 := ⟨gW.size, fun k hk _ => gW.block k (by omega) (fun e => by have := hvb k e.symm; omega)⟩
    have hbw : w.grownBy W1 (some bl) := gnew h4 gW (fun q e => by have := hvb q e; left; omega)
    have hown2 : W1.ownsRow w1.heap.size 21 1 (.slice a' (pre.length + 1) c') (pre ++ [x]).length (rCells (pre ++ [x])) := by
      simpa [rCells] using hown'
    have hvb2 := World.ownsRow.lt hown2
    replace hown2 := Lib.hid hown2
    replace h1' := Lib.hid h1'
    replace hko := Lib.hid hko
    replace hkx := Lib.hid hkx
    replace hbw := Lib.hid hbw
    replace h3 := Lib.hid h3
    clear hown' hgrow h2 h1 r1 r2 h4 hget
    gi_wp2_with fail
    have gs := gset (World.grownBy.refl W1 (some bl)) 0 (.slice a' (pre.length + 1) c')
    refine ⟨hko.out.trans (KeepsOthers.setCell W1 _ _), hkx.out.trans (KeptX.grown gs (Nat.le_trans hsz hkx.out.1) (.inl rfl)), _, h1'.out.set _, hown2.out.kept gs ?_, (h3.out.trans hkx.out).trans (KeptX.grown gs (Nat.le_trans hsz hkx.out.1) (.inl rfl)), hbw.out.trans gs⟩
    right
    intro e
    have := hvb2 _ e
    omega
  case stop =>
    rintro D c pre Wd W15 hD _ h _ _
    exact h.elim
  case done =>
    rintro D xs Wd W15 hD hS ⟨v, h1, h2, h3, h4⟩ hg hM
    obtain ⟨rfl, hS⟩ := hS
    have hP : DecPost s.data.toList bl w (.returned (.tuple #[])) (W15.putObj D (.deferred none)) := dec_end hs1 hll hD h1 h2 h4 hM (by rw [if_pos hS])
    clear hTell hb hl hb1 h1 h2 h3 h4 hg
    gi_wp2_with fail
    refine ⟨by simp, .inl ⟨_, _, rfl, run_takeDeferred hM, ?_⟩⟩
    simp [LeavesInM, LeavesIn, results, Tryz.results103, go_sem]
    exact hP
  case panic =>
    rintro D ch pre W15 hD hS ⟨v, h1, h2, h3, h4⟩ hM
    obtain ⟨rfl, hS, rfl⟩ := hS
    have hP : DecPost s.data.toList bl w (.panicked (thrown (tot s.data.toList : Int))) (W15.putObj D (.deferred none)) := dec_end hs1 hll hD h1 h2 h4 hM (by rw [if_neg hS])
    clear hTell
    refine ⟨by simp, .inl ⟨_, _, rfl, run_takeDeferred hM, ?_⟩⟩
    simp [LeavesInM, LeavesIn]
    exact hP
theorem decode1_any (s : ByteArray) (b bl : Nat) (w : World) (hs : s.size ≤ 1048576) (hb : Boxed w b 9 (.string s)) (hl : Boxed w bl 50 (.slice none 0 0)) :
    Calls Tryz.prog 103 #[.pointer (some ⟨b, 0, none⟩), .pointer (some ⟨bl, 0, none⟩)] w (DecPost s.data.toList bl w) := callsIn_wide.1 (decode1_in s b bl w hs hb hl)

theorem _root_.Go.Proofs.YtpdacbiiaglodaaGreat.Row.keptD {w w' : World} {v : Value} {vs : List Value} {r : Nat} (h : Row w v vs) (hg : w.grownBy w' (some r)) (hne : v.ownBlock ≠ some r) : Row w' v vs := by
  rcases h with h | ⟨b, off, cap, rfl, h1, h2, hc⟩
  · exact .inl h
  · refine .inr ⟨b, off, cap, rfl, h1, h2, fun i u hu => ?_⟩
    have h3 := hc i u hu
    have hlt : b < w.heap.size := World.block_lt_of_cell? w _ h3
    have := hg.block b hlt (fun e => hne (by simp only [Value.ownBlock]; exact e.symm ▸ rfl))
    simp only [World.cell?] at h3 ⊢
    rw [this]; exact h3

/-- Clip of an own row. -/
theorem clip_own (B n : Nat) (v : Value) (vs : List Value) (w : World) (h : w.ownsRow B 21 1 v n vs) (hn : n = vs.length) :
    Calls Tryz.prog 69 #[v] w fun e w' => ∃ a c, e = .returned (.slice a vs.length c) ∧ Row w (.slice a vs.length c) vs ∧ (Value.slice a vs.length c).ownBlock = v.ownBlock ∧ w = w' := by
  subst hn
  obtain ⟨h0, ⟨rfl, hn⟩ | ⟨g, cap, cur, rfl, hB, hgg, h1, h2, h3, h4⟩⟩ := h
  · obtain rfl := List.length_eq_zero_iff.1 hn
    exact (clip_nil w).mono fun e w' ⟨h1, h2⟩ => ⟨none, 0, h1, .inl ⟨rfl, rfl⟩, rfl, h2⟩
  · refine (clip_any g vs.length cap w h1 h2).mono fun e w' ⟨q1, q2⟩ => ⟨_, _, q1, .inr ⟨g, 0, vs.length, rfl, Nat.le_refl _, Nat.le_trans h1 h2, fun i u hu => ?_⟩, rfl, q2⟩
    rw [Nat.mul_one] at h4
    have hi := (List.getElem?_eq_some_iff.1 hu).1
    have h5 : cur.toList[i]? = some u := by
      rw [← h4, List.getElem?_take_of_lt hi] at hu
      exact hu
    have h6 : cur[i]? = some u := by simpa using h5
    have hj := (Array.getElem?_eq_some_iff.1 h6).1
    rw [Nat.zero_add]
    simp [World.cell?, hgg, go_sem, h6]

/-- What stands behind the closure that is caught. -/
theorem dec_caught (s : ByteArray) (w w1 : World) (hw1 : w1 = (w.alloc (.cells #[.string s] 9)).alloc (.cells #[.slice none 0 0] 50)) (hs : s.size ≤ 1048576) :
    Calls Tryz.prog 100 #[.func (.func 103) #[] #[.pointer (some ⟨w.heap.size, 0, none⟩), .pointer (some ⟨w.heap.size + 1, 0, none⟩)]] w1 fun e w' =>
      e = .returned (if tot s.data.toList = s.data.toList.length then .tuple #[.int .i64 0, .int .i64 0] else .tuple #[.int .i64 (tot s.data.toList : Int), .int .i64 40]) ∧
      ∃ v, Boxed w' (w.heap.size + 1) 50 v ∧ w'.ownsRow (w.heap.size + 2) 21 1 v (pls s.data.toList).length (rCells (pls s.data.toList)) ∧ Below w.heap.size w w' := by
  have hb1 : Boxed w1 w.heap.size 9 (.string s) := by rw [hw1]; exact (Boxed.new w _ _).alloc _
  have hl1 : Boxed w1 (w.heap.size + 1) 50 (.slice none 0 0) := by
    have := Boxed.new (w.alloc (.cells #[.string s] 9)) 50 (.slice none 0 0)
    rw [World.size_alloc] at this
    rwa [hw1]
  have hg1 : w.grownBy w1 none := by rw [hw1]; exact galloc (World.grownBy_alloc w _ none) _
  have hsz : w1.heap.size = w.heap.size + 2 := by rw [hw1]; simp
  have hsz2 : (two w1).heap.size = w.heap.size + 4 := by unfold two; simp [hsz]
  have hcl := decode1_any s w.heap.size (w.heap.size + 1) (two w1) hs (hb1.kept (two_grown w1) (by simp)) (hl1.kept (two_grown w1) (by simp))
  have key : ∀ (x e : Int) (w3 : World) (v : Value), Boxed w3 (w.heap.size + 1) 50 v → w3.ownsRow (two w1).heap.size 21 1 v (pls s.data.toList).length (rCells (pls s.data.toList)) → (two w1).grownBy w3 (some (w.heap.size + 1)) →
      ∃ v, Boxed (res w1 x e w3) (w.heap.size + 1) 50 v ∧ (res w1 x e w3).ownsRow (w.heap.size + 2) 21 1 v (pls s.data.toList).length (rCells (pls s.data.toList)) ∧ Below w.heap.size w (res w1 x e w3) := by
    intro x e w3 v h1 h2 h3
    have hlt := World.ownsRow.lt h2
    refine ⟨v, ?_, ?_, ?_⟩
    · unfold res; exact (h1.other (by omega) _).other (by omega) _
    · have h2' : w3.ownsRow (w.heap.size + 2) 21 1 v (pls s.data.toList).length (rCells (pls s.data.toList)) := by
        obtain ⟨q1, q2 | ⟨g, cap, cur, q3, q4, q5⟩⟩ := h2
        · exact ⟨q1, .inl q2⟩
        · exact ⟨q1, .inr ⟨g, cap, cur, q3, by omega, q5⟩⟩
      unfold res
      refine (h2'.kept (grownBy_setCell' w3 _ _) ?_).kept (grownBy_setCell' _ _ _) ?_
      all_goals
        right
        intro e
        have := hlt _ e
        omega
    · have hB : Below w.heap.size w w3 := (belowg' ((hg1.trans (two_grown w1)))).trans (gbelow h3 (by omega) (fun r e => by cases e; omega))
      unfold res
      exact (hB.setCell (p := ⟨w1.heap.size, 0, none⟩) (by show w.heap.size ≤ w1.heap.size; omega) _).setCell (p := ⟨w1.heap.size + 1, 0, none⟩) (by show w.heap.size ≤ w1.heap.size + 1; omega) _
  have hT : ∀ w3, DecQ s.data.toList (w.heap.size + 1) (two w1) w3 → Two w1 w3 := by
    rintro w3 ⟨v, _, _, h3⟩
    exact ⟨(two_two w1).1.kept h3 (by simp; omega), (two_two w1).2.kept h3 (by simp; omega)⟩
  by_cases h : tot s.data.toList = s.data.toList.length
  · refine (caught_ok 103 #[] #[.pointer (some ⟨w.heap.size, 0, none⟩), .pointer (some ⟨w.heap.size + 1, 0, none⟩)] w1 (DecQ s.data.toList (w.heap.size + 1) (two w1)) (enters_of Tryz.func103 (by kernel_rfl) rfl) (hcl.mono fun e w' ⟨h1, h2⟩ => ⟨by rw [if_pos h] at h1; exact ⟨_, h1⟩, h2⟩) hT).mono ?_
    rintro e w' ⟨rfl, w3, ⟨v, h1, h2, h3⟩, rfl⟩
    rw [if_pos h]
    exact ⟨rfl, key _ _ _ _ h1 h2 h3⟩
  · refine (caught_bad 103 #[] #[.pointer (some ⟨w.heap.size, 0, none⟩), .pointer (some ⟨w.heap.size + 1, 0, none⟩)] (tot s.data.toList : Int) w1 (DecQ s.data.toList (w.heap.size + 1) (two w1)) (enters_of Tryz.func103 (by kernel_rfl) rfl) (hcl.mono fun e w' ⟨h1, h2⟩ => ⟨by rw [if_neg h] at h1; exact h1, h2⟩) hT).mono ?_
    rintro e w' ⟨rfl, w3, ⟨v, h1, h2, h3⟩, rfl⟩
    rw [if_neg h]
    exact ⟨rfl, key _ _ _ _ h1 h2 h3⟩

set_option maxHeartbeats 1000000 in
theorem decode_new (s : ByteArray) (w : World) (hs : s.size ≤ 1048576) (h : tot s.data.toList = s.data.toList.length) :
    Calls Tryz.prog 58 #[.string s] w fun e w' => ∃ v, e = .returned (.tuple #[v, .int .i64 0, .int .i64 0]) ∧ (∀ k, v.ownBlock = some k → w.heap.size ≤ k) ∧ Runes w' v (runes s.data.toList) ∧ Below w.heap.size w w' := by
  have hmf : ∀ (fn : Fn) (first cap : Array Value) (w : World), (Instr.makeFunc fn first cap).run Tryz.prog w = .ok (.func fn first cap) w := fun _ _ _ _ => rfl
  go_enter Tryz.func58, Tryz.ntmps58
  obtain ⟨w1, hw1⟩ : ∃ w1, w1 = (w.alloc (.cells #[.string s] 9)).alloc (.cells #[.slice none 0 0] 50) := ⟨_, rfl⟩
  have hc := dec_caught s w w1 hw1 hs
  rw [if_pos h] at hc
  replace hw1 := Lib.hid hw1
  go_wp2_with fail
  rw [← hw1.out]
  go_wp2_with (first
    | (go_at_call 100; refine hc.mono ?_; rintro e W ⟨rfl, v, hbx, hown, hbel⟩; have r1 := hbx.cell; have r2 := hbx.frozen; have hC := clip_own _ _ v _ W hown (by simp [rCells]); rw [pls_cells] at hC)
    | (go_at_call 69; refine hC.mono ?_; rintro e W2 ⟨a, c, rfl, hrow, hob, rfl⟩))
  have gs := grownBy_setCell' W (w.heap.size + 1) (.slice a (runeCells (runes s.data.toList)).length c)
  have hne : (Value.slice a (runeCells (runes s.data.toList)).length c).ownBlock ≠ some (w.heap.size + 1) := fun e => by
    rw [hob] at e
    have := World.ownsRow.lt hown _ e
    omega
  have hrow2 := hrow.keptD gs hne
  have hbx2 := (hbx.set (.slice a (runeCells (runes s.data.toList)).length c)).cell
  have hB := hbel.setCell (p := ⟨w.heap.size + 1, 0, none⟩) (by show w.heap.size ≤ w.heap.size + 1; omega) (.slice a (runeCells (runes s.data.toList)).length c)
  refine bodyPost_ret (v := .tuple #[.slice a (runeCells (runes s.data.toList)).length c, .int .i64 0, .int .i64 0]) ?_ rfl ⟨_, rfl, fun k e => by { rw [hob] at e; have := World.ownsRow.lt hown _ e; omega }, hrow2, hB⟩
  simp [results, Tryz.results58, go_sem, hbx2]
theorem decode_ok (s : ByteArray) (w : World) (hs : s.size ≤ 1048576) (h : tot s.data.toList = s.data.toList.length) :
    Calls Tryz.prog 58 #[.string s] w fun e w' => ∃ v, e = .returned (.tuple #[v, .int .i64 0, .int .i64 0]) ∧ Runes w' v (runes s.data.toList) ∧ Below w.heap.size w w' :=
  (decode_new s w hs h).mono fun _ _ ⟨v, h1, _, h3⟩ => ⟨v, h1, h3⟩

set_option maxHeartbeats 1000000 in
theorem decode_bad (s : ByteArray) (w : World) (hs : s.size ≤ 1048576) (h : tot s.data.toList ≠ s.data.toList.length) :
    Calls Tryz.prog 58 #[.string s] w fun e w' => e = .returned (.tuple #[.slice none 0 0, .int .i64 (tot s.data.toList : Int), .int .i64 40]) ∧ Below w.heap.size w w' := by
  have hmf : ∀ (fn : Fn) (first cap : Array Value) (w : World), (Instr.makeFunc fn first cap).run Tryz.prog w = .ok (.func fn first cap) w := fun _ _ _ _ => rfl
  have hl := tot_length s.data.toList
  have hl2 : s.data.toList.length = s.size := by simp
  go_enter Tryz.func58, Tryz.ntmps58
  obtain ⟨w1, hw1⟩ : ∃ w1, w1 = (w.alloc (.cells #[.string s] 9)).alloc (.cells #[.slice none 0 0] 50) := ⟨_, rfl⟩
  have hc := dec_caught s w w1 hw1 hs
  rw [if_neg h] at hc
  replace hw1 := Lib.hid hw1
  generalize tot s.data.toList = T at hc hl ⊢
  clear h hl2
  go_wp2_with fail
  rw [← hw1.out]
  go_wp2_with (go_at_call 100; refine hc.mono ?_; rintro e W ⟨rfl, v, hbx, hown, hbel⟩; have r1 := hbx.cell; have r2 := hbx.frozen)
  have hbx2 := (hbx.set (.slice none 0 0)).cell
  have hB := hbel.setCell (p := ⟨w.heap.size + 1, 0, none⟩) (by show w.heap.size ≤ w.heap.size + 1; omega) (.slice none 0 0)
  refine bodyPost_ret (v := .tuple #[.slice none 0 0, .int .i64 (T : Int), .int .i64 40]) ?_ rfl ⟨rfl, hB⟩
  simp [results, Tryz.results58, go_sem, hbx2]

end Go.Proofs.YtpdacbiiaglodaaGreat.U

/-
  LAYER 4 (utf): the reference's form of a scalar.
-/
namespace Go.Proofs.YtpdacbiiaglodaaGreat.U
set_option maxRecDepth 100000
open Go.RowKit Go.Lib

theorem owns_lit {w : World} {e : TypeId} {bs : List UInt8} {cs : Array Value} {n : Nat} (hc : cs = (byteCells bs).toArray) (hn : bs.length = n) (hm : n ≤ maxLen) :
    Owns (w.alloc (.cells cs e)) w.heap.size e (.slice (some ⟨w.heap.size, 0, none⟩) n n) bs := by
  subst hn
  subst hc
  have hl : (byteCells bs).length = bs.length := by simp [byteCells]
  exact ⟨by simp [hl], .inr ⟨w.heap.size, _, _, rfl, Nat.le_refl _, World.alloc_heap_new w _, Nat.le_refl _, hm, by simp [hl], by simp [hl, List.take_of_length_le]⟩⟩

theorem form_cells1 {r : Nat} (h1 : r < 128) : #[Value.int .u8 (r : Int)] = (byteCells (form r)).toArray ∧ (form r).length = 1 := by
  rw [form, if_pos h1]
  simp only [byteCells, List.map, ofNat_toNat (show r < 256 by omega)]
  exact ⟨trivial, rfl⟩

theorem form_cells2 {r : Nat} (h1 : ¬ r < 128) (h2 : r < 2048) : #[Value.int .u8 (192 + (r : Int) / 64), Value.int .u8 (128 + (r : Int) % 64)] = (byteCells (form r)).toArray ∧ (form r).length = 2 := by
  rw [form, if_neg h1, if_pos h2]
  simp only [byteCells, List.map, ofNat_toNat (show 192 + r / 64 < 256 by omega), ofNat_toNat (show 128 + r % 64 < 256 by omega)]
  exact ⟨rfl, rfl⟩
theorem form_cells3 {r x y z : Nat} (h2 : ¬ r < 2048) (h3 : r < 65536) (hx : (r : Int) / 4096 = (x : Int)) (hy : (r : Int) / 64 % 64 = (y : Int)) (hz : (r : Int) % 64 = (z : Int)) :
    #[Value.int .u8 (224 + (x : Int)), Value.int .u8 (128 + (y : Int)), Value.int .u8 (128 + (z : Int))] = (byteCells (form r)).toArray ∧ (form r).length = 3 := by
  rw [form, if_neg (by omega), if_neg h2, if_pos h3]
  obtain rfl : r / 4096 = x := by omega
  obtain rfl : r / 64 % 64 = y := by omega
  obtain rfl : r % 64 = z := by omega
  simp only [byteCells, List.map, ofNat_toNat (show 224 + r / 4096 < 256 by omega), ofNat_toNat (show 128 + r / 64 % 64 < 256 by omega), ofNat_toNat (show 128 + r % 64 < 256 by omega)]
  exact ⟨rfl, rfl⟩
theorem form_cells4 {r u x y z : Nat} (h3 : ¬ r < 65536) (hr : r ≤ 1114111) (hu : (r : Int) / 262144 = (u : Int)) (hx : (r : Int) / 4096 % 64 = (x : Int)) (hy : (r : Int) / 64 % 64 = (y : Int)) (hz : (r : Int) % 64 = (z : Int)) :
    #[Value.int .u8 (240 + (u : Int)), Value.int .u8 (128 + (x : Int)), Value.int .u8 (128 + (y : Int)), Value.int .u8 (128 + (z : Int))] = (byteCells (form r)).toArray ∧ (form r).length = 4 := by
  rw [form, if_neg (by omega), if_neg (by omega), if_neg h3]
  obtain rfl : r / 262144 = u := by omega
  obtain rfl : r / 4096 % 64 = x := by omega
  obtain rfl : r / 64 % 64 = y := by omega
  obtain rfl : r % 64 = z := by omega
  simp only [byteCells, List.map, ofNat_toNat (show 240 + r / 262144 < 256 by omega), ofNat_toNat (show 128 + r / 4096 % 64 < 256 by omega), ofNat_toNat (show 128 + r / 64 % 64 < 256 by omega), ofNat_toNat (show 128 + r % 64 < 256 by omega)]
  exact ⟨rfl, rfl⟩

set_option maxRecDepth 100000 in
set_option maxHeartbeats 1000000 in
theorem form_any (r : Nat) (w : World) (hr : r ≤ 1114111) :
    Calls Tryz.prog 105 #[.int .i32 (r : Int)] w fun e w' => ∃ v, e = .returned v ∧ Owns w' w.heap.size 5 v (form r) ∧ w.grownBy w' none := by
  by_cases h1 : r < 128
  · have hf := form_cells1 h1
    have H := Lib.hid hf; clear hf
    go_enter Tryz.func105, Tryz.ntmps105
    go_wp2
    go_ret
    exact ⟨_, rfl, owns_lit H.out.1 H.out.2 (by decide), World.grownBy_alloc w _ none⟩
  · by_cases h2 : r < 2048
    · have H := Lib.hid (form_cells2 h1 h2)
      go_enter Tryz.func105, Tryz.ntmps105
      go_wp2
      go_ret
      exact ⟨_, rfl, owns_lit H.out.1 H.out.2 (by decide), World.grownBy_alloc w _ none⟩
    · by_cases h3 : r < 65536
      · obtain ⟨x, hx, hxb⟩ : ∃ x : Nat, (r : Int) / 4096 = (x : Int) ∧ x ≤ 15 := ⟨r / 4096, by omega, by omega⟩
        obtain ⟨y, hy, hyb⟩ : ∃ y : Nat, (r : Int) / 64 % 64 = (y : Int) ∧ y ≤ 63 := ⟨r / 64 % 64, by omega, by omega⟩
        obtain ⟨z, hz, hzb⟩ : ∃ z : Nat, (r : Int) % 64 = (z : Int) ∧ z ≤ 63 := ⟨r % 64, by omega, by omega⟩
        have d1 : decide ((r : Int) < 128) = false := by simp; omega
        have d2 : decide ((r : Int) < 2048) = false := by simp; omega
        have d3 : decide ((r : Int) < 65536) = true := by simp; omega
        have H := Lib.hid (form_cells3 h2 h3 hx hy hz)
        clear h1 h2 h3 hr
        go_enter Tryz.func105, Tryz.ntmps105
        go_wp2
        go_ret
        exact ⟨_, rfl, owns_lit H.out.1 H.out.2 (by decide), World.grownBy_alloc w _ none⟩
      · obtain ⟨u, hu, hub⟩ : ∃ u : Nat, (r : Int) / 262144 = (u : Int) ∧ u ≤ 4 := ⟨r / 262144, by omega, by omega⟩
        obtain ⟨x, hx, hxb⟩ : ∃ x : Nat, (r : Int) / 4096 % 64 = (x : Int) ∧ x ≤ 63 := ⟨r / 4096 % 64, by omega, by omega⟩
        obtain ⟨y, hy, hyb⟩ : ∃ y : Nat, (r : Int) / 64 % 64 = (y : Int) ∧ y ≤ 63 := ⟨r / 64 % 64, by omega, by omega⟩
        obtain ⟨z, hz, hzb⟩ : ∃ z : Nat, (r : Int) % 64 = (z : Int) ∧ z ≤ 63 := ⟨r % 64, by omega, by omega⟩
        have d1 : decide ((r : Int) < 128) = false := by simp; omega
        have d2 : decide ((r : Int) < 2048) = false := by simp; omega
        have d3 : decide ((r : Int) < 65536) = false := by simp; omega
        have H := Lib.hid (form_cells4 h3 hr hu hx hy hz)
        clear h1 h2 h3 hr
        go_enter Tryz.func105, Tryz.ntmps105
        go_wp2
        go_ret
        exact ⟨_, rfl, owns_lit H.out.1 H.out.2 (by decide), World.grownBy_alloc w _ none⟩
end Go.Proofs.YtpdacbiiaglodaaGreat.U
