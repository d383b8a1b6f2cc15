/-
  LAYER 9 (trie): the keys of a node's kids, told one by one.
-/
import Derived.Test.YtlnplompnabmlaaRA07
import Derived.Test.YtlnplompnabmlaaRA09
import Derived.Laws.IdiomRangeMap
import Derived.Maps.AppendAt
import Derived.Test.YtlnplompnabmlaaRA05
import Derived.Sort.AssemblyPlain
import Derived.Sort.Row
import Derived.WalkKit
import Derived.BigGuard
import Derived.BigCall
import Derived.CellFam
import Derived.Deep.Draws
import Derived.Deep.QuietTactic
import Derived.BigQuiet
import Derived.Deep.LoopGhost
namespace Go.Proofs.Ytlnplompnabmlaa
set_option maxRecDepth 100000
open Go.RowKit Go.Lib
attribute [local go_sem] Oper.semAt_some

section
variable {F : Fence} {n : Nat} {P : Program} {w w' : World} {ops : Array Oper} {rest : List Oper} {o : Oper} {a : Act} {Q : Exit → Act → World → Prop}
theorem wpIn_range_run (hg : o.guard = none) (m : Operand) (t : TypeId) (hop : o.op = Op.range t m) {v u : Value} (hm : a.eval m = u) (hrun : (Instr.range t u).run P w = .ok v w')
    (hK : wpListIn F n P ops Q rest (a.put o.dst v) w') : wpListIn F n P ops Q (o :: rest) a w := by
  refine wpListIn_plain hg fun K' hK' => ?_
  unfold Oper.wpIn
  refine ⟨by simp [Oper.about, hop], ?_⟩
  rw [Oper.semAt_plain F _ _ (by rw [hop]; intro c hc'; cases hc')]
  simp [execOp, hop, hm, hrun, Result.andThen]
  exact hK' _ _ hK
theorem wpIn_next_run (hg : o.guard = none) (it : Operand) (hop : o.op = Op.next it false) {v u : Value} (hm : a.eval it = u) (hrun : (Instr.next u false o.type).run P w = .ok v w')
    (hK : wpListIn F n P ops Q rest (a.put o.dst v) w') : wpListIn F n P ops Q (o :: rest) a w := by
  refine wpListIn_plain hg fun K' hK' => ?_
  unfold Oper.wpIn
  refine ⟨by simp [Oper.about, hop], ?_⟩
  rw [Oper.semAt_plain F _ _ (by rw [hop]; intro c hc'; cases hc')]
  simp [execOp, hop, hm, hrun, Result.andThen]
  exact hK' _ _ hK
end

def kEnc (x : Int) : Array Value := #[.int .i32 x]
def kOk (l : List (Int × Value)) (pre : List Int) (_ : Int) (_W : World) : Prop := pre.length < l.length
def kAll (l : List (Int × Value)) (xs : List Int) (_W : World) : Prop := xs.Perm (l.map (·.1))

set_option maxHeartbeats 8000000 in
theorem keys1_tells (n mb b : Nat) (l : List (Int × Value)) (w : World) (hbox : Box w mb 78 (.map (some b))) (hE : Ents w b l) :
    TellsZ Fence.wide (n + 3) Try.prog 70 #[.pointer (some ⟨mb, 0, none⟩)] kEnc (kOk l) (fun k => k = mb ∨ k = b) (kAll l) (fun _ _ => True) w := by
  intro ll J Jx W Z hzk hz0 hzl hzn hll hJ hJx hY h0
  have hbW := hbox.zk hzk (.inl rfl)
  have hEW := hE.heap (hzk.2 b hE.lt (.inr rfl))
  clear hbox hE hzk
  have c1 := hbW.c0
  have hb0 := hz0 b (.inr rfl)
  have hbn := hzn b (.inr rfl)
  obtain ⟨W1, hrun1, hRK, g1, hs1⟩ := hEW.ranged Try.underlying78
  have hzl1 : ∀ k, (Z k ∨ k = W.heap.size) → k < W1.heap.size := fun k h => by
    rcases h with h | rfl
    · have := hzl k h; omega
    · omega
  have hJ1 : J (fun k => Z k ∨ k = W.heap.size) [] W1 := hJ.more _ _ _ _ _ h0 g1 (fun _ h => .inl h) (fun k h => by
    rcases h with h | rfl
    · exact .inl h
    · right; omega)
  refine callsIn_of_wp Try.func70 rfl trivial ?_ rfl
  simp only [Try.ntmps70, List.size_toArray, List.length_cons, List.length_nil, Nat.reduceAdd, Nat.reduceSub, Array.replicate_succ, Array.replicate_zero, List.push_toArray, List.append_toArray, List.nil_append, List.cons_append]
  gi_wp2_with (first | (gi_at_range; refine wpIn_range_run rfl _ _ rfl rfl hrun1 ?_) | gi_in)
  gi_loopw [3] (fun _ wr => ∃ (pre : List Int), RK wr b W.heap.size l pre ∧ Hid (J (fun k => Z k ∨ k = W.heap.size) pre wr) ∧ W1.heap.size ≤ wr.heap.size) (fun _ wr => wr.rangeLeft b W.heap.size)
  case atStart => exact ⟨[], hRK, hJ1, Nat.le_refl _⟩
  case round =>
    obtain ⟨pre, hR, hJp, hsz⟩ := hrel
    rcases hR.next (P := Try.prog) 0 with ⟨hp, hnx⟩ | ⟨x, v, w2, hlt, hnx, hR2, hleft, hg2, hs2, hen⟩
    · gi_wp2_with (first | (gi_at_next; refine wpIn_next_run rfl _ rfl rfl hnx ?_) | gi_in)
      go_end0
      exact ⟨⟨_, rfl⟩, _, fun _ h => .inl h, fun k h => Nat.lt_of_lt_of_le (hzl1 k h) hsz, .inl ⟨pre, hp, hJp.out⟩⟩
    · have hJ2 : J (fun k => Z k ∨ k = W.heap.size) pre w2 := hJ.own _ _ _ _ W.heap.size hJp.out (.inr rfl) (Nat.le_refl _) hg2
      have hsz2 : W1.heap.size ≤ w2.heap.size := by omega
      obtain ⟨fn, tmps, assign, body, hy, hRd⟩ := hY _ pre x w2 (fun k h => .inl (hz0 k h)) (fun k h => Nat.lt_of_lt_of_le (hzl1 k h) hsz2) hJ2 hlt
      dsimp only [kEnc] at hy
      unfold i32 at hnx hen
      clear hs2
      gi_wp2_with (first | (gi_at_next; refine wpIn_next_run rfl _ rfl rfl hnx ?_) | gi_in)
      refine hRd.mono ?_
      rintro e3 W5 (⟨rfl, hj3, hk3⟩ | ⟨rfl, hj3, hk3⟩)
      all_goals gi_wp2
      · have hl2 := hR2.lt
        obtain ⟨hR3, hl3⟩ := hR2.heap (hk3.2 b hl2.1 ⟨.inl hb0, hbn⟩) (hk3.2 W.heap.size hl2.2.1 ⟨.inr rfl, by omega⟩)
        exact ⟨⟨pre ++ [x], hR3, hj3, Nat.le_trans hsz2 hk3.1⟩, by rw [hl3]; exact hleft⟩
      · refine bodyPost_ret (results_none rfl _ _ _) rfl ?_
        exact ⟨⟨_, rfl⟩, _, fun _ h => .inl h, fun k h => Nat.lt_of_lt_of_le (hzl1 k h) (Nat.le_trans hsz2 hk3.1), .inr ⟨_, trivial, hj3⟩⟩

set_option maxHeartbeats 4000000 in
theorem keys1_nil (n mb : Nat) (w : World) (hbox : Box w mb 78 (.map none)) :
    TellsZ Fence.wide (n + 3) Try.prog 70 #[.pointer (some ⟨mb, 0, none⟩)] kEnc (kOk []) (fun k => k = mb) (kAll []) (fun _ _ => True) w := by
  intro ll J Jx W Z hzk hz0 hzl hzn hll hJ hJx hY h0
  have hbW := hbox.zk hzk rfl
  clear hbox hzk
  have c1 := hbW.c0
  have g1 := World.grownBy_alloc W (.mapIter none 0 #[] 0) none
  have hJ1 := Lib.hid (hJ.more Z Z [] _ _ h0 g1 (fun _ h => h) (fun _ h => .inl h))
  have hz1 := Lib.hid (fun k (h : Z k) => Nat.lt_of_lt_of_le (hzl k h) g1.size : ∀ k, Z k → k < (W.alloc (.mapIter none 0 #[] 0)).heap.size)
  have hrun1 := run_range_nilMap (P := Try.prog) W 78 _ _ Try.underlying78
  have hnx := run_next_nilMap (P := Try.prog) W 0 0 0 #[]
  clear hJ hJx hY h0 hzn g1
  refine callsIn_of_wp Try.func70 rfl trivial ?_ rfl
  simp only [Try.ntmps70, List.size_toArray, List.length_cons, List.length_nil, Nat.reduceAdd, Nat.reduceSub, Array.replicate_succ, Array.replicate_zero, List.push_toArray, List.append_toArray, List.nil_append, List.cons_append]
  gi_wp2_with (first | (gi_at_range; refine wpIn_range_run rfl _ _ rfl rfl hrun1 ?_) | gi_in)
  generalize W.alloc (.mapIter none 0 #[] 0) = W1 at *
  gi_loopw [3] (fun _ wr => wr = W1) (fun _ _ => 0)
  case atStart => exact rfl
  case round =>
    obtain rfl := hrel
    gi_wp2_with (first | (gi_at_next; refine wpIn_next_run rfl _ rfl rfl hnx ?_) | gi_in)
    go_end0
    exact ⟨⟨_, rfl⟩, Z, fun _ h => h, hz1.out, .inl ⟨[], List.Perm.refl _, hJ1.out⟩⟩
end Go.Proofs.Ytlnplompnabmlaa

/-
  LAYER 9 (trie): the keys of a node's kids, collected.
-/
namespace Go.Proofs.Ytlnplompnabmlaa
set_option maxRecDepth 100000
open Go.RowKit Go.Lib
attribute [local go_sem] Oper.semAt_some

theorem row_form {w : World} {B s n : Nat} {e : TypeId} {v : Value} {xs : List Value} (h : w.ownsRow B e s v n xs) : ∃ a c, v = .slice a n c := by
  obtain ⟨_, ⟨rfl, hn⟩ | ⟨g, cap, cur, rfl, _⟩⟩ := h
  · exact ⟨none, 0, by rw [hn]⟩
  · exact ⟨_, _, rfl⟩
theorem info_rune : ∃ i0 : TypeInfo, Try.prog.info? 21 = some i0 ∧ i0.zero = some (.int .i32 0) ∧ i0.size = 1 ∧ i0.bytes = 4 := by
  have h : (Try.prog.info? 21).map (fun i => (i.zero, i.size, i.bytes)) = some (some (.int .i32 0), 1, 4) := by kernel_rfl
  cases hi : Try.prog.info? 21 with
  | none => rw [hi] at h; cases h
  | some i =>
    rw [hi] at h
    simp only [Option.map_some, Option.some.injEq, Prod.mk.injEq] at h
    exact ⟨i, rfl, h.1, h.2.1, h.2.2⟩

theorem app_run {F : Fence} {n : Nat} {P : Program} {ops : Array Oper} {rest : List Oper} {o : Oper} {a : Act} {w : World} {Q : Exit → Act → World → Prop} (hgd : o.guard = none) (sl x : Operand) (t : TypeId) (ho : o.op = .call { callee := .builtin .append, args := #[sl, x], argTypes := #[t, t] })
    (v xv : Value) (hs : a.eval sl = v) (hx : a.eval x = xv) {v' : Value} {w' : World} (hrun : (Builtin.append_ #[t, t] o.type #[v, xv]).run P w = .ok v' w') (h : wpListIn F n P ops Q rest (a.put o.dst v') w') : wpListIn F n P ops Q (o :: rest) a w := by
  refine wpListIn_plain hgd fun K' hK' => ?_
  unfold Oper.wpIn
  refine ⟨by simp [Oper.about, ho, resolve, Target.leads, Sem.run_pure], ?_⟩
  rw [Oper.semAt_plain F _ _ (by rw [ho]; intro c hc'; cases hc')]
  unfold execOp
  simp only [ho, resolve, invoke, builtin, Sem.run_bind, Sem.run_pure, Result.andThen_ok, List.map_toArray, List.map_cons, List.map_nil, hs, hx, hrun]
  exact hK' _ _ h

/-- Between two rounds. -/
def AppI (B : Nat) (w : World) (Z : Nat → Prop) (pre : List Int) (W : World) : Prop :=
  ∃ v, Box W B 32 v ∧ W.ownsRow (B + 1) 21 1 v pre.length (pre.map i32) ∧ ¬ Z B ∧ (∀ k, v.ownBlock = some k → ¬ Z k) ∧ w.grownBy W none ∧ B + 1 ≤ W.heap.size
theorem AppI.tame (B : Nat) (w : World) (hB : w.heap.size ≤ B) : Tame (B + 1) (AppI B w) := by
  constructor
  · rintro Z Z' s A C ⟨v, h1, h2, h3, h4, h5, h6⟩ hg hz hz'
    refine ⟨v, h1.new hg, h2.kept hg (by cases v.ownBlock <;> simp), fun h => ?_, fun k hk h => ?_, h5.trans hg, Nat.le_trans h6 hg.size⟩
    · rcases hz' _ h with h | h
      · exact h3 h
      · omega
    · rcases hz' _ h with h | h
      · exact h4 k hk h
      · have := World.ownsRow.lt h2 k hk; omega
  · rintro Z s A C q ⟨v, h1, h2, h3, h4, h5, h6⟩ hq hn hg
    have hqB : q ≠ B := fun e => h3 (e ▸ hq)
    have hqv : v.ownBlock ≠ some q := fun e => h4 q e hq
    exact ⟨v, h1.kept hg (fun e => hqB (Option.some.inj e)), h2.kept hg (.inr (fun e => hqv e)), h3, h4, gnew h5 hg (by rintro r ⟨⟩; left; omega), Nat.le_trans h6 hg.size⟩

set_option maxHeartbeats 8000000 in
theorem append_any (gf : Nat) (lb : Array Value) (eg : ∀ args w, (callFunc gf args).run Try.prog w = .ok (.enter gf args) w) (l : List (Int × Value)) (Z0 : Nat → Prop) (w : World)
    (hT : ∀ W0, w.grownBy W0 none → TellsZ Fence.wide 7 Try.prog gf lb kEnc (kOk l) Z0 (kAll l) (fun _ _ => True) W0) (hZ : ∀ k, Z0 k → k < w.heap.size) (hlim : l.length ≤ 1048576) :
    CallsIn Fence.wide 8 Try.prog 73 #[.slice none 0 0, .func (.func gf) #[] lb] w fun e w' => ∃ (v : Value) (xs : List Int), e = .returned v ∧ xs.Perm (l.map (·.1)) ∧ w'.ownsRow w.heap.size 21 1 v xs.length (xs.map i32) ∧ w.grownBy w' none := by
  obtain ⟨i0, hi, hz0, hz1, hz2⟩ := info_rune
  obtain ⟨W0, hW0⟩ : ∃ W0, W0 = w.alloc (.cells #[.slice none 0 0] 32) := ⟨_, rfl⟩
  have hB0 : Box W0 w.heap.size 32 (.slice none 0 0) := by rw [hW0]; exact World.alloc_heap_new w _
  have hg0 : w.grownBy W0 none := by rw [hW0]; exact World.grownBy_alloc w _ none
  have hs0 : W0.heap.size = w.heap.size + 1 := by rw [hW0]; simp
  refine callsIn_of_wp_marks Try.func73 rfl trivial ?_ rfl
  simp only [Try.ntmps73, List.size_toArray, List.length_cons, List.length_nil, Nat.reduceAdd, Nat.reduceSub, Array.replicate_succ, Array.replicate_zero, List.push_toArray, List.append_toArray, List.nil_append, List.cons_append]
  gi_wp2_with fail
  rw [← hW0]
  clear hW0
  have hTell := hT W0 hg0
  have hT0 := AppI.tame w.heap.size w (Nat.le_refl _)
  rw [← hs0] at hT0
  refine range_tellsZ1 (a := _) (w := W0) (α := Int) rfl (by omega) (gf := gf) (lb := lb) rfl trivial eg
    hTell (fun k h => by have := hZ k h; omega) (fun _ => rfl) (fun _ _ _ _ _ _ h _ _ _ => h)
    (AppI w.heap.size w) (fun _ _ _ _ => False) (fun Z s A h => by obtain ⟨v, _, _, _, _, _, h6⟩ := h; omega) hT0 (fun c => ⟨fun _ _ _ _ _ h _ _ _ => h.elim, fun _ _ _ _ _ h _ _ _ => h.elim⟩)
    ⟨_, hB0, World.ownsRow_nil _ _ _ _, fun h => by have := hZ _ h; omega, fun k h => by simp [Value.ownBlock] at h, hg0, by omega⟩ ?a1 (fun _ _ _ _ h _ => h) ?assign ?body ?done ?stop
  case assign =>
    intro l' x W K hK
    dsimp only [kEnc]
    gi_wp2
    exact hK
  case body =>
    rintro l2 Z pre x W hz0Z hZl ⟨v, h1, h2, h3, h4, h5, h6⟩ hok hsz
    have hpz : pre.length < l.length := hok
    have r1 := h1.c0
    have r2 := h1.free 0
    have hB : w.heap.size < W.heap.size := h1.lt
    clear hTell hT0 hB0
    obtain ⟨v', W1, hrun, hown', hgrow, _, hlies⟩ := run_append_own_at (P := Try.prog) (W.alloc (.cells #[i32 x] 21)) (w.heap.size + 1) 32 32 21 i0 (.int .i32 0) 1 4 Try.underlying32 hi hz0 hz1 hz2 rfl (by decide) v pre.length (pre.map i32) (h2.alloc _) ⟨W.heap.size, 0, none⟩ 1 1 [i32 x] rfl (fun j u hj => by
      match j, hj with
      | 0, hj => simp at hj; subst hj; simp [Addr.add, i32]) (fun u hu => by simp at hu; subst hu; rfl) (by unfold maxLen; omega) (by omega) (by simp; omega)
    obtain ⟨a', c', rfl⟩ := row_form hown'
    have hvb : ∀ q, v.ownBlock = some q → w.heap.size + 1 ≤ q ∧ q < W.heap.size := fun q e => by have := World.ownsRow.lt h2 q e; omega
    have gW : W.grownBy W1 v.ownBlock := (gbut' (World.grownBy_alloc W _ none)).trans hgrow
    have hne : v.ownBlock ≠ some w.heap.size := fun e => by have := hvb _ e; omega
    have h1' := h1.kept gW hne
    have r3 := h1'.c0
    have r4 := h1'.free 0
    have hown2 : W1.ownsRow (w.heap.size + 1) 21 1 (.slice a' (pre.length + 1) c') (pre ++ [x]).length ((pre ++ [x]).map i32) := by
      simpa using hown'
    have hvb2 := World.ownsRow.lt hown2
    have hrow2 : ∀ k, (Value.slice a' (pre.length + 1) c').ownBlock = some k → ¬ Z k := fun k hk hz => by
      have hlt := hZl k hz
      rcases hlies with e3 | e3
      · exact h4 k (by rw [← e3]; exact hk) hz
      · rw [hk] at e3
        have e4 : k = (W.alloc (.cells #[i32 x] 21)).heap.size := Option.some.inj e3
        simp at e4
        omega
    have hzk1 : ZK Z W W1 := ZK.of gW (fun k e h => h4 k e h)
    replace hown2 := Lib.hid hown2
    replace h1' := Lib.hid h1'
    replace h2 := Lib.hid h2
    replace h1 := Lib.hid h1
    replace h5 := Lib.hid (gnew h5 gW (fun r e => .inl (by have := (hvb r e).1; omega)) : w.grownBy W1 none)
    replace hzk1 := Lib.hid hzk1
    replace hrow2 := Lib.hid hrow2
    have hss := gW.size
    clear hown' hgrow gW hlies
    unfold i32 at hrun
    gi_wp2_with (gi_at_builtin; refine app_run rfl _ _ 32 rfl _ _ rfl rfl hrun ?_)
    have gs := gset (World.grownBy.refl W1 (some w.heap.size)) 0 (.slice a' (pre.length + 1) c')
    refine ⟨hzk1.out.trans (ZK.of gs (fun k e h => by cases e; exact h3 h)), _, ?_, hown2.out.kept gs (.inr fun e => ?_), h3, hrow2.out, gnew h5.out gs (by rintro r ⟨⟩; exact .inl (Nat.le_refl _)), Nat.le_trans (Nat.le_trans h6 hss) gs.size⟩
    · exact heap_setCell_same W1 w.heap.size 0 _ _ _ h1'.out
    · have := hvb2 _ e
      omega
  case stop =>
    rintro D c Z pre A C _ _ _ _ _ h
    exact h.elim
  case done =>
    rintro D Z xs Wd W15 hD hZD hz0Z hZl hS ⟨v, h1, h2, h3, h4, h5, h6⟩ hg hM
    have hp : xs.Perm (l.map (·.1)) := hS
    obtain ⟨a', c', rfl⟩ := row_form h2
    have r1 := h1.c0
    clear hTell hT0 hB0
    gi_wp2_with fail
    refine ⟨by simp, .inl ⟨_, _, rfl, run_takeDeferred hM, ?_⟩⟩
    have gp := grownBy_putObj' W15 D (.deferred none)
    have hvD : (Value.slice a' xs.length c').ownBlock ≠ some D := fun e => h4 D e hZD
    have hown : (W15.putObj D (.deferred none)).ownsRow w.heap.size 21 1 (.slice a' xs.length c') xs.length (xs.map i32) := by
      have h2' : W15.ownsRow w.heap.size 21 1 (.slice a' xs.length c') xs.length (xs.map i32) := by
        obtain ⟨q1, q2 | ⟨g, cap, cur, q3, q4, q5⟩⟩ := h2
        · exact ⟨q1, .inl q2⟩
        · exact ⟨q1, .inr ⟨g, cap, cur, q3, by omega, q5⟩⟩
      exact h2'.kept gp (.inr hvD)
    have hgw : w.grownBy (W15.putObj D (.deferred none)) none := gnew h5 gp (by rintro r ⟨⟩; left; omega)
    clear gp h1 h2 h3 h4 h5 hg hM r1 hS
    generalize W15.putObj D (.deferred none) = W19 at hown hgw ⊢
    simp [LeavesInM, LeavesIn, results, Try.results73, go_sem]
    exact ⟨xs, hp, hown, hgw⟩
end Go.Proofs.Ytlnplompnabmlaa

/-
  LAYER 9 (trie): slices.Sort at runes: the row in memory; less; the sort by insertion.
-/
namespace Go.Proofs.Ytlnplompnabmlaa
set_option maxRecDepth 100000
open Go.RowKit Go.Sort

/-- An element of a row (kept whole). -/
def gt (d : Array Int) (t : Nat) : Int := d[t]!
/-- w is w0 but for a row of N runes, which reads as d. -/
structure RowAt (w0 : World) (blk off N : Nat) (d : Array Int) (w : World) : Prop where
  size : d.size = N
  world : ∃ d0 n, d0.size = N ∧ Holds (Value.int .i32) w0 blk off d0 ∧ w = putRow (Value.int .i32) (Sort.ahead w0 n) blk off d
section
variable {w0 w : World} {blk off N : Nat} {d : Array Int}
theorem RowAt.cell (h : RowAt w0 blk off N d w) (t : Nat) (ht : t < N) : w.cell? ⟨blk, off + t, none⟩ = some (.int .i32 (gt d t)) := by
  obtain ⟨d0, n, h1, h2, rfl⟩ := h.world
  have e := cell?_putRow (Value.int .i32) (Sort.ahead w0 n) blk off d0 d (holds_ahead _ _ _ _ _ _ h2) (h.size.trans h1.symm) t (by rw [h.size]; exact ht)
  rw [e]
  simp [gt]
theorem RowAt.soft (h : RowAt w0 blk off N d w) (t : Nat) (ht : t < N) : w.frozen? ⟨blk, off + t, none⟩ = false := by
  obtain ⟨d0, n, h1, h2, rfl⟩ := h.world
  unfold putRow
  rw [frozen?_mapBlock]
  exact ((holds_ahead _ _ n _ _ _ h2) t (by omega)).2
theorem RowAt.drewN (h : RowAt w0 blk off N d w) (q : Nat) : RowAt w0 blk off N d (w.drewN q) := by
  obtain ⟨d0, n, h1, h2, rfl⟩ := h.world
  exact ⟨h.size, d0, n + q, h1, h2, by rw [← ahead_ahead]; rfl⟩
theorem RowAt.swp (h : RowAt w0 blk off N d w) {i j : Nat} (hi : i < N) (hj : j < N) : RowAt w0 blk off N (swp d i j) ((w.setCell ⟨blk, off + i, none⟩ (.int .i32 (gt d j))).setCell ⟨blk, off + j, none⟩ (.int .i32 (gt d i))) := by
  obtain ⟨d0, n, h1, h2, rfl⟩ := h.world
  have hs := h.size
  exact ⟨by rw [size_swp]; exact hs, d0, n, h1, h2, putRow_swp (Value.int .i32) _ blk off d i j (by omega) (by omega)⟩
theorem RowAt.cells (h : RowAt w0 blk off N d w) : ∀ t, t < N → w.cell? ⟨blk, off + t, none⟩ = some (.int .i32 (gt d t)) := fun t ht => h.cell t ht
theorem RowAt.softs (h : RowAt w0 blk off N d w) : ∀ t, t < N → w.frozen? ⟨blk, off + t, none⟩ = false := fun t ht => h.soft t ht
end

def intOf : Value → Int | .int _ q => q | _ => 0

theorem nan_any (x : Int) (w : World) : Calls Try.prog 93 #[.int .i32 x] w fun e w' => e = .returned (.bool false) ∧ w' = w := by
  go_enter Try.func93, Try.ntmps93
  go_wp2
  go_ret
  exact ⟨by simp, rfl⟩
/-- The order of runes (kept whole). -/
def less (x y : Int) : Bool := decide (x < y)
theorem less_any (x y : Int) (w : World) : Calls Try.prog 83 #[.int .i32 x, .int .i32 y] w fun e w' => e = .returned (.bool (less x y)) ∧ w' = w := by
  go_enter Try.func83, Try.ntmps83
  go_wp2_with (go_at_call 93; refine (nan_any _ _).mono ?_; rintro e w' ⟨rfl, rfl⟩)
  go_ret
  exact ⟨rfl, rfl⟩
theorem swo_less : SWO less := swo_ltInt

theorem ins_in {a j : Nat} {d : Array Int} (hj : a < j) (hl : less (gt d j) (gt d (j - 1)) = true) : insInner less a j d = insInner less a (j - 1) (swp d j (j - 1)) := by
  obtain ⟨k, rfl⟩ : ∃ k, j = k + 1 := ⟨j - 1, by omega⟩
  rw [insInner]
  simp only [Nat.add_sub_cancel, gt] at hl ⊢
  simp [hj, hl]
theorem ins_end {a j : Nat} {d : Array Int} (h : j ≤ a ∨ less (gt d j) (gt d (j - 1)) = false) : insInner less a j d = d := by
  cases j with
  | zero => rw [insInner]
  | succ k =>
    rw [insInner]
    simp only [Nat.add_sub_cancel, gt] at h
    rcases h with h | h
    · simp [show ¬ k + 1 > a by omega]
    · simp [h]

theorem ins_any {w0 w : World} {blk off N : Nat} {d : Array Int} (h : RowAt w0 blk off N d w) (cap a b : Nat) (hab : a ≤ b) (hb : b ≤ N) (hsz : N < 4611686018427387904) :
    Calls Try.prog 77 #[.slice (some ⟨blk, off, none⟩) N cap, .int .i64 a, .int .i64 b] w fun e w' => e = .returned (.tuple #[]) ∧ RowAt w0 blk off N (insertionSort less d a b) w' := by
  go_enter Try.func77, Try.ntmps77
  go_wp2
  go_loopw [6] (fun vi wr => ∃ (i : Nat) (dk : Array Int), vi = .int .i64 i ∧ a < i ∧ i ≤ b + 1 ∧ RowAt w0 blk off N dk wr ∧
      insOuter less a b i dk = insOuter less a b (a + 1) d) (fun vi _ => b + 1 - (intOf vi).toNat)
  case atStart => exact ⟨a + 1, d, by go_num, by omega, by omega, h, rfl⟩
  case round =>
    obtain ⟨i, dk, rfl, hai, hib, hr, hO⟩ := hrel
    clear h
    have HO : Hid (insOuter less a b i dk = insOuter less a b (a + 1) d) := hO
    have HR : Hid (RowAt w0 blk off N dk wr) := hr
    clear hO hr
    go_wp2
    · go_loopw [7] (fun vj wr2 => ∃ (j : Nat) (dj : Array Int), vj = .int .i64 j ∧ a ≤ j ∧ j ≤ i ∧ RowAt w0 blk off N dj wr2 ∧
          insInner less a j dj = insInner less a i dk) (fun vj _ => (intOf vj).toNat)
      case atStart => exact ⟨i, dk, rfl, by omega, Nat.le_refl _, HR.out, rfl⟩
      case round =>
        obtain ⟨j, dj, rfl, haj, hji, hw2, hI⟩ := hrel
        have hlt : i < b := by assumption
        have hcw := hw2.cells
        have hfw := hw2.softs
        have HW : Hid (RowAt w0 blk off N dj wr) := hw2
        have HI : Hid (insInner less a j dj = insInner less a i dk) := hI
        clear hw2 hI HR
        have OUT : Hid ((j ≤ a ∨ less (gt dj j) (gt dj (j - 1)) = false) → insOuter less a b (i + 1) dj = insOuter less a b (a + 1) d) := fun hs => by
          rw [← HO.out, insOuter.eq_def less a b i dk, if_pos hlt, ← HI.out, ins_end hs]
        go_wp2
        by_cases hja : a < j
        · go_quiet (first | (go_at_call 83; refine Calls.quiet_of_same (less_any _ _ _)))
          go_wp2
          · have hl : less (gt dj j) (gt dj (j - 1)) = true := by assumption
            go_region
            all_goals go_wp2
            go_roundw
            case rel =>
              refine ⟨j - 1, swp dj j (j - 1), by congr 1; omega, by omega, by omega, ?_, ?_⟩
              · exact (HW.out.drewN (nq + 1)).swp (by omega) (by omega)
              · rw [← HI.out, ins_in hja hl]
            case measure => simp [intOf]; omega
          · have hl : less (gt dj j) (gt dj (j - 1)) = false := by assumption
            go_roundw
            case rel => exact ⟨i + 1, dj, by go_num, by omega, by omega, HW.out.drewN nq, OUT.out (Or.inr hl)⟩
            case measure => simp [intOf]; omega
        · go_quiet (first | (go_at_call 83; refine Calls.quiet_of_same (less_any _ _ _)))
          go_wp2
          go_roundw
          case rel => exact ⟨i + 1, dj, by go_num, by omega, by omega, HW.out.drewN nq, OUT.out (Or.inl (by omega))⟩
          case measure => simp [intOf]; omega
    · have hge : ¬ i < b := by assumption
      go_end0
      refine ⟨rfl, ?_⟩
      unfold insertionSort
      have e := HO.out
      rw [insOuter.eq_def less a b i dk, if_neg hge] at e
      rw [← e]
      exact HR.out
end Go.Proofs.Ytlnplompnabmlaa

/-
  LAYER 9 (trie): slices.Sort at runes: the sort by a heap. Printed by wip/tools/trie-sift.py.
-/
namespace Go.Proofs.Ytlnplompnabmlaa
set_option maxRecDepth 100000
open Go.RowKit Go.Sort

theorem sd_end {hi F root : Nat} {d : Array Int} (h : hi ≤ 2 * root + 1) : siftDown less hi F root d = d := by rw [siftDown, dif_pos h]
/-- The greater child. -/
def kid (d : Array Int) (hi F root : Nat) : Nat := if 2 * root + 2 < hi ∧ less (gt d (F + (2 * root + 1))) (gt d (F + (2 * root + 2))) = true then 2 * root + 2 else 2 * root + 1
theorem sd_step {hi F root c : Nat} {d : Array Int} (h : 2 * root + 1 < hi) (hc : c = kid d hi F root) :
    siftDown less hi F root d = if less (gt d (F + root)) (gt d (F + c)) = true then siftDown less hi F c (swp d (F + root) (F + c)) else d := by
  subst hc
  rw [siftDown, dif_neg (by omega)]
  unfold kid gt
  by_cases h1 : 2 * root + 2 < hi
  · cases h2 : less d[F + (2 * root + 1)]! d[F + (2 * root + 2)]!
    · simp only [h1, decide_true, Bool.and_false, Bool.false_eq_true, if_false, and_false]
      cases less d[F + root]! d[F + (2 * root + 1)]! <;> simp
    · simp only [h1, decide_true, Bool.and_true, if_true, and_true, dite_true]
      cases less d[F + root]! d[F + (2 * root + 2)]! <;> simp
  · simp only [show ¬ 2 * root + 1 + 1 < hi from h1, decide_false, Bool.false_and, Bool.false_eq_true, if_false, false_and]
    cases less d[F + root]! d[F + (2 * root + 1)]! <;> simp

set_option maxHeartbeats 3200000 in
set_option maxRecDepth 1000000 in
theorem sift_any {w0 w : World} {blk off N : Nat} {d : Array Int} (h : RowAt w0 blk off N d w) (cap lo hi first : Nat) (hlo : lo ≤ hi) (hb : first + hi ≤ N) (hsz : N < 4611686018427387904) :
    Calls Try.prog 88 #[.slice (some ⟨blk, off, none⟩) N cap, .int .i64 lo, .int .i64 hi, .int .i64 first] w fun e w' => e = .returned (.tuple #[]) ∧ RowAt w0 blk off N (siftDown less hi first lo d) w' := by
  go_enter Try.func88, Try.ntmps88
  go_wp2
  go_loopg [8] (hi - lo) (fun k s8 wr => ∃ (root : Nat) (dk : Array Int), s8 = .int .i64 root ∧ root ≤ hi ∧ hi - root ≤ k ∧ RowAt w0 blk off N dk wr ∧ siftDown less hi first root dk = siftDown less hi first lo d)
  case atStart => exact ⟨lo, d, rfl, hlo, Nat.le_refl _, h, rfl⟩
  case round =>
    obtain ⟨root, dk, rfl, hr, hk, hw, heq⟩ := hrel
    have hcw := hw.cells
    have hfw := hw.softs
    have HW : Hid (RowAt w0 blk off N dk wr) := hw
    have HI : Hid (siftDown less hi first root dk = siftDown less hi first lo d) := heq
    clear hw heq h
    by_cases h0 : hi ≤ 2 * root + 1
    · have h0z : (hi : Int) ≤ 2 * (root : Int) + 1 := by omega
      go_wp2
      go_end0
      refine ⟨rfl, ?_⟩
      rw [← HI.out, sd_end h0]
      exact HW.out
    · have h0z : ¬ ((hi : Int) ≤ 2 * (root : Int) + 1) := by omega
      by_cases h1 : 2 * root + 2 < hi
      · have h1z : 2 * (root : Int) + 1 + 1 < (hi : Int) := by omega
        go_wp2_with fail
        go_big_quiet (first | (go_at_call 83; refine Calls.quiet_of_same (less_any _ _ _)))
        go_wp2_with fail
        · have hL : less (gt dk (first + 2 * root + 1)) (gt dk (first + 2 * root + 2)) = true := by assumption
          have hcw2 : ∀ t, t < N → (wr.drewN nq).cell? ⟨blk, off + t, none⟩ = some (.int .i32 (gt dk t)) := (HW.out.drewN nq).cells
          have hfw2 : ∀ t, t < N → (wr.drewN nq).frozen? ⟨blk, off + t, none⟩ = false := (HW.out.drewN nq).softs
          have HW2 : Hid (RowAt w0 blk off N dk (wr.drewN nq)) := HW.out.drewN nq
          clear hcw hfw HW
          generalize wr.drewN nq = wr2 at hcw2 hfw2 HW2 ⊢
          clear nq
          go_big_quiet (first | (go_at_call 83; refine Calls.quiet_of_same (less_any _ _ _)))
          go_wp2_with fail
          · have hS : less (gt dk (first + root)) (gt dk (first + 2 * root + 2)) = false := by
              have h : (!less (gt dk (first + root)) (gt dk (first + 2 * root + 2))) = true := by assumption
              simpa using h
            (try simp only [Exit.inBlock, Exit.then]); refine bodyPost_ret (results_none rfl _ _ _) rfl ?_
            refine ⟨rfl, ?_⟩
            rw [← HI.out, sd_step (c := 2 * root + 2) (by omega) (by simp [kid, h1, ← Nat.add_assoc, hL]), if_neg (by simp [← Nat.add_assoc, hS])]
            exact HW2.out.drewN nq
          · have hG : less (gt dk (first + root)) (gt dk (first + 2 * root + 2)) = true := by
              have h : (!less (gt dk (first + root)) (gt dk (first + 2 * root + 2))) = false := by assumption
              simpa using h
            have hcw3 : ∀ t, t < N → (wr2.drewN nq).cell? ⟨blk, off + t, none⟩ = some (.int .i32 (gt dk t)) := (HW2.out.drewN nq).cells
            have hfw3 : ∀ t, t < N → (wr2.drewN nq).frozen? ⟨blk, off + t, none⟩ = false := (HW2.out.drewN nq).softs
            have HW3 : Hid (RowAt w0 blk off N dk (wr2.drewN nq)) := HW2.out.drewN nq
            clear hcw2 hfw2 HW2
            generalize wr2.drewN nq = wr3 at hcw3 hfw3 HW3 ⊢
            go_region
            go_wp2
            go_roundg (hi - (2 * root + 2))
            case measure => omega
            case rel =>
              refine ⟨2 * root + 2, swp dk (first + root) (first + (2 * root + 2)), by simp <;> omega, by omega, Nat.le_refl _, ?_, ?_⟩
              · exact (HW3.out.swp (i := first + root) (j := first + (2 * root + 2)) (by omega) (by omega)).drewN 1
              · rw [← HI.out, sd_step (root := root) (c := 2 * root + 2) (by omega) (by simp [kid, h1, ← Nat.add_assoc, hL]), if_pos (by simp [← Nat.add_assoc, hG])]
        · have hL : less (gt dk (first + 2 * root + 1)) (gt dk (first + 2 * root + 2)) = false := by assumption
          have hcw2 : ∀ t, t < N → (wr.drewN nq).cell? ⟨blk, off + t, none⟩ = some (.int .i32 (gt dk t)) := (HW.out.drewN nq).cells
          have hfw2 : ∀ t, t < N → (wr.drewN nq).frozen? ⟨blk, off + t, none⟩ = false := (HW.out.drewN nq).softs
          have HW2 : Hid (RowAt w0 blk off N dk (wr.drewN nq)) := HW.out.drewN nq
          clear hcw hfw HW
          generalize wr.drewN nq = wr2 at hcw2 hfw2 HW2 ⊢
          clear nq
          go_big_quiet (first | (go_at_call 83; refine Calls.quiet_of_same (less_any _ _ _)))
          go_wp2_with fail
          · have hS : less (gt dk (first + root)) (gt dk (first + 2 * root + 1)) = false := by
              have h : (!less (gt dk (first + root)) (gt dk (first + 2 * root + 1))) = true := by assumption
              simpa using h
            (try simp only [Exit.inBlock, Exit.then]); refine bodyPost_ret (results_none rfl _ _ _) rfl ?_
            refine ⟨rfl, ?_⟩
            rw [← HI.out, sd_step (c := 2 * root + 1) (by omega) (by simp [kid, ← Nat.add_assoc, hL]), if_neg (by simp [← Nat.add_assoc, hS])]
            exact HW2.out.drewN nq
          · have hG : less (gt dk (first + root)) (gt dk (first + 2 * root + 1)) = true := by
              have h : (!less (gt dk (first + root)) (gt dk (first + 2 * root + 1))) = false := by assumption
              simpa using h
            have hcw3 : ∀ t, t < N → (wr2.drewN nq).cell? ⟨blk, off + t, none⟩ = some (.int .i32 (gt dk t)) := (HW2.out.drewN nq).cells
            have hfw3 : ∀ t, t < N → (wr2.drewN nq).frozen? ⟨blk, off + t, none⟩ = false := (HW2.out.drewN nq).softs
            have HW3 : Hid (RowAt w0 blk off N dk (wr2.drewN nq)) := HW2.out.drewN nq
            clear hcw2 hfw2 HW2
            generalize wr2.drewN nq = wr3 at hcw3 hfw3 HW3 ⊢
            go_region
            go_wp2
            go_roundg (hi - (2 * root + 1))
            case measure => omega
            case rel =>
              refine ⟨2 * root + 1, swp dk (first + root) (first + (2 * root + 1)), by simp <;> omega, by omega, Nat.le_refl _, ?_, ?_⟩
              · exact (HW3.out.swp (i := first + root) (j := first + (2 * root + 1)) (by omega) (by omega)).drewN 1
              · rw [← HI.out, sd_step (root := root) (c := 2 * root + 1) (by omega) (by simp [kid, ← Nat.add_assoc, hL]), if_pos (by simp [← Nat.add_assoc, hG])]
      · have h1z : decide (2 * (root : Int) + 1 + 1 < (hi : Int)) = false := decide_eq_false (by omega)
        go_wp2_with fail
        go_big_quiet (first | (go_at_call 83; refine Calls.quiet_of_same (less_any _ _ _)))
        go_wp2_with fail
        have hcw2 : ∀ t, t < N → (wr.drewN nq).cell? ⟨blk, off + t, none⟩ = some (.int .i32 (gt dk t)) := (HW.out.drewN nq).cells
        have hfw2 : ∀ t, t < N → (wr.drewN nq).frozen? ⟨blk, off + t, none⟩ = false := (HW.out.drewN nq).softs
        have HW2 : Hid (RowAt w0 blk off N dk (wr.drewN nq)) := HW.out.drewN nq
        clear hcw hfw HW
        generalize wr.drewN nq = wr2 at hcw2 hfw2 HW2 ⊢
        clear nq
        go_big_quiet (first | (go_at_call 83; refine Calls.quiet_of_same (less_any _ _ _)))
        go_wp2_with fail
        · have hS : less (gt dk (first + root)) (gt dk (first + 2 * root + 1)) = false := by
            have h : (!less (gt dk (first + root)) (gt dk (first + 2 * root + 1))) = true := by assumption
            simpa using h
          (try simp only [Exit.inBlock, Exit.then]); refine bodyPost_ret (results_none rfl _ _ _) rfl ?_
          refine ⟨rfl, ?_⟩
          rw [← HI.out, sd_step (c := 2 * root + 1) (by omega) (by simp [kid, h1]), if_neg (by simp [← Nat.add_assoc, hS])]
          exact HW2.out.drewN nq
        · have hG : less (gt dk (first + root)) (gt dk (first + 2 * root + 1)) = true := by
            have h : (!less (gt dk (first + root)) (gt dk (first + 2 * root + 1))) = false := by assumption
            simpa using h
          have hcw3 : ∀ t, t < N → (wr2.drewN nq).cell? ⟨blk, off + t, none⟩ = some (.int .i32 (gt dk t)) := (HW2.out.drewN nq).cells
          have hfw3 : ∀ t, t < N → (wr2.drewN nq).frozen? ⟨blk, off + t, none⟩ = false := (HW2.out.drewN nq).softs
          have HW3 : Hid (RowAt w0 blk off N dk (wr2.drewN nq)) := HW2.out.drewN nq
          clear hcw2 hfw2 HW2
          generalize wr2.drewN nq = wr3 at hcw3 hfw3 HW3 ⊢
          go_region
          go_wp2
          go_roundg (hi - (2 * root + 1))
          case measure => omega
          case rel =>
            refine ⟨2 * root + 1, swp dk (first + root) (first + (2 * root + 1)), by simp <;> omega, by omega, Nat.le_refl _, ?_, ?_⟩
            · exact (HW3.out.swp (i := first + root) (j := first + (2 * root + 1)) (by omega) (by omega)).drewN 1
            · rw [← HI.out, sd_step (root := root) (c := 2 * root + 1) (by omega) (by simp [kid, h1]), if_pos (by simp [← Nat.add_assoc, hG])]
end Go.Proofs.Ytlnplompnabmlaa
