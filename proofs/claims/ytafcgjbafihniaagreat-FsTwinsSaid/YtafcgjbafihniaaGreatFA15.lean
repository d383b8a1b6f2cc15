/-
  LAYER 1 (fs): the reference's Die.
-/
import Derived.Test.YtafcgjbafihniaaGreatFA14
import Derived.Deep.Cut
import Derived.Deep.CutBlock
import Derived.Deep.RegionHeld
namespace Go.Proofs.YtafcgjbafihniaaGreat
set_option maxRecDepth 100000
variable {DX : Nat → Prop}
open Go.RowKit Go.Lib
open Go.Proofs (encStr)
attribute [local go_sem] Oper.semAt_some

theorem GP.set {P : Nat → Prop} {a b : World} {q : Nat} (h : GP P a b) (hq : P q ∨ a.heap.size ≤ q) (i : Nat) (x : Value) : GP P a (b.setCell ⟨q, i, none⟩ x) := h.step (gset (World.grownBy.refl b (some q)) i x) (fun k e => by cases e; exact hq)
theorem GP.more {P : Nat → Prop} {a b c : World} (h : GP P a b) (g : b.grownBy c none) : GP P a c := h.step g (fun k e => by cases e)
theorem NextAt.kept {w w' : World} {nb i : Nat} {r : Option Nat} (h : NextAt w nb i) (g : w.grownBy w' r) (hr : r ≠ some nb) : NextAt w' nb i := (g.block nb (lt_of_block h) (fun e => hr e.symm)).trans h
theorem NextAt.neq {w : World} {nb i q : Nat} {r : RefV} (h : NextAt w nb i) (hq : RefAt w q r) : nb ≠ q := by
  intro e
  subst e
  have := apart_obj (show w.heap[nb]? = _ from h) (show _ = _ from hq)
  simp at this

/-- Where a death stands: the reference's file system, what was turned, the next number's place. -/
structure DieS (DX Q R : Nat → Prop) (w : World) (q nb : Nat) (a : RefP) (r : RefV) (vs : List (Value × Value)) (i : Nat) (W : World) : Prop where
  ok : RefOk DX Q W q a r vs
  gp : GP R w W
  nx : NextAt W nb (if a.pl.keep.length = 0 then 0 else i)
  pn : r.k.ownBlock ≠ some nb ∧ r.f.ownBlock ≠ some nb ∧ r.u.ownBlock ≠ some nb
  xl : ∀ k, DX k → k < w.heap.size
section
variable {Q R P : Nat → Prop} {w W W' : World} {q nb i : Nat} {a : RefP} {r : RefV} {vs : List (Value × Value)}
theorem DieS.more (h : DieS DX Q R w q nb a r vs i W) (g : W.grownBy W' none) : DieS DX Q R w q nb a r vs i W' := ⟨h.ok.new g, h.gp.more g, h.nx.kept g (by simp), h.pn, h.xl⟩
theorem DieS.bound (h : DieS DX Q R w q nb a r vs i W) : DieS DX (fun k => Q k ∧ k < W.heap.size) R w q nb a r vs i W := ⟨h.ok.bound, h.gp, h.nx, h.pn, h.xl⟩
theorem DieS.weak {Q' : Nat → Prop} (h : DieS DX Q R w q nb a r vs i W) (hQ : ∀ k, Q k → Q' k) : DieS DX Q' R w q nb a r vs i W := ⟨h.ok.weak hQ, h.gp, h.nx, h.pn, h.xl⟩
theorem DieS.kept {B : Nat} (h : DieS DX (fun k => Q k ∧ k < B) R w q nb a r vs i W) (g : GP (fun k => B ≤ k) W W') (hB : w.heap.size ≤ B) (hnb : nb < B) : DieS DX (fun k => Q k ∧ k < B) R w q nb a r vs i W' :=
  ⟨h.ok.kept g (fun k hk hp => by have := hk.2; omega) (fun k hk hp => by have := h.xl k hk; omega), h.gp.trans g (fun k hk => .inr (by omega)), (g.block nb (lt_of_block h.nx) (by omega)).trans h.nx, h.pn, h.xl⟩
theorem nextKinds (h : NextAt W nb i) : Kinds W (fun k => k = nb) [3] := fun k cs e z hk hb => by
  subst hk
  have := apart_obj hb (show _ = _ from h)
  simp at this
  simp [this.2.1]
theorem DieS.keep (h : DieS DX Q R w q nb a r vs i W) (hnb : w.heap.size ≤ nb) (hi : i < 4611686018427387904) (hl : a.pl.keep.length < 4611686018427387904) :
    Calls Tryz.prog 98 #[.pointer (some ⟨q, 0, none⟩), .pointer (some ⟨nb, 0, none⟩)] W fun e w' => e = .returned (.int .i64 (keepAt a.pl.keep i)) ∧ DieS DX Q R w q nb a r vs (i + 1) w' ∧ W.grownBy w' (some nb) := by
  have hk := keep_any h.ok nb _ h.nx (by split <;> omega) hl
  refine hk.mono ?_
  rintro e w' ⟨he, hn, g⟩
  have hq := h.nx.neq h.ok.at_
  refine ⟨?_, ⟨?_, h.gp.step g (fun k e => by cases e; exact .inr hnb), ?_, h.pn, h.xl⟩, g⟩
  · rw [he]
    by_cases hz : a.pl.keep.length = 0
    · rw [if_pos hz, List.length_eq_zero_iff.1 hz]
      simp [keepAt]
    · rw [if_neg hz]
  · -- only the next number's place was turned: a cell of kind int that no row owns
    have gp : GP (fun k => k = nb) W w' := GP.of g (fun k e => by cases e; rfl)
    have hP : Kinds W (fun k => k = nb) [3] := nextKinds h.nx
    have row : ∀ {R' : Nat → Prop} {n : Nat} {v : Value} {xs : List Value}, OwnR R' W 3 1 v n xs → v.ownBlock ≠ some nb → OwnR R' w' 3 1 v n xs := fun {R' n v xs} o hne => ⟨own_gp o.1 gp (fun b hb hp => hne (by rw [← hp]; exact hb)), o.2⟩
    have k := h.ok.rows
    exact ⟨(g.block q (lt_of_block h.ok.at_) (fun e => hq (by cases e; rfl))).trans h.ok.at_, h.ok.rq, h.ok.crash, h.ok.room, h.ok.count, h.ok.died,
      ⟨row k.rk h.pn.1, row k.rf h.pn.2.1, row k.ru h.pn.2.2, k.vl, k.rn.gp gp hP (by decide), fun i v n e1 e2 => (k.node i v n e1 e2).gp gp hP (by decide) (by decide), k.rd.gp gp hP (by decide), k.rs.gp gp hP (by decide), k.rm.gp gp hP (by decide)⟩⟩
  · by_cases hz : a.pl.keep.length = 0
    · rw [if_pos hz] at hn ⊢
      rw [if_pos hz] at hn
      exact hn
    · rw [if_neg hz] at hn ⊢
      rw [if_neg hz] at hn
      exact hn
end

/-- How many changes there are. -/
def chgSum (ns : List NodeP) : Nat := (ns.map fun n => n.chg.length).sum
theorem chgSum_set (s : List UInt8) : ∀ (ns : List NodeP) (j : Nat) (n : NodeP), ns[j]? = some n → chgSum (ns.set j ⟨s, []⟩) + n.chg.length = chgSum ns
  | [], _, _, h => by simp at h
  | x :: ns, 0, n, h => by
    simp at h
    subst h
    simp [chgSum, Nat.add_comm]
  | x :: ns, j + 1, n, h => by
    have ih := chgSum_set s ns j n (by simpa using h)
    simp only [chgSum, List.set_cons_succ, List.map_cons, List.sum_cons] at ih ⊢
    omega
/-- A file whose changes may be behind what is safe. -/
def NodeP.good (n : NodeP) : Prop := n.safe.length ≤ 140737488355328 ∧ okL n.safe n.chg

theorem rmv_form (m : RMv) : ∃ kd sa sb ix, m.cells = [.int .i64 kd, .string sa, .string sb, .int .i64 ix] ∧ m.agg = .agg #[.int .i64 kd, .string sa, .string sb, .int .i64 ix] := by
  cases m <;> exact ⟨_, _, _, _, rfl, rfl⟩
theorem done_take (M : List RMv) (S : DirL) (i : Nat) (m : RMv) (h : M[i]? = some m) : (M.take (i + 1)).foldl RMv.done S = RMv.done ((M.take i).foldl RMv.done S) m := by
  obtain ⟨h1, h2⟩ := List.getElem?_eq_some_iff.1 h
  rw [List.take_succ_eq_append_getElem h1, h2, List.foldl_append]
  rfl
theorem done_take_len (M : List RMv) (S : DirL) : ∀ i, i ≤ M.length → ((M.take i).foldl RMv.done S).length ≤ S.length + i
  | 0, _ => by simp
  | i + 1, h => by
    have ih := done_take_len M S i (by omega)
    obtain ⟨m, hm⟩ : ∃ m, M[i]? = some m := ⟨_, List.getElem?_eq_getElem (by omega)⟩
    rw [done_take M S i m hm]
    have := done_len m ((M.take i).foldl RMv.done S)
    omega

/-- The next change behind a change. -/
theorem kept_next {ks : Nat → Int} {i : Nat} {bs fin b' : List UInt8} {ch : Chg} {rest : List Chg} {w' : Bool} (h : settleP ks i true bs (ch :: rest) = fin) (ho : okL bs (ch :: rest)) (hl : bs.length ≤ 140737488355328) (e : ch.kept (ks i) bs = (b', w')) :
    settleP ks (i + 1) w' b' rest = fin ∧ (w' = true → okL b' rest) ∧ b'.length ≤ 140737488355328 := by
  have h' : settleP ks (i + 1) (ch.kept (ks i) bs).2 (ch.kept (ks i) bs).1 rest = fin := h
  rw [e] at h'
  refine ⟨h', fun hw => ?_, ?_⟩
  · have := kept_whole (ks i) bs ch (by rw [e]; exact hw)
    rw [e] at this
    have h2 : b' = ch.done bs := this
    rw [h2]
    exact ho.2
  · have h1 := ho.1
    cases ch with
    | add ad =>
      have e1 : bs ++ ad.data.toList.take (surv (ks i) ad.size) = b' := (Prod.mk.inj e).1
      have h3 : bs.length + ad.size ≤ 140737488355328 := h1
      rw [← e1, List.length_append, List.length_take]
      have := surv_le (ks i) ad.size
      omega
    | cut m =>
      have e1 : (bif cutLives (ks i) then bs.take m else bs) = b' := (Prod.mk.inj e).1
      rw [← e1]
      cases cutLives (ks i)
      · exact hl
      · show (bs.take m).length ≤ _
        rw [List.length_take]
        omega
theorem OwnR.keptB {Q : Nat → Prop} {B k n : Nat} {w w' : World} {e : TypeId} {v : Value} {xs : List Value} (h : OwnR (fun k => Q k ∧ k < B) w e k v n xs) (g : GP (fun k => B ≤ k) w w') : OwnR (fun k => Q k ∧ k < B) w' e k v n xs := ⟨own_gp h.1 g (fun b hb hp => by have := (h.2 b hb).2; omega), h.2⟩
theorem OwnR.keptD {Q DX : Nat → Prop} {B k n : Nat} {w w' : World} {e : TypeId} {v : Value} {xs : List Value} (h : OwnR (RD (fun k => Q k ∧ k < B) DX) w e k v n xs) (g : GP (fun k => B ≤ k) w w') (hX : ∀ k, DX k → k < B) : OwnR (RD (fun k => Q k ∧ k < B) DX) w' e k v n xs :=
  ⟨own_gp h.1 g (fun b hb hp => (h.2 b hb).elim (fun h1 => by have := h1.2; omega) (fun h1 => by have := hX b h1; omega)), h.2⟩
def chB : Chg → Bool
  | .add _ => false
  | .cut _ => true
def chM : Chg → Int
  | .add _ => 0
  | .cut m => (m : Int)
theorem chg_form (c : Chg) (dv : Value) : chgCells1 c dv = [.bool (chB c), .int .i64 (chM c), dv] := by cases c <;> rfl

set_option maxHeartbeats 16000000 in
theorem rdie_any {R : Nat → Prop} {w : World} {q : Nat} {a : RefP} {r : RefV} {vs : List (Value × Value)} (h : RefOk DX R w q a r vs) (hR : ∀ k, RD R DX k → k < w.heap.size) (hl : a.pl.keep.length < 4611686018427387904) (hm : a.moves.length ≤ 2199023255552) (hs : a.safe.length ≤ 65536)
    (hdn : ∀ x j, a.dieDir.look x = some j → j < a.nodes.length) (hdd9 : a.dieDir.length ≤ 131072) (hgd : ∀ n ∈ a.nodes, n.good) (hcs : chgSum a.nodes < 2305843009213693952) :
    Calls Tryz.prog 79 #[.pointer (some ⟨q, 0, none⟩)] w fun e w' => e = .returned (.tuple #[]) ∧ (∃ r' vs', RefOk DX (RU R w w') w' q a.die r' vs') ∧ GP R w w' := by
  have gB := World.grownBy_alloc w (.cells #[.int .i64 0] 3) none
  have eB : NextAt (w.alloc (.cells #[.int .i64 0] 3)) w.heap.size 0 := World.alloc_heap_new w _
  have hD0 : DieS DX (fun k => R k ∨ w.heap.size ≤ k) R w q w.heap.size a r vs 0 (w.alloc (.cells #[.int .i64 0] 3)) :=
    ⟨(h.weak (fun b hb => .inl hb)).new gB, GP.of gB (by simp), by simpa using eB,
      ⟨fun e => by have := hR _ (.inl (h.rows.rk.2 _ e)); omega, fun e => by have := hR _ (.inl (h.rows.rf.2 _ e)); omega, fun e => by have := hR _ (.inl (h.rows.ru.2 _ e)); omega⟩, fun k hk => hR k (.inr hk)⟩
  have hk0 := hD0.keep (Nat.le_refl _) (by decide) hl
  obtain ⟨kp, hkp⟩ : ∃ kp, kp = keepAt a.pl.keep 0 := ⟨_, rfl⟩
  rw [← hkp] at hk0
  obtain ⟨ml, hml⟩ : ∃ ml, ml = a.moves.length := ⟨_, rfl⟩
  obtain ⟨nm, hnm⟩ : ∃ nm, nm = dieL a.pl.keep a.moves.length := ⟨_, rfl⟩
  have hnm1 : nm ≤ ml := by rw [hnm, hml]; exact dieL_le _ _
  have hnm2 : nm = surv kp ml := by rw [hnm, hkp, hml]; rfl
  replace hkp := Lib.hid hkp
  replace hml := Lib.hid hml
  replace hnm := Lib.hid hnm
  replace hnm2 := Lib.hid hnm2
  have hml9 : ml ≤ 2199023255552 := by rw [hml.out]; exact hm
  have hRq := h.rq
  have hqw := hR q (.inl hRq)
  replace hdn := Lib.hid hdn
  replace hgd := Lib.hid hgd
  clear h hD0 eB gB hm
  go_enter Tryz.func79, Tryz.ntmps79
  go_wp2_with fail
  refine hk0.mono ?_
  clear hk0
  rintro e W1 ⟨rfl, hD1, -⟩
  obtain ⟨mva, mvc, hmv⟩ := hD1.ok.rows.rm.form
  have x10 := hD1.ok.at_.c10
  rw [hmv, ← hml.out] at x10
  have hmc : ml ≤ mvc := by
    have := hD1.ok.rows.rm.1
    rw [hmv, ← hml.out] at this
    obtain ⟨h0, ⟨e2, hz⟩ | ⟨g, cap, cur, e2, _, _, hnc, _⟩⟩ := this
    · omega
    · simp at e2
      omega
  have HD := Lib.hid hD1
  clear hD1
  go_upto_if 25 with fail
  go_cut [4] (fun v4 wx => v4 = .int .i64 (nm : Int) ∧ wx = W1)
  case first =>
    by_cases h0 : 0 ≤ kp
    · have hd : decide (0 ≤ kp) = true := by simpa using h0
      have hml8 : IntKind.i64.wrap ((ml : Int) + 1) = (ml : Int) + 1 := IntWalk.i64_in _ (by omega)
      have hz9 : (((ml : Int) + 1) == 0) = false := by simp; omega
      have ht : Int.tmod kp ((ml : Int) + 1) = (nm : Int) := by
        rw [hnm2.out]
        unfold surv
        rw [if_neg (by omega), Int.tmod_eq_emod_of_nonneg h0]
        have := Int.emod_nonneg kp (show (ml : Int) + 1 ≠ 0 by omega)
        omega
      have ht2 : kp % ((ml : Int) + 1) = (nm : Int) := by rw [← Int.tmod_eq_emod_of_nonneg h0]; exact ht
      go_wp2_with fail
      go_meet
      exact ⟨rfl, rfl⟩
    · have hd : decide (0 ≤ kp) = false := by simpa using h0
      have hnl : nm = ml := by rw [hnm2.out]; unfold surv; rw [if_pos (by omega)]
      go_wp2_with fail
      go_meet
      exact ⟨by first | rfl | rw [hnl], rfl⟩
  case rest =>
  obtain ⟨rfl, rfl⟩ := hcut
  go_wp2_with fail
  have hnb : nm ≤ a.moves.length := by rw [← hml.out]; exact hnm1
  go_loopw [37] (fun v37 wr => ∃ (i : Nat) (v : Value), v37 = .int .i64 (i : Int) ∧ i ≤ nm ∧ Hid (DieS DX (fun k => R k ∨ w.heap.size ≤ k) R w q w.heap.size { a with safe := (a.moves.take i).foldl RMv.done a.safe } { r with safe := v } vs 1 wr)) (fun v37 _ => nm - (RowKit.intOf v37).toNat)
  case atStart => exact ⟨0, r.safe, rfl, Nat.zero_le _, HD⟩
  case round =>
    obtain ⟨i, v, rfl, hi, hDS⟩ := hrel
    clear HD x10
    by_cases hlt : i < nm
    · have hltz : (i : Int) < (nm : Int) := by omega
      obtain ⟨m, hm'⟩ : ∃ m, a.moves[i]? = some m := ⟨_, List.getElem?_eq_getElem (by omega)⟩
      obtain ⟨kd, sa, sb, ix, hcs, hag⟩ := rmv_form m
      have hrm : OwnR (fun k => R k ∨ w.heap.size ≤ k) wr 123 4 (.slice mva ml mvc) ml (rmvCells a.moves) := by
        have := hDS.out.ok.rows.rm
        dsimp only at this
        rw [hmv, ← hml.out] at this
        exact this
      obtain ⟨gm, rfl, _, _, rc, _⟩ := hrm.cell (by omega)
      have hat := flat_at RMv.cells 4 rmv_len a.moves i m hm'
      have q0 := (rc (i * 4 + 0) (by omega)).trans (hat 0 (by omega))
      have q1 := (rc (i * 4 + 1) (by omega)).trans (hat 1 (by omega))
      have q2 := (rc (i * 4 + 2) (by omega)).trans (hat 2 (by omega))
      have q3 := (rc (i * 4 + 3) (by omega)).trans (hat 3 (by omega))
      rw [hcs] at q0 q1 q2 q3
      simp at q0 q1 q2 q3
      have gY := World.grownBy_alloc wr (.cells #[.int .i64 kd, .string sa, .string sb, .int .i64 ix] 123) none
      have eY := World.alloc_heap_new wr (.cells #[.int .i64 kd, .string sa, .string sb, .int .i64 ix] 123)
      obtain ⟨Y, hY⟩ : ∃ Y, Y = wr.alloc (.cells #[.int .i64 kd, .string sa, .string sb, .int .i64 ix] 123) := ⟨_, rfl⟩
      rw [← hY] at gY eY
      have gd := gY.trans (gdrew (World.grownBy.refl Y none))
      have hSl := done_take_len a.moves a.safe i (by omega)
      have hst := done_take a.moves a.safe i m hm'
      generalize hS : (a.moves.take i).foldl RMv.done a.safe = S at *
      have hDY := hDS.out.more gd
      obtain ⟨va, vc, hv⟩ := hDY.ok.rows.rs.form
      dsimp only at hv
      subst hv
      have x9 := hDY.ok.at_.c9
      dsimp only at x9
      have hmo := moved_any m (.slice va S.length vc) S Y.drew hDY.ok.rows.rs.1 (by omega)
      rw [hag] at hmo
      have b0 : Y.drew.cell? ⟨wr.heap.size, 0, none⟩ = some (.int .i64 kd) ∧ Y.drew.cell? ⟨wr.heap.size, 1, none⟩ = some (.string sa) ∧ Y.drew.cell? ⟨wr.heap.size, 2, none⟩ = some (.string sb) ∧ Y.drew.cell? ⟨wr.heap.size, 3, none⟩ = some (.int .i64 ix) := by
        refine ⟨?_, ?_, ?_, ?_⟩ <;> (show Y.cell? _ = _; simp [World.cell?, eY])
      have HY := Lib.hid hDY
      have hyq : wr.heap.size ≠ q := by have := lt_of_block hDS.out.ok.at_; omega
      replace hS := Lib.hid hS
      replace hst := Lib.hid hst
      clear hDY hDS gY eY gd hag hcs rc hat hrm
      go_wp2_with fail
      rw [← hY]
      replace hY := Lib.hid hY
      refine wp_region_held_drew (S := fun V => V.cell? ⟨wr.heap.size, 0, none⟩ = some (.int .i64 kd) ∧ V.cell? ⟨wr.heap.size, 1, none⟩ = some (.string sa) ∧ V.cell? ⟨wr.heap.size, 2, none⟩ = some (.string sb) ∧ V.cell? ⟨wr.heap.size, 3, none⟩ = some (.int .i64 ix)) (by kernel_rfl) b0 (fun hS0 => ?_)
      refine wpAnyH_take (i := 0) (oi := ⟨some 41, _, _, _, _, _⟩) (v := ?_) rfl (by kernel_rfl) (by kernel_rfl) (by kernel_rfl) (fun _ _ _ h => h) (Or.inl ⟨by rfl, ?_⟩) (by assumption) ?_
      rotate_left
      · (intro w hSw; (try dsimp only at hSw); go_simp; try with_reducible rfl)
      try simp only [Act.put, List.setIfInBounds_toArray, List.set_cons_zero, List.set_cons_succ]
      refine wpAnyH_take (i := 1) (oi := ⟨some 42, _, _, _, _, _⟩) (v := ?_) rfl (by kernel_rfl) (by kernel_rfl) (by kernel_rfl) (fun _ _ _ h => h) (Or.inl ⟨by rfl, ?_⟩) (by assumption) ?_
      rotate_left
      · (intro w hSw; (try dsimp only at hSw); go_simp; try with_reducible rfl)
      try simp only [Act.put, List.setIfInBounds_toArray, List.set_cons_zero, List.set_cons_succ]
      refine wpAnyH_take (i := 2) (oi := ⟨some 43, _, _, _, _, _⟩) (v := ?_) rfl (by kernel_rfl) (by kernel_rfl) (by kernel_rfl) (fun _ _ _ h => h) (Or.inl ⟨by rfl, ?_⟩) (by assumption) ?_
      rotate_left
      · (intro w hSw; (try dsimp only at hSw); go_simp; try with_reducible rfl)
      try simp only [Act.put, List.setIfInBounds_toArray, List.set_cons_zero, List.set_cons_succ]
      refine wpAnyH_take (i := 3) (oi := ⟨some 44, _, _, _, _, _⟩) (v := ?_) rfl (by kernel_rfl) (by kernel_rfl) (by kernel_rfl) (fun _ _ _ h => h) (Or.inl ⟨by rfl, ?_⟩) (by assumption) ?_
      rotate_left
      · (intro w hSw; (try dsimp only at hSw); go_simp; try with_reducible rfl)
      try simp only [Act.put, List.setIfInBounds_toArray, List.set_cons_zero, List.set_cons_succ]
      refine wpAnyH_take (i := 5) (oi := ⟨some 46, _, _, _, _, _⟩) (v := ?_) rfl (by kernel_rfl) (by kernel_rfl) (by kernel_rfl) (fun _ _ _ h => h) (Or.inl ⟨by rfl, ?_⟩) (by assumption) ?_
      rotate_left
      · (intro w hSw; (try dsimp only at hSw); go_simp; try with_reducible rfl)
      try simp only [Act.put, List.setIfInBounds_toArray, List.set_cons_zero, List.set_cons_succ]
      refine wpAnyH_ready (rs := [4]) (by kernel_rfl) (by simp) ?_
      refine AllReadyH.cons rfl (fun K hK => ?_) AllReadyH.nil
      go_simp
      refine hK.out _ _ hS0 (fun _ => ?_)
      clear hK
      refine wpAnyH_ready (rs := [6]) (by kernel_rfl) (by simp) ?_
      refine AllReadyH.cons rfl (fun K hK => ?_) AllReadyH.nil
      go_simp
      refine hmo.mono ?_
      clear hmo
      rintro e W5 ⟨v5, rfl, o5, g5⟩
      have hD5 := HY.out.more g5
      have hS5 : W5.cell? ⟨wr.heap.size, 0, none⟩ = some (.int .i64 kd) ∧ W5.cell? ⟨wr.heap.size, 1, none⟩ = some (.string sa) ∧ W5.cell? ⟨wr.heap.size, 2, none⟩ = some (.string sb) ∧ W5.cell? ⟨wr.heap.size, 3, none⟩ = some (.int .i64 ix) := ⟨g5.cell hS0.1 (by simp), g5.cell hS0.2.1 (by simp), g5.cell hS0.2.2.1 (by simp), g5.cell hS0.2.2.2 (by simp)⟩
      obtain ⟨a5, c5, rfl⟩ := rowFormS o5
      have y9 := hD5.ok.at_.c9
      dsimp only at y9
      have yf := hD5.ok.at_.free 9
      have hws : w.heap.size ≤ Y.drew.heap.size := HY.out.gp.size
      have hset := hD5.ok.setSafe (OwnR.of (R := fun k => R k ∨ w.heap.size ≤ k) o5 (fun b h1 _ => .inr (by omega)))
      dsimp only at hset
      have gst := gq W5 q 9 (.slice a5 (RMv.done S m).length c5)
      have hF : Hid (DieS DX (fun k => R k ∨ w.heap.size ≤ k) R w q w.heap.size { a with safe := (a.moves.take (i + 1)).foldl RMv.done a.safe } { r with safe := .slice a5 (RMv.done S m).length c5 } vs 1 (W5.setCell ⟨q, 9, none⟩ (.slice a5 (RMv.done S m).length c5))) := Lib.hid (by
        rw [hst.out]
        exact ⟨hset, hD5.gp.step gst (fun k e => by cases e; exact .inl hRq), hD5.nx.kept gst (by simp; omega), hD5.pn, hD5.xl⟩)
      have hS6 : ∀ u, (W5.setCell ⟨q, 9, none⟩ u).cell? ⟨wr.heap.size, 0, none⟩ = some (.int .i64 kd) ∧ (W5.setCell ⟨q, 9, none⟩ u).cell? ⟨wr.heap.size, 1, none⟩ = some (.string sa) ∧ (W5.setCell ⟨q, 9, none⟩ u).cell? ⟨wr.heap.size, 2, none⟩ = some (.string sb) ∧ (W5.setCell ⟨q, 9, none⟩ u).cell? ⟨wr.heap.size, 3, none⟩ = some (.int .i64 ix) := fun u =>
        ⟨(gq W5 q 9 u).cell hS5.1 (by simp; omega), (gq W5 q 9 u).cell hS5.2.1 (by simp; omega), (gq W5 q 9 u).cell hS5.2.2.1 (by simp; omega), (gq W5 q 9 u).cell hS5.2.2.2 (by simp; omega)⟩
      clear HY hD5 hset gst g5 o5
      go_wp2_with fail
      refine hK.out _ _ hS5 (fun hS7 => ?_)
      clear hK
      refine wpAnyH_take (i := 7) (oi := ⟨some 48, _, _, _, _, _⟩) (v := ?_) rfl (by kernel_rfl) (by kernel_rfl) (by kernel_rfl) (fun _ _ _ h => h) (Or.inl ⟨by rfl, ?_⟩) (by assumption) ?_
      rotate_left
      · (intro w hSw; (try dsimp only at hSw); go_simp; try with_reducible rfl)
      try simp only [Act.put, List.setIfInBounds_toArray, List.set_cons_zero, List.set_cons_succ]
      refine wpAnyH_take (i := 8) (oi := ⟨some 49, _, _, _, _, _⟩) (v := ?_) rfl (by kernel_rfl) (by kernel_rfl) (by kernel_rfl) (fun _ _ _ h => h) (Or.inl ⟨by rfl, ?_⟩) (by assumption) ?_
      rotate_left
      · (intro w hSw; (try dsimp only at hSw); go_simp; try with_reducible rfl)
      try simp only [Act.put, List.setIfInBounds_toArray, List.set_cons_zero, List.set_cons_succ]
      refine wpAnyH_ready (rs := [9]) (by kernel_rfl) (by simp) ?_
      refine AllReadyH.cons rfl (fun K hK => ?_) AllReadyH.nil
      go_simp
      refine hK.out _ _ (hS6 _) (fun _ => ?_)
      clear hK
      refine wpAnyH_done (by kernel_rfl) ?_ _
      clear hS0 hS5 hS6 b0 x9 y9 yf q0 q1 q2 q3
      go_wp2_with fail
      go_roundw
      case rel => exact ⟨i + 1, _, by go_num, by omega, hF⟩
      case measure => simp [RowKit.intOf]; omega
    · obtain rfl : nm = i := by omega
      have hDd : (a.moves.take nm).foldl RMv.done a.safe = a.dieDir := by unfold RefP.dieDir; rw [← hnm.out]
      rw [hDd] at hDS
      have hDl : a.dieDir.length ≤ 131072 := hdd9
      obtain ⟨D, hDD⟩ : ∃ D, D = a.dieDir := ⟨_, rfl⟩
      rw [← hDD] at hDS hDl
      have x10 := hDS.out.ok.at_.c10
      have xf10 := hDS.out.ok.at_.free 10
      dsimp only at x10
      rw [hmv, ← hml.out] at x10
      -- no moves are left
      have hA1 := hDS.out.ok.setMoves (M := []) (v := .slice none 0 0) OwnR.nil
      have gA1 := gq wr q 10 (.slice none 0 0)
      obtain ⟨A1, hA1e⟩ : ∃ A1, A1 = wr.setCell ⟨q, 10, none⟩ (.slice none 0 0) := ⟨_, rfl⟩
      rw [← hA1e] at hA1 gA1
      dsimp only at hA1
      have hS1 : DieS DX (fun k => R k ∨ w.heap.size ≤ k) R w q w.heap.size { a with safe := D, moves := [] } { r with safe := v, moves := .slice none 0 0 } vs 1 A1 := ⟨hA1, hDS.out.gp.step gA1 (fun k e => by cases e; exact .inl hRq), hDS.out.nx.kept gA1 (by simp; omega), hDS.out.pn, hDS.out.xl⟩
      -- the directory is what is safe
      obtain ⟨va, vc, hv⟩ := hA1.rows.rs.form
      dsimp only at hv
      subst hv
      have x9 := hA1.at_.c9
      have x8 := hA1.at_.c8
      dsimp only at x9 x8
      obtain ⟨v8, A2, hrun, o8, g8⟩ := copy_names (.slice va D.length vc) D A1 hA1.rows.rs.1 (by omega)
      obtain ⟨a8, c8, rfl⟩ := rowFormS o8
      have hS2 := hS1.more g8
      have y8 := hS2.ok.at_.c8
      have yf8 := hS2.ok.at_.free 8
      dsimp only at y8
      have hwA : w.heap.size ≤ A1.heap.size := hS1.gp.size
      have hA3 := hS2.ok.setDir (OwnR.of (R := fun k => R k ∨ w.heap.size ≤ k) o8 (fun b h1 _ => .inr (by omega)))
      have gA3 := gq A2 q 8 (.slice a8 D.length c8)
      obtain ⟨A3, hA3e⟩ : ∃ A3, A3 = A2.setCell ⟨q, 8, none⟩ (.slice a8 D.length c8) := ⟨_, rfl⟩
      rw [← hA3e] at hA3 gA3
      dsimp only at hA3
      have hS3 : DieS DX (fun k => R k ∨ w.heap.size ≤ k) R w q w.heap.size { a with safe := D, moves := [], dir := D } { r with safe := .slice va D.length vc, moves := .slice none 0 0, dir := .slice a8 D.length c8 } vs 1 A3 := ⟨hA3, hS2.gp.step gA3 (fun k e => by cases e; exact .inl hRq), hS2.nx.kept gA3 (by simp; omega), hS2.pn, hS2.xl⟩
      have z8 := hA3.at_.c8
      dsimp only at z8
      have hnm9 := names_any (some ⟨q, 0, none⟩) (.slice a8 D.length c8) D A3 hA3.rows.rd.1 (by omega)
      obtain ⟨O, hO⟩ : ∃ O, O = D.names.mergeSort leB := ⟨_, rfl⟩
      rw [← hO] at hnm9
      have hOm : Hid (∀ x ∈ O, x ∈ D.names) := Lib.hid (fun x hx => by rw [hO] at hx; exact (List.mergeSort_perm _ _).mem_iff.1 hx)
      obtain ⟨ol, hol⟩ : ∃ ol, ol = O.length := ⟨_, rfl⟩
      obtain ⟨N, hN⟩ : ∃ N, N = nodesDie (keepAt a.pl.keep) D O 1 a.nodes := ⟨_, rfl⟩
      have hdie : Hid (a.die = { a with died := true, moves := [], dir := D, safe := D, nodes := N }) := Lib.hid (by rw [hN, hO, hDD]; rfl)
      replace hO := Lib.hid hO
      replace hN := Lib.hid hN
      have hol9 : ol < 4611686018427387904 := by
        rw [hol, hO.out, List.length_mergeSort, DirL.names, List.length_map]
        omega
      replace hol := Lib.hid hol
      obtain ⟨r2, hr2⟩ : ∃ r2 : RefV, r2 = { r with safe := .slice va D.length vc, moves := .slice none 0 0, dir := .slice a8 D.length c8 } := ⟨_, rfl⟩
      rw [← hr2] at hS3
      have hr2d : r2.dir = .slice a8 D.length c8 := by rw [hr2]
      replace hr2 := Lib.hid hr2
      have SS := Lib.hid hS3
      rw [hA1e] at x9 hrun
      rw [hA3e] at z8 hnm9
      replace hA1e := Lib.hid hA1e
      replace hA3e := Lib.hid hA3e
      replace hDd := Lib.hid hDd
      replace hDD := Lib.hid hDD
      clear hA1 gA1 hS1 o8 g8 hS2 hA3 gA3 hS3 hDS x8 hmv
      go_wp2_with first
        | (at_builtin; refine wpList_app_run rfl _ _ 81 rfl (.slice none 0 0) _ rfl rfl hrun ?_)
        | (go_at_call 80; go_loud (refine hnm9.mono ?_; clear hnm9; rintro e A4 ⟨vn, rfl, oN, g4⟩; obtain ⟨an, cn, rfl⟩ := oN.form; have hN4 : Hid (OwnR (fun _ => True) A4 9 1 (.slice an ol cn) ol (O.map encStr)) := Lib.hid (by rw [hol.out]; exact ⟨World.ownsRow.mono oN (Nat.zero_le _), fun _ _ => trivial⟩); rw [← hol.out]; have S4 := Lib.hid (SS.out.more (by rw [hA3e.out]; exact g4)); clear oN g4 SS))
      clear x9 z8 xf10 x10 y8 yf8 hwA
      go_loopw [70] (fun v70 wr => ∃ (k j : Nat) (ns : List NodeP) (vs' : List (Value × Value)), v70 = .int .i64 (k : Int) ∧ k ≤ ol ∧ Hid (DieS DX (fun k => R k ∨ w.heap.size ≤ k) R w q w.heap.size { a with safe := D, moves := [], dir := D, nodes := ns } r2 vs' j wr) ∧ Hid (OwnR (fun _ => True) wr 9 1 (.slice an ol cn) ol (O.map encStr)) ∧ Hid (nodesDie (keepAt a.pl.keep) D (O.drop k) j ns = N) ∧ Hid (ns.length = a.nodes.length) ∧ Hid (j + chgSum ns = 1 + chgSum a.nodes) ∧ Hid (∀ n ∈ ns, n.good)) (fun v70 _ => ol - (RowKit.intOf v70).toNat)
      case atStart => exact ⟨0, 1, a.nodes, vs, rfl, Nat.zero_le _, S4, hN4, Lib.hid hN.out.symm, Lib.hid rfl, Lib.hid rfl, hgd⟩
      case round =>
        obtain ⟨k, j, ns, vs', rfl, hk, hDS, hNm, hE, hnl, hsm, hgn⟩ := hrel
        clear S4 hN4
        by_cases hlt2 : k < ol
        · have hltz : (k : Int) < (ol : Int) := by omega
          obtain ⟨x, hx⟩ : ∃ x, O[k]? = some x := ⟨_, List.getElem?_eq_getElem (by have := hol.out; omega)⟩
          obtain ⟨jn, hjn⟩ : ∃ jn, D.look x = some jn := Option.isSome_iff_exists.1 (DirL.look_names.2 (hOm.out x (List.mem_of_getElem? hx)))
          have hjl : jn < ns.length := by rw [hnl.out]; exact hdn.out x jn (by rw [← hDD.out]; exact hjn)
          obtain ⟨n, hn⟩ : ∃ n, ns[jn]? = some n := ⟨_, List.getElem?_eq_getElem hjl⟩
          have hgood := hgn.out n (List.mem_of_getElem? hn)
          have hrows := hDS.out.ok.rows
          have hvl := hrows.vl
          dsimp only at hvl
          obtain ⟨⟨sv, cv⟩, hv⟩ : ∃ v, vs'[jn]? = some v := ⟨_, List.getElem?_eq_getElem (by omega)⟩
          have hND := hrows.node jn (sv, cv) n hv hn
          dsimp only at hND
          have hdr : O.drop k = x :: O.drop (k + 1) := by
            obtain ⟨h1, h2⟩ := List.getElem?_eq_some_iff.1 hx
            rw [List.drop_eq_getElem_cons h1, h2]
          obtain ⟨fin, hfin⟩ : ∃ fin, fin = settleP (keepAt a.pl.keep) j true n.safe n.chg := ⟨_, rfl⟩
          have hE2 : Hid (nodesDie (keepAt a.pl.keep) D (O.drop (k + 1)) (j + n.chg.length) (ns.set jn ⟨fin, []⟩) = N) := Lib.hid (by
            have := hE.out
            rw [hdr] at this
            simp only [nodesDie, hjn, hn] at this
            rw [hfin]
            exact this)
          have hsm2 : Hid (j + n.chg.length + chgSum (ns.set jn ⟨fin, []⟩) = 1 + chgSum a.nodes) := Lib.hid (by have := hsm.out; have := chgSum_set fin ns jn n hn; omega)
          have hcl9 : j + n.chg.length < 4611686018427387904 := by have := hsm.out; have := chgSum_set fin ns jn n hn; omega
          obtain ⟨gN, rfl, -, -, -, qn, -⟩ := StrO.at (show StrO wr 0 (.slice an ol cn) O from by unfold StrO; rw [← hol.out]; exact hNm.out.1) hx
          obtain ⟨nva, nvc, hnv⟩ := hrows.rn.form
          have hrn := hrows.rn
          rw [hnv] at hrn
          dsimp only at hrn
          obtain ⟨gn, rfl, -, hgl, rc, -⟩ := hrn.cell (by omega)
          have hat := flat_at (fun x : Value × Value => [x.1, x.2]) 2 (fun _ => rfl) vs' jn (sv, cv) hv
          have q0 := (rc (jn * 2 + 0) (by omega)).trans (hat 0 (by omega))
          have q1 := (rc (jn * 2 + 1) (by omega)).trans (hat 1 (by omega))
          simp at q0 q1
          have x7 := hDS.out.ok.at_.c7
          rw [hnv] at x7
          have gd := gdrew (World.grownBy.refl wr none)
          have hno := node_any q r2 D ⟨x.toArray⟩ wr.drew (hDS.out.ok.at_.kept gd (by simp)) (by have := (hrows.rd.new gd).1; exact this) (by omega)
          rw [show (⟨x.toArray⟩ : ByteArray).data.toList = x by simp, hjn, show ptrN (some jn) = (jn : Int) from rfl] at hno
          have hDd2 := Lib.hid (hDS.out.more gd)
          have hNd := Lib.hid (hNm.out.new gd)
          have e0 : wr.drew.cell? ⟨gn, jn * 2, none⟩ = some sv := q0
          have e1 : wr.drew.cell? ⟨gn, jn * 2 + 1, none⟩ = some cv := q1
          have e7 : wr.drew.cell? ⟨q, 7, none⟩ = some (.slice (some ⟨gn, 0, none⟩) ns.length nvc) := x7
          obtain ⟨nl, hnl2⟩ : ∃ nl, nl = ns.length := ⟨_, rfl⟩
          rw [← hnl2] at e7 x7 hjl
          have hjz : (jn : Int) < (nl : Int) := by omega
          have hNH := Lib.hid hND
          replace hfin := Lib.hid hfin
          replace hv := Lib.hid hv
          replace hn := Lib.hid hn
          replace hnv := Lib.hid hnv
          replace hnl2 := Lib.hid hnl2
          obtain ⟨sa, sc, rfl⟩ := hND.1.form
          obtain ⟨ca, cc, rfl⟩ : ∃ ca cc, cv = .slice ca n.chg.length cc := by obtain ⟨dvs, _, h2, _⟩ := hND.2; exact h2.form
          clear hE hsm hND hrows hdr hDS hNm hrn rc hat q0 q1 x7 gd hjn hx
          go_wp2_with fail
          refine wp_region_held_drew (S := fun V => V.cell? ⟨q, 7, none⟩ = some (.slice (some ⟨gn, 0, none⟩) nl nvc)) (by kernel_rfl) e7 (fun hS0 => ?_)
          refine wpAnyH_take (i := 0) (oi := ⟨some 74, _, _, _, _, _⟩) (v := ?_) rfl (by kernel_rfl) (by kernel_rfl) (by kernel_rfl) (fun _ _ _ h => h) (Or.inl ⟨by rfl, ?_⟩) (by assumption) ?_
          rotate_left
          · (intro w hSw; (try dsimp only at hSw); go_simp; try with_reducible rfl)
          try simp only [Act.put, List.setIfInBounds_toArray, List.set_cons_zero, List.set_cons_succ]
          refine wpAnyH_take (i := 1) (oi := ⟨some 75, _, _, _, _, _⟩) (v := ?_) rfl (by kernel_rfl) (by kernel_rfl) (by kernel_rfl) (fun _ _ _ h => h) (Or.inl ⟨by rfl, ?_⟩) (by assumption) ?_
          rotate_left
          · (intro w hSw; (try dsimp only at hSw); go_simp; try with_reducible rfl)
          try simp only [Act.put, List.setIfInBounds_toArray, List.set_cons_zero, List.set_cons_succ]
          refine wpAnyH_take (i := 2) (oi := ⟨some 76, _, _, _, _, _⟩) (v := ?_) rfl (by kernel_rfl) (by kernel_rfl) (by kernel_rfl) (fun _ _ _ h => h) (Or.inl ⟨by rfl, ?_⟩) (by assumption) ?_
          rotate_left
          · (intro w hSw; (try dsimp only at hSw); go_simp; try with_reducible rfl)
          try simp only [Act.put, List.setIfInBounds_toArray, List.set_cons_zero, List.set_cons_succ]
          refine wpAnyH_take (i := 3) (oi := ⟨some 77, _, _, _, _, _⟩) (v := ?_) rfl (by kernel_rfl) (by kernel_rfl) (by kernel_rfl) (fun _ _ _ h => h) (Or.inl ⟨by rfl, ?_⟩) (by assumption) ?_
          rotate_left
          · (intro w hSw; (try dsimp only at hSw); go_simp; try with_reducible rfl)
          try simp only [Act.put, List.setIfInBounds_toArray, List.set_cons_zero, List.set_cons_succ]
          refine wpAnyH_take (i := 4) (oi := ⟨some 78, _, _, _, _, _⟩) (v := ?_) rfl (by kernel_rfl) (by kernel_rfl) (by kernel_rfl) (fun _ _ _ h => h) (Or.inl ⟨by rfl, ?_⟩) (by assumption) ?_
          rotate_left
          · (intro w hSw; (try dsimp only at hSw); go_simp; try with_reducible rfl)
          try simp only [Act.put, List.setIfInBounds_toArray, List.set_cons_zero, List.set_cons_succ]
          refine wpAnyH_take (i := 5) (oi := ⟨some 79, _, _, _, _, _⟩) (v := ?_) rfl (by kernel_rfl) (by kernel_rfl) (by kernel_rfl) (fun _ _ _ h => h) (Or.inl ⟨by rfl, ?_⟩) (by assumption) ?_
          rotate_left
          · (intro w hSw; (try dsimp only at hSw); go_simp; try with_reducible rfl)
          try simp only [Act.put, List.setIfInBounds_toArray, List.set_cons_zero, List.set_cons_succ]
          refine wpAnyH_ready (rs := [6]) (by kernel_rfl) (by simp) ?_
          refine AllReadyH.cons rfl (fun K hK => ?_) AllReadyH.nil
          go_simp
          refine hno.mono ?_
          clear hno
          rintro e W5 ⟨rfl, g5⟩
          have f0 := g5.cell e0 (by simp)
          have f1 := g5.cell e1 (by simp)
          go_wp2_with fail
          refine hK.out _ _ (g5.cell e7 (by simp)) (fun _ => ?_)
          clear hK
          refine wpAnyH_take (i := 7) (oi := ⟨some 81, _, _, _, _, _⟩) (v := ?_) rfl (by kernel_rfl) (by kernel_rfl) (by kernel_rfl) (fun _ _ _ h => h) (Or.inl ⟨by rfl, ?_⟩) (by assumption) ?_
          rotate_left
          · (intro w hSw; (try dsimp only at hSw); go_simp; try with_reducible rfl)
          try simp only [Act.put, List.setIfInBounds_toArray, List.set_cons_zero, List.set_cons_succ]
          refine wpAnyH_ready (rs := [8]) (by kernel_rfl) (by simp) ?_
          refine AllReadyH.cons rfl (fun K hK => ?_) AllReadyH.nil
          go_simp
          refine hK.out _ _ (g5.cell e7 (by simp)) (fun _ => ?_)
          clear hK hS0
          refine wpAnyH_done (by kernel_rfl) ?_ _
          have hD5 := hDd2.out.more g5
          have hB5 := hD5.bound
          have hN5 := (hNd.out.new g5).bound
          have hn5 := (hNH.out.1.new ((gdrew (World.grownBy.refl wr none)).trans g5)).1
          obtain ⟨sl, hsl⟩ : ∃ sl, sl = n.safe.length := ⟨_, rfl⟩
          obtain ⟨cl, hcl⟩ : ∃ cl, cl = n.chg.length := ⟨_, rfl⟩
          have hTw := twin_any (.slice sa n.safe.length sc) n.safe W5 (Owns.reads hn5) hgood.1
          rw [← hsl] at hTw f0
          rw [← hcl] at f1 hcl9
          obtain ⟨B, hB⟩ : ∃ B, B = W5.heap.size := ⟨_, rfl⟩
          rw [← hB] at hTw hB5 hN5
          have hBw : w.heap.size ≤ B := by have := hD5.gp.size; omega
          have hBnb : w.heap.size < B := by have := lt_of_block hD5.nx; omega
          replace hB := Lib.hid hB
          replace hsl := Lib.hid hsl
          replace hcl := Lib.hid hcl
          have hB5' := Lib.hid hB5
          have hN5' := Lib.hid hN5
          replace hgood := Lib.hid hgood
          clear hD5 hB5 hN5 hn5 e0 e1 e7 g5 hDd2 hNd
          go_wp2_with first
            | (go_at_call 78; go_loud (refine hTw.mono ?_; clear hTw; rintro e W6 ⟨v6, rfl, o6, g6⟩; have hD6 := Lib.hid (hB5'.out.more g6); have hN6 := Lib.hid (hN5'.out.new g6); have o6' := Lib.hid o6; have i1 := g6.cell f1 (by simp); have hB6 : Hid (B ≤ W6.heap.size) := Lib.hid (by rw [hB.out]; exact g6.size); clear o6 g6 hB5' hN5' f0 f1))
          obtain ⟨i0, hi0, hz0, hz1, hz2⟩ := info_parts infoU8
          replace hi0 := Lib.hid hi0
          replace hz0 := Lib.hid hz0
          replace hz1 := Lib.hid hz1
          replace hz2 := Lib.hid hz2
          go_loopw [11, 12, 92] (fun v11 v12 v92 wr => ∃ (c : Nat) (wh : Bool) (bs : List UInt8), v12 = .bool wh ∧ v92 = .int .i64 (c : Int) ∧ c ≤ cl ∧ Hid (Owns wr B 5 v11 bs) ∧ Hid (DieS DX (fun k => (R k ∨ w.heap.size ≤ k) ∧ k < B) R w q w.heap.size { a with safe := D, moves := [], dir := D, nodes := ns } r2 vs' (j + c) wr) ∧ Hid (OwnR (fun k => True ∧ k < B) wr 9 1 (.slice (some ⟨gN, 0, none⟩) ol cn) ol (O.map encStr)) ∧ Hid (settleP (keepAt a.pl.keep) (j + c) wh bs (n.chg.drop c) = fin) ∧ Hid (wh = true → okL bs (n.chg.drop c)) ∧ Hid (bs.length ≤ 140737488355328) ∧ Hid (B ≤ wr.heap.size)) (fun _ _ v92 _ => cl - (RowKit.intOf v92).toNat)
          case atStart => exact ⟨0, true, n.safe, rfl, rfl, Nat.zero_le _, o6', hD6, hN6, Lib.hid hfin.out.symm, Lib.hid (fun _ => hgood.out.2), Lib.hid hgood.out.1, hB6⟩
          case round =>
            obtain ⟨c, wh, bs, rfl, rfl, hc, hO3, hD3, hN3, hE3, hK3, hL3, hB3⟩ := hrel
            clear o6' hD6 hN6 i1 hB6
            by_cases hlt3 : c < cl
            · have hcz : (c : Int) < (cl : Int) := by omega
              obtain ⟨ch, hch⟩ : ∃ ch, n.chg[c]? = some ch := ⟨_, List.getElem?_eq_getElem (by have := hcl.out; omega)⟩
              have hnode := hD3.out.ok.rows.node jn _ n hv.out hn.out
              dsimp only at hnode
              obtain ⟨-, dvs, h2, h3, h4⟩ := hnode
              obtain ⟨dv, hdv⟩ : ∃ dv, dvs[c]? = some dv := ⟨_, List.getElem?_eq_getElem (by have := hcl.out; omega)⟩
              rw [← hcl.out] at h3
              obtain ⟨gc, rfl, -, hgcl, rc, -⟩ := h3.cell (by omega)
              have hz : (n.chg.zip dvs)[c]? = some (ch, dv) := by rw [List.getElem?_zip_eq_some]; exact ⟨hch, hdv⟩
              have hat := flat_at (fun x : Chg × Value => chgCells1 x.1 x.2) 3 chg1_len (n.chg.zip dvs) c (ch, dv) hz
              dsimp only at hat
              rw [chg_form] at hat
              have q0 := (rc (c * 3 + 0) (by omega)).trans (hat 0 (by omega))
              have q1 := (rc (c * 3 + 1) (by omega)).trans (hat 1 (by omega))
              have q2 := (rc (c * 3 + 2) (by omega)).trans (hat 2 (by omega))
              simp at q0 q1 q2
              have od := h4 c ch dv hch hdv
              have hdr : n.chg.drop c = ch :: n.chg.drop (c + 1) := by
                obtain ⟨h1, h2⟩ := List.getElem?_eq_some_iff.1 hch
                rw [List.drop_eq_getElem_cons h1, h2]
              have hE := hE3.out
              have hKo := hK3.out
              rw [hdr] at hE hKo
              obtain ⟨kk, hkk⟩ : ∃ kk, kk = keepAt a.pl.keep (j + c) := ⟨_, rfl⟩
              obtain ⟨da, dc, hdve⟩ := od.form
              obtain ⟨dd, hdd⟩ : ∃ dd, dd = chgData ch := ⟨_, rfl⟩
              obtain ⟨dl, hdl⟩ : ∃ dl, dl = dd.length := ⟨_, rfl⟩
              rw [← hdd, ← hdl] at od hdve
              subst hdve
              obtain ⟨va, vc, hva⟩ := rowForm hO3.out
              obtain ⟨bl, hbl⟩ : ∃ bl, bl = bs.length := ⟨_, rfl⟩
              rw [← hbl] at hva
              subst hva
              have gY := World.grownBy_alloc wr (.cells #[.bool (chB ch), .int .i64 (chM ch), .slice da dl dc] 126) none
              have eY := World.alloc_heap_new wr (.cells #[.bool (chB ch), .int .i64 (chM ch), .slice da dl dc] 126)
              have hnbl := lt_of_block hD3.out.nx
              have hkY : Calls Tryz.prog 98 #[.pointer (some ⟨q, 0, none⟩), .pointer (some ⟨w.heap.size, 0, none⟩)] (wr.alloc (.cells #[.bool (chB ch), .int .i64 (chM ch), .slice da dl dc] 126)) fun e w' => e = .returned (.int .i64 kk) ∧
                  Hid (DieS DX (fun k => (R k ∨ w.heap.size ≤ k) ∧ k < B) R w q w.heap.size { a with safe := D, moves := [], dir := D, nodes := ns } r2 vs' (j + (c + 1)) w') ∧ Hid (Owns w' B 5 (.slice va bl vc) bs) ∧ Hid (OwnR (RD (fun k => (R k ∨ w.heap.size ≤ k) ∧ k < B) DX) w' 5 1 (.slice da dl dc) dl (byteCells dd)) ∧
                  Hid (OwnR (fun k => True ∧ k < B) w' 9 1 (.slice (some ⟨gN, 0, none⟩) ol cn) ol (O.map encStr)) ∧ w'.heap[wr.heap.size]? = some (.cells #[.bool (chB ch), .int .i64 (chM ch), .slice da dl dc] 126 (0, 0)) ∧ Hid (B ≤ w'.heap.size) := by
                have hDY := hD3.out.more gY
                have := hDY.keep (Nat.le_refl _) (by have := hcl9; omega) hl
                dsimp only at this
                rw [← hkk] at this
                refine this.mono ?_
                rintro e w' ⟨he, hD2, g2⟩
                have gp2 : GP (fun k => k = w.heap.size) _ w' := GP.of g2 (fun k e => by cases e; rfl)
                have hP := nextKinds hDY.nx
                refine ⟨he, Lib.hid (by rw [← Nat.add_assoc]; exact hD2), Lib.hid ?_, Lib.hid ((od.new gY).gp gp2 hP (by decide)), Lib.hid ((hN3.out.new gY).gp gp2 hP (by decide)), (g2.block _ (lt_of_block eY) (by simp; omega)).trans eY, Lib.hid (Nat.le_trans hB3.out (Nat.le_trans gY.size g2.size))⟩
                exact World.ownsRow.kept (World.ownsRow.kept hO3.out gY (notOwn (fun k e => by cases e))) g2 (notOwn (fun k e e2 => by cases e; have := (Owns.lt hO3.out _ e2).1; omega))
              have hob : Hid (∀ r, (Value.slice va bl vc).ownBlock = some r → B ≤ r ∧ r < wr.heap.size) := Lib.hid (Owns.lt hO3.out)
              have hbv : bl ≤ vc := by
                obtain ⟨h0, ⟨e2, hz⟩ | ⟨g, cap, cur, e2, _, _, hnc, _⟩⟩ := hO3.out
                · have := hbl; omega
                · simp at e2; have := hbl; omega
              have hdv2 : dl ≤ dc := by
                obtain ⟨h0, ⟨e2, hz⟩ | ⟨g, cap, cur, e2, _, _, hnc, _⟩⟩ := od.1
                · omega
                · simp at e2; omega
              have hdn : da = none → dd = [] := fun e => by
                subst e
                obtain ⟨h0, ⟨_, hz⟩ | ⟨g, cap, cur, e2, _⟩⟩ := od.1
                · exact List.length_eq_zero_iff.1 (by rw [← hdl]; exact hz)
                · simp at e2
              have hvn : va = none → bs = [] := fun e => by
                subst e
                obtain ⟨h0, ⟨_, hz⟩ | ⟨g, cap, cur, e2, _⟩⟩ := hO3.out
                · exact List.length_eq_zero_iff.1 hz
                · simp at e2
              replace hdn := Lib.hid hdn
              replace hvn := Lib.hid hvn
              replace hdl := Lib.hid hdl
              replace hbl := Lib.hid hbl
              replace hkk := Lib.hid hkk
              clear h2 h3 h4 rc hz hat od hdv hch hdr hE3 hK3 hD3 hO3 hN3 gY eY hnbl
              cases wh
              · have hX := Lib.hid (show settleP (keepAt a.pl.keep) (j + c + 1) false bs (n.chg.drop (c + 1)) = fin from hE)
                clear hE hKo
                go_wp2_with first
                  | (go_at_call 98; go_loud (refine hkY.mono ?_; clear hkY; rintro e W2 ⟨rfl, hD2, hO2, hd2, hN2, eb2, hB2⟩))
                exact ⟨⟨c + 1, false, bs, rfl, by go_num, by omega, hO2, hD2, hN2, Lib.hid (by rw [← Nat.add_assoc]; exact hX.out), Lib.hid (fun e => by cases e), hL3, hB2⟩, by simp [RowKit.intOf]; omega⟩
              · have hok := hKo rfl
                have hX0 := fun {b' : List UInt8} {w' : Bool} => kept_next (b' := b') (w' := w') hE hok hL3.out
                rw [← hkk.out] at hX0
                clear hE hKo
                cases ch with
                | add ad =>
                  have hdd2 : dd = ad.data.toList := hdd
                  have hsz : ad.size = dl := by rw [hdl.out, hdd2]; simp
                  have hbb : bs.length + dl ≤ 140737488355328 := by have h1 : bs.length + ad.size ≤ 140737488355328 := hok.1; omega
                  have hb1 : bs.length + dd.length ≤ 140737488355328 := by rw [← hdl.out]; exact hbb
                  clear hdd hok
                  by_cases h0 : kk < 0
                  · have hd : decide (0 ≤ kk) = false := by simp; omega
                    have hX := Lib.hid (hX0 (b' := bs ++ dd) (w' := true) (by
                      have : surv kk ad.size = ad.size := by unfold surv; rw [if_pos h0]
                      simp only [Chg.kept, this, decide_true]
                      rw [List.take_of_length_le (by simp), hdd2]))
                    have hbd := hb1
                    clear hX0 hdd2
                    go_wp2_with first
                      | (go_at_call 98; go_loud (refine hkY.mono ?_; clear hkY; rintro e W2 ⟨rfl, hD2, hO2, hd2, hN2, eb2, hB2⟩; have b0 : W2.cell? ⟨wr.heap.size, 0, none⟩ = some (.bool false) := (by simp [World.cell?, eb2, chB]); have b2 : W2.cell? ⟨wr.heap.size, 2, none⟩ = some (.slice da dl dc) := (by simp [World.cell?, eb2]); have hr2 : Hid (Reads W2 (.slice da dl dc) dd) := Lib.hid (Owns.reads (show Owns W2 0 5 (.slice da dl dc) dd from by unfold Owns; rw [← hdl.out]; exact hd2.out.1))))
                      | (at_builtin; go_loud (refine wpList_append_bytes _ rfl _ _ 32 rfl B 5 i0 Tryz.underlying32 hi0.out hz0.out hz1.out hz2.out (.slice va bl vc) bs rfl hO2.out (.slice da dl dc) dd rfl hr2.out hbd hB2.out ?_; intro v' w' ho hg; have G : GP (fun k => B ≤ k) W2 w' := GP.of hg (fun k e => (Owns.lt hO2.out _ e).1); have hO5 := Lib.hid ho; have hD5 := Lib.hid (hD2.out.kept G hBw hBnb); have hN5 := Lib.hid (hN2.out.keptB G); have hB5 : Hid (B ≤ w'.heap.size) := Lib.hid (Nat.le_trans hB2.out hg.size); clear ho hg G))
                    exact ⟨⟨c + 1, true, bs ++ dd, by first | rfl | simp, by go_num, by omega, hO5, hD5, hN5, Lib.hid (by rw [← Nat.add_assoc]; exact hX.out.1), Lib.hid (by first | exact hX.out.2.1 | exact fun _ => hX.out.2.1 trivial | (intro e; cases e)), Lib.hid hX.out.2.2, hB5⟩, by simp [RowKit.intOf]; omega⟩
                  · have hd : decide (0 ≤ kk) = true := by simp; omega
                    obtain ⟨m, hmm⟩ : ∃ m, m = surv kk dl := ⟨_, rfl⟩
                    have hm1 : m ≤ dl := by rw [hmm]; exact surv_le _ _
                    have hm2 : kk % ((dl : Int) + 1) = (m : Int) := by
                      rw [hmm]
                      unfold surv
                      rw [if_neg h0]
                      have := Int.emod_nonneg kk (show (dl : Int) + 1 ≠ 0 by omega)
                      omega
                    have ht : Int.tmod kk ((dl : Int) + 1) = (m : Int) := by rw [Int.tmod_eq_emod_of_nonneg (by omega)]; exact hm2
                    have hw8 : IntKind.i64.wrap ((dl : Int) + 1) = (dl : Int) + 1 := IntWalk.i64_in _ (by omega)
                    have hz9 : (((dl : Int) + 1) == 0) = false := by simp; omega
                    have hme : ((m : Int) == (dl : Int)) = decide (m = dl) := by rw [Bool.eq_iff_iff]; simp; omega
                    have hX := Lib.hid (hX0 (b' := bs ++ dd.take m) (w' := decide (m = dl)) (by simp only [Chg.kept, hsz, ← hmm, hdd2]))
                    have hbd : bs.length + (dd.take m).length ≤ 140737488355328 := by rw [List.length_take]; omega
                    have hm3 : m ≤ dd.length := by rw [← hdl.out]; exact hm1
                    replace hmm := Lib.hid hmm
                    clear hX0 hdd2 hb1
                    go_wp2_with first
                      | (go_at_call 98; go_loud (refine hkY.mono ?_; clear hkY; rintro e W2 ⟨rfl, hD2, hO2, hd2, hN2, eb2, hB2⟩; have b0 : W2.cell? ⟨wr.heap.size, 0, none⟩ = some (.bool false) := (by simp [World.cell?, eb2, chB]); have b2 : W2.cell? ⟨wr.heap.size, 2, none⟩ = some (.slice da dl dc) := (by simp [World.cell?, eb2]); have bf : W2.frozen? ⟨wr.heap.size, 2, none⟩ = false := (by simp [World.frozen?, eb2]); have eb3 : (W2.setCell ⟨wr.heap.size, 2, none⟩ (.slice da m dc)).heap[wr.heap.size]? = some (.cells #[.bool false, .int .i64 0, .slice da m dc] 126 (0, 0)) := heap_setCell_same W2 wr.heap.size 2 _ _ _ eb2; have b3 : (W2.setCell ⟨wr.heap.size, 2, none⟩ (.slice da m dc)).cell? ⟨wr.heap.size, 2, none⟩ = some (.slice da m dc) := (by simp [World.cell?, eb3]); have g3 : W2.grownBy (W2.setCell ⟨wr.heap.size, 2, none⟩ (.slice da m dc)) (some wr.heap.size) := gq W2 _ 2 _; have G3 : GP (fun k => B ≤ k) W2 (W2.setCell ⟨wr.heap.size, 2, none⟩ (.slice da m dc)) := GP.of g3 (fun k e => by cases e; exact hB3.out); have hO3 : Hid (Owns (W2.setCell ⟨wr.heap.size, 2, none⟩ (.slice da m dc)) B 5 (.slice va bl vc) bs) := Lib.hid (World.ownsRow.kept hO2.out g3 (notOwn (fun k e e2 => by cases e; have := (hob.out _ e2).2; omega))); have hd3 := hd2.out.keptD G3 (fun k hk => Nat.lt_of_lt_of_le (hD2.out.xl k hk) hBw); have hr3 : Hid (Reads (W2.setCell ⟨wr.heap.size, 2, none⟩ (.slice da m dc)) (.slice da m dc) (dd.take m)) := Lib.hid (reads_take (Owns.reads (show Owns _ 0 5 (.slice da dl dc) dd from by unfold Owns; rw [← hdl.out]; exact hd3.1)) hm3 hdn.out); have hD3 := Lib.hid (hD2.out.kept G3 hBw hBnb); have hN3 := Lib.hid (hN2.out.keptB G3); have hB4 : Hid (B ≤ (W2.setCell ⟨wr.heap.size, 2, none⟩ (.slice da m dc)).heap.size) := Lib.hid (Nat.le_trans hB2.out g3.size); clear g3 G3 hd3 eb3))
                      | (at_builtin; go_loud (refine wpList_append_bytes _ rfl _ _ 32 rfl B 5 i0 Tryz.underlying32 hi0.out hz0.out hz1.out hz2.out (.slice va bl vc) bs rfl hO3.out (.slice da m dc) (dd.take m) rfl hr3.out hbd hB4.out ?_; intro v' w' ho hg; have G : GP (fun k => B ≤ k) _ w' := GP.of hg (fun k e => (Owns.lt hO3.out _ e).1); have hO5 := Lib.hid ho; have hD5 := Lib.hid (hD3.out.kept G hBw hBnb); have hN5 := Lib.hid (hN3.out.keptB G); have hB5 : Hid (B ≤ w'.heap.size) := Lib.hid (Nat.le_trans hB4.out hg.size); clear ho hg G))
                    exact ⟨⟨c + 1, decide (m = dl), bs ++ dd.take m, by first | rfl | rw [← hme] | simp, by go_num, by omega, hO5, hD5, hN5, Lib.hid (by rw [← Nat.add_assoc]; exact hX.out.1), Lib.hid (by first | exact hX.out.2.1 | exact fun _ => hX.out.2.1 trivial | (intro e; cases e)), Lib.hid hX.out.2.2, hB5⟩, by simp [RowKit.intOf]; omega⟩
                | cut mm =>
                  have hmc2 : mm ≤ bs.length := hok.1
                  have hmb : mm ≤ bl := by rw [hbl.out]; exact hmc2
                  have hTw2 : ∀ W, Owns W B 5 (.slice va bl vc) bs → Calls Tryz.prog 78 #[.slice va mm vc] W fun e w' => ∃ v', e = .returned v' ∧ Owns w' W.heap.size 5 v' (bs.take mm) ∧ w'.grownBy w' none ∧ W.grownBy w' none := fun W o =>
                    (twin_any (.slice va mm vc) (bs.take mm) W (reads_take (Owns.reads o) hmc2 hvn.out) (by rw [List.length_take]; have := hL3.out; omega)).mono (fun e w' ⟨v', h1, h2, h3⟩ => ⟨v', h1, h2, World.grownBy.refl _ _, h3⟩)
                  clear hdd hok
                  rcases (show kk < 0 ∨ (¬ kk < 0 ∧ kk % 2 = 1) ∨ (¬ kk < 0 ∧ kk % 2 = 0) by omega) with h0 | ⟨h0, h1⟩ | ⟨h0, h1⟩
                  · have hd : decide (kk < 0) = true := by simpa using h0
                    have hX := Lib.hid (hX0 (b' := bs.take mm) (w' := true) (by simp [Chg.kept, cutLives, show ¬ (0 ≤ kk) by omega]))
                    clear hX0
                    go_wp2_with first
                      | (go_at_call 98; go_loud (refine hkY.mono ?_; clear hkY; rintro e W2 ⟨rfl, hD2, hO2, hd2, hN2, eb2, hB2⟩; have b0 : W2.cell? ⟨wr.heap.size, 0, none⟩ = some (.bool true) := (by simp [World.cell?, eb2, chB]); have b1 : W2.cell? ⟨wr.heap.size, 1, none⟩ = some (.int .i64 (mm : Int)) := (by simp [World.cell?, eb2, chM])))
                      | (go_at_call 78; go_loud (refine (hTw2 _ hO2.out).mono ?_; clear hTw2; rintro e W4 ⟨v4, rfl, o4, -, g4⟩; have hO5 := Lib.hid (show Owns W4 B 5 v4 (bs.take mm) from World.ownsRow.mono o4 hB2.out); have hD5 := Lib.hid (hD2.out.more g4); have hN5 := Lib.hid (hN2.out.new g4); have hB5 : Hid (B ≤ W4.heap.size) := Lib.hid (Nat.le_trans hB2.out g4.size); clear o4 g4))
                    exact ⟨⟨c + 1, true, bs.take mm, by first | rfl | simp, by go_num, by omega, hO5, hD5, hN5, Lib.hid (by rw [← Nat.add_assoc]; exact hX.out.1), Lib.hid (by first | exact hX.out.2.1 | exact fun _ => hX.out.2.1 trivial | (intro e; cases e)), Lib.hid hX.out.2.2, hB5⟩, by simp [RowKit.intOf]; omega⟩
                  · have hd : decide (kk < 0) = false := by simpa using h0
                    have ht : Int.tmod kk 2 = 1 := by rw [Int.tmod_eq_emod_of_nonneg (by omega)]; exact h1
                    have hX := Lib.hid (hX0 (b' := bs.take mm) (w' := true) (by simp [Chg.kept, cutLives, h1]))
                    clear hX0
                    go_wp2_with first
                      | (go_at_call 98; go_loud (refine hkY.mono ?_; clear hkY; rintro e W2 ⟨rfl, hD2, hO2, hd2, hN2, eb2, hB2⟩; have b0 : W2.cell? ⟨wr.heap.size, 0, none⟩ = some (.bool true) := (by simp [World.cell?, eb2, chB]); have b1 : W2.cell? ⟨wr.heap.size, 1, none⟩ = some (.int .i64 (mm : Int)) := (by simp [World.cell?, eb2, chM])))
                      | (go_at_call 78; go_loud (refine (hTw2 _ hO2.out).mono ?_; clear hTw2; rintro e W4 ⟨v4, rfl, o4, -, g4⟩; have hO5 := Lib.hid (show Owns W4 B 5 v4 (bs.take mm) from World.ownsRow.mono o4 hB2.out); have hD5 := Lib.hid (hD2.out.more g4); have hN5 := Lib.hid (hN2.out.new g4); have hB5 : Hid (B ≤ W4.heap.size) := Lib.hid (Nat.le_trans hB2.out g4.size); clear o4 g4))
                    exact ⟨⟨c + 1, true, bs.take mm, by first | rfl | simp, by go_num, by omega, hO5, hD5, hN5, Lib.hid (by rw [← Nat.add_assoc]; exact hX.out.1), Lib.hid (by first | exact hX.out.2.1 | exact fun _ => hX.out.2.1 trivial | (intro e; cases e)), Lib.hid hX.out.2.2, hB5⟩, by simp [RowKit.intOf]; omega⟩
                  · have hd : decide (kk < 0) = false := by simpa using h0
                    have ht : Int.tmod kk 2 = 0 := by rw [Int.tmod_eq_emod_of_nonneg (by omega)]; exact h1
                    have hX := Lib.hid (hX0 (b' := bs) (w' := false) (by simp [Chg.kept, cutLives, h1, show 0 ≤ kk by omega]))
                    clear hX0
                    go_wp2_with first
                      | (go_at_call 98; go_loud (refine hkY.mono ?_; clear hkY; rintro e W2 ⟨rfl, hD2, hO2, hd2, hN2, eb2, hB2⟩; have b0 : W2.cell? ⟨wr.heap.size, 0, none⟩ = some (.bool true) := (by simp [World.cell?, eb2, chB])))
                    exact ⟨⟨c + 1, false, bs, by first | rfl | simp, by go_num, by omega, hO2, hD2, hN2, Lib.hid (by rw [← Nat.add_assoc]; exact hX.out.1), Lib.hid (by first | exact hX.out.2.1 | exact fun _ => hX.out.2.1 trivial | (intro e; cases e)), Lib.hid hX.out.2.2, hB2⟩, by simp [RowKit.intOf]; omega⟩
            · obtain rfl : c = cl := by omega
              have hfb : bs = fin := by
                have := hE3.out
                rw [hcl.out, List.drop_length] at this
                simpa [settleP] using this
              subst hfb
              obtain ⟨va, vc, hva⟩ := rowForm hO3.out
              obtain ⟨bl, hbl⟩ : ∃ bl, bl = bs.length := ⟨_, rfl⟩
              rw [← hbl] at hva
              subst hva
              replace hbl := Lib.hid hbl
              have hDw := hD3.out.weak (Q' := fun k => R k ∨ w.heap.size ≤ k) (fun k hk => hk.1)
              have hrn := hDw.ok.rows.rn
              rw [hnv.out] at hrn
              dsimp only at hrn
              rw [← hnl2.out] at hrn
              have hgnQ := hrn.2 gn rfl
              obtain ⟨c9, fr9, hob9⟩ := own_obj hrn.1 gn rfl
              have hgnb : gn ≠ w.heap.size := fun e => by
                subst e
                have := apart_obj hob9 (show _ = _ from hDw.nx)
                simp at this
              have hvl := hDw.ok.rows.vl
              dsimp only at hvl
              have hP : Kinds wr (fun k => k = gn) [100] := fun k cs e z hk hb => by
                subst hk
                have := apart_obj hb hob9
                simp at this
                simp [this.2.1]
              have s1 := World.ownsRow.stored hrn.1 (jn * 2) (.slice va bl vc)
              have l0 := (flat_at (fun x : Value × Value => [x.1, x.2]) 2 (fun _ => rfl) vs' jn _ hv.out) 0 (by omega)
              have l1 := (flat_at (fun x : Value × Value => [x.1, x.2]) 2 (fun _ => rfl) vs' jn _ hv.out) 1 (by omega)
              have z0 : wr.cell? ⟨gn, jn * 2, none⟩ = some (.slice sa sl sc) := by
                rw [World.ownsRow.cellAt hrn.1 (jn * 2) (by omega), hsl.out]
                simpa [nodeCells] using l0
              have zf0 : wr.frozen? ⟨gn, jn * 2, none⟩ = false := World.ownsRow.frozenAt hrn.1 _
              have z1 : (wr.setCell ⟨gn, jn * 2, none⟩ (.slice va bl vc)).cell? ⟨gn, jn * 2 + 1, none⟩ = some (.slice ca n.chg.length cc) := by
                rw [World.ownsRow.cellAt s1.1 (jn * 2 + 1) (by omega), List.getElem?_set_ne (by omega)]
                simpa [nodeCells] using l1
              have zf1 : (wr.setCell ⟨gn, jn * 2, none⟩ (.slice va bl vc)).frozen? ⟨gn, jn * 2 + 1, none⟩ = false := World.ownsRow.frozenAt s1.1 _
              have hset := hDw.ok.setNode (gn := gn) (j := jn) (s := (.slice va bl vc)) (c := .slice none 0 0) (n := ⟨bs, []⟩) (by rw [hnv.out]; rfl) (by dsimp only; rw [← hnl2.out]; exact hjl)
                ⟨(OwnR.of (R := fun k => R k ∨ w.heap.size ≤ k) hO3.out (fun b h1 _ => .inr (by omega))).weak (fun _ hb => .inl hb), [], rfl, OwnR.nil, fun i c dv e1 _ => by simp at e1⟩ rfl rfl
              dsimp only at hset
              have hF : Hid (DieS DX (fun k => R k ∨ w.heap.size ≤ k) R w q w.heap.size { a with safe := D, moves := [], dir := D, nodes := ns.set jn ⟨bs, []⟩ } r2 (vs'.set jn ((.slice va bl vc), .slice none 0 0)) (j + n.chg.length) ((wr.setCell ⟨gn, jn * 2, none⟩ (.slice va bl vc)).setCell ⟨gn, jn * 2 + 1, none⟩ (.slice none 0 0))) := Lib.hid
                ⟨hset.1, hDw.gp.step hset.2 (fun k e => by cases e; exact hgnQ), by rw [← hcl.out]; exact hDw.nx.kept hset.2 (by simpa using hgnb), hDw.pn, hDw.xl⟩
              have hNF : Hid (OwnR (fun _ => True) ((wr.setCell ⟨gn, jn * 2, none⟩ (.slice va bl vc)).setCell ⟨gn, jn * 2 + 1, none⟩ (.slice none 0 0)) 9 1 (.slice (some ⟨gN, 0, none⟩) ol cn) ol (O.map encStr)) := Lib.hid
                ((hN3.out.weak (fun _ _ => trivial)).gp (P := fun k => k = gn) (GP.of hset.2 (fun k e => by cases e; rfl)) hP (by decide))
              have hgF : Hid (∀ n ∈ ns.set jn ⟨bs, []⟩, n.good) := Lib.hid (fun n' hn' => by
                rcases List.mem_or_eq_of_mem_set hn' with h1 | h1
                · exact hgn.out n' h1
                · rw [h1]; exact ⟨hL3.out, trivial⟩)
              have hlF : Hid ((ns.set jn ⟨bs, []⟩).length = a.nodes.length) := Lib.hid (by rw [List.length_set]; exact hnl.out)
              clear hDw hrn hP s1 l0 l1 hset hob9 hvl hE3 hK3 hO3 hD3 hN3 hL3
              go_wp2_with fail
              go_roundw
              case rel => exact ⟨k + 1, _, _, _, by go_num, by omega, hF, hNF, hE2, hlF, hsm2, hgF⟩
              case measure => simp [RowKit.intOf]; omega
        · obtain rfl : k = ol := by omega
          have hns : ns = N := by
            have := hE.out
            rw [hol.out, List.drop_length] at this
            simpa [nodesDie] using this
          subst hns
          have x6 := hDS.out.ok.at_.c6
          have xf6 := hDS.out.ok.at_.free 6
          have hset := hDS.out.ok.setDied true
          have g6 := gq wr q 6 (.bool true)
          have hGP := hDS.out.gp.step g6 (fun k e => by cases e; exact .inl hRq)
          have hF : Hid ((∃ r' vs', RefOk DX (RU R w (wr.setCell ⟨q, 6, none⟩ (.bool true))) (wr.setCell ⟨q, 6, none⟩ (.bool true)) q a.die r' vs') ∧ GP R w (wr.setCell ⟨q, 6, none⟩ (.bool true))) := Lib.hid
            ⟨⟨{ r2 with died := true }, vs', by rw [hdie.out]; exact hset.bound.weak (fun k hk => hk.1.elim .inl (fun h => .inr ⟨h, hk.2⟩))⟩, hGP⟩
          clear hset g6 hGP hE hDS hNm
          go_wp2_with fail
          go_end0
          exact ⟨rfl, hF.out⟩
end Go.Proofs.YtafcgjbafihniaaGreat

/-
  LAYER 1 (fs): the reference's begin.
-/
namespace Go.Proofs.YtafcgjbafihniaaGreat
set_option maxRecDepth 100000
variable {DX : Nat → Prop}
open Go.RowKit Go.Lib
open Go.Proofs (encStr)
attribute [local go_sem] Oper.semAt_some

/-- What a file system of the reference keeps to. -/
structure RefP.Fits (a : RefP) : Prop where
  keep : a.pl.keep.length < 4611686018427387904
  moves : a.moves.length ≤ 2199023255552
  safe : a.safe.length ≤ 65536
  dies : ∀ (m : Nat) x j, ((a.moves.take m).foldl RMv.done a.safe).look x = some j → j < a.nodes.length
  dirs : ∀ m : Nat, ((a.moves.take m).foldl RMv.done a.safe).length ≤ 131072
  good : ∀ n ∈ a.nodes, n.good
  sum : chgSum a.nodes < 2305843009213693952
  cnt0 : 0 ≤ a.count
  cnt : a.count < 4611686018427387904
/-- An operation begins: what it answers if not nothing, what is left. -/
def RefP.begin (a : RefP) : Int × RefP :=
  if a.died = true then (12, a)
  else if a.count + 1 = a.pl.crash then (12, { a with count := a.count + 1 }.die)
  else (if a.pl.fail.contains (a.count + 1) = true then 10 else 0, { a with count := a.count + 1 })

theorem RU.of {R : Nat → Prop} {w W w' : World} (hs : w.heap.size ≤ W.heap.size) : ∀ k, RU R W w' k → RU R w w' k := fun _ h => h.elim .inl (fun h => .inr ⟨Nat.le_trans hs h.1, h.2⟩)
theorem RU.grow {R : Nat → Prop} {w W w' : World} (hs : W.heap.size ≤ w'.heap.size) : ∀ k, RU R w W k → RU R w w' k := fun _ h => h.elim .inl (fun h => .inr ⟨h.1, Nat.lt_of_lt_of_le h.2 hs⟩)
theorem RefOk.ru {R : Nat → Prop} {w w' : World} {q : Nat} {a : RefP} {r : RefV} {vs : List (Value × Value)} (h : RefOk DX R w' q a r vs) : RefOk DX (RU R w w') w' q a r vs := h.weak (fun _ hk => .inl hk)

/-- Its own, or new. -/
def RW (R : Nat → Prop) (w : World) (k : Nat) : Prop := R k ∨ w.heap.size ≤ k
theorem RefOk.wide {R : Nat → Prop} {w W w' : World} {q : Nat} {a : RefP} {r : RefV} {vs : List (Value × Value)} (h : RefOk DX (RU R w W) w' q a r vs) : RefOk DX (RW R w) w' q a r vs := h.weak (fun _ hk => hk.elim .inl (fun h => .inr h.1))
theorem RefOk.fin {R : Nat → Prop} {w w' : World} {q : Nat} {a : RefP} {r : RefV} {vs : List (Value × Value)} (h : RefOk DX (RW R w) w' q a r vs) : RefOk DX (RU R w w') w' q a r vs := h.bound.weak (fun _ hk => hk.1.elim .inl (fun h => .inr ⟨h, hk.2⟩))
/-- Done: the file system a lies there, nothing else was turned. -/
structure RDone (DX R : Nat → Prop) (w : World) (q : Nat) (a : RefP) (w' : World) : Prop where
  ok : ∃ r' vs', RefOk DX (RU R w w') w' q a r' vs'
  gp : GP R w w'
theorem RDone.of {R : Nat → Prop} {w w' : World} {q : Nat} {a : RefP} {r : RefV} {vs : List (Value × Value)} (h : RefOk DX (RW R w) w' q a r vs) (g : GP R w w') : RDone DX R w q a w' := ⟨⟨r, vs, h.fin⟩, g⟩
theorem OwnR.rw {R : Nat → Prop} {w W w' : World} {e : TypeId} {k n : Nat} {v : Value} {xs : List Value} (o : w'.ownsRow W.heap.size e k v n xs) (hs : w.heap.size ≤ W.heap.size) : OwnR (RW R w) w' e k v n xs := OwnR.of o (fun _ h1 _ => .inr (Nat.le_trans hs h1))

set_option maxHeartbeats 8000000 in
theorem rbegin_any {R : Nat → Prop} {w : World} {q : Nat} {a : RefP} {r : RefV} {vs : List (Value × Value)} (h : RefOk DX R w q a r vs) (hR : ∀ k, RD R DX k → k < w.heap.size) (F : a.Fits) :
    Calls Tryz.prog 74 #[.pointer (some ⟨q, 0, none⟩)] w fun e w' => e = .returned (.int .i64 a.begin.1) ∧ RDone DX R w q a.begin.2 w' := by
  have c6 := h.at_.c6
  rw [h.died] at c6
  by_cases hd : a.died = true
  · rw [show a.begin = (12, a) by unfold RefP.begin; rw [if_pos hd]]
    rw [hd] at c6
    have H := Lib.hid h
    clear h
    go_enter Tryz.func74, Tryz.ntmps74
    go_wp2
    go_ret
    exact ⟨rfl, ⟨r, vs, H.out.ru⟩, GP.refl _ _⟩
  · have hdf : a.died = false := by simpa using hd
    rw [hdf] at c6
    have c5 := h.at_.c5
    rw [h.count] at c5
    have f5 := h.at_.free 5
    obtain ⟨ct, hct⟩ : ∃ ct, ct = a.count + 1 := ⟨_, rfl⟩
    have hset := h.setCount ct
    have hw1 : IntKind.i64.wrap (a.count + 1) = ct := by rw [hct]; exact IntWalk.i64_in _ (by have := F.cnt0; have := F.cnt; omega)
    obtain ⟨W, hW⟩ : ∃ W, W = w.setCell ⟨q, 5, none⟩ (.int .i64 ct) := ⟨_, rfl⟩
    have g5 := gq w q 5 (.int .i64 ct)
    rw [← hW] at hset g5
    have d0 := hset.at_.c0
    have d5 := hset.at_.c5
    have d2 := hset.at_.c2
    dsimp only at d0 d5 d2
    rw [h.crash] at d0
    have hgp : GP R w W := GP.of g5 (fun k e => by cases e; exact h.rq)
    have hg := fun m => gdrewN (World.grownBy.refl W none) m
    by_cases hc : ct = a.pl.crash
    · rw [show a.begin = (12, { a with count := ct }.die) by unfold RefP.begin; rw [if_neg hd, ← hct, if_pos hc]]
      rw [← hc] at d0
      have hdm : ∀ m, Hid (Calls Tryz.prog 79 #[.pointer (some ⟨q, 0, none⟩)] (W.drewN m) fun e w' => e = .returned (.tuple #[]) ∧ RDone DX R w q { a with count := ct }.die w') := fun m => Lib.hid (by
        refine (rdie_any (hset.new (hg m)) (fun k hk => Nat.lt_of_lt_of_le (hR k hk) g5.size) F.keep F.moves F.safe (F.dies _) (F.dirs _) F.good F.sum).mono ?_
        rintro e w' ⟨he, ⟨r', vs', h1⟩, h2⟩
        exact ⟨he, ⟨r', vs', h1.weak (RU.of (Nat.le_trans g5.size (hg m).size))⟩, (hgp.more (hg m)).trans h2 (fun k hk => .inl hk)⟩)
      have hce : (ct == ct) = true := by simp
      generalize a.count = ct0 at *
      clear h hset hd hdf F hc hR g5 d2 hgp hg hct
      go_enter Tryz.func74, Tryz.ntmps74
      go_wp2_with fail
      rw [← hW]
      replace hW := Lib.hid hW
      go_quiet (fail)
      go_wp2_with (go_at_call 79; go_loud (refine (hdm _).out.mono ?_; rintro e w' ⟨rfl, h2⟩; have H2 := Lib.hid h2; clear h2))
      go_ret
      exact ⟨rfl, H2.out⟩
    · rw [show a.begin = (if a.pl.fail.contains ct = true then 10 else 0, { a with count := ct }) by unfold RefP.begin; rw [if_neg hd, ← hct, if_neg hc]]
      have hce : (ct == a.pl.crash) = false := by simpa using hc
      obtain ⟨ka, kc, hkv⟩ := h.rows.rf.form
      rw [hkv] at d2
      have hI : ∀ W', W.grownBy W' none → Ints W' (.slice ka a.pl.fail.length kc) a.pl.fail := fun W' g => by rw [← hkv]; exact ints_of_own (hset.rows.rf.new g).1
      have hH := fun m => has_any ka a.pl.fail.length kc a.pl.fail ct (W.drewN m) (hI _ (hg m))
      have hF : ∀ m, Hid (RDone DX R w q { a with count := ct } (W.drewN m)) := fun m => Lib.hid ⟨⟨_, _, (hset.new (hg m)).ru⟩, hgp.more (hg m)⟩
      clear hI
      generalize a.pl.fail.contains ct = bb at *
      generalize a.pl.fail.length = n at *
      generalize a.count = ct0 at *
      generalize a.pl.crash = cr at *
      clear h hset hd hdf F hc hR g5 hgp hg hct hkv
      cases bb
      all_goals
        go_enter Tryz.func74, Tryz.ntmps74
        go_wp2_with fail
        rw [← hW]
        replace hW := Lib.hid hW
        go_quiet (fail)
        go_wp2_with fail
        go_quiet (first | (go_at_call 96; go_loud (refine (hH _).mono (by rintro e w3 ⟨h1, h2⟩; exact ⟨h1, _, h2.symm⟩))))
        go_wp2_with fail
        go_ret
        exact ⟨rfl, (hF _).out⟩
end Go.Proofs.YtafcgjbafihniaaGreat

/-
  LAYER 1 (fs): the reference's SyncDir.
-/
namespace Go.Proofs.YtafcgjbafihniaaGreat
set_option maxRecDepth 100000
variable {DX : Nat → Prop}
open Go.RowKit Go.Lib
open Go.Proofs (encStr)
attribute [local go_sem] Oper.semAt_some

theorem RefP.begin_ok {a : RefP} (h : a.begin.1 = 0) : a.begin.2 = { a with count := a.count + 1 } := by
  unfold RefP.begin at *
  split at h
  · simp at h
  · split at h
    · simp at h
    · rename_i h1 h2
      rw [if_neg h1, if_neg h2]

def RefP.syncDir (a : RefP) : Int × RefP :=
  if a.begin.1 = 0 then (if a.pl.full.contains (a.count + 1) = true then (11, { a with count := a.count + 1 }) else (0, { a with count := a.count + 1, safe := a.dir, moves := [] })) else a.begin

set_option maxHeartbeats 8000000 in
theorem rsyncDir_any {R : Nat → Prop} {w : World} {q : Nat} {a : RefP} {r : RefV} {vs : List (Value × Value)} (h : RefOk DX R w q a r vs) (hR : ∀ k, RD R DX k → k < w.heap.size) (F : a.Fits) (hdir : a.dir.length ≤ 65536) :
    Calls Tryz.prog 45 #[.pointer (some ⟨q, 0, none⟩)] w fun e w' => e = .returned (.int .i64 a.syncDir.1) ∧ RDone DX R w q a.syncDir.2 w' := by
  have hb := rbegin_any h hR F
  have hRq := h.rq
  unfold RefP.syncDir
  by_cases h0 : a.begin.1 = 0
  · rw [RefP.begin_ok h0, h0] at hb
    rw [if_pos h0]
    obtain ⟨bb, hbb⟩ : ∃ bb, bb = a.pl.full.contains (a.count + 1) := ⟨_, rfl⟩
    rw [← hbb]
    replace hbb := Lib.hid hbb
    clear h0 h
    cases bb
    · rw [if_neg (by simp)]
      obtain ⟨D, hD⟩ : ∃ D, D = a.dir := ⟨_, rfl⟩
      rw [← hD] at hdir ⊢
      replace hD := Lib.hid hD
      go_enter Tryz.func45, Tryz.ntmps45
      go_wp2_with first
        | (go_at_call 74; go_loud (refine hb.mono ?_; clear hb; rintro e w1 ⟨rfl, ⟨r1, vs1, h1⟩, g1⟩; have hf := full_any h1; dsimp only at hf; rw [← hbb.out] at hf; have H1 := Lib.hid (And.intro h1 g1); clear h1 g1))
        | (go_at_call 76
           refine hf.mono ?_
           clear hf
           rintro e w2 ⟨rfl, m, hw2⟩
           have gm := gdrewN (World.grownBy.refl w1 none) m
           rw [← hw2] at gm
           clear hw2
           have h2 := H1.out.1.wide.new gm
           have g2 := H1.out.2.more gm
           obtain ⟨da, dc, hdv⟩ := h2.rows.rd.form
           have hrd := h2.rows.rd
           rw [hdv] at hrd
           dsimp only at hdv hrd
           rw [← hD.out] at hrd hdv
           have c8 := h2.at_.c8
           rw [hdv] at c8
           obtain ⟨v3, w3, hrun, o3, g3⟩ := copy_names (.slice da D.length dc) D w2 hrd.1 (by omega)
           obtain ⟨a3, c3, rfl⟩ := rowFormS o3
           have h3 := h2.new g3
           have c9 := h3.at_.c9
           have f9 := h3.at_.free 9
           have h4 := h3.setSafe (OwnR.rw o3 g2.size)
           obtain ⟨W4, hW4⟩ : ∃ W4, W4 = w3.setCell ⟨q, 9, none⟩ (.slice a3 D.length c3) := ⟨_, rfl⟩
           rw [← hW4] at h4
           have c10 := h4.at_.c10
           have f10 := h4.at_.free 10
           dsimp only at c10
           have h5 := h4.setMoves (M := []) (v := .slice none 0 0) OwnR.nil
           have F5 := Lib.hid (RDone.of h5 (((g2.more g3).step (gq w3 q 9 (.slice a3 D.length c3)) (fun k e => by cases e; exact .inl hRq)).step (by rw [← hW4]; exact gq W4 q 10 (.slice none 0 0)) (fun k e => by cases e; exact .inl hRq)))
           rw [hW4] at c10 f10
           clear H1 h2 g2 h3 g3 h4 h5 o3 gm)
        | (at_builtin; refine wpList_app_run rfl _ _ 81 rfl (.slice none 0 0) _ rfl rfl hrun ?_)
      go_ret
      rw [← hW4]
      have F6 := F5.out
      rw [← hD.out] at F6
      exact ⟨rfl, F6⟩
    · rw [if_pos rfl]
      go_enter Tryz.func45, Tryz.ntmps45
      go_wp2_with first
        | (go_at_call 74; go_loud (refine hb.mono ?_; clear hb; rintro e w1 ⟨rfl, ⟨r1, vs1, h1⟩, g1⟩; have hf := full_any h1; dsimp only at hf; rw [← hbb.out] at hf; have H1 := Lib.hid (And.intro h1 g1); clear h1 g1))
        | (go_at_call 76; go_loud (refine hf.mono ?_; clear hf; rintro e w2 ⟨rfl, m, rfl⟩; have gm := gdrewN (World.grownBy.refl w1 none) m; have H2 := Lib.hid (RDone.of (H1.out.1.wide.new gm) (H1.out.2.more gm)); clear H1 gm))
      go_ret
      exact ⟨rfl, H2.out⟩
  · rw [if_neg h0]
    have hz : (a.begin.1 == 0) = false := by simpa using h0
    generalize a.begin = b at *
    clear h F
    go_enter Tryz.func45, Tryz.ntmps45
    go_wp2_with (go_at_call 74; go_loud (refine hb.mono ?_; clear hb; rintro e w1 ⟨rfl, h1⟩; have H1 := Lib.hid h1; clear h1))
    go_ret
    exact ⟨rfl, H1.out⟩
end Go.Proofs.YtafcgjbafihniaaGreat

/-
  LAYER 1 (fs): the reference's moves: one more.
-/
namespace Go.Proofs.YtafcgjbafihniaaGreat
set_option maxRecDepth 100000
variable {DX : Nat → Prop}
open Go.RowKit Go.Lib
open Go.Proofs (encStr)

theorem infoRMv : (Tryz.prog.info? 123).map (fun i => (i.zero, i.size, i.bytes)) = some (some (.agg #[.int .i64 0, .string ⟨#[]⟩, .string ⟨#[]⟩, .int .i64 0]), 4, 48) := by kernel_rfl
theorem infoRMv_parts : ∃ i0 : TypeInfo, Tryz.prog.info? 123 = some i0 ∧ i0.zero = some (.agg #[.int .i64 0, .string ⟨#[]⟩, .string ⟨#[]⟩, .int .i64 0]) ∧ i0.size = 4 ∧ i0.bytes = 48 := by
  obtain ⟨i0, h1, h2⟩ := Option.map_eq_some_iff.1 infoRMv
  simp at h2
  exact ⟨i0, h1, h2.1, h2.2.1, h2.2.2⟩

/-- One move more. -/
theorem push_move {R : Nat → Prop} (v : Value) (l : List RMv) (m : RMv) (b : Nat) (w0 w : World) (hr : OwnR (RW R w0) w 123 4 v l.length (rmvCells l)) (hw : w0.heap.size ≤ w.heap.size) (hl : l.length ≤ 2199023255552)
    (hb : w.heap[b]? = some (.cells m.cells.toArray 123 (0, 0))) :
    ∃ v' w', (Builtin.append_ #[82, 82] 82 #[v, .slice (some ⟨b, 0, none⟩) 1 1]).run Tryz.prog w = .ok v' w' ∧ OwnR (RW R w0) w' 123 4 v' (l ++ [m]).length (rmvCells (l ++ [m])) ∧ w.grownBy w' v.ownBlock := by
  obtain ⟨i0, hi, hz0, hz1, hz2⟩ := infoRMv_parts
  obtain ⟨v', w', hrun, h5, h6, _, h7⟩ := run_append_own_at (P := Tryz.prog) w 0 82 82 123 i0 (.agg #[.int .i64 0, .string ⟨#[]⟩, .string ⟨#[]⟩, .int .i64 0]) 4 48 Tryz.underlying82 hi hz0 hz1 hz2 rfl (by decide) v l.length (rmvCells l) hr.1 ⟨b, 0, none⟩ 1 1 m.cells (by rw [rmv_len])
    (fun j u hj => by
      rw [addr_add]
      simp [World.cell?, hb, hj]) (fun u hu => by cases m <;> (simp [RMv.cells] at hu; rcases hu with rfl | rfl | rfl | rfl <;> rfl)) (by unfold maxLen; omega) (by omega) (Nat.zero_le _)
  refine ⟨v', w', hrun, ⟨?_, fun k hk => ?_⟩, h6⟩
  · rw [show rmvCells (l ++ [m]) = rmvCells l ++ m.cells by simp [rmvCells], List.length_append]
    exact h5
  · rcases h7 with h7 | h7
    · exact hr.2 k (by rw [← h7]; exact hk)
    · rw [h7] at hk
      cases hk
      exact .inr hw
theorem RefOk.pushMove {Q : Nat → Prop} {w w' : World} {q : Nat} {a : RefP} {r : RefV} {vs : List (Value × Value)} {M : List RMv} {v' : Value} (h : RefOk DX Q w q a r vs) (g : w.grownBy w' r.moves.ownBlock) (hv : OwnR Q w' 123 4 v' M.length (rmvCells M)) :
    RefOk DX Q (w'.setCell ⟨q, 10, none⟩ v') q { a with moves := M } { r with moves := v' } vs ∧ RefAt w' q r ∧ GP Q w (w'.setCell ⟨q, 10, none⟩ v') := by
  have hne : ∀ b, r.moves.ownBlock = some b → b ≠ q := by
    intro b hb e
    subst e
    obtain ⟨c, fr, h3⟩ := own_obj h.rows.rm.1 b hb
    have := apart_obj h3 (show _ = _ from h.at_)
    simp at this
  have at' : RefAt w' q r := (g.block q (lt_of_block h.at_) (fun e => hne q e.symm rfl)).trans h.at_
  have gp : GP (fun k => r.moves.ownBlock = some k ∨ k = q) w (w'.setCell ⟨q, 10, none⟩ v') := (GP.of g (fun k e => .inl e)).step (gq w' q 10 v') (fun k e => by cases e; exact .inl (.inr rfl))
  have hP : Kinds w (fun k => r.moves.ownBlock = some k ∨ k = q) [123, 84] := fun k cs e z hk hb => by
    rcases hk with hk | hk
    · obtain ⟨c, fr, h3⟩ := own_obj h.rows.rm.1 k hk
      have := apart_obj hb h3
      simp at this
      simp [this.2.1]
    · subst hk
      have := apart_obj hb (show _ = _ from h.at_)
      simp at this
      simp [this.2.1]
  refine ⟨⟨at'.s10 v', h.rq, h.crash, h.room, h.count, h.died, ⟨h.rows.rk.gp gp hP (by decide), h.rows.rf.gp gp hP (by decide), h.rows.ru.gp gp hP (by decide), h.rows.vl, h.rows.rn.gp gp hP (by decide), fun i v n e1 e2 => (h.rows.node i v n e1 e2).gp gp hP (by decide) (by decide), h.rows.rd.gp gp hP (by decide), h.rows.rs.gp gp hP (by decide), hv.setq (by decide) at' 10 v'⟩⟩, at', ?_⟩
  exact (GP.of g (fun k e => h.rows.rm.2 k e)).step (gq w' q 10 v') (fun k e => by cases e; exact .inl h.rq)
end Go.Proofs.YtafcgjbafihniaaGreat
