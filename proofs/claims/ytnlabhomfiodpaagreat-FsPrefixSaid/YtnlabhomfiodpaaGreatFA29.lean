/-
  LAYER 1 (fs): files that are never cut: behind a death each is a beginning of what it was.
-/
import Derived.Test.YtnlabhomfiodpaaGreatFA26
namespace Go.Proofs.YtnlabhomfiodpaaGreat
set_option maxRecDepth 100000
open Go.RowKit Go.Lib

section
variable {N : Nat} {a : RefP}
def isAdd : Chg → Prop
  | .add _ => True
  | .cut _ => False
/-- Nothing is cut, nothing is renamed or removed. -/
structure Grows (a : RefP) : Prop where
  add : ∀ n ∈ a.nodes, ∀ c ∈ n.chg, isAdd c
  look : ∀ m x i, ((a.moves.take m).foldl RMv.done a.safe).look x = some i → a.dir.look x = some i
theorem fold_grows : ∀ (l : List Chg) (bs : List UInt8), (∀ c ∈ l, isAdd c) → ∃ r, l.foldl Chg.done bs = bs ++ r
  | [], bs, _ => ⟨[], by simp⟩
  | c :: l, bs, h => by
    obtain ⟨r, hr⟩ := fold_grows l (c.done bs) (fun c' hc => h c' (by simp [hc]))
    have hc := h c (by simp)
    cases c with
    | add a =>
      refine ⟨a.data.toList ++ r, ?_⟩
      rw [List.foldl_cons, hr]
      simp [Chg.done]
    | cut m => exact hc.elim
theorem settle_grows (ks : Nat → Int) : ∀ (l : List Chg) (k : Nat) (bs : List UInt8), (∀ c ∈ l, isAdd c) → ∃ r, l.foldl Chg.done bs = settleP ks k true bs l ++ r
  | [], _, bs, _ => ⟨[], by simp [settleP]⟩
  | c :: l, k, bs, h => by
    have h2 : ∀ c' ∈ l, isAdd c' := fun c' hc => h c' (by simp [hc])
    have hc := h c (by simp)
    rw [settleP]
    cases hw : (c.kept (ks k) bs).2 with
    | true =>
      rw [kept_whole (ks k) bs c hw]
      exact settle_grows ks l (k + 1) (c.done bs) h2
    | false =>
      rw [settleP_false]
      obtain ⟨r, hr⟩ := fold_grows l (c.done bs) h2
      cases c with
      | add a =>
        refine ⟨a.data.toList.drop (surv (ks k) a.size) ++ r, ?_⟩
        rw [List.foldl_cons, hr]
        simp only [Chg.kept, Chg.done, List.append_assoc]
        rw [← List.append_assoc (List.take _ _), List.take_append_drop]
      | cut m => exact hc.elim
theorem nodesDie_add (ks : Nat → Int) (D : DirL) : ∀ (xs : List (List UInt8)) (i : Nat) (ns : List NodeP), (∀ n ∈ ns, ∀ c ∈ n.chg, isAdd c) → ∀ n ∈ nodesDie ks D xs i ns, ∀ c ∈ n.chg, isAdd c
  | [], _, _, h => h
  | x :: xs, i, ns, h => by
    unfold nodesDie
    split
    · exact nodesDie_add ks D xs i ns h
    · split
      · exact nodesDie_add ks D xs i ns h
      · refine nodesDie_add ks D xs _ _ (fun n' hn' => ?_)
        rcases List.mem_or_eq_of_mem_set hn' with h1 | rfl
        · exact h n' h1
        · intro c hc
          cases hc
theorem Grows.die (h : Grows a) : Grows a.die := by
  refine ⟨nodesDie_add _ _ _ _ _ h.add, fun m x i e => ?_⟩
  have e' : ((([] : List RMv).take m).foldl RMv.done a.dieDir).look x = some i := e
  rw [List.take_nil] at e'
  exact e'
theorem Grows.counted (h : Grows a) : Grows { a with count := a.count + 1 } := ⟨h.add, h.look⟩
theorem Grows.begin (h : Grows a) : Grows a.begin.2 := by
  unfold RefP.begin
  split
  · exact h
  · split
    · exact h.counted.die
    · exact h.counted
theorem Grows.setNode (h : Grows a) (j : Nat) (n : NodeP) (hn : ∀ c ∈ n.chg, isAdd c) : Grows { a with count := a.count + 1, nodes := a.nodes.set j n } := by
  refine ⟨fun n' hn' => ?_, h.look⟩
  rcases List.mem_or_eq_of_mem_set hn' with h1 | rfl
  · exact h.add n' h1
  · exact hn
theorem Grows.op (h : Grows a) (I : RInv N a) (o : OpP) (ho : o.kind = 1 ∨ o.kind = 2 ∨ o.kind = 4 ∨ o.kind = 7) : Grows (a.op o) := by
  unfold RefP.op
  rcases ho with ho | ho | ho | ho
  · rw [if_pos ho]
    unfold RefP.create
    split
    · split
      · split
        · exact h.counted
        · rename_i hnl
          split
          · exact h.counted
          · split
            · exact h.counted
            · have hl0 : a.dir.look o.name.data.toList = none := by
                cases e : a.dir.look o.name.data.toList with
                | none => rfl
                | some j => exact (hnl (by rw [e]; rfl)).elim
              refine ⟨fun n hn => ?_, fun m x i e => ?_⟩
              · rcases List.mem_append.1 hn with h1 | h1
                · exact h.add n h1
                · simp at h1
                  subst h1
                  intro c hc
                  cases hc
              · have e' : (((a.moves ++ [RMv.made o.name a.nodes.length]).take m).foldl RMv.done a.safe).look x = some i := e
                by_cases hm : m ≤ a.moves.length
                · rw [List.take_append_of_le_length hm] at e'
                  have h2 := h.look m x i e'
                  have hne : x ≠ o.name.data.toList := fun e2 => by rw [e2, hl0] at h2; cases h2
                  show (DirL.put a.dir o.name.data.toList a.nodes.length).look x = some i
                  rw [DirL.look_put_other _ hne]
                  exact h2
                · rw [List.take_of_length_le (by simp only [List.length_append, List.length_singleton]; omega), List.foldl_append, ← I.dir] at e'
                  exact e'
      · exact h.counted
    · exact h.begin
  · rw [if_neg (by omega), if_pos ho]
    unfold RefP.append
    split
    · split
      · exact h.counted
      · rename_i j hl
        split
        · exact h.counted
        · split
          · exact h.counted
          · split
            · exact h.counted
            · split
              · exact h.counted
              · refine h.setNode j _ (fun c hc => ?_)
                rcases List.mem_append.1 hc with h1 | h1
                · exact h.add _ (RefP.file_mem (I.dirOk.lookLt hl)) c h1
                · simp at h1
                  subst h1
                  trivial
    · exact h.begin
  · rw [if_neg (by omega), if_neg (by omega), if_neg (by omega), if_pos ho]
    unfold RefP.sync
    split
    · split
      · exact h.counted
      · exact h.setNode _ _ (fun c hc => by cases hc)
    · exact h.begin
  · rw [if_neg (by omega), if_neg (by omega), if_neg (by omega), if_neg (by omega), if_neg (by omega), if_neg (by omega), if_pos ho]
    unfold RefP.syncDir
    split
    · split
      · exact h.counted
      · refine ⟨h.add, fun m x i e => ?_⟩
        have e' : ((([] : List RMv).take m).foldl RMv.done a.dir).look x = some i := e
        rw [List.take_nil] at e'
        exact e'
    · exact h.begin
theorem fold_growsOp : ∀ (L : List OpP) (a : RefP) (N : Nat), RInv N a → Grows a → (∀ o ∈ L, o.Fits) → (∀ o ∈ L, o.kind = 1 ∨ o.kind = 2 ∨ o.kind = 4 ∨ o.kind = 7) → Grows (L.foldl RefP.op a)
  | [], _, _, _, h, _, _ => h
  | o :: L, a, N, I, h, hf, hk => fold_growsOp L (a.op o) (N + 1) (I.op o (hf o (by simp))) (h.op I o (hk o (by simp))) (fun o' ho => hf o' (by simp [ho])) (fun o' ho => hk o' (by simp [ho]))
theorem Grows.new (p : Pl) : Grows (RefP.new p) := by
  refine ⟨(fun n hn => by cases hn), fun m x i e => ?_⟩
  have e' : ((([] : List RMv).take m).foldl RMv.done []).look x = some i := e
  rw [List.take_nil] at e'
  cases e'
/-- Behind a start each file is a beginning of one of that name. -/
theorem Grows.start (h : Grows a) (I : RInv N a) (hd : a.died = false) (p : Pl) : ∀ x ∈ (a.start p).files, ∃ y ∈ a.files, y.1 = x.1 ∧ ∃ r, y.2 = x.2 ++ r := by
  have e : a.start p = { a.die with died := false, count := 0, pl := p } := by unfold RefP.start; rw [if_neg (by rw [hd]; simp)]
  intro x hx
  rw [e] at hx
  unfold RefP.files at hx
  rw [if_neg (by simp)] at hx
  obtain ⟨y, hy, rfl⟩ := List.mem_map.1 hx
  have hlk := DirL.sorted_look _ y hy
  have hdl : a.dir.look y.1 = some y.2 := h.look (dieL a.pl.keep a.moves.length) y.1 y.2 hlk
  obtain ⟨k, hk⟩ := die_file I (x := y.1) (i := y.2) hlk
  obtain ⟨r, hr⟩ := settle_grows (keepAt a.pl.keep) (a.file y.2).chg k (a.file y.2).safe (h.add _ (RefP.file_mem (I.dirOk.lookLt hdl)))
  refine ⟨(y.1, (a.file y.2).data), ?_, rfl, r, ?_⟩
  · unfold RefP.files
    rw [if_neg (by rw [hd]; simp)]
    refine List.mem_map.2 ⟨y, ?_, rfl⟩
    exact (sorted_perm I.dirOk.names).mem_iff.2 (DirL.look_mem hdl)
  · show (a.file y.2).data = (a.die.file y.2).data ++ r
    rw [hk]
    exact hr
end
end Go.Proofs.YtnlabhomfiodpaaGreat

/-
  LAYER 1 (fs): FsPrefix, its walk.
-/
namespace Go.Proofs.YtnlabhomfiodpaaGreat
set_option maxRecDepth 100000
open Go.RowKit Go.Lib Go.ChangeShapes Go.WideShapes Go.ChangeAt
attribute [local go_sem] Oper.semAt_some

set_option maxHeartbeats 16000000 in
theorem FsPrefix_go (w : World) (pv v qv : Value) (p qp : Pl) (L : List OpP) (hp : PlanR w pv p) (h : OpsR w v L) (hq : PlanR w qv qp) :
    Calls Tryz.prog 6 #[pv, v, qv] w fun e w' => e = .returned (.bool true) ∧ w.grownBy w' none := by
  have hL : L.length ≤ 1099511627776 := by obtain ⟨_, _, _, h2, _⟩ := h; omega
  have hfit : ∀ o ∈ L, o.Fits := by obtain ⟨_, _, _, _, h3, _⟩ := h; exact h3
  have hlB : L.length ≤ 879609302208 := by obtain ⟨_, _, _, h2, _⟩ := h; exact h2
  have hops : Hid (∃ a c, v = .slice a L.length c ∧ ∀ (j : Nat) (o : OpP), L[j]? = some o → ∃ b off da dc a1 c1 a2 c2 a3 c3, a = some ⟨b, off, none⟩ ∧
    (∀ i u, (opCells o.kind o.name o.dest (.slice da o.data.length dc) o.n o.plan.crash (.slice a1 o.plan.keep.length c1) (.slice a2 o.plan.fail.length c2) (.slice a3 o.plan.full.length c3) o.plan.room)[i]? = some u → w.cell? ⟨b, off + j * 10 + i, none⟩ = some u)) := Lib.hid (by
    obtain ⟨a, c, e, _, _, h4⟩ := h
    refine ⟨a, c, e, fun j o ho => ?_⟩
    obtain ⟨b, off, da, dc, a1, c1, a2, c2, a3, c3, k1, k2, _⟩ := h4 j o ho
    exact ⟨b, off, da, dc, a1, c1, a2, c2, a3, c3, k1, k2⟩)
  obtain ⟨va, vc, hv⟩ : ∃ a c, v = .slice a L.length c := by obtain ⟨a, c, h2, _⟩ := h; exact ⟨a, c, h2⟩
  subst hv
  have hp0 := hp
  have hq0 := hq
  obtain ⟨a1, c1, a2, c2, a3, c3, rfl, hpf, -, -, -⟩ := hp0
  obtain ⟨b1, d1, b2, d2, b3, d3, rfl, -, -, -, -⟩ := hq0
  obtain ⟨ln, hln⟩ : ∃ n, n = L.length := ⟨_, rfl⟩
  rw [← hln] at h ⊢
  generalize hn1 : p.keep.length = n1 at *
  generalize hn2 : p.fail.length = n2 at *
  generalize hn3 : p.full.length = n3 at *
  generalize hm1 : qp.keep.length = m1 at *
  generalize hm2 : qp.fail.length = m2 at *
  generalize hm3 : qp.full.length = m3 at *
  obtain ⟨W0, hW0⟩ : ∃ W0, W0 = (w.alloc (.cells #[.int .i64 p.crash, .slice a1 n1 c1, .slice a2 n2 c2, .slice a3 n3 c3, .int .i64 p.room] 24)).alloc (.cells #[.int .i64 qp.crash, .slice b1 m1 d1, .slice b2 m2 d2, .slice b3 m3 d3, .int .i64 qp.room] 24) := ⟨_, rfl⟩
  have gB : w.grownBy W0 none := by rw [hW0]; exact galloc (World.grownBy_alloc w _ none) _
  have P0 : PlanAt W0 w.heap.size (.int .i64 p.crash) (.slice a1 n1 c1) (.slice a2 n2 c2) (.slice a3 n3 c3) (.int .i64 p.room) := by
    rw [hW0]
    exact ((World.grownBy_alloc (w.alloc _) _ none).block w.heap.size (by simp) (by simp)).trans (World.alloc_heap_new w _)
  have Q0 : PlanAt W0 (w.heap.size + 1) (.int .i64 qp.crash) (.slice b1 m1 d1) (.slice b2 m2 d2) (.slice b3 m3 d3) (.int .i64 qp.room) := by
    rw [hW0]
    have := World.alloc_heap_new (w.alloc (.cells #[.int .i64 p.crash, .slice a1 n1 c1, .slice a2 n2 c2, .slice a3 n3 c3, .int .i64 p.room] 24)) (.cells #[.int .i64 qp.crash, .slice b1 m1 d1, .slice b2 m2 d2, .slice b3 m3 d3, .int .i64 qp.room] 24)
    rwa [World.size_alloc] at this
  have haw := fawake_any W0
  have hfi : Hid (∀ W, w.grownBy W none → Calls Tryz.prog 11 #[.slice va ln vc] W (SomeB W)) := Lib.hid fun W g => fits_any _ L W (h.new g)
  have hma : Hid (∀ W, w.grownBy W none → Calls Tryz.prog 16 #[.agg #[.int .i64 p.crash, .slice a1 n1 c1, .slice a2 n2 c2, .slice a3 n3 c3, .int .i64 p.room], .slice va ln vc] W fun e w' => ∃ f q F R, e = .returned (.tuple #[.pointer (some ⟨f, 0, none⟩), .pointer (some ⟨q, 0, none⟩), .bool true]) ∧ Made W L p w' f q F R) := Lib.hid fun W g => made_any _ _ p L W (hp.new g) (h.new g)
  obtain ⟨A, hA⟩ : ∃ A, A = L.foldl RefP.op (RefP.new p) := ⟨_, rfl⟩
  have hAI : RInv L.length A ∧ (A.died = true → Settled A) := by rw [hA]; exact made_inv hpf hfit
  have hqf : planFits qp := by obtain ⟨_, _, _, _, _, _, _, k, _⟩ := hq; exact k
  obtain ⟨ad, had⟩ : ∃ ad, ad = A.died := ⟨_, rfl⟩
  replace had := Lib.hid had
  replace hA := Lib.hid hA
  replace hAI := Lib.hid hAI
  replace hqf := Lib.hid hqf
  replace hq := Lib.hid hq
  replace hL := Lib.hid hL
  replace hlB := Lib.hid hlB
  replace hln := Lib.hid hln
  replace gB := Lib.hid gB
  replace hn1 := Lib.hid hn1
  replace hn2 := Lib.hid hn2
  replace hn3 := Lib.hid hn3
  replace hm1 := Lib.hid hm1
  replace hm2 := Lib.hid hm2
  replace hm3 := Lib.hid hm3
  obtain ⟨bq, hbq⟩ : ∃ bq, bq = w.heap.size + 1 := ⟨_, rfl⟩
  rw [← hbq] at Q0
  replace hfit := Lib.hid hfit
  replace hpf := Lib.hid hpf
  have hl9 : ln ≤ 879609302208 := by rw [hln.out]; exact hlB.out
  clear h hp
  go_enter Tryz.func6, Tryz.ntmps6
  go_upto_region 1 with fail
  rw [← hW0, ← hbq]
  replace hW0 := Lib.hid hW0
  replace hbq := Lib.hid hbq
  go_upto_region 3 with
    (go_at_call 10
     refine haw.mono ?_
     clear haw
     rintro e w1 ⟨rfl, g1⟩
     have G1 := Lib.hid (gB.out.trans g1)
     have hf1 := hfi.out w1 G1.out
     have P1 := P0.kept g1 (by simp)
     have Q1 := Q0.kept g1 (by simp)
     clear g1 P0 Q0)
  go_wp2_with fail
  refine hf1.mono ?_
  clear hf1
  rintro e w2 ⟨b, rfl, g2⟩
  have G2 := Lib.hid (G1.out.trans g2)
  have P2 := Lib.hid (P1.kept g2 (by simp))
  have Q2 := Lib.hid (Q1.kept g2 (by simp))
  clear g2 P1 Q1
  cases b
  · go_wp2_with fail
    go_ret
    exact ⟨rfl, G2.out⟩
  · go_wp2_with fail
    go_loopw [8, 25] (fun _ vi wr => ∃ (j : Nat), vi = .int .i64 (j : Int) ∧ j ≤ ln ∧ Hid (w2.grownBy wr none) ∧ Hid (∀ k o, k < j → L[k]? = some o → o.kind = 1 ∨ o.kind = 2 ∨ o.kind = 4 ∨ o.kind = 7)) (fun _ vi _ => ln - (RowKit.intOf vi).toNat)
    case atStart => exact ⟨0, rfl, Nat.zero_le _, Lib.hid (World.grownBy.refl _ _), Lib.hid (fun k o hk => by omega)⟩
    case round =>
      obtain ⟨j, rfl, hj, hG, hK⟩ := hrel
      by_cases hlt : j < ln
      · have hltz : (j : Int) < (ln : Int) := by omega
        obtain ⟨o, ho⟩ : ∃ o, L[j]? = some o := ⟨_, List.getElem?_eq_getElem (by have := hln.out; omega)⟩
        obtain ⟨a0, c0, ev, h4⟩ := hops.out
        obtain ⟨b, off, da, dc, e1, f1, e2, f2, e3, f3, eb, hc⟩ := h4 j o ho
        have eva : va = some ⟨b, off, none⟩ := by simp at ev; rw [ev.1, eb]
        subst eva
        have gr := G2.out.trans hG.out
        have d0 : wr.cell? ⟨b, off + j * 10, none⟩ = some (.int .i64 o.kind) := gr.cell (hc 0 _ rfl) (by simp)
        have d1 : wr.cell? ⟨b, off + j * 10 + 1, none⟩ = some (.string o.name) := gr.cell (hc 1 _ rfl) (by simp)
        have d2 : wr.cell? ⟨b, off + j * 10 + 2, none⟩ = some (.string o.dest) := gr.cell (hc 2 _ rfl) (by simp)
        have d3 : wr.cell? ⟨b, off + j * 10 + 3, none⟩ = some (.slice da o.data.length dc) := gr.cell (hc 3 _ rfl) (by simp)
        have d4 : wr.cell? ⟨b, off + j * 10 + 4, none⟩ = some (.int .i64 o.n) := gr.cell (hc 4 _ rfl) (by simp)
        have d5 : wr.cell? ⟨b, off + j * 10 + 5, none⟩ = some (.int .i64 o.plan.crash) := gr.cell (hc 5 _ rfl) (by simp)
        have d6 : wr.cell? ⟨b, off + j * 10 + 6, none⟩ = some (.slice e1 o.plan.keep.length f1) := gr.cell (hc 6 _ rfl) (by simp)
        have d7 : wr.cell? ⟨b, off + j * 10 + 7, none⟩ = some (.slice e2 o.plan.fail.length f2) := gr.cell (hc 7 _ rfl) (by simp)
        have d8 : wr.cell? ⟨b, off + j * 10 + 8, none⟩ = some (.slice e3 o.plan.full.length f3) := gr.cell (hc 8 _ rfl) (by simp)
        have d9 : wr.cell? ⟨b, off + j * 10 + 9, none⟩ = some (.int .i64 o.plan.room) := gr.cell (hc 9 _ rfl) (by simp)
        have hKn : Hid ((o.kind = 1 ∨ o.kind = 2 ∨ o.kind = 4 ∨ o.kind = 7) → ∀ k o, k < j + 1 → L[k]? = some o → o.kind = 1 ∨ o.kind = 2 ∨ o.kind = 4 ∨ o.kind = 7) := Lib.hid fun hk k o' hk2 ho' => by
          by_cases hkj : k = j
          · subst hkj
            rw [ho] at ho'
            cases ho'
            exact hk
          · exact hK.out k o' (by omega) ho'
        generalize o.data.length = n0 at *
        generalize o.plan.keep.length = q1 at *
        generalize o.plan.fail.length = q2 at *
        generalize o.plan.full.length = q3 at *
        generalize o.name = nm at *
        generalize o.dest = nt at *
        generalize o.kind = kd at *
        generalize o.n = nn at *
        generalize o.plan.crash = cr at *
        generalize o.plan.room = rm at *
        have gB2 := World.grownBy_alloc wr (.cells #[.int .i64 kd, .string nm, .string nt, .slice da n0 dc, .int .i64 nn, .int .i64 cr, .slice e1 q1 f1, .slice e2 q2 f2, .slice e3 q3 f3, .int .i64 rm] 34) none
        have hG2 := Lib.hid (hG.out.trans gB2)
        clear ho hc gB2 h4 ev eb gr
        by_cases hk1 : kd = 1
        · obtain rfl := hk1
          have hK2 := Lib.hid (hKn.out (.inl rfl))
          go_wp2_with fail
          exact ⟨⟨j + 1, by go_num, by omega, hG2, hK2⟩, by simp [RowKit.intOf]; omega⟩
        by_cases hk2 : kd = 2
        · obtain rfl := hk2
          have hK2 := Lib.hid (hKn.out (.inr (.inl rfl)))
          go_wp2_with fail
          exact ⟨⟨j + 1, by go_num, by omega, hG2, hK2⟩, by simp [RowKit.intOf]; omega⟩
        by_cases hk4 : kd = 4
        · obtain rfl := hk4
          have hK2 := Lib.hid (hKn.out (.inr (.inr (.inl rfl))))
          go_wp2_with fail
          exact ⟨⟨j + 1, by go_num, by omega, hG2, hK2⟩, by simp [RowKit.intOf]; omega⟩
        by_cases hk7 : kd = 7
        · obtain rfl := hk7
          have hK2 := Lib.hid (hKn.out (.inr (.inr (.inr rfl))))
          go_wp2_with fail
          exact ⟨⟨j + 1, by go_num, by omega, hG2, hK2⟩, by simp [RowKit.intOf]; omega⟩
        have t1 : (kd == 1) = false := by simpa using hk1
        have t2 : (kd == 2) = false := by simpa using hk2
        have t4 : (kd == 4) = false := by simpa using hk4
        have t7 : (kd == 7) = false := by simpa using hk7
        have u1 : (kd != 1) = true := by simpa using hk1
        have u2 : (kd != 2) = true := by simpa using hk2
        have u4 : (kd != 4) = true := by simpa using hk4
        have u7 : (kd != 7) = true := by simpa using hk7
        clear hk1 hk2 hk4 hk7
        go_wp2_with fail
        go_ret
        exact ⟨rfl, G2.out.trans hG2.out⟩
      · obtain rfl : j = ln := by omega
        have hkinds : ∀ o ∈ L, o.kind = 1 ∨ o.kind = 2 ∨ o.kind = 4 ∨ o.kind = 7 := fun o ho => by
          obtain ⟨k, hk⟩ := List.mem_iff_getElem?.1 ho
          exact hK.out k o (by rw [hln.out]; exact (List.getElem?_eq_some_iff.1 hk).1) hk
        have hGrow : Grows A := by rw [hA.out]; exact fold_growsOp L _ 0 (RInv.new p hpf.out) (Grows.new p) hfit.out hkinds
        replace hGrow := Lib.hid hGrow
        clear hkinds hK
        have hm3 := hma.out wr (G2.out.trans hG.out)
        have P3 := P2.out.kept hG.out (by simp)
        have x0 := P3.c0
        have x1 := P3.c1
        have x2 := P3.c2
        have x3 := P3.c3
        have x4 := P3.c4
        clear P3
        cases ad
        · have hgood := Lib.hid (hGrow.out.start hAI.out.1 had.out.symm qp)
          have hBI := Lib.hid (hAI.out.1.start qp hqf.out)
          go_upto_region 20 with first
            | (go_at_call 16
               refine hm3.mono ?_
               clear hm3
               rintro e w3 ⟨f, q, F3, R, rfl, M⟩
               have FA := M.alone
               rw [← hA.out] at FA
               have hdd := FA.fs.dead
               rw [← had.out] at hdd
               have hfs := FA.fs.files hAI.out.1 hL.out
               have FA3 := Lib.hid FA
               clear M FA x0 x1 x2 x3 x4)
            | (go_at_call 21
               refine hdd.mono ?_
               clear hdd
               rintro e w3' ⟨rfl, rfl⟩)
            | (go_at_call 22
               refine hfs.mono ?_
               clear hfs
               rintro e w5 ⟨v5, rows5, rfl, k5, e5, g5⟩
               obtain ⟨x5, y5, rfl⟩ := rowFormS k5.1
               have k5h := Lib.hid k5
               have e5h := Lib.hid e5
               have FA5 := Lib.hid (FA3.out.new g5)
               have hst := FA5.out.start hAI.out.1 hL.out (hq.out.new (G2.out.trans hG.out))
               have Q5 := (Q2.out.kept hG.out (by simp)).kept FA5.out.grown (by simp)
               have y0 := Q5.c0
               have y1 := Q5.c1
               have y2 := Q5.c2
               have y3 := Q5.c3
               have y4 := Q5.c4
               clear k5 e5 g5 Q5)
            | (go_at_call 25
               refine hst.mono ?_
               clear hst
               rintro e w6 ⟨rfl, FB, g6⟩
               have hfs2 := FB.fs.files hBI.out hL.out
               have FB6 := Lib.hid FB
               have k56 := Lib.hid (k5h.out.since g6 (fun k hk => (FA3.out.fl k hk).2))
               clear FB g6 y0 y1 y2 y3 y4)
            | (go_at_call 22
               refine hfs2.mono ?_
               clear hfs2
               rintro e w7 ⟨v7, rows7, rfl, k7, e7, g7⟩
               obtain ⟨x7, y7, rfl⟩ := rowFormS k7.1
               have k7h := Lib.hid k7
               have e7h := Lib.hid e7
               have k57 := Lib.hid (k56.out.new g7)
               have FB7 := Lib.hid (FB6.out.new g7)
               clear k7 e7 g7)
          have n5b : rows5.length ≤ 4096 := by
            have h1 := congrArg List.length e5h.out
            rw [List.length_map] at h1
            have := (files_len hAI.out.1).1
            omega
          have n7b : rows7.length ≤ 4096 := by
            have h1 := congrArg List.length e7h.out
            rw [List.length_map] at h1
            have := (files_len hBI.out).1
            omega
          obtain ⟨n5, hn5⟩ : ∃ n, n = rows5.length := ⟨_, rfl⟩
          obtain ⟨n7, hn7⟩ : ∃ n, n = rows7.length := ⟨_, rfl⟩
          rw [← hn5] at n5b ⊢
          rw [← hn7] at n7b ⊢
          replace hn5 := Lib.hid hn5
          replace hn7 := Lib.hid hn7
          go_loopw [14, 15, 17, 68] (fun _ _ _ vi wx => ∃ (i : Nat), vi = .int .i64 (i : Int) ∧ i ≤ n7 ∧ Hid (w7.grownBy wx none)) (fun _ _ _ vi _ => n7 - (RowKit.intOf vi).toNat)
          case atStart => exact ⟨0, rfl, Nat.zero_le _, Lib.hid (World.grownBy.refl _ _)⟩
          case round =>
            rename World => wx
            obtain ⟨i, rfl, hi, hGx⟩ := hrel
            by_cases hit : i < n7
            · have hitz : (i : Int) < (n7 : Int) := by omega
              obtain ⟨x, hx⟩ : ∃ x, rows7[i]? = some x := ⟨_, List.getElem?_eq_getElem (by rw [← hn7.out]; exact hit)⟩
              obtain ⟨g, yg, hg, hgn, hgr⟩ : ∃ (g : Nat) (yg : FRow), rows5[g]? = some yg ∧ yg.1 = x.1 ∧ ∃ r, yg.2.2 = x.2.2 ++ r := by
                have hm : (x.1, x.2.2) ∈ (A.start qp).files := by rw [← e7h.out]; exact List.mem_map.2 ⟨x, List.mem_of_getElem? hx, rfl⟩
                obtain ⟨y, hy, h1, h2⟩ := hgood.out _ hm
                rw [← e5h.out] at hy
                obtain ⟨yg, hyg, rfl⟩ := List.mem_map.1 hy
                obtain ⟨g, hg⟩ := List.mem_iff_getElem?.1 hyg
                exact ⟨g, yg, hg, h1, h2⟩
              have hgl : g < n5 := by rw [hn5.out]; exact (List.getElem?_eq_some_iff.1 hg).1
              obtain ⟨bx, xa, xc, exa, _, hbl, c0, hxv, c1⟩ := (k7h.out.new hGx.out).at hx
              subst exa
              have hxr : Hid (∀ W, wx.grownBy W none → Reads W (.slice xa x.2.2.length xc) x.2.2) := Lib.hid fun W gW => by
                rw [← hxv]
                exact (Owns.reads (World.ownsRow.mono ((k7h.out.new hGx.out).2 x (List.mem_of_getElem? hx)) (Nat.zero_le _))).more gW
              obtain ⟨xs, hxs⟩ : ∃ xs : ByteArray, xs = ⟨x.1.toArray⟩ := ⟨_, rfl⟩
              obtain ⟨X, hX⟩ : ∃ X, X = x.2.2 := ⟨_, rfl⟩
              rw [← hxs] at c0
              rw [← hX] at hxr c1 hgr
              obtain ⟨xl, hxl⟩ : ∃ xl, xl = X.length := ⟨_, rfl⟩
              rw [← hxl] at hxr c1
              have gX := World.grownBy_alloc wx (.cells #[.string xs, .slice xa xl xc] 53) none
              have eX := World.alloc_heap_new wx (.cells #[.string xs, .slice xa xl xc] 53)
              obtain ⟨wX, hwX⟩ : ∃ wX, wX = wx.alloc (.cells #[.string xs, .slice xa xl xc] 53) := ⟨_, rfl⟩
              rw [← hwX] at gX eX
              have bx0 := cell_of eX 0
              have bx1 := cell_of eX 1
              replace hxs := Lib.hid hxs
              replace hX := Lib.hid hX
              replace hxl := Lib.hid hxl
              replace hg := Lib.hid hg
              replace hgn := Lib.hid hgn
              replace hgr := Lib.hid hgr
              replace gX := Lib.hid gX
              clear eX hx hxv hbl
              go_wp2_with fail
              rw [← hwX]
              replace hwX := Lib.hid hwX
              go_loopw [15, 17, 74] (fun vf _ vj wy => ∃ (j : Nat) (fb : Bool), vf = .bool fb ∧ vj = .int .i64 (j : Int) ∧ j ≤ n5 ∧ Hid (wX.grownBy wy none) ∧ Hid (g < j → fb = true)) (fun _ _ vj _ => n5 - (RowKit.intOf vj).toNat)
              case atStart => exact ⟨0, false, rfl, rfl, Nat.zero_le _, Lib.hid (World.grownBy.refl _ _), Lib.hid (fun h => by omega)⟩
              case round =>
                rename World => wy
                obtain ⟨j2, fb, rfl, rfl, hj2, hGy, hfb⟩ := hrel
                by_cases hjt : j2 < n5
                · have hjtz : (j2 : Int) < (n5 : Int) := by omega
                  obtain ⟨y, hy⟩ : ∃ y, rows5[j2]? = some y := ⟨_, List.getElem?_eq_getElem (by rw [← hn5.out]; exact hjt)⟩
                  have gxy := (hGx.out.trans gX.out).trans hGy.out
                  obtain ⟨yb, ya, yc, eya, _, hybl, q0, hyv, q1⟩ := (k57.out.new gxy).at hy
                  subst eya
                  have hyr0 : Hid (∀ W, w7.grownBy W none → Reads W (.slice ya y.2.2.length yc) y.2.2) := Lib.hid fun W gW => by
                    rw [← hyv]
                    exact Owns.reads (World.ownsRow.mono ((k57.out.new gW).2 y (List.mem_of_getElem? hy)) (Nat.zero_le _))
                  obtain ⟨ys, hys⟩ : ∃ ys : ByteArray, ys = ⟨y.1.toArray⟩ := ⟨_, rfl⟩
                  obtain ⟨Y, hY⟩ : ∃ Y, Y = y.2.2 := ⟨_, rfl⟩
                  have HG : Hid (g = j2 → xs = ys ∧ ∃ r, Y = X ++ r) := Lib.hid fun e => by
                    subst e
                    have e2 := hg.out
                    rw [hy] at e2
                    cases e2
                    refine ⟨by rw [hxs.out, hys, hgn.out], ?_⟩
                    rw [hY]
                    exact hgr.out
                  rw [← hys] at q0
                  rw [← hY] at q1 hyr0
                  obtain ⟨yl, hyl⟩ : ∃ yl, yl = Y.length := ⟨_, rfl⟩
                  rw [← hyl] at q1 hyr0
                  have gY := World.grownBy_alloc wy (.cells #[.string ys, .slice ya yl yc] 53) none
                  have eY := World.alloc_heap_new wy (.cells #[.string ys, .slice ya yl yc] 53)
                  obtain ⟨wY, hwY⟩ : ∃ wY, wY = wy.alloc (.cells #[.string ys, .slice ya yl yc] 53) := ⟨_, rfl⟩
                  rw [← hwY] at gY eY
                  have by0 : wY.cell? ⟨wy.heap.size, 0, none⟩ = some (.string ys) := cell_of eY 0
                  have by1 : wY.cell? ⟨wy.heap.size, 1, none⟩ = some (.slice ya yl yc) := cell_of eY 1
                  have bz0 : wY.cell? ⟨wx.heap.size, 0, none⟩ = some (.string xs) := gY.cell (hGy.out.cell bx0 (by simp)) (by simp)
                  have bz1 : wY.cell? ⟨wx.heap.size, 1, none⟩ = some (.slice xa xl xc) := gY.cell (hGy.out.cell bx1 (by simp)) (by simp)
                  have gyF : ∀ m, Hid (wX.grownBy (wY.drewN m) none) := fun m => Lib.hid (gdrewN (hGy.out.trans gY) m)
                  have cvx := fun m => convB_of (hxr.out (wY.drewN m) (gX.out.trans (gyF m).out))
                  have hyR := Lib.hid (fun m => hyr0.out (wY.drewN m) ((hGx.out.trans gX.out).trans (gyF m).out))
                  obtain ⟨XS, hXS⟩ : ∃ XS : ByteArray, XS = ⟨X.toArray⟩ := ⟨_, rfl⟩
                  rw [← hXS] at cvx
                  replace hys := Lib.hid hys
                  replace hY := Lib.hid hY
                  replace hyl := Lib.hid hyl
                  replace hXS := Lib.hid hXS
                  clear hy hyv hyr0 gxy gY eY hybl
                  cases fb
                  · cases hb1 : (xs.toList == ys.toList) with
                    | false =>
                      have hng : g < j2 + 1 → false = true := fun h => by
                        by_cases hgj : g < j2
                        · exact hfb.out hgj
                        · have e := (HG.out (by omega)).1
                          rw [e] at hb1
                          simp at hb1
                      replace hng := Lib.hid hng
                      clear HG hfb hyR cvx
                      go_wp2_with fail
                      rw [← hwY]
                      replace hwY := Lib.hid hwY
                      go_quiet (fail)
                      go_wp2_with fail
                      go_roundw
                      case rel => exact ⟨j2 + 1, false, rfl, by go_num, by omega, gyF _, hng⟩
                      case measure => simp [RowKit.intOf]; omega
                    | true =>
                      by_cases hle : xl ≤ yl
                      · rcases hyR.out 0 with ⟨eny, enil⟩ | ⟨yb2, yo, ycap, eny, hcap, hcm, _⟩
                        · simp at eny
                          obtain ⟨rfl, rfl, rfl⟩ := eny
                          obtain rfl : xl = 0 := by omega
                          have hXn : X = [] := List.length_eq_zero_iff.1 hxl.out.symm
                          have hXS2 : XS = ⟨#[]⟩ := by rw [hXS.out, hXn]
                          subst hXS2
                          have cvy : ∀ m, (convert 32 9 (.slice none 0 0)).run Tryz.prog (wY.drewN m) = .ok (.string ⟨#[]⟩) (wY.drewN m) := fun m => convB_of (.inl ⟨rfl, rfl⟩)
                          have hb3 : ((⟨#[]⟩ : ByteArray).toList == (⟨#[]⟩ : ByteArray).toList) = true := by simp
                          clear HG hfb hyR hle hXn enil
                          go_wp2_with fail
                          rw [← hwY]
                          replace hwY := Lib.hid hwY
                          go_quiet (fail)
                          go_wp2_with fail
                          go_roundw
                          case rel => exact ⟨j2 + 1, true, rfl, by go_num, by omega, gyF _, Lib.hid (fun _ => rfl)⟩
                          case measure => simp [RowKit.intOf]; omega
                        · simp at eny
                          obtain ⟨rfl, ely, rfl⟩ := eny
                          rw [← ely] at hcap
                          unfold maxLen at hcm
                          obtain ⟨YS, hYS⟩ : ∃ YS : ByteArray, YS = ⟨(Y.take xl).toArray⟩ := ⟨_, rfl⟩
                          have cvy : ∀ m, (convert 32 9 (.slice (some ⟨yb2, yo, none⟩) xl yc)).run Tryz.prog (wY.drewN m) = .ok (.string YS) (wY.drewN m) := fun m => by
                            have h1 := (hyR.out m).cut 0 xl (by rw [← ely]; omega)
                            simp only [Option.map_some, List.drop_zero, Nat.sub_zero] at h1
                            rw [show (⟨yb2, yo, none⟩ : Addr).add 0 = ⟨yb2, yo, none⟩ from by simp [Addr.add]] at h1
                            rw [hYS]
                            exact convB_of h1
                          have hle2 : xl ≤ yc := Nat.le_trans hle hcap
                          replace ely := Lib.hid ely
                          replace hYS := Lib.hid hYS
                          cases hb3 : (YS.toList == XS.toList) with
                          | true =>
                            clear HG hfb hyR
                            go_wp2_with fail
                            rw [← hwY]
                            replace hwY := Lib.hid hwY
                            go_quiet (fail)
                            go_wp2_with fail
                            go_roundw
                            case rel => exact ⟨j2 + 1, true, rfl, by go_num, by omega, gyF _, Lib.hid (fun _ => rfl)⟩
                            case measure => simp [RowKit.intOf]; omega
                          | false =>
                            have hng : g < j2 + 1 → false = true := fun h => by
                              by_cases hgj : g < j2
                              · exact hfb.out hgj
                              · obtain ⟨_, r, hr⟩ := HG.out (by omega)
                                have e : YS = XS := by rw [hYS.out, hXS.out, hr, hxl.out, List.take_left']; rfl
                                rw [e] at hb3
                                simp at hb3
                            replace hng := Lib.hid hng
                            clear HG hfb hyR
                            go_wp2_with fail
                            rw [← hwY]
                            replace hwY := Lib.hid hwY
                            go_quiet (fail)
                            go_wp2_with fail
                            go_roundw
                            case rel => exact ⟨j2 + 1, false, rfl, by go_num, by omega, gyF _, hng⟩
                            case measure => simp [RowKit.intOf]; omega
                      · have hng : g < j2 + 1 → false = true := fun h => by
                          by_cases hgj : g < j2
                          · exact hfb.out hgj
                          · obtain ⟨_, r, hr⟩ := HG.out (by omega)
                            have := congrArg List.length hr
                            rw [List.length_append, ← hxl.out, ← hyl.out] at this
                            omega
                        replace hng := Lib.hid hng
                        clear HG hfb hyR cvx
                        go_wp2_with fail
                        rw [← hwY]
                        replace hwY := Lib.hid hwY
                        go_quiet (fail)
                        go_wp2_with fail
                        go_roundw
                        case rel => exact ⟨j2 + 1, false, rfl, by go_num, by omega, gyF _, hng⟩
                        case measure => simp [RowKit.intOf]; omega
                  · clear HG hfb hyR cvx
                    go_wp2_with fail
                    rw [← hwY]
                    replace hwY := Lib.hid hwY
                    go_quiet (fail)
                    go_wp2_with fail
                    go_roundw
                    case rel => exact ⟨j2 + 1, true, rfl, by go_num, by omega, gyF _, Lib.hid (fun _ => rfl)⟩
                    case measure => simp [RowKit.intOf]; omega
                · obtain rfl : j2 = n5 := by omega
                  have hft := hfb.out hgl
                  subst hft
                  have hGz := Lib.hid ((hGx.out.trans gX.out).trans hGy.out)
                  go_wp2_with fail
                  exact ⟨⟨i + 1, by go_num, by omega, hGz⟩, by simp [RowKit.intOf]; omega⟩
            · obtain rfl : i = n7 := by omega
              have FFn := Lib.hid (((G2.out.trans hG.out).trans FB7.out.grown).trans hGx.out)
              go_wp2
              go_ret
              exact ⟨rfl, FFn.out⟩
        · go_wp2_with first
            | (go_at_call 16
               refine hm3.mono ?_
               clear hm3
               rintro e w3 ⟨f, q, F3, R, rfl, M⟩
               have FA := M.alone
               rw [← hA.out] at FA
               have hdd := FA.fs.dead
               rw [← had.out] at hdd
               have FA3 := Lib.hid FA.grown
               clear M FA x0 x1 x2 x3 x4)
            | (go_at_call 21
               refine hdd.mono ?_
               clear hdd
               rintro e w3' ⟨rfl, rfl⟩)
          go_ret
          exact ⟨rfl, (G2.out.trans hG.out).trans FA3.out⟩
theorem FsPrefix_walk (w : World) (pv : Value) (p : Pl) (hp : PlanR w pv p) (v : Value) (L : List OpP) (h : OpsR w v L) (qv : Value) (qp : Pl) (hq : PlanR w qv qp) :
    Calls Tryz.prog 6 #[pv, v, qv] w fun e w' => e = .returned (.bool true) ∧ Below w.heap.size w w' := by
  refine (FsPrefix_go w pv v qv p qp L hp h hq).mono ?_
  rintro e w' ⟨rfl, g⟩
  exact ⟨rfl, gbelow g (Nat.le_refl _) (by simp)⟩
end Go.Proofs.YtnlabhomfiodpaaGreat
