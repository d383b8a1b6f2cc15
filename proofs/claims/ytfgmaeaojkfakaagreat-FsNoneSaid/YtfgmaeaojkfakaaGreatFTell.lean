/-
  LAYER 1 (fs): a directory's files, told as a list.
-/
import Derived.Test.YtfgmaeaojkfakaaGreatFInOrd
import Derived.Test.YtfgmaeaojkfakaaGreatFSize
import Derived.Test.YtfgmaeaojkfakaaGreatFHeld
import Derived.Maps.AppendAt
namespace Go.Proofs.YtfgmaeaojkfakaaGreat
set_option maxRecDepth 100000
open Go.RowKit Go.Lib
open Go.Proofs (encStr)
attribute [local go_sem] Oper.semAt_some

/-- Files as they are told: a name, the value of its data, the data. -/
abbrev FRow := List UInt8 × Value × List UInt8
def fileCells (rows : List FRow) : List Value := rows.flatMap (fun r => [encStr r.1, r.2.1])
def FilesAt (w : World) (B : Nat) (v : Value) (rows : List FRow) : Prop := w.ownsRow B 53 2 v rows.length (fileCells rows) ∧ ∀ r ∈ rows, Owns w B 5 r.2.1 r.2.2

/-- What of a file a function value tells. -/
structure Sel (g : Nat) (sv : FileV → Value) (sb : FileV → List UInt8) : Prop where
  enter : ∀ args W, (callFunc g args).run Tryz.prog W = .ok (.enter g args) W
  call : ∀ b f W, FileAt W b f → Calls Tryz.prog g #[.pointer (some ⟨b, 0, none⟩)] W fun e W' => e = .returned (sv f) ∧ W' = W
  reads : ∀ b f W, FileAt W b f → Owns W 0 5 (sv f) (sb f)

theorem selData : Sel 56 FileV.dv FileV.data where
  enter := fun args W => by kernel_rfl
  call := fun b f W h => by
    have c1 := h.c1
    go_enter Tryz.func56, Tryz.ntmps56
    go_wp2
    go_ret
    exact ⟨rfl, rfl⟩
  reads := fun b f W h => h.2.2.1
theorem selSafe : Sel 64 FileV.sv FileV.safe where
  enter := fun args W => by kernel_rfl
  call := fun b f W h => by
    have c1 := h.c0
    go_enter Tryz.func64, Tryz.ntmps64
    go_wp2
    go_ret
    exact ⟨rfl, rfl⟩
  reads := fun b f W h => h.2.1

theorem infoFile : (Tryz.prog.info? 53).map (fun i => (i.zero, i.size, i.bytes)) = some (some (.agg #[.string ⟨#[]⟩, .slice none 0 0]), 2, 40) := by kernel_rfl
theorem info_partsFl : ∃ i0 : TypeInfo, Tryz.prog.info? 53 = some i0 ∧ i0.zero = some (.agg #[.string ⟨#[]⟩, .slice none 0 0]) ∧ i0.size = 2 ∧ i0.bytes = 40 := by
  have h := infoFile
  cases hi : Tryz.prog.info? 53 with
  | none => rw [hi] at h; cases h
  | some i =>
    rw [hi] at h
    simp only [Option.map_some, Option.some.injEq, Prod.mk.injEq] at h
    exact ⟨i, rfl, h.1, h.2.1, h.2.2⟩

/-- Between two files: the list so far, in memory of the call's own. -/
def TellI (w0 : World) (n0 ob fb : Nat) (fnv : Value) (sb : FileV → List UInt8) (F : Nat → FileV) (Foot : Nat → Prop) (pre : List (List UInt8 × Nat)) (W : World) : Prop :=
  w0.grownBy W none ∧ n0 ≤ W.heap.size ∧ Boxed W fb 103 fnv ∧ Foot fb ∧ Foot ob ∧ ∃ v rows, Boxed W ob 50 v ∧ FilesAt W w0.heap.size v rows ∧
    rows.map (fun r => (r.1, r.2.2)) = pre.map (fun x => (x.1, sb (F x.2))) ∧ (∀ k, v.ownBlock = some k → Foot k) ∧ ∀ r ∈ rows, ∀ k, r.2.1.ownBlock = some k → Foot k
theorem FilesAt.kept {A B : World} {b : Nat} {v : Value} {rows : List FRow} {q : Option Nat} (h : FilesAt A b v rows) (g : A.grownBy B q) (hv : ∀ k, q = some k → v.ownBlock ≠ some k ∧ ∀ r ∈ rows, r.2.1.ownBlock ≠ some k) : FilesAt B b v rows := by
  have alt : ∀ (v : Value), (∀ k, q = some k → v.ownBlock ≠ some k) → v.ownBlock = none ∨ v.ownBlock ≠ q := fun v h => by
    cases e : v.ownBlock with
    | none => exact .inl rfl
    | some k => exact .inr (fun e2 => h k e2.symm e)
  exact ⟨World.ownsRow.kept h.1 g (alt _ (fun k e => (hv k e).1)), fun r hr => Owns.kept (h.2 r hr) g (alt _ (fun k e => (hv k e).2 r hr))⟩
theorem TellI.keep {w0 : World} {n0 ob fb : Nat} {fnv : Value} {sb : FileV → List UInt8} {F : Nat → FileV} (h0 : w0.heap.size ≤ n0) : ∀ Foot s A B q, TellI w0 n0 ob fb fnv sb F Foot s A → A.grownBy B q → (∀ k, q = some k → n0 ≤ k ∧ ¬ Foot k) → TellI w0 n0 ob fb fnv sb F Foot s B := by
  rintro Foot s A B q ⟨h1, h2, h3, h4, h5, v, rows, h6, h7, h8, h9, h10⟩ g hq
  have ne : ∀ k, Foot k → some k ≠ q := fun k hk e => (hq k e.symm).2 hk
  exact ⟨gnew h1 g (fun k e => .inl (Nat.le_trans h0 (hq k e).1)), Nat.le_trans h2 g.size, h3.kept g (ne _ h4), h4, h5, v, rows, h6.kept g (ne _ h5), h7.kept g (fun k e => ⟨fun e2 => (hq k e).2 (h9 k e2), fun r hr e2 => (hq k e).2 (h10 r hr k e2)⟩), h8, h9, h10⟩
theorem fileCells_append (rows : List FRow) (r : FRow) : fileCells (rows ++ [r]) = fileCells rows ++ [encStr r.1, r.2.1] := by simp [fileCells]

theorem own_box {W : World} {B e s n p : Nat} {t : TypeId} {v x : Value} {xs : List Value} (h : W.ownsRow B e s v n xs) (hb : Boxed W p t x) (hne : e ≠ t) : v.ownBlock ≠ some p := by
  obtain ⟨_, ⟨rfl, _⟩ | ⟨g, cap, cur, rfl, _, hg, _⟩⟩ := h
  · simp [Value.ownBlock]
  · intro e2
    simp only [Value.ownBlock, Option.some.injEq] at e2
    subst e2
    rw [show W.heap[g]? = _ from hb] at hg
    simp only [Option.some.injEq, Obj.cells.injEq] at hg
    exact hne hg.2.1.symm
theorem own_own {W : World} {B B' s s' n n' : Nat} {e e' : TypeId} {v v' : Value} {xs xs' : List Value} (h : W.ownsRow B e s v n xs) (h' : W.ownsRow B' e' s' v' n' xs') (hne : e ≠ e') : ∀ k, v.ownBlock = some k → v'.ownBlock ≠ some k := by
  intro k hk
  obtain ⟨_, ⟨rfl, _⟩ | ⟨g, cap, cur, rfl, _, hg, _⟩⟩ := h
  · simp [Value.ownBlock] at hk
  · simp only [Value.ownBlock, Option.some.injEq] at hk
    subst hk
    obtain ⟨_, ⟨rfl, _⟩ | ⟨g', cap', cur', rfl, _, hg', _⟩⟩ := h'
    · simp [Value.ownBlock]
    · intro e2
      simp only [Value.ownBlock, Option.some.injEq] at e2
      subst e2
      rw [hg] at hg'
      simp only [Option.some.injEq, Obj.cells.injEq] at hg'
      exact hne hg'.2.1

set_option maxHeartbeats 8000000 in
theorem tell_any (g : Nat) (sv : FileV → Value) (sb : FileV → List UInt8) (G : Sel g sv sb) (d : Nat) (l : DirL) (F : Nat → FileV) (w : World) (hd : DirM w d l) (hf : ∀ x b, l.look x = some b → FileAt w b (F b) ∧ (sb (F b)).length ≤ 140737488355328) (hlim : l.length ≤ 3518437208881) :
    Calls Tryz.prog 55 #[.map (some d), .func (.func g) #[] #[]] w fun e w' => ∃ v rows, e = .returned v ∧ FilesAt w' w.heap.size v rows ∧ rows.map (fun r => (r.1, r.2.2)) = l.sorted.map (fun x => (x.1, sb (F x.2))) ∧ w.grownBy w' none := by
  have hent := G.enter
  have hlen := fun W (g : w.grownBy W none) ty => (hd.kept g (by simp)).len ty
  have hio := fun W => inOrder_any d W
  obtain ⟨i0, hi, hz0, hz1, hz2⟩ := info_partsFl
  refine (callsIn_wide (n := 20)).1 ?_
  have hf1 : Fence.wide.fn 82 := trivial
  refine callsIn_of_wp_marks Tryz.func55 rfl trivial ?_ rfl
  simp only [Tryz.ntmps55, List.size_toArray, List.length_cons, List.length_nil, Nat.reduceAdd, Nat.reduceSub, Array.replicate_succ, Array.replicate_zero, List.push_toArray, List.append_toArray, List.nil_append, List.cons_append]
  have hlen1 := hlen _ (World.grownBy_alloc w (.cells #[.func (.func g) #[] #[]] 103) none)
  have gA0 := World.grownBy_alloc w (.cells #[.func (.func g) #[] #[]] 103) none
  have eA0 := World.alloc_heap_new w (.cells #[.func (.func g) #[] #[]] 103)
  obtain ⟨A0, hA0⟩ : ∃ A0, A0 = w.alloc (.cells #[.func (.func g) #[] #[]] 103) := ⟨_, rfl⟩
  have sA0 : A0.heap.size = w.heap.size + 1 := by rw [hA0]; simp
  rw [← hA0] at hlen1 gA0 eA0
  gi_wp2_with fail
  rw [← hA0]
  clear hA0
  rw [hlen1]
  simp only [Result.andThen_ok, Oper.uponIn_value, Act.put, List.setIfInBounds_toArray, List.set_cons_zero, List.set_cons_succ]
  gi_wp2_with (gi_at_make; refine wpListIn_make_own _ rfl _ _ 50 rfl w.heap.size 53 i0 (.agg #[.string ⟨#[]⟩, .slice none 0 0]) 2 Tryz.underlying50 hi hz0 hz1 .i64 .i64 _ l.length rfl rfl rfl (by rw [hz2]; omega) (by unfold maxLen; omega) (by omega) ?_; intro w1 hown1 hg1)
  have hlim8 := hlim
  refine (callsIn_wide.2 (hio _)).mono ?_
  clear hio
  rintro e W2 ⟨p, rfl, hp, g2, hpb⟩
  have gB := World.grownBy_alloc w1 (.cells #[.slice (some ⟨w.heap.size + 1, 0, none⟩) 0 l.length] 50) none
  have eB := World.alloc_heap_new w1 (.cells #[.slice (some ⟨w.heap.size + 1, 0, none⟩) 0 l.length] 50)
  rw [sA0] at hown1
  have s1 := hg1.size
  have gw1 : w.grownBy w1 none := gA0.trans hg1
  have gw2 : w.grownBy W2 none := (gw1.trans gB).trans g2
  have s2 : w1.heap.size + 1 ≤ W2.heap.size := by have := g2.size; simpa using this
  have hbox : Boxed W2 w1.heap.size 50 (.slice (some ⟨w.heap.size + 1, 0, none⟩) 0 l.length) := (g2.block _ (by simp) (by simp)).trans eB
  have hfn2 : Boxed W2 w.heap.size 103 (.func (.func g) #[] #[]) := (((hg1.trans gB).trans g2).block _ (by omega) (by simp)).trans eA0
  have hrow2 : FilesAt W2 w.heap.size (.slice (some ⟨w.heap.size + 1, 0, none⟩) 0 l.length) [] := ⟨World.ownsRow.kept hown1 (gB.trans g2) (.inr (by simp [Value.ownBlock])), by simp⟩
  have hd2 := hd.kept gw2 (by simp)
  have hpb' : w1.heap.size + 1 ≤ p := by simpa using hpb
  have hpl : p < W2.heap.size := lt_of_block hp
  have hdl : d < w.heap.size := hd.lt
  clear hown1 eB eA0 hlen1
  gi_wp2_with fail
  refine range_tellsZ1 (a := _) (w := W2) (α := List UInt8 × Nat) rfl (by omega) (gf := 99) (lb := #[.pointer (some ⟨p, 0, none⟩)]) rfl trivial (enters_of Tryz.func99 (by kernel_rfl) rfl)
    (inOrder1_tells _ p d l W2 (by omega) hp hd2 (by omega)) (fun k hk => by rcases hk with rfl | rfl <;> omega) (fun _ => rfl) (fun _ _ _ _ _ _ h _ _ _ => h)
    (Ft (TellI w W2.heap.size w1.heap.size w.heap.size (.func (.func g) #[] #[]) sb F)) (fun _ _ _ _ => False) (fun Z s A h => by obtain ⟨_, ⟨_, h, _⟩, _⟩ := h; exact h)
    (Ft.tame (TellI.keep gw2.size)) (fun c => ⟨fun _ _ _ _ _ h => h.elim, fun _ _ _ _ _ h => h.elim⟩)
    ⟨fun k => k = w.heap.size ∨ k = w.heap.size + 1 ∨ k = w1.heap.size, ⟨gw2, Nat.le_refl _, hfn2, .inl rfl, .inr (.inr rfl), _, [], hbox, hrow2, rfl, fun k e => by simp [Value.ownBlock] at e; exact .inr (.inl e.symm), by simp⟩, fun k hk => ⟨fun hz => by rcases hz with rfl | rfl <;> rcases hk with h | h | h <;> omega, by rcases hk with h | h | h <;> omega⟩⟩
    ?a1 (fun _ _ _ _ h _ => h) ?assign ?body ?done ?stop
  case assign =>
    intro ll x W K hK
    dsimp only [dEnc]
    gi_wp2
    exact hK
  case body =>
    rintro ll Z pre x W hZ0 hZl ⟨Foot, ⟨h1, h2, h3, h4, h5, v, rows, h6, h7, h8, h9, h10⟩, hFt⟩ ⟨hpre, hx⟩ hsz
    obtain ⟨nm, b⟩ := x
    have hpl2 : pre.length < l.length := by have := (List.getElem?_eq_some_iff.1 hx).1; rw [DirL.sorted_length] at this; exact this
    obtain ⟨nm', b', hx', _, hlk, hin⟩ := DirL.sorted_at l pre.length hpl2
    rw [hx] at hx'
    cases hx'
    obtain ⟨hfa, hfl⟩ := hf nm b hlk
    have hrl : rows.length = pre.length := by have := congrArg List.length h8; simpa using this
    obtain ⟨V, hV⟩ : ∃ V, V = W.drew := ⟨_, rfl⟩
    have gV : W.grownBy V none := by rw [hV]; exact gdrew (World.grownBy.refl W none)
    have hFV : FileAt V b (F b) := hfa.kept (GP.of (P := fun _ => False) (h1.trans gV) (by simp)) (fun h => h) (fun _ _ h => h)
    have hSV : V.cell? ⟨w.heap.size, 0, none⟩ = some (.func (.func g) #[] #[]) := (h3.kept gV (by simp)).cell
    have rV : V.cell? ⟨w1.heap.size, 0, none⟩ = some v := (h6.kept gV (by simp)).cell
    have hown := G.reads b (F b) V hFV
    obtain ⟨a3, c3, hsv⟩ : ∃ a c, sv (F b) = .slice a (sb (F b)).length c := rowFormS hown
    have hcp := fcopied_any a3 (sb (F b)).length c3 (sb (F b)) V (by rw [← hsv]; exact hown.reads) hfl
    have hsv2 := Lib.hid hsv
    have hcp2 := hcp
    have hcl := fun W h => G.call b (F b) W h
    rw [hsv] at hcl
    clear hsv
    have hApp : ∀ w5 a5 n5 c5, Owns w5 V.heap.size 5 (.slice a5 n5 c5) (sb (F b)) → V.grownBy w5 none → ∃ w8 a8 n8 c8, (Builtin.append_ #[50, 50] 50 #[v, .slice (some ⟨w5.heap.size, 0, none⟩) 1 1]).run Tryz.prog (w5.alloc (.cells #[encStr nm, .slice a5 n5 c5] 53)) = .ok (.slice a8 n8 c8) w8 ∧ w8.cell? ⟨w1.heap.size, 0, none⟩ = some v ∧
        w8.cell? ⟨w.heap.size, 0, none⟩ = some (.func (.func g) #[] #[]) ∧ w8.frozen? ⟨w1.heap.size, 0, none⟩ = false ∧ (w8.setCell ⟨w1.heap.size, 0, none⟩ (.slice a8 n8 c8)).cell? ⟨w.heap.size, 0, none⟩ = some (.func (.func g) #[] #[]) ∧
        (ZK Z W (w8.setCell ⟨w1.heap.size, 0, none⟩ (.slice a8 n8 c8)) ∧ Ft (TellI w W2.heap.size w1.heap.size w.heap.size (.func (.func g) #[] #[]) sb F) Z (pre ++ [(nm, b)]) (w8.setCell ⟨w1.heap.size, 0, none⟩ (.slice a8 n8 c8))) := by
      intro w5 a5 n5 c5 o5 g5
      have g7 := World.grownBy_alloc w5 (.cells #[encStr nm, .slice a5 n5 c5] 53) none
      have e7 := World.alloc_heap_new w5 (.cells #[encStr nm, .slice a5 n5 c5] 53)
      obtain ⟨X, hX⟩ : ∃ X, X = w5.alloc (.cells #[encStr nm, .slice a5 n5 c5] 53) := ⟨_, rfl⟩
      rw [← hX] at g7 e7 ⊢
      have sX : X.heap.size = w5.heap.size + 1 := by rw [hX]; simp
      clear hX
      have gX : W.grownBy X none := (gV.trans g5).trans g7
      have hrX := h7.kept gX (by simp)
      obtain ⟨v8, w8, hrun, o8, g8, _, hlies⟩ := run_append_own_at (P := Tryz.prog) X w.heap.size 50 50 53 i0 (.agg #[.string ⟨#[]⟩, .slice none 0 0]) 2 40 Tryz.underlying50 hi hz0 hz1 hz2 rfl (by decide) v rows.length (fileCells rows)
        hrX.1 ⟨w5.heap.size, 0, none⟩ 1 1 [encStr nm, .slice a5 n5 c5] rfl (fun j u hj => by
          have eX : ∀ i, X.cell? ⟨w5.heap.size, i, none⟩ = #[encStr nm, .slice a5 n5 c5][i]? := fun i => by simp [World.cell?, e7]
          match j, hj with
          | 0, hj => simp at hj; subst hj; exact eX 0
          | 1, hj => simp at hj; subst hj; exact eX 1) (fun u hu => by simp at hu; rcases hu with rfl | rfl <;> rfl) (by unfold maxLen; omega) (by omega) (by have := h1.size; have := gX.size; omega)
      obtain ⟨a8, c8, rfl⟩ := rowFormS o8
      have hvb := World.ownsRow.lt h7.1
      have nob : v.ownBlock ≠ some w1.heap.size := own_box h7.1 h6 (by decide)
      have nfb : v.ownBlock ≠ some w.heap.size := own_box h7.1 h3 (by decide)
      have g8o := (h6.kept gX (by simp)).kept g8 (fun e => nob e.symm)
      have g8f := (h3.kept gX (by simp)).kept g8 (fun e => nfb e.symm)
      have gs := gset (World.grownBy.refl w8 (some w1.heap.size)) 0 (.slice a8 (rows.length + 1) c8)
      have nob8 : (Value.slice a8 (rows.length + 1) c8).ownBlock ≠ some w1.heap.size := own_box o8 g8o (by decide)
      have hob : w.heap.size ≤ w1.heap.size := gw1.size
      have hrows8 : FilesAt w8 w.heap.size (.slice a8 (rows.length + 1) c8) (rows ++ [(nm, .slice a5 n5 c5, sb (F b))]) := by
        constructor
        · rw [fileCells_append, List.length_append]
          exact o8
        · intro r hr
          rcases List.mem_append.1 hr with hr | hr
          · exact Owns.kept (hrX.2 r hr) g8 (by
              cases e : r.2.1.ownBlock with
              | none => exact .inl rfl
              | some k => exact .inr (fun e2 => own_own hrX.1 (hrX.2 r hr) (by decide) k e2.symm e))
          · simp at hr
            subst hr
            refine Owns.kept ((Owns.kept o5 g7 (by cases (Value.slice a5 n5 c5).ownBlock <;> simp)).mono (B' := w.heap.size) (by have := h1.size; have := gV.size; omega)) g8 ?_
            dsimp only
            cases e : (Value.slice a5 n5 c5).ownBlock with
            | none => exact .inl rfl
            | some k => exact .inr (fun e2 => own_own hrX.1 (Owns.kept o5 g7 (by cases (Value.slice a5 n5 c5).ownBlock <;> simp)) (by decide) k e2.symm e)
      have hrowsZ := hrows8.kept gs (fun k e => by
        cases e
        refine ⟨nob8, fun r hr e2 => own_box (hrows8.2 r hr) g8o (by decide) e2⟩)
      have sz8 := g8.size
      have szs := gs.size
      refine ⟨w8, a8, _, c8, hrun, g8o.cell, g8f.cell, g8o.frozen, (g8f.kept gs (by simp; omega)).cell, ?_, ?_⟩
      · exact (ZK.of gX (by simp)).trans ((ZK.of g8 (fun k e hz => (hFt k (h9 k e)).1 hz)).trans (ZK.of gs (fun k e hz => by cases e; exact (hFt _ h5).1 hz)))
      · refine ⟨fun k => Foot k ∨ W.heap.size ≤ k ∧ k < (w8.setCell ⟨w1.heap.size, 0, none⟩ (.slice a8 (rows.length + 1) c8)).heap.size, ⟨?_, Nat.le_trans h2 (Nat.le_trans gX.size (Nat.le_trans sz8 szs)), g8f.kept gs (by simp; omega), .inl h4, .inl h5, _, _, g8o.set _, hrowsZ, ?_, fun k e => ?_, fun r hr k e => ?_⟩, fun k hk => ?_⟩
        · exact gnew (gnew (h1.trans gX) g8 (fun k e => .inl (hvb k e).1)) gs (fun k e => by cases e; exact .inl hob)
        · rw [List.map_append, List.map_append, h8]
          rfl
        · rcases hlies with e2 | e2
          · exact .inl (h9 k (by rw [← e2]; exact e))
          · right
            have := (World.ownsRow.lt hrowsZ.1 k e).2
            rw [e] at e2
            cases e2
            have := gX.size
            omega
        · rcases List.mem_append.1 hr with hr' | hr'
          · exact .inl (h10 r hr' k e)
          · right
            have q1 := (Owns.lt (hrowsZ.2 r hr) k e).2
            simp at hr'
            subst hr'
            have q2 := (Owns.lt o5 k e).1
            have := gV.size
            omega
        · rcases hk with hk | hk
          · exact ⟨(hFt k hk).1, by have := (hFt k hk).2; have := gX.size; omega⟩
          · exact ⟨fun hz => by have := hZl k hz; omega, hk.2⟩
    clear hcp2
    gi_wp2_with fail
    apply wpIn_noPanic
    refine wpIn_region_held (S := fun V' => V'.cell? ⟨w.heap.size, 0, none⟩ = some (.func (.func g) #[] #[])) (by kernel_rfl) (by rw [← hV]; exact hSV) (fun hS0 => ?_)
    rw [← hV]
    clear hS0 hV
    refine wpAnyHIn_take (i := 1) (oi := ⟨some 16, _, _, _, _, _⟩) (v := ?_) rfl (by kernel_rfl) (by kernel_rfl) (by kernel_rfl) (by kernel_rfl) (fun _ _ _ h => h) (fun _ => rfl) (Or.inl ⟨by rfl, ?_⟩) (by assumption) ?_
    rotate_left
    · (intro w hSw; (try dsimp only at hSw); go_simp; try with_reducible rfl)
    try simp only [Act.put, List.setIfInBounds_toArray, List.set_cons_zero, List.set_cons_succ]
    refine wpAnyHIn_take (i := 2) (oi := ⟨some 17, _, _, _, _, _⟩) (v := ?_) rfl (by kernel_rfl) (by kernel_rfl) (by kernel_rfl) (by kernel_rfl) (fun _ _ _ h => h) (fun _ => rfl) (Or.inl ⟨by rfl, ?_⟩) (by assumption) ?_
    rotate_left
    · (intro w hSw; (try dsimp only at hSw); go_simp; try with_reducible rfl)
    try simp only [Act.put, List.setIfInBounds_toArray, List.set_cons_zero, List.set_cons_succ]
    refine wpAnyHIn_take (i := 3) (oi := ⟨some 18, _, _, _, _, _⟩) (v := ?_) rfl (by kernel_rfl) (by kernel_rfl) (by kernel_rfl) (by kernel_rfl) (fun _ _ _ h => h) (fun _ => rfl) (Or.inl ⟨by rfl, ?_⟩) (by assumption) ?_
    rotate_left
    · (intro w hSw; (try dsimp only at hSw); go_simp; try with_reducible rfl)
    try simp only [Act.put, List.setIfInBounds_toArray, List.set_cons_zero, List.set_cons_succ]
    refine wpAnyHIn_two (i := 0) (j := 4) (by kernel_rfl) rfl rfl (by rfl) (by rfl) (fun K hK => ?_) (fun K hK => ?_)
    · go_simp
      refine hK.out _ _ hSV (fun _ => ?_)
      clear hK
      refine wpAnyHIn_next (i := 4) (by kernel_rfl) rfl (by rfl) (fun K hK => ?_)
      go_simp
      refine ⟨trivial, (callsIn_wide.2 (hcl V hFV)).mono ?_⟩
      rintro e w4 ⟨rfl, rfl⟩
      refine hK.out _ _ hSV (fun _ => ?_)
      clear hK
      refine wpAnyHIn_next (i := 5) (by kernel_rfl) rfl (by rfl) (fun K hK => ?_)
      go_simp
      refine ⟨trivial, (callsIn_wide.2 hcp).mono ?_⟩
      rintro e w5 ⟨v5, rfl, o5, g5⟩
      obtain ⟨a5, n5, c5, rfl⟩ : ∃ a n c, v5 = .slice a n c := by
        obtain ⟨_, ⟨rfl, _⟩ | ⟨g, cap, cur, rfl, _⟩⟩ := o5
        · exact ⟨_, _, _, rfl⟩
        · exact ⟨_, _, _, rfl⟩
      have hS5 : w5.cell? ⟨w.heap.size, 0, none⟩ = some (.func (.func g) #[] #[]) := g5.cell hSV (by simp)
      have r5 : w5.cell? ⟨w1.heap.size, 0, none⟩ = some v := g5.cell rV (by simp)
      have g7 := World.grownBy_alloc w5 (.cells #[encStr nm, .slice a5 n5 c5] 53) none
      have e7 := World.alloc_heap_new w5 (.cells #[encStr nm, .slice a5 n5 c5] 53)
      obtain ⟨w8, a8, n8, c8, hrun, r8, g8, hfr, hS9, hfin⟩ := hApp _ _ _ _ o5 g5
      refine hK.out _ _ hS5 (fun _ => ?_)
      clear hK
      refine wpAnyHIn_take (i := 6) (oi := ⟨some 21, _, _, _, _, _⟩) (v := ?_) rfl (by kernel_rfl) (by kernel_rfl) (by kernel_rfl) (by kernel_rfl) (fun _ _ _ h => h) (fun _ => rfl) (Or.inl ⟨by rfl, ?_⟩) (by assumption) ?_
      rotate_left
      · (intro w hSw; (try dsimp only at hSw); go_simp; try with_reducible rfl)
      try simp only [Act.put, List.setIfInBounds_toArray, List.set_cons_zero, List.set_cons_succ]
      refine wpAnyHIn_next (i := 7) (by kernel_rfl) rfl (by rfl) (fun K hK => ?_)
      go_simp
      refine hK.out _ _ (g7.cell hS5 (by simp)) (fun _ => ?_)
      clear hK
      have r7 := g7.cell r5 (by simp)
      refine wpAnyHIn_next (i := 8) (by kernel_rfl) rfl (by rfl) (fun K hK => ?_)
      refine wpIn_app_run _ _ _ rfl v _ rfl rfl hrun ?_
      refine hK.out _ _ g8 (fun _ => ?_)
      clear hK
      refine wpAnyHIn_next (i := 9) (by kernel_rfl) rfl (by rfl) (fun K hK => ?_)
      go_simp
      refine hK.out _ _ hS9 (fun _ => ?_)
      clear hK
      refine wpAnyHIn_done (by kernel_rfl) ?_ _
      refine noPanic_normal ?_
      exact hfin
    · go_simp
      refine ⟨trivial, (callsIn_wide.2 (hcl V hFV)).mono ?_⟩
      rintro e w4 ⟨rfl, rfl⟩
      refine hK.out _ _ hSV (fun _ => ?_)
      clear hK
      refine wpAnyHIn_two (i := 0) (j := 5) (by kernel_rfl) rfl rfl (by rfl) (by rfl) (fun K hK => ?_) (fun K hK => ?_)
      · go_simp
        refine hK.out _ _ hSV (fun _ => ?_)
        clear hK
        refine wpAnyHIn_next (i := 5) (by kernel_rfl) rfl (by rfl) (fun K hK => ?_)
        go_simp
        refine ⟨trivial, (callsIn_wide.2 hcp).mono ?_⟩
        rintro e w5 ⟨v5, rfl, o5, g5⟩
        obtain ⟨a5, n5, c5, rfl⟩ : ∃ a n c, v5 = .slice a n c := by
          obtain ⟨_, ⟨rfl, _⟩ | ⟨g, cap, cur, rfl, _⟩⟩ := o5
          · exact ⟨_, _, _, rfl⟩
          · exact ⟨_, _, _, rfl⟩
        have hS5 : w5.cell? ⟨w.heap.size, 0, none⟩ = some (.func (.func g) #[] #[]) := g5.cell hSV (by simp)
        have r5 : w5.cell? ⟨w1.heap.size, 0, none⟩ = some v := g5.cell rV (by simp)
        have g7 := World.grownBy_alloc w5 (.cells #[encStr nm, .slice a5 n5 c5] 53) none
        have e7 := World.alloc_heap_new w5 (.cells #[encStr nm, .slice a5 n5 c5] 53)
        obtain ⟨w8, a8, n8, c8, hrun, r8, g8, hfr, hS9, hfin⟩ := hApp _ _ _ _ o5 g5
        refine hK.out _ _ hS5 (fun _ => ?_)
        clear hK
        refine wpAnyHIn_take (i := 6) (oi := ⟨some 21, _, _, _, _, _⟩) (v := ?_) rfl (by kernel_rfl) (by kernel_rfl) (by kernel_rfl) (by kernel_rfl) (fun _ _ _ h => h) (fun _ => rfl) (Or.inl ⟨by rfl, ?_⟩) (by assumption) ?_
        rotate_left
        · (intro w hSw; (try dsimp only at hSw); go_simp; try with_reducible rfl)
        try simp only [Act.put, List.setIfInBounds_toArray, List.set_cons_zero, List.set_cons_succ]
        refine wpAnyHIn_next (i := 7) (by kernel_rfl) rfl (by rfl) (fun K hK => ?_)
        go_simp
        refine hK.out _ _ (g7.cell hS5 (by simp)) (fun _ => ?_)
        clear hK
        have r7 := g7.cell r5 (by simp)
        refine wpAnyHIn_next (i := 8) (by kernel_rfl) rfl (by rfl) (fun K hK => ?_)
        refine wpIn_app_run _ _ _ rfl v _ rfl rfl hrun ?_
        refine hK.out _ _ g8 (fun _ => ?_)
        clear hK
        refine wpAnyHIn_next (i := 9) (by kernel_rfl) rfl (by rfl) (fun K hK => ?_)
        go_simp
        refine hK.out _ _ hS9 (fun _ => ?_)
        clear hK
        refine wpAnyHIn_done (by kernel_rfl) ?_ _
        refine noPanic_normal ?_
        exact hfin
      · go_simp
        refine ⟨trivial, (callsIn_wide.2 hcp).mono ?_⟩
        rintro e w5 ⟨v5, rfl, o5, g5⟩
        obtain ⟨a5, n5, c5, rfl⟩ : ∃ a n c, v5 = .slice a n c := by
          obtain ⟨_, ⟨rfl, _⟩ | ⟨g, cap, cur, rfl, _⟩⟩ := o5
          · exact ⟨_, _, _, rfl⟩
          · exact ⟨_, _, _, rfl⟩
        have hS5 : w5.cell? ⟨w.heap.size, 0, none⟩ = some (.func (.func g) #[] #[]) := g5.cell hSV (by simp)
        have r5 : w5.cell? ⟨w1.heap.size, 0, none⟩ = some v := g5.cell rV (by simp)
        have g7 := World.grownBy_alloc w5 (.cells #[encStr nm, .slice a5 n5 c5] 53) none
        have e7 := World.alloc_heap_new w5 (.cells #[encStr nm, .slice a5 n5 c5] 53)
        obtain ⟨w8, a8, n8, c8, hrun, r8, g8, hfr, hS9, hfin⟩ := hApp _ _ _ _ o5 g5
        refine hK.out _ _ hS5 (fun _ => ?_)
        clear hK
        refine wpAnyHIn_take (i := 6) (oi := ⟨some 21, _, _, _, _, _⟩) (v := ?_) rfl (by kernel_rfl) (by kernel_rfl) (by kernel_rfl) (by kernel_rfl) (fun _ _ _ h => h) (fun _ => rfl) (Or.inl ⟨by rfl, ?_⟩) (by assumption) ?_
        rotate_left
        · (intro w hSw; (try dsimp only at hSw); go_simp; try with_reducible rfl)
        try simp only [Act.put, List.setIfInBounds_toArray, List.set_cons_zero, List.set_cons_succ]
        refine wpAnyHIn_two (i := 0) (j := 7) (by kernel_rfl) rfl rfl (by rfl) (by rfl) (fun K hK => ?_) (fun K hK => ?_)
        · go_simp
          refine hK.out _ _ hS5 (fun _ => ?_)
          clear hK
          refine wpAnyHIn_next (i := 7) (by kernel_rfl) rfl (by rfl) (fun K hK => ?_)
          go_simp
          refine hK.out _ _ (g7.cell hS5 (by simp)) (fun _ => ?_)
          clear hK
          have r7 := g7.cell r5 (by simp)
          refine wpAnyHIn_next (i := 8) (by kernel_rfl) rfl (by rfl) (fun K hK => ?_)
          refine wpIn_app_run _ _ _ rfl v _ rfl rfl hrun ?_
          refine hK.out _ _ g8 (fun _ => ?_)
          clear hK
          refine wpAnyHIn_next (i := 9) (by kernel_rfl) rfl (by rfl) (fun K hK => ?_)
          go_simp
          refine hK.out _ _ hS9 (fun _ => ?_)
          clear hK
          refine wpAnyHIn_done (by kernel_rfl) ?_ _
          refine noPanic_normal ?_
          exact hfin
        · go_simp
          refine hK.out _ _ (g7.cell hS5 (by simp)) (fun _ => ?_)
          clear hK
          have r7 := g7.cell r5 (by simp)
          refine wpAnyHIn_next (i := 0) (by kernel_rfl) rfl (by rfl) (fun K hK => ?_)
          go_simp
          refine hK.out _ _ (g7.cell hS5 (by simp)) (fun _ => ?_)
          clear hK
          refine wpAnyHIn_next (i := 8) (by kernel_rfl) rfl (by rfl) (fun K hK => ?_)
          refine wpIn_app_run _ _ _ rfl v _ rfl rfl hrun ?_
          refine hK.out _ _ g8 (fun _ => ?_)
          clear hK
          refine wpAnyHIn_next (i := 9) (by kernel_rfl) rfl (by rfl) (fun K hK => ?_)
          go_simp
          refine hK.out _ _ hS9 (fun _ => ?_)
          clear hK
          refine wpAnyHIn_done (by kernel_rfl) ?_ _
          refine noPanic_normal ?_
          exact hfin
  case done =>
    rintro D Z xs Wd W15 hD hZD _ hZl hS ⟨Foot, hTI, hFt⟩ g15 hM
    obtain rfl : xs = l.sorted := hS
    have gp := grownBy_putObj' W15 D (.deferred none)
    have hTP := TellI.keep gw2.size _ _ _ _ _ hTI gp (fun k e => by cases e; exact ⟨hD, fun hF => (hFt _ hF).1 hZD⟩)
    obtain ⟨k1, k2, k3, k4, k5, v, rows, k6, k7, k8, k9, k10⟩ := hTI
    obtain ⟨a', c', rfl⟩ := rowFormS k7.1
    have r1 := k6.cell
    obtain ⟨j1, j2, j3, j4, j5, v', rows', j6, j7, j8, j9, j10⟩ := hTP
    have hvv : v' = .slice a' rows.length c' := by
      have e1 : (W15.putObj D (.deferred none)).heap[w1.heap.size]? = W15.heap[w1.heap.size]? := World.putObj_heap_other (by omega)
      have e2 := j6.symm.trans (e1.trans k6)
      simpa using e2
    subst hvv
    replace j7 := Lib.hid j7
    replace j8 := Lib.hid j8
    clear k6 k7 k8 k9 k10 k1 k3 j6 j9 j10 j3 hrow2 hbox hfn2 hf hd hd2 hp gp g15
    gi_wp2_with fail
    refine ⟨by simp, .inl ⟨_, _, rfl, run_takeDeferred hM, ?_⟩⟩
    generalize W15.putObj D (.deferred none) = W19 at j1 j7 ⊢
    simp [LeavesInM, LeavesIn, results, Tryz.results55, go_sem]
    exact ⟨rows', j7.out, j8.out, j1⟩
  case stop =>
    rintro D c Z pre W W' _ _ _ _ _ h
    exact h.elim
end Go.Proofs.YtfgmaeaojkfakaaGreat
