/-
  LAYER 1 (fs): what Size answers; how inOrder begins.
-/
import Derived.Test.YtafcgjbafihniaaGreatFA04
import Derived.Test.YtafcgjbafihniaaGreatFA03
import Derived.Test.YtafcgjbafihniaaGreatFA02
import Derived.Maps.AppendAt
namespace Go.Proofs.YtafcgjbafihniaaGreat
set_option maxRecDepth 100000
open Go.RowKit Go.Lib
attribute [local go_sem] Oper.semAt_some

section
variable {w : World} {q : Nat} {dead : Bool} {p : PlV} {ops : Int} {d s : Nat} {mv : Value}
/-- What Size answers: of the dead, of a name that nobody has, of a file. -/
def sizeOf (dead : Bool) (x : Option (List UInt8)) : Value := match dead, x with
  | true, _ => .tuple #[.int .i64 0, .int .i64 12]
  | false, none => .tuple #[.int .i64 0, .int .i64 14]
  | false, some bs => .tuple #[.int .i64 (bs.length : Int), .int .i64 0]
set_option maxHeartbeats 4000000 in
theorem size_dead (nm : ByteArray) (w : World) (h : FsAt w q true p ops d s mv) :
    Calls Tryz.prog 19 #[.pointer (some ⟨q, 0, none⟩), .string nm] w fun e w' => e = .returned (sizeOf true none) ∧ w = w' := by
  have hdead := dead_fs w h
  go_enter Tryz.func19, Tryz.ntmps19
  go_wp2_with (refine hdead.mono ?_; rintro e w2 ⟨rfl, rfl⟩)
  go_ret2
  exact ⟨rfl, rfl⟩
set_option maxHeartbeats 4000000 in
theorem size_none (nm : ByteArray) (l : DirL) (w : World) (h : FsAt w q false p ops d s mv) (hd : DirM w d l) (hs : nm.size ≤ maxLen) (hl : l.look nm.data.toList = none) :
    Calls Tryz.prog 19 #[.pointer (some ⟨q, 0, none⟩), .string nm] w fun e w' => e = .returned (sizeOf false none) ∧ w = w' := by
  have hlk := hd.lookup nm hs
  rw [hl] at hlk
  have x8 := h.dir
  have hdead := dead_fs w h
  unfold ptrV at hlk
  go_enter Tryz.func19, Tryz.ntmps19
  go_wp2_with (refine hdead.mono ?_; rintro e w2 ⟨rfl, rfl⟩)
  go_ret2
  exact ⟨rfl, rfl⟩
set_option maxHeartbeats 4000000 in
theorem size_some (nm : ByteArray) (l : DirL) (w : World) (h : FsAt w q false p ops d s mv) (hd : DirM w d l) (hs : nm.size ≤ maxLen) (b : Nat) (hl : l.look nm.data.toList = some b) (f : FileV) (hf : FileAt w b f) :
    Calls Tryz.prog 19 #[.pointer (some ⟨q, 0, none⟩), .string nm] w fun e w' => e = .returned (sizeOf false (some f.data)) ∧ w = w' := by
  have hlk := hd.lookup nm hs
  rw [hl] at hlk
  have x8 := h.dir
  have c1 := hf.c1
  have hdead := dead_fs w h
  obtain ⟨a, c, hdv⟩ : ∃ a c, f.dv = .slice a f.data.length c := by
    obtain ⟨_, ⟨e, hz⟩ | ⟨g, cap, cur, e, _⟩⟩ := hf.2.2.1
    · exact ⟨none, 0, by rw [e, hz]⟩
    · exact ⟨_, _, e⟩
  rw [hdv] at c1
  unfold ptrV at hlk
  go_enter Tryz.func19, Tryz.ntmps19
  go_wp2_with (refine hdead.mono ?_; rintro e w2 ⟨rfl, rfl⟩)
  go_ret2
  exact ⟨rfl, rfl⟩
end

set_option maxHeartbeats 4000000 in
theorem inOrder_any (d : Nat) (w : World) :
    Calls Tryz.prog 82 #[.map (some d)] w fun e w' => ∃ b, e = .returned (.func (.func 99) #[] #[.pointer (some ⟨b, 0, none⟩)]) ∧ w'.heap[b]? = some (.cells #[.map (some d)] 69 (0, 0)) ∧ w.grownBy w' none ∧ w.heap.size ≤ b := by
  have g1 := World.grownBy_alloc w (.cells #[.map (some d)] 69) none
  have e1 := World.alloc_heap_new w (.cells #[.map (some d)] 69)
  go_enter Tryz.func82, Tryz.ntmps82
  go_wp2
  go_ret
  exact ⟨w.heap.size, rfl, e1, g1, by omega⟩
end Go.Proofs.YtafcgjbafihniaaGreat

/-
  LAYER 1 (fs): a directory's files, told as a list.
-/
namespace Go.Proofs.YtafcgjbafihniaaGreat
set_option maxRecDepth 100000
open Go.RowKit Go.Lib
open Go.Proofs (encStr)
attribute [local go_sem] Oper.semAt_some

/-- Files as they are told: a name, the value of its data, the data. -/
abbrev FRow := List UInt8 × Value × List UInt8
def fileCells (rows : List FRow) : List Value := rows.flatMap (fun r => [encStr r.1, r.2.1])
def FilesAt (w : World) (B : Nat) (v : Value) (rows : List FRow) : Prop := w.ownsRow B 53 2 v rows.length (fileCells rows) ∧ ∀ r ∈ rows, Owns w B 5 r.2.1 r.2.2

/-- What of a file a function value tells. -/
structure Sel (g : Nat) (sv : FileV → Value) (sb : FileV → List UInt8) : Prop where
  enter : ∀ args W, (callFunc g args).run Tryz.prog W = .ok (.enter g args) W
  call : ∀ b f W, FileAt W b f → Calls Tryz.prog g #[.pointer (some ⟨b, 0, none⟩)] W fun e W' => e = .returned (sv f) ∧ W' = W
  reads : ∀ b f W, FileAt W b f → Owns W 0 5 (sv f) (sb f)

theorem selData : Sel 56 FileV.dv FileV.data where
  enter := fun args W => by kernel_rfl
  call := fun b f W h => by
    have c1 := h.c1
    go_enter Tryz.func56, Tryz.ntmps56
    go_wp2
    go_ret
    exact ⟨rfl, rfl⟩
  reads := fun b f W h => h.2.2.1
theorem selSafe : Sel 64 FileV.sv FileV.safe where
  enter := fun args W => by kernel_rfl
  call := fun b f W h => by
    have c1 := h.c0
    go_enter Tryz.func64, Tryz.ntmps64
    go_wp2
    go_ret
    exact ⟨rfl, rfl⟩
  reads := fun b f W h => h.2.1

theorem infoFile : (Tryz.prog.info? 53).map (fun i => (i.zero, i.size, i.bytes)) = some (some (.agg #[.string ⟨#[]⟩, .slice none 0 0]), 2, 40) := by kernel_rfl
theorem info_partsFl : ∃ i0 : TypeInfo, Tryz.prog.info? 53 = some i0 ∧ i0.zero = some (.agg #[.string ⟨#[]⟩, .slice none 0 0]) ∧ i0.size = 2 ∧ i0.bytes = 40 := by
  have h := infoFile
  cases hi : Tryz.prog.info? 53 with
  | none => rw [hi] at h; cases h
  | some i =>
    rw [hi] at h
    simp only [Option.map_some, Option.some.injEq, Prod.mk.injEq] at h
    exact ⟨i, rfl, h.1, h.2.1, h.2.2⟩

/-- Between two files: the list so far, in memory of the call's own. -/
def TellI (w0 : World) (n0 ob fb : Nat) (fnv : Value) (sb : FileV → List UInt8) (F : Nat → FileV) (Foot : Nat → Prop) (pre : List (List UInt8 × Nat)) (W : World) : Prop :=
  w0.grownBy W none ∧ n0 ≤ W.heap.size ∧ Boxed W fb 103 fnv ∧ Foot fb ∧ Foot ob ∧ ∃ v rows, Boxed W ob 50 v ∧ FilesAt W w0.heap.size v rows ∧
    rows.map (fun r => (r.1, r.2.2)) = pre.map (fun x => (x.1, sb (F x.2))) ∧ (∀ k, v.ownBlock = some k → Foot k) ∧ ∀ r ∈ rows, ∀ k, r.2.1.ownBlock = some k → Foot k
theorem FilesAt.kept {A B : World} {b : Nat} {v : Value} {rows : List FRow} {q : Option Nat} (h : FilesAt A b v rows) (g : A.grownBy B q) (hv : ∀ k, q = some k → v.ownBlock ≠ some k ∧ ∀ r ∈ rows, r.2.1.ownBlock ≠ some k) : FilesAt B b v rows := by
  have alt : ∀ (v : Value), (∀ k, q = some k → v.ownBlock ≠ some k) → v.ownBlock = none ∨ v.ownBlock ≠ q := fun v h => by
    cases e : v.ownBlock with
    | none => exact .inl rfl
    | some k => exact .inr (fun e2 => h k e2.symm e)
  exact ⟨World.ownsRow.kept h.1 g (alt _ (fun k e => (hv k e).1)), fun r hr => Owns.kept (h.2 r hr) g (alt _ (fun k e => (hv k e).2 r hr))⟩
theorem TellI.keep {w0 : World} {n0 ob fb : Nat} {fnv : Value} {sb : FileV → List UInt8} {F : Nat → FileV} (h0 : w0.heap.size ≤ n0) : ∀ Foot s A B q, TellI w0 n0 ob fb fnv sb F Foot s A → A.grownBy B q → (∀ k, q = some k → n0 ≤ k ∧ ¬ Foot k) → TellI w0 n0 ob fb fnv sb F Foot s B := by
  rintro Foot s A B q ⟨h1, h2, h3, h4, h5, v, rows, h6, h7, h8, h9, h10⟩ g hq
  have ne : ∀ k, Foot k → some k ≠ q := fun k hk e => (hq k e.symm).2 hk
  exact ⟨gnew h1 g (fun k e => .inl (Nat.le_trans h0 (hq k e).1)), Nat.le_trans h2 g.size, h3.kept g (ne _ h4), h4, h5, v, rows, h6.kept g (ne _ h5), h7.kept g (fun k e => ⟨fun e2 => (hq k e).2 (h9 k e2), fun r hr e2 => (hq k e).2 (h10 r hr k e2)⟩), h8, h9, h10⟩
theorem fileCells_append (rows : List FRow) (r : FRow) : fileCells (rows ++ [r]) = fileCells rows ++ [encStr r.1, r.2.1] := by simp [fileCells]

theorem own_box {W : World} {B e s n p : Nat} {t : TypeId} {v x : Value} {xs : List Value} (h : W.ownsRow B e s v n xs) (hb : Boxed W p t x) (hne : e ≠ t) : v.ownBlock ≠ some p := by
  obtain ⟨_, ⟨rfl, _⟩ | ⟨g, cap, cur, rfl, _, hg, _⟩⟩ := h
  · simp [Value.ownBlock]
  · intro e2
    simp only [Value.ownBlock, Option.some.injEq] at e2
    subst e2
    rw [show W.heap[g]? = _ from hb] at hg
    simp only [Option.some.injEq, Obj.cells.injEq] at hg
    exact hne hg.2.1.symm
theorem own_own {W : World} {B B' s s' n n' : Nat} {e e' : TypeId} {v v' : Value} {xs xs' : List Value} (h : W.ownsRow B e s v n xs) (h' : W.ownsRow B' e' s' v' n' xs') (hne : e ≠ e') : ∀ k, v.ownBlock = some k → v'.ownBlock ≠ some k := by
  intro k hk
  obtain ⟨_, ⟨rfl, _⟩ | ⟨g, cap, cur, rfl, _, hg, _⟩⟩ := h
  · simp [Value.ownBlock] at hk
  · simp only [Value.ownBlock, Option.some.injEq] at hk
    subst hk
    obtain ⟨_, ⟨rfl, _⟩ | ⟨g', cap', cur', rfl, _, hg', _⟩⟩ := h'
    · simp [Value.ownBlock]
    · intro e2
      simp only [Value.ownBlock, Option.some.injEq] at e2
      subst e2
      rw [hg] at hg'
      simp only [Option.some.injEq, Obj.cells.injEq] at hg'
      exact hne hg'.2.1

set_option maxHeartbeats 8000000 in
theorem tell_any (g : Nat) (sv : FileV → Value) (sb : FileV → List UInt8) (G : Sel g sv sb) (d : Nat) (l : DirL) (F : Nat → FileV) (w : World) (hd : DirM w d l) (hf : ∀ x b, l.look x = some b → FileAt w b (F b) ∧ (sb (F b)).length ≤ 140737488355328) (hlim : l.length ≤ 3518437208881) :
    Calls Tryz.prog 55 #[.map (some d), .func (.func g) #[] #[]] w fun e w' => ∃ v rows, e = .returned v ∧ FilesAt w' w.heap.size v rows ∧ rows.map (fun r => (r.1, r.2.2)) = l.sorted.map (fun x => (x.1, sb (F x.2))) ∧ w.grownBy w' none := by
  have hent := G.enter
  have hlen := fun W (g : w.grownBy W none) ty => (hd.kept g (by simp)).len ty
  have hio := fun W => inOrder_any d W
  obtain ⟨i0, hi, hz0, hz1, hz2⟩ := info_partsFl
  refine (callsIn_wide (n := 20)).1 ?_
  have hf1 : Fence.wide.fn 82 := trivial
  refine callsIn_of_wp_marks Tryz.func55 rfl trivial ?_ rfl
  simp only [Tryz.ntmps55, List.size_toArray, List.length_cons, List.length_nil, Nat.reduceAdd, Nat.reduceSub, Array.replicate_succ, Array.replicate_zero, List.push_toArray, List.append_toArray, List.nil_append, List.cons_append]
  have hlen1 := hlen _ (World.grownBy_alloc w (.cells #[.func (.func g) #[] #[]] 103) none)
  have gA0 := World.grownBy_alloc w (.cells #[.func (.func g) #[] #[]] 103) none
  have eA0 := World.alloc_heap_new w (.cells #[.func (.func g) #[] #[]] 103)
  obtain ⟨A0, hA0⟩ : ∃ A0, A0 = w.alloc (.cells #[.func (.func g) #[] #[]] 103) := ⟨_, rfl⟩
  have sA0 : A0.heap.size = w.heap.size + 1 := by rw [hA0]; simp
  rw [← hA0] at hlen1 gA0 eA0
  gi_wp2_with fail
  rw [← hA0]
  clear hA0
  rw [hlen1]
  simp only [Result.andThen_ok, Oper.uponIn_value, Act.put, List.setIfInBounds_toArray, List.set_cons_zero, List.set_cons_succ]
  gi_wp2_with (gi_at_make; refine wpListIn_make_own _ rfl _ _ 50 rfl w.heap.size 53 i0 (.agg #[.string ⟨#[]⟩, .slice none 0 0]) 2 Tryz.underlying50 hi hz0 hz1 .i64 .i64 _ l.length rfl rfl rfl (by rw [hz2]; omega) (by unfold maxLen; omega) (by omega) ?_; intro w1 hown1 hg1)
  have hlim8 := hlim
  refine (callsIn_wide.2 (hio _)).mono ?_
  clear hio
  rintro e W2 ⟨p, rfl, hp, g2, hpb⟩
  have gB := World.grownBy_alloc w1 (.cells #[.slice (some ⟨w.heap.size + 1, 0, none⟩) 0 l.length] 50) none
  have eB := World.alloc_heap_new w1 (.cells #[.slice (some ⟨w.heap.size + 1, 0, none⟩) 0 l.length] 50)
  rw [sA0] at hown1
  have s1 := hg1.size
  have gw1 : w.grownBy w1 none := gA0.trans hg1
  have gw2 : w.grownBy W2 none := (gw1.trans gB).trans g2
  have s2 : w1.heap.size + 1 ≤ W2.heap.size := by have := g2.size; simpa using this
  have hbox : Boxed W2 w1.heap.size 50 (.slice (some ⟨w.heap.size + 1, 0, none⟩) 0 l.length) := (g2.block _ (by simp) (by simp)).trans eB
  have hfn2 : Boxed W2 w.heap.size 103 (.func (.func g) #[] #[]) := (((hg1.trans gB).trans g2).block _ (by omega) (by simp)).trans eA0
  have hrow2 : FilesAt W2 w.heap.size (.slice (some ⟨w.heap.size + 1, 0, none⟩) 0 l.length) [] := ⟨World.ownsRow.kept hown1 (gB.trans g2) (.inr (by simp [Value.ownBlock])), by simp⟩
  have hd2 := hd.kept gw2 (by simp)
  have hpb' : w1.heap.size + 1 ≤ p := by simpa using hpb
  have hpl : p < W2.heap.size := lt_of_block hp
  have hdl : d < w.heap.size := hd.lt
  clear hown1 eB eA0 hlen1
  gi_wp2_with fail
  refine range_tellsZ1 (a := _) (w := W2) (α := List UInt8 × Nat) rfl (by omega) (gf := 99) (lb := #[.pointer (some ⟨p, 0, none⟩)]) rfl trivial (enters_of Tryz.func99 (by kernel_rfl) rfl)
    (inOrder1_tells _ p d l W2 (by omega) hp hd2 (by omega)) (fun k hk => by rcases hk with rfl | rfl <;> omega) (fun _ => rfl) (fun _ _ _ _ _ _ h _ _ _ => h)
    (Ft (TellI w W2.heap.size w1.heap.size w.heap.size (.func (.func g) #[] #[]) sb F)) (fun _ _ _ _ => False) (fun Z s A h => by obtain ⟨_, ⟨_, h, _⟩, _⟩ := h; exact h)
    (Ft.tame (TellI.keep gw2.size)) (fun c => ⟨fun _ _ _ _ _ h => h.elim, fun _ _ _ _ _ h => h.elim⟩)
    ⟨fun k => k = w.heap.size ∨ k = w.heap.size + 1 ∨ k = w1.heap.size, ⟨gw2, Nat.le_refl _, hfn2, .inl rfl, .inr (.inr rfl), _, [], hbox, hrow2, rfl, fun k e => by simp [Value.ownBlock] at e; exact .inr (.inl e.symm), by simp⟩, fun k hk => ⟨fun hz => by rcases hz with rfl | rfl <;> rcases hk with h | h | h <;> omega, by rcases hk with h | h | h <;> omega⟩⟩
    ?a1 (fun _ _ _ _ h _ => h) ?assign ?body ?done ?stop
  case assign =>
    intro ll x W K hK
    dsimp only [dEnc]
    gi_wp2
    exact hK
  case body =>
    rintro ll Z pre x W hZ0 hZl ⟨Foot, ⟨h1, h2, h3, h4, h5, v, rows, h6, h7, h8, h9, h10⟩, hFt⟩ ⟨hpre, hx⟩ hsz
    obtain ⟨nm, b⟩ := x
    have hpl2 : pre.length < l.length := by have := (List.getElem?_eq_some_iff.1 hx).1; rw [DirL.sorted_length] at this; exact this
    obtain ⟨nm', b', hx', _, hlk, hin⟩ := DirL.sorted_at l pre.length hpl2
    rw [hx] at hx'
    cases hx'
    obtain ⟨hfa, hfl⟩ := hf nm b hlk
    have hrl : rows.length = pre.length := by have := congrArg List.length h8; simpa using this
    obtain ⟨V, hV⟩ : ∃ V, V = W.drew := ⟨_, rfl⟩
    have gV : W.grownBy V none := by rw [hV]; exact gdrew (World.grownBy.refl W none)
    have hFV : FileAt V b (F b) := hfa.kept (GP.of (P := fun _ => False) (h1.trans gV) (by simp)) (fun h => h) (fun _ _ h => h)
    have hSV : V.cell? ⟨w.heap.size, 0, none⟩ = some (.func (.func g) #[] #[]) := (h3.kept gV (by simp)).cell
    have rV : V.cell? ⟨w1.heap.size, 0, none⟩ = some v := (h6.kept gV (by simp)).cell
    have hown := G.reads b (F b) V hFV
    obtain ⟨a3, c3, hsv⟩ : ∃ a c, sv (F b) = .slice a (sb (F b)).length c := rowFormS hown
    have hcp := fcopied_any a3 (sb (F b)).length c3 (sb (F b)) V (by rw [← hsv]; exact hown.reads) hfl
    have hsv2 := Lib.hid hsv
    have hcp2 := hcp
    have hcl := fun W h => G.call b (F b) W h
    rw [hsv] at hcl
    clear hsv
    have hApp : ∀ w5 a5 n5 c5, Owns w5 V.heap.size 5 (.slice a5 n5 c5) (sb (F b)) → V.grownBy w5 none → ∃ w8 a8 n8 c8, (Builtin.append_ #[50, 50] 50 #[v, .slice (some ⟨w5.heap.size, 0, none⟩) 1 1]).run Tryz.prog (w5.alloc (.cells #[encStr nm, .slice a5 n5 c5] 53)) = .ok (.slice a8 n8 c8) w8 ∧ w8.cell? ⟨w1.heap.size, 0, none⟩ = some v ∧
        w8.cell? ⟨w.heap.size, 0, none⟩ = some (.func (.func g) #[] #[]) ∧ w8.frozen? ⟨w1.heap.size, 0, none⟩ = false ∧ (w8.setCell ⟨w1.heap.size, 0, none⟩ (.slice a8 n8 c8)).cell? ⟨w.heap.size, 0, none⟩ = some (.func (.func g) #[] #[]) ∧
        (ZK Z W (w8.setCell ⟨w1.heap.size, 0, none⟩ (.slice a8 n8 c8)) ∧ Ft (TellI w W2.heap.size w1.heap.size w.heap.size (.func (.func g) #[] #[]) sb F) Z (pre ++ [(nm, b)]) (w8.setCell ⟨w1.heap.size, 0, none⟩ (.slice a8 n8 c8))) := by
      intro w5 a5 n5 c5 o5 g5
      have g7 := World.grownBy_alloc w5 (.cells #[encStr nm, .slice a5 n5 c5] 53) none
      have e7 := World.alloc_heap_new w5 (.cells #[encStr nm, .slice a5 n5 c5] 53)
      obtain ⟨X, hX⟩ : ∃ X, X = w5.alloc (.cells #[encStr nm, .slice a5 n5 c5] 53) := ⟨_, rfl⟩
      rw [← hX] at g7 e7 ⊢
      have sX : X.heap.size = w5.heap.size + 1 := by rw [hX]; simp
      clear hX
      have gX : W.grownBy X none := (gV.trans g5).trans g7
      have hrX := h7.kept gX (by simp)
      obtain ⟨v8, w8, hrun, o8, g8, _, hlies⟩ := run_append_own_at (P := Tryz.prog) X w.heap.size 50 50 53 i0 (.agg #[.string ⟨#[]⟩, .slice none 0 0]) 2 40 Tryz.underlying50 hi hz0 hz1 hz2 rfl (by decide) v rows.length (fileCells rows)
        hrX.1 ⟨w5.heap.size, 0, none⟩ 1 1 [encStr nm, .slice a5 n5 c5] rfl (fun j u hj => by
          have eX : ∀ i, X.cell? ⟨w5.heap.size, i, none⟩ = #[encStr nm, .slice a5 n5 c5][i]? := fun i => by simp [World.cell?, e7]
          match j, hj with
          | 0, hj => simp at hj; subst hj; exact eX 0
          | 1, hj => simp at hj; subst hj; exact eX 1) (fun u hu => by simp at hu; rcases hu with rfl | rfl <;> rfl) (by unfold maxLen; omega) (by omega) (by have := h1.size; have := gX.size; omega)
      obtain ⟨a8, c8, rfl⟩ := rowFormS o8
      have hvb := World.ownsRow.lt h7.1
      have nob : v.ownBlock ≠ some w1.heap.size := own_box h7.1 h6 (by decide)
      have nfb : v.ownBlock ≠ some w.heap.size := own_box h7.1 h3 (by decide)
      have g8o := (h6.kept gX (by simp)).kept g8 (fun e => nob e.symm)
      have g8f := (h3.kept gX (by simp)).kept g8 (fun e => nfb e.symm)
      have gs := gset (World.grownBy.refl w8 (some w1.heap.size)) 0 (.slice a8 (rows.length + 1) c8)
      have nob8 : (Value.slice a8 (rows.length + 1) c8).ownBlock ≠ some w1.heap.size := own_box o8 g8o (by decide)
      have hob : w.heap.size ≤ w1.heap.size := gw1.size
      have hrows8 : FilesAt w8 w.heap.size (.slice a8 (rows.length + 1) c8) (rows ++ [(nm, .slice a5 n5 c5, sb (F b))]) := by
        constructor
        · rw [fileCells_append, List.length_append]
          exact o8
        · intro r hr
          rcases List.mem_append.1 hr with hr | hr
          · exact Owns.kept (hrX.2 r hr) g8 (by
              cases e : r.2.1.ownBlock with
              | none => exact .inl rfl
              | some k => exact .inr (fun e2 => own_own hrX.1 (hrX.2 r hr) (by decide) k e2.symm e))
          · simp at hr
            subst hr
            refine Owns.kept ((Owns.kept o5 g7 (by cases (Value.slice a5 n5 c5).ownBlock <;> simp)).mono (B' := w.heap.size) (by have := h1.size; have := gV.size; omega)) g8 ?_
            dsimp only
            cases e : (Value.slice a5 n5 c5).ownBlock with
            | none => exact .inl rfl
            | some k => exact .inr (fun e2 => own_own hrX.1 (Owns.kept o5 g7 (by cases (Value.slice a5 n5 c5).ownBlock <;> simp)) (by decide) k e2.symm e)
      have hrowsZ := hrows8.kept gs (fun k e => by
        cases e
        refine ⟨nob8, fun r hr e2 => own_box (hrows8.2 r hr) g8o (by decide) e2⟩)
      have sz8 := g8.size
      have szs := gs.size
      refine ⟨w8, a8, _, c8, hrun, g8o.cell, g8f.cell, g8o.frozen, (g8f.kept gs (by simp; omega)).cell, ?_, ?_⟩
      · exact (ZK.of gX (by simp)).trans ((ZK.of g8 (fun k e hz => (hFt k (h9 k e)).1 hz)).trans (ZK.of gs (fun k e hz => by cases e; exact (hFt _ h5).1 hz)))
      · refine ⟨fun k => Foot k ∨ W.heap.size ≤ k ∧ k < (w8.setCell ⟨w1.heap.size, 0, none⟩ (.slice a8 (rows.length + 1) c8)).heap.size, ⟨?_, Nat.le_trans h2 (Nat.le_trans gX.size (Nat.le_trans sz8 szs)), g8f.kept gs (by simp; omega), .inl h4, .inl h5, _, _, g8o.set _, hrowsZ, ?_, fun k e => ?_, fun r hr k e => ?_⟩, fun k hk => ?_⟩
        · exact gnew (gnew (h1.trans gX) g8 (fun k e => .inl (hvb k e).1)) gs (fun k e => by cases e; exact .inl hob)
        · rw [List.map_append, List.map_append, h8]
          rfl
        · rcases hlies with e2 | e2
          · exact .inl (h9 k (by rw [← e2]; exact e))
          · right
            have := (World.ownsRow.lt hrowsZ.1 k e).2
            rw [e] at e2
            cases e2
            have := gX.size
            omega
        · rcases List.mem_append.1 hr with hr' | hr'
          · exact .inl (h10 r hr' k e)
          · right
            have q1 := (Owns.lt (hrowsZ.2 r hr) k e).2
            simp at hr'
            subst hr'
            have q2 := (Owns.lt o5 k e).1
            have := gV.size
            omega
        · rcases hk with hk | hk
          · exact ⟨(hFt k hk).1, by have := (hFt k hk).2; have := gX.size; omega⟩
          · exact ⟨fun hz => by have := hZl k hz; omega, hk.2⟩
    clear hcp2
    gi_wp2_with fail
    apply wpIn_noPanic
    refine wpIn_region_held (S := fun V' => V'.cell? ⟨w.heap.size, 0, none⟩ = some (.func (.func g) #[] #[])) (by kernel_rfl) (by rw [← hV]; exact hSV) (fun hS0 => ?_)
    rw [← hV]
    clear hS0 hV
    refine wpAnyHIn_take (i := 1) (oi := ⟨some 16, _, _, _, _, _⟩) (v := ?_) rfl (by kernel_rfl) (by kernel_rfl) (by kernel_rfl) (by kernel_rfl) (fun _ _ _ h => h) (fun _ => rfl) (Or.inl ⟨by rfl, ?_⟩) (by assumption) ?_
    rotate_left
    · (intro w hSw; (try dsimp only at hSw); go_simp; try with_reducible rfl)
    try simp only [Act.put, List.setIfInBounds_toArray, List.set_cons_zero, List.set_cons_succ]
    refine wpAnyHIn_take (i := 2) (oi := ⟨some 17, _, _, _, _, _⟩) (v := ?_) rfl (by kernel_rfl) (by kernel_rfl) (by kernel_rfl) (by kernel_rfl) (fun _ _ _ h => h) (fun _ => rfl) (Or.inl ⟨by rfl, ?_⟩) (by assumption) ?_
    rotate_left
    · (intro w hSw; (try dsimp only at hSw); go_simp; try with_reducible rfl)
    try simp only [Act.put, List.setIfInBounds_toArray, List.set_cons_zero, List.set_cons_succ]
    refine wpAnyHIn_take (i := 3) (oi := ⟨some 18, _, _, _, _, _⟩) (v := ?_) rfl (by kernel_rfl) (by kernel_rfl) (by kernel_rfl) (by kernel_rfl) (fun _ _ _ h => h) (fun _ => rfl) (Or.inl ⟨by rfl, ?_⟩) (by assumption) ?_
    rotate_left
    · (intro w hSw; (try dsimp only at hSw); go_simp; try with_reducible rfl)
    try simp only [Act.put, List.setIfInBounds_toArray, List.set_cons_zero, List.set_cons_succ]
    refine wpAnyHIn_two (i := 0) (j := 4) (by kernel_rfl) rfl rfl (by rfl) (by rfl) (fun K hK => ?_) (fun K hK => ?_)
    · go_simp
      refine hK.out _ _ hSV (fun _ => ?_)
      clear hK
      refine wpAnyHIn_next (i := 4) (by kernel_rfl) rfl (by rfl) (fun K hK => ?_)
      go_simp
      refine ⟨trivial, (callsIn_wide.2 (hcl V hFV)).mono ?_⟩
      rintro e w4 ⟨rfl, rfl⟩
      refine hK.out _ _ hSV (fun _ => ?_)
      clear hK
      refine wpAnyHIn_next (i := 5) (by kernel_rfl) rfl (by rfl) (fun K hK => ?_)
      go_simp
      refine ⟨trivial, (callsIn_wide.2 hcp).mono ?_⟩
      rintro e w5 ⟨v5, rfl, o5, g5⟩
      obtain ⟨a5, n5, c5, rfl⟩ : ∃ a n c, v5 = .slice a n c := by
        obtain ⟨_, ⟨rfl, _⟩ | ⟨g, cap, cur, rfl, _⟩⟩ := o5
        · exact ⟨_, _, _, rfl⟩
        · exact ⟨_, _, _, rfl⟩
      have hS5 : w5.cell? ⟨w.heap.size, 0, none⟩ = some (.func (.func g) #[] #[]) := g5.cell hSV (by simp)
      have r5 : w5.cell? ⟨w1.heap.size, 0, none⟩ = some v := g5.cell rV (by simp)
      have g7 := World.grownBy_alloc w5 (.cells #[encStr nm, .slice a5 n5 c5] 53) none
      have e7 := World.alloc_heap_new w5 (.cells #[encStr nm, .slice a5 n5 c5] 53)
      obtain ⟨w8, a8, n8, c8, hrun, r8, g8, hfr, hS9, hfin⟩ := hApp _ _ _ _ o5 g5
      refine hK.out _ _ hS5 (fun _ => ?_)
      clear hK
      refine wpAnyHIn_take (i := 6) (oi := ⟨some 21, _, _, _, _, _⟩) (v := ?_) rfl (by kernel_rfl) (by kernel_rfl) (by kernel_rfl) (by kernel_rfl) (fun _ _ _ h => h) (fun _ => rfl) (Or.inl ⟨by rfl, ?_⟩) (by assumption) ?_
      rotate_left
      · (intro w hSw; (try dsimp only at hSw); go_simp; try with_reducible rfl)
      try simp only [Act.put, List.setIfInBounds_toArray, List.set_cons_zero, List.set_cons_succ]
      refine wpAnyHIn_next (i := 7) (by kernel_rfl) rfl (by rfl) (fun K hK => ?_)
      go_simp
      refine hK.out _ _ (g7.cell hS5 (by simp)) (fun _ => ?_)
      clear hK
      have r7 := g7.cell r5 (by simp)
      refine wpAnyHIn_next (i := 8) (by kernel_rfl) rfl (by rfl) (fun K hK => ?_)
      refine wpIn_app_run _ _ _ rfl v _ rfl rfl hrun ?_
      refine hK.out _ _ g8 (fun _ => ?_)
      clear hK
      refine wpAnyHIn_next (i := 9) (by kernel_rfl) rfl (by rfl) (fun K hK => ?_)
      go_simp
      refine hK.out _ _ hS9 (fun _ => ?_)
      clear hK
      refine wpAnyHIn_done (by kernel_rfl) ?_ _
      refine noPanic_normal ?_
      exact hfin
    · go_simp
      refine ⟨trivial, (callsIn_wide.2 (hcl V hFV)).mono ?_⟩
      rintro e w4 ⟨rfl, rfl⟩
      refine hK.out _ _ hSV (fun _ => ?_)
      clear hK
      refine wpAnyHIn_two (i := 0) (j := 5) (by kernel_rfl) rfl rfl (by rfl) (by rfl) (fun K hK => ?_) (fun K hK => ?_)
      · go_simp
        refine hK.out _ _ hSV (fun _ => ?_)
        clear hK
        refine wpAnyHIn_next (i := 5) (by kernel_rfl) rfl (by rfl) (fun K hK => ?_)
        go_simp
        refine ⟨trivial, (callsIn_wide.2 hcp).mono ?_⟩
        rintro e w5 ⟨v5, rfl, o5, g5⟩
        obtain ⟨a5, n5, c5, rfl⟩ : ∃ a n c, v5 = .slice a n c := by
          obtain ⟨_, ⟨rfl, _⟩ | ⟨g, cap, cur, rfl, _⟩⟩ := o5
          · exact ⟨_, _, _, rfl⟩
          · exact ⟨_, _, _, rfl⟩
        have hS5 : w5.cell? ⟨w.heap.size, 0, none⟩ = some (.func (.func g) #[] #[]) := g5.cell hSV (by simp)
        have r5 : w5.cell? ⟨w1.heap.size, 0, none⟩ = some v := g5.cell rV (by simp)
        have g7 := World.grownBy_alloc w5 (.cells #[encStr nm, .slice a5 n5 c5] 53) none
        have e7 := World.alloc_heap_new w5 (.cells #[encStr nm, .slice a5 n5 c5] 53)
        obtain ⟨w8, a8, n8, c8, hrun, r8, g8, hfr, hS9, hfin⟩ := hApp _ _ _ _ o5 g5
        refine hK.out _ _ hS5 (fun _ => ?_)
        clear hK
        refine wpAnyHIn_take (i := 6) (oi := ⟨some 21, _, _, _, _, _⟩) (v := ?_) rfl (by kernel_rfl) (by kernel_rfl) (by kernel_rfl) (by kernel_rfl) (fun _ _ _ h => h) (fun _ => rfl) (Or.inl ⟨by rfl, ?_⟩) (by assumption) ?_
        rotate_left
        · (intro w hSw; (try dsimp only at hSw); go_simp; try with_reducible rfl)
        try simp only [Act.put, List.setIfInBounds_toArray, List.set_cons_zero, List.set_cons_succ]
        refine wpAnyHIn_next (i := 7) (by kernel_rfl) rfl (by rfl) (fun K hK => ?_)
        go_simp
        refine hK.out _ _ (g7.cell hS5 (by simp)) (fun _ => ?_)
        clear hK
        have r7 := g7.cell r5 (by simp)
        refine wpAnyHIn_next (i := 8) (by kernel_rfl) rfl (by rfl) (fun K hK => ?_)
        refine wpIn_app_run _ _ _ rfl v _ rfl rfl hrun ?_
        refine hK.out _ _ g8 (fun _ => ?_)
        clear hK
        refine wpAnyHIn_next (i := 9) (by kernel_rfl) rfl (by rfl) (fun K hK => ?_)
        go_simp
        refine hK.out _ _ hS9 (fun _ => ?_)
        clear hK
        refine wpAnyHIn_done (by kernel_rfl) ?_ _
        refine noPanic_normal ?_
        exact hfin
      · go_simp
        refine ⟨trivial, (callsIn_wide.2 hcp).mono ?_⟩
        rintro e w5 ⟨v5, rfl, o5, g5⟩
        obtain ⟨a5, n5, c5, rfl⟩ : ∃ a n c, v5 = .slice a n c := by
          obtain ⟨_, ⟨rfl, _⟩ | ⟨g, cap, cur, rfl, _⟩⟩ := o5
          · exact ⟨_, _, _, rfl⟩
          · exact ⟨_, _, _, rfl⟩
        have hS5 : w5.cell? ⟨w.heap.size, 0, none⟩ = some (.func (.func g) #[] #[]) := g5.cell hSV (by simp)
        have r5 : w5.cell? ⟨w1.heap.size, 0, none⟩ = some v := g5.cell rV (by simp)
        have g7 := World.grownBy_alloc w5 (.cells #[encStr nm, .slice a5 n5 c5] 53) none
        have e7 := World.alloc_heap_new w5 (.cells #[encStr nm, .slice a5 n5 c5] 53)
        obtain ⟨w8, a8, n8, c8, hrun, r8, g8, hfr, hS9, hfin⟩ := hApp _ _ _ _ o5 g5
        refine hK.out _ _ hS5 (fun _ => ?_)
        clear hK
        refine wpAnyHIn_take (i := 6) (oi := ⟨some 21, _, _, _, _, _⟩) (v := ?_) rfl (by kernel_rfl) (by kernel_rfl) (by kernel_rfl) (by kernel_rfl) (fun _ _ _ h => h) (fun _ => rfl) (Or.inl ⟨by rfl, ?_⟩) (by assumption) ?_
        rotate_left
        · (intro w hSw; (try dsimp only at hSw); go_simp; try with_reducible rfl)
        try simp only [Act.put, List.setIfInBounds_toArray, List.set_cons_zero, List.set_cons_succ]
        refine wpAnyHIn_two (i := 0) (j := 7) (by kernel_rfl) rfl rfl (by rfl) (by rfl) (fun K hK => ?_) (fun K hK => ?_)
        · go_simp
          refine hK.out _ _ hS5 (fun _ => ?_)
          clear hK
          refine wpAnyHIn_next (i := 7) (by kernel_rfl) rfl (by rfl) (fun K hK => ?_)
          go_simp
          refine hK.out _ _ (g7.cell hS5 (by simp)) (fun _ => ?_)
          clear hK
          have r7 := g7.cell r5 (by simp)
          refine wpAnyHIn_next (i := 8) (by kernel_rfl) rfl (by rfl) (fun K hK => ?_)
          refine wpIn_app_run _ _ _ rfl v _ rfl rfl hrun ?_
          refine hK.out _ _ g8 (fun _ => ?_)
          clear hK
          refine wpAnyHIn_next (i := 9) (by kernel_rfl) rfl (by rfl) (fun K hK => ?_)
          go_simp
          refine hK.out _ _ hS9 (fun _ => ?_)
          clear hK
          refine wpAnyHIn_done (by kernel_rfl) ?_ _
          refine noPanic_normal ?_
          exact hfin
        · go_simp
          refine hK.out _ _ (g7.cell hS5 (by simp)) (fun _ => ?_)
          clear hK
          have r7 := g7.cell r5 (by simp)
          refine wpAnyHIn_next (i := 0) (by kernel_rfl) rfl (by rfl) (fun K hK => ?_)
          go_simp
          refine hK.out _ _ (g7.cell hS5 (by simp)) (fun _ => ?_)
          clear hK
          refine wpAnyHIn_next (i := 8) (by kernel_rfl) rfl (by rfl) (fun K hK => ?_)
          refine wpIn_app_run _ _ _ rfl v _ rfl rfl hrun ?_
          refine hK.out _ _ g8 (fun _ => ?_)
          clear hK
          refine wpAnyHIn_next (i := 9) (by kernel_rfl) rfl (by rfl) (fun K hK => ?_)
          go_simp
          refine hK.out _ _ hS9 (fun _ => ?_)
          clear hK
          refine wpAnyHIn_done (by kernel_rfl) ?_ _
          refine noPanic_normal ?_
          exact hfin
  case done =>
    rintro D Z xs Wd W15 hD hZD _ hZl hS ⟨Foot, hTI, hFt⟩ g15 hM
    obtain rfl : xs = l.sorted := hS
    have gp := grownBy_putObj' W15 D (.deferred none)
    have hTP := TellI.keep gw2.size _ _ _ _ _ hTI gp (fun k e => by cases e; exact ⟨hD, fun hF => (hFt _ hF).1 hZD⟩)
    obtain ⟨k1, k2, k3, k4, k5, v, rows, k6, k7, k8, k9, k10⟩ := hTI
    obtain ⟨a', c', rfl⟩ := rowFormS k7.1
    have r1 := k6.cell
    obtain ⟨j1, j2, j3, j4, j5, v', rows', j6, j7, j8, j9, j10⟩ := hTP
    have hvv : v' = .slice a' rows.length c' := by
      have e1 : (W15.putObj D (.deferred none)).heap[w1.heap.size]? = W15.heap[w1.heap.size]? := World.putObj_heap_other (by omega)
      have e2 := j6.symm.trans (e1.trans k6)
      simpa using e2
    subst hvv
    replace j7 := Lib.hid j7
    replace j8 := Lib.hid j8
    clear k6 k7 k8 k9 k10 k1 k3 j6 j9 j10 j3 hrow2 hbox hfn2 hf hd hd2 hp gp g15
    gi_wp2_with fail
    refine ⟨by simp, .inl ⟨_, _, rfl, run_takeDeferred hM, ?_⟩⟩
    generalize W15.putObj D (.deferred none) = W19 at j1 j7 ⊢
    simp [LeavesInM, LeavesIn, results, Tryz.results55, go_sem]
    exact ⟨rows', j7.out, j8.out, j1⟩
  case stop =>
    rintro D c Z pre W W' _ _ _ _ _ h
    exact h.elim
end Go.Proofs.YtafcgjbafihniaaGreat

/-
  LAYER 1 (fs): Files and Safe; many files in memory, their blocks apart.
-/
namespace Go.Proofs.YtafcgjbafihniaaGreat
set_option maxRecDepth 100000
open Go.RowKit Go.Lib
open Go.Proofs (encStr)
attribute [local go_sem] Oper.semAt_some

section
variable {q : Nat} {p : PlV} {ops : Int} {d s : Nat} {mv : Value}
set_option maxHeartbeats 4000000 in
theorem files_dead (w : World) (h : FsAt w q true p ops d s mv) :
    Calls Tryz.prog 22 #[.pointer (some ⟨q, 0, none⟩)] w fun e w' => e = .returned (.slice none 0 0) ∧ w = w' := by
  have hdead := dead_fs w h
  go_enter Tryz.func22, Tryz.ntmps22
  go_wp2_with (refine hdead.mono ?_; rintro e w2 ⟨rfl, rfl⟩)
  go_ret
  exact ⟨rfl, rfl⟩

set_option maxHeartbeats 4000000 in
theorem files_any (l : DirL) (F : Nat → FileV) (w : World) (h : FsAt w q false p ops d s mv) (hd : DirM w d l) (hf : ∀ x b, l.look x = some b → FileAt w b (F b) ∧ (F b).data.length ≤ 140737488355328) (hlim : l.length ≤ 3518437208881) :
    Calls Tryz.prog 22 #[.pointer (some ⟨q, 0, none⟩)] w fun e w' => ∃ v rows, e = .returned v ∧ FilesAt w' w.heap.size v rows ∧ rows.map (fun r => (r.1, r.2.2)) = l.sorted.map (fun x => (x.1, (F x.2).data)) ∧ w.grownBy w' none := by
  have hdead := dead_fs w h
  have x8 := h.dir
  have ht := tell_any _ _ _ selData d l F w hd hf hlim
  go_enter Tryz.func22, Tryz.ntmps22
  go_wp2_with first
    | (go_at_call 21; refine hdead.mono ?_; rintro e w2 ⟨rfl, rfl⟩)
    | (go_at_call 55; refine ht.mono ?_; rintro e w2 ⟨v, rows, rfl, k1, k2, k3⟩)
  go_ret
  exact ⟨v, rows, rfl, k1, k2, k3⟩

set_option maxHeartbeats 4000000 in
theorem safe_any {dead : Bool} (l : DirL) (F : Nat → FileV) (w : World) (h : FsAt w q dead p ops d s mv) (hd : DirM w s l) (hf : ∀ x b, l.look x = some b → FileAt w b (F b) ∧ (F b).safe.length ≤ 140737488355328) (hlim : l.length ≤ 3518437208881) :
    Calls Tryz.prog 27 #[.pointer (some ⟨q, 0, none⟩)] w fun e w' => ∃ v rows, e = .returned v ∧ FilesAt w' w.heap.size v rows ∧ rows.map (fun r => (r.1, r.2.2)) = l.sorted.map (fun x => (x.1, (F x.2).safe)) ∧ w.grownBy w' none := by
  have hdead := isMade_fs w h
  have x8 := h.safe
  have ht := tell_any _ _ _ selSafe s l F w hd hf hlim
  go_enter Tryz.func27, Tryz.ntmps27
  go_wp2_with first
    | (go_at_call 54; refine hdead.mono ?_; rintro e w2 ⟨rfl, rfl⟩)
    | (go_at_call 55; refine ht.mono ?_; rintro e w2 ⟨v, rows, rfl, k1, k2, k3⟩)
  go_ret
  exact ⟨v, rows, rfl, k1, k2, k3⟩
end

/-- Files in memory, whose blocks are apart. -/
def filesBlocks (fs : List (Nat × FileV)) : List Nat := fs.flatMap (fun p => p.1 :: p.2.blocks)
def FilesM (w : World) (fs : List (Nat × FileV)) : Prop := (∀ p ∈ fs, FileAt w p.1 p.2) ∧ (filesBlocks fs).Nodup
theorem filesBlocks_append (a b : List (Nat × FileV)) : filesBlocks (a ++ b) = filesBlocks a ++ filesBlocks b := by simp [filesBlocks]
theorem filesBlocks_cons (p : Nat × FileV) (b : List (Nat × FileV)) : filesBlocks (p :: b) = p.1 :: (p.2.blocks ++ filesBlocks b) := by simp [filesBlocks]
theorem mem_filesBlocks {fs : List (Nat × FileV)} {k : Nat} : k ∈ filesBlocks fs ↔ ∃ p ∈ fs, k = p.1 ∨ k ∈ p.2.blocks := by
  unfold filesBlocks
  rw [List.mem_flatMap]
  simp [List.mem_cons]
theorem FileAt.blocks_lt {w : World} {b : Nat} {f : FileV} (h : FileAt w b f) : ∀ k ∈ f.blocks, k < w.heap.size := by
  intro k hk
  rcases FileV.mem hk with e | e | e
  · exact (Owns.lt h.2.1 k e).2
  · exact (Owns.lt h.2.2.1 k e).2
  · exact (World.ownsRow.lt h.2.2.2.1 k e).2
theorem FilesM.lt {w : World} {fs : List (Nat × FileV)} (h : FilesM w fs) : ∀ k ∈ filesBlocks fs, k < w.heap.size := by
  intro k hk
  obtain ⟨p, hp, e | e⟩ := mem_filesBlocks.1 hk
  · rw [e]; exact (h.1 p hp).lt
  · exact (h.1 p hp).blocks_lt k e
theorem FilesM.kept {w w' : World} {fs : List (Nat × FileV)} {P : Nat → Prop} (h : FilesM w fs) (g : GP P w w') (hP : ∀ k ∈ filesBlocks fs, ¬ P k) : FilesM w' fs :=
  ⟨fun p hp => (h.1 p hp).kept g (hP _ (mem_filesBlocks.2 ⟨p, hp, .inl rfl⟩)) (fun k hk => hP _ (mem_filesBlocks.2 ⟨p, hp, .inr hk⟩)), h.2⟩
/-- One file is turned, and blocks beside all of them. -/
theorem FilesM.turn {w w' : World} {A B : List (Nat × FileV)} {b : Nat} {f f' : FileV} {P : Nat → Prop} (h : FilesM w (A ++ (b, f) :: B)) (g : GP P w w') (hP : ∀ k, P k → k = b ∨ k ∈ f.blocks ∨ k ∉ filesBlocks (A ++ B)) (hf : FileAt w' b f') (hb : ∀ k ∈ f'.blocks, k ∈ f.blocks ∨ w.heap.size ≤ k) : FilesM w' (A ++ (b, f') :: B) := by
  have hlt := h.lt
  obtain ⟨h1, h2⟩ := h
  have hn := h2
  rw [filesBlocks_append, filesBlocks_cons, List.nodup_append] at hn
  obtain ⟨nA, nB, nAB⟩ := hn
  have nB2 := List.nodup_cons.1 nB
  dsimp only at nB2
  have nfB := List.nodup_append.1 nB2.2
  rw [filesBlocks_append, filesBlocks_cons] at hlt
  have oA : ∀ k ∈ filesBlocks A, k ≠ b ∧ k ∉ f.blocks := fun k hk => ⟨fun e => nAB k hk b (by simp) e, fun hkf => nAB k hk k (by simp [hkf]) rfl⟩
  have oB : ∀ k ∈ filesBlocks B, k ≠ b ∧ k ∉ f.blocks := fun k hk => ⟨fun e => nB2.1 (by rw [← e]; simp [hk]), fun hkf => nfB.2.2 k hkf k hk rfl⟩
  have notP : ∀ k ∈ filesBlocks (A ++ B), ¬ P k := fun k hk hp => by
    have o : k ≠ b ∧ k ∉ f.blocks := by
      rw [filesBlocks_append, List.mem_append] at hk
      exact hk.elim (oA k) (oB k)
    rcases hP k hp with e | e | e
    · exact o.1 e
    · exact o.2 e
    · exact e hk
  refine ⟨fun p hp => ?_, ?_⟩
  · rcases List.mem_append.1 hp with hp | hp
    · exact (h1 p (by simp [hp])).kept g (notP _ (mem_filesBlocks.2 ⟨p, by simp [hp], .inl rfl⟩)) (fun k hk => notP _ (mem_filesBlocks.2 ⟨p, by simp [hp], .inr hk⟩))
    · rcases List.mem_cons.1 hp with rfl | hp
      · exact hf
      · exact (h1 p (by simp [hp])).kept g (notP _ (mem_filesBlocks.2 ⟨p, by simp [hp], .inl rfl⟩)) (fun k hk => notP _ (mem_filesBlocks.2 ⟨p, by simp [hp], .inr hk⟩))
  · have hnf := hf.2.2.2.2
    have hfb := List.nodup_cons.1 hnf
    rw [filesBlocks_append, filesBlocks_cons, List.nodup_append]
    have ltA : ∀ k ∈ filesBlocks A, k < w.heap.size := fun k hk => hlt k (by simp [hk])
    have ltB : ∀ k ∈ filesBlocks B, k < w.heap.size := fun k hk => hlt k (by simp [hk])
    refine ⟨nA, List.nodup_cons.2 ⟨?_, List.nodup_append.2 ⟨hfb.2, nfB.2.1, fun k hk k' hk' e => ?_⟩⟩, fun k hk k' hk' e => ?_⟩
    · dsimp only
      rw [List.mem_append, not_or]
      exact ⟨hfb.1, fun hk => (oB _ hk).1 rfl⟩
    · subst e
      rcases hb k hk with h3 | h3
      · exact (oB k hk').2 h3
      · have := ltB k hk'; omega
    · subst e
      dsimp only at hk'
      rw [List.mem_cons, List.mem_append] at hk'
      rcases hk' with e | e | e
      · exact (oA k hk).1 e
      · rcases hb k e with h3 | h3
        · exact (oA k hk).2 h3
        · have := ltA k hk; omega
      · exact nAB k hk k (by simp [e]) rfl
end Go.Proofs.YtafcgjbafihniaaGreat

/-
  LAYER 1 (fs): Each: the names and the sizes are taken one by one.
-/
namespace Go.Proofs.YtafcgjbafihniaaGreat
set_option maxRecDepth 100000
open Go.RowKit Go.Lib
open Go.Proofs (encStr)
attribute [local go_sem] Oper.semAt_some

theorem infoStrE : (Tryz.prog.info? 9).map (fun i => (i.zero, i.size, i.bytes)) = some (some (.string ⟨#[]⟩), 1, 16) := by kernel_rfl
theorem infoStrE_parts : ∃ i0 : TypeInfo, Tryz.prog.info? 9 = some i0 ∧ i0.zero = some (.string ⟨#[]⟩) ∧ i0.size = 1 ∧ i0.bytes = 16 := by
  have h := infoStrE
  cases hi : Tryz.prog.info? 9 with
  | none => rw [hi] at h; cases h
  | some i =>
    rw [hi] at h
    simp only [Option.map_some, Option.some.injEq, Prod.mk.injEq] at h
    exact ⟨i, rfl, h.1, h.2.1, h.2.2⟩

/-- An append whose run is known, in a region that doesn't draw. -/
theorem wpListIn_app_run {F : Fence} {n : Nat} {P : Program} {ops : Array Oper} {rest : List Oper} {o : Oper} {a : Act} {w : World} {Q : Exit → Act → World → Prop} (hgd : o.guard = none) (sl x : Operand) (t : TypeId) (ho : o.op = .call { callee := .builtin .append, args := #[sl, x], argTypes := #[t, t] })
    (v xv : Value) (hs : a.eval sl = v) (hx : a.eval x = xv) {v' : Value} {w' : World} (hrun : (Builtin.append_ #[t, t] o.type #[v, xv]).run P w = .ok v' w') (h : wpListIn F n P ops Q rest (a.put o.dst v') w') : wpListIn F n P ops Q (o :: rest) a w :=
  wpListIn_plain hgd fun _ hK => wpIn_app_run sl x t ho v xv hs hx hrun (hK _ _ h)

/-- One more cell in a row that a box holds. -/
theorem push_one {P : Program} (X : World) (base : Nat) (tS e : TypeId) (i : TypeInfo) (z : Value) (bytes : Nat) (ht : P.underlying tS = some (.slice e)) (hi : P.info? e = some i) (hz : i.zero = some z) (hs : i.size = 1) (hby : i.bytes = bytes) (hzs : z.cells.size = 1)
    (ob : Nat) (v x : Value) (n : Nat) (xs : List Value) (hb : Boxed X ob tS v) (hr : X.ownsRow base e 1 v n xs) (hne : e ≠ tS) (g : Nat) (hg : X.cell? ⟨g, 0, none⟩ = some x) (h1 : x.oneCell' = true) (h63 : n + 1 ≤ maxLen) (hbytes : (n + 1) * bytes ≤ 140737488355328) (hbase : base ≤ X.heap.size) :
    ∃ a8 c8 w8, (Builtin.append_ #[tS, tS] tS #[v, .slice (some ⟨g, 0, none⟩) 1 1]).run P X = .ok (.slice a8 (n + 1) c8) w8 ∧ w8.cell? ⟨ob, 0, none⟩ = some v ∧ w8.frozen? ⟨ob, 0, none⟩ = false ∧ X.grownBy w8 v.ownBlock ∧ v.ownBlock ≠ some ob ∧
      w8.grownBy (w8.setCell ⟨ob, 0, none⟩ (.slice a8 (n + 1) c8)) (some ob) ∧ Boxed (w8.setCell ⟨ob, 0, none⟩ (.slice a8 (n + 1) c8)) ob tS (.slice a8 (n + 1) c8) ∧ (w8.setCell ⟨ob, 0, none⟩ (.slice a8 (n + 1) c8)).ownsRow base e 1 (.slice a8 (n + 1) c8) (n + 1) (xs ++ [x]) ∧
      (∀ k, (Value.slice a8 (n + 1) c8).ownBlock = some k → v.ownBlock = some k ∨ X.heap.size ≤ k ∧ k < (w8.setCell ⟨ob, 0, none⟩ (.slice a8 (n + 1) c8)).heap.size) := by
  obtain ⟨v8, w8, hrun, o8, g8, _, hlies⟩ := run_append_own_at (P := P) X base tS tS e i z 1 bytes ht hi hz hs hby hzs (by decide) v n xs hr ⟨g, 0, none⟩ 1 1 [x] rfl (fun j u hj => by
    match j, hj with
    | 0, hj => simp at hj; subst hj; exact hg) (fun u hu => by simp at hu; rw [hu]; exact h1) h63 hbytes hbase
  obtain ⟨a8, c8, rfl⟩ := rowFormS o8
  have nob : v.ownBlock ≠ some ob := own_box hr hb hne
  have g8o := hb.kept g8 (fun e => nob e.symm)
  have gs := gset (World.grownBy.refl w8 (some ob)) 0 (.slice a8 (n + 1) c8)
  have nob8 : (Value.slice a8 (n + 1) c8).ownBlock ≠ some ob := own_box o8 g8o hne
  have hrow := World.ownsRow.kept o8 gs (by
    cases e2 : (Value.slice a8 (n + 1) c8).ownBlock with
    | none => exact .inl rfl
    | some k => exact .inr (fun e3 => nob8 (by rw [e2, e3])))
  refine ⟨a8, c8, w8, hrun, g8o.cell, g8o.frozen, g8, nob, gs, g8o.set _, hrow, fun k e2 => ?_⟩
  rcases hlies with e3 | e3
  · exact .inl (by rw [← e3]; exact e2)
  · right
    have := (World.ownsRow.lt hrow k e2).2
    rw [e2] at e3
    cases e3
    exact ⟨Nat.le_refl _, this⟩

/-- The names and the sizes so far. -/
def EachI (w0 : World) (n0 nb sb : Nat) (Foot : Nat → Prop) (ns : List (List UInt8)) (zs : List Int) (W : World) : Prop :=
  w0.grownBy W none ∧ n0 ≤ W.heap.size ∧ Foot nb ∧ Foot sb ∧ w0.heap.size ≤ nb ∧ w0.heap.size ≤ sb ∧ ∃ v u, Boxed W nb 127 v ∧ Boxed W sb 22 u ∧ W.ownsRow w0.heap.size 9 1 v ns.length (ns.map encStr) ∧ W.ownsRow w0.heap.size 3 1 u zs.length (zs.map intV) ∧
    (∀ k, v.ownBlock = some k → Foot k) ∧ ∀ k, u.ownBlock = some k → Foot k
theorem notOwn {v : Value} {q : Option Nat} (h : ∀ k, q = some k → v.ownBlock ≠ some k) : v.ownBlock = none ∨ v.ownBlock ≠ q := by
  cases e : v.ownBlock with
  | none => exact .inl rfl
  | some k => exact .inr (fun e2 => h k e2.symm e)
theorem EachI.keep {w0 : World} {n0 nb sb : Nat} (h0 : w0.heap.size ≤ n0) {Foot : Nat → Prop} {ns : List (List UInt8)} {zs : List Int} {A B : World} {q : Option Nat} : EachI w0 n0 nb sb Foot ns zs A → A.grownBy B q → (∀ k, q = some k → n0 ≤ k ∧ ¬ Foot k) → EachI w0 n0 nb sb Foot ns zs B := by
  rintro ⟨h1, h2, h3, h4, h3b, h4b, v, u, h5, h6, h7, h8, h9, h10⟩ g hq
  have ne : ∀ k, Foot k → some k ≠ q := fun k hk e => (hq k e.symm).2 hk
  exact ⟨gnew h1 g (fun k e => .inl (Nat.le_trans h0 (hq k e).1)), Nat.le_trans h2 g.size, h3, h4, h3b, h4b, v, u, h5.kept g (ne _ h3), h6.kept g (ne _ h4), World.ownsRow.kept h7 g (notOwn (fun k e e2 => (hq k e).2 (h9 k e2))), World.ownsRow.kept h8 g (notOwn (fun k e e2 => (hq k e).2 (h10 k e2))), h9, h10⟩

theorem EachI.pushN {w0 : World} {n0 nb sb : Nat} (hbs : nb ≠ sb) {Z Foot : Nat → Prop} {ns : List (List UInt8)} {zs : List Int} {W X : World} (h : EachI w0 n0 nb sb Foot ns zs W) (hFt : ∀ k, Foot k → ¬ Z k ∧ k < W.heap.size) (hZl : ∀ k, Z k → k < W.heap.size) (gX : W.grownBy X none)
    (v : Value) (hv : W.cell? ⟨nb, 0, none⟩ = some v) (nm : List UInt8) (g : Nat) (hg : X.cell? ⟨g, 0, none⟩ = some (encStr nm)) (hn : ns.length + 1 ≤ 3518437208882) :
    ∃ a8 n8 c8 w8, (Builtin.append_ #[127, 127] 127 #[v, .slice (some ⟨g, 0, none⟩) 1 1]).run Tryz.prog X = .ok (.slice a8 n8 c8) w8 ∧ w8.cell? ⟨nb, 0, none⟩ = some v ∧ w8.frozen? ⟨nb, 0, none⟩ = false ∧ ∃ Foot' : Nat → Prop,
      EachI w0 n0 nb sb Foot' (ns ++ [nm]) zs (w8.setCell ⟨nb, 0, none⟩ (.slice a8 n8 c8)) ∧ (∀ k, Foot' k → ¬ Z k ∧ k < (w8.setCell ⟨nb, 0, none⟩ (.slice a8 n8 c8)).heap.size) ∧ ZK Z W (w8.setCell ⟨nb, 0, none⟩ (.slice a8 n8 c8)) := by
  obtain ⟨h1, h2, h3, h4, h3b, h4b, v', u, h5, h6, h7, h8, h9, h10⟩ := h
  obtain rfl : v' = v := by have := h5.cell; rw [hv] at this; simpa using this.symm
  obtain ⟨i0, hi, hz0, hz1, hz2⟩ := infoStrE_parts
  obtain ⟨a8, c8, w8, r1, r2, r3, g8, nob, gs, r6, r7, r8⟩ := push_one (P := Tryz.prog) X w0.heap.size 127 9 i0 (.string ⟨#[]⟩) 16 Tryz.underlying127 hi hz0 hz1 hz2 rfl nb v' (encStr nm) ns.length (ns.map encStr) (h5.kept gX (by simp)) (World.ownsRow.kept h7 gX (notOwn (by simp))) (by decide) g hg rfl (by unfold maxLen; omega) (by omega) (by have := h1.size; have := gX.size; omega)
  have h6X := h6.kept gX (by simp)
  have h8X := World.ownsRow.kept h8 gX (notOwn (by simp))
  have h7X := World.ownsRow.kept h7 gX (notOwn (by simp))
  have nsb : v'.ownBlock ≠ some sb := own_box h7X h6X (by decide)
  have nvu : ∀ k, v'.ownBlock = some k → u.ownBlock ≠ some k := own_own h7X h8X (by decide)
  have nub : u.ownBlock ≠ some nb := own_box h8 h5 (by decide)
  have h68 := (h6X.kept g8 (fun e => nsb e.symm)).kept gs (by simp; exact fun e => hbs e.symm)
  have h88 := World.ownsRow.kept (World.ownsRow.kept h8X g8 (notOwn nvu)) gs (notOwn (fun k e => by cases e; exact nub))
  have sX := gX.size
  have s8 := g8.size
  have ss := gs.size
  have hvl := World.ownsRow.lt h7
  refine ⟨a8, _, c8, w8, r1, r2, r3, fun k => Foot k ∨ W.heap.size ≤ k ∧ k < (w8.setCell ⟨nb, 0, none⟩ (.slice a8 (ns.length + 1) c8)).heap.size, ⟨?_, by omega, .inl h3, .inl h4, h3b, h4b, _, u, r6, h68, ?_, h88, fun k e => ?_, fun k e => .inl (h10 k e)⟩, fun k hk => ?_, ?_⟩
  · exact gnew (gnew (h1.trans gX) g8 (fun k e => .inl (hvl k e).1)) gs (fun k e => by cases e; exact .inl h3b)
  · rw [List.map_append, List.length_append]
    exact r7
  · rcases r8 k e with e2 | e2
    · exact .inl (h9 k e2)
    · exact .inr ⟨by omega, e2.2⟩
  · rcases hk with hk | hk
    · exact ⟨(hFt k hk).1, by have := (hFt k hk).2; omega⟩
    · exact ⟨fun hz => by have := hZl k hz; omega, hk.2⟩
  · exact ((ZK.of gX (by simp)).trans (ZK.of g8 (fun k e hz => (hFt k (h9 k e)).1 hz))).trans (ZK.of gs (fun k e hz => by cases e; exact (hFt _ h3).1 hz))

theorem EachI.pushS {w0 : World} {n0 nb sb : Nat} (hbs : nb ≠ sb) {Z Foot : Nat → Prop} {ns : List (List UInt8)} {zs : List Int} {W X : World} (h : EachI w0 n0 nb sb Foot ns zs W) (hFt : ∀ k, Foot k → ¬ Z k ∧ k < W.heap.size) (hZl : ∀ k, Z k → k < W.heap.size) (gX : W.grownBy X none)
    (u : Value) (hu : W.cell? ⟨sb, 0, none⟩ = some u) (x : Int) (g : Nat) (hg : X.cell? ⟨g, 0, none⟩ = some (intV x)) (hn : zs.length + 1 ≤ 3518437208882) :
    ∃ a8 n8 c8 w8, (Builtin.append_ #[22, 22] 22 #[u, .slice (some ⟨g, 0, none⟩) 1 1]).run Tryz.prog X = .ok (.slice a8 n8 c8) w8 ∧ w8.cell? ⟨sb, 0, none⟩ = some u ∧ w8.frozen? ⟨sb, 0, none⟩ = false ∧ X.grownBy w8 u.ownBlock ∧ ∃ Foot' : Nat → Prop,
      EachI w0 n0 nb sb Foot' ns (zs ++ [x]) (w8.setCell ⟨sb, 0, none⟩ (.slice a8 n8 c8)) ∧ (∀ k, Foot' k → ¬ Z k ∧ k < (w8.setCell ⟨sb, 0, none⟩ (.slice a8 n8 c8)).heap.size) ∧ ZK Z W (w8.setCell ⟨sb, 0, none⟩ (.slice a8 n8 c8)) := by
  obtain ⟨h1, h2, h3, h4, h3b, h4b, v, u', h5, h6, h7, h8, h9, h10⟩ := h
  obtain rfl : u' = u := by have := h6.cell; rw [hu] at this; simpa using this.symm
  obtain ⟨i0, hi, hz0, hz1, hz2⟩ := infoInt_parts
  obtain ⟨a8, c8, w8, r1, r2, r3, g8, nob, gs, r6, r7, r8⟩ := push_one (P := Tryz.prog) X w0.heap.size 22 3 i0 (.int .i64 0) 8 Tryz.underlying22 hi hz0 hz1 hz2 rfl sb u' (intV x) zs.length (zs.map intV) (h6.kept gX (by simp)) (World.ownsRow.kept h8 gX (notOwn (by simp))) (by decide) g hg rfl (by unfold maxLen; omega) (by omega) (by have := h1.size; have := gX.size; omega)
  have h5X := h5.kept gX (by simp)
  have h8X := World.ownsRow.kept h8 gX (notOwn (by simp))
  have h7X := World.ownsRow.kept h7 gX (notOwn (by simp))
  have nsb : u'.ownBlock ≠ some nb := own_box h8X h5X (by decide)
  have nvu : ∀ k, u'.ownBlock = some k → v.ownBlock ≠ some k := own_own h8X h7X (by decide)
  have nub : v.ownBlock ≠ some sb := own_box h7 h6 (by decide)
  have h58 := (h5X.kept g8 (fun e => nsb e.symm)).kept gs (by simp; exact hbs)
  have h78 := World.ownsRow.kept (World.ownsRow.kept h7X g8 (notOwn nvu)) gs (notOwn (fun k e => by cases e; exact nub))
  have sX := gX.size
  have s8 := g8.size
  have ss := gs.size
  have hvl := World.ownsRow.lt h8
  refine ⟨a8, _, c8, w8, r1, r2, r3, g8, fun k => Foot k ∨ W.heap.size ≤ k ∧ k < (w8.setCell ⟨sb, 0, none⟩ (.slice a8 (zs.length + 1) c8)).heap.size, ⟨?_, by omega, .inl h3, .inl h4, h3b, h4b, v, _, h58, r6, h78, ?_, fun k e => .inl (h9 k e), fun k e => ?_⟩, fun k hk => ?_, ?_⟩
  · exact gnew (gnew (h1.trans gX) g8 (fun k e => .inl (hvl k e).1)) gs (fun k e => by cases e; exact .inl h4b)
  · rw [List.map_append, List.length_append]
    exact r7
  · rcases r8 k e with e2 | e2
    · exact .inl (h10 k e2)
    · exact .inr ⟨by omega, e2.2⟩
  · rcases hk with hk | hk
    · exact ⟨(hFt k hk).1, by have := (hFt k hk).2; omega⟩
    · exact ⟨fun hz => by have := hZl k hz; omega, hk.2⟩
  · exact ((ZK.of gX (by simp)).trans (ZK.of g8 (fun k e hz => (hFt k (h10 k e)).1 hz))).trans (ZK.of gs (fun k e hz => by cases e; exact (hFt _ h4).1 hz))
end Go.Proofs.YtafcgjbafihniaaGreat

/-
  LAYER 1 (fs): a file's settle, with whatever tells the numbers.
-/
namespace Go.Proofs.YtafcgjbafihniaaGreat
set_option maxRecDepth 100000
open Go.RowKit Go.Lib
attribute [local go_sem] Oper.semAt_some

/-- Each change may be behind those ahead of it. -/
def okL : List UInt8 → List Chg → Prop
  | _, [] => True
  | bs, c :: l => c.may bs ∧ okL (c.done bs) l
/-- What is safe behind the changes, by the numbers ks from i on. -/
def settleP (ks : Nat → Int) : Nat → Bool → List UInt8 → List Chg → List UInt8
  | _, _, bs, [] => bs
  | i, true, bs, c :: l => settleP ks (i + 1) (c.kept (ks i) bs).2 (c.kept (ks i) bs).1 l
  | i, false, bs, _ :: l => settleP ks (i + 1) false bs l

theorem kept_whole (k : Int) (bs : List UInt8) (c : Chg) (h : (c.kept k bs).2 = true) : (c.kept k bs).1 = c.done bs := by
  cases c with
  | add a =>
    simp only [Chg.kept, decide_eq_true_eq] at h
    simp only [Chg.kept, Chg.done, h]
    rw [List.take_of_length_le (by simp)]
  | cut c =>
    simp only [Chg.kept] at h
    simp [Chg.kept, Chg.done, h]

/-- What tells the numbers: a function value, of a state that lies in the blocks nb; it turns block R. -/
structure NextOk (P : Program) (g : Nat) (lb : Array Value) (ks : Nat → Int) (R : Option Nat) (nb : List Nat) (NS : Nat → World → Prop) : Prop where
  enter : ∀ args W, (callFunc g args).run P W = .ok (.enter g args) W
  call : ∀ i W, i < 4611686018427387904 → NS i W → Calls P g lb W fun e W' => e = .returned (.int .i64 (ks i)) ∧ NS (i + 1) W' ∧ W.grownBy W' R
  kept : ∀ i A B, NS i A → (∀ k ∈ nb, B.heap[k]? = A.heap[k]?) → NS i B
  mem : ∀ r, R = some r → r ∈ nb
  lt : ∀ i A, NS i A → ∀ k ∈ nb, k < A.heap.size

set_option maxHeartbeats 8000000 in
theorem settle_any (g : Nat) (lb : Array Value) (ks : Nat → Int) (R : Option Nat) (nb : List Nat) (NS : Nat → World → Prop) (N : NextOk Tryz.prog g lb ks R nb NS) (b : Nat) (f : FileV) (w : World) (i0 : Nat) (h : FileAt w b f) (hN : NS i0 w)
    (hok : okL f.safe f.chg) (hn : i0 + f.chg.length < 4611686018427387904) (hap : b ∉ nb ∧ ∀ k ∈ f.blocks, k ∉ nb) :
    Calls Tryz.prog 58 #[.pointer (some ⟨b, 0, none⟩), .func (.func g) #[] lb] w fun e w' => e = .returned (.tuple #[]) ∧ ∃ sv, FileAt w' b { f with sv := sv, cv := .slice none 0 0, safe := settleP ks i0 true f.safe f.chg, chg := [] } ∧ NS (i0 + f.chg.length) w' ∧
      GP (fun k => k = b ∨ f.sv.ownBlock = some k ∨ R = some k) w w' ∧ (∀ k, sv.ownBlock = some k → f.sv.ownBlock = some k ∨ w.heap.size ≤ k) := by
  have c2 := h.c2
  obtain ⟨ac, cc, hcv⟩ : ∃ a c, f.cv = .slice a f.chg.length c := by
    obtain ⟨_, ⟨e, hz⟩ | ⟨g, cap, cur, e, _⟩⟩ := h.2.2.2.1
    · exact ⟨none, 0, by rw [e, hz]⟩
    · exact ⟨_, _, e⟩
  rw [hcv] at c2
  have hent := N.enter
  have hl0 := N.lt i0 w hN
  obtain ⟨fin, hfin⟩ : ∃ x, x = settleP ks i0 true f.safe f.chg := ⟨_, rfl⟩
  rw [← hfin]
  replace hfin := Lib.hid hfin
  go_enter Tryz.func58, Tryz.ntmps58
  go_wp2
  go_loopw [4, 6, 7, 13] (fun v4 _ _ vi wr => ∃ (j : Nat) (wh : Bool) (sv : Value) (bs : List UInt8), v4 = .bool wh ∧ vi = .int .i64 (j : Int) ∧ j ≤ f.chg.length ∧ Hid (FileAt wr b { f with sv := sv, safe := bs }) ∧ Hid (NS (i0 + j) wr) ∧ Hid (settleP ks (i0 + j) wh bs (f.chg.drop j) = fin) ∧
    Hid (wh = true → okL bs (f.chg.drop j)) ∧ Hid (GP (fun k => k = b ∨ f.sv.ownBlock = some k ∨ R = some k) w wr) ∧ Hid (∀ k, sv.ownBlock = some k → f.sv.ownBlock = some k ∨ w.heap.size ≤ k)) (fun _ _ _ vi _ => f.chg.length - (RowKit.intOf vi).toNat)
  case atStart => exact ⟨0, true, f.sv, f.safe, rfl, rfl, Nat.zero_le _, Lib.hid h, Lib.hid hN, Lib.hid hfin.out.symm, Lib.hid (fun _ => hok), Lib.hid (GP.refl _ _), Lib.hid (fun k e => .inl e)⟩
  case round =>
    obtain ⟨j, wh, sv, bs, rfl, rfl, hj, hF, hNS, hE, hO, hG, hB⟩ := hrel
    by_cases hlt : j < f.chg.length
    · obtain ⟨c, hc⟩ : ∃ c, c = f.chg[j] := ⟨_, rfl⟩
      have hdrop : f.chg.drop j = c :: f.chg.drop (j + 1) := by rw [hc]; exact List.drop_eq_getElem_cons hlt
      have hna := fun m W => nilAhead_kept c m W
      have hme := fun m W => method_kept c m W
      have hcf := fun args W => callFunc_kept c args W
      obtain ⟨gc, hgc, hcell⟩ : ∃ gc, ac = some ⟨gc, 0, none⟩ ∧ wr.cell? ⟨gc, j, none⟩ = some c.v := by
        have hrow := hF.out.2.2.2.1
        dsimp only at hrow
        rw [hcv] at hrow
        have hr0 := hrow
        obtain ⟨_, ⟨e, hz⟩ | ⟨g9, cap, cur, e, _⟩⟩ := hrow
        · omega
        · simp at e
          obtain ⟨rfl, rfl⟩ := e
          refine ⟨g9, rfl, ?_⟩
          rw [World.ownsRow.cellAt hr0 j (by omega)]
          simp [hc, hlt]
      subst hgc
      obtain ⟨ty, x, hv⟩ := c.form
      rw [hv] at hna hme hcell
      replace hv := Lib.hid hv
      rw [hdrop] at hE hO
      replace hc := Lib.hid hc
      clear hdrop
      have nbF : b ∉ nb ∧ ∀ k ∈ (FileV.blocks { f with sv := sv, safe := bs }), k ∉ nb := by
        refine ⟨hap.1, fun k hk hkn => ?_⟩
        rcases FileV.mem hk with e | e | e
        · rcases hB.out k e with e2 | e2
          · exact hap.2 k (FileV.mem_s e2) hkn
          · have := hl0 k hkn; omega
        · exact hap.2 k (FileV.mem_d e) hkn
        · exact hap.2 k (FileV.mem_c e) hkn
      replace nbF := Lib.hid nbF
      cases wh
      · go_wp2_with (refine (N.call (i0 + j) _ (by omega) hNS.out).mono ?_; rintro e w2 ⟨rfl, hN2, g2⟩)
        have gg := GP.of (P := fun k => R = some k) g2 (fun _ h => h)
        have hF2 := hF.out.kept gg (fun e => nbF.out.1 (N.mem _ e)) (fun k hk e => nbF.out.2 k hk (N.mem _ e))
        refine ⟨⟨j + 1, false, sv, bs, rfl, by go_num, by omega, Lib.hid hF2, Lib.hid (by rw [← Nat.add_assoc]; exact hN2), Lib.hid (by rw [← Nat.add_assoc]; exact hE.out), Lib.hid (fun e => by cases e), Lib.hid (hG.out.step g2 (fun k e => .inl (.inr (.inr e)))), hB⟩, by simp [RowKit.intOf]; omega⟩
      · go_upto_region 6 with (refine (N.call (i0 + j) _ (by omega) hNS.out).mono ?_; rintro e w2 ⟨rfl, hN2, g2⟩)
        have gg := GP.of (P := fun k => R = some k) g2 (fun _ h => h)
        have hF2 := hF.out.kept gg (fun e => nbF.out.1 (N.mem _ e)) (fun k hk e => nbF.out.2 k hk (N.mem _ e))
        have hG2 := hG.out.step g2 (fun k e => .inl (.inr (.inr e)))
        have hO2 := hO.out (by first | trivial | rfl)
        have hmay : c.may bs := hO2.1
        obtain ⟨hb2, hs2, hd2, hc2, hnd⟩ := hF2
        dsimp only at hb2 hs2 hd2 hc2 hnd
        have hsb : sv.ownBlock ≠ some b := fun e => by have := (List.nodup_cons.1 hnd).1; simp [FileV.blocks, e] at this
        have hnd2 := (List.nodup_cons.1 hnd).2
        have hsd : ∀ k, sv.ownBlock = some k → f.dv.ownBlock ≠ some k := fun k e e2 => by
          unfold FileV.blocks at hnd2
          dsimp only at hnd2
          rw [e, e2, List.nodup_append] at hnd2
          have := (List.nodup_append.1 hnd2.1).2.2
          exact this k (by simp) k (by simp) rfl
        have hsc : ∀ k, sv.ownBlock = some k → f.cv.ownBlock ≠ some k := fun k e e2 => by
          unfold FileV.blocks at hnd2
          dsimp only at hnd2
          rw [e, e2, List.nodup_append] at hnd2
          exact hnd2.2.2 k (by simp) k (by simp) rfl
        have hKept := fun W h hB => kept_any c (ks (i0 + j)) 0 sv bs W h hmay hB
        have hW9 := kept_whole (ks (i0 + j)) bs c
        rw [settleP] at hE
        obtain ⟨nb2, hnb2⟩ : ∃ y, y = (c.kept (ks (i0 + j)) bs).1 := ⟨_, rfl⟩
        obtain ⟨wh2, hwh2⟩ : ∃ y, y = (c.kept (ks (i0 + j)) bs).2 := ⟨_, rfl⟩
        have hE2 : Hid (settleP ks (i0 + j + 1) wh2 nb2 (f.chg.drop (j + 1)) = fin) := Lib.hid (by rw [hnb2, hwh2]; exact hE.out)
        rw [← hnb2, ← hwh2] at hKept hW9
        clear hnb2 hwh2 hE
        replace hW9 := Lib.hid hW9
        refine wp_region_held_drew (S := fun _ => True) (by kernel_rfl) trivial (fun hS0 => ?_)
        have hs3 : Owns w2.drew 0 5 sv bs := Owns.kept hs2 (gdrew (World.grownBy.refl w2 none)) (by cases sv.ownBlock <;> simp)
        obtain ⟨V, hV⟩ : ∃ V, V = w2.drew := ⟨_, rfl⟩
        have gV : w2.grownBy V none := by rw [hV]; exact gdrew (World.grownBy.refl w2 none)
        rw [← hV] at hs3 ⊢
        clear hV
        have hbV := (gV.block b (lt_of_block hb2) (by simp)).trans hb2
        have l1 : V.cell? ⟨b, 0, none⟩ = some sv := by simp [World.cell?, hbV]
        refine wpAnyH_take (i := 0) (oi := ⟨some 21, _, _, _, _, _⟩) (v := ?_) rfl (by kernel_rfl) (by kernel_rfl) (by kernel_rfl) (fun _ _ _ h => h) (Or.inl ⟨by rfl, ?_⟩) (by assumption) ?_
        rotate_left
        · (intro w hSw; (try dsimp only at hSw); go_simp; try with_reducible rfl)
        try simp only [Act.put, List.setIfInBounds_toArray, List.set_cons_zero, List.set_cons_succ]
        refine wpAnyH_take (i := 1) (oi := ⟨some 22, _, _, _, _, _⟩) (v := ?_) rfl (by kernel_rfl) (by kernel_rfl) (by kernel_rfl) (fun _ _ _ h => h) (Or.inl ⟨by rfl, ?_⟩) (by assumption) ?_
        rotate_left
        · (intro w hSw; (try dsimp only at hSw); go_simp; try with_reducible rfl)
        try simp only [Act.put, List.setIfInBounds_toArray, List.set_cons_zero, List.set_cons_succ]
        refine wpAnyH_take (i := 2) (oi := ⟨some 23, _, _, _, _, _⟩) (v := ?_) rfl (by kernel_rfl) (by kernel_rfl) (by kernel_rfl) (fun _ _ _ h => h) (Or.inl ⟨by rfl, ?_⟩) (by assumption) ?_
        rotate_left
        · (intro w hSw; (try dsimp only at hSw); go_simp; try with_reducible rfl)
        try simp only [Act.put, List.setIfInBounds_toArray, List.set_cons_zero, List.set_cons_succ]
        refine wpAnyH_take (i := 3) (oi := ⟨some 24, _, _, _, _, _⟩) (v := ?_) rfl (by kernel_rfl) (by kernel_rfl) (by kernel_rfl) (fun _ _ _ h => h) (Or.inl ⟨by rfl, ?_⟩) (by assumption) ?_
        rotate_left
        · (intro w hSw; (try dsimp only at hSw); go_simp; try with_reducible rfl)
        try simp only [Act.put, List.setIfInBounds_toArray, List.set_cons_zero, List.set_cons_succ]
        refine wpAnyH_take (i := 4) (oi := ⟨some 25, _, _, _, _, _⟩) (v := ?_) rfl (by kernel_rfl) (by kernel_rfl) (by kernel_rfl) (fun _ _ _ h => h) (Or.inl ⟨by rfl, ?_⟩) (by assumption) ?_
        rotate_left
        · (intro w hSw; (try dsimp only at hSw); go_simp; try with_reducible rfl)
        try simp only [Act.put, List.setIfInBounds_toArray, List.set_cons_zero, List.set_cons_succ]
        refine wpAnyH_take (i := 6) (oi := ⟨some 27, _, _, _, _, _⟩) (v := ?_) rfl (by kernel_rfl) (by kernel_rfl) (by kernel_rfl) (fun _ _ _ h => h) (Or.inl ⟨by rfl, ?_⟩) (by assumption) ?_
        rotate_left
        · (intro w hSw; (try dsimp only at hSw); go_simp; try with_reducible rfl)
        try simp only [Act.put, List.setIfInBounds_toArray, List.set_cons_zero, List.set_cons_succ]
        refine wpAnyH_take (i := 7) (oi := ⟨some 28, _, _, _, _, _⟩) (v := ?_) rfl (by kernel_rfl) (by kernel_rfl) (by kernel_rfl) (fun _ _ _ h => h) (Or.inl ⟨by rfl, ?_⟩) (by assumption) ?_
        rotate_left
        · (intro w hSw; (try dsimp only at hSw); go_simp; try with_reducible rfl)
        try simp only [Act.put, List.setIfInBounds_toArray, List.set_cons_zero, List.set_cons_succ]
        refine wpAnyH_take (i := 8) (oi := ⟨some 29, _, _, _, _, _⟩) (v := ?_) rfl (by kernel_rfl) (by kernel_rfl) (by kernel_rfl) (fun _ _ _ h => h) (Or.inl ⟨by rfl, ?_⟩) (by assumption) ?_
        rotate_left
        · (intro w hSw; (try dsimp only at hSw); go_simp; try with_reducible rfl)
        try simp only [Act.put, List.setIfInBounds_toArray, List.set_cons_zero, List.set_cons_succ]
        refine wpAnyH_take (i := 9) (oi := ⟨some 30, _, _, _, _, _⟩) (v := ?_) rfl (by kernel_rfl) (by kernel_rfl) (by kernel_rfl) (fun _ _ _ h => h) (Or.inl ⟨by rfl, ?_⟩) (by assumption) ?_
        rotate_left
        · (intro w hSw; (try dsimp only at hSw); go_simp; try with_reducible rfl)
        try simp only [Act.put, List.setIfInBounds_toArray, List.set_cons_zero, List.set_cons_succ]
        refine wpAnyH_ready (rs := [5]) (by kernel_rfl) (by simp) ?_
        refine AllReadyH.cons rfl (fun K hK => ?_) AllReadyH.nil
        go_simp
        refine hK.out _ _ trivial (fun _ => ?_)
        clear hK
        refine wpAnyH_ready (rs := [10]) (by kernel_rfl) (by simp) ?_
        refine AllReadyH.cons rfl (fun K hK => ?_) AllReadyH.nil
        go_simp
        refine (hKept _ hs3 (Nat.zero_le _)).mono ?_
        rintro e w5 ⟨v5, rfl, ho5, g5, hl5⟩
        refine hK.out _ _ trivial (fun _ => ?_)
        clear hK
        refine wpAnyH_take (i := 11) (oi := ⟨some 20, _, _, _, _, _⟩) (v := ?_) rfl (by kernel_rfl) (by kernel_rfl) (by kernel_rfl) (fun _ _ _ h => h) (Or.inl ⟨by rfl, ?_⟩) (by assumption) ?_
        rotate_left
        · (intro w hSw; (try dsimp only at hSw); go_simp; try with_reducible rfl)
        try simp only [Act.put, List.setIfInBounds_toArray, List.set_cons_zero, List.set_cons_succ]
        refine wpAnyH_take (i := 12) (oi := ⟨some 32, _, _, _, _, _⟩) (v := ?_) rfl (by kernel_rfl) (by kernel_rfl) (by kernel_rfl) (fun _ _ _ h => h) (Or.inl ⟨by rfl, ?_⟩) (by assumption) ?_
        rotate_left
        · (intro w hSw; (try dsimp only at hSw); go_simp; try with_reducible rfl)
        try simp only [Act.put, List.setIfInBounds_toArray, List.set_cons_zero, List.set_cons_succ]
        refine wpAnyH_take (i := 13) (oi := ⟨some 33, _, _, _, _, _⟩) (v := ?_) rfl (by kernel_rfl) (by kernel_rfl) (by kernel_rfl) (fun _ _ _ h => h) (Or.inl ⟨by rfl, ?_⟩) (by assumption) ?_
        rotate_left
        · (intro w hSw; (try dsimp only at hSw); go_simp; try with_reducible rfl)
        try simp only [Act.put, List.setIfInBounds_toArray, List.set_cons_zero, List.set_cons_succ]
        refine wpAnyH_take (i := 14) (oi := ⟨some 34, _, _, _, _, _⟩) (v := ?_) rfl (by kernel_rfl) (by kernel_rfl) (by kernel_rfl) (fun _ _ _ h => h) (Or.inl ⟨by rfl, ?_⟩) (by assumption) ?_
        rotate_left
        · (intro w hSw; (try dsimp only at hSw); go_simp; try with_reducible rfl)
        try simp only [Act.put, List.setIfInBounds_toArray, List.set_cons_zero, List.set_cons_succ]
        refine wpAnyH_take (i := 15) (oi := ⟨some 35, _, _, _, _, _⟩) (v := ?_) rfl (by kernel_rfl) (by kernel_rfl) (by kernel_rfl) (fun _ _ _ h => h) (Or.inl ⟨by rfl, ?_⟩) (by assumption) ?_
        rotate_left
        · (intro w hSw; (try dsimp only at hSw); go_simp; try with_reducible rfl)
        try simp only [Act.put, List.setIfInBounds_toArray, List.set_cons_zero, List.set_cons_succ]
        refine wpAnyH_ready (rs := [16]) (by kernel_rfl) (by simp) ?_
        refine AllReadyH.cons rfl (fun K hK => ?_) AllReadyH.nil
        have hb5 := (g5.block b (lt_of_block hbV) (fun e => hsb e.symm)).trans hbV
        have q1 : w5.frozen? ⟨b, 0, none⟩ = false := by simp [World.frozen?, hb5]
        have q2 : w5.cell? ⟨b, 0, none⟩ = some sv := by simp [World.cell?, hb5]
        obtain ⟨a5, n5, c5, rfl⟩ : ∃ a n c, v5 = .slice a n c := by
          obtain ⟨_, ⟨rfl, _⟩ | ⟨g, cap, cur, rfl, _⟩⟩ := ho5
          · exact ⟨_, _, _, rfl⟩
          · exact ⟨_, _, _, rfl⟩
        go_simp
        refine hK.out _ _ trivial (fun _ => ?_)
        clear hK
        refine wpAnyH_take (i := 17) (oi := ⟨some 4, _, _, _, _, _⟩) (v := ?_) rfl (by kernel_rfl) (by kernel_rfl) (by kernel_rfl) (fun _ _ _ h => h) (Or.inl ⟨by rfl, ?_⟩) (by assumption) ?_
        rotate_left
        · (intro w hSw; (try dsimp only at hSw); go_simp; try with_reducible rfl)
        try simp only [Act.put, List.setIfInBounds_toArray, List.set_cons_zero, List.set_cons_succ]
        refine wpAnyH_done (by kernel_rfl) ?_ _
        go_wp2_with fail
        have alt : ∀ (v : Value) (q : Option Nat), (∀ k, v.ownBlock = some k → q ≠ some k) → v.ownBlock = none ∨ v.ownBlock ≠ q := fun v q h => by
          cases e : v.ownBlock with
          | none => exact .inl rfl
          | some k => exact .inr (fun e2 => h k e e2.symm)
        have hdb : f.dv.ownBlock ≠ some b := fun e => by have := (List.nodup_cons.1 hnd).1; simp [FileV.blocks, e] at this
        have hcb : f.cv.ownBlock ≠ some b := fun e => by have := (List.nodup_cons.1 hnd).1; simp [FileV.blocks, e] at this
        have hdc : ∀ k, f.dv.ownBlock = some k → f.cv.ownBlock ≠ some k := fun k e e2 => by
          unfold FileV.blocks at hnd2
          dsimp only at hnd2
          rw [e, e2, List.nodup_append] at hnd2
          exact hnd2.2.2 k (by simp) k (by simp) rfl
        have gF := gset (World.grownBy.refl w5 (some b)) 0 (.slice a5 n5 c5)
        have hb6 := heap_setCell_same w5 b 0 _ _ (.slice a5 n5 c5) hb5
        obtain ⟨Z, hZ⟩ : ∃ Z, Z = w5.setCell ⟨b, 0, none⟩ (.slice a5 n5 c5) := ⟨_, rfl⟩
        rw [← hZ] at gF hb6 ⊢
        clear hZ
        have Vs := gV.size
        have w2s := g2.size
        have wrs := hG.out.size
        have bV := lt_of_block hbV
        have dold : ∀ k, f.dv.ownBlock = some k → k < V.heap.size := fun k e => by have := (Owns.lt hd2 k e).2; omega
        have cold : ∀ k, f.cv.ownBlock = some k → k < V.heap.size := fun k e => by have := (World.ownsRow.lt hc2 k e).2; omega
        have hvn : ∀ k, (Value.slice a5 n5 c5).ownBlock = some k → sv.ownBlock = some k ∨ k = V.heap.size := fun k e => by
          rcases hl5 with e2 | e2
          · left; rw [← e2]; exact e
          · right; rw [e] at e2; simpa using e2
        have hvb : (Value.slice a5 n5 c5).ownBlock ≠ some b := fun e => by
          rcases hvn b e with h | h
          · exact hsb h
          · omega
        have vd : ∀ k, (Value.slice a5 n5 c5).ownBlock = some k → f.dv.ownBlock ≠ some k := fun k e e2 => by
          rcases hvn k e with h | h
          · exact hsd k h e2
          · have := dold k e2; omega
        have vc : ∀ k, (Value.slice a5 n5 c5).ownBlock = some k → f.cv.ownBlock ≠ some k := fun k e e2 => by
          rcases hvn k e with h | h
          · exact hsc k h e2
          · have := cold k e2; omega
        have hd6 := ((Owns.kept hd2 gV (alt _ _ (fun k _ => by simp))).kept g5 (alt _ _ (fun k e e2 => hsd k e2 e))).kept gF (alt _ _ (fun k e e2 => hdb (by rw [e]; simpa using e2.symm)))
        have hc6 := World.ownsRow.kept (World.ownsRow.kept (World.ownsRow.kept hc2 gV (alt _ _ (fun k _ => by simp))) g5 (alt _ _ (fun k e e2 => hsc k e2 e))) gF (alt _ _ (fun k e e2 => hcb (by rw [e]; simpa using e2.symm)))
        have hv6 := Owns.kept ho5 gF (alt _ _ (fun k e e2 => hvb (by rw [e]; simpa using e2.symm)))
        have hFZ : FileAt Z b { f with sv := .slice a5 n5 c5, safe := nb2 } := ⟨hb6, hv6, hd6, hc6, nodup3 hvb hdb hcb vd vc hdc⟩
        have gX := (((GP.of (P := fun k => k = b ∨ sv.ownBlock = some k) gV (by simp)).step g5 (fun k e => .inl (.inr e))).step gF (fun k e => by cases e; exact .inl (.inl rfl)))
        have hNZ : NS (i0 + j + 1) Z := N.kept _ _ _ hN2 (fun k hk => gX.block k (N.lt _ _ hN2 k hk) (fun e => by
          rcases e with rfl | e
          · exact nbF.out.1 hk
          · exact nbF.out.2 k (FileV.mem_s e) hk))
        have hGZ := hG2.trans gX (fun k e => by
          rcases e with rfl | e
          · exact .inl (.inl rfl)
          · rcases hB.out k e with h | h
            · exact .inl (.inr (.inl h))
            · exact .inr h)
        have hBZ : ∀ k, (Value.slice a5 n5 c5).ownBlock = some k → f.sv.ownBlock = some k ∨ w.heap.size ≤ k := fun k e => by
          rcases hvn k e with h | h
          · exact hB.out k h
          · right; omega
        refine ⟨⟨j + 1, wh2, .slice a5 n5 c5, nb2, rfl, by go_num, by omega, Lib.hid hFZ, Lib.hid (by rw [← Nat.add_assoc]; exact hNZ), Lib.hid (by rw [← Nat.add_assoc]; exact hE2.out), Lib.hid (fun e => ?_), Lib.hid hGZ, Lib.hid hBZ⟩, by simp [RowKit.intOf]; omega⟩
        have := hO2.2
        rw [← hW9.out e] at this
        exact this
    · obtain rfl : j = f.chg.length := by omega
      have hFo := hF.out
      have f2 := hFo.free 2
      have hb2 := hFo.1
      have gF := gset (World.grownBy.refl wr (some b)) 2 (.slice none 0 0)
      have hb6 := heap_setCell_same wr b 2 _ _ (.slice none 0 0) hb2
      have cx : wr.cell? ⟨b, 2, none⟩ = some f.cv := hFo.c2
      rw [hcv] at cx
      go_wp2
      have hEf : bs = fin := by
        have := hE.out
        rw [List.drop_length] at this
        cases wh <;> exact this
      obtain ⟨hb3, hs3, hd3, hc3, hnd⟩ := hFo
      dsimp only at hb3 hs3 hd3 hc3 hnd
      have alt : ∀ (v : Value) (q : Option Nat), (∀ k, v.ownBlock = some k → q ≠ some k) → v.ownBlock = none ∨ v.ownBlock ≠ q := fun v q h => by
        cases e : v.ownBlock with
        | none => exact .inl rfl
        | some k => exact .inr (fun e2 => h k e e2.symm)
      have hsb : sv.ownBlock ≠ some b := fun e => by have := (List.nodup_cons.1 hnd).1; simp [FileV.blocks, e] at this
      have hdb : f.dv.ownBlock ≠ some b := fun e => by have := (List.nodup_cons.1 hnd).1; simp [FileV.blocks, e] at this
      have hnd2 := (List.nodup_cons.1 hnd).2
      have hsd : ∀ k, sv.ownBlock = some k → f.dv.ownBlock ≠ some k := fun k e e2 => by
        unfold FileV.blocks at hnd2
        dsimp only at hnd2
        rw [e, e2, List.nodup_append] at hnd2
        have := (List.nodup_append.1 hnd2.1).2.2
        exact this k (by simp) k (by simp) rfl
      have hs4 := Owns.kept hs3 gF (alt _ _ (fun k e e2 => hsb (by rw [e]; simpa using e2.symm)))
      have hd4 := Owns.kept hd3 gF (alt _ _ (fun k e e2 => hdb (by rw [e]; simpa using e2.symm)))
      have hN4 : NS (i0 + f.chg.length) (wr.setCell ⟨b, 2, none⟩ (.slice none 0 0)) := N.kept _ _ _ hNS.out (fun k hk => gF.block k (N.lt _ _ hNS.out k hk) (fun e => hap.1 (by cases e; exact hk)))
      go_end0
      refine ⟨rfl, sv, ⟨hb6, by rw [← hEf]; exact hs4, hd4, World.ownsRow_nil _ _ _ _, nodup3 hsb hdb (by simp [Value.ownBlock]) hsd (fun k _ e => by simp [Value.ownBlock] at e) (fun k _ e => by simp [Value.ownBlock] at e)⟩, hN4, hG.out.step gF (fun k e => by cases e; exact .inl (.inl rfl)), hB.out⟩
end Go.Proofs.YtafcgjbafihniaaGreat
