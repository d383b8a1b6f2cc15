/-
  LAYER 1 (fs): numbers put in order twice are put in order once; and as a set they are what they were.
-/
import Derived.Test.YtafcgjbafihniaaGreatFA12
import Derived.Test.YtafcgjbafihniaaGreatFA09
import Derived.Test.YtafcgjbafihniaaGreatFA08
import Derived.Test.YtafcgjbafihniaaGreatFA05
import Derived.Deep.Onto
import Derived.Test.YtafcgjbafihniaaGreatFA06
import Derived.Test.YtafcgjbafihniaaGreatFA07
import Derived.Laws.AppendOwnNone
namespace Go.Proofs.YtafcgjbafihniaaGreat
set_option maxRecDepth 100000

theorem inOrd_inOrd (zs : List Int) : inOrd (inOrd zs) = inOrd zs := by
  have h := List.pairwise_mergeSort (le := fun (x y : Int) => decide (x ≤ y)) (fun a b c h1 h2 => by simp at *; omega) (fun a b => by simp; omega) zs
  unfold inOrd
  exact List.mergeSort_of_pairwise h
theorem inOrd_contains (zs : List Int) (n : Int) : (inOrd zs).contains n = zs.contains n := by
  rw [Bool.eq_iff_iff, List.contains_iff_mem, List.contains_iff_mem]
  unfold inOrd
  exact (List.mergeSort_perm zs _).mem_iff
end Go.Proofs.YtafcgjbafihniaaGreat

/-
  LAYER 1 (fs): the reference's file system in memory; node: a name's number.
-/
namespace Go.Proofs.YtafcgjbafihniaaGreat
set_option maxRecDepth 100000
open Go.RowKit Go.Lib
open Go.Proofs (encStr)
attribute [local go_sem] Oper.semAt_some

theorem findI_look : ∀ (l : DirL) (s : List UInt8) (k : Nat), (l.look s = none ∧ findI l s k = -1) ∨ ∃ (j : Nat) (hj : j < l.length), findI l s k = ((k + j : Nat) : Int) ∧ l.look s = some l[j].2
  | [], _, _ => .inl ⟨rfl, rfl⟩
  | x :: l, s, k => by
    by_cases h : x.1 = s
    · right
      exact ⟨0, by simp, by simp [findI, h], by simp [DirL.look, h]⟩
    · have e : DirL.look (x :: l) s = DirL.look l s := by simp [DirL.look, h]
      rcases findI_look l s (k + 1) with ⟨h1, h2⟩ | ⟨j, hj, h1, h2⟩
      · exact .inl ⟨by rw [e]; exact h1, by unfold findI; rw [if_neg h]; exact h2⟩
      · right
        exact ⟨j + 1, by simp; omega, by unfold findI; rw [if_neg h, h1]; congr 1; omega, by rw [e]; simpa using h2⟩

/-- The reference's file system: its cells. -/
structure RefV where
  crash : Int
  k : Value
  f : Value
  u : Value
  room : Int
  count : Int
  died : Bool
  nodes : Value
  dir : Value
  safe : Value
  moves : Value
def RefAt (w : World) (q : Nat) (r : RefV) : Prop := w.heap[q]? = some (.cells #[.int .i64 r.crash, r.k, r.f, r.u, .int .i64 r.room, .int .i64 r.count, .bool r.died, r.nodes, r.dir, r.safe, r.moves] 84 (0, 0))
theorem RefAt.c8 {w : World} {q : Nat} {r : RefV} (h : RefAt w q r) : w.cell? ⟨q, 8, none⟩ = some r.dir := by simp [World.cell?, show _ = _ from h]
theorem RefAt.kept {w w' : World} {q : Nat} {r : RefV} {row : Option Nat} (h : RefAt w q r) (hg : w.grownBy w' row) (hne : some q ≠ row) : RefAt w' q r := (hg.block q (lt_of_block h) hne).trans h

set_option maxHeartbeats 4000000 in
theorem node_any (q : Nat) (r : RefV) (l : DirL) (s : ByteArray) (w : World) (h : RefAt w q r) (hr : w.ownsRow 0 130 2 r.dir l.length (nameCells l)) (hm : l.length ≤ 3518437208881) :
    Calls Tryz.prog 52 #[.pointer (some ⟨q, 0, none⟩), .string s] w fun e w' => e = .returned (.int .i64 (ptrN (l.look s.data.toList))) ∧ w.grownBy w' none := by
  have x8 := h.c8
  obtain ⟨a, c, hv⟩ := rowFormS hr
  rw [hv] at x8
  have hfd := find_any r.dir l s w hr (by omega)
  rw [hv] at hfd
  rcases findI_look l s.data.toList 0 with ⟨h1, h2⟩ | ⟨j, hj, h1, h2⟩
  · rw [h2] at hfd
    rw [h1]
    unfold ptrN
    go_enter Tryz.func52, Tryz.ntmps52
    go_wp2_with (go_at_call 81; refine hfd.mono ?_; rintro e w2 ⟨rfl, g2⟩)
    go_ret
    exact ⟨rfl, g2⟩
  · rw [h1, Nat.zero_add] at hfd
    rw [h2]
    unfold ptrN
    have key : ∀ w2, w.grownBy w2 none → w2.cell? ⟨q, 8, none⟩ = some (.slice a l.length c) ∧ ∃ gc, a = some ⟨gc, 0, none⟩ ∧ w2.cell? ⟨gc, j * 2 + 1, none⟩ = some (.int .i64 (l[j].2 : Int)) := by
      intro w2 g
      have hrow := World.ownsRow.kept hr g (notOwn (by simp))
      rw [hv] at hrow
      refine ⟨by rw [← hv]; exact (h.kept g (by simp)).c8, ?_⟩
      have hr0 := hrow
      obtain ⟨_, ⟨e, hz⟩ | ⟨g9, cap, cur, e, _⟩⟩ := hrow
      · omega
      · simp at e
        obtain ⟨rfl, rfl⟩ := e
        exact ⟨g9, rfl, by rw [World.ownsRow.cellAt hr0 _ (by omega)]; exact (nameCells_at l j hj).2⟩
    obtain ⟨Z, hZ⟩ : ∃ Z, Z = l[j].2 := ⟨_, rfl⟩
    rw [← hZ] at key ⊢
    clear hZ h1 h2 h hr x8 hv
    have x8 := (key w (World.grownBy.refl _ _)).1
    go_enter Tryz.func52, Tryz.ntmps52
    go_wp2_with first
      | (go_at_call 81
         refine hfd.mono ?_
         rintro e w2 ⟨rfl, g2⟩
         obtain ⟨y8, gc, rfl, y1⟩ := key w2 g2
         clear key)
    go_ret
    exact ⟨rfl, g2⟩
end Go.Proofs.YtafcgjbafihniaaGreat

/-
  LAYER 1 (fs): the reference's whole file system in memory: rows that own their blocks, changes, nodes, moves.
-/
namespace Go.Proofs.YtafcgjbafihniaaGreat
set_option maxRecDepth 100000
open Go.RowKit Go.Lib
open Go.Proofs (encStr)

/-- A file of the reference: its safe data, its changes. -/
structure NodeP where
  safe : List UInt8
  chg : List Chg
def NodeP.data (n : NodeP) : List UInt8 := n.chg.foldl Chg.done n.safe

/-- A row that owns its block, which is in R. -/
def OwnR (R : Nat → Prop) (w : World) (e : TypeId) (k : Nat) (v : Value) (n : Nat) (xs : List Value) : Prop := w.ownsRow 0 e k v n xs ∧ ∀ b, v.ownBlock = some b → R b
/-- What is turned are cells of these kinds. -/
def Kinds (w : World) (P : Nat → Prop) (T : List TypeId) : Prop := ∀ k cs e z, P k → w.heap[k]? = some (.cells cs e z) → e ∈ T
section
variable {R R' P : Nat → Prop} {w w' : World} {e : TypeId} {k n : Nat} {v : Value} {xs : List Value}
theorem OwnR.weak (h : OwnR R w e k v n xs) (hR : ∀ b, R b → R' b) : OwnR R' w e k v n xs := ⟨h.1, fun b hb => hR b (h.2 b hb)⟩
theorem OwnR.new (h : OwnR R w e k v n xs) (g : w.grownBy w' none) : OwnR R w' e k v n xs := ⟨World.ownsRow.kept h.1 g (by cases v.ownBlock <;> simp), h.2⟩
theorem OwnR.gp {T : List TypeId} (h : OwnR R w e k v n xs) (g : GP P w w') (hP : Kinds w P T) (he : e ∉ T) : OwnR R w' e k v n xs :=
  ⟨own_gp h.1 g (fun b hb hp => by
    obtain ⟨c, fr, h2⟩ := own_obj h.1 b hb
    exact he (hP b c e fr hp h2)), h.2⟩
theorem OwnR.nil : OwnR R w e k (.slice none 0 0) 0 [] := ⟨World.ownsRow_nil _ _ _ _, fun b hb => by cases hb⟩
theorem OwnR.of {B : Nat} (h : w.ownsRow B e k v n xs) (hR : ∀ b, B ≤ b → b < w.heap.size → R b) : OwnR R w e k v n xs :=
  ⟨World.ownsRow.mono h (Nat.zero_le _), fun b hb => hR b (World.ownsRow.lt h b hb).1 (World.ownsRow.lt h b hb).2⟩
theorem OwnR.form (h : OwnR R w e k v n xs) : ∃ a c, v = .slice a n c := rowFormS h.1
end

def chgCells1 (c : Chg) (dv : Value) : List Value := match c with
  | .add _ => [.bool false, .int .i64 0, dv]
  | .cut n => [.bool true, .int .i64 (n : Int), dv]
def chgCells (l : List (Chg × Value)) : List Value := l.flatMap fun x => chgCells1 x.1 x.2
def chgData : Chg → List UInt8
  | .add a => a.data.toList
  | .cut _ => []
/-- A file's changes in memory. -/
def ChgsR (R : Nat → Prop) (w : World) (cv : Value) (cs : List Chg) : Prop :=
  ∃ dvs : List Value, dvs.length = cs.length ∧ OwnR R w 126 3 cv cs.length (chgCells (cs.zip dvs)) ∧
    ∀ (i : Nat) (c : Chg) (dv : Value), cs[i]? = some c → dvs[i]? = some dv → OwnR R w 5 1 dv (chgData c).length (byteCells (chgData c))
/-- A file in memory. -/
def NodeR (R : Nat → Prop) (w : World) (sv cv : Value) (n : NodeP) : Prop := OwnR R w 5 1 sv n.safe.length (byteCells n.safe) ∧ ChgsR R w cv n.chg
def nodeCells (l : List (Value × Value)) : List Value := l.flatMap fun x => [x.1, x.2]

/-- A move: made, renamed, removed. -/
inductive RMv where
  | made (a : ByteArray) (i : Nat)
  | ren (a b : ByteArray) (i : Nat)
  | rem (a : ByteArray)
def RMv.cells : RMv → List Value
  | .made a i => [.int .i64 1, .string a, .string ⟨#[]⟩, .int .i64 (i : Int)]
  | .ren a b i => [.int .i64 2, .string a, .string b, .int .i64 (i : Int)]
  | .rem a => [.int .i64 3, .string a, .string ⟨#[]⟩, .int .i64 0]
def RMv.done (l : DirL) : RMv → DirL
  | .made a i => l.put a.data.toList i
  | .ren a b i => (DirL.drop l a.data.toList).put b.data.toList i
  | .rem a => l.drop a.data.toList
def rmvCells (l : List RMv) : List Value := l.flatMap RMv.cells

/-- The reference's file system. -/
structure RefP where
  pl : Pl
  count : Int
  died : Bool
  nodes : List NodeP
  dir : DirL
  safe : DirL
  moves : List RMv

/-- R, or what is shared. -/
def RD (R DX : Nat → Prop) (b : Nat) : Prop := R b ∨ DX b
/-- Its rows in memory; the files' data and changes may be shared. -/
structure RefRows (DX R : Nat → Prop) (w : World) (a : RefP) (r : RefV) (vs : List (Value × Value)) : Prop where
  rk : OwnR R w 3 1 r.k a.pl.keep.length (a.pl.keep.map intV)
  rf : OwnR R w 3 1 r.f a.pl.fail.length (a.pl.fail.map intV)
  ru : OwnR R w 3 1 r.u a.pl.full.length (a.pl.full.map intV)
  vl : vs.length = a.nodes.length
  rn : OwnR R w 100 2 r.nodes a.nodes.length (nodeCells vs)
  node : ∀ (i : Nat) (v : Value × Value) (n : NodeP), vs[i]? = some v → a.nodes[i]? = some n → NodeR (RD R DX) w v.1 v.2 n
  rd : OwnR R w 130 2 r.dir a.dir.length (nameCells a.dir)
  rs : OwnR R w 130 2 r.safe a.safe.length (nameCells a.safe)
  rm : OwnR R w 123 4 r.moves a.moves.length (rmvCells a.moves)
/-- All of it in memory. -/
structure RefOk (DX R : Nat → Prop) (w : World) (q : Nat) (a : RefP) (r : RefV) (vs : List (Value × Value)) : Prop where
  at_ : RefAt w q r
  rq : R q
  crash : r.crash = a.pl.crash
  room : r.room = a.pl.room
  count : r.count = a.count
  died : r.died = a.died
  rows : RefRows DX R w a r vs

section
variable {DX R R' P : Nat → Prop} {w w' : World} {q : Nat} {a : RefP} {r : RefV} {vs : List (Value × Value)} {cv sv : Value} {cs : List Chg} {n : NodeP}
theorem ChgsR.weak (h : ChgsR R w cv cs) (hR : ∀ b, R b → R' b) : ChgsR R' w cv cs := by
  obtain ⟨dvs, h1, h2, h3⟩ := h
  exact ⟨dvs, h1, h2.weak hR, fun i c dv e1 e2 => (h3 i c dv e1 e2).weak hR⟩
theorem ChgsR.gp {T : List TypeId} (h : ChgsR R w cv cs) (g : GP P w w') (hP : Kinds w P T) (h1 : 126 ∉ T) (h2 : 5 ∉ T) : ChgsR R w' cv cs := by
  obtain ⟨dvs, q1, q2, q3⟩ := h
  exact ⟨dvs, q1, q2.gp g hP h1, fun i c dv e1 e2 => (q3 i c dv e1 e2).gp g hP h2⟩
theorem NodeR.weak (h : NodeR R w sv cv n) (hR : ∀ b, R b → R' b) : NodeR R' w sv cv n := ⟨h.1.weak hR, h.2.weak hR⟩
theorem NodeR.gp {T : List TypeId} (h : NodeR R w sv cv n) (g : GP P w w') (hP : Kinds w P T) (h1 : 126 ∉ T) (h2 : 5 ∉ T) : NodeR R w' sv cv n := ⟨h.1.gp g hP h2, h.2.gp g hP h1 h2⟩
theorem kinds_none (w : World) : Kinds w (fun _ => False) [] := fun _ _ _ _ h => h.elim
theorem gp_none {w w' : World} (g : w.grownBy w' none) : GP (fun _ => False) w w' := GP.of g (by simp)
theorem NodeR.new (h : NodeR R w sv cv n) (g : w.grownBy w' none) : NodeR R w' sv cv n := h.gp (gp_none g) (kinds_none w) (by simp) (by simp)
theorem ChgsR.new (h : ChgsR R w cv cs) (g : w.grownBy w' none) : ChgsR R w' cv cs := h.gp (gp_none g) (kinds_none w) (by simp) (by simp)
theorem RefRows.weak (h : RefRows DX R w a r vs) (hR : ∀ b, R b → R' b) : RefRows DX R' w a r vs :=
  ⟨h.rk.weak hR, h.rf.weak hR, h.ru.weak hR, h.vl, h.rn.weak hR, fun i v n e1 e2 => (h.node i v n e1 e2).weak (fun b hb => hb.imp (hR b) id), h.rd.weak hR, h.rs.weak hR, h.rm.weak hR⟩
theorem RefRows.gp (h : RefRows DX R w a r vs) (g : GP P w w') {T : List TypeId} (hP : Kinds w P T) (hT : ∀ e ∈ T, e = 84) : RefRows DX R w' a r vs := by
  have ne : ∀ e, e ≠ 84 → e ∉ T := fun e he h => he (hT e h)
  exact ⟨h.rk.gp g hP (ne _ (by decide)), h.rf.gp g hP (ne _ (by decide)), h.ru.gp g hP (ne _ (by decide)), h.vl, h.rn.gp g hP (ne _ (by decide)), fun i v n e1 e2 => (h.node i v n e1 e2).gp g hP (ne _ (by decide)) (ne _ (by decide)), h.rd.gp g hP (ne _ (by decide)), h.rs.gp g hP (ne _ (by decide)), h.rm.gp g hP (ne _ (by decide))⟩
theorem RefRows.new (h : RefRows DX R w a r vs) (g : w.grownBy w' none) : RefRows DX R w' a r vs := h.gp (gp_none g) (kinds_none w) (by simp)
theorem RefOk.new (h : RefOk DX R w q a r vs) (g : w.grownBy w' none) : RefOk DX R w' q a r vs :=
  ⟨h.at_.kept g (by simp), h.rq, h.crash, h.room, h.count, h.died, h.rows.new g⟩
/-- Nobody turned its blocks. -/
theorem RefOk.kept (h : RefOk DX R w q a r vs) (g : GP P w w') (hP : ∀ k, R k → ¬ P k) (hX : ∀ k, DX k → ¬ P k) : RefOk DX R w' q a r vs := by
  have row : ∀ {e k n : Nat} {v : Value} {xs : List Value}, OwnR R w e k v n xs → OwnR R w' e k v n xs := fun {e k n v xs} o => ⟨own_gp o.1 g (fun b hb hp => hP b (o.2 b hb) hp), o.2⟩
  have rowD : ∀ {e k n : Nat} {v : Value} {xs : List Value}, OwnR (RD R DX) w e k v n xs → OwnR (RD R DX) w' e k v n xs := fun {e k n v xs} o => ⟨own_gp o.1 g (fun b hb hp => (o.2 b hb).elim (fun h1 => hP b h1 hp) (fun h1 => hX b h1 hp)), o.2⟩
  refine ⟨(g.block q (lt_of_block h.at_) (hP q h.rq)).trans h.at_, h.rq, h.crash, h.room, h.count, h.died, ⟨row h.rows.rk, row h.rows.rf, row h.rows.ru, h.rows.vl, row h.rows.rn, fun i v n e1 e2 => ?_, row h.rows.rd, row h.rows.rs, row h.rows.rm⟩⟩
  obtain ⟨h1, dvs, q1, q2, q3⟩ := h.rows.node i v n e1 e2
  exact ⟨rowD h1, dvs, q1, rowD q2, fun i c dv e1 e2 => rowD (q3 i c dv e1 e2)⟩
theorem RefOk.weak (h : RefOk DX R w q a r vs) (hR : ∀ b, R b → R' b) : RefOk DX R' w q a r vs :=
  ⟨h.at_, hR _ h.rq, h.crash, h.room, h.count, h.died, h.rows.weak hR⟩
/-- Only its own block was turned. -/
theorem RefOk.own {a' : RefP} {r' : RefV} (h : RefOk DX R w q a r vs) (g : w.grownBy w' (some q)) (h' : RefAt w' q r') (hc : r'.crash = a'.pl.crash) (hr : r'.room = a'.pl.room) (hn : r'.count = a'.count) (hd : r'.died = a'.died) (hrow : RefRows DX R w a r vs → RefRows DX R w' a r vs → RefRows DX R w' a' r' vs) : RefOk DX R w' q a' r' vs := by
  refine ⟨h', h.rq, hc, hr, hn, hd, hrow h.rows (h.rows.gp (P := fun k => k = q) (GP.of g (fun k e => by cases e; rfl)) (T := [84]) (fun k cs e z hk hb => ?_) (by simp))⟩
  subst hk
  have := apart_obj hb (show _ = _ from h.at_)
  simp at this
  simp [this.2.1]
/-- What lies beyond the world's end is nobody's. -/
theorem OwnR.bound {e k n : Nat} {v : Value} {xs : List Value} (h : OwnR R w e k v n xs) : OwnR (fun b => R b ∧ b < w.heap.size) w e k v n xs := ⟨h.1, fun b hb => ⟨h.2 b hb, (World.ownsRow.lt h.1 b hb).2⟩⟩
theorem RefOk.bound (h : RefOk DX R w q a r vs) : RefOk DX (fun b => R b ∧ b < w.heap.size) w q a r vs := by
  refine ⟨h.at_, ⟨h.rq, lt_of_block h.at_⟩, h.crash, h.room, h.count, h.died, ⟨h.rows.rk.bound, h.rows.rf.bound, h.rows.ru.bound, h.rows.vl, h.rows.rn.bound, fun i v n e1 e2 => ?_, h.rows.rd.bound, h.rows.rs.bound, h.rows.rm.bound⟩⟩
  obtain ⟨h1, dvs, q1, q2, q3⟩ := h.rows.node i v n e1 e2
  have bd : ∀ {e k n : Nat} {v : Value} {xs : List Value}, OwnR (RD R DX) w e k v n xs → OwnR (RD (fun b => R b ∧ b < w.heap.size) DX) w e k v n xs := fun {e k n v xs} o => ⟨o.1, fun b hb => (o.2 b hb).imp (fun h1 => ⟨h1, (World.ownsRow.lt o.1 b hb).2⟩) id⟩
  exact ⟨bd h1, dvs, q1, bd q2, fun i c dv e1 e2 => bd (q3 i c dv e1 e2)⟩
end
/-- Lists of cells, so many an element. -/
theorem flat_len {α : Type} (f : α → List Value) (k : Nat) (hk : ∀ x, (f x).length = k) : ∀ l : List α, (l.flatMap f).length = l.length * k
  | [] => by simp
  | x :: l => by rw [List.flatMap_cons, List.length_append, hk, flat_len f k hk l, List.length_cons, Nat.add_mul, Nat.one_mul, Nat.add_comm]
theorem flat_at {α : Type} (f : α → List Value) (k : Nat) (hk : ∀ x, (f x).length = k) : ∀ (l : List α) (i : Nat) (x : α), l[i]? = some x → ∀ j, j < k → (l.flatMap f)[i * k + j]? = (f x)[j]?
  | [], _, _, h, _, _ => by simp at h
  | y :: l, 0, x, h, j, hj => by
    simp at h
    subst h
    rw [List.flatMap_cons, Nat.zero_mul, Nat.zero_add, List.getElem?_append_left (by rw [hk]; exact hj)]
  | y :: l, i + 1, x, h, j, hj => by
    have ih := flat_at f k hk l i x (by simpa using h) j hj
    rw [List.flatMap_cons, List.getElem?_append_right (by rw [hk, Nat.add_mul, Nat.one_mul]; omega), hk, ← ih]
    congr 1
    rw [Nat.add_mul]
    omega
theorem OwnR.cell {R : Nat → Prop} {w : World} {e : TypeId} {k n c : Nat} {a : Option Addr} {xs : List Value} (h : OwnR R w e k (.slice a n c) n xs) (hn : 0 < n) : ∃ g, a = some ⟨g, 0, none⟩ ∧ R g ∧ g < w.heap.size ∧ (∀ j, j < n * k → w.cell? ⟨g, j, none⟩ = xs[j]?) ∧ ∀ j, w.frozen? ⟨g, j, none⟩ = false := by
  obtain ⟨hr, hR⟩ := h
  have hr0 := hr
  obtain ⟨_, ⟨e1, hz⟩ | ⟨g, cap, cur, e1, _, hg, _⟩⟩ := hr
  · omega
  · obtain ⟨rfl, rfl⟩ : a = some ⟨g, 0, none⟩ ∧ c = cap := by simpa using e1
    exact ⟨g, rfl, hR g rfl, lt_of_block hg, fun j hj => World.ownsRow.cellAt hr0 j hj, fun j => World.ownsRow.frozenAt hr0 j⟩
theorem chg1_len (x : Chg × Value) : (chgCells1 x.1 x.2).length = 3 := by obtain ⟨c, dv⟩ := x; cases c <;> rfl
theorem rmv_len (m : RMv) : m.cells.length = 4 := by cases m <;> rfl
/-- R and what is new. -/
def RU (R : Nat → Prop) (w w' : World) (k : Nat) : Prop := R k ∨ w.heap.size ≤ k ∧ k < w'.heap.size
end Go.Proofs.YtafcgjbafihniaaGreat

/-
  LAYER 1 (fs): the reference's keep (the next number of the plan's list); full.
-/
namespace Go.Proofs.YtafcgjbafihniaaGreat
set_option maxRecDepth 100000
variable {DX : Nat → Prop}
open Go.RowKit Go.Lib
attribute [local go_sem] Oper.semAt_some

section
variable {R : Nat → Prop} {w : World} {q : Nat} {a : RefP} {r : RefV} {vs : List (Value × Value)}
theorem RefAt.c0 (h : RefAt w q r) : w.cell? ⟨q, 0, none⟩ = some (.int .i64 r.crash) := by simp [World.cell?, show _ = _ from h]
theorem RefAt.c1 (h : RefAt w q r) : w.cell? ⟨q, 1, none⟩ = some r.k := by simp [World.cell?, show _ = _ from h]
theorem RefAt.c2 (h : RefAt w q r) : w.cell? ⟨q, 2, none⟩ = some r.f := by simp [World.cell?, show _ = _ from h]
theorem RefAt.c3 (h : RefAt w q r) : w.cell? ⟨q, 3, none⟩ = some r.u := by simp [World.cell?, show _ = _ from h]
theorem RefAt.c4 (h : RefAt w q r) : w.cell? ⟨q, 4, none⟩ = some (.int .i64 r.room) := by simp [World.cell?, show _ = _ from h]
theorem RefAt.c5 (h : RefAt w q r) : w.cell? ⟨q, 5, none⟩ = some (.int .i64 r.count) := by simp [World.cell?, show _ = _ from h]
theorem RefAt.c6 (h : RefAt w q r) : w.cell? ⟨q, 6, none⟩ = some (.bool r.died) := by simp [World.cell?, show _ = _ from h]
theorem RefAt.c7 (h : RefAt w q r) : w.cell? ⟨q, 7, none⟩ = some r.nodes := by simp [World.cell?, show _ = _ from h]
theorem RefAt.c9 (h : RefAt w q r) : w.cell? ⟨q, 9, none⟩ = some r.safe := by simp [World.cell?, show _ = _ from h]
theorem RefAt.c10 (h : RefAt w q r) : w.cell? ⟨q, 10, none⟩ = some r.moves := by simp [World.cell?, show _ = _ from h]
theorem RefAt.free (h : RefAt w q r) (o : Nat) : w.frozen? ⟨q, o, none⟩ = false := by simp [World.frozen?, show _ = _ from h]

/-- Where the next number's place lies. -/
def NextAt (w : World) (nb : Nat) (i : Nat) : Prop := w.heap[nb]? = some (.cells #[.int .i64 (i : Int)] 3 (0, 0))
theorem NextAt.c {i : Nat} (h : NextAt w q i) : w.cell? ⟨q, 0, none⟩ = some (.int .i64 (i : Int)) := by simp [World.cell?, show _ = _ from h]
end

set_option maxHeartbeats 4000000 in
theorem keep_any {R : Nat → Prop} {w : World} {q : Nat} {a : RefP} {r : RefV} {vs : List (Value × Value)} (h : RefOk DX R w q a r vs) (nb i : Nat) (hn : NextAt w nb i) (hi : i < 4611686018427387904) (hl : a.pl.keep.length < 4611686018427387904) :
    Calls Tryz.prog 98 #[.pointer (some ⟨q, 0, none⟩), .pointer (some ⟨nb, 0, none⟩)] w fun e w' => e = .returned (.int .i64 (keepAt a.pl.keep i)) ∧ NextAt w' nb (if a.pl.keep.length = 0 then i else i + 1) ∧ w.grownBy w' (some nb) := by
  have c1 := h.at_.c1
  have hk := h.rows.rk
  obtain ⟨ka, kc, hkv⟩ := hk.form
  rw [hkv] at c1 hk
  obtain ⟨kp, hkp⟩ : ∃ kp, kp = a.pl.keep := ⟨_, rfl⟩
  rw [← hkp] at hk c1 hl ⊢
  by_cases hz : kp.length = 0
  · have hkn : keepAt kp i = 0 := by rw [List.length_eq_zero_iff.1 hz]; simp [keepAt]
    rw [if_pos hz, hkn]
    rw [hz] at c1
    clear h hk hkv hz hkn hkp
    go_enter Tryz.func98, Tryz.ntmps98
    go_wp2
    go_ret
    exact ⟨rfl, hn, gwide2 (World.grownBy.refl w none) _⟩
  · rw [if_neg hz]
    obtain ⟨g, rfl, _, _, hc, _⟩ := hk.cell (by omega)
    have hmod : i % kp.length < kp.length := Nat.mod_lt _ (by omega)
    have hcell := hc (i % kp.length) (by omega)
    rw [List.getElem?_map, List.getElem?_eq_getElem hmod] at hcell
    have hkv2 : keepAt kp i = kp[i % kp.length] := by unfold keepAt; rw [List.getD_eq_getElem?_getD, List.getElem?_eq_getElem hmod]; rfl
    have hnc := hn.c
    rw [hkv2]
    obtain ⟨x, hx⟩ : ∃ x, x = kp[i % kp.length] := ⟨_, rfl⟩
    rw [← hx] at hcell ⊢
    obtain ⟨n, hnn⟩ : ∃ n, n = kp.length := ⟨_, rfl⟩
    rw [← hnn] at hcell hmod hz
    obtain ⟨m, hm0⟩ : ∃ m, m = i % n := ⟨_, rfl⟩
    have e1 : Int.tmod (i : Int) (n : Int) = (m : Int) := by rw [hm0]; exact (Int.ofNat_tmod i n).symm
    have e2 : (i : Int) % (n : Int) = (m : Int) := by rw [hm0]; exact (Int.natCast_emod i n).symm
    have e3 : ((n : Int) == 0) = false := by simp; omega
    rw [← hm0] at hcell hmod
    have hcell2 : w.cell? ⟨g, m, none⟩ = some (.int .i64 x) := hcell
    clear hcell
    rw [← hnn] at c1 hl
    have hpos : 0 < n := by omega
    have fr : w.frozen? ⟨nb, 0, none⟩ = false := by simp [World.frozen?, show _ = _ from hn]
    have gF := gset (World.grownBy.refl w (some nb)) 0 (.int .i64 ((i : Int) + 1))
    have hA := heap_setCell_same w nb 0 _ _ (.int .i64 ((i : Int) + 1)) hn
    have hT : Hid (NextAt (w.setCell ⟨nb, 0, none⟩ (.int .i64 ((i : Int) + 1))) nb (i + 1)) := Lib.hid hA
    rw [hm0] at hmod
    clear hx hkv2 h hk hkv hc hkp hA gF hn
    rw [← hm0] at hmod
    replace hm0 := Lib.hid hm0
    replace hnn := Lib.hid hnn
    go_enter Tryz.func98, Tryz.ntmps98
    go_wp2_with fail
    go_quiet (fail)
    go_wp2_with fail
    go_ret
    exact ⟨rfl, hT.out, gset (gdrewN (World.grownBy.refl w (some nb)) _) 0 _⟩

set_option maxHeartbeats 2000000 in
theorem full_any {R : Nat → Prop} {w : World} {q : Nat} {a : RefP} {r : RefV} {vs : List (Value × Value)} (h : RefOk DX R w q a r vs) :
    Calls Tryz.prog 76 #[.pointer (some ⟨q, 0, none⟩)] w fun e w' => e = .returned (.bool (a.pl.full.contains a.count)) ∧ ∃ m, w' = w.drewN m := by
  have c3 := h.at_.c3
  have c5 := h.at_.c5
  rw [h.count] at c5
  obtain ⟨ka, kc, hkv⟩ := h.rows.ru.form
  rw [hkv] at c3
  have hI : ∀ W, w.grownBy W none → Ints W (.slice ka a.pl.full.length kc) a.pl.full := fun W g => by rw [← hkv]; exact ints_of_own (h.rows.ru.new g).1
  have hH := fun m => has_any ka a.pl.full.length kc a.pl.full a.count (w.drewN m) (hI _ (gdrewN (World.grownBy.refl w none) m))
  clear hI
  generalize a.pl.full.contains a.count = bb at *
  generalize a.pl.full.length = n at *
  generalize a.count = ct at *
  clear h hkv
  go_enter Tryz.func76, Tryz.ntmps76
  go_wp2_with fail
  go_quiet (first | (go_at_call 96; refine Calls.quiet_of_same ((hH _).mono (by rintro e w' ⟨h1, h2⟩; exact ⟨h1, h2.symm⟩))))
  go_wp2_with fail
  go_ret
  exact ⟨rfl, _, rfl⟩
end Go.Proofs.YtafcgjbafihniaaGreat

/-
  LAYER 1 (fs): the reference's moved: names with a move done.
-/
namespace Go.Proofs.YtafcgjbafihniaaGreat
set_option maxRecDepth 100000
open Go.RowKit Go.Lib
open Go.Proofs (encStr)
attribute [local go_sem] Oper.semAt_some

theorem nameC_len (l : DirL) : (nameCells l).length = l.length * 2 := flat_len (fun x : List UInt8 × Nat => [encStr x.1, .int .i64 (x.2 : Int)]) 2 (fun _ => rfl) l
theorem enc_data (s : ByteArray) : encStr s.data.toList = .string s := by
  unfold encStr
  simp
theorem nameC_one (l : DirL) : ∀ u ∈ nameCells l, u.oneCell' = true := by
  intro u hu
  unfold nameCells at hu
  obtain ⟨x, _, hx⟩ := List.mem_flatMap.1 hu
  simp at hx
  rcases hx with rfl | rfl
  · unfold encStr; rfl
  · rfl

theorem addr_add (g j : Nat) : (⟨g, 0, none⟩ : Addr).add j = ⟨g, j, none⟩ := by
  cases j <;> simp [Addr.add]
theorem copy_names (v : Value) (l : DirL) (w : World) (hr : w.ownsRow 0 130 2 v l.length (nameCells l)) (hl : l.length ≤ 3518437208881) :
    ∃ v' w', (Builtin.append_ #[81, 81] 81 #[.slice none 0 0, v]).run Tryz.prog w = .ok v' w' ∧ w'.ownsRow w.heap.size 130 2 v' l.length (nameCells l) ∧ w.grownBy w' none := by
  obtain ⟨i0, hi, hz0, hz1, hz2⟩ := infoNm_parts
  have hr0 := hr
  obtain ⟨h0, ⟨rfl, hn⟩ | ⟨g, cap, cur, rfl, _, hg, hnc, hcm, hcs, ht⟩⟩ := hr
  · have hrun := run_append_owned_none (P := Tryz.prog) (w := w) w.heap.size 81 81 130 i0 2 Tryz.underlying81 hi (.slice none 0 0) 0 [] (World.ownsRow_nil _ _ _ _)
    have hl0 : l = [] := List.length_eq_zero_iff.1 hn
    subst hl0
    exact ⟨_, _, hrun, World.ownsRow_nil _ _ _ _, World.grownBy.refl _ _⟩
  · obtain ⟨v', w', hrun, h5, h6, _, _⟩ := run_append_own_at (P := Tryz.prog) w w.heap.size 81 81 130 i0 (.agg #[.string ⟨#[]⟩, .int .i64 0]) 2 24 Tryz.underlying81 hi hz0 hz1 hz2 rfl (by decide) (.slice none 0 0) 0 [] (World.ownsRow_nil _ _ _ _) ⟨g, 0, none⟩ l.length cap (nameCells l) (nameC_len l)
      (fun j u hj => by
        have hlt := (List.getElem?_eq_some_iff.1 hj).1
        rw [nameC_len] at hlt
        have := World.ownsRow.cellAt hr0 j hlt
        rw [hj] at this
        rw [addr_add]
        exact this) (nameC_one l) (by unfold maxLen; omega) (by omega) (Nat.le_refl _)
    refine ⟨v', w', hrun, by simpa using h5, h6⟩

/-- One name more. -/
theorem push_name (v : Value) (l : DirL) (s : ByteArray) (i : Nat) (B b : Nat) (w : World) (hr : w.ownsRow B 130 2 v l.length (nameCells l)) (hB : B ≤ w.heap.size) (hl : l.length ≤ 3518437208880)
    (hb : w.heap[b]? = some (.cells #[.string s, .int .i64 (i : Int)] 130 (0, 0))) :
    ∃ v' w', (Builtin.append_ #[81, 81] 81 #[v, .slice (some ⟨b, 0, none⟩) 1 1]).run Tryz.prog w = .ok v' w' ∧ w'.ownsRow B 130 2 v' (l ++ [(s.data.toList, i)]).length (nameCells (l ++ [(s.data.toList, i)])) ∧ w.grownBy w' v.ownBlock := by
  obtain ⟨i0, hi, hz0, hz1, hz2⟩ := infoNm_parts
  obtain ⟨v', w', hrun, h5, h6, _, _⟩ := run_append_own_at (P := Tryz.prog) w B 81 81 130 i0 (.agg #[.string ⟨#[]⟩, .int .i64 0]) 2 24 Tryz.underlying81 hi hz0 hz1 hz2 rfl (by decide) v l.length (nameCells l) hr ⟨b, 0, none⟩ 1 1 [.string s, .int .i64 (i : Int)] rfl
    (fun j u hj => by
      have eX : ∀ i', w.cell? ⟨b, i', none⟩ = #[Value.string s, .int .i64 (i : Int)][i']? := fun i' => by simp [World.cell?, hb]
      match j, hj with
      | 0, hj => simp at hj; subst hj; exact eX 0
      | 1, hj => simp at hj; subst hj; exact eX 1) (fun u hu => by simp at hu; rcases hu with rfl | rfl <;> rfl) (by unfold maxLen; omega) (by omega) hB
  refine ⟨v', w', hrun, ?_, h6⟩
  rw [show nameCells (l ++ [(s.data.toList, i)]) = nameCells l ++ [.string s, .int .i64 (i : Int)] by simp [nameCells, enc_data], List.length_append]
  exact h5

def RMv.agg (m : RMv) : Value := .agg m.cells.toArray
set_option maxHeartbeats 8000000 in
theorem moved_rem (v : Value) (l : DirL) (s : ByteArray) (w : World) (hr : w.ownsRow 0 130 2 v l.length (nameCells l)) (hl : l.length ≤ 3518437208880) :
    Calls Tryz.prog 77 #[v, (RMv.rem s).agg] w fun e w' => ∃ v', e = .returned v' ∧ w'.ownsRow w.heap.size 130 2 v' (DirL.drop l s.data.toList).length (nameCells (DirL.drop l s.data.toList)) ∧ w.grownBy w' none := by
  obtain ⟨a, c, rfl⟩ := rowFormS hr
  have gB := World.grownBy_alloc w (.cells #[.int .i64 3, .string s, .string ⟨#[]⟩, .int .i64 0] 123) none
  have eB := World.alloc_heap_new w (.cells #[.int .i64 3, .string s, .string ⟨#[]⟩, .int .i64 0] 123)
  obtain ⟨W0, hW0⟩ : ∃ W0, W0 = w.alloc (.cells #[.int .i64 3, .string s, .string ⟨#[]⟩, .int .i64 0] 123) := ⟨_, rfl⟩
  rw [← hW0] at gB eB
  have gd := gdrew (World.grownBy.refl W0 none)
  obtain ⟨v1, w1, hrun, o1, g1⟩ := copy_names (.slice a l.length c) l W0.drew (World.ownsRow.kept hr (gB.trans gd) (by cases (Value.slice a l.length c).ownBlock <;> simp)) (by omega)
  obtain ⟨a1, c1, rfl⟩ := rowFormS o1
  have hwo := without_any (.slice a1 l.length c1) l s w1 (World.ownsRow.mono o1 (Nat.zero_le _)) (by omega)
  have b0 : W0.cell? ⟨w.heap.size, 1, none⟩ = some (.string s) := by simp [World.cell?, eB]
  have b1 : ∀ X, W0.grownBy X none → X.cell? ⟨w.heap.size, 0, none⟩ = some (.int .i64 3) := fun X g => g.cell (by simp [World.cell?, eB]) (by simp)
  have gw1 := gB.trans (gd.trans g1)
  have gW01 := gd.trans g1
  unfold RMv.agg RMv.cells
  generalize (DirL.drop l s.data.toList) = dl at *
  clear hr o1
  go_enter Tryz.func77, Tryz.ntmps77
  go_wp2_with fail
  rw [← hW0]
  clear hW0 eB
  refine wp_region_held_drew (S := fun V => V.cell? ⟨w.heap.size, 1, none⟩ = some (.string s)) (by kernel_rfl) (gd.cell b0 (by simp)) (fun hS0 => ?_)
  refine wpAnyH_take (i := 0) (oi := ⟨some 5, _, _, _, _, _⟩) (v := ?_) rfl (by kernel_rfl) (by kernel_rfl) (by kernel_rfl) (fun _ _ _ h => h) (Or.inl ⟨by rfl, ?_⟩) (by assumption) ?_
  rotate_left
  · (intro w hSw; (try dsimp only at hSw); go_simp; try with_reducible rfl)
  try simp only [Act.put, List.setIfInBounds_toArray, List.set_cons_zero, List.set_cons_succ]
  refine wpAnyH_take (i := 2) (oi := ⟨some 7, _, _, _, _, _⟩) (v := ?_) rfl (by kernel_rfl) (by kernel_rfl) (by kernel_rfl) (fun _ _ _ h => h) (Or.inl ⟨by rfl, ?_⟩) (by assumption) ?_
  rotate_left
  · (intro w hSw; (try dsimp only at hSw); go_simp; try with_reducible rfl)
  try simp only [Act.put, List.setIfInBounds_toArray, List.set_cons_zero, List.set_cons_succ]
  refine wpAnyH_take (i := 3) (oi := ⟨some 8, _, _, _, _, _⟩) (v := ?_) rfl (by kernel_rfl) (by kernel_rfl) (by kernel_rfl) (fun _ _ _ h => h) (Or.inl ⟨by rfl, ?_⟩) (by assumption) ?_
  rotate_left
  · (intro w hSw; (try dsimp only at hSw); go_simp; try with_reducible rfl)
  try simp only [Act.put, List.setIfInBounds_toArray, List.set_cons_zero, List.set_cons_succ]
  refine wpAnyH_ready (rs := [1]) (by kernel_rfl) (by simp) ?_
  refine AllReadyH.cons rfl (fun K hK => ?_) AllReadyH.nil
  rw [if_pos (by rfl)]
  refine wp_app_run _ _ _ rfl (.slice none 0 0) _ rfl rfl hrun ?_
  have hS1 := g1.cell hS0 (by simp)
  refine hK.out _ _ hS1 (fun _ => ?_)
  clear hK
  refine wpAnyH_ready (rs := [4]) (by kernel_rfl) (by simp) ?_
  refine AllReadyH.cons rfl (fun K hK => ?_) AllReadyH.nil
  go_simp
  refine hwo.mono ?_
  clear hwo
  rintro e w2 ⟨v2, rfl, o2, g2⟩
  obtain ⟨a2, c2, rfl⟩ := rowFormS o2
  have hS2 := g2.cell hS1 (by simp)
  go_wp2_with fail
  refine hK.out _ _ hS2 (fun _ => ?_)
  clear hK
  refine wpAnyH_ready (rs := [5]) (by kernel_rfl) (by simp) ?_
  refine AllReadyH.cons rfl (fun K hK => ?_) AllReadyH.nil
  go_simp
  refine hK.out _ _ hS2 (fun _ => ?_)
  clear hK
  refine wpAnyH_done (by kernel_rfl) ?_ _
  have k3 := b1 w2 (gW01.trans g2)
  have gF := Lib.hid (gw1.trans g2)
  have oF := Lib.hid (World.ownsRow.mono o2 gw1.size)
  clear hS0 hS1 hS2 b0 b1 gW01 gw1 g1 g2 o2 gd gB hrun
  go_wp2_with fail
  go_ret
  exact ⟨_, rfl, oF.out, gF.out⟩

theorem moved_made (v : Value) (l : DirL) (s : ByteArray) (i : Nat) (w : World) (hr : w.ownsRow 0 130 2 v l.length (nameCells l)) (hl : l.length ≤ 3518437208880) :
    Calls Tryz.prog 77 #[v, (RMv.made s i).agg] w fun e w' => ∃ v', e = .returned v' ∧ w'.ownsRow w.heap.size 130 2 v' (DirL.put l s.data.toList i).length (nameCells (DirL.put l s.data.toList i)) ∧ w.grownBy w' none := by
  obtain ⟨a, c, rfl⟩ := rowFormS hr
  have gB := World.grownBy_alloc w (.cells #[.int .i64 1, .string s, .string ⟨#[]⟩, .int .i64 (i : Int)] 123) none
  have eB := World.alloc_heap_new w (.cells #[.int .i64 1, .string s, .string ⟨#[]⟩, .int .i64 (i : Int)] 123)
  obtain ⟨W0, hW0⟩ : ∃ W0, W0 = w.alloc (.cells #[.int .i64 1, .string s, .string ⟨#[]⟩, .int .i64 (i : Int)] 123) := ⟨_, rfl⟩
  rw [← hW0] at gB eB
  have gd := gdrew (World.grownBy.refl W0 none)
  obtain ⟨v1, w1, hrun, o1, g1⟩ := copy_names (.slice a l.length c) l W0.drew (World.ownsRow.kept hr (gB.trans gd) (by cases (Value.slice a l.length c).ownBlock <;> simp)) (by omega)
  obtain ⟨a1, c1, rfl⟩ := rowFormS o1
  have hwo := without_any (.slice a1 l.length c1) l s w1 (World.ownsRow.mono o1 (Nat.zero_le _)) (by omega)
  have b0 : ∀ X, W0.grownBy X none → X.cell? ⟨w.heap.size, 1, none⟩ = some (.string s) := fun X g => g.cell (by simp [World.cell?, eB]) (by simp)
  have b1 : ∀ X, W0.grownBy X none → X.cell? ⟨w.heap.size, 0, none⟩ = some (.int .i64 1) := fun X g => g.cell (by simp [World.cell?, eB]) (by simp)
  have b3 : ∀ X, W0.grownBy X none → X.cell? ⟨w.heap.size, 3, none⟩ = some (.int .i64 (i : Int)) := fun X g => g.cell (by simp [World.cell?, eB]) (by simp)
  have gw1 := gB.trans (gd.trans g1)
  have gW01 := gd.trans g1
  have hdl : (DirL.drop l s.data.toList).length ≤ 3518437208880 := Nat.le_trans (List.length_filter_le _ _) hl
  unfold RMv.agg RMv.cells DirL.put
  generalize (DirL.drop l s.data.toList) = dl at *
  clear hr o1
  go_enter Tryz.func77, Tryz.ntmps77
  go_wp2_with fail
  rw [← hW0]
  clear hW0 eB
  refine wp_region_held_drew (S := fun V => V.cell? ⟨w.heap.size, 1, none⟩ = some (.string s)) (by kernel_rfl) (b0 _ gd) (fun hS0 => ?_)
  refine wpAnyH_take (i := 0) (oi := ⟨some 5, _, _, _, _, _⟩) (v := ?_) rfl (by kernel_rfl) (by kernel_rfl) (by kernel_rfl) (fun _ _ _ h => h) (Or.inl ⟨by rfl, ?_⟩) (by assumption) ?_
  rotate_left
  · (intro w hSw; (try dsimp only at hSw); go_simp; try with_reducible rfl)
  try simp only [Act.put, List.setIfInBounds_toArray, List.set_cons_zero, List.set_cons_succ]
  refine wpAnyH_take (i := 2) (oi := ⟨some 7, _, _, _, _, _⟩) (v := ?_) rfl (by kernel_rfl) (by kernel_rfl) (by kernel_rfl) (fun _ _ _ h => h) (Or.inl ⟨by rfl, ?_⟩) (by assumption) ?_
  rotate_left
  · (intro w hSw; (try dsimp only at hSw); go_simp; try with_reducible rfl)
  try simp only [Act.put, List.setIfInBounds_toArray, List.set_cons_zero, List.set_cons_succ]
  refine wpAnyH_take (i := 3) (oi := ⟨some 8, _, _, _, _, _⟩) (v := ?_) rfl (by kernel_rfl) (by kernel_rfl) (by kernel_rfl) (fun _ _ _ h => h) (Or.inl ⟨by rfl, ?_⟩) (by assumption) ?_
  rotate_left
  · (intro w hSw; (try dsimp only at hSw); go_simp; try with_reducible rfl)
  try simp only [Act.put, List.setIfInBounds_toArray, List.set_cons_zero, List.set_cons_succ]
  refine wpAnyH_ready (rs := [1]) (by kernel_rfl) (by simp) ?_
  refine AllReadyH.cons rfl (fun K hK => ?_) AllReadyH.nil
  rw [if_pos (by rfl)]
  refine wp_app_run _ _ _ rfl (.slice none 0 0) _ rfl rfl hrun ?_
  have hS1 := g1.cell hS0 (by simp)
  refine hK.out _ _ hS1 (fun _ => ?_)
  clear hK
  refine wpAnyH_ready (rs := [4]) (by kernel_rfl) (by simp) ?_
  refine AllReadyH.cons rfl (fun K hK => ?_) AllReadyH.nil
  go_simp
  refine hwo.mono ?_
  clear hwo
  rintro e w2 ⟨v2, rfl, o2, g2⟩
  obtain ⟨a2, c2, rfl⟩ := rowFormS o2
  have hS2 := g2.cell hS1 (by simp)
  go_wp2_with fail
  refine hK.out _ _ hS2 (fun _ => ?_)
  clear hK
  refine wpAnyH_ready (rs := [5]) (by kernel_rfl) (by simp) ?_
  refine AllReadyH.cons rfl (fun K hK => ?_) AllReadyH.nil
  go_simp
  refine hK.out _ _ hS2 (fun _ => ?_)
  clear hK
  refine wpAnyH_done (by kernel_rfl) ?_ _
  have k0 := b1 w2 (gW01.trans g2)
  have k1 := b0 w2 (gW01.trans g2)
  have k3 := b3 w2 (gW01.trans g2)
  have gX := World.grownBy_alloc w2 (.cells #[.string s, .int .i64 (i : Int)] 130) none
  have eX := World.alloc_heap_new w2 (.cells #[.string s, .int .i64 (i : Int)] 130)
  have oX := World.ownsRow.kept (World.ownsRow.mono o2 gw1.size) gX (by cases (Value.slice a2 dl.length c2).ownBlock <;> simp)
  have hws : w.heap.size ≤ (w2.alloc (.cells #[.string s, .int .i64 (i : Int)] 130)).heap.size := by have := gX.size; have := g2.size; have := gw1.size; omega
  obtain ⟨v3, w3, hrun3, o3, g3⟩ := push_name (.slice a2 dl.length c2) dl s i w.heap.size w2.heap.size _ oX hws hdl eX
  have gF := Lib.hid (gnew ((gw1.trans g2).trans gX) g3 (fun r e => .inl (World.ownsRow.lt oX r e).1))
  have oF := Lib.hid o3
  clear hS0 hS1 hS2 b0 b1 b3 gW01 gw1 g1 g2 o2 gd gB hrun gX eX oX hws g3 o3
  go_wp2_with (at_builtin; refine wpList_app_run rfl _ _ 81 rfl (.slice a2 dl.length c2) _ rfl rfl hrun3 ?_)
  go_ret
  exact ⟨_, rfl, oF.out, gF.out⟩
end Go.Proofs.YtafcgjbafihniaaGreat
