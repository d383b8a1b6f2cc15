/-
  LAYER 1 (fs): a file in memory: safe data, data, changes; change.
-/
import Derived.Test.YtfgmaeaojkfakaaGreatFKept
import Derived.Test.YtfgmaeaojkfakaaGreatFDir
import Derived.Deep.RegionHeld3
import Derived.RangeFuncRecord
import Derived.Maps.AppendAt
namespace Go.Proofs.YtfgmaeaojkfakaaGreat
set_option maxRecDepth 100000
open Go.RowKit Go.Lib
attribute [local go_sem] Oper.semAt_some

/-- Only blocks of P are turned; others may be laid. -/
structure GP (P : Nat → Prop) (a b : World) : Prop where
  os : b.os = a.os
  tape : b.tape = a.tape
  output : b.output = a.output
  size : a.heap.size ≤ b.heap.size
  block : ∀ k, k < a.heap.size → ¬ P k → b.heap[k]? = a.heap[k]?
theorem GP.of {P : Nat → Prop} {a b : World} {q : Option Nat} (h : a.grownBy b q) (hq : ∀ k, q = some k → P k) : GP P a b := ⟨h.os, h.tape, h.output, h.size, fun k hk hp => h.block k hk (fun e => hp (hq k e.symm))⟩
theorem GP.refl (P : Nat → Prop) (a : World) : GP P a a := GP.of (World.grownBy.refl a none) (by simp)
theorem GP.trans {P Q : Nat → Prop} {a b c : World} (h : GP P a b) (g : GP Q b c) (hq : ∀ k, Q k → P k ∨ a.heap.size ≤ k) : GP P a c :=
  ⟨g.os.trans h.os, g.tape.trans h.tape, g.output.trans h.output, Nat.le_trans h.size g.size, fun k hk hp => (g.block k (Nat.lt_of_lt_of_le hk h.size) (fun hQ => by rcases hq k hQ with h1 | h1; exact hp h1; omega)).trans (h.block k hk hp)⟩
theorem GP.step {P : Nat → Prop} {a b c : World} {q : Option Nat} (h : GP P a b) (g : b.grownBy c q) (hq : ∀ k, q = some k → P k ∨ a.heap.size ≤ k) : GP P a c :=
  h.trans (Q := fun k => q = some k) (GP.of g (fun _ h => h)) hq

/-- A change: appended bytes, or a cut. -/
inductive Chg where
  | add (a : ByteArray)
  | cut (c : Nat)
def Chg.v : Chg → Value
  | .add a => .iface 115 (.string a)
  | .cut c => .iface 116 (.int .i64 (c : Int))
/-- What a change makes of data. -/
def Chg.done (bs : List UInt8) : Chg → List UInt8
  | .add a => bs ++ a.data.toList
  | .cut c => bs.take c
/-- What of a change survives by the number k, and whether it is the whole of it. -/
def Chg.kept (k : Int) (bs : List UInt8) : Chg → List UInt8 × Bool
  | .add a => (bs ++ a.data.toList.take (surv k a.size), decide (surv k a.size = a.size))
  | .cut c => (bif cutLives k then bs.take c else bs, cutLives k)
def Chg.may (bs : List UInt8) : Chg → Prop
  | .add a => bs.length + a.size ≤ 140737488355328
  | .cut c => c ≤ bs.length
theorem Chg.kept_all (bs : List UInt8) (c : Chg) : c.kept (-1) bs = (c.done bs, true) := by
  cases c with
  | add a =>
    have : surv (-1) a.size = a.size := by simp [surv]
    simp only [Chg.kept, Chg.done, this, decide_true]
    rw [List.take_of_length_le (by simp)]
  | cut c =>
    have : cutLives (-1) = true := by decide
    simp [Chg.kept, Chg.done, this]

/-- Block b is a file: its safe data, its data, its changes. -/
structure FileV where
  sv : Value
  dv : Value
  cv : Value
  safe : List UInt8
  data : List UInt8
  chg : List Chg
def FileV.blocks (f : FileV) : List Nat := f.sv.ownBlock.toList ++ f.dv.ownBlock.toList ++ f.cv.ownBlock.toList
def FileAt (w : World) (b : Nat) (f : FileV) : Prop :=
  w.heap[b]? = some (.cells #[f.sv, f.dv, f.cv] 96 (0, 0)) ∧ Owns w 0 5 f.sv f.safe ∧ Owns w 0 5 f.dv f.data ∧ w.ownsRow 0 140 1 f.cv f.chg.length (f.chg.map Chg.v) ∧ (b :: f.blocks).Nodup
section
variable {w : World} {b : Nat} {f : FileV}
theorem FileAt.c0 (h : FileAt w b f) : w.cell? ⟨b, 0, none⟩ = some f.sv := by simp [World.cell?, h.1]
theorem FileAt.c1 (h : FileAt w b f) : w.cell? ⟨b, 1, none⟩ = some f.dv := by simp [World.cell?, h.1]
theorem FileAt.c2 (h : FileAt w b f) : w.cell? ⟨b, 2, none⟩ = some f.cv := by simp [World.cell?, h.1]
theorem FileAt.free (h : FileAt w b f) (o : Nat) : w.frozen? ⟨b, o, none⟩ = false := by simp [World.frozen?, h.1]
theorem FileAt.lt (h : FileAt w b f) : b < w.heap.size := lt_of_block h.1
theorem FileAt.kept {w' : World} {P : Nat → Prop} (h : FileAt w b f) (hg : GP P w w') (hb : ¬ P b) (hs : ∀ k ∈ f.blocks, ¬ P k) : FileAt w' b f := by
  obtain ⟨h1, h2, h3, h4, h5⟩ := h
  have own : ∀ {e : TypeId} {s n : Nat} {v : Value} {xs : List Value}, w.ownsRow 0 e s v n xs → (∀ k, v.ownBlock = some k → ¬ P k) → w'.ownsRow 0 e s v n xs := by
    rintro e s n v xs ⟨q1, q2 | ⟨g, cap, cur, rfl, q4, q5, q6⟩⟩ hP
    · exact ⟨q1, .inl q2⟩
    · exact ⟨q1, .inr ⟨g, cap, cur, rfl, q4, (hg.block g (lt_of_block q5) (hP g rfl)).trans q5, q6⟩⟩
  exact ⟨(hg.block b (lt_of_block h1) hb).trans h1, own h2 (fun k e => hs k (by simp [FileV.blocks, e])), own h3 (fun k e => hs k (by simp [FileV.blocks, e])), own h4 (fun k e => hs k (by simp [FileV.blocks, e])), h5⟩
end

/-- The method that a change's kept is. -/
def Chg.fn : Chg → Nat
  | .add _ => 161
  | .cut _ => 162
def Chg.raw : Chg → Value
  | .add a => .string a
  | .cut c => .int .i64 (c : Int)
/-- kept, of whatever change. -/
theorem kept_any (c : Chg) (k : Int) (B : Nat) (v : Value) (bs : List UInt8) (w : World) (h : Owns w B 5 v bs) (hm : c.may bs) (hB : B ≤ w.heap.size) :
    Calls Tryz.prog c.fn #[c.raw, v, .int .i64 k] w fun e w' => ∃ v', e = .returned (.tuple #[v', .bool (c.kept k bs).2]) ∧ Owns w' B 5 v' (c.kept k bs).1 ∧ w.grownBy w' v.ownBlock ∧ (v'.ownBlock = v.ownBlock ∨ v'.ownBlock = some w.heap.size) := by
  cases c with
  | add a => exact addedKept_any a k B v bs w h hm hB
  | cut c =>
    refine (cutKept_any c k B v bs w h hm).mono ?_
    rintro e w' ⟨v', rfl, h1, h2, rfl⟩
    exact ⟨v', rfl, h1, World.grownBy.refl _ _, .inl h2⟩

theorem invoke_kept (c : Chg) (v : Value) (k : Int) (W : World) : (callMethod c.v "lectern/fs.kept" #[v, .int .i64 k]).run Tryz.prog W = .ok (.enter c.fn #[c.raw, v, .int .i64 k]) W := by
  cases c <;> kernel_rfl

theorem nilAhead_kept (c : Chg) (m : Nat) (W : World) (h : 0 < m) : (nilAhead m (match c.v with | .iface t _ => t | _ => 0) (match c.v with | .iface _ x => x | v => v) "lectern/fs.kept").run Tryz.prog W = .ok (some false) W := by
  cases m with
  | zero => omega
  | succ m => cases c <;> kernel_rfl
theorem method_kept (c : Chg) (m : Nat) (W : World) (h : 0 < m) : (method m (match c.v with | .iface t _ => t | _ => 0) (match c.v with | .iface _ x => x | v => v) "lectern/fs.kept").run Tryz.prog W = .ok (c.fn, c.raw) W := by
  cases m with
  | zero => omega
  | succ m => cases c <;> kernel_rfl
theorem callFunc_kept (c : Chg) (args : Array Value) (W : World) : (callFunc c.fn args).run Tryz.prog W = .ok (.enter c.fn args) W := by cases c <;> kernel_rfl
theorem gwide2 {a c : World} (h : a.grownBy c none) (row : Option Nat) : a.grownBy c row := ⟨h.os, h.tape, h.output, h.size, fun i hi _ => h.block i hi (by simp)⟩

theorem nodup3 {b : Nat} {x y z : Option Nat} (h1 : x ≠ some b) (h2 : y ≠ some b) (h3 : z ≠ some b) (h4 : ∀ k, x = some k → y ≠ some k) (h5 : ∀ k, x = some k → z ≠ some k) (h6 : ∀ k, y = some k → z ≠ some k) : (b :: (x.toList ++ y.toList ++ z.toList)).Nodup := by
  cases x <;> cases y <;> cases z <;> simp_all <;> omega
theorem FileV.mem_s {f : FileV} {k : Nat} (h : f.sv.ownBlock = some k) : k ∈ f.blocks := by simp [FileV.blocks, h]
theorem FileV.mem_d {f : FileV} {k : Nat} (h : f.dv.ownBlock = some k) : k ∈ f.blocks := by simp [FileV.blocks, h]
theorem FileV.mem_c {f : FileV} {k : Nat} (h : f.cv.ownBlock = some k) : k ∈ f.blocks := by simp [FileV.blocks, h]
theorem FileV.mem {f : FileV} {k : Nat} (h : k ∈ f.blocks) : f.sv.ownBlock = some k ∨ f.dv.ownBlock = some k ∨ f.cv.ownBlock = some k := by
  simp only [FileV.blocks, List.mem_append, Option.mem_toList] at h
  rcases h with (h | h) | h
  · exact .inl h
  · exact .inr (.inl h)
  · exact .inr (.inr h)

theorem infoChg : (Tryz.prog.info? 140).map (fun i => (i.zero, i.size, i.bytes)) = some (some .nilIface, 1, 16) := by kernel_rfl
theorem info_partsC : ∃ i0 : TypeInfo, Tryz.prog.info? 140 = some i0 ∧ i0.zero = some .nilIface ∧ i0.size = 1 ∧ i0.bytes = 16 := by
  have h := infoChg
  cases hi : Tryz.prog.info? 140 with
  | none => rw [hi] at h; cases h
  | some i =>
    rw [hi] at h
    simp only [Option.map_some, Option.some.injEq, Prod.mk.injEq] at h
    exact ⟨i, rfl, h.1, h.2.1, h.2.2⟩
theorem Chg.form (c : Chg) : ∃ t x, c.v = .iface t x := by cases c <;> exact ⟨_, _, rfl⟩

set_option maxHeartbeats 4000000 in
theorem change_any (c : Chg) (b : Nat) (f : FileV) (w : World) (h : FileAt w b f) (hm : c.may f.data) (hn : f.chg.length < 8796093022207) :
    Calls Tryz.prog 70 #[.pointer (some ⟨b, 0, none⟩), c.v] w fun e w' => e = .returned (.tuple #[]) ∧ ∃ f', FileAt w' b f' ∧ f'.safe = f.safe ∧ f'.data = c.done f.data ∧ f'.chg = f.chg ++ [c] ∧ GP (fun k => k = b ∨ k ∈ f.blocks) w w' ∧ (∀ k ∈ f'.blocks, k ∈ f.blocks ∨ w.heap.size ≤ k) := by
  have h0 := h.c0
  have h1 := h.c1
  have h2 := h.c2
  have f1 := h.free 1
  have f2 := h.free 2
  have hbl := h.lt
  obtain ⟨hb, hs, hd, hc, hnd⟩ := h
  obtain ⟨i0, hi, hz0, hz1, hz2⟩ := info_partsC
  have hiv := fun v k W => invoke_kept c v k W
  have hna := fun m W => nilAhead_kept c m W
  have hme := fun m W => method_kept c m W
  have hcf := fun args W => callFunc_kept c args W
  obtain ⟨ty, x, hv⟩ := c.form
  rw [hv] at hiv hna hme ⊢
  have hcL := Lib.hid hc
  have hv2 := Lib.hid hv
  clear hc hv
  go_enter Tryz.func70, Tryz.ntmps70
  go_upto_region 1 with (at_builtin; refine wpList_append_own_at _ rfl _ _ 94 rfl 0 140 i0 .nilIface 1 16 Tryz.underlying94 hi hz0 hz1 hz2 rfl (by decide) f.cv f.chg.length (f.chg.map Chg.v) rfl (hcL.out.alloc _) ⟨w.heap.size, 0, none⟩ 1 1 [.iface ty x] rfl rfl ?c1 ?c2 ?c3 ?c4 ?c5 ?_)
  case c2 => rfl
  case c3 => unfold maxLen; omega
  case c4 => omega
  intro v' w1 hown hgrow _ hlies
  obtain ⟨a', c', rfl⟩ : ∃ a c, v' = .slice a (f.chg.length + 1) c := by
    obtain ⟨_, ⟨rfl, hz⟩ | ⟨g, cap, cur, rfl, _⟩⟩ := hown
    · omega
    · exact ⟨_, _, rfl⟩
  have hcv : f.cv.ownBlock ≠ some b := fun e => by have := (List.nodup_cons.1 hnd).1; simp [FileV.blocks, e] at this
  have hdv : f.dv.ownBlock ≠ some b := fun e => by have := (List.nodup_cons.1 hnd).1; simp [FileV.blocks, e] at this
  have hsv : f.sv.ownBlock ≠ some b := fun e => by have := (List.nodup_cons.1 hnd).1; simp [FileV.blocks, e] at this
  have g0 := World.grownBy_alloc w (.cells #[.iface ty x] 140) none
  have hb1 : w1.heap[b]? = some (.cells #[f.sv, f.dv, f.cv] 96 (0, 0)) := (hgrow.block b (by simp; omega) (fun e => hcv e.symm)).trans ((g0.block b hbl (by simp)).trans hb)
  have hb2 := heap_setCell_same w1 b 2 _ _ (.slice a' (f.chg.length + 1) c') hb1
  have r1 : w1.frozen? ⟨b, 2, none⟩ = false := by simp [World.frozen?, hb1]
  have r2 : ∃ u, w1.cell? ⟨b, 2, none⟩ = some u := ⟨f.cv, by simp [World.cell?, hb1]⟩
  obtain ⟨u2, r2⟩ := r2
  replace hown := Lib.hid hown
  replace hgrow := Lib.hid hgrow
  go_upto_region 1 with fail
  have hdf : ∃ a c, f.dv = .slice a f.data.length c := by
    obtain ⟨_, ⟨e, hz⟩ | ⟨g, cap, cur, e, _⟩⟩ := hd
    · exact ⟨none, 0, by rw [e, hz]⟩
    · exact ⟨_, _, e⟩
  have hnd2 := (List.nodup_cons.1 hnd).2
  have hdc : ∀ k, f.dv.ownBlock = some k → f.cv.ownBlock ≠ some k := fun k e e2 => by
    unfold FileV.blocks at hnd2
    rw [e, e2, List.nodup_append] at hnd2
    exact hnd2.2.2 k (by simp) k (by simp) rfl
  have hsc : ∀ k, f.sv.ownBlock = some k → f.cv.ownBlock ≠ some k := fun k e e2 => by
    unfold FileV.blocks at hnd2
    rw [e, e2, List.nodup_append] at hnd2
    exact hnd2.2.2 k (by simp) k (by simp) rfl
  have hsd : ∀ k, f.sv.ownBlock = some k → f.dv.ownBlock ≠ some k := fun k e e2 => by
    unfold FileV.blocks at hnd2
    rw [e, e2, List.nodup_append] at hnd2
    have := (List.nodup_append.1 hnd2.1).2.2
    exact this k (by simp) k (by simp) rfl
  have alt : ∀ (v : Value) (q : Option Nat), (∀ k, v.ownBlock = some k → q ≠ some k) → v.ownBlock = none ∨ v.ownBlock ≠ q := fun v q h => by
    cases e : v.ownBlock with
    | none => exact .inl rfl
    | some k => exact .inr (fun e2 => h k e e2.symm)
  have g2 := gset (World.grownBy.refl w1 (some b)) 2 (.slice a' (f.chg.length + 1) c')
  have hd2 := ((Owns.kept hd g0 (alt _ _ (fun k _ => by simp))).kept hgrow.out (alt _ _ hdc)).kept g2 (alt _ _ (fun k e e2 => hdv (by rw [e]; simpa using e2.symm)))
  have hs2 := ((Owns.kept hs g0 (alt _ _ (fun k _ => by simp))).kept hgrow.out (alt _ _ hsc)).kept g2 (alt _ _ (fun k e e2 => hsv (by rw [e]; simpa using e2.symm)))
  have hcb : (Value.slice a' (f.chg.length + 1) c').ownBlock ≠ some b := by
    rcases hlies with e | e
    · rw [e]; exact hcv
    · rw [e]; simp; omega
  have hc2 := World.ownsRow.kept hown.out g2 (alt _ _ (fun k e e2 => hcb (by rw [e]; simpa using e2.symm)))
  obtain ⟨W2, hW2⟩ : ∃ W2, W2 = w1.setCell ⟨b, 2, none⟩ (.slice a' (f.chg.length + 1) c') := ⟨_, rfl⟩
  rw [← hW2] at hb2 hd2 hs2 hc2 g2 ⊢
  replace hW2 := Lib.hid hW2
  have hb2' : W2.heap[b]? = some (.cells #[f.sv, f.dv, .slice a' (f.chg.length + 1) c'] 96 (0, 0)) := hb2
  clear hb2
  have hKept := fun W h hB => kept_any c (-1) 0 f.dv f.data W h hm hB
  rw [Chg.kept_all] at hKept
  refine wp_region_held_drew (S := fun _ => True) (by kernel_rfl) trivial (fun hS0 => ?_)
  have hd3 : Owns W2.drew 0 5 f.dv f.data := Owns.kept hd2 (gdrew (World.grownBy.refl W2 none)) (by cases f.dv.ownBlock <;> simp)
  obtain ⟨V, hV⟩ : ∃ V, V = W2.drew := ⟨_, rfl⟩
  have gV : W2.grownBy V none := by rw [hV]; exact gdrew (World.grownBy.refl W2 none)
  rw [← hV] at hd3 ⊢
  clear hV
  have hbV : V.heap[b]? = some (.cells #[f.sv, f.dv, .slice a' (f.chg.length + 1) c'] 96 (0, 0)) := (gV.block b (lt_of_block hb2') (by simp)).trans hb2'
  have l1 : V.cell? ⟨b, 1, none⟩ = some f.dv := by simp [World.cell?, hbV]
  refine wpAnyH_take (i := 0) (oi := ⟨some 15, _, _, _, _, _⟩) (v := ?_) rfl (by kernel_rfl) (by kernel_rfl) (by kernel_rfl) (fun _ _ _ h => h) (Or.inl ⟨by rfl, ?_⟩) (by assumption) ?_
  rotate_left
  · (intro w hSw; (try dsimp only at hSw); go_simp; try with_reducible rfl)
  try simp only [Act.put, List.setIfInBounds_toArray, List.set_cons_zero, List.set_cons_succ]
  refine wpAnyH_take (i := 1) (oi := ⟨some 16, _, _, _, _, _⟩) (v := ?_) rfl (by kernel_rfl) (by kernel_rfl) (by kernel_rfl) (fun _ _ _ h => h) (Or.inl ⟨by rfl, ?_⟩) (by assumption) ?_
  rotate_left
  · (intro w hSw; (try dsimp only at hSw); go_simp; try with_reducible rfl)
  try simp only [Act.put, List.setIfInBounds_toArray, List.set_cons_zero, List.set_cons_succ]
  refine wpAnyH_take (i := 2) (oi := ⟨some 17, _, _, _, _, _⟩) (v := ?_) rfl (by kernel_rfl) (by kernel_rfl) (by kernel_rfl) (fun _ _ _ h => h) (Or.inl ⟨by rfl, ?_⟩) (by assumption) ?_
  rotate_left
  · (intro w hSw; (try dsimp only at hSw); go_simp; try with_reducible rfl)
  try simp only [Act.put, List.setIfInBounds_toArray, List.set_cons_zero, List.set_cons_succ]
  refine wpAnyH_take (i := 3) (oi := ⟨some 18, _, _, _, _, _⟩) (v := ?_) rfl (by kernel_rfl) (by kernel_rfl) (by kernel_rfl) (fun _ _ _ h => h) (Or.inl ⟨by rfl, ?_⟩) (by assumption) ?_
  rotate_left
  · (intro w hSw; (try dsimp only at hSw); go_simp; try with_reducible rfl)
  try simp only [Act.put, List.setIfInBounds_toArray, List.set_cons_zero, List.set_cons_succ]
  refine wpAnyH_take (i := 4) (oi := ⟨some 19, _, _, _, _, _⟩) (v := ?_) rfl (by kernel_rfl) (by kernel_rfl) (by kernel_rfl) (fun _ _ _ h => h) (Or.inl ⟨by rfl, ?_⟩) (by assumption) ?_
  rotate_left
  · (intro w hSw; (try dsimp only at hSw); go_simp; try with_reducible rfl)
  try simp only [Act.put, List.setIfInBounds_toArray, List.set_cons_zero, List.set_cons_succ]
  refine wpAnyH_take (i := 6) (oi := ⟨some 21, _, _, _, _, _⟩) (v := ?_) rfl (by kernel_rfl) (by kernel_rfl) (by kernel_rfl) (fun _ _ _ h => h) (Or.inl ⟨by rfl, ?_⟩) (by assumption) ?_
  rotate_left
  · (intro w hSw; (try dsimp only at hSw); go_simp; try with_reducible rfl)
  try simp only [Act.put, List.setIfInBounds_toArray, List.set_cons_zero, List.set_cons_succ]
  refine wpAnyH_take (i := 7) (oi := ⟨some 22, _, _, _, _, _⟩) (v := ?_) rfl (by kernel_rfl) (by kernel_rfl) (by kernel_rfl) (fun _ _ _ h => h) (Or.inl ⟨by rfl, ?_⟩) (by assumption) ?_
  rotate_left
  · (intro w hSw; (try dsimp only at hSw); go_simp; try with_reducible rfl)
  try simp only [Act.put, List.setIfInBounds_toArray, List.set_cons_zero, List.set_cons_succ]
  refine wpAnyH_take (i := 8) (oi := ⟨some 23, _, _, _, _, _⟩) (v := ?_) rfl (by kernel_rfl) (by kernel_rfl) (by kernel_rfl) (fun _ _ _ h => h) (Or.inl ⟨by rfl, ?_⟩) (by assumption) ?_
  rotate_left
  · (intro w hSw; (try dsimp only at hSw); go_simp; try with_reducible rfl)
  try simp only [Act.put, List.setIfInBounds_toArray, List.set_cons_zero, List.set_cons_succ]
  refine wpAnyH_ready (rs := [5]) (by kernel_rfl) (by simp) ?_
  refine AllReadyH.cons rfl (fun K hK => ?_) AllReadyH.nil
  go_simp
  refine hK.out _ _ trivial (fun _ => ?_)
  clear hK
  refine wpAnyH_ready (rs := [9]) (by kernel_rfl) (by simp) ?_
  refine AllReadyH.cons rfl (fun K hK => ?_) AllReadyH.nil
  go_simp
  refine (hKept _ hd3 (Nat.zero_le _)).mono ?_
  rintro e w5 ⟨v5, rfl, ho5, g5, hl5⟩
  refine hK.out _ _ trivial (fun _ => ?_)
  clear hK
  refine wpAnyH_take (i := 10) (oi := ⟨some 14, _, _, _, _, _⟩) (v := ?_) rfl (by kernel_rfl) (by kernel_rfl) (by kernel_rfl) (fun _ _ _ h => h) (Or.inl ⟨by rfl, ?_⟩) (by assumption) ?_
  rotate_left
  · (intro w hSw; (try dsimp only at hSw); go_simp; try with_reducible rfl)
  try simp only [Act.put, List.setIfInBounds_toArray, List.set_cons_zero, List.set_cons_succ]
  refine wpAnyH_take (i := 11) (oi := ⟨some 25, _, _, _, _, _⟩) (v := ?_) rfl (by kernel_rfl) (by kernel_rfl) (by kernel_rfl) (fun _ _ _ h => h) (Or.inl ⟨by rfl, ?_⟩) (by assumption) ?_
  rotate_left
  · (intro w hSw; (try dsimp only at hSw); go_simp; try with_reducible rfl)
  try simp only [Act.put, List.setIfInBounds_toArray, List.set_cons_zero, List.set_cons_succ]
  refine wpAnyH_take (i := 12) (oi := ⟨some 26, _, _, _, _, _⟩) (v := ?_) rfl (by kernel_rfl) (by kernel_rfl) (by kernel_rfl) (fun _ _ _ h => h) (Or.inl ⟨by rfl, ?_⟩) (by assumption) ?_
  rotate_left
  · (intro w hSw; (try dsimp only at hSw); go_simp; try with_reducible rfl)
  try simp only [Act.put, List.setIfInBounds_toArray, List.set_cons_zero, List.set_cons_succ]
  refine wpAnyH_take (i := 13) (oi := ⟨some 27, _, _, _, _, _⟩) (v := ?_) rfl (by kernel_rfl) (by kernel_rfl) (by kernel_rfl) (fun _ _ _ h => h) (Or.inl ⟨by rfl, ?_⟩) (by assumption) ?_
  rotate_left
  · (intro w hSw; (try dsimp only at hSw); go_simp; try with_reducible rfl)
  try simp only [Act.put, List.setIfInBounds_toArray, List.set_cons_zero, List.set_cons_succ]
  refine wpAnyH_take (i := 14) (oi := ⟨some 28, _, _, _, _, _⟩) (v := ?_) rfl (by kernel_rfl) (by kernel_rfl) (by kernel_rfl) (fun _ _ _ h => h) (Or.inl ⟨by rfl, ?_⟩) (by assumption) ?_
  rotate_left
  · (intro w hSw; (try dsimp only at hSw); go_simp; try with_reducible rfl)
  try simp only [Act.put, List.setIfInBounds_toArray, List.set_cons_zero, List.set_cons_succ]
  refine wpAnyH_ready (rs := [15]) (by kernel_rfl) (by simp) ?_
  refine AllReadyH.cons rfl (fun K hK => ?_) AllReadyH.nil
  have hb5 : w5.heap[b]? = some (.cells #[f.sv, f.dv, .slice a' (f.chg.length + 1) c'] 96 (0, 0)) := (g5.block b (lt_of_block hbV) (fun e => hdv e.symm)).trans hbV
  have q1 : w5.frozen? ⟨b, 1, none⟩ = false := by simp [World.frozen?, hb5]
  have q2 : w5.cell? ⟨b, 1, none⟩ = some f.dv := by simp [World.cell?, hb5]
  obtain ⟨a5, n5, c5, rfl⟩ : ∃ a n c, v5 = .slice a n c := by
    obtain ⟨_, ⟨rfl, _⟩ | ⟨g, cap, cur, rfl, _⟩⟩ := ho5
    · exact ⟨_, _, _, rfl⟩
    · exact ⟨_, _, _, rfl⟩
  go_simp
  refine hK.out _ _ trivial (fun _ => ?_)
  clear hK
  refine wpAnyH_done (by kernel_rfl) ?_ _
  go_wp2_with fail
  have gF := gset (World.grownBy.refl w5 (some b)) 1 (.slice a5 n5 c5)
  have hb6 := heap_setCell_same w5 b 1 _ _ (.slice a5 n5 c5) hb5
  obtain ⟨Z, hZ⟩ : ∃ Z, Z = w5.setCell ⟨b, 1, none⟩ (.slice a5 n5 c5) := ⟨_, rfl⟩
  rw [← hZ] at gF hb6 ⊢
  have nb : ∀ (v : Value), v.ownBlock ≠ some b → v.ownBlock = none ∨ v.ownBlock ≠ some b := fun v h => .inr h
  have w1s : w.heap.size ≤ w1.heap.size := by have := hgrow.out.size; simp at this; omega
  have W2s : W2.heap.size = w1.heap.size := by rw [hW2.out]; simp [World.setCell]
  have Vs := gV.size
  have hcn : ∀ k, (Value.slice a' (f.chg.length + 1) c').ownBlock = some k → f.cv.ownBlock = some k ∨ k = w.heap.size + 1 := fun k e => by
    rcases hlies with e2 | e2
    · left; rw [← e2]; exact e
    · right; rw [e] at e2; simp at e2; exact e2
  have hdn : ∀ k, (Value.slice a5 n5 c5).ownBlock = some k → f.dv.ownBlock = some k ∨ k = V.heap.size := fun k e => by
    rcases hl5 with e2 | e2
    · left; rw [← e2]; exact e
    · right; rw [e] at e2; simpa using e2
  have hvb5 : (Value.slice a5 n5 c5).ownBlock ≠ some b := fun e => by
    rcases hdn b e with h | h
    · exact hdv h
    · have := lt_of_block hbV; omega
  have w1b : w.heap.size + 1 ≤ w1.heap.size := by have := hgrow.out.size; simpa using this
  have sold : ∀ k, f.sv.ownBlock = some k → k < w.heap.size := fun k e => (Owns.lt hs k e).2
  have dold : ∀ k, f.dv.ownBlock = some k → k < w.heap.size := fun k e => (Owns.lt hd k e).2
  have cnew : ∀ k, (Value.slice a' (f.chg.length + 1) c').ownBlock = some k → k < W2.heap.size := fun k e => (World.ownsRow.lt hc2 k e).2
  -- what there was, kept by the call and the store
  have hs5 := ((Owns.kept hs2 gV (alt _ _ (fun k _ => by simp))).kept g5 (alt _ _ hsd)).kept gF (alt _ _ (fun k e e2 => hsv (by rw [e]; simpa using e2.symm)))
  have cd : ∀ k, (Value.slice a' (f.chg.length + 1) c').ownBlock = some k → f.dv.ownBlock ≠ some k := fun k e e2 => by
    rcases hcn k e with h | h
    · exact hdc k e2 h
    · have := dold k e2; omega
  have hc5 := World.ownsRow.kept (World.ownsRow.kept (World.ownsRow.kept hc2 gV (alt _ _ (fun k _ => by simp))) g5 (alt _ _ cd)) gF (alt _ _ (fun k e e2 => hcb (by rw [e]; simpa using e2.symm)))
  have hd5 := Owns.kept ho5 gF (alt _ _ (fun k e e2 => hvb5 (by rw [e]; simpa using e2.symm)))
  go_end0
  refine ⟨rfl, ⟨f.sv, .slice a5 n5 c5, .slice a' (f.chg.length + 1) c', f.safe, c.done f.data, f.chg ++ [c]⟩, ⟨hb6, hs5, hd5, ?_, ?_⟩, rfl, rfl, rfl, ?_, ?_⟩
  · have e1 : (f.chg ++ [c]).map Chg.v = f.chg.map Chg.v ++ [.iface ty x] := by rw [List.map_append, List.map_cons, List.map_nil, hv2.out]
    have e2 : (f.chg ++ [c]).length = f.chg.length + 1 := by simp
    rw [e1, e2]
    exact hc5
  · refine nodup3 hsv hvb5 hcb (fun k e e2 => ?_) (fun k e e2 => ?_) (fun k e e2 => ?_)
    · rcases hdn k e2 with h | h
      · exact hsd k e h
      · have := sold k e; omega
    · rcases hcn k e2 with h | h
      · exact hsc k e h
      · have := sold k e; omega
    · rcases hdn k e with h | h
      · exact cd k e2 h
      · have := cnew k e2; omega
  · exact (((((GP.of (P := fun k => k = b ∨ k ∈ f.blocks) g0 (by simp)).step hgrow.out (fun k e => .inl (.inr (FileV.mem_c e)))).step g2 (fun k e => by cases e; exact .inl (.inl rfl))).step gV (by simp)).step g5 (fun k e => .inl (.inr (FileV.mem_d e)))).step gF (fun k e => by cases e; exact .inl (.inl rfl))
  · intro k hk
    rcases FileV.mem hk with h | h | h
    · exact .inl (FileV.mem_s h)
    · rcases hdn k h with h2 | h2
      · exact .inl (FileV.mem_d h2)
      · right; omega
    · rcases hcn k h with h2 | h2
      · exact .inl (FileV.mem_c h2)
      · right; omega
end Go.Proofs.YtfgmaeaojkfakaaGreat
