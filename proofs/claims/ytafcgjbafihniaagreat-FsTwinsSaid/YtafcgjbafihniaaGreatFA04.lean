/-
  LAYER 1 (fs): changes of a file: what survives of appended bytes, of a cut.
-/
import Derived.Test.YtafcgjbafihniaaGreatFA03
import Derived.WalkLawsBesides
import Derived.WalkSpells
import Derived.BigQuiet
import Derived.Lib.AppendStr
import Derived.Deep.DeepCutAuto
import Derived.Deep.RegionHeld3
import Derived.RangeFuncRecord
import Derived.Maps.AppendAt
import Derived.Test.YtafcgjbafihniaaGreatFA01
import Derived.RangeFuncBound
import Derived.TacticsInMore
import Derived.BigRegionIn
import Derived.LoopIn
import Derived.LoopNIn
import Derived.OwnWalkIn
import Derived.Sort.OwnSortedInts
namespace Go.Proofs.YtafcgjbafihniaaGreat
set_option maxRecDepth 100000
open Go.RowKit Go.Lib
attribute [local go_sem] Oper.semAt_some

theorem info_partsF : ∃ i0 : TypeInfo, Tryz.prog.info? 5 = some i0 ∧ i0.zero = some (.int .u8 0) ∧ i0.size = 1 ∧ i0.bytes = 1 := by
  have h := infoU8
  cases hi : Tryz.prog.info? 5 with
  | none => rw [hi] at h; cases h
  | some i =>
    rw [hi] at h
    simp only [Option.map_some, Option.some.injEq, Prod.mk.injEq] at h
    exact ⟨i, rfl, h.1, h.2.1, h.2.2⟩

/-- How many of n survive by the number k. -/
def surv (k : Int) (n : Nat) : Nat := if k < 0 then n else (k % ((n : Int) + 1)).toNat
theorem surv_le (k : Int) (n : Nat) : surv k n ≤ n := by
  unfold surv
  split
  · exact Nat.le_refl _
  · have := Int.emod_lt_of_pos k (show (0 : Int) < (n : Int) + 1 by omega)
    have := Int.emod_nonneg k (show (n : Int) + 1 ≠ 0 by omega)
    omega
theorem surv_int (k : Int) (n : Nat) : (if k < 0 then (n : Int) else k % ((n : Int) + 1)) = (surv k n : Int) := by
  unfold surv
  split
  · rfl
  · have := Int.emod_nonneg k (show (n : Int) + 1 ≠ 0 by omega)
    omega

theorem strCells_bytes (s : ByteArray) : strCells s = byteCells s.data.toList := by
  simp [strCells, byteCells]

/-- A beginning of a row of one's own. -/
theorem Owns.take {w : World} {B : Nat} {e : TypeId} {v : Value} {bs : List UInt8} (h : Owns w B e v bs) {c : Nat} (hc : c ≤ bs.length) :
    ∃ v', Owns w B e v' (bs.take c) ∧ v'.ownBlock = v.ownBlock ∧ ((v = .slice none 0 0 ∧ v' = .slice none 0 0) ∨ ∃ g cap, v = .slice (some ⟨g, 0, none⟩) bs.length cap ∧ v' = .slice (some ⟨g, 0, none⟩) c cap ∧ bs.length ≤ cap ∧ cap ≤ maxLen) := by
  obtain ⟨h1, ⟨rfl, hn⟩ | ⟨g, cap, cur, rfl, hB, hg, hn, hm, hs, ht⟩⟩ := h
  · have h0 := List.length_eq_zero_iff.1 hn
    subst h0
    refine ⟨.slice none 0 0, ?_, rfl, .inl ⟨rfl, rfl⟩⟩
    rw [List.take_nil]
    exact World.ownsRow_nil w B e 1
  · refine ⟨.slice (some ⟨g, 0, none⟩) c cap, ?_, rfl, .inr ⟨g, cap, rfl, rfl, hn, hm⟩⟩
    have hl : (bs.take c).length = c := by simp; omega
    unfold Owns
    rw [hl]
    refine ⟨by simp [byteCells]; omega, .inr ⟨g, cap, cur, rfl, hB, hg, by omega, hm, hs, ?_⟩⟩
    have e1 : byteCells (bs.take c) = (byteCells bs).take c := by simp [byteCells, List.map_take]
    rw [e1, ← ht, List.take_take]
    congr 1
    omega

theorem Owns.none {w : World} {B : Nat} {e : TypeId} {bs : List UInt8} (h : Owns w B e (.slice .none 0 0) bs) : bs = [] := by
  obtain ⟨_, ⟨_, hn⟩ | ⟨g, cap, cur, h, _⟩⟩ := h
  · exact List.length_eq_zero_iff.1 hn
  · cases h

/-- Whether a cut survives by the number k. -/
def cutLives (k : Int) : Bool := !(decide (0 ≤ k) && decide (k % 2 = 0))

set_option maxHeartbeats 2000000 in
theorem cutKept_any (c : Nat) (k : Int) (B : Nat) (v : Value) (bs : List UInt8) (w : World) (h : Owns w B 5 v bs) (hc : c ≤ bs.length) :
    Calls Tryz.prog 162 #[.int .i64 (c : Int), v, .int .i64 k] w fun e w' => ∃ v', e = .returned (.tuple #[v', .bool (cutLives k)]) ∧ Owns w B 5 v' (bif cutLives k then bs.take c else bs) ∧ v'.ownBlock = v.ownBlock ∧ w = w' := by
  obtain ⟨v2, ho2, hb2, hv⟩ := h.take hc
  obtain ⟨q, hq⟩ : ∃ q, q = cutLives k := ⟨_, rfl⟩
  rw [← hq]
  unfold cutLives at hq
  have key : (0 ≤ k ∧ Int.tmod k 2 = 0 ∧ q = false) ∨ (0 ≤ k ∧ (k % 2 == 0) = false ∧ q = true) ∨ (k < 0 ∧ q = true) := by
    by_cases h0 : 0 ≤ k
    · by_cases h2 : k % 2 = 0
      · exact .inl ⟨h0, by rw [Int.tmod_eq_emod_of_nonneg h0, h2], by rw [hq]; simp [h0, h2]⟩
      · exact .inr (.inl ⟨h0, by simpa using h2, by rw [hq]; simp [h0, h2]⟩)
    · exact .inr (.inr ⟨by omega, by rw [hq]; simp [h0]⟩)
  clear hq
  rcases key with ⟨h0, hm, rfl⟩ | ⟨h0, hm, rfl⟩ | ⟨h0, rfl⟩
  · go_enter Tryz.func162, Tryz.ntmps162
    go_wp2
    go_ret2
    exact ⟨v, rfl, h, rfl, rfl⟩
  all_goals
    rcases hv with ⟨rfl, rfl⟩ | ⟨g, cap, rfl, rfl, h3, h4⟩
    · have hnil := h.none
      subst hnil
      obtain rfl : c = 0 := by simpa using hc
      go_enter Tryz.func162, Tryz.ntmps162
      go_wp2
      go_ret2
      exact ⟨_, rfl, ho2, rfl, rfl⟩
    · have h5 : c ≤ cap := by omega
      go_enter Tryz.func162, Tryz.ntmps162
      go_wp2
      go_ret2
      exact ⟨_, rfl, ho2, rfl, rfl⟩

theorem surv_any (k : Int) (n : Nat) (hm : n < 4611686018427387904) (w : World) :
    Calls Tryz.prog 88 #[.int .i64 k, .int .i64 (n : Int)] w fun e w' => e = .returned (.int .i64 (surv k n : Int)) ∧ w = w' := by
  rw [← surv_int]
  by_cases h : k < 0
  · rw [if_pos h]
    go_enter Tryz.func88, Tryz.ntmps88
    go_wp2
    go_ret
    exact ⟨rfl, rfl⟩
  · rw [if_neg h]
    go_enter Tryz.func88, Tryz.ntmps88
    go_wp2
    go_ret
    exact ⟨rfl, rfl⟩

/-- Where a row lies to which a text was appended: where it lay, or in a new block. -/
theorem append_string_lies {P : Program} (w : World) (base : Nat) (t u ty e : TypeId) (i : TypeInfo) (ht : P.underlying t = some (.slice e)) (hu : P.underlying u = some .string) (hi : P.info? e = some i) (hz : i.zero = some (.int .u8 0))
    (hsize : i.size = 1) (hby : i.bytes = 1) (v : Value) (n : Nat) (xs : List Value) (hown : w.ownsRow base e 1 v n xs) (s : ByteArray) (hbytes : n + s.size ≤ 140737488355328) {v' : Value} {w' : World}
    (hrun : (Builtin.append_ #[t, u] ty #[v, .string s]).run P w = .ok v' w') : v'.ownBlock = v.ownBlock ∨ v'.ownBlock = some w.heap.size := by
  have hxl : xs.length = n := by simpa using hown.1
  have h0 := hown
  rcases hown.2 with ⟨rfl, rfl⟩ | ⟨g, cap, cur, rfl, hbg, hg, hnc, hcm, hcs, htake⟩
  · by_cases hm : s.size = 0
    · have hf := run_firstCells_string (P := P) w 1 s
      rw [hm] at hf
      simp [Builtin.append_, run_underlying ht, run_underlying hu, sizeOf, typeInfo, hi, hsize, Builtin.lenOf, hm, hf] at hrun
      obtain ⟨rfl, _⟩ := hrun
      exact .inl rfl
    · have hr := run_append_nil_string (P := P) w t u ty e i (.int .u8 0) ht hu hi hz s (by omega) (by omega) (by rw [hby]; omega)
      rw [hr] at hrun
      simp only [Result.ok.injEq] at hrun
      obtain ⟨rfl, _⟩ := hrun
      exact .inr rfl
  · by_cases hroom : n + s.size ≤ cap
    · have hr := run_append_room_string (P := P) w t u ty e i ht hu hi hsize g n cap cur hg s hroom (by simp at hcs; omega)
      rw [hr] at hrun
      simp only [Result.ok.injEq] at hrun
      obtain ⟨rfl, _⟩ := hrun
      exact .inl rfl
    · have hr := run_append_grow_string (P := P) w t u ty e i (.int .u8 0) ht hu hi hz ⟨g, 0, none⟩ n cap xs (by rw [hsize]; simpa using hxl) (h0.cells (g := g) rfl) s (by omega) (by omega) (by rw [hby]; exact growslice_fits (by omega) (by omega))
      rw [hr] at hrun
      simp only [Result.ok.injEq] at hrun
      obtain ⟨rfl, _⟩ := hrun
      exact .inr rfl
theorem wpList_append_string_at {P : Program} (w : World) {ops : Array Oper} {rest : List Oper} {o : Oper} {a : Act} {Q : Exit → Act → World → Prop} (hgd : o.guard = none) (sl x : Operand) (t u : TypeId)
    (ho : o.op = .call { callee := .builtin .append, args := #[sl, x], argTypes := #[t, u] })
    (base : Nat) (e : TypeId) (i : TypeInfo) (ht : P.underlying t = some (.slice e)) (hu : P.underlying u = some .string) (hi : P.info? e = some i) (hz : i.zero = some (.int .u8 0)) (hsize : i.size = 1) (hby : i.bytes = 1)
    (v : Value) (n : Nat) (xs : List Value) (hs : a.eval sl = v) (hown : w.ownsRow base e 1 v n xs) (s : ByteArray) (hx : a.eval x = .string s)
    (hbytes : n + s.size ≤ 140737488355328) (hbase : base ≤ w.heap.size)
    (h : ∀ v' w', w'.ownsRow base e 1 v' (n + s.size) (xs ++ strCells s) → w.grownBy w' v.ownBlock → (v'.ownBlock = v.ownBlock ∨ v'.ownBlock = some w.heap.size) → wpList P ops Q rest (a.put o.dst v') w') : wpList P ops Q (o :: rest) a w := by
  refine wpList_plain hgd fun K hK => ?_
  obtain ⟨v', w', hr, h2, h3, _⟩ := run_append_own_string (P := P) w base t u o.type e i ht hu hi hz hsize hby v n xs hown s (by unfold maxLen; omega) hbytes hbase
  have h4 := append_string_lies w base t u o.type e i ht hu hi hz hsize hby v n xs hown s hbytes hr
  unfold Oper.wp execOp
  simp only [ho, resolve, invoke, builtin, Sem.run_bind, Sem.run_pure, Result.andThen_ok, List.map_toArray, List.map_cons, List.map_nil, hs, hx, hr]
  exact hK _ _ (h v' w' h2 h3 h4)

set_option maxHeartbeats 2000000 in
theorem addedKept_any (a : ByteArray) (k : Int) (B : Nat) (v : Value) (bs : List UInt8) (w : World) (h : Owns w B 5 v bs) (hl : bs.length + a.size ≤ 140737488355328) (hB : B ≤ w.heap.size) :
    Calls Tryz.prog 161 #[.string a, v, .int .i64 k] w fun e w' => ∃ v', e = .returned (.tuple #[v', .bool (decide (surv k a.size = a.size))]) ∧ Owns w' B 5 v' (bs ++ a.data.toList.take (surv k a.size)) ∧ w.grownBy w' v.ownBlock ∧ (v'.ownBlock = v.ownBlock ∨ v'.ownBlock = some w.heap.size) := by
  have hsv := fun w => surv_any k a.size (by omega) w
  have hle := surv_le k a.size
  obtain ⟨n, hn⟩ : ∃ n, n = surv k a.size := ⟨_, rfl⟩
  rw [← hn] at hsv hle ⊢
  clear hn
  go_enter Tryz.func161, Tryz.ntmps161
  obtain ⟨i0, hi, hz0, hz1, hz2⟩ := info_partsF
  have hx : (a.extract 0 n).size = n := by simp [ByteArray.size_extract]; omega
  have hxl : strCells (a.extract 0 n) = byteCells (a.data.toList.take n) := by
    rw [strCells_bytes]
    congr 1
    rw [ByteArray.data_extract, Array.toList_extract, List.extract_eq_take_drop]
    simp
  have he : Hid (((n : Int) == (a.size : Int)) = decide (n = a.size)) := Lib.hid (by rw [Bool.eq_iff_iff]; simp; omega)
  go_wp2_with (first
    | (go_at_call 88; refine (hsv _).mono ?_; rintro e w2 ⟨rfl, rfl⟩)
    | (at_builtin; refine wpList_append_string_at _ rfl _ _ 32 115 rfl B 5 i0 Tryz.underlying32 Tryz.underlying115 hi hz0 hz1 hz2 v bs.length (byteCells bs) rfl h (a.extract 0 n) rfl (by rw [hx]; omega) hB ?_; intro v' w' hown hgrow hlies; rw [hx, hxl] at hown))
  go_ret2
  refine ⟨v', by simp [he.out], ?_, hgrow, hlies⟩
  have hb : byteCells bs ++ byteCells (a.data.toList.take n) = byteCells (bs ++ a.data.toList.take n) := by simp [byteCells]
  rw [hb] at hown
  unfold Owns
  rw [List.length_append, List.length_take, Nat.min_eq_left (by simpa using hle)]
  exact hown
end Go.Proofs.YtafcgjbafihniaaGreat

/-
  LAYER 1 (fs): a file in memory: safe data, data, changes; change.
-/
namespace Go.Proofs.YtafcgjbafihniaaGreat
set_option maxRecDepth 100000
open Go.RowKit Go.Lib
attribute [local go_sem] Oper.semAt_some

/-- Only blocks of P are turned; others may be laid. -/
structure GP (P : Nat → Prop) (a b : World) : Prop where
  os : b.os = a.os
  tape : b.tape = a.tape
  output : b.output = a.output
  size : a.heap.size ≤ b.heap.size
  block : ∀ k, k < a.heap.size → ¬ P k → b.heap[k]? = a.heap[k]?
theorem GP.of {P : Nat → Prop} {a b : World} {q : Option Nat} (h : a.grownBy b q) (hq : ∀ k, q = some k → P k) : GP P a b := ⟨h.os, h.tape, h.output, h.size, fun k hk hp => h.block k hk (fun e => hp (hq k e.symm))⟩
theorem GP.refl (P : Nat → Prop) (a : World) : GP P a a := GP.of (World.grownBy.refl a none) (by simp)
theorem GP.trans {P Q : Nat → Prop} {a b c : World} (h : GP P a b) (g : GP Q b c) (hq : ∀ k, Q k → P k ∨ a.heap.size ≤ k) : GP P a c :=
  ⟨g.os.trans h.os, g.tape.trans h.tape, g.output.trans h.output, Nat.le_trans h.size g.size, fun k hk hp => (g.block k (Nat.lt_of_lt_of_le hk h.size) (fun hQ => by rcases hq k hQ with h1 | h1; exact hp h1; omega)).trans (h.block k hk hp)⟩
theorem GP.step {P : Nat → Prop} {a b c : World} {q : Option Nat} (h : GP P a b) (g : b.grownBy c q) (hq : ∀ k, q = some k → P k ∨ a.heap.size ≤ k) : GP P a c :=
  h.trans (Q := fun k => q = some k) (GP.of g (fun _ h => h)) hq

/-- A change: appended bytes, or a cut. -/
inductive Chg where
  | add (a : ByteArray)
  | cut (c : Nat)
def Chg.v : Chg → Value
  | .add a => .iface 115 (.string a)
  | .cut c => .iface 116 (.int .i64 (c : Int))
/-- What a change makes of data. -/
def Chg.done (bs : List UInt8) : Chg → List UInt8
  | .add a => bs ++ a.data.toList
  | .cut c => bs.take c
/-- What of a change survives by the number k, and whether it is the whole of it. -/
def Chg.kept (k : Int) (bs : List UInt8) : Chg → List UInt8 × Bool
  | .add a => (bs ++ a.data.toList.take (surv k a.size), decide (surv k a.size = a.size))
  | .cut c => (bif cutLives k then bs.take c else bs, cutLives k)
def Chg.may (bs : List UInt8) : Chg → Prop
  | .add a => bs.length + a.size ≤ 140737488355328
  | .cut c => c ≤ bs.length
theorem Chg.kept_all (bs : List UInt8) (c : Chg) : c.kept (-1) bs = (c.done bs, true) := by
  cases c with
  | add a =>
    have : surv (-1) a.size = a.size := by simp [surv]
    simp only [Chg.kept, Chg.done, this, decide_true]
    rw [List.take_of_length_le (by simp)]
  | cut c =>
    have : cutLives (-1) = true := by decide
    simp [Chg.kept, Chg.done, this]

/-- Block b is a file: its safe data, its data, its changes. -/
structure FileV where
  sv : Value
  dv : Value
  cv : Value
  safe : List UInt8
  data : List UInt8
  chg : List Chg
def FileV.blocks (f : FileV) : List Nat := f.sv.ownBlock.toList ++ f.dv.ownBlock.toList ++ f.cv.ownBlock.toList
def FileAt (w : World) (b : Nat) (f : FileV) : Prop :=
  w.heap[b]? = some (.cells #[f.sv, f.dv, f.cv] 96 (0, 0)) ∧ Owns w 0 5 f.sv f.safe ∧ Owns w 0 5 f.dv f.data ∧ w.ownsRow 0 140 1 f.cv f.chg.length (f.chg.map Chg.v) ∧ (b :: f.blocks).Nodup
section
variable {w : World} {b : Nat} {f : FileV}
theorem FileAt.c0 (h : FileAt w b f) : w.cell? ⟨b, 0, none⟩ = some f.sv := by simp [World.cell?, h.1]
theorem FileAt.c1 (h : FileAt w b f) : w.cell? ⟨b, 1, none⟩ = some f.dv := by simp [World.cell?, h.1]
theorem FileAt.c2 (h : FileAt w b f) : w.cell? ⟨b, 2, none⟩ = some f.cv := by simp [World.cell?, h.1]
theorem FileAt.free (h : FileAt w b f) (o : Nat) : w.frozen? ⟨b, o, none⟩ = false := by simp [World.frozen?, h.1]
theorem FileAt.lt (h : FileAt w b f) : b < w.heap.size := lt_of_block h.1
theorem FileAt.kept {w' : World} {P : Nat → Prop} (h : FileAt w b f) (hg : GP P w w') (hb : ¬ P b) (hs : ∀ k ∈ f.blocks, ¬ P k) : FileAt w' b f := by
  obtain ⟨h1, h2, h3, h4, h5⟩ := h
  have own : ∀ {e : TypeId} {s n : Nat} {v : Value} {xs : List Value}, w.ownsRow 0 e s v n xs → (∀ k, v.ownBlock = some k → ¬ P k) → w'.ownsRow 0 e s v n xs := by
    rintro e s n v xs ⟨q1, q2 | ⟨g, cap, cur, rfl, q4, q5, q6⟩⟩ hP
    · exact ⟨q1, .inl q2⟩
    · exact ⟨q1, .inr ⟨g, cap, cur, rfl, q4, (hg.block g (lt_of_block q5) (hP g rfl)).trans q5, q6⟩⟩
  exact ⟨(hg.block b (lt_of_block h1) hb).trans h1, own h2 (fun k e => hs k (by simp [FileV.blocks, e])), own h3 (fun k e => hs k (by simp [FileV.blocks, e])), own h4 (fun k e => hs k (by simp [FileV.blocks, e])), h5⟩
end

/-- The method that a change's kept is. -/
def Chg.fn : Chg → Nat
  | .add _ => 161
  | .cut _ => 162
def Chg.raw : Chg → Value
  | .add a => .string a
  | .cut c => .int .i64 (c : Int)
/-- kept, of whatever change. -/
theorem kept_any (c : Chg) (k : Int) (B : Nat) (v : Value) (bs : List UInt8) (w : World) (h : Owns w B 5 v bs) (hm : c.may bs) (hB : B ≤ w.heap.size) :
    Calls Tryz.prog c.fn #[c.raw, v, .int .i64 k] w fun e w' => ∃ v', e = .returned (.tuple #[v', .bool (c.kept k bs).2]) ∧ Owns w' B 5 v' (c.kept k bs).1 ∧ w.grownBy w' v.ownBlock ∧ (v'.ownBlock = v.ownBlock ∨ v'.ownBlock = some w.heap.size) := by
  cases c with
  | add a => exact addedKept_any a k B v bs w h hm hB
  | cut c =>
    refine (cutKept_any c k B v bs w h hm).mono ?_
    rintro e w' ⟨v', rfl, h1, h2, rfl⟩
    exact ⟨v', rfl, h1, World.grownBy.refl _ _, .inl h2⟩

theorem invoke_kept (c : Chg) (v : Value) (k : Int) (W : World) : (callMethod c.v "lectern/fs.kept" #[v, .int .i64 k]).run Tryz.prog W = .ok (.enter c.fn #[c.raw, v, .int .i64 k]) W := by
  cases c <;> kernel_rfl

theorem nilAhead_kept (c : Chg) (m : Nat) (W : World) (h : 0 < m) : (nilAhead m (match c.v with | .iface t _ => t | _ => 0) (match c.v with | .iface _ x => x | v => v) "lectern/fs.kept").run Tryz.prog W = .ok (some false) W := by
  cases m with
  | zero => omega
  | succ m => cases c <;> kernel_rfl
theorem method_kept (c : Chg) (m : Nat) (W : World) (h : 0 < m) : (method m (match c.v with | .iface t _ => t | _ => 0) (match c.v with | .iface _ x => x | v => v) "lectern/fs.kept").run Tryz.prog W = .ok (c.fn, c.raw) W := by
  cases m with
  | zero => omega
  | succ m => cases c <;> kernel_rfl
theorem callFunc_kept (c : Chg) (args : Array Value) (W : World) : (callFunc c.fn args).run Tryz.prog W = .ok (.enter c.fn args) W := by cases c <;> kernel_rfl
theorem gwide2 {a c : World} (h : a.grownBy c none) (row : Option Nat) : a.grownBy c row := ⟨h.os, h.tape, h.output, h.size, fun i hi _ => h.block i hi (by simp)⟩

theorem nodup3 {b : Nat} {x y z : Option Nat} (h1 : x ≠ some b) (h2 : y ≠ some b) (h3 : z ≠ some b) (h4 : ∀ k, x = some k → y ≠ some k) (h5 : ∀ k, x = some k → z ≠ some k) (h6 : ∀ k, y = some k → z ≠ some k) : (b :: (x.toList ++ y.toList ++ z.toList)).Nodup := by
  cases x <;> cases y <;> cases z <;> simp_all <;> omega
theorem FileV.mem_s {f : FileV} {k : Nat} (h : f.sv.ownBlock = some k) : k ∈ f.blocks := by simp [FileV.blocks, h]
theorem FileV.mem_d {f : FileV} {k : Nat} (h : f.dv.ownBlock = some k) : k ∈ f.blocks := by simp [FileV.blocks, h]
theorem FileV.mem_c {f : FileV} {k : Nat} (h : f.cv.ownBlock = some k) : k ∈ f.blocks := by simp [FileV.blocks, h]
theorem FileV.mem {f : FileV} {k : Nat} (h : k ∈ f.blocks) : f.sv.ownBlock = some k ∨ f.dv.ownBlock = some k ∨ f.cv.ownBlock = some k := by
  simp only [FileV.blocks, List.mem_append, Option.mem_toList] at h
  rcases h with (h | h) | h
  · exact .inl h
  · exact .inr (.inl h)
  · exact .inr (.inr h)

theorem infoChg : (Tryz.prog.info? 140).map (fun i => (i.zero, i.size, i.bytes)) = some (some .nilIface, 1, 16) := by kernel_rfl
theorem info_partsC : ∃ i0 : TypeInfo, Tryz.prog.info? 140 = some i0 ∧ i0.zero = some .nilIface ∧ i0.size = 1 ∧ i0.bytes = 16 := by
  have h := infoChg
  cases hi : Tryz.prog.info? 140 with
  | none => rw [hi] at h; cases h
  | some i =>
    rw [hi] at h
    simp only [Option.map_some, Option.some.injEq, Prod.mk.injEq] at h
    exact ⟨i, rfl, h.1, h.2.1, h.2.2⟩
theorem Chg.form (c : Chg) : ∃ t x, c.v = .iface t x := by cases c <;> exact ⟨_, _, rfl⟩

set_option maxHeartbeats 4000000 in
theorem change_any (c : Chg) (b : Nat) (f : FileV) (w : World) (h : FileAt w b f) (hm : c.may f.data) (hn : f.chg.length < 8796093022207) :
    Calls Tryz.prog 70 #[.pointer (some ⟨b, 0, none⟩), c.v] w fun e w' => e = .returned (.tuple #[]) ∧ ∃ f', FileAt w' b f' ∧ f'.safe = f.safe ∧ f'.data = c.done f.data ∧ f'.chg = f.chg ++ [c] ∧ GP (fun k => k = b ∨ k ∈ f.blocks) w w' ∧ (∀ k ∈ f'.blocks, k ∈ f.blocks ∨ w.heap.size ≤ k) := by
  have h0 := h.c0
  have h1 := h.c1
  have h2 := h.c2
  have f1 := h.free 1
  have f2 := h.free 2
  have hbl := h.lt
  obtain ⟨hb, hs, hd, hc, hnd⟩ := h
  obtain ⟨i0, hi, hz0, hz1, hz2⟩ := info_partsC
  have hiv := fun v k W => invoke_kept c v k W
  have hna := fun m W => nilAhead_kept c m W
  have hme := fun m W => method_kept c m W
  have hcf := fun args W => callFunc_kept c args W
  obtain ⟨ty, x, hv⟩ := c.form
  rw [hv] at hiv hna hme ⊢
  have hcL := Lib.hid hc
  have hv2 := Lib.hid hv
  clear hc hv
  go_enter Tryz.func70, Tryz.ntmps70
  go_upto_region 1 with (at_builtin; refine wpList_append_own_at _ rfl _ _ 94 rfl 0 140 i0 .nilIface 1 16 Tryz.underlying94 hi hz0 hz1 hz2 rfl (by decide) f.cv f.chg.length (f.chg.map Chg.v) rfl (hcL.out.alloc _) ⟨w.heap.size, 0, none⟩ 1 1 [.iface ty x] rfl rfl ?c1 ?c2 ?c3 ?c4 ?c5 ?_)
  case c2 => rfl
  case c3 => unfold maxLen; omega
  case c4 => omega
  intro v' w1 hown hgrow _ hlies
  obtain ⟨a', c', rfl⟩ : ∃ a c, v' = .slice a (f.chg.length + 1) c := by
    obtain ⟨_, ⟨rfl, hz⟩ | ⟨g, cap, cur, rfl, _⟩⟩ := hown
    · omega
    · exact ⟨_, _, rfl⟩
  have hcv : f.cv.ownBlock ≠ some b := fun e => by have := (List.nodup_cons.1 hnd).1; simp [FileV.blocks, e] at this
  have hdv : f.dv.ownBlock ≠ some b := fun e => by have := (List.nodup_cons.1 hnd).1; simp [FileV.blocks, e] at this
  have hsv : f.sv.ownBlock ≠ some b := fun e => by have := (List.nodup_cons.1 hnd).1; simp [FileV.blocks, e] at this
  have g0 := World.grownBy_alloc w (.cells #[.iface ty x] 140) none
  have hb1 : w1.heap[b]? = some (.cells #[f.sv, f.dv, f.cv] 96 (0, 0)) := (hgrow.block b (by simp; omega) (fun e => hcv e.symm)).trans ((g0.block b hbl (by simp)).trans hb)
  have hb2 := heap_setCell_same w1 b 2 _ _ (.slice a' (f.chg.length + 1) c') hb1
  have r1 : w1.frozen? ⟨b, 2, none⟩ = false := by simp [World.frozen?, hb1]
  have r2 : ∃ u, w1.cell? ⟨b, 2, none⟩ = some u := ⟨f.cv, by simp [World.cell?, hb1]⟩
  obtain ⟨u2, r2⟩ := r2
  replace hown := Lib.hid hown
  replace hgrow := Lib.hid hgrow
  go_upto_region 1 with fail
  have hdf : ∃ a c, f.dv = .slice a f.data.length c := by
    obtain ⟨_, ⟨e, hz⟩ | ⟨g, cap, cur, e, _⟩⟩ := hd
    · exact ⟨none, 0, by rw [e, hz]⟩
    · exact ⟨_, _, e⟩
  have hnd2 := (List.nodup_cons.1 hnd).2
  have hdc : ∀ k, f.dv.ownBlock = some k → f.cv.ownBlock ≠ some k := fun k e e2 => by
    unfold FileV.blocks at hnd2
    rw [e, e2, List.nodup_append] at hnd2
    exact hnd2.2.2 k (by simp) k (by simp) rfl
  have hsc : ∀ k, f.sv.ownBlock = some k → f.cv.ownBlock ≠ some k := fun k e e2 => by
    unfold FileV.blocks at hnd2
    rw [e, e2, List.nodup_append] at hnd2
    exact hnd2.2.2 k (by simp) k (by simp) rfl
  have hsd : ∀ k, f.sv.ownBlock = some k → f.dv.ownBlock ≠ some k := fun k e e2 => by
    unfold FileV.blocks at hnd2
    rw [e, e2, List.nodup_append] at hnd2
    have := (List.nodup_append.1 hnd2.1).2.2
    exact this k (by simp) k (by simp) rfl
  have alt : ∀ (v : Value) (q : Option Nat), (∀ k, v.ownBlock = some k → q ≠ some k) → v.ownBlock = none ∨ v.ownBlock ≠ q := fun v q h => by
    cases e : v.ownBlock with
    | none => exact .inl rfl
    | some k => exact .inr (fun e2 => h k e e2.symm)
  have g2 := gset (World.grownBy.refl w1 (some b)) 2 (.slice a' (f.chg.length + 1) c')
  have hd2 := ((Owns.kept hd g0 (alt _ _ (fun k _ => by simp))).kept hgrow.out (alt _ _ hdc)).kept g2 (alt _ _ (fun k e e2 => hdv (by rw [e]; simpa using e2.symm)))
  have hs2 := ((Owns.kept hs g0 (alt _ _ (fun k _ => by simp))).kept hgrow.out (alt _ _ hsc)).kept g2 (alt _ _ (fun k e e2 => hsv (by rw [e]; simpa using e2.symm)))
  have hcb : (Value.slice a' (f.chg.length + 1) c').ownBlock ≠ some b := by
    rcases hlies with e | e
    · rw [e]; exact hcv
    · rw [e]; simp; omega
  have hc2 := World.ownsRow.kept hown.out g2 (alt _ _ (fun k e e2 => hcb (by rw [e]; simpa using e2.symm)))
  obtain ⟨W2, hW2⟩ : ∃ W2, W2 = w1.setCell ⟨b, 2, none⟩ (.slice a' (f.chg.length + 1) c') := ⟨_, rfl⟩
  rw [← hW2] at hb2 hd2 hs2 hc2 g2 ⊢
  replace hW2 := Lib.hid hW2
  have hb2' : W2.heap[b]? = some (.cells #[f.sv, f.dv, .slice a' (f.chg.length + 1) c'] 96 (0, 0)) := hb2
  clear hb2
  have hKept := fun W h hB => kept_any c (-1) 0 f.dv f.data W h hm hB
  rw [Chg.kept_all] at hKept
  refine wp_region_held_drew (S := fun _ => True) (by kernel_rfl) trivial (fun hS0 => ?_)
  have hd3 : Owns W2.drew 0 5 f.dv f.data := Owns.kept hd2 (gdrew (World.grownBy.refl W2 none)) (by cases f.dv.ownBlock <;> simp)
  obtain ⟨V, hV⟩ : ∃ V, V = W2.drew := ⟨_, rfl⟩
  have gV : W2.grownBy V none := by rw [hV]; exact gdrew (World.grownBy.refl W2 none)
  rw [← hV] at hd3 ⊢
  clear hV
  have hbV : V.heap[b]? = some (.cells #[f.sv, f.dv, .slice a' (f.chg.length + 1) c'] 96 (0, 0)) := (gV.block b (lt_of_block hb2') (by simp)).trans hb2'
  have l1 : V.cell? ⟨b, 1, none⟩ = some f.dv := by simp [World.cell?, hbV]
  refine wpAnyH_take (i := 0) (oi := ⟨some 15, _, _, _, _, _⟩) (v := ?_) rfl (by kernel_rfl) (by kernel_rfl) (by kernel_rfl) (fun _ _ _ h => h) (Or.inl ⟨by rfl, ?_⟩) (by assumption) ?_
  rotate_left
  · (intro w hSw; (try dsimp only at hSw); go_simp; try with_reducible rfl)
  try simp only [Act.put, List.setIfInBounds_toArray, List.set_cons_zero, List.set_cons_succ]
  refine wpAnyH_take (i := 1) (oi := ⟨some 16, _, _, _, _, _⟩) (v := ?_) rfl (by kernel_rfl) (by kernel_rfl) (by kernel_rfl) (fun _ _ _ h => h) (Or.inl ⟨by rfl, ?_⟩) (by assumption) ?_
  rotate_left
  · (intro w hSw; (try dsimp only at hSw); go_simp; try with_reducible rfl)
  try simp only [Act.put, List.setIfInBounds_toArray, List.set_cons_zero, List.set_cons_succ]
  refine wpAnyH_take (i := 2) (oi := ⟨some 17, _, _, _, _, _⟩) (v := ?_) rfl (by kernel_rfl) (by kernel_rfl) (by kernel_rfl) (fun _ _ _ h => h) (Or.inl ⟨by rfl, ?_⟩) (by assumption) ?_
  rotate_left
  · (intro w hSw; (try dsimp only at hSw); go_simp; try with_reducible rfl)
  try simp only [Act.put, List.setIfInBounds_toArray, List.set_cons_zero, List.set_cons_succ]
  refine wpAnyH_take (i := 3) (oi := ⟨some 18, _, _, _, _, _⟩) (v := ?_) rfl (by kernel_rfl) (by kernel_rfl) (by kernel_rfl) (fun _ _ _ h => h) (Or.inl ⟨by rfl, ?_⟩) (by assumption) ?_
  rotate_left
  · (intro w hSw; (try dsimp only at hSw); go_simp; try with_reducible rfl)
  try simp only [Act.put, List.setIfInBounds_toArray, List.set_cons_zero, List.set_cons_succ]
  refine wpAnyH_take (i := 4) (oi := ⟨some 19, _, _, _, _, _⟩) (v := ?_) rfl (by kernel_rfl) (by kernel_rfl) (by kernel_rfl) (fun _ _ _ h => h) (Or.inl ⟨by rfl, ?_⟩) (by assumption) ?_
  rotate_left
  · (intro w hSw; (try dsimp only at hSw); go_simp; try with_reducible rfl)
  try simp only [Act.put, List.setIfInBounds_toArray, List.set_cons_zero, List.set_cons_succ]
  refine wpAnyH_take (i := 6) (oi := ⟨some 21, _, _, _, _, _⟩) (v := ?_) rfl (by kernel_rfl) (by kernel_rfl) (by kernel_rfl) (fun _ _ _ h => h) (Or.inl ⟨by rfl, ?_⟩) (by assumption) ?_
  rotate_left
  · (intro w hSw; (try dsimp only at hSw); go_simp; try with_reducible rfl)
  try simp only [Act.put, List.setIfInBounds_toArray, List.set_cons_zero, List.set_cons_succ]
  refine wpAnyH_take (i := 7) (oi := ⟨some 22, _, _, _, _, _⟩) (v := ?_) rfl (by kernel_rfl) (by kernel_rfl) (by kernel_rfl) (fun _ _ _ h => h) (Or.inl ⟨by rfl, ?_⟩) (by assumption) ?_
  rotate_left
  · (intro w hSw; (try dsimp only at hSw); go_simp; try with_reducible rfl)
  try simp only [Act.put, List.setIfInBounds_toArray, List.set_cons_zero, List.set_cons_succ]
  refine wpAnyH_take (i := 8) (oi := ⟨some 23, _, _, _, _, _⟩) (v := ?_) rfl (by kernel_rfl) (by kernel_rfl) (by kernel_rfl) (fun _ _ _ h => h) (Or.inl ⟨by rfl, ?_⟩) (by assumption) ?_
  rotate_left
  · (intro w hSw; (try dsimp only at hSw); go_simp; try with_reducible rfl)
  try simp only [Act.put, List.setIfInBounds_toArray, List.set_cons_zero, List.set_cons_succ]
  refine wpAnyH_ready (rs := [5]) (by kernel_rfl) (by simp) ?_
  refine AllReadyH.cons rfl (fun K hK => ?_) AllReadyH.nil
  go_simp
  refine hK.out _ _ trivial (fun _ => ?_)
  clear hK
  refine wpAnyH_ready (rs := [9]) (by kernel_rfl) (by simp) ?_
  refine AllReadyH.cons rfl (fun K hK => ?_) AllReadyH.nil
  go_simp
  refine (hKept _ hd3 (Nat.zero_le _)).mono ?_
  rintro e w5 ⟨v5, rfl, ho5, g5, hl5⟩
  refine hK.out _ _ trivial (fun _ => ?_)
  clear hK
  refine wpAnyH_take (i := 10) (oi := ⟨some 14, _, _, _, _, _⟩) (v := ?_) rfl (by kernel_rfl) (by kernel_rfl) (by kernel_rfl) (fun _ _ _ h => h) (Or.inl ⟨by rfl, ?_⟩) (by assumption) ?_
  rotate_left
  · (intro w hSw; (try dsimp only at hSw); go_simp; try with_reducible rfl)
  try simp only [Act.put, List.setIfInBounds_toArray, List.set_cons_zero, List.set_cons_succ]
  refine wpAnyH_take (i := 11) (oi := ⟨some 25, _, _, _, _, _⟩) (v := ?_) rfl (by kernel_rfl) (by kernel_rfl) (by kernel_rfl) (fun _ _ _ h => h) (Or.inl ⟨by rfl, ?_⟩) (by assumption) ?_
  rotate_left
  · (intro w hSw; (try dsimp only at hSw); go_simp; try with_reducible rfl)
  try simp only [Act.put, List.setIfInBounds_toArray, List.set_cons_zero, List.set_cons_succ]
  refine wpAnyH_take (i := 12) (oi := ⟨some 26, _, _, _, _, _⟩) (v := ?_) rfl (by kernel_rfl) (by kernel_rfl) (by kernel_rfl) (fun _ _ _ h => h) (Or.inl ⟨by rfl, ?_⟩) (by assumption) ?_
  rotate_left
  · (intro w hSw; (try dsimp only at hSw); go_simp; try with_reducible rfl)
  try simp only [Act.put, List.setIfInBounds_toArray, List.set_cons_zero, List.set_cons_succ]
  refine wpAnyH_take (i := 13) (oi := ⟨some 27, _, _, _, _, _⟩) (v := ?_) rfl (by kernel_rfl) (by kernel_rfl) (by kernel_rfl) (fun _ _ _ h => h) (Or.inl ⟨by rfl, ?_⟩) (by assumption) ?_
  rotate_left
  · (intro w hSw; (try dsimp only at hSw); go_simp; try with_reducible rfl)
  try simp only [Act.put, List.setIfInBounds_toArray, List.set_cons_zero, List.set_cons_succ]
  refine wpAnyH_take (i := 14) (oi := ⟨some 28, _, _, _, _, _⟩) (v := ?_) rfl (by kernel_rfl) (by kernel_rfl) (by kernel_rfl) (fun _ _ _ h => h) (Or.inl ⟨by rfl, ?_⟩) (by assumption) ?_
  rotate_left
  · (intro w hSw; (try dsimp only at hSw); go_simp; try with_reducible rfl)
  try simp only [Act.put, List.setIfInBounds_toArray, List.set_cons_zero, List.set_cons_succ]
  refine wpAnyH_ready (rs := [15]) (by kernel_rfl) (by simp) ?_
  refine AllReadyH.cons rfl (fun K hK => ?_) AllReadyH.nil
  have hb5 : w5.heap[b]? = some (.cells #[f.sv, f.dv, .slice a' (f.chg.length + 1) c'] 96 (0, 0)) := (g5.block b (lt_of_block hbV) (fun e => hdv e.symm)).trans hbV
  have q1 : w5.frozen? ⟨b, 1, none⟩ = false := by simp [World.frozen?, hb5]
  have q2 : w5.cell? ⟨b, 1, none⟩ = some f.dv := by simp [World.cell?, hb5]
  obtain ⟨a5, n5, c5, rfl⟩ : ∃ a n c, v5 = .slice a n c := by
    obtain ⟨_, ⟨rfl, _⟩ | ⟨g, cap, cur, rfl, _⟩⟩ := ho5
    · exact ⟨_, _, _, rfl⟩
    · exact ⟨_, _, _, rfl⟩
  go_simp
  refine hK.out _ _ trivial (fun _ => ?_)
  clear hK
  refine wpAnyH_done (by kernel_rfl) ?_ _
  go_wp2_with fail
  have gF := gset (World.grownBy.refl w5 (some b)) 1 (.slice a5 n5 c5)
  have hb6 := heap_setCell_same w5 b 1 _ _ (.slice a5 n5 c5) hb5
  obtain ⟨Z, hZ⟩ : ∃ Z, Z = w5.setCell ⟨b, 1, none⟩ (.slice a5 n5 c5) := ⟨_, rfl⟩
  rw [← hZ] at gF hb6 ⊢
  have nb : ∀ (v : Value), v.ownBlock ≠ some b → v.ownBlock = none ∨ v.ownBlock ≠ some b := fun v h => .inr h
  have w1s : w.heap.size ≤ w1.heap.size := by have := hgrow.out.size; simp at this; omega
  have W2s : W2.heap.size = w1.heap.size := by rw [hW2.out]; simp [World.setCell]
  have Vs := gV.size
  have hcn : ∀ k, (Value.slice a' (f.chg.length + 1) c').ownBlock = some k → f.cv.ownBlock = some k ∨ k = w.heap.size + 1 := fun k e => by
    rcases hlies with e2 | e2
    · left; rw [← e2]; exact e
    · right; rw [e] at e2; simp at e2; exact e2
  have hdn : ∀ k, (Value.slice a5 n5 c5).ownBlock = some k → f.dv.ownBlock = some k ∨ k = V.heap.size := fun k e => by
    rcases hl5 with e2 | e2
    · left; rw [← e2]; exact e
    · right; rw [e] at e2; simpa using e2
  have hvb5 : (Value.slice a5 n5 c5).ownBlock ≠ some b := fun e => by
    rcases hdn b e with h | h
    · exact hdv h
    · have := lt_of_block hbV; omega
  have w1b : w.heap.size + 1 ≤ w1.heap.size := by have := hgrow.out.size; simpa using this
  have sold : ∀ k, f.sv.ownBlock = some k → k < w.heap.size := fun k e => (Owns.lt hs k e).2
  have dold : ∀ k, f.dv.ownBlock = some k → k < w.heap.size := fun k e => (Owns.lt hd k e).2
  have cnew : ∀ k, (Value.slice a' (f.chg.length + 1) c').ownBlock = some k → k < W2.heap.size := fun k e => (World.ownsRow.lt hc2 k e).2
  -- what there was, kept by the call and the store
  have hs5 := ((Owns.kept hs2 gV (alt _ _ (fun k _ => by simp))).kept g5 (alt _ _ hsd)).kept gF (alt _ _ (fun k e e2 => hsv (by rw [e]; simpa using e2.symm)))
  have cd : ∀ k, (Value.slice a' (f.chg.length + 1) c').ownBlock = some k → f.dv.ownBlock ≠ some k := fun k e e2 => by
    rcases hcn k e with h | h
    · exact hdc k e2 h
    · have := dold k e2; omega
  have hc5 := World.ownsRow.kept (World.ownsRow.kept (World.ownsRow.kept hc2 gV (alt _ _ (fun k _ => by simp))) g5 (alt _ _ cd)) gF (alt _ _ (fun k e e2 => hcb (by rw [e]; simpa using e2.symm)))
  have hd5 := Owns.kept ho5 gF (alt _ _ (fun k e e2 => hvb5 (by rw [e]; simpa using e2.symm)))
  go_end0
  refine ⟨rfl, ⟨f.sv, .slice a5 n5 c5, .slice a' (f.chg.length + 1) c', f.safe, c.done f.data, f.chg ++ [c]⟩, ⟨hb6, hs5, hd5, ?_, ?_⟩, rfl, rfl, rfl, ?_, ?_⟩
  · have e1 : (f.chg ++ [c]).map Chg.v = f.chg.map Chg.v ++ [.iface ty x] := by rw [List.map_append, List.map_cons, List.map_nil, hv2.out]
    have e2 : (f.chg ++ [c]).length = f.chg.length + 1 := by simp
    rw [e1, e2]
    exact hc5
  · refine nodup3 hsv hvb5 hcb (fun k e e2 => ?_) (fun k e e2 => ?_) (fun k e e2 => ?_)
    · rcases hdn k e2 with h | h
      · exact hsd k e h
      · have := sold k e; omega
    · rcases hcn k e2 with h | h
      · exact hsc k e h
      · have := sold k e; omega
    · rcases hdn k e with h | h
      · exact cd k e2 h
      · have := cnew k e2; omega
  · exact (((((GP.of (P := fun k => k = b ∨ k ∈ f.blocks) g0 (by simp)).step hgrow.out (fun k e => .inl (.inr (FileV.mem_c e)))).step g2 (fun k e => by cases e; exact .inl (.inl rfl))).step gV (by simp)).step g5 (fun k e => .inl (.inr (FileV.mem_d e)))).step gF (fun k e => by cases e; exact .inl (.inl rfl))
  · intro k hk
    rcases FileV.mem hk with h | h | h
    · exact .inl (FileV.mem_s h)
    · rcases hdn k h with h2 | h2
      · exact .inl (FileV.mem_d h2)
      · right; omega
    · rcases hcn k h with h2 | h2
      · exact .inl (FileV.mem_c h2)
      · right; omega
end Go.Proofs.YtafcgjbafihniaaGreat

/-
  LAYER 1 (fs): slices.Values, Collect, Sorted at ints.
-/
namespace Go.Proofs.YtafcgjbafihniaaGreat
set_option maxRecDepth 100000
open Go.RowKit Go.Lib
attribute [local go_sem] Oper.semAt_some

def intV (x : Int) : Value := .int .i64 x
/-- A slice of ints reads as zs; or it is empty with an address that need lead nowhere. -/
def Ints (w : World) (v : Value) (zs : List Int) : Prop := Row w v (zs.map intV) ∨ ∃ ad : Addr, v = .slice (some ad) 0 0 ∧ zs = []

theorem Row.form {w : World} {v : Value} {vs : List Value} (h : Row w v vs) : ∃ a c, v = .slice a vs.length c := by
  rcases h with ⟨rfl, rfl⟩ | ⟨b, off, cap, rfl, _⟩
  · exact ⟨none, 0, rfl⟩
  · exact ⟨_, _, rfl⟩
theorem Row.len {w : World} {a : Option Addr} {l c : Nat} {vs : List Value} (h : Row w (.slice a l c) vs) : l = vs.length ∧ l ≤ c ∧ c ≤ maxLen := by
  rcases h with ⟨h, rfl⟩ | ⟨b, off, cap, h, h1, h2, _⟩
  · simp at h
    obtain ⟨rfl, rfl, rfl⟩ := h
    simp
  · simp at h
    obtain ⟨rfl, rfl, rfl⟩ := h
    exact ⟨rfl, h1, h2⟩
theorem Row.get {w : World} {a : Option Addr} {l c : Nat} {vs : List Value} (h : Row w (.slice a l c) vs) {i : Nat} (hi : i < vs.length) : ∃ b off, a = some ⟨b, off, none⟩ ∧ w.cell? ⟨b, off + i, none⟩ = some vs[i] := by
  rcases h with ⟨_, rfl⟩ | ⟨b, off, cap, h, _, _, hc⟩
  · simp at hi
  · simp at h
    obtain ⟨rfl, _, _⟩ := h
    exact ⟨b, off, rfl, hc i _ (List.getElem?_eq_getElem hi)⟩
theorem Row.heap {A B : World} {v : Value} {vs : List Value} (h : Row A v vs) (hb : vs ≠ [] → ∀ k, v.ownBlock = some k → B.heap[k]? = A.heap[k]?) : Row B v vs := by
  rcases h with h | ⟨b, off, cap, rfl, h1, h2, hc⟩
  · exact .inl h
  · refine .inr ⟨b, off, cap, rfl, h1, h2, fun i u hu => ?_⟩
    have hn : vs ≠ [] := by rintro rfl; simp at hu
    have := hb hn b rfl
    have h3 := hc i u hu
    simp only [World.cell?] at h3 ⊢
    rw [this]; exact h3

theorem Ints.len {w : World} {a : Option Addr} {l c : Nat} {zs : List Int} (h : Ints w (.slice a l c) zs) : l = zs.length ∧ l ≤ c ∧ c ≤ maxLen := by
  rcases h with h | ⟨ad, h, rfl⟩
  · simpa using h.len
  · simp at h
    obtain ⟨rfl, rfl, rfl⟩ := h
    simp
theorem Ints.form {w : World} {v : Value} {zs : List Int} (h : Ints w v zs) : ∃ a c, v = .slice a zs.length c := by
  rcases h with h | ⟨ad, rfl, rfl⟩
  · simpa using h.form
  · exact ⟨some ad, 0, rfl⟩
theorem Ints.get {w : World} {a : Option Addr} {l c : Nat} {zs : List Int} (h : Ints w (.slice a l c) zs) {i : Nat} (hi : i < zs.length) : ∃ b off, a = some ⟨b, off, none⟩ ∧ w.cell? ⟨b, off + i, none⟩ = some (intV zs[i]) := by
  rcases h with h | ⟨ad, h, rfl⟩
  · obtain ⟨b, off, h1, h2⟩ := Row.get h (i := i) (by simpa using hi)
    exact ⟨b, off, h1, by simpa using h2⟩
  · simp at hi
theorem Ints.heap {A B : World} {v : Value} {zs : List Int} (h : Ints A v zs) (hb : zs ≠ [] → ∀ k, v.ownBlock = some k → B.heap[k]? = A.heap[k]?) : Ints B v zs :=
  h.imp (fun h => Row.heap h (fun hne => hb (by simpa using hne))) id
theorem Ints.lt {w : World} {v : Value} {zs : List Int} (h : Ints w v zs) (hn : zs ≠ []) : ∀ k, v.ownBlock = some k → k < w.heap.size := by
  rcases h with (⟨rfl, h⟩ | ⟨b, off, cap, rfl, _, _, hc⟩) | ⟨ad, rfl, rfl⟩
  · simp at h; exact absurd h hn
  · intro k hk
    simp [Value.ownBlock] at hk
    subst hk
    obtain ⟨u, l, rfl⟩ := List.exists_cons_of_ne_nil hn
    exact World.block_lt_of_cell? w _ (hc 0 _ rfl)
  · exact absurd rfl hn
/-- What was there is read on as it was. -/
theorem Ints.all {w w' : World} {v : Value} {zs : List Int} (h : Ints w v zs) (hg : w.grownBy w' none) : Ints w' v zs :=
  h.heap fun hne k e => hg.block k (h.lt hne k e) (by simp)

abbrev ITold := Int
def iEnc (x : ITold) : Array Value := #[.int .i64 x]
def iOk (zs : List Int) (pre : List ITold) (x : ITold) (_W : World) : Prop := zs[pre.length]? = some x
def iAll (zs : List Int) (xs : List ITold) (_W : World) : Prop := xs = zs

set_option maxHeartbeats 8000000 in
theorem values1_tells (n p n0 ib : Nat) (a : Option Addr) (l c : Nat) (zs : List Int) (w : World) (hw : Boxed w p 22 (.slice a l c)) (hr : Ints w (.slice a l c) zs)
    (hp : p < n0 ∧ p ≠ ib) (hv : zs ≠ [] → ∀ k, (Value.slice a l c).ownBlock = some k → k < n0 ∧ k ≠ ib) :
    TellsO Fence.wide (n + 3) Tryz.prog 95 #[.pointer (some ⟨p, 0, none⟩)] iEnc (iOk zs) none n0 ib (iAll zs) (fun _ _ => True) w := by
  obtain ⟨rfl, hc, hm⟩ := hr.len
  unfold maxLen at hm
  intro l J Jx W hkx hn0 hJ hJx hY h0
  have hst : Boxed W p 22 (.slice a zs.length c) := (hkx.2 p hp.1 hp.2).trans hw
  have hrW : Ints W (.slice a zs.length c) zs := hr.heap (fun hne k e => hkx.2 k (hv hne k e).1 (hv hne k e).2)
  clear hw hr hkx
  have hc1 := hst.cell
  refine callsIn_of_wp Tryz.func95 rfl trivial ?_ rfl
  simp only [Tryz.ntmps95, List.size_toArray, List.length_cons, List.length_nil, Nat.reduceAdd, Nat.reduceSub, Array.replicate_succ, Array.replicate_zero, List.push_toArray, List.append_toArray, List.nil_append, List.cons_append]
  gi_wp2
  gi_loopw [7] (fun va wr => ∃ (pre : List ITold) (k : Nat), va = .int .i64 (k : Int) ∧ Hid (pre = zs.take k) ∧ k ≤ zs.length ∧ J pre wr ∧ Ints wr (.slice a zs.length c) zs ∧ n0 ≤ wr.heap.size) (fun va _ => zs.length - (RowKit.intOf va).toNat)
  case atStart => exact ⟨[], 0, rfl, Lib.hid rfl, Nat.zero_le _, h0, hrW, hn0⟩
  case round =>
    clear h0 hst hrW hn0 hc1
    obtain ⟨pre, k, rfl, hpl, hk, hj, hR, hn0⟩ := hrel
    have hpk : pre.length = k := by rw [hpl.out]; simp; omega
    by_cases hlt : k < zs.length
    · obtain ⟨b, off, rfl, hcell⟩ := hR.get (i := k) hlt
      unfold intV at hcell
      have hget : zs[pre.length]? = some zs[k] := by rw [hpk]; exact List.getElem?_eq_getElem hlt
      have hnx : Hid (pre ++ [zs[k]] = zs.take (k + 1)) := Lib.hid (by rw [hpl.out, List.take_succ_eq_append_getElem hlt])
      obtain ⟨x, hx⟩ : ∃ x, zs[k] = x := ⟨_, rfl⟩
      rw [hx] at hcell hget hnx
      obtain ⟨fn, tmps, assign, body, hy, hRd⟩ := hY pre x wr hj hget hn0
      dsimp only [iEnc] at hy
      have hRH := Lib.hid hR
      clear hR hget hx hpl
      gi_wp2
      refine hRd.mono ?_
      rintro e3 W5 (⟨rfl, hj3, hk3⟩ | ⟨rfl, hj3, hk3⟩)
      all_goals gi_wp2
      all_goals first
        | exact ⟨⟨pre ++ [x], k + 1, by go_num, hnx, by omega, hj3, hRH.out.heap (fun hne q e => hk3.2 q (hv hne q e).1 (hv hne q e).2), Nat.le_trans hn0 hk3.1⟩, by simp [RowKit.intOf]; omega⟩
        | (refine bodyPost_ret (results_none rfl _ _ _) rfl ?_; exact ⟨⟨_, rfl⟩, .inr ⟨_, trivial, hj3⟩⟩)
        | (go_end0; exact ⟨⟨_, rfl⟩, .inr ⟨_, trivial, hj3⟩⟩)
    · obtain rfl : k = zs.length := by omega
      have hall : iAll zs pre wr := by unfold iAll; rw [hpl.out, List.take_length]
      clear hR
      gi_wp2
      all_goals first
        | (refine bodyPost_ret (results_none rfl _ _ _) rfl ?_; exact ⟨⟨_, rfl⟩, .inl ⟨pre, hall, hj⟩⟩)
        | (go_end0; exact ⟨⟨_, rfl⟩, .inl ⟨pre, hall, hj⟩⟩)

theorem neq_nilSeqI (w : World) (p : Option Addr) : (binOp .eql 120 (.func (.func 95) #[] #[.pointer p]) .nilFunc).run Tryz.prog w = .ok (.bool false) w := by rfl

theorem rowForm {w : World} {B s n : Nat} {e : TypeId} {v : Value} {xs : List Value} (h : w.ownsRow B e s v n xs) : ∃ a c, v = .slice a n c := by
  obtain ⟨_, ⟨rfl, hn⟩ | ⟨g, cap, cur, rfl, _⟩⟩ := h
  · exact ⟨none, 0, by rw [hn]⟩
  · exact ⟨_, _, rfl⟩
theorem infoInt : (Tryz.prog.info? 3).map (fun i => (i.zero, i.size, i.bytes)) = some (some (.int .i64 0), 1, 8) := by kernel_rfl
theorem infoInt_parts : ∃ i0 : TypeInfo, Tryz.prog.info? 3 = some i0 ∧ i0.zero = some (.int .i64 0) ∧ i0.size = 1 ∧ i0.bytes = 8 := by
  have h := infoInt
  cases hi : Tryz.prog.info? 3 with
  | none => rw [hi] at h; cases h
  | some i =>
    rw [hi] at h
    simp only [Option.map_some, Option.some.injEq, Prod.mk.injEq] at h
    exact ⟨i, rfl, h.1, h.2.1, h.2.2⟩

set_option maxHeartbeats 8000000 in
theorem appendSeq_ints (p : Nat) (a : Option Addr) (l c : Nat) (zs : List Int) (w : World) (hw : Boxed w p 22 (.slice a l c)) (hr : Ints w (.slice a l c) zs)
    (hv : zs ≠ [] → ∀ k, (Value.slice a l c).ownBlock = some k → k < w.heap.size) (hlim : zs.length * 8 ≤ 140737488351232) :
    CallsIn Fence.wide 8 Tryz.prog 107 #[.slice none 0 0, .func (.func 95) #[] #[.pointer (some ⟨p, 0, none⟩)]] w fun e w' => ∃ v, e = .returned v ∧ w'.ownsRow w.heap.size 3 1 v zs.length (zs.map intV) ∧ w.grownBy w' none := by
  have hpl := hw.lt
  obtain ⟨i0, hi, hz0, hz1, hz2⟩ := infoInt_parts
  obtain ⟨W0, hW0⟩ : ∃ W0, W0 = w.alloc (.cells #[.slice none 0 0] 22) := ⟨_, rfl⟩
  have hB0 : Boxed W0 w.heap.size 22 (.slice none 0 0) := by rw [hW0]; exact Boxed.new w _ _
  have hg0 : w.grownBy W0 none := by rw [hW0]; exact World.grownBy_alloc w _ none
  have hs0 : W0.heap.size = w.heap.size + 1 := by rw [hW0]; simp
  have hw0 := hw.kept hg0 (by simp)
  have hr0 : Ints W0 (.slice a l c) zs := hr.heap (fun hne k e => hg0.block k (hv hne k e) (by simp))
  refine callsIn_of_wp_marks Tryz.func107 rfl trivial ?_ rfl
  simp only [Tryz.ntmps107, List.size_toArray, List.length_cons, List.length_nil, Nat.reduceAdd, Nat.reduceSub, Array.replicate_succ, Array.replicate_zero, List.push_toArray, List.append_toArray, List.nil_append, List.cons_append]
  gi_wp2_with fail
  rw [← hW0]
  clear hW0
  have hTell := values1_tells 4 p W0.heap.size w.heap.size a l c zs W0 hw0 hr0 (by omega) (fun hne k e => by have := hv hne k e; omega)
  refine range_tells3 (a := _) (w := W0) (α := ITold) rfl (by omega) (gf := 95) (lb := #[.pointer (some ⟨p, 0, none⟩)]) rfl trivial (enters_of Tryz.func95 (by kernel_rfl) rfl)
    hTell (by simp) (fun _ => rfl) (fun _ _ _ _ _ _ h _ _ _ => h)
    (fun pre W => ∃ v, Boxed W w.heap.size 22 v ∧ W.ownsRow (w.heap.size + 1) 3 1 v pre.length (pre.map intV) ∧ KeptX W0.heap.size w.heap.size W0 W ∧ Below w.heap.size w W) (fun _ _ _ => False)
    ?hI (fun _ _ _ _ _ h _ _ => h.elim) ⟨_, hB0, World.ownsRow_nil _ _ _ _, KeptX.refl _, gbelow hg0 (Nat.le_refl _) (by simp)⟩ ?a1 ?assign ?body ?done ?stop
  case hI =>
    rintro pre A B k ⟨v, h1, h2, h3, h4⟩ hg hk
    rcases hk with rfl | ⟨q, rfl, hq, ho⟩
    · exact ⟨v, h1.kept hg (by simp), h2.kept hg (by cases v.ownBlock <;> simp), h3.trans ⟨hg.size, fun i hi _ => hg.block i (Nat.lt_of_lt_of_le hi h3.1) (by simp)⟩, h4.trans (gbelow hg h4.size (by simp))⟩
    · refine ⟨v, h1.kept hg (by simp; omega), h2.kept hg ?_, h3.trans (KeptX.grown hg h3.1 (.inr hq)), h4.trans (gbelow hg h4.size (by simp; omega))⟩
      obtain ⟨_, ⟨rfl, _⟩ | ⟨g, cap, cur, rfl, _, hgg, _⟩⟩ := h2
      · exact .inl rfl
      · right
        intro e
        simp only [Value.ownBlock, Option.some.injEq] at e
        subst e
        have := ho _ hgg
        cases this
  case assign =>
    intro l x W K hK
    dsimp only [iEnc]
    gi_wp2
    exact hK
  case body =>
    rintro l2 pre x W ⟨v, h1, h2, h3, h4⟩ hget hsz
    have hpz : pre.length < zs.length := (List.getElem?_eq_some_iff.1 hget).1
    have r1 := h1.cell
    have r2 := h1.frozen
    clear hTell hw hr hv hw0 hr0 hB0
    gi_wp2_with (gi_at_builtin; refine wpListIn_append_own _ rfl _ _ 22 rfl (w.heap.size + 1) 3 i0 (.int .i64 0) 1 8 Tryz.underlying22 hi hz0 hz1 hz2 rfl (by decide) _ _ _ rfl (h2.alloc _) ⟨W.heap.size, 0, none⟩ 1 1 [intV x] rfl rfl ?c1 ?c2 ?c3 ?c4 ?c5 ?_)
    case c1 =>
      intro j u hj
      match j, hj with
      | 0, hj => simp at hj; subst hj; simp [Addr.add, intV]
    case c2 => intro u hu; simp at hu; subst hu; rfl
    case c3 => unfold maxLen; omega
    case c4 => omega
    case c5 => simp; omega
    intro v' W1 hown' hgrow _
    obtain ⟨a', c', rfl⟩ := rowForm hown'
    have hvb : ∀ q, v.ownBlock = some q → W0.heap.size ≤ q ∧ q < W.heap.size := fun q e => by have := World.ownsRow.lt h2 q e; omega
    have gW : W.grownBy W1 v.ownBlock := (gbut (World.grownBy_alloc W _ none) _).trans hgrow
    have hne : v.ownBlock ≠ some w.heap.size := fun e => by have := hvb _ e; omega
    have h1' := h1.kept gW (Ne.symm hne)
    have r3 := h1'.cell
    have r4 := h1'.frozen
    have hko : KeepsOthers W W1 := KeepsOthers.of_grownBy gW (by
      rintro j o hj ho
      obtain ⟨_, ⟨rfl, _⟩ | ⟨g, cap, cur, rfl, _, hgg, _⟩⟩ := h2
      · cases hj
      · simp only [Value.ownBlock, Option.some.injEq] at hj
        subst hj
        rw [hgg] at ho
        cases ho
        rfl)
    have hkx : KeptX W0.heap.size w.heap.size W W1 := ⟨gW.size, fun k hk _ => gW.block k (by omega) (fun e => by have := hvb k e.symm; omega)⟩
    have hbw : Below w.heap.size W W1 := gbelow gW h4.size (fun q e => by have := hvb q e; omega)
    have hown2 : W1.ownsRow (w.heap.size + 1) 3 1 (.slice a' (pre.length + 1) c') (pre ++ [x]).length ((pre ++ [x]).map intV) := by
      simpa using hown'
    have hvb2 := World.ownsRow.lt hown2
    replace hown2 := Lib.hid hown2
    replace h1' := Lib.hid h1'
    replace hko := Lib.hid hko
    replace hkx := Lib.hid hkx
    replace hbw := Lib.hid hbw
    replace h3 := Lib.hid h3
    replace h4 := Lib.hid h4
    clear hown' hgrow h2 h1 r1 r2
    gi_wp2_with fail
    have gs := gset (World.grownBy.refl W1 (some w.heap.size)) 0 (.slice a' (pre.length + 1) c')
    refine ⟨hko.out.trans (KeepsOthers.setCell W1 _ _), hkx.out.trans (KeptX.grown gs (Nat.le_trans hsz hkx.out.1) (.inl rfl)), _, h1'.out.set _, hown2.out.kept gs ?_, (h3.out.trans hkx.out).trans (KeptX.grown gs (Nat.le_trans hsz hkx.out.1) (.inl rfl)), (h4.out.trans hbw.out).trans (gbelow gs (Nat.le_trans h4.out.size hbw.out.size) (by simp))⟩
    right
    intro e
    have := hvb2 _ e
    omega
  case stop =>
    rintro D c pre Wd W15 hD _ h _ _
    exact h.elim
  case done =>
    rintro D xs Wd W15 hD hS ⟨v, h1, h2, h3, h4⟩ hg hM
    obtain rfl : xs = zs := hS
    obtain ⟨a', c', rfl⟩ := rowForm h2
    have r1 := h1.cell
    have hDD : w.heap.size ≠ D := by omega
    clear hTell hw hr hv hw0 hr0 hB0
    gi_wp2_with fail
    refine ⟨by simp, .inl ⟨_, _, rfl, run_takeDeferred hM, ?_⟩⟩
    have gp := grownBy_putObj' W15 D (.deferred none)
    have hown : (W15.putObj D (.deferred none)).ownsRow w.heap.size 3 1 (.slice a' xs.length c') xs.length (xs.map intV) := by
      have h2' : W15.ownsRow w.heap.size 3 1 (.slice a' xs.length c') xs.length (xs.map intV) := by
        obtain ⟨q1, q2 | ⟨g, cap, cur, q3, q4, q5⟩⟩ := h2
        · exact ⟨q1, .inl q2⟩
        · exact ⟨q1, .inr ⟨g, cap, cur, q3, by omega, q5⟩⟩
      refine h2'.kept gp ?_
      obtain ⟨_, ⟨q2, _⟩ | ⟨g, cap, cur, q3, _, hgg, _⟩⟩ := h2
      · left; rw [q2]; rfl
      · right
        rw [q3]
        intro e
        simp only [Value.ownBlock, Option.some.injEq] at e
        subst e
        rw [hM] at hgg
        cases hgg
    have hb19 : Below w.heap.size w (W15.putObj D (.deferred none)) := h4.trans (gbelow gp h4.size (by simp; omega))
    have hgw := belowg hb19 none
    clear gp hb19 h1 h2 h3 h4 hg hM r1
    generalize W15.putObj D (.deferred none) = W19 at hown hgw ⊢
    simp [LeavesInM, LeavesIn, results, Tryz.results107, go_sem]
    exact ⟨hown, hgw⟩

theorem appendSeq_calls (p : Nat) (a : Option Addr) (l c : Nat) (zs : List Int) (w : World) (hw : Boxed w p 22 (.slice a l c)) (hr : Ints w (.slice a l c) zs)
    (hv : zs ≠ [] → ∀ k, (Value.slice a l c).ownBlock = some k → k < w.heap.size) (hlim : zs.length * 8 ≤ 140737488351232) :
    Calls Tryz.prog 107 #[.slice none 0 0, .func (.func 95) #[] #[.pointer (some ⟨p, 0, none⟩)]] w fun e w' => ∃ v, e = .returned v ∧ w'.ownsRow w.heap.size 3 1 v zs.length (zs.map intV) ∧ w.grownBy w' none :=
  callsIn_wide.1 (appendSeq_ints p a l c zs w hw hr hv hlim)

set_option maxHeartbeats 1000000 in
theorem collect_ints (p : Nat) (a : Option Addr) (l c : Nat) (zs : List Int) (w : World) (hw : Boxed w p 22 (.slice a l c)) (hr : Ints w (.slice a l c) zs)
    (hv : zs ≠ [] → ∀ k, (Value.slice a l c).ownBlock = some k → k < w.heap.size) (hlim : zs.length * 8 ≤ 140737488351232) :
    Calls Tryz.prog 93 #[.func (.func 95) #[] #[.pointer (some ⟨p, 0, none⟩)]] w fun e w' => ∃ v, e = .returned v ∧ w'.ownsRow w.heap.size 3 1 v zs.length (zs.map intV) ∧ w.grownBy w' none := by
  have hA := appendSeq_calls p a l c zs w hw hr hv hlim
  go_enter Tryz.func93, Tryz.ntmps93
  go_wp2_with (go_at_call 107; refine hA.mono ?_; rintro e w1 ⟨v, rfl, ho, hg⟩)
  go_ret
  exact ⟨_, rfl, ho, hg⟩

set_option maxHeartbeats 1000000 in
theorem values_ints (a : Option Addr) (l c : Nat) (w : World) :
    Calls Tryz.prog 73 #[.slice a l c] w fun e w' => e = .returned (.func (.func 95) #[] #[.pointer (some ⟨w.heap.size, 0, none⟩)]) ∧ Boxed w' w.heap.size 22 (.slice a l c) ∧ w.grownBy w' none := by
  have hmf : ∀ (fn : Fn) (first cap : Array Value) (w : World), (Instr.makeFunc fn first cap).run Tryz.prog w = .ok (.func fn first cap) w := fun _ _ _ _ => rfl
  go_enter Tryz.func73, Tryz.ntmps73
  go_wp2
  go_ret
  exact ⟨rfl, Boxed.new w _ _, World.grownBy_alloc w _ none⟩

/-- A list of ints in order. -/
def inOrd (zs : List Int) : List Int := zs.mergeSort fun x y => decide (x ≤ y)
theorem inOrd_length (zs : List Int) : (inOrd zs).length = zs.length := by unfold inOrd; exact List.length_mergeSort ..

theorem sort_own (B : Nat) (v : Value) (zs : List Int) (w : World) (ho : w.ownsRow B 3 1 v zs.length (zs.map intV)) (hsz : zs.length < 4611686018427387904) :
    Calls Tryz.prog 94 #[v] w fun e w' => e = .returned (.tuple #[]) ∧ w'.ownsRow B 3 1 v zs.length ((inOrd zs).map intV) ∧ w.grownBy w' v.ownBlock := by
  obtain ⟨h0, ⟨rfl, hn⟩ | ⟨g, cap, cur, rfl, hB, hgg, h1, h2, h3, h4⟩⟩ := ho
  · obtain rfl := List.length_eq_zero_iff.1 hn
    refine (Tryz.slices_Sort_int_none none 0 w).mono ?_
    rintro e w' ⟨rfl, rfl⟩
    exact ⟨rfl, ⟨by simp [inOrd], .inl ⟨rfl, rfl⟩⟩, World.grownBy.refl _ _⟩
  · have hb : cur.toList.take zs.length = zs.map (Value.int .i64) := by rw [Nat.mul_one] at h4; exact h4
    refine (Tryz.slices_Sort_int g 0 cap zs w (holds_of_blockI hgg hb) (Array.getElem?_eq_some_iff.1 hgg).1 hsz).mono ?_
    rintro e w' ⟨rfl, n, os, rfl⟩
    exact ⟨rfl, ownsRow_sortedI (inOrd_length zs) hB hgg h1 h2 (by simpa using h3), grownBy_sortedI _⟩

set_option maxHeartbeats 1000000 in
theorem sorted_ints (p : Nat) (a : Option Addr) (l c : Nat) (zs : List Int) (w : World) (hw : Boxed w p 22 (.slice a l c)) (hr : Ints w (.slice a l c) zs)
    (hv : zs ≠ [] → ∀ k, (Value.slice a l c).ownBlock = some k → k < w.heap.size) (hlim : zs.length * 8 ≤ 140737488351232) :
    Calls Tryz.prog 72 #[.func (.func 95) #[] #[.pointer (some ⟨p, 0, none⟩)]] w fun e w' => ∃ v, e = .returned v ∧ w'.ownsRow w.heap.size 3 1 v zs.length ((inOrd zs).map intV) ∧ w.grownBy w' none := by
  have hA := collect_ints p a l c zs w hw hr hv hlim
  go_enter Tryz.func72, Tryz.ntmps72
  go_wp2_with (first
    | (go_at_call 93; refine hA.mono ?_; rintro e w1 ⟨v, rfl, ho, hg⟩; have hvb := World.ownsRow.lt ho; have hS := sort_own _ v zs w1 ho (by omega))
    | (go_at_call 94; refine hS.mono ?_; rintro e w2 ⟨rfl, ho2, hg2⟩))
  go_ret
  exact ⟨_, rfl, ho2, gnew hg hg2 (fun q e => .inl (hvb q e).1)⟩
end Go.Proofs.YtafcgjbafihniaaGreat

/-
  LAYER 1 (fs): slices.Clone at ints; ownPlan.
-/
namespace Go.Proofs.YtafcgjbafihniaaGreat
set_option maxRecDepth 100000
open Go.RowKit Go.Lib
attribute [local go_sem] Oper.semAt_some

theorem Row.cellD {w : World} {b off n c : Nat} {zs : List Int} (h : Row w (.slice (some ⟨b, off, none⟩) n c) (zs.map intV)) : ∀ j, j < zs.length → w.cell? ⟨b, off + j, none⟩ = some (.int .i64 (zs.getD j 0)) := by
  intro j hj
  obtain ⟨b', off', e, hc⟩ := Row.get h (i := j) (by simpa using hj)
  simp at e
  obtain ⟨rfl, rfl⟩ := e
  rw [hc]
  simp [intV, List.getD_eq_getElem?_getD, List.getElem?_eq_getElem hj]

theorem clone_ints (v : Value) (zs : List Int) (w : World) (hr : Ints w v zs) (hlim : zs.length * 8 ≤ 140737488351232) :
    Calls Tryz.prog 71 #[v] w fun e w' => ∃ v', e = .returned v' ∧ w'.ownsRow w.heap.size 3 1 v' zs.length (zs.map intV) ∧ w.grownBy w' none := by
  rcases hr with (⟨rfl, h⟩ | ⟨b, off, cap, rfl, h1, h2, h3⟩) | ⟨ad, rfl, rfl⟩
  · simp at h
    subst h
    refine (Tryz.slices_Clone_int_nil 0 0 w).mono ?_
    rintro e w' ⟨rfl, rfl⟩
    exact ⟨_, rfl, World.ownsRow_nil _ _ _ _, World.grownBy.refl _ _⟩
  · have hc := Row.cellD (w := w) (b := b) (off := off) (n := zs.length) (c := cap) (zs := zs) (.inr ⟨b, off, cap, by simp, h1, h2, h3⟩)
    have hq := Tryz.slices_Clone_int b off zs.length cap zs w (Nat.le_refl _) (by omega) hc
    rw [List.take_length] at hq
    rw [List.length_map]
    refine hq.mono ?_
    rintro e w' ⟨v', rfl, ho, _, hb⟩
    exact ⟨_, rfl, ho, belowg hb _⟩
  · refine (Tryz.slices_Clone_int_zero ad 0 w).mono ?_
    rintro e w' ⟨v', rfl, ho, _, hb⟩
    exact ⟨_, rfl, ho, belowg hb _⟩

/-- A plan's parts. -/
structure Pl where
  crash : Int
  keep : List Int
  fail : List Int
  full : List Int
  room : Int

/-- A block that holds a plan. -/
def PlanAt (w : World) (q : Nat) (c k f u r : Value) : Prop := w.heap[q]? = some (.cells #[c, k, f, u, r] 24 (0, 0))
section
variable {w : World} {q : Nat} {c k f u r : Value}
theorem PlanAt.c0 (h : PlanAt w q c k f u r) : w.cell? ⟨q, 0, none⟩ = some c := by simp [World.cell?, show _ = _ from h]
theorem PlanAt.c1 (h : PlanAt w q c k f u r) : w.cell? ⟨q, 1, none⟩ = some k := by simp [World.cell?, show _ = _ from h]
theorem PlanAt.c2 (h : PlanAt w q c k f u r) : w.cell? ⟨q, 2, none⟩ = some f := by simp [World.cell?, show _ = _ from h]
theorem PlanAt.c3 (h : PlanAt w q c k f u r) : w.cell? ⟨q, 3, none⟩ = some u := by simp [World.cell?, show _ = _ from h]
theorem PlanAt.c4 (h : PlanAt w q c k f u r) : w.cell? ⟨q, 4, none⟩ = some r := by simp [World.cell?, show _ = _ from h]
theorem PlanAt.free (h : PlanAt w q c k f u r) (o : Nat) : w.frozen? ⟨q, o, none⟩ = false := by simp [World.frozen?, show _ = _ from h]
theorem PlanAt.lt (h : PlanAt w q c k f u r) : q < w.heap.size := lt_of_block h
theorem PlanAt.kept {w' : World} {row : Option Nat} (h : PlanAt w q c k f u r) (hg : w.grownBy w' row) (hne : row ≠ some q) : PlanAt w' q c k f u r := (hg.block q h.lt (fun e => hne e.symm)).trans h
theorem PlanAt.s0 (h : PlanAt w q c k f u r) (v : Value) : PlanAt (w.setCell ⟨q, 0, none⟩ v) q v k f u r := heap_setCell_same w q 0 _ _ _ h
theorem PlanAt.s4 (h : PlanAt w q c k f u r) (v : Value) : PlanAt (w.setCell ⟨q, 4, none⟩ v) q c k f u v := heap_setCell_same w q 4 _ _ _ h
theorem PlanAt.s1 (h : PlanAt w q c k f u r) (v : Value) : PlanAt (w.setCell ⟨q, 1, none⟩ v) q c v f u r := heap_setCell_same w q 1 _ _ _ h
theorem PlanAt.s2 (h : PlanAt w q c k f u r) (v : Value) : PlanAt (w.setCell ⟨q, 2, none⟩ v) q c k v u r := heap_setCell_same w q 2 _ _ _ h
theorem PlanAt.s3 (h : PlanAt w q c k f u r) (v : Value) : PlanAt (w.setCell ⟨q, 3, none⟩ v) q c k f v r := heap_setCell_same w q 3 _ _ _ h
end

set_option maxHeartbeats 4000000 in
theorem ownPlan_any (vk vf vu : Value) (p : Pl) (w : World) (hk : Ints w vk p.keep) (hf : Ints w vf p.fail) (hu : Ints w vu p.full)
    (lk : p.keep.length * 8 ≤ 140737488351232) (lf : p.fail.length * 8 ≤ 140737488351232) (lu : p.full.length * 8 ≤ 140737488351232) :
    Calls Tryz.prog 37 #[.agg #[.int .i64 p.crash, vk, vf, vu, .int .i64 p.room]] w fun e w' => ∃ k' f' u', e = .returned (.agg #[.int .i64 p.crash, k', f', u', .int .i64 p.room]) ∧
      w'.ownsRow w.heap.size 3 1 k' p.keep.length (p.keep.map intV) ∧ w'.ownsRow w.heap.size 3 1 f' p.fail.length ((inOrd p.fail).map intV) ∧ w'.ownsRow w.heap.size 3 1 u' p.full.length ((inOrd p.full).map intV) ∧ w.grownBy w' none := by
  obtain ⟨crash, keep, fail, full, room⟩ := p
  dsimp only at *
  obtain ⟨ak, ck, rfl⟩ := hk.form
  obtain ⟨af, cf, rfl⟩ := hf.form
  obtain ⟨au, cu, rfl⟩ := hu.form
  obtain ⟨W0, hW0⟩ : ∃ W0, W0 = (w.alloc (.cells #[.int .i64 crash, .slice ak keep.length ck, .slice af fail.length cf, .slice au full.length cu, .int .i64 room] 24)).alloc (.cells #[.int .i64 0, .slice none 0 0, .slice none 0 0, .slice none 0 0, .int .i64 0] 24) := ⟨_, rfl⟩
  have hg0 : w.grownBy W0 none := by rw [hW0]; exact galloc (World.grownBy_alloc w _ none) _
  have P0 : PlanAt W0 w.heap.size (.int .i64 crash) (.slice ak keep.length ck) (.slice af fail.length cf) (.slice au full.length cu) (.int .i64 room) := by
    rw [hW0]; exact ((World.grownBy_alloc (w.alloc _) _ none).block w.heap.size (by simp) (by simp)).trans (World.alloc_heap_new w _)
  have R0 : PlanAt W0 (w.heap.size + 1) (.int .i64 0) (.slice none 0 0) (.slice none 0 0) (.slice none 0 0) (.int .i64 0) := by
    rw [hW0]
    have := World.alloc_heap_new (w.alloc (.cells #[.int .i64 crash, .slice ak keep.length ck, .slice af fail.length cf, .slice au full.length cu, .int .i64 room] 24)) (.cells #[.int .i64 0, .slice none 0 0, .slice none 0 0, .slice none 0 0, .int .i64 0] 24)
    rwa [World.size_alloc] at this
  have k0 := hk.all hg0
  have f0 := hf.all hg0
  have u0 := hu.all hg0
  have flt := fun hne => hf.lt hne
  have ult := fun hne => hu.lt hne
  have hs0 := hg0.size
  go_enter Tryz.func37, Tryz.ntmps37
  go_wp2_with (fail)
  rw [← hW0]
  go_wp2_with (first
    | (go_at_call 71; refine (clone_ints _ keep W0 k0 lk).mono ?_; rintro e w1 ⟨k', rfl, ok, g1⟩; obtain ⟨bk, dk, rfl⟩ := rowForm ok; have P1 := P0.kept g1 (by simp); have x1 := P1.free 1; have y1 := P1.c1; have P2 := P1.s1 (.slice bk keep.length dk); have z1 := P2.c2)
    | (go_at_call 73; refine (values_ints _ _ _ _).mono ?_; rintro e w2 ⟨rfl, B2, g2⟩))
  have G1 : w.grownBy w1 (some w.heap.size) := gbut (hg0.trans g1) _
  have H2 : W0.grownBy w2 (some w.heap.size) := (gset (gbut g1 _) 1 (.slice bk keep.length dk)).trans (gbut g2 _)
  have G2 : w.grownBy w2 (some w.heap.size) := (gset G1 1 (.slice bk keep.length dk)).trans (gbut g2 _)
  have ks : ∀ v : Value, (w1.setCell ⟨w.heap.size, 1, none⟩ v).heap.size = w1.heap.size := fun v => by simp [World.setCell]
  rw [ks] at B2
  have hold : ∀ W, w.grownBy W (some w.heap.size) → Ints W (.slice af fail.length cf) fail ∧ Ints W (.slice au full.length cu) full := fun W h =>
    ⟨hf.heap (fun hne k e => h.block k (flt hne k e) (by simp; have := flt hne k e; omega)), hu.heap (fun hne k e => h.block k (ult hne k e) (by simp; have := ult hne k e; omega))⟩
  have P3 := P2.kept g2 (by simp)
  have sk : ∀ {W : World} {B n o : Nat} {v u : Value} {xs : List Value}, w.heap.size + 1 ≤ B → W.ownsRow B 3 1 v n xs → (W.setCell ⟨w.heap.size, o, none⟩ u).ownsRow B 3 1 v n xs := fun {W B n o v u xs} hB h => by
    refine World.ownsRow.kept h (gset (World.grownBy.refl W (some w.heap.size)) o u) ?_
    right
    intro e
    have := (World.ownsRow.lt h _ e).1
    omega
  have hW0s : W0.heap.size = w.heap.size + 2 := by rw [hW0]; simp
  have ok2 := World.ownsRow.kept (sk (o := 1) (u := .slice bk keep.length dk) (by omega) ok) g2 (by cases (Value.slice bk keep.length dk).ownBlock <;> simp)
  have hs1 := g1.size
  have hs2 := B2.lt
  refine (sorted_ints w1.heap.size _ _ _ fail w2 B2 (hold w2 G2).1 (fun hne k e => by have := flt hne k e; omega) lf).mono ?_
  rintro e w3 ⟨f', rfl, of3, g3⟩
  obtain ⟨bf, df, rfl⟩ := rowForm of3
  have P4 := P3.kept g3 (by simp)
  have x4 := P4.free 2
  have y4 := P4.c2
  have P5 := P4.s2 (.slice bf fail.length df)
  have z5 := P5.c3
  have ok3 := sk (o := 2) (u := .slice bf fail.length df) (by omega) (World.ownsRow.kept ok2 g3 (by cases (Value.slice bk keep.length dk).ownBlock <;> simp))
  have of4 := sk (o := 2) (u := .slice bf fail.length df) (by omega) of3
  have G3 : w.grownBy (w3.setCell ⟨w.heap.size, 2, none⟩ (.slice bf fail.length df)) (some w.heap.size) := gset (G2.trans (gbut g3 _)) 2 _
  have H3 : W0.grownBy (w3.setCell ⟨w.heap.size, 2, none⟩ (.slice bf fail.length df)) (some w.heap.size) := gset (H2.trans (gbut g3 _)) 2 _
  clear ok ok2 of3 P0 P1 P2 P3 x1 y1 z1 B2 g2 G2 G1 H2
  go_wp2_with (fail)
  obtain ⟨w4, hw4⟩ : ∃ w4, w4 = w3.setCell ⟨w.heap.size, 2, none⟩ (.slice bf fail.length df) := ⟨_, rfl⟩
  have hs3 : w2.heap.size ≤ w4.heap.size := by rw [hw4]; simpa [World.setCell] using g3.size
  rw [← hw4] at P5 ok3 of4 G3 H3 ⊢
  clear z5 x4 y4 P4 hw4 g3
  refine (values_ints _ _ _ _).mono ?_
  rintro e w5 ⟨rfl, B5, g5⟩
  have hs5 := B5.lt
  have G5 := G3.trans (gbut g5 _)
  have H5 := H3.trans (gbut g5 _)
  have P6 := P5.kept g5 (by simp)
  have ok4 := World.ownsRow.kept ok3 g5 (by cases (Value.slice bk keep.length dk).ownBlock <;> simp)
  have of5 := World.ownsRow.kept of4 g5 (by cases (Value.slice bf fail.length df).ownBlock <;> simp)
  clear P5 ok3 of4 G3
  go_wp2_with (fail)
  refine (sorted_ints w4.heap.size _ _ _ full w5 B5 (hold w5 G5).2 (fun hne k e => by have := ult hne k e; omega) lu).mono ?_
  rintro e w6 ⟨u', rfl, ou6, g6⟩
  obtain ⟨bu, du, rfl⟩ := rowForm ou6
  have P7 := P6.kept g6 (by simp)
  have x7 := P7.free 3
  have y7 := P7.c3
  have P8 := P7.s3 (.slice bu full.length du)
  have ok5 := sk (o := 3) (u := .slice bu full.length du) (by omega) (World.ownsRow.kept ok4 g6 (by cases (Value.slice bk keep.length dk).ownBlock <;> simp))
  have of6 := sk (o := 3) (u := .slice bu full.length du) (by omega) (World.ownsRow.kept of5 g6 (by cases (Value.slice bf fail.length df).ownBlock <;> simp))
  have ou7 := sk (o := 3) (u := .slice bu full.length du) (by omega) ou6
  have G7 : w.grownBy (w6.setCell ⟨w.heap.size, 3, none⟩ (.slice bu full.length du)) (some w.heap.size) := gset (G5.trans (gbut g6 _)) 3 _
  have H7 : W0.grownBy (w6.setCell ⟨w.heap.size, 3, none⟩ (.slice bu full.length du)) (some w.heap.size) := gset (H5.trans (gbut g6 _)) 3 _
  have R7 := R0.kept H7 (by simp)
  clear P6 P7 B5 g5 g6 G5 H5 H7 H3 ok4 of5 ou6 R0 k0 f0 u0 hW0
  have hs7 := G7.size
  have e0 := P8.c0
  have e1 := P8.c1
  have e2 := P8.c2
  have e3 := P8.c3
  have e4 := P8.c4
  have R8 := R7.s0 (.int .i64 crash)
  have R9 := R8.s1 (.slice bk keep.length dk)
  have R10 := R9.s2 (.slice bf fail.length df)
  have R11 := R10.s3 (.slice bu full.length du)
  have R12 := R11.s4 (.int .i64 room)
  have a0 := R7.c0
  have a0' := R7.free 0
  have a1 := R8.c1
  have a1' := R8.free 1
  have a2 := R9.c2
  have a2' := R9.free 2
  have a3 := R10.c3
  have a3' := R10.free 3
  have a4 := R11.c4
  have a4' := R11.free 4
  go_wp2_with (fail)
  have fin : ∀ {W : World} {B n : Nat} {v c0 c1 c2 c3 c4 : Value} {xs : List Value}, w.heap.size + 2 ≤ B → W.ownsRow B 3 1 v n xs → (((((W.setCell ⟨w.heap.size + 1, 0, none⟩ c0).setCell ⟨w.heap.size + 1, 1, none⟩ c1).setCell ⟨w.heap.size + 1, 2, none⟩ c2).setCell ⟨w.heap.size + 1, 3, none⟩ c3).setCell ⟨w.heap.size + 1, 4, none⟩ c4).ownsRow w.heap.size 3 1 v n xs := fun {W B n v c0 c1 c2 c3 c4 xs} hB h => by
    have h2 := World.ownsRow.kept h (gset (gset (gset (gset (gset (World.grownBy.refl W (some (w.heap.size + 1))) 0 c0) 1 c1) 2 c2) 3 c3) 4 c4) (by right; intro e; have := (World.ownsRow.lt h _ e).1; omega)
    obtain ⟨q1, q2 | ⟨g, cap, cur, q3, q4, q5⟩⟩ := h2
    · exact ⟨q1, .inl q2⟩
    · exact ⟨q1, .inr ⟨g, cap, cur, q3, by omega, q5⟩⟩
  have okF := fin (c0 := .int .i64 crash) (c1 := .slice bk keep.length dk) (c2 := .slice bf fail.length df) (c3 := .slice bu full.length du) (c4 := .int .i64 room) (by omega) ok5
  have ofF := fin (c0 := .int .i64 crash) (c1 := .slice bk keep.length dk) (c2 := .slice bf fail.length df) (c3 := .slice bu full.length du) (c4 := .int .i64 room) (by omega) of6
  have ouF := fin (c0 := .int .i64 crash) (c1 := .slice bk keep.length dk) (c2 := .slice bf fail.length df) (c3 := .slice bu full.length du) (c4 := .int .i64 room) (by omega) ou7
  have hbF := (((((gbelow G7 (Nat.le_refl _) (by simp)).setCell (p := ⟨w.heap.size + 1, 0, none⟩) (by show _ ≤ w.heap.size + 1; omega) (.int .i64 crash)).setCell (p := ⟨w.heap.size + 1, 1, none⟩) (by show _ ≤ w.heap.size + 1; omega) (.slice bk keep.length dk)).setCell (p := ⟨w.heap.size + 1, 2, none⟩) (by show _ ≤ w.heap.size + 1; omega) (.slice bf fail.length df)).setCell (p := ⟨w.heap.size + 1, 3, none⟩) (by show _ ≤ w.heap.size + 1; omega) (.slice bu full.length du)).setCell (p := ⟨w.heap.size + 1, 4, none⟩) (by show _ ≤ w.heap.size + 1; omega) (.int .i64 room)
  have b0 := R12.c0
  have b1 := R12.c1
  have b2 := R12.c2
  have b3 := R12.c3
  have b4 := R12.c4
  clear R7 R8 R9 R10 R11 R12 a0 a1 a2 a3 a4 a0' a1' a2' a3' a4' e0 e1 e2 e3 e4 P8 ok5 of6 ou7 fin sk
  generalize (((((w6.setCell _ _).setCell _ _).setCell _ _).setCell _ _).setCell _ _).setCell _ _ = WF at *
  refine bodyPost_ret (v := .agg #[.int .i64 crash, .slice bk keep.length dk, .slice bf fail.length df, .slice bu full.length du, .int .i64 room]) (by simp [results, Tryz.results37, go_sem, b0, b1, b2, b3, b4]) rfl ?_
  exact ⟨_, _, _, rfl, okF, ofF, ouF, belowg hbF _⟩
end Go.Proofs.YtafcgjbafihniaaGreat

/-
  LAYER 1 (fs): New; the block that a file system is; isMade, Dead, Ops, survivors.
-/
namespace Go.Proofs.YtafcgjbafihniaaGreat
set_option maxRecDepth 100000
open Go.RowKit Go.Lib
attribute [local go_sem] Oper.semAt_some

/-- A plan that a file system holds: its five cells. -/
structure PlV where
  c : Int
  k : Value
  f : Value
  u : Value
  r : Int

/-- The block of a file system. -/
def FsAt (w : World) (q : Nat) (dead : Bool) (p : PlV) (ops : Int) (d s : Nat) (mv : Value) : Prop :=
  w.heap[q]? = some (.cells #[.bool true, .bool dead, .int .i64 p.c, p.k, p.f, p.u, .int .i64 p.r, .int .i64 ops, .map (some d), .map (some s), mv] 72 (0, 0))
section
variable {w : World} {q : Nat} {dead : Bool} {p : PlV} {ops : Int} {d s : Nat} {mv : Value}
theorem FsAt.made (h : FsAt w q dead p ops d s mv) : w.cell? ⟨q, 0, none⟩ = some (.bool true) := by simp [World.cell?, show _ = _ from h]
theorem FsAt.isDead (h : FsAt w q dead p ops d s mv) : w.cell? ⟨q, 1, none⟩ = some (.bool dead) := by simp [World.cell?, show _ = _ from h]
theorem FsAt.count (h : FsAt w q dead p ops d s mv) : w.cell? ⟨q, 7, none⟩ = some (.int .i64 ops) := by simp [World.cell?, show _ = _ from h]
theorem FsAt.dir (h : FsAt w q dead p ops d s mv) : w.cell? ⟨q, 8, none⟩ = some (.map (some d)) := by simp [World.cell?, show _ = _ from h]
theorem FsAt.safe (h : FsAt w q dead p ops d s mv) : w.cell? ⟨q, 9, none⟩ = some (.map (some s)) := by simp [World.cell?, show _ = _ from h]
theorem FsAt.moves (h : FsAt w q dead p ops d s mv) : w.cell? ⟨q, 10, none⟩ = some mv := by simp [World.cell?, show _ = _ from h]
theorem FsAt.free (h : FsAt w q dead p ops d s mv) (o : Nat) : w.frozen? ⟨q, o, none⟩ = false := by simp [World.frozen?, show _ = _ from h]
theorem FsAt.lt (h : FsAt w q dead p ops d s mv) : q < w.heap.size := lt_of_block h
theorem FsAt.kept {w' : World} {row : Option Nat} (h : FsAt w q dead p ops d s mv) (hg : w.grownBy w' row) (hne : row ≠ some q) : FsAt w' q dead p ops d s mv := (hg.block q h.lt (fun e => hne e.symm)).trans h

theorem isMade_fs (w : World) (h : FsAt w q dead p ops d s mv) :
    Calls Tryz.prog 54 #[.pointer (some ⟨q, 0, none⟩)] w fun e w' => e = .returned (.bool true) ∧ w = w' := by
  have h0 := h.made
  go_enter Tryz.func54, Tryz.ntmps54
  go_wp2
  go_ret
  exact ⟨rfl, rfl⟩

theorem dead_fs (w : World) (h : FsAt w q dead p ops d s mv) :
    Calls Tryz.prog 21 #[.pointer (some ⟨q, 0, none⟩)] w fun e w' => e = .returned (.bool dead) ∧ w = w' := by
  have h1 := h.isDead
  go_enter Tryz.func21, Tryz.ntmps21
  go_wp2_with (go_at_call 54; refine (isMade_fs _ h).mono ?_; rintro e w' ⟨rfl, rfl⟩)
  go_ret
  exact ⟨rfl, rfl⟩
end

theorem survivors_any (k n : Int) (hn : 0 ≤ n) (hm : n < 4611686018427387904) (hk : k ≤ 9223372036854775807) (w : World) :
    Calls Tryz.prog 88 #[.int .i64 k, .int .i64 n] w fun e w' => e = .returned (.int .i64 (if k < 0 then n else k % (n + 1))) ∧ w = w' := by
  by_cases h : k < 0
  · go_enter Tryz.func88, Tryz.ntmps88
    go_wp2
    go_ret
    exact ⟨rfl, rfl⟩
  · go_enter Tryz.func88, Tryz.ntmps88
    go_wp2
    go_ret
    exact ⟨rfl, rfl⟩

theorem rowMono {W : World} {B B' n : Nat} {v : Value} {xs : List Value} (h : W.ownsRow B 3 1 v n xs) (hB : B' ≤ B) : W.ownsRow B' 3 1 v n xs := by
  obtain ⟨q1, q2 | ⟨g, cap, cur, q3, q4, q5⟩⟩ := h
  · exact ⟨q1, .inl q2⟩
  · exact ⟨q1, .inr ⟨g, cap, cur, q3, by omega, q5⟩⟩

set_option maxHeartbeats 4000000 in
theorem new_any (vk vf vu : Value) (p : Pl) (w : World) (hk : Ints w vk p.keep) (hf : Ints w vf p.fail) (hu : Ints w vu p.full)
    (lk : p.keep.length * 8 ≤ 140737488351232) (lf : p.fail.length * 8 ≤ 140737488351232) (lu : p.full.length * 8 ≤ 140737488351232) :
    Calls Tryz.prog 12 #[.agg #[.int .i64 p.crash, vk, vf, vu, .int .i64 p.room]] w fun e w' => ∃ (q d s : Nat) (k' f' u' : Value), e = .returned (.pointer (some ⟨q, 0, none⟩)) ∧ FsAt w' q false ⟨p.crash, k', f', u', p.room⟩ 0 d s (.slice none 0 0) ∧
      w'.heap[d]? = some (.map #[] 0) ∧ w'.heap[s]? = some (.map #[] 0) ∧ d ≠ s ∧ w.heap.size ≤ q ∧ w.heap.size ≤ d ∧ w.heap.size ≤ s ∧
      w'.ownsRow w.heap.size 3 1 k' p.keep.length (p.keep.map intV) ∧ w'.ownsRow w.heap.size 3 1 f' p.fail.length ((inOrd p.fail).map intV) ∧ w'.ownsRow w.heap.size 3 1 u' p.full.length ((inOrd p.full).map intV) ∧ w.grownBy w' none := by
  have hP := ownPlan_any vk vf vu p _ (hk.all (World.grownBy_alloc w (.cells #[.int .i64 p.crash, vk, vf, vu, .int .i64 p.room] 24) none)) (hf.all (World.grownBy_alloc w _ none)) (hu.all (World.grownBy_alloc w _ none)) lk lf lu
  have hmm : ∀ (t : TypeId) (w : World), (Instr.makeMap t none).run Tryz.prog w = .ok (.map (some w.heap.size)) (w.alloc (.map #[] 0)) := fun _ _ => rfl
  rw [World.size_alloc] at hP
  go_enter Tryz.func12, Tryz.ntmps12
  go_wp2_with (go_at_call 37; refine hP.mono ?_; clear hP; rintro e w1 ⟨k', f', u', rfl, ok, of, ou, g1⟩; obtain ⟨bk, dk, rfl⟩ := rowForm ok; obtain ⟨bf, df, rfl⟩ := rowForm of; obtain ⟨bu, du, rfl⟩ := rowForm ou)
  have gw1 : w.grownBy w1 none := (World.grownBy_alloc w _ none).trans g1
  have hs1 := gw1.size
  obtain ⟨W3, hW3⟩ : ∃ W3, W3 = ((w1.alloc (.map #[] 0)).alloc (.map #[] 0)).alloc (.cells #[.bool true, .bool false, .int .i64 p.crash, .slice bk p.keep.length dk, .slice bf p.fail.length df, .slice bu p.full.length du, .int .i64 p.room, .int .i64 0, .map (some w1.heap.size), .map (some (w1.heap.size + 1)), .slice none 0 0] 72) := ⟨_, rfl⟩
  rw [← hW3]
  have g3 : w1.grownBy W3 none := by rw [hW3]; exact galloc (galloc (World.grownBy_alloc w1 _ none) _) _
  have s1 : (w1.alloc (.map #[] 0)).heap.size = w1.heap.size + 1 := World.size_alloc ..
  have s2 : ((w1.alloc (.map #[] 0)).alloc (.map #[] 0)).heap.size = w1.heap.size + 1 + 1 := by rw [World.size_alloc, World.size_alloc]
  have hD : W3.heap[w1.heap.size]? = some (.map #[] 0) := by
    rw [hW3]
    exact ((galloc (World.grownBy_alloc (w1.alloc (.map #[] 0)) (.map #[] 0) none) _).block w1.heap.size (by rw [s1]; omega) (by simp)).trans (World.alloc_heap_new w1 _)
  have hS : W3.heap[w1.heap.size + 1]? = some (.map #[] 0) := by
    rw [hW3]
    have h := World.alloc_heap_new (w1.alloc (.map #[] 0)) (.map #[] 0)
    rw [s1] at h
    exact ((World.grownBy_alloc ((w1.alloc (.map #[] 0)).alloc (.map #[] 0)) _ none).block (w1.heap.size + 1) (by rw [s2]; omega) (by simp)).trans h
  have hQ : FsAt W3 (w1.heap.size + 1 + 1) false ⟨p.crash, .slice bk p.keep.length dk, .slice bf p.fail.length df, .slice bu p.full.length du, p.room⟩ 0 w1.heap.size (w1.heap.size + 1) (.slice none 0 0) := by
    unfold FsAt
    rw [hW3]
    have h := World.alloc_heap_new ((w1.alloc (.map #[] 0)).alloc (.map #[] 0)) (.cells #[.bool true, .bool false, .int .i64 p.crash, .slice bk p.keep.length dk, .slice bf p.fail.length df, .slice bu p.full.length du, .int .i64 p.room, .int .i64 0, .map (some w1.heap.size), .map (some (w1.heap.size + 1)), .slice none 0 0] 72)
    rw [s2] at h
    exact h
  have n1 : ∀ v : Value, v.ownBlock = none ∨ v.ownBlock ≠ none := fun v => by cases v.ownBlock <;> simp
  go_ret
  exact ⟨_, _, _, _, _, _, rfl, hQ, hD, hS, by omega, by omega, by omega, by omega, rowMono (ok.kept g3 (n1 _)) (by omega), rowMono (of.kept g3 (n1 _)) (by omega), rowMono (ou.kept g3 (n1 _)) (by omega), gw1.trans g3⟩
end Go.Proofs.YtafcgjbafihniaaGreat
