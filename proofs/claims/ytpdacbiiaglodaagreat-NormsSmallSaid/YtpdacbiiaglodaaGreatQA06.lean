/-
  LAYER 5 (norms): leaves: which code points may be (both), Hangul's ranges, what a decomposition's own code points may be.
-/
import Derived.Test.YtpdacbiiaglodaaGreatQA01
import Derived.Test.YtpdacbiiaglodaaGreatQA05
import Derived.Test.YtpdacbiiaglodaaGreatRows
import Derived.WalkKit
import Derived.WalkLawsBesides
import Derived.WalkSpells
import Derived.BigQuiet
import Derived.Laws.Pointers
import Derived.Laws.IdiomStrings
import Derived.Deep.RegionWith
import Derived.Carry
import Derived.MapKept
import Derived.RangeFuncBox
import Derived.RangeFuncNested
import Derived.RangeFuncLeaves
import Derived.RangeFuncCalls
import Derived.Maps.AppendAt
import Derived.ArgAppend
namespace Go.Proofs.YtpdacbiiaglodaaGreat
set_option maxRecDepth 100000
open Go.RowKit Go.Lib

/-- A decomposition, a class, as values. -/
def dAgg (x : Dec) : Value := .agg #[.int .i32 x.1, .int .i32 x.2.1, .int .i32 x.2.2]
def cAgg (x : Cls) : Value := .agg #[.int .i32 x.1, .int .i32 x.2.1, .int .i64 x.2.2]

set_option maxHeartbeats 1000000 in
theorem scal_utf.Scalar (r : Int) (w : World) : Calls Tryz.prog 68 #[.int .i32 r] w fun e w' => e = .returned (.bool (scal r)) ∧ w = w' := by
  by_cases h1 : 0 ≤ r
  all_goals by_cases h2 : r < 55296
  all_goals by_cases h3 : 57343 < r
  all_goals by_cases h4 : r ≤ 1114111
  all_goals (try omega)
  all_goals
    go_enter Tryz.func68, Tryz.ntmps68
    go_wp2
  all_goals
    go_ret
    simp [scal, *]
set_option maxHeartbeats 1000000 in
theorem scal_lecternref05.Scalar (r : Int) (w : World) : Calls Tryz.prog 79 #[.int .i32 r] w fun e w' => e = .returned (.bool (scal r)) ∧ w = w' := by
  by_cases h1 : 0 ≤ r
  all_goals by_cases h2 : r < 55296
  all_goals by_cases h3 : 57343 < r
  all_goals by_cases h4 : r ≤ 1114111
  all_goals (try omega)
  all_goals
    go_enter Tryz.func79, Tryz.ntmps79
    go_wp2
  all_goals
    go_ret
    simp [scal, *]

set_option maxHeartbeats 1000000 in
theorem syl_any (r : Int) (w : World) : Calls Tryz.prog 92 #[.int .i32 r] w fun e w' => e = .returned (.bool (syl r)) ∧ w = w' := by
  by_cases h1 : 44032 ≤ r
  all_goals by_cases h2 : r ≤ 55203
  all_goals (try omega)
  all_goals
    go_enter Tryz.func92, Tryz.ntmps92
    go_wp2
  all_goals
    go_ret
    simp [syl, *]

set_option maxHeartbeats 2000000 in
theorem jamo_norms.isJamo (r : Int) (w : World) : Calls Tryz.prog 179 #[.int .i32 r] w fun e w' => e = .returned (.bool (jamo r)) ∧ w = w' := by
  have key : (r < 4352 ∨ (4352 ≤ r ∧ r ≤ 4370) ∨ (4370 < r ∧ r < 4449) ∨ (4449 ≤ r ∧ r ≤ 4469) ∨ (4469 < r ∧ r ≤ 4519) ∨ (4519 < r ∧ r ≤ 4546) ∨ 4546 < r) := by omega
  rcases key with h | ⟨h, k⟩ | ⟨h, k⟩ | ⟨h, k⟩ | ⟨h, k⟩ | ⟨h, k⟩ | h
  all_goals
    (first | (have g0 : 4352 ≤ r := by omega) | (have g0 : ¬ 4352 ≤ r := by omega) | skip)
    (first | (have g1 : r ≤ 4370 := by omega) | (have g1 : ¬ r ≤ 4370 := by omega) | skip)
    (first | (have g2 : 4449 ≤ r := by omega) | (have g2 : ¬ 4449 ≤ r := by omega) | skip)
    (first | (have g3 : r ≤ 4469 := by omega) | (have g3 : ¬ r ≤ 4469 := by omega) | skip)
    (first | (have g4 : 4519 < r := by omega) | (have g4 : ¬ 4519 < r := by omega) | skip)
    (first | (have g5 : 4520 ≤ r := by omega) | (have g5 : ¬ 4520 ≤ r := by omega) | skip)
    (first | (have g6 : r ≤ 4546 := by omega) | (have g6 : ¬ r ≤ 4546 := by omega) | skip)
  all_goals
    go_enter Tryz.func179, Tryz.ntmps179
    go_wp2
  all_goals
    go_ret
    simp [jamo, *]
    try omega
set_option maxHeartbeats 2000000 in
theorem jamo_lecternref05.told (r : Int) (w : World) : Calls Tryz.prog 80 #[.int .i32 r] w fun e w' => e = .returned (.bool (jamo r)) ∧ w = w' := by
  have key : (r < 4352 ∨ (4352 ≤ r ∧ r ≤ 4370) ∨ (4370 < r ∧ r < 4449) ∨ (4449 ≤ r ∧ r ≤ 4469) ∨ (4469 < r ∧ r ≤ 4519) ∨ (4519 < r ∧ r ≤ 4546) ∨ 4546 < r) := by omega
  rcases key with h | ⟨h, k⟩ | ⟨h, k⟩ | ⟨h, k⟩ | ⟨h, k⟩ | ⟨h, k⟩ | h
  all_goals
    (first | (have g0 : 4352 ≤ r := by omega) | (have g0 : ¬ 4352 ≤ r := by omega) | skip)
    (first | (have g1 : r ≤ 4370 := by omega) | (have g1 : ¬ r ≤ 4370 := by omega) | skip)
    (first | (have g2 : 4449 ≤ r := by omega) | (have g2 : ¬ 4449 ≤ r := by omega) | skip)
    (first | (have g3 : r ≤ 4469 := by omega) | (have g3 : ¬ r ≤ 4469 := by omega) | skip)
    (first | (have g4 : 4519 < r := by omega) | (have g4 : ¬ 4519 < r := by omega) | skip)
    (first | (have g5 : 4520 ≤ r := by omega) | (have g5 : ¬ 4520 ≤ r := by omega) | skip)
    (first | (have g6 : r ≤ 4546 := by omega) | (have g6 : ¬ r ≤ 4546 := by omega) | skip)
  all_goals
    go_enter Tryz.func80, Tryz.ntmps80
    go_wp2
  all_goals
    go_ret
    simp [jamo, *]
    try omega

set_option maxHeartbeats 1000000 in
theorem codesMayBe_ok (x : Dec) (w : World) (h : codesOk x = true) : Calls Tryz.prog 153 #[dAgg x] w fun e w' => e = .returned (.bool true) ∧ w.grownBy w' none := by
  simp only [codesOk, Bool.and_eq_true, Bool.not_eq_true', decide_eq_false_iff_not] at h
  obtain ⟨⟨⟨⟨⟨⟨h1, h2⟩, h3⟩, h4⟩, h5⟩, h6⟩, h7⟩ := h
  have S1 := fun w => scal_utf.Scalar x.1 w
  have S2 := fun w => syl_any x.1 w
  have S3 := fun w => jamo_norms.isJamo x.1 w
  have S4 := fun w => scal_utf.Scalar x.2.1 w
  have S6 := fun w => scal_utf.Scalar x.2.2 w
  have S7 := fun w => syl_any x.2.2 w
  rw [h1] at S1; rw [h2] at S2; rw [h3] at S3; rw [h4] at S4; rw [h6] at S6; rw [h7] at S7
  clear h1 h2 h3 h4 h6 h7
  obtain ⟨c, a, b⟩ := x
  unfold dAgg
  dsimp only at S1 S2 S3 S4 S6 S7 h5 ⊢
  go_enter Tryz.func153, Tryz.ntmps153
  go_wp2_with (first
    | (go_at_call_of 68 (Value.int IntKind.i32 c); refine (S1 _).mono ?_; rintro e w' ⟨rfl, rfl⟩)
    | (go_at_call_of 68 (Value.int IntKind.i32 a); refine (S4 _).mono ?_; rintro e w' ⟨rfl, rfl⟩)
    | (go_at_call_of 68 (Value.int IntKind.i32 b); refine (S6 _).mono ?_; rintro e w' ⟨rfl, rfl⟩)
    | (go_at_call_of 92 (Value.int IntKind.i32 c); refine (S2 _).mono ?_; rintro e w' ⟨rfl, rfl⟩)
    | (go_at_call_of 92 (Value.int IntKind.i32 b); refine (S7 _).mono ?_; rintro e w' ⟨rfl, rfl⟩)
    | (go_at_call_of 179 (Value.int IntKind.i32 c); refine (S3 _).mono ?_; rintro e w' ⟨rfl, rfl⟩))
  go_ret
  exact ⟨by simp [h5], World.grownBy_alloc w _ none⟩
end Go.Proofs.YtpdacbiiaglodaaGreat

/-
  LAYER 5 (norms): a slice of structs of three numbers; a map of them; runes.
-/
namespace Go.Proofs.YtpdacbiiaglodaaGreat
set_option maxRecDepth 100000
open Go.RowKit Go.Lib

def i32 (x : Int) : Value := .int .i32 x
/-- A slice of triples, the third numbers of kind k, reads as l. -/
def Tri (k : IntKind) (w : World) (v : Value) (l : List (Int × Int × Int)) : Prop :=
  (v = .slice none 0 0 ∧ l = []) ∨
  ∃ b off cap, v = .slice (some ⟨b, off, none⟩) l.length cap ∧ l.length ≤ cap ∧ cap ≤ maxLen ∧
    ∀ i x, l[i]? = some x → w.cell? ⟨b, off + i * 3, none⟩ = some (.int .i32 x.1) ∧ w.cell? ⟨b, off + i * 3 + 1, none⟩ = some (.int .i32 x.2.1) ∧ w.cell? ⟨b, off + i * 3 + 2, none⟩ = some (.int k x.2.2)

theorem Tri.form {k : IntKind} {w : World} {v : Value} {l : List (Int × Int × Int)} (h : Tri k w v l) : ∃ a c, v = .slice a l.length c ∧ l.length ≤ c ∧ c ≤ maxLen := by
  rcases h with ⟨rfl, rfl⟩ | ⟨b, off, cap, rfl, h1, h2, _⟩
  · exact ⟨none, 0, rfl, Nat.le_refl _, by unfold maxLen; omega⟩
  · exact ⟨_, _, rfl, h1, h2⟩
theorem Tri.get {k : IntKind} {w : World} {a : Option Addr} {n c : Nat} {l : List (Int × Int × Int)} (h : Tri k w (.slice a n c) l) {i : Nat} (hi : i < l.length) :
    ∃ b off, a = some ⟨b, off, none⟩ ∧ w.cell? ⟨b, off + i * 3, none⟩ = some (.int .i32 (l[i]).1) ∧ w.cell? ⟨b, off + i * 3 + 1, none⟩ = some (.int .i32 (l[i]).2.1) ∧ w.cell? ⟨b, off + i * 3 + 2, none⟩ = some (.int k (l[i]).2.2) := by
  rcases h with ⟨_, rfl⟩ | ⟨b, off, cap, h, _, _, hc⟩
  · simp at hi
  · simp at h
    obtain ⟨rfl, _, _⟩ := h
    exact ⟨b, off, rfl, hc i _ (List.getElem?_eq_getElem hi)⟩
theorem Tri.lt {k : IntKind} {w : World} {v : Value} {l : List (Int × Int × Int)} (h : Tri k w v l) (hn : l ≠ []) : ∀ q, v.ownBlock = some q → q < w.heap.size := by
  rcases h with ⟨rfl, h⟩ | ⟨b, off, cap, rfl, _, _, hc⟩
  · exact absurd h hn
  · intro q hq
    simp [Value.ownBlock] at hq
    subst hq
    obtain ⟨u, l', rfl⟩ := List.exists_cons_of_ne_nil hn
    exact World.block_lt_of_cell? w _ (hc 0 _ rfl).1
theorem Tri.heap {k : IntKind} {A B : World} {v : Value} {l : List (Int × Int × Int)} (h : Tri k A v l) (hb : l ≠ [] → ∀ q, v.ownBlock = some q → B.heap[q]? = A.heap[q]?) : Tri k B v l := by
  rcases h with h | ⟨b, off, cap, rfl, h1, h2, hc⟩
  · exact .inl h
  · refine .inr ⟨b, off, cap, rfl, h1, h2, fun i u hu => ?_⟩
    have hn : l ≠ [] := by rintro rfl; simp at hu
    have := hb hn b rfl
    have h3 := hc i u hu
    simp only [World.cell?] at h3 ⊢
    rw [this]; exact h3
theorem Tri.all {k : IntKind} {w w' : World} {v : Value} {l : List (Int × Int × Int)} (h : Tri k w v l) (hg : w.grownBy w' none) : Tri k w' v l :=
  h.heap fun hne q e => hg.block q (h.lt hne q e) (by simp)

/-- Data as a value. -/
def datV (vc vd : Value) : Value := .agg #[vc, vd]
def Dat (w : World) (vc vd : Value) (c : List Cls) (d : List Dec) : Prop := Tri .i64 w vc c ∧ Tri .i32 w vd d
theorem Dat.all {w w' : World} {vc vd : Value} {c : List Cls} {d : List Dec} (h : Dat w vc vd c d) (hg : w.grownBy w' none) : Dat w' vc vd c d := ⟨h.1.all hg, h.2.all hg⟩

/-! ### Maps keyed by runes -/
/-- Block B is a map whose entries are these, in this order. -/
def Ents (w : World) (B : Nat) (l : List (Int × Value)) : Prop :=
  ∃ es clock, w.heap[B]? = some (.map es clock) ∧ es.toList.map (fun e => (e.key, e.val)) = l.map (fun x => (i32 x.1, x.2))
theorem Ents.kept {w w' : World} {B : Nat} {l : List (Int × Value)} {row : Option Nat} (h : Ents w B l) (hg : w.grownBy w' row) (hne : row ≠ some B) : Ents w' B l := by
  obtain ⟨es, cl, hb, he⟩ := h
  exact ⟨es, cl, (hg.block B (Array.getElem?_eq_some_iff.1 hb).1 (fun e => hne e.symm)).trans hb, he⟩
theorem Ents.lt {w : World} {B : Nat} {l : List (Int × Value)} (h : Ents w B l) : B < w.heap.size := by
  obtain ⟨es, cl, hb, he⟩ := h
  exact (Array.getElem?_eq_some_iff.1 hb).1

def look (l : List (Int × Value)) (k : Int) : Option Value := (l.find? fun x => decide (x.1 = k)).map (·.2)

theorem look_cons (x : Int × Value) (l : List (Int × Value)) (k : Int) : look (x :: l) k = if x.1 = k then some x.2 else look l k := by
  unfold look
  by_cases hk : x.1 = k
  · rw [List.find?_cons_of_pos (by simpa using hk), if_pos hk]; rfl
  · rw [List.find?_cons_of_neg (by simpa using hk), if_neg hk]
theorem same_i32 (a b : Int) : Instr.sameNow (.int .i32) (i32 a) (i32 b) = some (decide (b = a)) := by
  have h : Instr.sameNow (.int .i32) (i32 a) (i32 b) = some (a == b) := rfl
  rw [h, Option.some.injEq]
  by_cases e : b = a
  · subst e; simp
  · rw [decide_eq_false e]; exact beq_eq_false_iff_ne.2 (fun h => e h.symm)
theorem findNow_list (k : Int) : ∀ (es : List MapEntry) (l : List (Int × Value)) (i : Nat), es.map (fun e => (e.key, e.val)) = l.map (fun x => (i32 x.1, x.2)) →
    ∃ o, Instr.findNow (.int .i32) (i32 k) es i = some o ∧ o.map (·.2) = look l k ∧ (o = none ↔ ∀ x ∈ l, x.1 ≠ k)
  | [], [], _, _ => ⟨none, rfl, rfl, by simp⟩
  | [], _ :: _, _, h => by cases h
  | _ :: _, [], _, h => by cases h
  | e :: es, x :: l, i, h => by
    rw [List.map_cons, List.map_cons, List.cons.injEq, Prod.mk.injEq] at h
    obtain ⟨⟨h1, h2⟩, h3⟩ := h
    have hs := same_i32 k x.1
    rw [← h1] at hs
    rw [look_cons]
    by_cases hk : x.1 = k
    · rw [decide_eq_true hk] at hs
      refine ⟨some (i, e.val), ?_, ?_, ?_⟩
      · rw [Instr.findNow, hs]
      · rw [if_pos hk, ← h2]; rfl
      · simp [hk]
    · rw [decide_eq_false hk] at hs
      obtain ⟨o, q1, q2, q3⟩ := findNow_list k es l (i + 1) h3
      refine ⟨o, ?_, ?_, ?_⟩
      · rw [Instr.findNow, hs]; exact q1
      · rw [if_neg hk]; exact q2
      · rw [q3]; simp [hk]

/-- A map is asked for a key. -/
theorem run_lookup_ents {P : Program} {t kt et : TypeId} {w : World} {B : Nat} {l : List (Int × Value)} {z : Value} (hm : P.underlying t = some (.map kt et)) (hk : P.underlying kt = some (.int .i32)) (hz : ∀ w, (zeroValue et).run P w = .ok z w)
    (h : Ents w B l) (k : Int) : (Instr.lookup t (.map (some B)) (.int .i32 k) true).run P w = .ok (.tuple #[(look l k).getD z, .bool (look l k).isSome]) w := by
  obtain ⟨es, cl, hb, he⟩ := h
  obtain ⟨o, q1, q2, _⟩ := findNow_list k es.toList l 0 he
  have hK : MapKept.IsKey (.int .i32) (.int .i32 k) := rfl
  have q1' : Instr.findNow (.int .i32) (.int .i32 k) es.toList 0 = some o := q1
  rw [← q2]
  cases o with
  | none => simp [Instr.lookup, run_underlying hm, MapKept.run_getObj_map hb, MapKept.run_checkKey hk hK, MapKept.run_findKey hk q1', Result.andThen, hz]
  | some x => simp [Instr.lookup, run_underlying hm, MapKept.run_getObj_map hb, MapKept.run_checkKey hk hK, MapKept.run_findKey hk q1', Result.andThen]
/-- A new key is laid behind the others. -/
theorem run_update_ents {P : Program} {t kt et : TypeId} {w : World} {B : Nat} {l : List (Int × Value)} (hm : P.underlying t = some (.map kt et)) (hk : P.underlying kt = some (.int .i32))
    (h : Ents w B l) (k : Int) (v : Value) (hnew : ∀ x ∈ l, x.1 ≠ k) : ∃ w', (Instr.mapUpdate t (.map (some B)) (.int .i32 k) v).run P w = .ok () w' ∧ Ents w' B (l ++ [(k, v)]) ∧ w.grownBy w' (some B) ∧ w'.heap.size = w.heap.size := by
  obtain ⟨es, cl, hb, he⟩ := h
  obtain ⟨o, q1, _, q3⟩ := findNow_list k es.toList l 0 he
  obtain rfl := q3.2 hnew
  refine ⟨w.putObj B (.map (es.push { key := i32 k, val := v, born := cl }) (cl + 1)), ?_, ⟨_, _, World.putObj_heap_same (Array.getElem?_eq_some_iff.1 hb).1, by simp [he]⟩, grownBy_putObj' w B _, by simp [World.putObj]⟩
  have hK' : MapKept.IsKey (.int .i32) (.int .i32 k) := rfl
  have q1' : Instr.findNow (.int .i32) (.int .i32 k) es.toList 0 = some none := q1
  simp [Instr.mapUpdate, run_underlying hm, MapKept.run_getObj_map hb, MapKept.run_checkKey hk hK', MapKept.run_findKey hk q1', MapKept.run_setObj_map _ hb, Result.andThen, i32, World.putObj]
end Go.Proofs.YtpdacbiiaglodaaGreat

/-
  A RANGE OVER A FUNCTION WHOSE ITERATOR HAS A STATE OF ITS OWN, AND TELLS OF WHAT IT HANDS OVER: one law for the caller. No program is named here.
  The iterator turns block r alone (and lays new blocks); the body keeps each elder block but its own, ib; of what is handed over, 'Ok' holds in the world of the call.
-/
namespace Go.Proofs.YtpdacbiiaglodaaGreat
set_option maxRecDepth 100000
open Go.RowKit

/-- What a round leaves of the elder blocks: all but block ib. -/
def KeptX (n0 ib : Nat) (A B : World) : Prop := A.heap.size ≤ B.heap.size ∧ ∀ k, k < n0 → k ≠ ib → B.heap[k]? = A.heap[k]?
theorem KeptX.refl {n0 ib : Nat} (A : World) : KeptX n0 ib A A := ⟨Nat.le_refl _, fun _ _ _ => rfl⟩
theorem KeptX.trans {n0 ib : Nat} {A B C : World} (h : KeptX n0 ib A B) (k : KeptX n0 ib B C) : KeptX n0 ib A C := ⟨Nat.le_trans h.1 k.1, fun i h1 h2 => (k.2 i h1 h2).trans (h.2 i h1 h2)⟩
theorem KeptX.grown {n0 ib q : Nat} {A B : World} (h : A.grownBy B (some q)) (hn : n0 ≤ A.heap.size) (hq : q = ib ∨ n0 ≤ q) : KeptX n0 ib A B :=
  ⟨h.size, fun k h1 h2 => h.block k (by omega) (fun e => by cases e; omega)⟩

/-- What an iterator promises: called with yield, it calls yield at what it tells, as long as rounds go on; its own steps turn block r alone. -/
def TellsO {α : Type} (F : Fence) (n : Nat) (P : Program) (g : Nat) (lb : Array Value) (encs : α → Array Value) (Ok : List α → α → World → Prop) (r : Option Nat) (n0 ib : Nat) (S Sp : List α → World → Prop) (w : World) : Prop :=
  ∀ (l : Nat) (J Jx : List α → World → Prop) (W : World), KeptX n0 ib w W → n0 ≤ W.heap.size →
    (∀ s A B, J s A → A.grownBy B r → J s B) → (∀ s A B, Jx s A → A.grownBy B r → Jx s B) →
    (∀ pre x W1, J pre W1 → Ok pre x W1 → n0 ≤ W1.heap.size → YieldAt F (n - 1) P l (encs x) W1 fun e W' =>
      (e = .returned (.bool true) ∧ J (pre ++ [x]) W' ∧ KeptX n0 ib W1 W') ∨ (e = .returned (.bool false) ∧ Jx (pre ++ [x]) W' ∧ KeptX n0 ib W1 W')) →
    J [] W →
    CallsIn F n P g (#[.func (.yield l) #[] #[]] ++ lb) W fun e W' => (∃ v, e = .returned v) ∧ ((∃ xs, S xs W' ∧ J xs W') ∨ (∃ pre, Sp pre W' ∧ Jx pre W'))

def Tells {α : Type} (F : Fence) (n : Nat) (P : Program) (g : Nat) (lb : Array Value) (encs : α → Array Value) (Ok : List α → α → World → Prop) (r n0 ib : Nat) (S Sp : List α → World → Prop) (w : World) : Prop :=
  TellsO F n P g lb encs Ok (some r) n0 ib S Sp w

/-- How a round's body may be left. -/
def roundLeft {α : Type} (n0 ib : Nat) (I : List α → World → Prop) (Ix : Code → List α → World → Prop) (xs : List α) (W : World) : Exit → Act → World → Prop
  | .normal, _, W' => KeepsOthers W W' ∧ KeptX n0 ib W W' ∧ I xs W'
  | .ret, _, W' => KeepsOthers W W' ∧ KeptX n0 ib W W' ∧ Ix .ret xs W'
  | .exit i, _, W' => KeepsOthers W W' ∧ KeptX n0 ib W W' ∧ Ix (.exit i) xs W'
  | .goto i, _, W' => KeepsOthers W W' ∧ KeptX n0 ib W W' ∧ Ix (.goto i) xs W'
  | .panic _, _, _ => False
  | .outgrown, _, _ => False

theorem gbut {a c : World} (h : a.grownBy c none) (row : Option Nat) : a.grownBy c row := ⟨h.os, h.tape, h.output, h.size, fun i hi _ => h.block i hi (by simp)⟩
theorem putObj_grown (W : World) (l : Nat) (o : Obj) : W.grownBy (W.putObj l o) (some l) := grownBy_putObj' W l o

set_option maxHeartbeats 4000000 in
theorem range_tells3 {α : Type} {F : Fence} {n : Nat} {P : Program} {g : Operand} {ps : Array Tmp} {assign body : Code} {Q : Exit → Act → World → Prop} {a : Act} {w : World}
    (hro : F.round = none) (h1 : 1 ≤ n) {gf : Nat} {lb : Array Value} (hg : a.eval g = .func (.func gf) #[] lb) (hFg : F.fn gf) (eg : ∀ args w, (callFunc gf args).run P w = .ok (.enter gf args) w)
    {encs : α → Array Value} {Ok : List α → α → World → Prop} {r : Option Nat} {ib : Nat} {S Sp : List α → World → Prop}
    (hseq : TellsO F (n - 1) P gf lb encs Ok r w.heap.size ib S Sp w) (hrw : r ≠ some w.heap.size ∧ r ≠ some (w.heap.size + 1)) (hps : ∀ x, (encs x).size = ps.size)
    (hOk : ∀ pre x A B k o, Ok pre x A → A.grownBy B (some k) → A.heap[k]? = some o → o.isCells = false → Ok pre x B)
    (I : List α → World → Prop) (Ix : Code → List α → World → Prop)
    (hI : ∀ s A B k, I s A → A.grownBy B k → (k = r ∨ (∃ q, k = some q ∧ w.heap.size ≤ q ∧ ∀ o, A.heap[q]? = some o → o.isCells = false)) → I s B)
    (hIx : ∀ c s A B k, Ix c s A → A.grownBy B k → (k = r ∨ (∃ q, k = some q ∧ w.heap.size ≤ q ∧ ∀ o, A.heap[q]? = some o → o.isCells = false)) → Ix c s B)
    (h0 : I [] w) (a₁ : α → Act)
    (hassign : ∀ (l : Nat) (x : α) (W : World) (K : Act → World → Prop), K (a₁ x) W →
      assign.wpIn (F.inRound l) (n - 1 - 1) P (Exit.then K (fun _ _ _ => False)) { tmps := (ps.zip (encs x)).foldl (fun t (p, v) => t.setIfInBounds p v) a.tmps, defers := [] } W)
    (hbody : ∀ (l : Nat) (pre : List α) (x : α) (W : World), I pre W → Ok pre x W → w.heap.size ≤ W.heap.size → body.wpIn (F.inRound l) (n - 1 - 1) P (roundLeft w.heap.size ib I Ix (pre ++ [x]) W) (a₁ x) W)
    (hdone : ∀ (D : Nat) (xs : List α) (W W' : World), w.heap.size ≤ D → S xs W → I xs W' → W.grownBy W' (some (D + 1)) → W'.heap[D]? = some (.deferred (some [])) → Q .normal { a with defers := { target := .collected D, args := #[] } :: a.defers } W')
    (hstop : ∀ (D : Nat) (c : Code) (pre : List α) (W W' : World), w.heap.size ≤ D → Sp pre W → Ix c pre W' → W.grownBy W' (some (D + 1)) → W'.heap[D]? = some (.deferred (some [])) → c.wpIn F n P Q { a with defers := { target := .collected D, args := #[] } :: a.defers } W') :
    (Code.rangeFunc g ps assign body).wpIn F n P Q a w := by
  refine wpIn_rangeFunc fun fn hfn => ?_
  rw [hro]
  -- the loop's record, in each of its states
  let rec' : LoopState → Option Code → Loop := fun st pe => { state := st, pending := pe, fn, tmps := a.tmps, params := ps, assign, body, defers := w.heap.size }
  obtain ⟨R, hR⟩ : ∃ R, R = rec' := ⟨_, rfl⟩
  obtain ⟨D, hD⟩ : ∃ D, D = w.heap.size := ⟨_, rfl⟩
  obtain ⟨V, hV⟩ : ∃ V, V = (w.alloc (.deferred (some []))).alloc (.loop (R .ready none)) := ⟨_, rfl⟩
  have gV : w.grownBy V none := by rw [hV]; exact (World.grownBy_alloc w _ none).trans (World.grownBy_alloc _ _ none)
  have lV : V.heap[D + 1]? = some (.loop (R .ready none)) := by
    rw [hV, hD]
    have := World.alloc_heap_new (w.alloc (.deferred (some []))) (.loop (R .ready none))
    rwa [World.size_alloc] at this
  have dV : V.heap[D]? = some (.deferred (some [])) := by
    rw [hV, hD]
    exact ((World.grownBy_alloc (w.alloc (.deferred (some []))) (.loop (R .ready none)) none).block w.heap.size (by simp) (by simp)).trans (World.alloc_heap_new w _)
  have hrD : r ≠ some D ∧ r ≠ some (D + 1) := by rw [hD]; exact hrw
  have iV : I [] V := hI _ _ _ (some D) h0 (gbut gV _) (.inr ⟨D, rfl, by omega, fun o ho => by have := (Array.getElem?_eq_some_iff.1 ho).1; omega⟩)
  refine ⟨D + 1, [{ target := .collected D, args := #[] }], V, { target := .fn (.func gf) lb, args := #[.func (.yield (D + 1)) #[] #[]] }, V, gf, #[.func (.yield (D + 1)) #[] #[]] ++ lb, V, ?_, ?_, ?_, ?_, fun _ => h1, ?_⟩
  · rw [hV, hR, hD]; exact run_enterLoop_outer _ _ _ _ _
  · simp only [resolve, hg]
    simp [go_sem]
  · intro f' hf'; simp [Target.leads] at hf'; subst hf'; exact hFg
  · simp [invoke, go_sem, eg]
  · have keepD : ∀ {A B : World} {q : Option Nat} {o : Obj}, A.grownBy B q → q ≠ some D → A.heap[D]? = some o → B.heap[D]? = some o := fun h hq ho => (h.block D (Array.getElem?_eq_some_iff.1 ho).1 (fun e => hq e.symm)).trans ho
    have keepL : ∀ {A B : World} {q : Option Nat} {o : Obj}, A.grownBy B q → q ≠ some (D + 1) → A.heap[D + 1]? = some o → B.heap[D + 1]? = some o := fun h hq ho => (h.block (D + 1) (Array.getElem?_eq_some_iff.1 ho).1 (fun e => hq e.symm)).trans ho
    refine (hseq (D + 1) (fun pre W => I pre W ∧ W.heap[D + 1]? = some (.loop (R .ready none)) ∧ W.heap[D]? = some (.deferred (some [])))
      (fun pre W => ∃ c, Ix c pre W ∧ W.heap[D + 1]? = some (.loop (R .done (some c))) ∧ W.heap[D]? = some (.deferred (some []))) V
      (KeptX.grown (q := D) (gbut gV _) (Nat.le_refl _) (.inr (by omega))) gV.size ?_ ?_ ?_ ⟨iV, lV, dV⟩).mono ?_
    · rintro s A B ⟨h2, h3, h4⟩ hAB
      exact ⟨hI _ _ _ r h2 hAB (.inl rfl), keepL hAB hrD.2 h3, keepD hAB hrD.1 h4⟩
    · rintro s A B ⟨c, h2, h3, h4⟩ hAB
      exact ⟨c, hIx _ _ _ _ r h2 hAB (.inl rfl), keepL hAB hrD.2 h3, keepD hAB hrD.1 h4⟩
    · -- one round
      rintro pre x W ⟨h2, h3, h4⟩ hok hsz
      have hlt : D + 1 < W.heap.size := (Array.getElem?_eq_some_iff.1 h3).1
      have hy := run_yield (P := P) (args := encs x) h3 (by rw [hR]; exact hps x)
      rw [hR] at hy
      refine ⟨fn, _, assign, body, hy, roundIn_of_wpIn hfn (hassign _ x W _ ⟨_, run_beginRound h3 (by rw [hR]), ?_⟩)⟩
      obtain ⟨o2, ho2⟩ : ∃ o2 : Loop, o2 = { R .ready none with state := .busy } := ⟨_, rfl⟩
      rw [← ho2]
      have gU := putObj_grown W (D + 1) (.loop o2)
      have lU : (W.putObj (D + 1) (.loop o2)).heap[D + 1]? = some (.loop o2) := World.putObj_heap_same hlt
      have dU := keepD gU (by simp) h4
      have kU : KeptX w.heap.size ib W (W.putObj (D + 1) (.loop o2)) := KeptX.grown gU hsz (.inr (by omega))
      refine wpIn_mono (hbody _ pre x _ (hI _ _ _ _ h2 gU (.inr ⟨_, rfl, by omega, fun o ho => by rw [h3] at ho; cases ho; rfl⟩)) (hOk _ _ _ _ _ _ hok gU h3 rfl) (Nat.le_trans hsz gU.size)) ?_
      have fin : ∀ (jump : Option Code) (W3 : World), KeepsOthers (W.putObj (D + 1) (.loop o2)) W3 → KeptX w.heap.size ib (W.putObj (D + 1) (.loop o2)) W3 → ∃ W4, (Instr.endRound (D + 1) jump).run P W3 = .ok (.bool jump.isNone) W4 ∧ W3.grownBy W4 (some (D + 1)) ∧
          W4.heap[D + 1]? = some (.loop (R (if jump.isNone then .ready else .done) jump)) ∧ W4.heap[D]? = some (.deferred (some [])) ∧ KeptX w.heap.size ib W W4 ∧ (∀ o, W3.heap[D + 1]? = some o → o.isCells = false) := by
        intro jump W3 hk hx
        have l3 := hk.same _ _ lU rfl
        have d3 := hk.same _ _ dU rfl
        have hrun := run_endRound (P := P) jump l3
        have g4 := putObj_grown W3 (D + 1) (.loop (R (if jump.isNone then .ready else .done) jump))
        refine ⟨_, ?_, g4, World.putObj_heap_same (Array.getElem?_eq_some_iff.1 l3).1, keepD g4 (by simp) d3, (kU.trans hx).trans (KeptX.grown g4 (Nat.le_trans hsz (Nat.le_trans gU.size hx.1)) (.inr (by omega))), fun o ho => by rw [l3] at ho; cases ho; rfl⟩
        rw [hrun, ho2, hR]
      rintro e a3 W3 hp
      cases e with
      | normal =>
        obtain ⟨p1, p2, p3⟩ := hp
        obtain ⟨W4, q1, q2, q3, q4, q5, q6⟩ := fin none W3 p1 p2
        exact ⟨_, _, q1, .inl ⟨rfl, ⟨hI _ _ _ _ p3 q2 (.inr ⟨_, rfl, by omega, q6⟩), q3, q4⟩, q5⟩⟩
      | ret =>
        obtain ⟨p1, p2, p3⟩ := hp
        obtain ⟨W4, q1, q2, q3, q4, q5, q6⟩ := fin (some .ret) W3 p1 p2
        exact ⟨_, _, q1, .inr ⟨rfl, ⟨.ret, hIx _ _ _ _ _ p3 q2 (.inr ⟨_, rfl, by omega, q6⟩), q3, q4⟩, q5⟩⟩
      | exit i =>
        obtain ⟨p1, p2, p3⟩ := hp
        obtain ⟨W4, q1, q2, q3, q4, q5, q6⟩ := fin (some (.exit i)) W3 p1 p2
        exact ⟨_, _, q1, .inr ⟨rfl, ⟨.exit i, hIx _ _ _ _ _ p3 q2 (.inr ⟨_, rfl, by omega, q6⟩), q3, q4⟩, q5⟩⟩
      | goto i =>
        obtain ⟨p1, p2, p3⟩ := hp
        obtain ⟨W4, q1, q2, q3, q4, q5, q6⟩ := fin (some (.goto i)) W3 p1 p2
        exact ⟨_, _, q1, .inr ⟨rfl, ⟨.goto i, hIx _ _ _ _ _ p3 q2 (.inr ⟨_, rfl, by omega, q6⟩), q3, q4⟩, q5⟩⟩
      | panic ch => exact hp.elim
      | outgrown => exact hp.elim
    · -- behind the iterator
      rintro e W2 ⟨⟨v, rfl⟩, (⟨xs, hS, h2, h3, h4⟩ | ⟨pre, hS, c, h2, h3, h4⟩)⟩
      · have hrun := run_endLoop (P := P) h3 (by rw [hR]; simp [rec'])
        have g4 := putObj_grown W2 (D + 1) (.loop { R .ready none with state := .exhausted })
        refine ⟨none, _, by rw [hrun, hR], ?_⟩
        rw [← hR]
        exact hdone D xs W2 _ (by omega) hS (hI _ _ _ _ h2 g4 (.inr ⟨_, rfl, by omega, fun o ho => by rw [h3] at ho; cases ho; rfl⟩)) g4 (keepD g4 (by simp) h4)
      · have hrun := run_endLoop (P := P) h3 (by rw [hR]; simp [rec'])
        have g4 := putObj_grown W2 (D + 1) (.loop { R .done (some c) with state := .exhausted })
        refine ⟨some c, _, by rw [hrun, hR], ?_⟩
        rw [← hR]
        exact hstop D c pre W2 _ (by omega) hS (hIx _ _ _ _ _ h2 g4 (.inr ⟨_, rfl, by omega, fun o ho => by rw [h3] at ho; cases ho; rfl⟩)) g4 (keepD g4 (by simp) h4)

set_option maxHeartbeats 4000000 in
theorem range_tells {α : Type} {F : Fence} {n : Nat} {P : Program} {g : Operand} {ps : Array Tmp} {assign body : Code} {Q : Exit → Act → World → Prop} {a : Act} {w : World}
    (hro : F.round = none) (h1 : 1 ≤ n) {gf : Nat} {lb : Array Value} (hg : a.eval g = .func (.func gf) #[] lb) (hFg : F.fn gf) (eg : ∀ args w, (callFunc gf args).run P w = .ok (.enter gf args) w)
    {encs : α → Array Value} {Ok : List α → α → World → Prop} {r ib : Nat} {S Sp : List α → World → Prop}
    (hseq : Tells F (n - 1) P gf lb encs Ok r w.heap.size ib S Sp w) (hrw : r ≠ w.heap.size ∧ r ≠ w.heap.size + 1) (hps : ∀ x, (encs x).size = ps.size)
    (hOk : ∀ pre x A B k o, Ok pre x A → A.grownBy B (some k) → A.heap[k]? = some o → o.isCells = false → Ok pre x B)
    (I : List α → World → Prop) (Ix : Code → List α → World → Prop)
    (hI : ∀ s A B k, I s A → A.grownBy B (some k) → k = r ∨ w.heap.size ≤ k → I s B)
    (hIx : ∀ c s A B k, Ix c s A → A.grownBy B (some k) → k = r ∨ w.heap.size ≤ k → Ix c s B)
    (h0 : I [] w) (a₁ : α → Act)
    (hassign : ∀ (l : Nat) (x : α) (W : World) (K : Act → World → Prop), K (a₁ x) W →
      assign.wpIn (F.inRound l) (n - 1 - 1) P (Exit.then K (fun _ _ _ => False)) { tmps := (ps.zip (encs x)).foldl (fun t (p, v) => t.setIfInBounds p v) a.tmps, defers := [] } W)
    (hbody : ∀ (l : Nat) (pre : List α) (x : α) (W : World), I pre W → Ok pre x W → w.heap.size ≤ W.heap.size → body.wpIn (F.inRound l) (n - 1 - 1) P (roundLeft w.heap.size ib I Ix (pre ++ [x]) W) (a₁ x) W)
    (hdone : ∀ (D : Nat) (xs : List α) (W W' : World), w.heap.size ≤ D → S xs W → I xs W' → W.grownBy W' (some (D + 1)) → W'.heap[D]? = some (.deferred (some [])) → Q .normal { a with defers := { target := .collected D, args := #[] } :: a.defers } W')
    (hstop : ∀ (D : Nat) (c : Code) (pre : List α) (W W' : World), w.heap.size ≤ D → Sp pre W → Ix c pre W' → W.grownBy W' (some (D + 1)) → W'.heap[D]? = some (.deferred (some [])) → c.wpIn F n P Q { a with defers := { target := .collected D, args := #[] } :: a.defers } W') :
    (Code.rangeFunc g ps assign body).wpIn F n P Q a w := by
  exact range_tells3 hro h1 hg hFg eg hseq ⟨by simpa using hrw.1, by simpa using hrw.2⟩ hps hOk I Ix
    (fun s A B k h hg hk => hI s A B (k.getD r) h (by rcases hk with rfl | ⟨q, rfl, _⟩ <;> exact hg) (by rcases hk with rfl | ⟨q, rfl, hq, _⟩ <;> simp <;> omega))
    (fun c s A B k h hg hk => hIx c s A B (k.getD r) h (by rcases hk with rfl | ⟨q, rfl, _⟩ <;> exact hg) (by rcases hk with rfl | ⟨q, rfl, hq, _⟩ <;> simp <;> omega)) h0 a₁ hassign hbody hdone hstop

end Go.Proofs.YtpdacbiiaglodaaGreat

/-
  LAYER 5 (norms): numbers laid behind bytes.
-/
namespace Go.Proofs.YtpdacbiiaglodaaGreat
set_option maxRecDepth 100000
open Go.RowKit Go.Lib

/-- Numbers as bytes. -/
def nums (l : List Nat) : List UInt8 := l.flatMap Lib.uvarint
theorem nums_snoc (l : List Nat) (n : Nat) : nums (l ++ [n]) = nums l ++ Lib.uvarint n := by simp [nums]
theorem nums_append (l k : List Nat) : nums (l ++ k) = nums l ++ nums k := by simp [nums]
theorem nums_length (l : List Nat) (h : ∀ n ∈ l, n < 18446744073709551616) : (nums l).length ≤ 10 * l.length := by
  induction l with
  | nil => simp [nums]
  | cons x t ih =>
    have h1 := ulen_le (h x (by simp))
    have h2 := ih (fun n hn => h n (by simp [hn]))
    unfold ulen at h1
    simp only [nums, List.flatMap_cons, List.length_append, List.length_cons] at h2 ⊢
    omega

theorem uvarint_ne (n : Nat) : Lib.uvarint n ≠ [] := by
  rw [Lib.uvarint]
  split <;> simp
/-- Bytes in a row of their own, or in a full slice. -/
def GB (w : World) (B : Nat) (v : Value) (bs : List UInt8) : Prop := Owns w B 5 v bs ∨ ∃ b, v = .slice (some ⟨b, 0, none⟩) bs.length bs.length ∧ B ≤ b ∧ Reads w v bs
theorem GB.new {w w' : World} {B : Nat} {v : Value} {bs : List UInt8} (h : GB w B v bs) (hg : w.grownBy w' none) : GB w' B v bs := by
  rcases h with h | ⟨b, h1, h2, h3⟩
  · exact .inl (h.new hg)
  · exact .inr ⟨b, h1, h2, h3.new hg⟩

theorem wpList_append_gb (w : World) {ops : Array Oper} {rest : List Oper} {o : Oper} {a : Act} {Q : Exit → Act → World → Prop} (hgd : o.guard = none) (s x : Operand) (t : TypeId)
    (ho : o.op = .call { callee := .builtin .append, args := #[s, x], argTypes := #[t, t] })
    (base : Nat) (i : TypeInfo) (ht : Tryz.prog.underlying t = some (.slice 5)) (hi : Tryz.prog.info? 5 = some i) (hz : i.zero = some (.int .u8 0)) (hsize : i.size = 1) (hby : i.bytes = 1)
    (v : Value) (bs : List UInt8) (hs : a.eval s = v) (hown : GB w base v bs) (xv : Value) (f : List UInt8) (hx : a.eval x = xv) (hr : Reads w xv f) (hf : f ≠ [])
    (hlim : bs.length + f.length ≤ 140737488355328) (hbase : base ≤ w.heap.size)
    (h : ∀ v' w', Owns w' base 5 v' (bs ++ f) → w.grownBy w' v.ownBlock → (v'.ownBlock = v.ownBlock ∨ ∃ k, v'.ownBlock = some k ∧ w.heap.size ≤ k) → wpList Tryz.prog ops Q rest (a.put o.dst v') w') : wpList Tryz.prog ops Q (o :: rest) a w := by
  obtain ⟨b, off, cap, rfl⟩ : ∃ b off cap, xv = .slice (some ⟨b, off, none⟩) f.length cap := by
    rcases hr with ⟨_, rfl⟩ | ⟨b, off, cap, rfl, _⟩
    · exact absurd rfl hf
    · exact ⟨b, off, cap, rfl⟩
  have hfl : 0 < f.length := List.length_pos_iff.2 hf
  rcases hown with hown | ⟨bb, rfl, hbb, hrd⟩
  · refine wpList_append_own_at w hgd s x t ho base 5 i (.int .u8 0) 1 1 ht hi hz hsize hby rfl (by decide) v bs.length (byteCells bs) hs hown ⟨b, off, none⟩ f.length cap (byteCells f) hx (by rw [byteCells_len]; omega) hr.cells (byteCells_one f) (by unfold maxLen; omega) (by omega) hbase fun v' w' h2 h3 _ h4 => h v' w' ?_ h3 (h4.imp id fun h => ⟨_, h, Nat.le_refl _⟩)
    unfold Owns
    rw [byteCells_append, List.length_append]
    exact h2
  · refine wpList_append_grows w hgd s x t ho 5 i (.int .u8 0) 1 1 ht hi hz hsize hby rfl (by decide) (some ⟨bb, 0, none⟩) bs.length bs.length (byteCells bs) hs (fun h => by cases h) (by rw [byteCells_len]; omega) (fun b' hb' => by cases hb'; exact hrd.cells) ⟨b, off, none⟩ f.length cap (byteCells f) hx (by rw [byteCells_len]; omega) hr.cells (byteCells_one f) (by omega) (by unfold maxLen; omega) (by omega) fun v' w' h2 h3 => ?_
    have h2' : Owns w' w.heap.size 5 v' (bs ++ f) := by
      unfold Owns
      rw [byteCells_append, List.length_append]
      exact h2
    refine h v' w' (h2'.mono hbase) (gbut h3 _) (.inr ?_)
    obtain ⟨x, c, rfl⟩ := h2'.reads.form
    rcases h2'.reads with ⟨_, h4⟩ | ⟨g, o', c', h4, _⟩
    · simp [hf] at h4
    · rw [h4] at h2' ⊢
      exact ⟨g, rfl, (h2'.lt g rfl).1⟩

/-- A slice of numbers at the beginning of a block. -/
def IntsAt (w : World) (lb : Nat) (l : List Nat) : Prop := ∀ (i n : Nat), l[i]? = some n → w.cell? ⟨lb, i, none⟩ = some (.int .i64 (n : Int))

set_option maxHeartbeats 4000000 in
theorem addNumbers_any (B lb : Nat) (v : Value) (bs : List UInt8) (l : List Nat) (w : World) (ho : GB w B v bs) (hl0 : l ≠ []) (hB : B ≤ w.heap.size) (hl : IntsAt w lb l) (hne : v.ownBlock ≠ some lb)
    (hn : ∀ n ∈ l, n < 9223372036854775808) (hlim : bs.length + 10 * l.length ≤ 100000000) :
    Calls Tryz.prog 126 #[v, .slice (some ⟨lb, 0, none⟩) l.length l.length] w fun e w' => ∃ v', e = .returned v' ∧ Owns w' B 5 v' (bs ++ nums l) ∧ w.grownBy w' v.ownBlock ∧ (v'.ownBlock = v.ownBlock ∨ ∃ k, v'.ownBlock = some k ∧ w.heap.size ≤ k) := by
  obtain ⟨i0, hi, hz0, hz1, hz2⟩ := info_parts infoU8
  have hmax : l.length ≤ 10000000 := by omega
  have hlH := Lib.hid hl
  have hnH := Lib.hid hn
  clear hl hn
  go_enter Tryz.func126, Tryz.ntmps126
  go_wp2
  go_loopw [0, 9] (fun v0 vi wr => ∃ (i : Nat), vi = .int .i64 (i : Int) ∧ i ≤ l.length ∧ Hid (GB wr B v0 (bs ++ nums (l.take i))) ∧ Hid (0 < i → Owns wr B 5 v0 (bs ++ nums (l.take i))) ∧ w.grownBy wr v.ownBlock ∧ (v0.ownBlock = v.ownBlock ∨ ∃ k, v0.ownBlock = some k ∧ w.heap.size ≤ k)) (fun _ vi _ => l.length - (RowKit.intOf vi).toNat)
  case atStart => exact ⟨0, rfl, Nat.zero_le _, Lib.hid (by simpa [nums] using ho), Lib.hid (fun h => by omega), World.grownBy.refl _ _, .inl rfl⟩
  case round =>
    obtain ⟨i, rfl, hi1, hown, hown', hg, hk⟩ := hrel
    by_cases hlt : i < l.length
    · obtain ⟨n, hnn⟩ : ∃ n, l[i] = n := ⟨_, rfl⟩
      have hget : l[i]? = some n := by rw [List.getElem?_eq_getElem hlt, hnn]
      have hcell : wr.cell? ⟨lb, i, none⟩ = some (.int .i64 (n : Int)) := hg.cell (hlH.out i n hget) hne.symm
      have hnl := hnH.out n (List.mem_of_getElem? hget)
      have hU := fun w => Uint_any n (by omega) w
      have hune := uvarint_ne n
      have hul : (Lib.uvarint n).length ≤ 10 := ulen_le (by omega)
      have htk : Hid (bs ++ nums (l.take (i + 1)) = (bs ++ nums (l.take i)) ++ Lib.uvarint n) := Lib.hid (by rw [List.take_succ_eq_append_getElem hlt, hnn, nums_snoc, List.append_assoc])
      have hol : (bs ++ nums (l.take i)).length ≤ 100000000 := by
        have := nums_length (l.take i) (fun x hx => by have := hnH.out x (List.mem_of_mem_take hx); omega)
        rw [List.length_append]
        simp only [List.length_take] at this
        omega
      have hown0 := hown.out
      generalize bs ++ nums (l.take i) = M at hown0 htk hol
      clear hown hown' hget hnn
      go_wp2_with (first
        | (go_at_call 157; refine (hU _).mono ?_; rintro e w1 ⟨u, rfl, hou, hg1⟩; have hown1 := hown0.new hg1)
        | (at_builtin; refine wpList_append_gb _ rfl _ _ 27 rfl B i0 Tryz.underlying27 hi hz0 hz1 hz2 u0 M rfl hown1 u _ rfl hou.reads hune (by omega) (Nat.le_trans hB (Nat.le_trans hg.size hg1.size)) ?_; intro v2 w2 ho2 hg2 hloc))
      go_roundw
      case rel =>
        have hgf : w.grownBy w2 v.ownBlock := gnew (gnew hg hg1 (by simp)) hg2 (fun r e => by
          rcases hk with h | ⟨k, h, h2⟩
          · right; rw [← h]; exact e
          · left; rw [h] at e; cases e; exact h2)
        refine ⟨i + 1, by go_num, by omega, Lib.hid (.inl (by rw [htk.out]; exact ho2)), Lib.hid (fun _ => by rw [htk.out]; exact ho2), hgf, ?_⟩
        rcases hloc with h | h
        · rw [h]; exact hk
        · obtain ⟨k', h, h5⟩ := h
          exact .inr ⟨k', h, Nat.le_trans hg.size (Nat.le_trans hg1.size h5)⟩
      case measure => simp [RowKit.intOf]; omega
    · obtain rfl : i = l.length := by omega
      have hown0 := hown'.out (List.length_pos_iff.2 hl0)
      rw [List.take_length] at hown0
      clear hlt hown hown'
      go_wp2
      go_ret
      exact ⟨_, rfl, hown0, hg, hk⟩
end Go.Proofs.YtpdacbiiaglodaaGreat
