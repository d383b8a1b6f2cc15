/-
  LAYER 9 (trie): maps keyed by code points; the tree of nodes in memory.
-/
import Derived.Test.YtnnijcafnhhnoaaTCopy
import Derived.MapKept
import Derived.Maps.OwnSet
namespace Go.Proofs.Ytnnijcafnhhnoaa
set_option maxRecDepth 100000
open Go.RowKit Go.Lib

def i32 (x : Int) : Value := .int .i32 x
/-! ### Maps keyed by runes -/
/-- Block B is a map whose entries are these, in this order. -/
def Ents (w : World) (B : Nat) (l : List (Int × Value)) : Prop :=
  ∃ es clock, w.heap[B]? = some (.map es clock) ∧ es.toList.map (fun e => (e.key, e.val)) = l.map (fun x => (i32 x.1, x.2))
theorem Ents.heap {w w' : World} {B : Nat} {l : List (Int × Value)} (h : Ents w B l) (hb : w'.heap[B]? = w.heap[B]?) : Ents w' B l := by
  obtain ⟨es, cl, hb', he⟩ := h
  exact ⟨es, cl, hb.trans hb', he⟩
theorem Ents.lt {w : World} {B : Nat} {l : List (Int × Value)} (h : Ents w B l) : B < w.heap.size := by
  obtain ⟨es, cl, hb, he⟩ := h
  exact (Array.getElem?_eq_some_iff.1 hb).1
theorem Ents.made (w : World) : Ents (w.alloc (.map #[] 0)) w.heap.size [] := ⟨#[], 0, World.alloc_heap_new w _, rfl⟩

def look (l : List (Int × Value)) (k : Int) : Option Value := (l.find? fun x => decide (x.1 = k)).map (·.2)
theorem look_cons (x : Int × Value) (l : List (Int × Value)) (k : Int) : look (x :: l) k = if x.1 = k then some x.2 else look l k := by
  unfold look
  by_cases hk : x.1 = k
  · rw [List.find?_cons_of_pos (by simpa using hk), if_pos hk]; rfl
  · rw [List.find?_cons_of_neg (by simpa using hk), if_neg hk]
theorem same_i32 (a b : Int) : Instr.sameNow (.int .i32) (i32 a) (i32 b) = some (decide (b = a)) := by
  have h : Instr.sameNow (.int .i32) (i32 a) (i32 b) = some (a == b) := rfl
  rw [h, Option.some.injEq]
  by_cases e : b = a
  · subst e; simp
  · rw [decide_eq_false e]; exact beq_eq_false_iff_ne.2 (fun h => e h.symm)
theorem findNow_list (k : Int) : ∀ (es : List MapEntry) (l : List (Int × Value)) (i : Nat), es.map (fun e => (e.key, e.val)) = l.map (fun x => (i32 x.1, x.2)) →
    ∃ o, Instr.findNow (.int .i32) (i32 k) es i = some o ∧ o.map (·.2) = look l k ∧ (o = none ↔ ∀ x ∈ l, x.1 ≠ k)
  | [], [], _, _ => ⟨none, rfl, rfl, by simp⟩
  | [], _ :: _, _, h => by cases h
  | _ :: _, [], _, h => by cases h
  | e :: es, x :: l, i, h => by
    rw [List.map_cons, List.map_cons, List.cons.injEq, Prod.mk.injEq] at h
    obtain ⟨⟨h1, h2⟩, h3⟩ := h
    have hs := same_i32 k x.1
    rw [← h1] at hs
    rw [look_cons]
    by_cases hk : x.1 = k
    · rw [decide_eq_true hk] at hs
      refine ⟨some (i, e.val), ?_, ?_, ?_⟩
      · rw [Instr.findNow, hs]
      · rw [if_pos hk, ← h2]; rfl
      · simp [hk]
    · rw [decide_eq_false hk] at hs
      obtain ⟨o, q1, q2, q3⟩ := findNow_list k es l (i + 1) h3
      refine ⟨o, ?_, ?_, ?_⟩
      · rw [Instr.findNow, hs]; exact q1
      · rw [if_neg hk]; exact q2
      · rw [q3]; simp [hk]
/-- A map is asked for a key. -/
theorem run_lookup_ents {P : Program} {t kt et : TypeId} {w : World} {B : Nat} {l : List (Int × Value)} {z : Value} (hm : P.underlying t = some (.map kt et)) (hk : P.underlying kt = some (.int .i32)) (hz : ∀ w, (zeroValue et).run P w = .ok z w)
    (h : Ents w B l) (k : Int) : (Instr.lookup t (.map (some B)) (.int .i32 k) false).run P w = .ok ((look l k).getD z) w := by
  obtain ⟨es, cl, hb, he⟩ := h
  obtain ⟨o, q1, q2, _⟩ := findNow_list k es.toList l 0 he
  have hK : MapKept.IsKey (.int .i32) (.int .i32 k) := rfl
  have q1' : Instr.findNow (.int .i32) (.int .i32 k) es.toList 0 = some o := q1
  rw [← q2]
  cases o with
  | none => simp [Instr.lookup, run_underlying hm, MapKept.run_getObj_map hb, MapKept.run_checkKey hk hK, MapKept.run_findKey hk q1', Result.andThen, hz]
  | some x => simp [Instr.lookup, run_underlying hm, MapKept.run_getObj_map hb, MapKept.run_checkKey hk hK, MapKept.run_findKey hk q1', Result.andThen]
theorem run_lookup_nil {P : Program} {t kt et : TypeId} {w : World} {z : Value} (hm : P.underlying t = some (.map kt et)) (hk : P.underlying kt = some (.int .i32)) (hz : ∀ w, (zeroValue et).run P w = .ok z w)
    (k : Int) : (Instr.lookup t (.map none) (.int .i32 k) false).run P w = .ok z w := by
  have hK : MapKept.IsKey (.int .i32) (.int .i32 k) := rfl
  have q1' : Instr.findNow (.int .i32) (.int .i32 k) [] 0 = some none := rfl
  simp [Instr.lookup, run_underlying hm, MapKept.run_checkKey hk hK, MapKept.run_findKey hk q1', Result.andThen, hz]
/-- A new key is laid behind the others. -/
theorem run_update_ents {P : Program} {t kt et : TypeId} {w : World} {B : Nat} {l : List (Int × Value)} (hm : P.underlying t = some (.map kt et)) (hk : P.underlying kt = some (.int .i32))
    (h : Ents w B l) (k : Int) (v : Value) (hnew : ∀ x ∈ l, x.1 ≠ k) : ∃ w', (Instr.mapUpdate t (.map (some B)) (.int .i32 k) v).run P w = .ok () w' ∧ Ents w' B (l ++ [(k, v)]) ∧ w.grownBy w' (some B) ∧ w'.heap.size = w.heap.size := by
  obtain ⟨es, cl, hb, he⟩ := h
  obtain ⟨o, q1, _, q3⟩ := findNow_list k es.toList l 0 he
  obtain rfl := q3.2 hnew
  refine ⟨w.putObj B (.map (es.push { key := i32 k, val := v, born := cl }) (cl + 1)), ?_, ⟨_, _, World.putObj_heap_same (Array.getElem?_eq_some_iff.1 hb).1, by simp [he]⟩, ?_, by simp [World.putObj]⟩
  · have hK' : MapKept.IsKey (.int .i32) (.int .i32 k) := rfl
    have q1' : Instr.findNow (.int .i32) (.int .i32 k) es.toList 0 = some none := q1
    simp [Instr.mapUpdate, run_underlying hm, MapKept.run_getObj_map hb, MapKept.run_checkKey hk hK', MapKept.run_findKey hk q1', MapKept.run_setObj_map _ hb, Result.andThen, i32, World.putObj]
  · refine ⟨rfl, rfl, rfl, by simp [World.putObj], fun i hi hne => ?_⟩
    have hBi : B ≠ i := fun e => hne (by rw [e])
    simp [World.putObj, hBi]
theorem run_len_ents {P : Program} {t kt et : TypeId} {w : World} {B : Nat} {l : List (Int × Value)} (hm : P.underlying t = some (.map kt et)) (h : Ents w B l) (ty : TypeId) : (Builtin.len_ #[t] ty #[.map (some B)]).run P w = .ok (.int .i64 (l.length : Int)) w := by
  obtain ⟨es, cl, hb, he⟩ := h
  have hl : es.size = l.length := by have := congrArg List.length he; simpa using this
  rw [← hl]
  simp [Builtin.len_, run_underlying hm, MapKept.run_getObj_map hb, Result.andThen, go_sem]
end Go.Proofs.Ytnnijcafnhhnoaa
