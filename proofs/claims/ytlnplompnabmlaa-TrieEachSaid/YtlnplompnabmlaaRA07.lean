/-
  LAYER 9 (trie): maps keyed by code points; the tree of nodes in memory.
-/
import Derived.Test.YtlnplompnabmlaaRA06
import Derived.MapKept
import Derived.Maps.OwnSet
import Derived.Maps.RangeWalk
import Derived.Sort.MapsRangeIn
import Derived.LoopTactic
namespace Go.Proofs.Ytlnplompnabmlaa
set_option maxRecDepth 100000
open Go.RowKit Go.Lib

def i32 (x : Int) : Value := .int .i32 x
/-! ### Maps keyed by runes -/
/-- Block B is a map whose entries are these, in this order. -/
def Ents (w : World) (B : Nat) (l : List (Int × Value)) : Prop :=
  ∃ es clock, w.heap[B]? = some (.map es clock) ∧ es.toList.map (fun e => (e.key, e.val)) = l.map (fun x => (i32 x.1, x.2)) ∧ (∀ x ∈ es.toList, x.born < clock) ∧ (es.toList.map (·.born)).Nodup
theorem Ents.heap {w w' : World} {B : Nat} {l : List (Int × Value)} (h : Ents w B l) (hb : w'.heap[B]? = w.heap[B]?) : Ents w' B l := by
  obtain ⟨es, cl, hb', he⟩ := h
  exact ⟨es, cl, hb.trans hb', he⟩
theorem Ents.lt {w : World} {B : Nat} {l : List (Int × Value)} (h : Ents w B l) : B < w.heap.size := by
  obtain ⟨es, cl, hb, he⟩ := h
  exact (Array.getElem?_eq_some_iff.1 hb).1
theorem Ents.made (w : World) : Ents (w.alloc (.map #[] 0)) w.heap.size [] := ⟨#[], 0, World.alloc_heap_new w _, rfl, by simp, by simp⟩

def look (l : List (Int × Value)) (k : Int) : Option Value := (l.find? fun x => decide (x.1 = k)).map (·.2)
theorem look_cons (x : Int × Value) (l : List (Int × Value)) (k : Int) : look (x :: l) k = if x.1 = k then some x.2 else look l k := by
  unfold look
  by_cases hk : x.1 = k
  · rw [List.find?_cons_of_pos (by simpa using hk), if_pos hk]; rfl
  · rw [List.find?_cons_of_neg (by simpa using hk), if_neg hk]
theorem same_i32 (a b : Int) : Instr.sameNow (.int .i32) (i32 a) (i32 b) = some (decide (b = a)) := by
  have h : Instr.sameNow (.int .i32) (i32 a) (i32 b) = some (a == b) := rfl
  rw [h, Option.some.injEq]
  by_cases e : b = a
  · subst e; simp
  · rw [decide_eq_false e]; exact beq_eq_false_iff_ne.2 (fun h => e h.symm)
theorem findNow_list (k : Int) : ∀ (es : List MapEntry) (l : List (Int × Value)) (i : Nat), es.map (fun e => (e.key, e.val)) = l.map (fun x => (i32 x.1, x.2)) →
    ∃ o, Instr.findNow (.int .i32) (i32 k) es i = some o ∧ o.map (·.2) = look l k ∧ (o = none ↔ ∀ x ∈ l, x.1 ≠ k)
  | [], [], _, _ => ⟨none, rfl, rfl, by simp⟩
  | [], _ :: _, _, h => by cases h
  | _ :: _, [], _, h => by cases h
  | e :: es, x :: l, i, h => by
    rw [List.map_cons, List.map_cons, List.cons.injEq, Prod.mk.injEq] at h
    obtain ⟨⟨h1, h2⟩, h3⟩ := h
    have hs := same_i32 k x.1
    rw [← h1] at hs
    rw [look_cons]
    by_cases hk : x.1 = k
    · rw [decide_eq_true hk] at hs
      refine ⟨some (i, e.val), ?_, ?_, ?_⟩
      · rw [Instr.findNow, hs]
      · rw [if_pos hk, ← h2]; rfl
      · simp [hk]
    · rw [decide_eq_false hk] at hs
      obtain ⟨o, q1, q2, q3⟩ := findNow_list k es l (i + 1) h3
      refine ⟨o, ?_, ?_, ?_⟩
      · rw [Instr.findNow, hs]; exact q1
      · rw [if_neg hk]; exact q2
      · rw [q3]; simp [hk]
/-- A map is asked for a key. -/
theorem run_lookup_ents {P : Program} {t kt et : TypeId} {w : World} {B : Nat} {l : List (Int × Value)} {z : Value} (hm : P.underlying t = some (.map kt et)) (hk : P.underlying kt = some (.int .i32)) (hz : ∀ w, (zeroValue et).run P w = .ok z w)
    (h : Ents w B l) (k : Int) : (Instr.lookup t (.map (some B)) (.int .i32 k) false).run P w = .ok ((look l k).getD z) w := by
  obtain ⟨es, cl, hb, he, hc, hn⟩ := h
  obtain ⟨o, q1, q2, _⟩ := findNow_list k es.toList l 0 he
  have hK : MapKept.IsKey (.int .i32) (.int .i32 k) := rfl
  have q1' : Instr.findNow (.int .i32) (.int .i32 k) es.toList 0 = some o := q1
  rw [← q2]
  cases o with
  | none => simp [Instr.lookup, run_underlying hm, MapKept.run_getObj_map hb, MapKept.run_checkKey hk hK, MapKept.run_findKey hk q1', Result.andThen, hz]
  | some x => simp [Instr.lookup, run_underlying hm, MapKept.run_getObj_map hb, MapKept.run_checkKey hk hK, MapKept.run_findKey hk q1', Result.andThen]
theorem run_lookup_nil {P : Program} {t kt et : TypeId} {w : World} {z : Value} (hm : P.underlying t = some (.map kt et)) (hk : P.underlying kt = some (.int .i32)) (hz : ∀ w, (zeroValue et).run P w = .ok z w)
    (k : Int) : (Instr.lookup t (.map none) (.int .i32 k) false).run P w = .ok z w := by
  have hK : MapKept.IsKey (.int .i32) (.int .i32 k) := rfl
  have q1' : Instr.findNow (.int .i32) (.int .i32 k) [] 0 = some none := rfl
  simp [Instr.lookup, run_underlying hm, MapKept.run_checkKey hk hK, MapKept.run_findKey hk q1', Result.andThen, hz]
/-- A new key is laid behind the others. -/
theorem run_update_ents {P : Program} {t kt et : TypeId} {w : World} {B : Nat} {l : List (Int × Value)} (hm : P.underlying t = some (.map kt et)) (hk : P.underlying kt = some (.int .i32))
    (h : Ents w B l) (k : Int) (v : Value) (hnew : ∀ x ∈ l, x.1 ≠ k) : ∃ w', (Instr.mapUpdate t (.map (some B)) (.int .i32 k) v).run P w = .ok () w' ∧ Ents w' B (l ++ [(k, v)]) ∧ w.grownBy w' (some B) ∧ w'.heap.size = w.heap.size := by
  obtain ⟨es, cl, hb, he, hc, hn⟩ := h
  obtain ⟨o, q1, _, q3⟩ := findNow_list k es.toList l 0 he
  obtain rfl := q3.2 hnew
  refine ⟨w.putObj B (.map (es.push { key := i32 k, val := v, born := cl }) (cl + 1)), ?_, ⟨_, _, World.putObj_heap_same (Array.getElem?_eq_some_iff.1 hb).1, by simp [he], fun x hx => by
      rcases (by simpa using hx : x ∈ es ∨ x = { key := i32 k, val := v, born := cl }) with h | h
      · exact Nat.lt_succ_of_lt (hc x (by simpa using h))
      · rw [h]; exact Nat.lt_succ_self cl, by
      rw [Array.toList_push, List.map_append, List.nodup_append]
      refine ⟨hn, by simp, fun a ha b hb' => ?_⟩
      obtain ⟨x, hx, rfl⟩ := List.mem_map.1 ha
      have := hc x hx
      simp at hb'
      omega⟩, ?_, by simp [World.putObj]⟩
  · have hK' : MapKept.IsKey (.int .i32) (.int .i32 k) := rfl
    have q1' : Instr.findNow (.int .i32) (.int .i32 k) es.toList 0 = some none := q1
    simp [Instr.mapUpdate, run_underlying hm, MapKept.run_getObj_map hb, MapKept.run_checkKey hk hK', MapKept.run_findKey hk q1', MapKept.run_setObj_map _ hb, Result.andThen, i32, World.putObj]
  · refine ⟨rfl, rfl, rfl, by simp [World.putObj], fun i hi hne => ?_⟩
    have hBi : B ≠ i := fun e => hne (by rw [e])
    simp [World.putObj, hBi]
theorem run_len_ents {P : Program} {t kt et : TypeId} {w : World} {B : Nat} {l : List (Int × Value)} (hm : P.underlying t = some (.map kt et)) (h : Ents w B l) (ty : TypeId) : (Builtin.len_ #[t] ty #[.map (some B)]).run P w = .ok (.int .i64 (l.length : Int)) w := by
  obtain ⟨es, cl, hb, he, hc, hn⟩ := h
  have hl : es.size = l.length := by have := congrArg List.length he; simpa using this
  rw [← hl]
  simp [Builtin.len_, run_underlying hm, MapKept.run_getObj_map hb, Result.andThen, go_sem]
end Go.Proofs.Ytlnplompnabmlaa

/-
  LAYER 9 (trie): a range over a map keyed by runes, under way: what was told so far.
-/
namespace Go.Proofs.Ytlnplompnabmlaa
set_option maxRecDepth 100000
open Go.RowKit Go.Lib
open Go.ChangeMaps (setBlock)

def RK (w : World) (b r : Nat) (l : List (Int × Value)) (ss : List Int) : Prop :=
  ∃ es clock since seen c0, w.heap[b]? = some (.map es clock) ∧ es.toList.map (fun e => (e.key, e.val)) = l.map (fun x => (i32 x.1, x.2)) ∧ (es.toList.map (·.born)).Nodup ∧
    w.heap[r]? = some (.mapIter (some b) since seen c0) ∧ (∀ x ∈ es.toList, x.born < since) ∧ since ≤ c0 ∧ since ≤ clock ∧
    ((es.toList.filter (fun e => seen.contains e.born)).map (·.key)).Perm (ss.map i32)

theorem filter_push {seen : Array Nat} {e : MapEntry} (hs : seen.contains e.born = false) : ∀ es : List MapEntry, (es.map (·.born)).Nodup → e ∈ es →
    ((es.filter (fun x => (seen.push e.born).contains x.born)).map (·.key)).Perm ((es.filter (fun x => seen.contains x.born)).map (·.key) ++ [e.key])
  | [], _, h => by cases h
  | y :: es, hn, h => by
    rw [List.map_cons, List.nodup_cons] at hn
    by_cases hy : y.born = e.born
    · have hye : y = e := by
        rcases List.mem_cons.1 h with h | h
        · exact h.symm
        · exact absurd (hy ▸ List.mem_map.2 ⟨e, h, rfl⟩) hn.1
      subst hye
      have ht : es.filter (fun x => (seen.push y.born).contains x.born) = es.filter (fun x => seen.contains x.born) := List.filter_congr (fun x hx => by
        have : x.born ≠ y.born := fun e => hn.1 (e ▸ List.mem_map.2 ⟨x, hx, rfl⟩)
        rw [contains_push]
        simp [this])
      rw [List.filter_cons_of_pos (by rw [contains_push]; simp), List.filter_cons_of_neg (by rw [hs]; simp), ht, List.map_cons]
      exact (List.perm_append_singleton _ _).symm
    · have he : e ∈ es := (List.mem_cons.1 h).resolve_left (fun h => hy (by rw [h]))
      have ih := filter_push hs es hn.2 he
      have hc : (seen.push e.born).contains y.born = seen.contains y.born := by rw [contains_push]; simp [hy]
      cases hsy : seen.contains y.born
      · rw [List.filter_cons_of_neg (by rw [hc, hsy]; simp), List.filter_cons_of_neg (by rw [hsy]; simp)]
        exact ih
      · have e1 : (y :: es).filter (fun x => seen.contains x.born) = y :: es.filter (fun x => seen.contains x.born) := List.filter_cons_of_pos hsy
        rw [List.filter_cons_of_pos (by rw [hc, hsy]), e1, List.map_cons, List.map_cons, List.cons_append]
        exact ih.cons _

theorem RK.lt {w : World} {b r : Nat} {l : List (Int × Value)} {ss : List Int} (h : RK w b r l ss) : b < w.heap.size ∧ r < w.heap.size ∧ r ≠ b := by
  obtain ⟨es, clock, since, seen, c0, hb, he, hn, hr, _⟩ := h
  exact ⟨(Array.getElem?_eq_some_iff.1 hb).1, (Array.getElem?_eq_some_iff.1 hr).1, fun e => by rw [e, hb] at hr; cases hr⟩
theorem RK.heap {w w' : World} {b r : Nat} {l : List (Int × Value)} {ss : List Int} (h : RK w b r l ss) (h1 : w'.heap[b]? = w.heap[b]?) (h2 : w'.heap[r]? = w.heap[r]?) : RK w' b r l ss ∧ w'.rangeLeft b r = w.rangeLeft b r := by
  obtain ⟨es, clock, since, seen, c0, hb, he, hn, hr, rest⟩ := h
  exact ⟨⟨es, clock, since, seen, c0, h1.trans hb, he, hn, h2.trans hr, rest⟩, by unfold World.rangeLeft; rw [h1, h2]⟩

theorem Ents.ranged {P : Program} {t kt et : TypeId} {w : World} {b : Nat} {l : List (Int × Value)} (ht : P.underlying t = some (.map kt et)) (h : Ents w b l) :
    ∃ w', (Instr.range t (.map (some b))).run P w = .ok (.pointer (some ⟨w.heap.size, 0, none⟩)) w' ∧ RK w' b w.heap.size l [] ∧ w.grownBy w' none ∧ w'.heap.size = w.heap.size + 1 := by
  have hlt := h.lt
  obtain ⟨es, cl, hb, he, hc, hn⟩ := h
  refine ⟨_, run_range_map w t kt et b es cl ht hb, ⟨es, cl, cl, #[], cl, ((MapKept.heap_alloc w _).2 b hlt).trans hb, he, hn, (MapKept.heap_alloc w _).1, hc, Nat.le_refl _, Nat.le_refl _, ?_⟩, World.grownBy_alloc w _ none, by simp⟩
  simp

def keyInt : Value → Int | .int _ q => q | _ => 0
theorem keys_back (l : List Int) : (l.map i32).map keyInt = l := by
  rw [List.map_map]
  exact (List.map_congr_left (fun x _ => rfl)).trans (List.map_id l)

theorem RK.next {P : Program} {w : World} {b r : Nat} {l : List (Int × Value)} {ss : List Int} (h : RK w b r l ss) (ty : TypeId) :
    (ss.Perm (l.map (·.1)) ∧ (Instr.next (.pointer (some ⟨r, 0, none⟩)) false ty).run P w = .ok (.tuple #[.bool false]) w) ∨
    ∃ x v w', ss.length < l.length ∧ (Instr.next (.pointer (some ⟨r, 0, none⟩)) false ty).run P w = .ok (.tuple #[.bool true, i32 x, v]) w' ∧ RK w' b r l (ss ++ [x]) ∧ w'.rangeLeft b r < w.rangeLeft b r ∧
      w.grownBy w' (some r) ∧ w'.heap.size = w.heap.size ∧ (Instr.entry (.pointer (some ⟨r, 0, none⟩))).run P w' = .ok (.tuple #[i32 x, v]) w' := by
  obtain ⟨_, _, hne⟩ := h.lt
  obtain ⟨es, clock, since, seen, c0, hb, he, hn, hr, hold, hsc, hsk, hp⟩ := h
  have hlen : es.toList.length = l.length := by have := congrArg List.length he; simpa using this
  have hkeys : es.toList.map (·.key) = (l.map (·.1)).map i32 := by
    have := congrArg (List.map Prod.fst) he
    simpa [List.map_map, Function.comp_def] using this
  rcases run_next_at (P := P) w ty r b since c0 seen es clock hr hb hold hsc with ⟨h0, hrun⟩ | ⟨e, hel, w1, hal, hrun⟩
  · refine .inl ⟨?_, hrun⟩
    rw [List.filter_eq_self.2 (all_seen es seen h0), hkeys] at hp
    have := hp.map keyInt
    rw [keys_back, keys_back] at this
    exact this.symm
  · obtain ⟨hem, hes⟩ := mem_left hel
    obtain ⟨y, hy, hye⟩ := List.mem_map.1 (he ▸ List.mem_map.2 ⟨e, hem, rfl⟩ : (e.key, e.val) ∈ l.map (fun x => (i32 x.1, x.2)))
    have hk : e.key = i32 y.1 := by have := congrArg Prod.fst hye; exact this.symm
    have hr1 : w1.heap[r]? = some (.mapIter (some b) since seen c0) := by rcases hal with rfl | rfl <;> exact hr
    have hb1 : w1.heap[b]? = some (.map es clock) := by rcases hal with rfl | rfl <;> exact hb
    have hset := MapKept.heap_set (o' := .mapIter (some b) since (seen.push e.born) clock) hr1
    have hb' : (setBlock w1 r (.mapIter (some b) since (seen.push e.born) clock)).heap[b]? = some (.map es clock) := (hset.2 b (fun e1 => hne e1.symm)).trans hb1
    have hp2 : ((es.toList.filter (fun x => (seen.push e.born).contains x.born)).map (·.key)).Perm ((ss ++ [y.1]).map i32) := by
      rw [List.map_append, List.map_cons, List.map_nil, ← hk]
      exact (filter_push hes es.toList hn hem).trans (hp.append_right _)
    have hl2 := hp2.length_eq
    have hl3 := List.length_filter_le (fun x : MapEntry => (seen.push e.born).contains x.born) es.toList
    simp only [List.length_map, List.length_append, List.length_cons, List.length_nil] at hl2
    have hent := run_entry_at (P := P) _ r b since seen es clock e hset.1 hb' hem hn
    rw [hk] at hrun hent
    refine .inr ⟨y.1, e.val, _, by omega, hrun, ⟨es, clock, since, seen.push e.born, clock, hb', he, hn, hset.1, hold, hsk, hsk, hp2⟩, ?_, ?_, ?_, hent⟩
    · have e1 : w.rangeLeft b r = (leftOf es seen).size := by unfold World.rangeLeft; rw [hb, hr]
      have e2 : (setBlock w1 r (.mapIter (some b) since (seen.push e.born) clock)).rangeLeft b r = (leftOf es (seen.push e.born)).size := by
        have h1 : (setBlock w1 r (.mapIter (some b) since (seen.push e.born) clock)).heap[r]? = some (.mapIter (some b) since (seen.push e.born) clock) := hset.1
        unfold World.rangeLeft
        rw [hb', h1]
      rw [e1, e2]
      exact left_shrinks es seen e hel
    · rcases hal with rfl | rfl <;> exact ⟨rfl, rfl, rfl, by simp [setBlock], fun i _ hi => hset.2 i (fun e1 => hi (by rw [e1]))⟩
    · rcases hal with rfl | rfl <;> simp [setBlock]
end Go.Proofs.Ytlnplompnabmlaa

/-
  LAYER 9 (trie): the tree of nodes in memory, by paths.
-/
namespace Go.Proofs.Ytlnplompnabmlaa
set_option maxRecDepth 100000
open Go.RowKit Go.Lib

def ptrV : Option Nat → Value
  | none => .pointer none
  | some b => .pointer (some ⟨b, 0, none⟩)
abbrev Kl := List (Int × Nat)
def klV (l : Kl) : List (Int × Value) := l.map fun x => (x.1, .pointer (some ⟨x.2, 0, none⟩))
def upd {α : Type} (f : List Int → α) (p : List Int) (v : α) : List Int → α := fun q => if q = p then v else f q
theorem upd_same {α : Type} (f : List Int → α) (p : List Int) (v : α) : upd f p v p = v := by simp [upd]
theorem upd_other {α : Type} {f : List Int → α} {p q : List Int} {v : α} (h : q ≠ p) : upd f p v q = f q := by simp [upd, h]

theorem look_kl : ∀ (kl : Kl) (r : Int) (o : Option Nat), (kl.map (·.1)).Nodup → (∀ b, (r, b) ∈ kl ↔ o = some b) → (look (klV kl) r).getD (.pointer none) = ptrV o
  | [], r, o, _, h => by
    cases o with
    | none => rfl
    | some b => have := (h b).2 rfl; simp at this
  | x :: kl, r, o, hn, h => by
    have e : klV (x :: kl) = (x.1, .pointer (some ⟨x.2, 0, none⟩)) :: klV kl := rfl
    rw [e, look_cons]
    rw [List.map_cons, List.nodup_cons] at hn
    by_cases hx : x.1 = r
    · rw [if_pos hx]
      have : o = some x.2 := (h x.2).1 (by rw [← hx]; simp)
      rw [this]
      rfl
    · rw [if_neg hx]
      refine look_kl kl r o hn.2 (fun b => ?_)
      rw [← h b]
      constructor
      · intro q; exact List.mem_cons_of_mem _ q
      · intro q
        rcases List.mem_cons.1 q with q | q
        · exact absurd (by rw [← q]) hx
        · exact q

/-- The tree in memory: nd: the node that a path leads to; mp: its map; nm: its number. -/
structure TreeM (Q : Nat → Prop) (w : World) (nd mp : List Int → Option Nat) (nm : List Int → Int) : Prop where
  node : ∀ p b, nd p = some b → Q b ∧ NodeAt w b (nm p) (mp p)
  inj : ∀ p q b, nd p = some b → nd q = some b → p = q
  nokid : ∀ p, mp p = none → ∀ r, nd (p ++ [r]) = none
  kids : ∀ p m, mp p = some m → Q m ∧ ∃ kl : Kl, Ents w m (klV kl) ∧ (kl.map (·.1)).Nodup ∧ ∀ r b, (r, b) ∈ kl ↔ nd (p ++ [r]) = some b
  minj : ∀ p q m, mp p = some m → mp q = some m → p = q
  up : ∀ p, nd p = none → mp p = none
  unn : ∀ p, nd p = none → nm p = -1

section
variable {Q : Nat → Prop} {w w' : World} {nd mp : List Int → Option Nat} {nm : List Int → Int}
theorem TreeM.lookup (h : TreeM Q w nd mp nm) (p : List Int) (r : Int) : (Instr.lookup 78 (.map (mp p)) (.int .i32 r) false).run Try.prog w = .ok (ptrV (nd (p ++ [r]))) w := by
  cases hm : mp p with
  | none =>
    rw [h.nokid p hm r]
    exact run_lookup_nil (z := .pointer none) Try.underlying78 Try.underlying21 (fun w => by kernel_rfl) r
  | some m =>
    obtain ⟨_, kl, h1, h2, h3⟩ := h.kids p m hm
    rw [run_lookup_ents (z := .pointer none) Try.underlying78 Try.underlying21 (fun w => by kernel_rfl) h1 r, look_kl kl r _ h2 (fun b => h3 r b)]
/-- The blocks of a tree. -/
def InT (nd mp : List Int → Option Nat) (k : Nat) : Prop := ∃ p, nd p = some k ∨ mp p = some k
theorem TreeM.heap (h : TreeM Q w nd mp nm) (hk : ∀ k, InT nd mp k → w'.heap[k]? = w.heap[k]?) : TreeM Q w' nd mp nm :=
  { node := fun p b e => ⟨(h.node p b e).1, (hk b ⟨p, .inl e⟩).trans (h.node p b e).2⟩
    inj := h.inj
    nokid := h.nokid
    kids := fun p m e => by
      obtain ⟨h0, kl, h1, h2, h3⟩ := h.kids p m e
      exact ⟨h0, kl, h1.heap (hk m ⟨p, .inr e⟩), h2, h3⟩
    minj := h.minj
    up := h.up
    unn := h.unn }
theorem TreeM.lt (h : TreeM Q w nd mp nm) {k : Nat} (hk : InT nd mp k) : k < w.heap.size := by
  obtain ⟨p, e | e⟩ := hk
  · exact (h.node p k e).2.lt
  · obtain ⟨_, kl, h1, _⟩ := h.kids p k e
    exact h1.lt
theorem TreeM.q (h : TreeM Q w nd mp nm) {k : Nat} (hk : InT nd mp k) : Q k := by
  obtain ⟨p, e | e⟩ := hk
  · exact (h.node p k e).1
  · exact (h.kids p k e).1
theorem TreeM.new (h : TreeM Q w nd mp nm) (hg : w.grownBy w' none) : TreeM Q w' nd mp nm := h.heap fun k hk => hg.block k (h.lt hk) (by simp)
/-- What is no node and no map lies elsewhere. -/
theorem TreeM.cells (h : TreeM Q w nd mp nm) {k : Nat} {cs : Array Value} {e : TypeId} {z : Nat × Nat} (hb : w.heap[k]? = some (.cells cs e z)) (he : e ≠ 80) : ¬ InT nd mp k := by
  rintro ⟨p, q | q⟩
  · have := (h.node p k q).2
    unfold NodeAt at this
    rw [hb] at this
    simp at this
    exact he this.2.1
  · obtain ⟨_, kl, ⟨es, c, h1, _⟩, _⟩ := h.kids p k q
    rw [hb] at h1
    cases h1
/-- A node is numbered. -/
theorem TreeM.number (h : TreeM Q w nd mp nm) {p : List Int} {b : Nat} (hp : nd p = some b) (x : Int) : TreeM Q (w.setCell ⟨b, 0, none⟩ (.int .i64 x)) nd mp (upd nm p x) := by
  have hN := (h.node p b hp).2
  have hoth : ∀ k, k ≠ b → (w.setCell ⟨b, 0, none⟩ (.int .i64 x)).heap[k]? = w.heap[k]? := fun k hk => Below.heap_setCell _ _ _ _ (fun e => hk (by simpa using e))
  exact {
    node := fun q c e => by
      by_cases hq : q = p
      · subst hq
        obtain rfl : b = c := by rw [hp] at e; cases e; rfl
        rw [upd_same]
        exact ⟨(h.node q b hp).1, hN.s0 x⟩
      · rw [upd_other hq]
        refine ⟨(h.node q c e).1, ?_⟩
        have hc : c ≠ b := fun e2 => hq (h.inj q p b (by rw [← e2]; exact e) hp)
        exact (hoth c hc).trans (h.node q c e).2
    inj := h.inj
    nokid := h.nokid
    kids := fun q m e => by
      obtain ⟨h0, kl, h1, h2, h3⟩ := h.kids q m e
      refine ⟨h0, kl, h1.heap (hoth m (fun e2 => ?_)), h2, h3⟩
      obtain ⟨es, c, hb, _⟩ := h1
      rw [e2, show w.heap[b]? = _ from hN] at hb
      cases hb
    minj := h.minj
    up := h.up
    unn := fun q e => by
      have hq : q ≠ p := fun e2 => by rw [e2, hp] at e; cases e
      rw [upd_other hq]
      exact h.unn q e }
/-- A node gets an empty map, in a new block. -/
theorem TreeM.addMap (h : TreeM Q w nd mp nm) {p : List Int} {b : Nat} (hp : nd p = some b) (hm : mp p = none) (hq : Q w.heap.size) :
    TreeM Q ((w.alloc (.map #[] 0)).setCell ⟨b, 1, none⟩ (.map (some w.heap.size))) nd (upd mp p (some w.heap.size)) nm := by
  have hN := (h.node p b hp).2
  have hbl := hN.lt
  have g1 := World.grownBy_alloc w (.map #[] 0) none
  have hN1 : NodeAt (w.alloc (.map #[] 0)) b (nm p) (mp p) := (g1.block b hbl (by simp)).trans hN
  have hM1 := Ents.made w
  have hoth1 : ∀ k, k ≠ b → ((w.alloc (.map #[] 0)).setCell ⟨b, 1, none⟩ (.map (some w.heap.size))).heap[k]? = (w.alloc (.map #[] 0)).heap[k]? := fun k hk => Below.heap_setCell _ _ _ _ (fun e => hk (by simpa using e))
  have hoth : ∀ k, k ≠ b → k < w.heap.size → ((w.alloc (.map #[] 0)).setCell ⟨b, 1, none⟩ (.map (some w.heap.size))).heap[k]? = w.heap[k]? := fun k hk hl => (hoth1 k hk).trans (g1.block k hl (by simp))
  exact {
    node := fun q c e => by
      by_cases hqp : q = p
      · subst hqp
        obtain rfl : b = c := by rw [hp] at e; cases e; rfl
        rw [upd_same]
        exact ⟨(h.node q b hp).1, hN1.s1 _⟩
      · rw [upd_other hqp]
        refine ⟨(h.node q c e).1, ?_⟩
        have hc : c ≠ b := fun e2 => hqp (h.inj q p b (by rw [← e2]; exact e) hp)
        exact (hoth c hc (h.node q c e).2.lt).trans (h.node q c e).2
    inj := h.inj
    nokid := fun q e r => by
      by_cases hqp : q = p
      · subst hqp; rw [upd_same] at e; cases e
      · rw [upd_other hqp] at e; exact h.nokid q e r
    kids := fun q m e => by
      by_cases hqp : q = p
      · subst hqp
        rw [upd_same] at e
        obtain rfl : w.heap.size = m := by cases e; rfl
        refine ⟨hq, [], hM1.heap (hoth1 _ (by omega)), List.nodup_nil, fun r c => ?_⟩
        rw [h.nokid q hm r]
        simp
      · rw [upd_other hqp] at e
        obtain ⟨h0, kl, h1, h2, h3⟩ := h.kids q m e
        refine ⟨h0, kl, h1.heap (hoth m (fun e2 => ?_) h1.lt), h2, h3⟩
        obtain ⟨es, c, hb, _⟩ := h1
        rw [e2, show w.heap[b]? = _ from hN] at hb
        cases hb
    minj := fun q r m e1 e2 => by
      by_cases hqp : q = p
      · by_cases hrp : r = p
        · rw [hqp, hrp]
        · rw [hqp, upd_same] at e1
          rw [upd_other hrp] at e2
          obtain rfl : w.heap.size = m := by cases e1; rfl
          have := h.lt (k := w.heap.size) ⟨r, .inr e2⟩
          omega
      · rw [upd_other hqp] at e1
        by_cases hrp : r = p
        · rw [hrp, upd_same] at e2
          obtain rfl : w.heap.size = m := by cases e2; rfl
          have := h.lt (k := w.heap.size) ⟨q, .inr e1⟩
          omega
        · rw [upd_other hrp] at e2
          exact h.minj q r m e1 e2
    up := fun q e => by
      have hqp : q ≠ p := fun e2 => by rw [e2, hp] at e; cases e
      rw [upd_other hqp]
      exact h.up q e
    unn := h.unn }
/-- A new node, as a kid of one that has a map. -/
theorem TreeM.addKid (h : TreeM Q w nd mp nm) {p : List Int} {b m : Nat} {r : Int} (hp : nd p = some b) (hm : mp p = some m) (hr : nd (p ++ [r]) = none) {c : Nat} {W : World} (hg : w.grownBy W none) (hc : w.heap.size ≤ c) (hN : NodeAt W c (-1) none) (hq : Q c) :
    ∃ W', (Instr.mapUpdate 78 (.map (some m)) (.int .i32 r) (.pointer (some ⟨c, 0, none⟩))).run Try.prog W = .ok () W' ∧ TreeM Q W' (upd nd (p ++ [r]) (some c)) mp nm ∧ W.grownBy W' (some m) := by
  have hT := h.new hg
  obtain ⟨q0, kl, q1, q2, q3⟩ := hT.kids p m hm
  have hnew : ∀ x ∈ klV kl, x.1 ≠ r := by
    intro x hx e
    obtain ⟨y, hy, rfl⟩ := List.mem_map.1 hx
    have := (q3 y.1 y.2).1 hy
    dsimp only at e
    rw [e, hr] at this
    cases this
  obtain ⟨W', hrun, h5, h6, _⟩ := run_update_ents (P := Try.prog) Try.underlying78 Try.underlying21 q1 r (.pointer (some ⟨c, 0, none⟩)) hnew
  have hoth : ∀ k, k < W.heap.size → k ≠ m → W'.heap[k]? = W.heap[k]? := fun k hk hne => h6.block k hk (fun e => hne (by cases e; rfl))
  have hcm : c ≠ m := fun e => by
    obtain ⟨es, cl, hb, _⟩ := q1
    rw [← e, show W.heap[c]? = _ from hN] at hb
    cases hb
  have hcl : ∀ k, InT nd mp k → k < w.heap.size := fun k hk => h.lt hk
  refine ⟨W', hrun, ?_, h6⟩
  have hnm : ∀ q d, nd q = some d → d ≠ m := fun q d e e2 => by
    obtain ⟨es, cl, hb, _⟩ := q1
    rw [← e2, show W.heap[d]? = _ from (hT.node q d e).2] at hb
    cases hb
  exact {
    node := fun q d e => by
      by_cases hqp : q = p ++ [r]
      · subst hqp
        rw [upd_same] at e
        obtain rfl : c = d := by cases e; rfl
        rw [h.unn _ hr, h.up _ hr]
        exact ⟨hq, (hoth c hN.lt hcm).trans hN⟩
      · rw [upd_other hqp] at e
        have := hT.node q d e
        exact ⟨this.1, (hoth d this.2.lt (hnm q d e)).trans this.2⟩
    inj := fun q s d e1 e2 => by
      by_cases hqp : q = p ++ [r]
      · by_cases hsp : s = p ++ [r]
        · rw [hqp, hsp]
        · rw [hqp, upd_same] at e1
          rw [upd_other hsp] at e2
          obtain rfl : c = d := by cases e1; rfl
          have := hcl c ⟨s, .inl e2⟩
          omega
      · rw [upd_other hqp] at e1
        by_cases hsp : s = p ++ [r]
        · rw [hsp, upd_same] at e2
          obtain rfl : c = d := by cases e2; rfl
          have := hcl c ⟨q, .inl e1⟩
          omega
        · rw [upd_other hsp] at e2
          exact h.inj q s d e1 e2
    nokid := fun q e s => by
      have hne : q ++ [s] ≠ p ++ [r] := fun e2 => by
        have := List.append_inj' e2 rfl
        rw [this.1, hm] at e
        cases e
      rw [upd_other hne]
      exact h.nokid q e s
    kids := fun q k e => by
      by_cases hqp : q = p
      · subst hqp
        obtain rfl : m = k := by rw [hm] at e; cases e; rfl
        refine ⟨q0, kl ++ [(r, c)], ?_, ?_, fun s d => ?_⟩
        · have : klV (kl ++ [(r, c)]) = klV kl ++ [(r, .pointer (some ⟨c, 0, none⟩))] := by simp [klV]
          rw [this]
          exact h5
        · rw [List.map_append, List.nodup_append]
          refine ⟨q2, by simp, fun a ha d hd e => ?_⟩
          simp at hd
          subst hd
          subst e
          obtain ⟨x, hx, rfl⟩ := List.mem_map.1 ha
          have := (q3 x.1 x.2).1 hx
          rw [hr] at this
          cases this
        · rw [List.mem_append]
          by_cases hs : s = r
          · subst hs
            rw [upd_same]
            constructor
            · rintro (hh | hh)
              · have := (q3 s d).1 hh
                rw [hr] at this
                cases this
              · simp at hh
                rw [hh]
            · intro hh
              cases hh
              right
              simp
          · have hne : q ++ [s] ≠ q ++ [r] := fun e2 => hs (by simpa using e2)
            rw [upd_other hne, ← q3 s d]
            constructor
            · rintro (hh | hh)
              · exact hh
              · simp at hh
                exact absurd hh.1 hs
            · exact .inl
      · obtain ⟨h0, kl2, h1, h2, h3⟩ := hT.kids q k e
        have hkm : k ≠ m := fun e2 => hqp (h.minj q p m (by rw [← e2]; exact e) hm)
        refine ⟨h0, kl2, h1.heap (hoth k h1.lt hkm), h2, fun s d => ?_⟩
        have hne : q ++ [s] ≠ p ++ [r] := fun e2 => hqp (List.append_inj' e2 rfl).1
        rw [upd_other hne]
        exact h3 s d
    minj := h.minj
    up := fun q e => by
      by_cases hqp : q = p ++ [r]
      · subst hqp; rw [upd_same] at e; cases e
      · rw [upd_other hqp] at e; exact h.up q e
    unn := fun q e => by
      by_cases hqp : q = p ++ [r]
      · subst hqp; rw [upd_same] at e; cases e
      · rw [upd_other hqp] at e; exact h.unn q e }
end
end Go.Proofs.Ytlnplompnabmlaa

/-
  LAYER 9 (trie): grow: the node that code points lead to, made if there was none.
-/
namespace Go.Proofs.Ytlnplompnabmlaa
set_option maxRecDepth 100000
open Go.RowKit Go.Lib
attribute [local go_sem] Oper.semAt_some

theorem take_snoc {α : Type} {l : List α} {i : Nat} {u : α} (h : l[i]? = some u) : l.take (i + 1) = l.take i ++ [u] := by
  rw [List.take_add_one, h]
  rfl
theorem pre_snoc {p l : List Int} {r : Int} : p <+: l ++ [r] ↔ p = l ++ [r] ∨ p <+: l := List.prefix_concat_iff

/-- What a tree is grown to. -/
structure Grown (Q : Nat → Prop) (w : World) (nd mp : List Int → Option Nat) (nm : List Int → Int) (l : List Int) (wr : World) (nd' mp' : List Int → Option Nat) : Prop where
  tree : TreeM Q wr nd' mp' nm
  ext : ∀ p c, nd p = some c → nd' p = some c
  dom : ∀ p, nd' p ≠ none ↔ nd p ≠ none ∨ p <+: l
  gp : GP (InT nd mp) w wr
  new : ∀ k, InT nd' mp' k → InT nd mp k ∨ w.heap.size ≤ k

theorem Grown.refl {Q : Nat → Prop} {w : World} {nd mp : List Int → Option Nat} {nm : List Int → Int} (h : TreeM Q w nd mp nm) (h0 : nd [] ≠ none) : Grown Q w nd mp nm [] w nd mp :=
  ⟨h, fun _ _ e => e, fun p => ⟨.inl, fun e => by
    rcases e with e | e
    · exact e
    · rw [List.prefix_nil] at e
      subst e
      exact h0⟩, GP.refl _ _, fun _ e => .inl e⟩
/-- The way goes on along a node that is there. -/
theorem Grown.old {Q : Nat → Prop} {w wr : World} {nd mp nd' mp' : List Int → Option Nat} {nm : List Int → Int} {l : List Int} {r : Int} {c : Nat} (h : Grown Q w nd mp nm l wr nd' mp') (hc : nd' (l ++ [r]) = some c) : Grown Q w nd mp nm (l ++ [r]) wr nd' mp' :=
  { h with
    dom := fun p => by
      rw [pre_snoc, h.dom p]
      constructor
      · rintro (e | e)
        · exact .inl e
        · exact .inr (.inr e)
      · rintro (e | e | e)
        · exact .inl e
        · subst e
          exact (h.dom _).1 (by rw [hc]; simp)
        · exact .inr e }
/-- .. along a new one. -/
theorem Grown.kid {Q : Nat → Prop} {w wr W : World} {nd mp nd' mp' : List Int → Option Nat} {nm : List Int → Int} {l : List Int} {r : Int} {c m : Nat} (h : Grown Q w nd mp nm l wr nd' mp') (hr : nd' (l ++ [r]) = none) (hT : TreeM Q W (upd nd' (l ++ [r]) (some c)) mp' nm) (hc : w.heap.size ≤ c) (hg : GP (fun k => k = m) wr W) (hm : mp' l = some m) :
    Grown Q w nd mp nm (l ++ [r]) W (upd nd' (l ++ [r]) (some c)) mp' :=
  { tree := hT
    ext := fun p d e => by
      have := h.ext p d e
      rw [upd_other (fun e2 => by rw [e2, hr] at this; cases this)]
      exact this
    dom := fun p => by
      rw [pre_snoc]
      by_cases e : p = l ++ [r]
      · subst e; rw [upd_same]; simp
      · rw [upd_other e, h.dom p]
        constructor
        · rintro (q | q)
          · exact .inl q
          · exact .inr (.inr q)
        · rintro (q | q | q)
          · exact .inl q
          · exact absurd q e
          · exact .inr q
    gp := h.gp.step hg (fun k e => by subst e; exact h.new k ⟨l, .inr hm⟩)
    new := fun k ⟨p, e⟩ => by
      rcases e with e | e
      · by_cases q : p = l ++ [r]
        · subst q; rw [upd_same] at e; cases e; exact .inr hc
        · rw [upd_other q] at e; exact h.new k ⟨p, .inl e⟩
      · exact h.new k ⟨p, .inr e⟩ }
/-- A node gets a map. -/
theorem Grown.map {Q : Nat → Prop} {w wr : World} {nd mp nd' mp' : List Int → Option Nat} {nm : List Int → Int} {l : List Int} {b : Nat} (h : Grown Q w nd mp nm l wr nd' mp') (hp : nd' l = some b) (hm : mp' l = none) (hq : Q wr.heap.size) :
    Grown Q w nd mp nm l ((wr.alloc (.map #[] 0)).setCell ⟨b, 1, none⟩ (.map (some wr.heap.size))) nd' (upd mp' l (some wr.heap.size)) :=
  { h with
    tree := h.tree.addMap hp hm hq
    gp := by
      have g1 := GP.of (P := fun k => k = b) (gset (gbut' (r := some b) (World.grownBy_alloc wr (.map #[] 0) none)) 1 (.map (some wr.heap.size))) (fun k e => by cases e; rfl)
      exact h.gp.step g1 (fun k e => by subst e; exact h.new k ⟨l, .inl hp⟩)
    new := fun k ⟨p, e⟩ => by
      rcases e with e | e
      · exact h.new k ⟨p, .inl e⟩
      · by_cases q : p = l
        · subst q; rw [upd_same] at e; cases e; exact .inr h.gp.2.2.2.1
        · rw [upd_other q] at e; exact h.new k ⟨p, .inr e⟩ }

set_option maxHeartbeats 8000000 in
theorem grow_any (P Q : Nat → Prop) (v : Value) (l : List Int) (rt : Nat) (nd mp : List Int → Option Nat) (nm : List Int → Int) (w : World) (hv : SR P 1 w v l.length (rc l)) (hP : ∀ k, P k → ¬ Q k) (hQ : ∀ k, w.heap.size ≤ k → Q k)
    (hT : TreeM Q w nd mp nm) (hrt : nd [] = some rt) :
    Calls Try.prog 43 #[.pointer (some ⟨rt, 0, none⟩), v] w fun e w' => ∃ b nd' mp', e = .returned (.pointer (some ⟨b, 0, none⟩)) ∧ nd' l = some b ∧ Grown Q w nd mp nm l w' nd' mp' := by
  obtain ⟨a, c, rfl, hc, hm⟩ := hv.form
  unfold maxLen at hm
  have hG0 := Lib.hid (Grown.refl hT (by rw [hrt]; simp))
  have HT := Lib.hid hT
  replace hv := Lib.hid hv
  clear hT
  obtain ⟨n, hn⟩ : ∃ n, n = l.length := ⟨_, rfl⟩
  rw [← hn] at hc ⊢
  replace hn := Lib.hid hn
  go_enter Try.func43, Try.ntmps43
  go_wp2
  go_loopw [0, 6, 7, 10] (fun vn _ _ vi wr => ∃ (i b : Nat) (nd' mp' : List Int → Option Nat), vi = .int .i64 (i : Int) ∧ i ≤ n ∧ vn = .pointer (some ⟨b, 0, none⟩) ∧ Hid (nd' (l.take i) = some b) ∧ Hid (Grown Q w nd mp nm (l.take i) wr nd' mp')) (fun _ _ _ vi _ => n - (RowKit.intOf vi).toNat)
  case atStart => exact ⟨0, rt, nd, mp, rfl, Nat.zero_le _, rfl, Lib.hid (by simpa using hrt), by simpa using hG0⟩
  case round =>
    obtain ⟨i, b, nd', mp', rfl, hi, rfl, hb, hG⟩ := hrel
    by_cases hlt : i < n
    · have hltz : (i : Int) < (n : Int) := by omega
      obtain ⟨u, hu⟩ : ∃ u, l[i]? = some u := ⟨_, List.getElem?_eq_getElem (by have := hn.out; omega)⟩
      have hts := Lib.hid (take_snoc hu)
      have hrr : SR P 1 wr (.slice a l.length c) l.length (rc l) := hv.out.heap (fun k hk hl => hG.out.gp.2.2.2.2 k hl (fun e => hP k hk (HT.out.q e)))
      obtain ⟨ba, off, rfl, _, cu⟩ := rc_get hrr hu
      clear hrr hu
      have hN := (hG.out.tree.node _ _ hb.out).2
      have c1 := hN.c1
      have f1 := hN.free 1
      have hbl := hN.lt
      have hsz := hG.out.gp.2.2.2.1
      obtain ⟨o, ho⟩ : ∃ o, o = nd' (l.take i ++ [u]) := ⟨_, rfl⟩
      have hlk := hG.out.tree.lookup (l.take i) u
      rw [← ho] at hlk
      obtain ⟨mo, hmo⟩ : ∃ mo, mo = mp' (l.take i) := ⟨_, rfl⟩
      rw [← hmo] at hlk c1
      replace ho := Lib.hid ho
      replace hmo := Lib.hid hmo
      clear hN
      have qm := fun (w : World) (r : Option Nat) => run_eql_map_nil (P := Try.prog) w 78 _ _ r Try.underlying78
      cases mo with
      | none =>
        have hno := hG.out.tree.nokid _ hmo.out.symm u
        obtain rfl : o = none := ho.out.trans hno
        have hG1 := Lib.hid (hG.out.map hb.out hmo.out.symm (hQ _ hsz))
        have hlk1 := hG1.out.tree.lookup (l.take i) u
        rw [upd_same, hno] at hlk1
        unfold ptrV at hlk1
        have hb1 := hb
        have hN1 := (hG1.out.tree.node _ _ hb1.out).2
        rw [upd_same] at hN1
        have d1 := hN1.c1
        have hqs := hQ ((wr.alloc (.map #[] 0)).setCell ⟨b, 1, none⟩ (.map (some wr.heap.size))).heap.size (hG1.out.gp.2.2.2.1)
        have hs1 := hG1.out.gp.2.2.2.1
        have hno := Lib.hid hno
        clear hlk hN1 hmo
        have hsw := World.setCell_alloc_past (w := wr) (.map #[] 0) b 1 (.map (some wr.heap.size)) hbl
        rw [hsw] at hlk1 d1 hqs hs1 hG1
        replace hsw := Lib.hid hsw
        have f1a : (wr.alloc (.map #[] 0)).frozen? ⟨b, 1, none⟩ = false := by
          have := (hG.out.tree.node _ _ hb.out).2
          exact NodeAt.free (((World.grownBy_alloc wr (.map #[] 0) none).block b hbl (by simp)).trans this) 1
        have c1a : (wr.alloc (.map #[] 0)).cell? ⟨b, 1, none⟩ = some (.map none) := (World.grownBy_alloc wr (.map #[] 0) none).cell c1 (by simp)
        have hmk : ∀ (t : TypeId) (w : World), (Instr.makeMap t none).run Try.prog w = .ok (.map (some w.heap.size)) (w.alloc (.map #[] 0)) := fun _ _ => rfl
        go_wp2_with fail
        have hmm : Hid (upd mp' (l.take i) (some wr.heap.size) (l.take i) = some wr.heap.size) := Lib.hid (upd_same _ _ _)
        generalize upd mp' (l.take i) (some wr.heap.size) = mp1 at *
        generalize (wr.setCell ⟨b, 1, none⟩ (.map (some wr.heap.size))).alloc (.map #[] 0) = W1 at *
        refine (newNode_any _).mono ?_
        rintro e w1 ⟨rfl, hN1, g1, _⟩
        have c2 := g1.cell d1 (by simp)
        obtain ⟨W3, hup, hT3, g3⟩ := hG1.out.tree.addKid hb.out hmm.out hno.out g1 (Nat.le_refl _) hN1 hqs
        have hG3 : Hid (Grown Q w nd mp nm (l.take (i + 1)) W3 (upd nd' (l.take i ++ [u]) (some W1.heap.size)) mp1) := Lib.hid (by rw [hts.out]; exact hG1.out.kid hno.out hT3 hs1 ((GP.new g1).trans (GP.of g3 (fun k e => by cases e; rfl))) hmm.out)
        have hb3 : Hid (upd nd' (l.take i ++ [u]) (some W1.heap.size) (l.take (i + 1)) = some W1.heap.size) := Lib.hid (by rw [hts.out, upd_same])
        clear hT3 g3 hN1 g1 hG hb hG1 hlk1 d1 f1a c1a hsw
        go_wp2_with fail
        exact ⟨⟨i + 1, W1.heap.size, _, mp1, by go_num, by omega, rfl, hb3, hG3⟩, by simp [RowKit.intOf]; omega⟩
      | some m =>
        cases o with
        | some d =>
          unfold ptrV at hlk
          have hG3 : Hid (Grown Q w nd mp nm (l.take (i + 1)) wr nd' mp') := Lib.hid (by rw [hts.out]; exact hG.out.old ho.out.symm)
          have hb3 : Hid (nd' (l.take (i + 1)) = some d) := Lib.hid (by rw [hts.out]; exact ho.out.symm)
          clear hG hb
          go_wp2
          exact ⟨⟨i + 1, d, nd', mp', by go_num, by omega, rfl, hb3, hG3⟩, by simp [RowKit.intOf]; omega⟩
        | none =>
          unfold ptrV at hlk
          have hqs := hQ _ hsz
          go_wp2_with (go_at_call 26; refine (newNode_any _).mono ?_; rintro e w1 ⟨rfl, hN1, g1, _⟩; have c2 := g1.cell c1 (by simp); obtain ⟨W3, hup, hT3, g3⟩ := hG.out.tree.addKid hb.out hmo.out.symm ho.out.symm g1 (Nat.le_refl _) hN1 hqs; have hG3 : Hid (Grown Q w nd mp nm (l.take (i + 1)) W3 (upd nd' (l.take i ++ [u]) (some wr.heap.size)) mp') := Lib.hid (by rw [hts.out]; exact hG.out.kid ho.out.symm hT3 hsz ((GP.new g1).trans (GP.of g3 (fun k e => by cases e; rfl))) hmo.out.symm); clear hT3 g3 hN1 g1)
          have hb3 : Hid (upd nd' (l.take i ++ [u]) (some wr.heap.size) (l.take (i + 1)) = some wr.heap.size) := Lib.hid (by rw [hts.out, upd_same])
          clear hG hb
          exact ⟨⟨i + 1, wr.heap.size, _, mp', by go_num, by omega, rfl, hb3, hG3⟩, by simp [RowKit.intOf]; omega⟩
    · obtain rfl : n = i := by omega
      have hG2 : Hid (Grown Q w nd mp nm l wr nd' mp') := Lib.hid (by have := hG.out; rw [hn.out, List.take_length] at this; exact this)
      have hb2 : Hid (nd' l = some b) := Lib.hid (by have := hb.out; rw [hn.out, List.take_length] at this; exact this)
      clear hG hb
      go_wp2
      go_ret
      exact ⟨b, nd', mp', rfl, hb2.out, hG2.out⟩
end Go.Proofs.Ytlnplompnabmlaa
