/-
  LAYER 1 (fs): a directory in memory: a map from names to files' blocks, as a list of pairs; looked up, stored, deleted, counted.
-/
import Derived.Test.YtfgmaeaojkfakaaGreatCBase
import Derived.Test.YtfgmaeaojkfakaaGreatRows
import Derived.Maps.OwnSet
import Derived.Maps.Views
import Derived.StringKeys
import Derived.Sort.KeysCollected
namespace Go.Proofs.YtfgmaeaojkfakaaGreat
set_option maxRecDepth 100000
open Go.RowKit Go.Lib
open Go.Maps (Keyed)

/-- How a pointer to a file reads: its block; -1 of nil. -/
def ptrEl (v : Value) : Option (DataW Unit × List MemPlace) :=
  match v with
  | .pointer none => some (.lit (.int .i64 (-1)), [])
  | .pointer (some ⟨b, 0, none⟩) => some (.lit (.int .i64 (b : Int)), [])
  | _ => none
def ptrV : Option Nat → Value
  | none => .pointer none
  | some b => .pointer (some ⟨b, 0, none⟩)
def ptrN : Option Nat → Int
  | none => -1
  | some b => (b : Int)
theorem ptrEl_mk (o : Option Nat) : ptrEl (ptrV o) = some (.lit (.int .i64 (ptrN o)), []) := by cases o <;> rfl
theorem ptrEl_inv {v : Value} {o : Option Nat} {ps : List MemPlace} (h : ptrEl v = some (.lit (.int .i64 (ptrN o)), ps)) : v = ptrV o := by
  unfold ptrEl at h
  split at h
  · cases o with
    | none => rfl
    | some b => simp [ptrN] at h
  · cases o with
    | none => simp [ptrN] at h
    | some b =>
      simp [ptrN] at h
      obtain ⟨h, _⟩ := h
      simp only [ptrV]
      congr 3
      omega
  · cases h

abbrev DirL := List (List UInt8 × Nat)
def DirL.look (l : DirL) (x : List UInt8) : Option Nat := (l.find? (fun p => p.1 == x)).map (·.2)
def DirL.drop (l : DirL) (x : List UInt8) : DirL := l.filter (fun p => !(p.1 == x))
def DirL.put (l : DirL) (x : List UInt8) (b : Nat) : DirL := DirL.drop l x ++ [(x, b)]
def DirL.names (l : DirL) : List (List UInt8) := l.map (·.1)

theorem DirL.look_drop_same (l : DirL) (x : List UInt8) : (DirL.drop l x).look x = none := by
  unfold DirL.look DirL.drop
  rw [List.find?_eq_none.2]
  · rfl
  · intro p hp
    have := (List.mem_filter.1 hp).2
    simpa using this
theorem DirL.look_drop_other (l : DirL) {x y : List UInt8} (h : y ≠ x) : (DirL.drop l x).look y = l.look y := by
  unfold DirL.look DirL.drop
  congr 1
  induction l with
  | nil => rfl
  | cons p l ih =>
    by_cases h1 : p.1 = x
    · have h2 : ¬ p.1 = y := fun e => h (by rw [← e, h1])
      simp [h1, ih, Ne.symm h]
    · by_cases h2 : p.1 = y
      · simp [h2, h]
      · simp [h1, h2, ih]
theorem DirL.look_append (l m : DirL) (x : List UInt8) : DirL.look (l ++ m) x = (l.look x).or (DirL.look m x) := by
  unfold DirL.look
  rw [List.find?_append]
  cases List.find? (fun p => p.1 == x) l <;> rfl
theorem DirL.look_put_same (l : DirL) (x : List UInt8) (b : Nat) : (DirL.put l x b).look x = some b := by
  unfold DirL.put
  rw [DirL.look_append, DirL.look_drop_same]
  simp [DirL.look]
theorem DirL.look_put_other (l : DirL) {x y : List UInt8} (h : y ≠ x) (b : Nat) : (DirL.put l x b).look y = l.look y := by
  unfold DirL.put
  rw [DirL.look_append, DirL.look_drop_other l h]
  simp [DirL.look, Ne.symm h]
theorem DirL.nodup_drop {l : DirL} (h : l.names.Nodup) (x : List UInt8) : (DirL.drop l x).names.Nodup := by
  unfold DirL.names DirL.drop at *
  exact h.sublist (List.Sublist.map _ List.filter_sublist)
theorem DirL.nodup_put {l : DirL} (h : l.names.Nodup) (x : List UInt8) (b : Nat) : (DirL.put l x b).names.Nodup := by
  have h2 := DirL.nodup_drop h x
  unfold DirL.names DirL.put at *
  rw [List.map_append, List.nodup_append]
  refine ⟨h2, by simp, fun a ha c hc e => ?_⟩
  simp at hc
  subst hc
  subst e
  obtain ⟨p, hp, rfl⟩ := List.mem_map.1 ha
  have := (List.mem_filter.1 hp).2
  simp at this
theorem DirL.look_mem {l : DirL} {x : List UInt8} {b : Nat} (h : l.look x = some b) : (x, b) ∈ l := by
  unfold DirL.look at h
  cases hf : List.find? (fun p => p.1 == x) l with
  | none => rw [hf] at h; cases h
  | some p =>
    rw [hf] at h
    have h1 := List.find?_some hf
    have h2 := List.mem_of_find?_eq_some hf
    simp at h h1
    obtain ⟨a, c⟩ := p
    simp at h h1
    subst h h1
    exact h2
theorem DirL.look_names {l : DirL} {x : List UInt8} : (l.look x).isSome = true ↔ x ∈ l.names := by
  unfold DirL.look DirL.names
  rw [Option.isSome_map, List.find?_isSome]
  simp

/-- Block d holds a directory that reads as l (no name twice; in whatever order). -/
def DirM (w : World) (d : Nat) (l : DirL) : Prop :=
  l.names.Nodup ∧ (∀ x ∈ l.names, x.length ≤ maxLen) ∧ ∃ (n : Nat) (D : DataW Unit), w.ownsMap Tryz.prog 9 ptrEl d n D ∧ ∀ x, Go.Maps.has D (.string x) = (l.look x).isSome ∧ D.atKey (.string x) (.lit (.int .i64 (-1))) = .lit (.int .i64 (ptrN (l.look x)))

theorem DirM.made (w : World) : DirM (w.alloc (.map #[] 0)) w.heap.size [] :=
  ⟨List.nodup_nil, by simp [DirL.names], 0, .map [], World.ownsMap_made w _ _ _, fun x => ⟨rfl, rfl⟩⟩
theorem DirM.kept {w w' : World} {d : Nat} {l : DirL} {row : Option Nat} (h : DirM w d l) (hg : w.grownBy w' row) (hne : some d ≠ row) : DirM w' d l := by
  obtain ⟨h1, h2, n, D, h3, h4⟩ := h
  exact ⟨h1, h2, n, D, h3.kept hg hne, h4⟩
theorem DirM.lt {w : World} {d : Nat} {l : DirL} (h : DirM w d l) : d < w.heap.size := by
  obtain ⟨_, _, _, _, h3, _⟩ := h
  exact h3.lt

theorem keyed_str : Keyed Tryz.prog 9 := Go.Maps.string_keyed Tryz.underlying9

theorem DirM.size {w : World} {d : Nat} {l : DirL} (h : DirM w d l) : ∃ (D : DataW Unit), w.ownsMap Tryz.prog 9 ptrEl d l.length D ∧ Go.Maps.size D = l.length ∧ l.names.Perm (strKeys D) ∧ ∀ x, Go.Maps.has D (.string x) = (l.look x).isSome ∧ D.atKey (.string x) (.lit (.int .i64 (-1))) = .lit (.int .i64 (ptrN (l.look x))) := by
  obtain ⟨h1, h2, n, D, h3, h4⟩ := h
  have hC : Collected D (fun _ => false) l.names := ⟨h1, fun x => by rw [(h4 x).1, DirL.look_names]; simp⟩
  have hp := hC.perm h3 keyed_str Tryz.underlying9 (fun _ => rfl)
  have hlen : (strKeys D).length = l.length := by rw [← hp.length_eq]; simp [DirL.names]
  obtain ⟨es, clock, hb, hF, hs, rfl⟩ := h3
  have hsz : Go.Maps.size (DataW.map ((es.toList.map (Go.WideElems.rg Tryz.prog 9 ptrEl)).foldr DataW.insert [])) = es.size := by simp [Go.Maps.size, length_sorted]
  have hsz2 : (strKeys (DataW.map ((es.toList.map (Go.WideElems.rg Tryz.prog 9 ptrEl)).foldr DataW.insert []))).length = es.size := by simp [strKeys, length_sorted]
  exact ⟨_, ⟨es, clock, hb, hF, by omega, rfl⟩, by rw [hsz]; omega, hp, h4⟩

/-- 'd[name]'. -/
theorem DirM.lookup {w : World} {d : Nat} {l : DirL} (h : DirM w d l) (s : ByteArray) (hs : s.size ≤ maxLen) :
    (Instr.lookup 69 (.map (some d)) (.string s) false).run Tryz.prog w = .ok (ptrV (l.look s.data.toList)) w := by
  obtain ⟨h1, h2, n, D, h3, h4⟩ := h
  obtain ⟨v, ps, hrun, hv⟩ := h3.lookup keyed_str Tryz.underlying69 (z := .pointer none) (by kernel_rfl) (zd := .lit (.int .i64 (-1))) (zp := []) rfl (Go.WideMaps.keyOf_string_mk Tryz.underlying9 hs)
  rw [(h4 _).2] at hv
  rw [hrun, ptrEl_inv hv]

/-- 'len(d)'. -/
theorem DirM.len {w : World} {d : Nat} {l : DirL} (h : DirM w d l) (ty : TypeId) : (Builtin.len_ #[69] ty #[.map (some d)]).run Tryz.prog w = .ok (.int .i64 (l.length : Int)) w := by
  obtain ⟨D, h3, h4, _⟩ := h.size
  rw [h3.len Tryz.underlying69 ty, h4]

theorem lit_ne {x y : List UInt8} (h : y ≠ x) : Lit.string y ≠ Lit.string x := fun e => h (by injection e)

/-- 'd[name] = x'. -/
theorem DirM.store {w : World} {d : Nat} {l : DirL} (h : DirM w d l) (s : ByteArray) (hs : s.size ≤ maxLen) (b : Nat) (hn : l.length < maxLen) :
    ∃ w', (Instr.mapUpdate 69 (.map (some d)) (.string s) (.pointer (some ⟨b, 0, none⟩))).run Tryz.prog w = .ok () w' ∧ DirM w' d (l.put s.data.toList b) ∧ w.grownBy w' (some d) ∧ w'.heap.size = w.heap.size := by
  obtain ⟨D, h3, h5, h6, h4⟩ := h.size
  obtain ⟨h1, h2, _⟩ := h
  obtain ⟨w', hrun, h7, h8⟩ := h3.store keyed_str Tryz.underlying69 hn (Go.WideMaps.keyOf_string_mk Tryz.underlying9 hs) (ptrEl_mk (some b))
  have hsz : w'.heap.size = w.heap.size := by
    obtain ⟨es, clock, es', clock', _, rfl⟩ := h8
    simp [Go.ChangeMaps.setBlock]
  refine ⟨w', hrun, ⟨DirL.nodup_put h1 _ _, ?_, l.length + 1, _, h7, fun x => ?_⟩, h8.grown, hsz⟩
  · intro x hx
    unfold DirL.names DirL.put at hx
    rw [List.map_append, List.mem_append] at hx
    rcases hx with hx | hx
    · obtain ⟨p, hp, rfl⟩ := List.mem_map.1 hx
      exact h2 _ (List.mem_map.2 ⟨p, (List.mem_filter.1 hp).1, rfl⟩)
    · simp at hx
      subst hx
      simpa using hs
  · by_cases e : x = s.data.toList
    · subst e
      rw [DirL.look_put_same, Go.Maps.has_put_same h3.isMap (show Go.WideAt.IsKeyLit (Lit.string s.data.toList) from trivial), Go.Maps.atKey_put_same h3.isMap (show Go.WideAt.IsKeyLit (Lit.string s.data.toList) from trivial)]
      exact ⟨rfl, rfl⟩
    · rw [DirL.look_put_other l e, Go.Maps.has_put_other (lit_ne e), Go.Maps.atKey_put_other (lit_ne e)]
      exact h4 x

/-- 'delete(d, name)'. -/
theorem DirM.remove {w : World} {d : Nat} {l : DirL} (h : DirM w d l) (s : ByteArray) (hs : s.size ≤ maxLen) (ty : TypeId) :
    ∃ w', (Builtin.delete_ #[69, 9] ty #[.map (some d), .string s]).run Tryz.prog w = .ok (.tuple #[]) w' ∧ DirM w' d (l.drop s.data.toList) ∧ w.grownBy w' (some d) ∧ w'.heap.size = w.heap.size := by
  obtain ⟨h1, h2, n, D, h3, h4⟩ := h
  obtain ⟨w', hrun, h7, h8⟩ := h3.drop keyed_str Tryz.underlying69 (Go.WideMaps.keyOf_string_mk Tryz.underlying9 hs) ty
  have hsz : w'.heap.size = w.heap.size := by
    obtain ⟨es, clock, es', clock', _, rfl⟩ := h8
    simp [Go.ChangeMaps.setBlock]
  refine ⟨w', hrun, ⟨DirL.nodup_drop h1 _, ?_, n, _, h7, fun x => ?_⟩, h8.grown, hsz⟩
  · intro x hx
    unfold DirL.names DirL.drop at hx
    obtain ⟨p, hp, rfl⟩ := List.mem_map.1 hx
    exact h2 _ (List.mem_map.2 ⟨p, (List.mem_filter.1 hp).1, rfl⟩)
  · by_cases e : x = s.data.toList
    · subst e
      rw [DirL.look_drop_same, Go.Maps.has_del_same, Go.Maps.atKey_del_same]
      exact ⟨rfl, rfl⟩
    · rw [DirL.look_drop_other l e, Go.Maps.has_del_other (lit_ne e), Go.Maps.atKey_del_other (lit_ne e)]
      exact h4 x
end Go.Proofs.YtfgmaeaojkfakaaGreat
