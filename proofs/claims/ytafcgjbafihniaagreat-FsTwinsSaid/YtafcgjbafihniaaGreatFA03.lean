/-
  LAYER 1 (fs): a directory in memory: a map from names to files' blocks, as a list of pairs; looked up, stored, deleted, counted.
-/
import Derived.Test.YtafcgjbafihniaaGreatFA01
import Derived.Test.YtafcgjbafihniaaGreatRows
import Derived.Maps.OwnSet
import Derived.Maps.Views
import Derived.StringKeys
import Derived.Sort.KeysCollected
import Derived.Shelf.Small.Wraps
import Derived.Shelf.Sort.Plain
import Derived.Ground.Names2Prog
import Derived.Shelf.Slices.Clone
import Derived.Shelf.Slices.SearchI
import Derived.Shelf.Slices.In.SortNone
import Derived.Shelf.Slices.Empties
import Derived.Test.YtafcgjbafihniaaGreatProg
import Derived.Shelf.SlIter.Sorted
import Derived.Shelf.SlIter.Nil
import Derived.TacticsInMore
import Derived.LoopIn
import Derived.LoopNIn
import Derived.OwnWalkIn
import Derived.Laws.CopyOwn
import Derived.Laws.BytesString
import Derived.OwnWalk
namespace Go.Proofs.YtafcgjbafihniaaGreat
set_option maxRecDepth 100000
open Go.RowKit Go.Lib
open Go.Maps (Keyed)

/-- How a pointer to a file reads: its block; -1 of nil. -/
def ptrEl (v : Value) : Option (DataW Unit × List MemPlace) :=
  match v with
  | .pointer none => some (.lit (.int .i64 (-1)), [])
  | .pointer (some ⟨b, 0, none⟩) => some (.lit (.int .i64 (b : Int)), [])
  | _ => none
def ptrV : Option Nat → Value
  | none => .pointer none
  | some b => .pointer (some ⟨b, 0, none⟩)
def ptrN : Option Nat → Int
  | none => -1
  | some b => (b : Int)
theorem ptrEl_mk (o : Option Nat) : ptrEl (ptrV o) = some (.lit (.int .i64 (ptrN o)), []) := by cases o <;> rfl
theorem ptrEl_inv {v : Value} {o : Option Nat} {ps : List MemPlace} (h : ptrEl v = some (.lit (.int .i64 (ptrN o)), ps)) : v = ptrV o := by
  unfold ptrEl at h
  split at h
  · cases o with
    | none => rfl
    | some b => simp [ptrN] at h
  · cases o with
    | none => simp [ptrN] at h
    | some b =>
      simp [ptrN] at h
      obtain ⟨h, _⟩ := h
      simp only [ptrV]
      congr 3
      omega
  · cases h

abbrev DirL := List (List UInt8 × Nat)
def DirL.look (l : DirL) (x : List UInt8) : Option Nat := (l.find? (fun p => p.1 == x)).map (·.2)
def DirL.drop (l : DirL) (x : List UInt8) : DirL := l.filter (fun p => !(p.1 == x))
def DirL.put (l : DirL) (x : List UInt8) (b : Nat) : DirL := DirL.drop l x ++ [(x, b)]
def DirL.names (l : DirL) : List (List UInt8) := l.map (·.1)

theorem DirL.look_drop_same (l : DirL) (x : List UInt8) : (DirL.drop l x).look x = none := by
  unfold DirL.look DirL.drop
  rw [List.find?_eq_none.2]
  · rfl
  · intro p hp
    have := (List.mem_filter.1 hp).2
    simpa using this
theorem DirL.look_drop_other (l : DirL) {x y : List UInt8} (h : y ≠ x) : (DirL.drop l x).look y = l.look y := by
  unfold DirL.look DirL.drop
  congr 1
  induction l with
  | nil => rfl
  | cons p l ih =>
    by_cases h1 : p.1 = x
    · have h2 : ¬ p.1 = y := fun e => h (by rw [← e, h1])
      simp [h1, ih, Ne.symm h]
    · by_cases h2 : p.1 = y
      · simp [h2, h]
      · simp [h1, h2, ih]
theorem DirL.look_append (l m : DirL) (x : List UInt8) : DirL.look (l ++ m) x = (l.look x).or (DirL.look m x) := by
  unfold DirL.look
  rw [List.find?_append]
  cases List.find? (fun p => p.1 == x) l <;> rfl
theorem DirL.look_put_same (l : DirL) (x : List UInt8) (b : Nat) : (DirL.put l x b).look x = some b := by
  unfold DirL.put
  rw [DirL.look_append, DirL.look_drop_same]
  simp [DirL.look]
theorem DirL.look_put_other (l : DirL) {x y : List UInt8} (h : y ≠ x) (b : Nat) : (DirL.put l x b).look y = l.look y := by
  unfold DirL.put
  rw [DirL.look_append, DirL.look_drop_other l h]
  simp [DirL.look, Ne.symm h]
theorem DirL.nodup_drop {l : DirL} (h : l.names.Nodup) (x : List UInt8) : (DirL.drop l x).names.Nodup := by
  unfold DirL.names DirL.drop at *
  exact h.sublist (List.Sublist.map _ List.filter_sublist)
theorem DirL.nodup_put {l : DirL} (h : l.names.Nodup) (x : List UInt8) (b : Nat) : (DirL.put l x b).names.Nodup := by
  have h2 := DirL.nodup_drop h x
  unfold DirL.names DirL.put at *
  rw [List.map_append, List.nodup_append]
  refine ⟨h2, by simp, fun a ha c hc e => ?_⟩
  simp at hc
  subst hc
  subst e
  obtain ⟨p, hp, rfl⟩ := List.mem_map.1 ha
  have := (List.mem_filter.1 hp).2
  simp at this
theorem DirL.look_mem {l : DirL} {x : List UInt8} {b : Nat} (h : l.look x = some b) : (x, b) ∈ l := by
  unfold DirL.look at h
  cases hf : List.find? (fun p => p.1 == x) l with
  | none => rw [hf] at h; cases h
  | some p =>
    rw [hf] at h
    have h1 := List.find?_some hf
    have h2 := List.mem_of_find?_eq_some hf
    simp at h h1
    obtain ⟨a, c⟩ := p
    simp at h h1
    subst h h1
    exact h2
theorem DirL.look_names {l : DirL} {x : List UInt8} : (l.look x).isSome = true ↔ x ∈ l.names := by
  unfold DirL.look DirL.names
  rw [Option.isSome_map, List.find?_isSome]
  simp

/-- Block d holds a directory that reads as l (no name twice; in whatever order). -/
def DirM (w : World) (d : Nat) (l : DirL) : Prop :=
  l.names.Nodup ∧ (∀ x ∈ l.names, x.length ≤ maxLen) ∧ ∃ (n : Nat) (D : DataW Unit), w.ownsMap Tryz.prog 9 ptrEl d n D ∧ ∀ x, Go.Maps.has D (.string x) = (l.look x).isSome ∧ D.atKey (.string x) (.lit (.int .i64 (-1))) = .lit (.int .i64 (ptrN (l.look x)))

theorem DirM.made (w : World) : DirM (w.alloc (.map #[] 0)) w.heap.size [] :=
  ⟨List.nodup_nil, by simp [DirL.names], 0, .map [], World.ownsMap_made w _ _ _, fun x => ⟨rfl, rfl⟩⟩
theorem DirM.kept {w w' : World} {d : Nat} {l : DirL} {row : Option Nat} (h : DirM w d l) (hg : w.grownBy w' row) (hne : some d ≠ row) : DirM w' d l := by
  obtain ⟨h1, h2, n, D, h3, h4⟩ := h
  exact ⟨h1, h2, n, D, h3.kept hg hne, h4⟩
theorem DirM.lt {w : World} {d : Nat} {l : DirL} (h : DirM w d l) : d < w.heap.size := by
  obtain ⟨_, _, _, _, h3, _⟩ := h
  exact h3.lt

theorem keyed_str : Keyed Tryz.prog 9 := Go.Maps.string_keyed Tryz.underlying9

theorem DirM.size {w : World} {d : Nat} {l : DirL} (h : DirM w d l) : ∃ (D : DataW Unit), w.ownsMap Tryz.prog 9 ptrEl d l.length D ∧ Go.Maps.size D = l.length ∧ l.names.Perm (strKeys D) ∧ ∀ x, Go.Maps.has D (.string x) = (l.look x).isSome ∧ D.atKey (.string x) (.lit (.int .i64 (-1))) = .lit (.int .i64 (ptrN (l.look x))) := by
  obtain ⟨h1, h2, n, D, h3, h4⟩ := h
  have hC : Collected D (fun _ => false) l.names := ⟨h1, fun x => by rw [(h4 x).1, DirL.look_names]; simp⟩
  have hp := hC.perm h3 keyed_str Tryz.underlying9 (fun _ => rfl)
  have hlen : (strKeys D).length = l.length := by rw [← hp.length_eq]; simp [DirL.names]
  obtain ⟨es, clock, hb, hF, hs, rfl⟩ := h3
  have hsz : Go.Maps.size (DataW.map ((es.toList.map (Go.WideElems.rg Tryz.prog 9 ptrEl)).foldr DataW.insert [])) = es.size := by simp [Go.Maps.size, length_sorted]
  have hsz2 : (strKeys (DataW.map ((es.toList.map (Go.WideElems.rg Tryz.prog 9 ptrEl)).foldr DataW.insert []))).length = es.size := by simp [strKeys, length_sorted]
  exact ⟨_, ⟨es, clock, hb, hF, by omega, rfl⟩, by rw [hsz]; omega, hp, h4⟩

/-- 'd[name]'. -/
theorem DirM.lookup {w : World} {d : Nat} {l : DirL} (h : DirM w d l) (s : ByteArray) (hs : s.size ≤ maxLen) :
    (Instr.lookup 69 (.map (some d)) (.string s) false).run Tryz.prog w = .ok (ptrV (l.look s.data.toList)) w := by
  obtain ⟨h1, h2, n, D, h3, h4⟩ := h
  obtain ⟨v, ps, hrun, hv⟩ := h3.lookup keyed_str Tryz.underlying69 (z := .pointer none) (by kernel_rfl) (zd := .lit (.int .i64 (-1))) (zp := []) rfl (Go.WideMaps.keyOf_string_mk Tryz.underlying9 hs)
  rw [(h4 _).2] at hv
  rw [hrun, ptrEl_inv hv]

/-- 'len(d)'. -/
theorem DirM.len {w : World} {d : Nat} {l : DirL} (h : DirM w d l) (ty : TypeId) : (Builtin.len_ #[69] ty #[.map (some d)]).run Tryz.prog w = .ok (.int .i64 (l.length : Int)) w := by
  obtain ⟨D, h3, h4, _⟩ := h.size
  rw [h3.len Tryz.underlying69 ty, h4]

theorem lit_ne {x y : List UInt8} (h : y ≠ x) : Lit.string y ≠ Lit.string x := fun e => h (by injection e)

/-- 'd[name] = x'. -/
theorem DirM.store {w : World} {d : Nat} {l : DirL} (h : DirM w d l) (s : ByteArray) (hs : s.size ≤ maxLen) (b : Nat) (hn : l.length < maxLen) :
    ∃ w', (Instr.mapUpdate 69 (.map (some d)) (.string s) (.pointer (some ⟨b, 0, none⟩))).run Tryz.prog w = .ok () w' ∧ DirM w' d (l.put s.data.toList b) ∧ w.grownBy w' (some d) ∧ w'.heap.size = w.heap.size := by
  obtain ⟨D, h3, h5, h6, h4⟩ := h.size
  obtain ⟨h1, h2, _⟩ := h
  obtain ⟨w', hrun, h7, h8⟩ := h3.store keyed_str Tryz.underlying69 hn (Go.WideMaps.keyOf_string_mk Tryz.underlying9 hs) (ptrEl_mk (some b))
  have hsz : w'.heap.size = w.heap.size := by
    obtain ⟨es, clock, es', clock', _, rfl⟩ := h8
    simp [Go.ChangeMaps.setBlock]
  refine ⟨w', hrun, ⟨DirL.nodup_put h1 _ _, ?_, l.length + 1, _, h7, fun x => ?_⟩, h8.grown, hsz⟩
  · intro x hx
    unfold DirL.names DirL.put at hx
    rw [List.map_append, List.mem_append] at hx
    rcases hx with hx | hx
    · obtain ⟨p, hp, rfl⟩ := List.mem_map.1 hx
      exact h2 _ (List.mem_map.2 ⟨p, (List.mem_filter.1 hp).1, rfl⟩)
    · simp at hx
      subst hx
      simpa using hs
  · by_cases e : x = s.data.toList
    · subst e
      rw [DirL.look_put_same, Go.Maps.has_put_same h3.isMap (show Go.WideAt.IsKeyLit (Lit.string s.data.toList) from trivial), Go.Maps.atKey_put_same h3.isMap (show Go.WideAt.IsKeyLit (Lit.string s.data.toList) from trivial)]
      exact ⟨rfl, rfl⟩
    · rw [DirL.look_put_other l e, Go.Maps.has_put_other (lit_ne e), Go.Maps.atKey_put_other (lit_ne e)]
      exact h4 x

/-- 'delete(d, name)'. -/
theorem DirM.remove {w : World} {d : Nat} {l : DirL} (h : DirM w d l) (s : ByteArray) (hs : s.size ≤ maxLen) (ty : TypeId) :
    ∃ w', (Builtin.delete_ #[69, 9] ty #[.map (some d), .string s]).run Tryz.prog w = .ok (.tuple #[]) w' ∧ DirM w' d (l.drop s.data.toList) ∧ w.grownBy w' (some d) ∧ w'.heap.size = w.heap.size := by
  obtain ⟨h1, h2, n, D, h3, h4⟩ := h
  obtain ⟨w', hrun, h7, h8⟩ := h3.drop keyed_str Tryz.underlying69 (Go.WideMaps.keyOf_string_mk Tryz.underlying9 hs) ty
  have hsz : w'.heap.size = w.heap.size := by
    obtain ⟨es, clock, es', clock', _, rfl⟩ := h8
    simp [Go.ChangeMaps.setBlock]
  refine ⟨w', hrun, ⟨DirL.nodup_drop h1 _, ?_, n, _, h7, fun x => ?_⟩, h8.grown, hsz⟩
  · intro x hx
    unfold DirL.names DirL.drop at hx
    obtain ⟨p, hp, rfl⟩ := List.mem_map.1 hx
    exact h2 _ (List.mem_map.2 ⟨p, (List.mem_filter.1 hp).1, rfl⟩)
  · by_cases e : x = s.data.toList
    · subst e
      rw [DirL.look_drop_same, Go.Maps.has_del_same, Go.Maps.atKey_del_same]
      exact ⟨rfl, rfl⟩
    · rw [DirL.look_drop_other l e, Go.Maps.has_del_other (lit_ne e), Go.Maps.atKey_del_other (lit_ne e)]
      exact h4 x
end Go.Proofs.YtafcgjbafihniaaGreat

/-
  DERIVED: THE SHELF's CONTRACTS AT THIS DUMP, IN PLAIN WORDS (tools/lay-plain.mjs out of 'TryzShelf.lean', which tools/lay-shelf.mjs wrote): THE SAME DECLARATIONS UNDER THE SAME NAMES: 'import', 'namespace', 'open', 'def', 'theorem' AND NOTHING ELSE: no command of the shelf's: FOR A HAND-IN. Each laying: the table of numbers ('.._ren') and one theorem, a field a fact of the dump's own or the kernel's comparison; each contract: ONE APPLICATION.
-/
namespace Go.Proofs
open Go.Shelf
def Tryz.lays215_ren : Go.Shelf.Ren := ⟨fun | 215 => 113 | n => n, fun | 3 => 3 | 4 => 4 | n => n, fun | n => n⟩
theorem Tryz.lays215 : Go.Proofs.Lays.n215 Tryz.prog Tryz.lays215_ren := {
  mixed := by kernel_rfl
  f215 := Tryz.func113.trans (congrArg some (by kernel_rfl))
  t3 := Tryz.underlying3
  a3 := Tryz.isAgg3
  z3 := Tryz.sizeOf3
  v3 := Tryz.zeroValue3
  t4 := Tryz.underlying4
  a4 := Tryz.isAgg4
  z4 := Tryz.sizeOf4
  v4 := Tryz.zeroValue4 }
open Go.RowKit in
/-- cmp.isNaN at int: 'x != x': false. (LAID: no walk: one application.) -/
theorem Tryz.cmp_isNaN_int (x : Int) (w : World) :
    Calls Tryz.prog 113 #[.int .i64 x] w fun e w' => e = .returned (.bool false) ∧ w' = w := Any.cmp_isNaN_int Tryz.lays215 x w
def Tryz.lays189_ren : Go.Shelf.Ren := ⟨fun | 189 => 94 | 125 => 109 | 257 => 108 | 128 => 122 | 129 => 123 | 294 => 114 | 295 => 115 | 296 => 116 | 297 => 117 | 298 => 118 | 299 => 119 | 216 => 103 | 300 => 120 | 301 => 121 | 328 => 126 | 329 => 127 | 330 => 128 | 331 => 129 | 332 => 130 | 215 => 113 | 343 => 140 | n => n, fun | 28 => 22 | 3 => 3 | 46 => 164 | 0 => 0 | 51 => 179 | 53 => 181 | 4 => 4 | 183 => 173 | 182 => 172 | 131 => 137 | 5 => 5 | 9 => 9 | 218 => 184 | 222 => 156 | 228 => 195 | 229 => 47 | n => n, fun | n => n⟩
theorem Tryz.lays189 : Go.Proofs.Lays.n189 Tryz.prog Tryz.lays189_ren := {
  mixed := by kernel_rfl
  f125 := Tryz.func109.trans (congrArg some (by kernel_rfl))
  f128 := Tryz.func122.trans (congrArg some (by kernel_rfl))
  f129 := Tryz.func123.trans (congrArg some (by kernel_rfl))
  f189 := Tryz.func94.trans (congrArg some (by kernel_rfl))
  f215 := Tryz.func113.trans (congrArg some (by kernel_rfl))
  f216 := Tryz.func103.trans (congrArg some (by kernel_rfl))
  f257 := Tryz.func108.trans (congrArg some (by kernel_rfl))
  f294 := Tryz.func114.trans (congrArg some (by kernel_rfl))
  f295 := Tryz.func115.trans (congrArg some (by kernel_rfl))
  f296 := Tryz.func116.trans (congrArg some (by kernel_rfl))
  f297 := Tryz.func117.trans (congrArg some (by kernel_rfl))
  f298 := Tryz.func118.trans (congrArg some (by kernel_rfl))
  f299 := Tryz.func119.trans (congrArg some (by kernel_rfl))
  f300 := Tryz.func120.trans (congrArg some (by kernel_rfl))
  f301 := Tryz.func121.trans (congrArg some (by kernel_rfl))
  f328 := Tryz.func126.trans (congrArg some (by kernel_rfl))
  f329 := Tryz.func127.trans (congrArg some (by kernel_rfl))
  f330 := Tryz.func128.trans (congrArg some (by kernel_rfl))
  f331 := Tryz.func129.trans (congrArg some (by kernel_rfl))
  f332 := Tryz.func130.trans (congrArg some (by kernel_rfl))
  f343 := Tryz.func140.trans (congrArg some (by kernel_rfl))
  t0 := Tryz.underlying0
  a0 := Tryz.isAgg0
  z0 := Tryz.sizeOf0
  v0 := Tryz.zeroValue0
  t3 := Tryz.underlying3
  a3 := Tryz.isAgg3
  z3 := Tryz.sizeOf3
  v3 := Tryz.zeroValue3
  t4 := Tryz.underlying4
  a4 := Tryz.isAgg4
  z4 := Tryz.sizeOf4
  v4 := Tryz.zeroValue4
  t5 := Tryz.underlying5
  a5 := Tryz.isAgg5
  z5 := Tryz.sizeOf5
  v5 := Tryz.zeroValue5
  t9 := Tryz.underlying9
  a9 := Tryz.isAgg9
  z9 := Tryz.sizeOf9
  v9 := Tryz.zeroValue9
  t28 := Tryz.underlying22
  a28 := Tryz.isAgg22
  z28 := Tryz.sizeOf22
  v28 := Tryz.zeroValue22
  t46 := Tryz.underlying164
  a46 := Tryz.isAgg164
  z46 := Tryz.sizeOf164
  v46 := Tryz.zeroValue164
  t51 := Tryz.underlying179
  a51 := Tryz.isAgg179
  z51 := Tryz.sizeOf179
  v51 := Tryz.zeroValue179
  t53 := Tryz.underlying181
  a53 := Tryz.isAgg181
  z53 := Tryz.sizeOf181
  v53 := Tryz.zeroValue181
  t131 := Tryz.underlying137
  a131 := Tryz.isAgg137
  z131 := Tryz.sizeOf137
  v131 := Tryz.zeroValue137
  t182 := Tryz.underlying172
  a182 := Tryz.isAgg172
  z182 := Tryz.sizeOf172
  v182 := Tryz.zeroValue172
  t183 := Tryz.underlying173
  a183 := Tryz.isAgg173
  z183 := Tryz.sizeOf173
  v183 := Tryz.zeroValue173
  t218 := Tryz.underlying184
  a218 := Tryz.isAgg184
  z218 := Tryz.sizeOf184
  v218 := Tryz.zeroValue184
  t222 := Tryz.underlying156
  a222 := Tryz.isAgg156
  z222 := Tryz.sizeOf156
  v222 := Tryz.zeroValue156
  t228 := Tryz.underlying195
  a228 := Tryz.isAgg195
  z228 := Tryz.sizeOf195
  v228 := Tryz.zeroValue195
  t229 := Tryz.underlying47
  a229 := Tryz.isAgg47
  z229 := Tryz.sizeOf47
  v229 := Tryz.zeroValue47 }
open Go.Sort Go.RowKit in
theorem Tryz.slices_Sort_int (blk off cap : Nat) (zs : List Int) (w : World) (hH : Holds (Value.int .i64) w blk off zs.toArray) (hblk : blk < w.heap.size) (hsz : zs.length < 4611686018427387904) :
    Calls Tryz.prog 94 #[.slice (some ⟨blk, off, none⟩) zs.length cap] w fun e w' =>
      e = .returned (.tuple #[]) ∧ ∃ n os, w' = grow (putRow (Value.int .i64) (Sort.ahead w n) blk off (zs.mergeSort fun x y => decide (x ≤ y)).toArray) os := Any.slices_Sort_int Tryz.lays189 blk off cap zs w hH hblk hsz
def Tryz.lays190_ren : Go.Shelf.Ren := ⟨fun | 190 => 111 | 125 => 109 | 258 => 125 | 128 => 122 | 129 => 123 | 302 => 131 | 303 => 132 | 304 => 133 | 305 => 134 | 306 => 135 | 307 => 136 | 308 => 137 | 309 => 138 | 310 => 139 | 333 => 141 | 329 => 127 | 330 => 128 | 334 => 142 | 335 => 143 | 336 => 144 | 344 => 145 | n => n, fun | 31 => 127 | 9 => 9 | 3 => 3 | 46 => 164 | 0 => 0 | 51 => 179 | 53 => 181 | 4 => 4 | 183 => 173 | 182 => 172 | 131 => 137 | 5 => 5 | 218 => 184 | 222 => 156 | 228 => 195 | 229 => 47 | n => n, fun | n => n⟩
theorem Tryz.lays190 : Go.Proofs.Lays.n190 Tryz.prog Tryz.lays190_ren := {
  mixed := by kernel_rfl
  f125 := Tryz.func109.trans (congrArg some (by kernel_rfl))
  f128 := Tryz.func122.trans (congrArg some (by kernel_rfl))
  f129 := Tryz.func123.trans (congrArg some (by kernel_rfl))
  f190 := Tryz.func111.trans (congrArg some (by kernel_rfl))
  f258 := Tryz.func125.trans (congrArg some (by kernel_rfl))
  f302 := Tryz.func131.trans (congrArg some (by kernel_rfl))
  f303 := Tryz.func132.trans (congrArg some (by kernel_rfl))
  f304 := Tryz.func133.trans (congrArg some (by kernel_rfl))
  f305 := Tryz.func134.trans (congrArg some (by kernel_rfl))
  f306 := Tryz.func135.trans (congrArg some (by kernel_rfl))
  f307 := Tryz.func136.trans (congrArg some (by kernel_rfl))
  f308 := Tryz.func137.trans (congrArg some (by kernel_rfl))
  f309 := Tryz.func138.trans (congrArg some (by kernel_rfl))
  f310 := Tryz.func139.trans (congrArg some (by kernel_rfl))
  f329 := Tryz.func127.trans (congrArg some (by kernel_rfl))
  f330 := Tryz.func128.trans (congrArg some (by kernel_rfl))
  f333 := Tryz.func141.trans (congrArg some (by kernel_rfl))
  f334 := Tryz.func142.trans (congrArg some (by kernel_rfl))
  f335 := Tryz.func143.trans (congrArg some (by kernel_rfl))
  f336 := Tryz.func144.trans (congrArg some (by kernel_rfl))
  f344 := Tryz.func145.trans (congrArg some (by kernel_rfl))
  t0 := Tryz.underlying0
  a0 := Tryz.isAgg0
  z0 := Tryz.sizeOf0
  v0 := Tryz.zeroValue0
  t3 := Tryz.underlying3
  a3 := Tryz.isAgg3
  z3 := Tryz.sizeOf3
  v3 := Tryz.zeroValue3
  t4 := Tryz.underlying4
  a4 := Tryz.isAgg4
  z4 := Tryz.sizeOf4
  v4 := Tryz.zeroValue4
  t5 := Tryz.underlying5
  a5 := Tryz.isAgg5
  z5 := Tryz.sizeOf5
  v5 := Tryz.zeroValue5
  t9 := Tryz.underlying9
  a9 := Tryz.isAgg9
  z9 := Tryz.sizeOf9
  v9 := Tryz.zeroValue9
  t31 := Tryz.underlying127
  a31 := Tryz.isAgg127
  z31 := Tryz.sizeOf127
  v31 := Tryz.zeroValue127
  t46 := Tryz.underlying164
  a46 := Tryz.isAgg164
  z46 := Tryz.sizeOf164
  v46 := Tryz.zeroValue164
  t51 := Tryz.underlying179
  a51 := Tryz.isAgg179
  z51 := Tryz.sizeOf179
  v51 := Tryz.zeroValue179
  t53 := Tryz.underlying181
  a53 := Tryz.isAgg181
  z53 := Tryz.sizeOf181
  v53 := Tryz.zeroValue181
  t131 := Tryz.underlying137
  a131 := Tryz.isAgg137
  z131 := Tryz.sizeOf137
  v131 := Tryz.zeroValue137
  t182 := Tryz.underlying172
  a182 := Tryz.isAgg172
  z182 := Tryz.sizeOf172
  v182 := Tryz.zeroValue172
  t183 := Tryz.underlying173
  a183 := Tryz.isAgg173
  z183 := Tryz.sizeOf173
  v183 := Tryz.zeroValue173
  t218 := Tryz.underlying184
  a218 := Tryz.isAgg184
  z218 := Tryz.sizeOf184
  v218 := Tryz.zeroValue184
  t222 := Tryz.underlying156
  a222 := Tryz.isAgg156
  z222 := Tryz.sizeOf156
  v222 := Tryz.zeroValue156
  t228 := Tryz.underlying195
  a228 := Tryz.isAgg195
  z228 := Tryz.sizeOf195
  v228 := Tryz.zeroValue195
  t229 := Tryz.underlying47
  a229 := Tryz.isAgg47
  z229 := Tryz.sizeOf47
  v229 := Tryz.zeroValue47 }
open Go.Sort Go.RowKit in
theorem Tryz.slices_Sort_string (blk off cap : Nat) (ss : List (List UInt8)) (w : World) (hH : Holds encStr w blk off ss.toArray) (hblk : blk < w.heap.size) (hsz : ss.length < 4611686018427387904) :
    Calls Tryz.prog 111 #[.slice (some ⟨blk, off, none⟩) ss.length cap] w fun e w' =>
      e = .returned (.tuple #[]) ∧ ∃ n os, w' = grow (putRow encStr (Sort.ahead w n) blk off (ss.mergeSort fun x y => decide (x ≤ y)).toArray) os := Any.slices_Sort_string Tryz.lays190 blk off cap ss w hH hblk hsz
def Tryz.laysNm215_ren : Go.Shelf.Ren := ⟨fun | 15 => 71 | n => n, fun | 22 => 22 | 3 => 3 | 4 => 4 | n => n, fun | n => n⟩
theorem Tryz.laysNm215 : Go.Proofs.Lays2.n15 Tryz.prog Tryz.laysNm215_ren := {
  mixed := by kernel_rfl
  f15 := Tryz.func71.trans (congrArg some (by kernel_rfl))
  t3 := Tryz.underlying3
  a3 := Tryz.isAgg3
  z3 := Tryz.sizeOf3
  v3 := Tryz.zeroValue3
  t4 := Tryz.underlying4
  a4 := Tryz.isAgg4
  z4 := Tryz.sizeOf4
  v4 := Tryz.zeroValue4
  t22 := Tryz.underlying22
  a22 := Tryz.isAgg22
  z22 := Tryz.sizeOf22
  v22 := Tryz.zeroValue22
  i3 := by kernel_rfl }
open Go.RowKit Go.Lib in
/-- slices.Clone at []int: "Clone returns a copy of the slice. The elements are copied using assignment, so this is a shallow clone. The result may have additional unused capacity. The result preserves the nilness of s.": OF A SLICE THAT IS NOT nil IT RETURNS A SLICE THAT IS NOT nil, OF THE SAME ELEMENTS, IN MEMORY OF THE CALL's OWN: in the how-to's words (6f): 'w'.ownsRow B e 1 v' n cells': v' begins at the head of a row among the blocks from B on (B: the heap's size at the call), not frozen, whose first cells are the elements · 'Below B w w'': below B all is as it was. The capacity is whatever the run-time gives. 'zs': what the cells behind the slice's address hold; 'zs.take n': its elements. (LAID: no walk: one application.) -/
theorem Tryz.slices_Clone_int (b off n c : Nat) (zs : List Int) (w : World) (hz : n ≤ zs.length) (hbig : n * 8 ≤ 140737488355328) (hc : ∀ j, j < zs.length → w.cell? ⟨b, off + j, none⟩ = some (.int .i64 (zs.getD j 0))) :
    Calls Tryz.prog 71 #[.slice (some ⟨b, off, none⟩) n c] w fun e w' => ∃ v', e = .returned v' ∧ w'.ownsRow w.heap.size 3 1 v' n ((zs.take n).map (Value.int .i64)) ∧ v' ≠ .slice none 0 0 ∧ Below w.heap.size w w' := Any.slices_Clone_int Tryz.laysNm215 b off n c zs w hz hbig hc
open Go.RowKit Go.Lib in
/-- The same at nil: nil comes back; the world is as it was. (LAID: no walk: one application.) -/
theorem Tryz.slices_Clone_int_nil (n c : Nat) (w : World) :
    Calls Tryz.prog 71 #[.slice none n c] w fun e w' => e = .returned (.slice none 0 0) ∧ w' = w := Any.slices_Clone_int_nil Tryz.laysNm215 n c w
open Go.RowKit Go.Lib in
/-- The same at a slice of length 0 that is not nil, WHATEVER ITS ADDRESS (no cell is asked for): a slice that is not nil and owns nothing comes back. (LAID: no walk: one application.) -/
theorem Tryz.slices_Clone_int_zero (a : Addr) (c : Nat) (w : World) :
    Calls Tryz.prog 71 #[.slice (some a) 0 c] w fun e w' => ∃ v', e = .returned v' ∧ w'.ownsRow w.heap.size 3 1 v' 0 [] ∧ v' ≠ .slice none 0 0 ∧ Below w.heap.size w w' := Any.slices_Clone_int_zero Tryz.laysNm215 a c w
def Tryz.laysNm237_ren : Go.Shelf.Ren := ⟨fun | 37 => 113 | n => n, fun | 3 => 3 | 4 => 4 | n => n, fun | n => n⟩
theorem Tryz.laysNm237 : Go.Proofs.Lays2.n37 Tryz.prog Tryz.laysNm237_ren := {
  mixed := by kernel_rfl
  f37 := Tryz.func113.trans (congrArg some (by kernel_rfl))
  t3 := Tryz.underlying3
  a3 := Tryz.isAgg3
  z3 := Tryz.sizeOf3
  v3 := Tryz.zeroValue3
  t4 := Tryz.underlying4
  a4 := Tryz.isAgg4
  z4 := Tryz.sizeOf4
  v4 := Tryz.zeroValue4 }
open Go.RowKit Go.Lib in
/-- cmp.isNaN[int]: 'x != x': false. (LAID: no walk: one application.) -/
theorem Tryz.cmp_isNaN_int2 (x : Int) (w : World) :
    Calls Tryz.prog 113 #[.int .i64 x] w fun e w' => e = .returned (.bool false) ∧ w' = w := Any.cmp_isNaN_int2 Tryz.laysNm237 x w
def Tryz.laysNm232_ren : Go.Shelf.Ren := ⟨fun | 32 => 104 | n => n, fun | 3 => 3 | 4 => 4 | n => n, fun | n => n⟩
theorem Tryz.laysNm232 : Go.Proofs.Lays2.n32 Tryz.prog Tryz.laysNm232_ren := {
  mixed := by kernel_rfl
  f32 := Tryz.func104.trans (congrArg some (by kernel_rfl))
  t3 := Tryz.underlying3
  a3 := Tryz.isAgg3
  z3 := Tryz.sizeOf3
  v3 := Tryz.zeroValue3
  t4 := Tryz.underlying4
  a4 := Tryz.isAgg4
  z4 := Tryz.sizeOf4
  v4 := Tryz.zeroValue4 }
open Go.RowKit Go.Lib in
/-- slices.isNaN[int]: 'x != x': false. (LAID: no walk: one application.) -/
theorem Tryz.slices_isNaN_int2 (x : Int) (w : World) :
    Calls Tryz.prog 104 #[.int .i64 x] w fun e w' => e = .returned (.bool false) ∧ w' = w := Any.slices_isNaN_int2 Tryz.laysNm232 x w
def Tryz.laysNm231_ren : Go.Shelf.Ren := ⟨fun | 31 => 103 | 37 => 113 | n => n, fun | 3 => 3 | 4 => 4 | n => n, fun | n => n⟩
theorem Tryz.laysNm231 : Go.Proofs.Lays2.n31 Tryz.prog Tryz.laysNm231_ren := {
  mixed := by kernel_rfl
  f31 := Tryz.func103.trans (congrArg some (by kernel_rfl))
  f37 := Tryz.func113.trans (congrArg some (by kernel_rfl))
  t3 := Tryz.underlying3
  a3 := Tryz.isAgg3
  z3 := Tryz.sizeOf3
  v3 := Tryz.zeroValue3
  t4 := Tryz.underlying4
  a4 := Tryz.isAgg4
  z4 := Tryz.sizeOf4
  v4 := Tryz.zeroValue4 }
open Go.RowKit Go.Lib in
/-- cmp.Less[int]: "Less reports whether x is less than y.": 'x < y'; the world is as it was. (LAID: no walk: one application.) -/
theorem Tryz.cmp_Less_int2 (x y : Int) (w : World) :
    Calls Tryz.prog 103 #[.int .i64 x, .int .i64 y] w fun e w' => e = .returned (.bool (decide (x < y))) ∧ w' = w := Any.cmp_Less_int2 Tryz.laysNm231 x y w
def Tryz.laysNm225_ren : Go.Shelf.Ren := ⟨fun | 25 => 85 | 31 => 103 | 32 => 104 | 37 => 113 | n => n, fun | 22 => 22 | 3 => 3 | 4 => 4 | 40 => 164 | 0 => 0 | n => n, fun | n => n⟩
theorem Tryz.laysNm225 : Go.Proofs.Lays2.n25 Tryz.prog Tryz.laysNm225_ren := {
  mixed := by kernel_rfl
  f25 := Tryz.func85.trans (congrArg some (by kernel_rfl))
  f31 := Tryz.func103.trans (congrArg some (by kernel_rfl))
  f32 := Tryz.func104.trans (congrArg some (by kernel_rfl))
  f37 := Tryz.func113.trans (congrArg some (by kernel_rfl))
  t0 := Tryz.underlying0
  a0 := Tryz.isAgg0
  z0 := Tryz.sizeOf0
  v0 := Tryz.zeroValue0
  t3 := Tryz.underlying3
  a3 := Tryz.isAgg3
  z3 := Tryz.sizeOf3
  v3 := Tryz.zeroValue3
  t4 := Tryz.underlying4
  a4 := Tryz.isAgg4
  z4 := Tryz.sizeOf4
  v4 := Tryz.zeroValue4
  t22 := Tryz.underlying22
  a22 := Tryz.isAgg22
  z22 := Tryz.sizeOf22
  v22 := Tryz.zeroValue22
  t40 := Tryz.underlying164
  a40 := Tryz.isAgg164
  z40 := Tryz.sizeOf164
  v40 := Tryz.zeroValue164 }
open Go.RowKit Go.Lib in
/-- slices.BinarySearch at []int: "BinarySearch searches for target in a sorted slice and returns the earliest position where target is found, or the position where target would appear in the sort order; it also returns a bool saying whether the target is really found in the slice. The slice must be sorted in increasing order.": OF A SORTED SLICE IT RETURNS how many elements are less than the target, and whether the target is among the elements; the world is as it was but for the count of draws. 'zs': what the cells behind the slice's address hold; 'zs.take n': its elements. (Of a slice that is not sorted: no contract here.) (LAID: no walk: one application.) -/
theorem Tryz.slices_BinarySearch_int (b off n c : Nat) (zs : List Int) (x : Int) (w : World) (hz : n ≤ zs.length) (hbig : n < 4611686018427387904) (hc : ∀ j, j < zs.length → w.cell? ⟨b, off + j, none⟩ = some (.int .i64 (zs.getD j 0))) (hs : (zs.take n).Pairwise (· ≤ ·)) :
    Calls Tryz.prog 85 #[.slice (some ⟨b, off, none⟩) n c, .int .i64 x] w fun e w' => e = .returned (.tuple #[.int .i64 ((zs.take n).countP (· < x) : Nat), .bool ((zs.take n).contains x)]) ∧ ∃ q, w' = w.drewN q := Any.slices_BinarySearch_int Tryz.laysNm225 b off n c zs x w hz hbig hc hs
open Go.RowKit Go.Sort in
/-- .. and plain. (LAID: no walk: one application.) -/
theorem Tryz.slices_Sort_string_none (p : Option Addr) (cap : Nat) (w : World) :
    Calls Tryz.prog 111 #[.slice p 0 cap] w fun e w' => e = .returned (.tuple #[]) ∧ w' = w := Any.slices_Sort_string_none Tryz.lays190 p cap w
open Go.RowKit Go.Sort in
/-- .. and plain. (LAID: no walk: one application.) -/
theorem Tryz.slices_Sort_int_none (p : Option Addr) (cap : Nat) (w : World) :
    Calls Tryz.prog 94 #[.slice p 0 cap] w fun e w' => e = .returned (.tuple #[]) ∧ w' = w := Any.slices_Sort_int_none Tryz.lays189 p cap w
open Go.RowKit Go.Lib in
/-- slices.BinarySearch at []int of no element: position 0, not found; the world is as it was. (LAID: no walk: one application.) -/
theorem Tryz.slices_BinarySearch_int_empty (a : Option Addr) (c : Nat) (x : Int) (w : World) :
    Calls Tryz.prog 85 #[.slice a 0 c, .int .i64 x] w fun e w' => e = .returned (.tuple #[.int .i64 0, .bool false]) ∧ w' = w := Any.slices_BinarySearch_int_empty Tryz.laysNm225 a c x w
end Go.Proofs

/-
  LAYER 1 (fs): slices.Sorted(maps.Keys(d)): the library's contracts laid at this program.
-/
namespace Go.Proofs.YtafcgjbafihniaaGreat
set_option maxRecDepth 100000
open Go.Shelf Go.RowKit Go.Lib Go.Sort
open Go.Proofs (encStr)

def keys_ren : Go.Shelf.Ren := ⟨fun | 6 => 100 | 7 => 101 | 8 => 110 | 9 => 111 | 10 => 112 | 11 => 124 | n => n, fun | 0 => 0 | 4 => 4 | 23 => 69 | 26 => 9 | 24 => 127 | 27 => 160 | 28 => 161 | 33 => 112 | 3 => 97 | n => n, fun | n => n⟩
theorem keysL7 : SlLaysZ.n7 Tryz.prog keys_ren := {
  mixed := by kernel_rfl
  f7 := ⟨Tryz.f101.name, by kernel_rfl, Tryz.func101.trans (congrArg some (by kernel_rfl))⟩
  f10 := ⟨Tryz.f112.name, by kernel_rfl, Tryz.func112.trans (congrArg some (by kernel_rfl))⟩
  t0 := Tryz.underlying0
  a0 := Tryz.isAgg0
  z0 := Tryz.sizeOf0
  v0 := Tryz.zeroValue0
  t4 := Tryz.underlying4
  a4 := Tryz.isAgg4
  z4 := Tryz.sizeOf4
  v4 := Tryz.zeroValue4
  t23 := Tryz.underlying69
  a23 := Tryz.isAgg69
  z23 := Tryz.sizeOf69
  v23 := Tryz.zeroValue69
  t26 := Tryz.underlying9
  a26 := Tryz.isAgg9
  z26 := Tryz.sizeOf9
  v26 := Tryz.zeroValue9
  t27 := Tryz.underlying160
  a27 := Tryz.isAgg160
  z27 := Tryz.sizeOf160
  v27 := Tryz.zeroValue160
  t28 := Tryz.underlying161
  a28 := Tryz.isAgg161
  z28 := Tryz.sizeOf161
  v28 := Tryz.zeroValue161
  t33 := Tryz.underlying112
  a33 := Tryz.isAgg112
  z33 := Tryz.sizeOf112
  v33 := Tryz.zeroValue112 }
theorem keysL10 : SlLaysZ.n10 Tryz.prog keys_ren := {
  mixed := by kernel_rfl
  f10 := ⟨Tryz.f112.name, by kernel_rfl, Tryz.func112.trans (congrArg some (by kernel_rfl))⟩
  t0 := Tryz.underlying0
  a0 := Tryz.isAgg0
  z0 := Tryz.sizeOf0
  v0 := Tryz.zeroValue0
  t4 := Tryz.underlying4
  a4 := Tryz.isAgg4
  z4 := Tryz.sizeOf4
  v4 := Tryz.zeroValue4
  t23 := Tryz.underlying69
  a23 := Tryz.isAgg69
  z23 := Tryz.sizeOf69
  v23 := Tryz.zeroValue69
  t26 := Tryz.underlying9
  a26 := Tryz.isAgg9
  z26 := Tryz.sizeOf9
  v26 := Tryz.zeroValue9
  t33 := Tryz.underlying112
  a33 := Tryz.isAgg112
  z33 := Tryz.sizeOf112
  v33 := Tryz.zeroValue112 }
theorem keysL6 : SlLaysZ.n6 Tryz.prog keys_ren := {
  mixed := by kernel_rfl
  f6 := ⟨Tryz.f100.name, by kernel_rfl, Tryz.func100.trans (congrArg some (by kernel_rfl))⟩
  f8 := ⟨Tryz.f110.name, by kernel_rfl, Tryz.func110.trans (congrArg some (by kernel_rfl))⟩
  f11 := ⟨Tryz.f124.name, by kernel_rfl, Tryz.func124.trans (congrArg some (by kernel_rfl))⟩
  t0 := Tryz.underlying0
  a0 := Tryz.isAgg0
  z0 := Tryz.sizeOf0
  v0 := Tryz.zeroValue0
  t24 := Tryz.underlying127
  a24 := Tryz.isAgg127
  z24 := Tryz.sizeOf127
  v24 := Tryz.zeroValue127
  t26 := Tryz.underlying9
  a26 := Tryz.isAgg9
  z26 := Tryz.sizeOf9
  v26 := Tryz.zeroValue9
  t28 := Tryz.underlying161
  a28 := Tryz.isAgg161
  z28 := Tryz.sizeOf161
  v28 := Tryz.zeroValue161
  i26 := by kernel_rfl }

theorem sortsA (m : Nat) : AnyZ.SortsIn Tryz.prog keys_ren Fence.wide m :=
  ⟨fun blk off cap ss W hH hblk hsz => callsIn_wide.2 (Tryz.slices_Sort_string blk off cap ss W hH hblk hsz),
   fun p cap W => callsIn_wide.2 (Tryz.slices_Sort_string_none p cap W)⟩

theorem keys_call (d : Nat) (w : World) : Calls Tryz.prog 101 #[.map (some d)] w fun e w' => e = .returned (.func (.func 112) #[] #[.pointer (some ⟨w.heap.size, 0, none⟩)]) ∧ w' = w.alloc (.cells #[.map (some d)] 69) :=
  (callsIn_wide (n := 5)).1 (AnyZ.keys_in keysL7 Fence.wide 5 trivial rfl (some d) w)

/-- The names of a directory in order. -/
theorem sorted_call (B d : Nat) (l : DirL) (w : World) (hB : w.cell? ⟨B, 0, none⟩ = some (.map (some d))) (hd : DirM w d l) (hlim : l.length ≤ 8796093022208) :
    Calls Tryz.prog 100 #[.func (.func 112) #[] #[.pointer (some ⟨B, 0, none⟩)]] w fun e w' => ∃ v, e = .returned v ∧ w'.ownsRow w.heap.size 9 1 v l.length ((l.names.mergeSort leB).map encStr) ∧ w.grownBy w' none := by
  obtain ⟨D, hown, hsz, hp, _⟩ := hd.size
  have hseq : SeqGives Fence.wide 2 Tryz.prog 112 #[.pointer (some ⟨B, 0, none⟩)] encStr (fun ss => ss.Perm (strKeys D)) (Go.Maps.size D) w :=
    AnyZ.keys_gives (ρ := keys_ren) keysL10 Fence.wide _ trivial rfl (by omega) B d _ D _ (World.block_lt_of_cell? w _ hB) hB hown
  have cS := AnyZ.sorted_in keysL6 Fence.wide 5 trivial trivial trivial trivial rfl (by omega) (sortsA _) (enters_of Tryz.func111 (by kernel_rfl) rfl) 112 #[.pointer (some ⟨B, 0, none⟩)] trivial (enters_of Tryz.func112 (by kernel_rfl) rfl) _ _ (by rw [hsz]; unfold maxLen; omega) (by rw [hsz]; omega) _ hseq
  refine (callsIn_wide.1 cS).mono ?_
  rintro e w' ⟨v, ss, rfl, hS, hrow, hnil, hb⟩
  have e1 : ss.mergeSort leB = l.names.mergeSort leB := mergeSort_of_perm (hS.trans hp.symm)
  have e2 : ss.length = l.length := by rw [(hS.trans hp.symm).length_eq]; simp [DirL.names]
  refine ⟨v, rfl, ?_, belowg hb none⟩
  rw [← e1, ← e2]
  exact hrow
end Go.Proofs.YtafcgjbafihniaaGreat

/-
  LAYER 1 (fs): a directory's files in the order of their names: the iterator inOrder$1.
-/
namespace Go.Proofs.YtafcgjbafihniaaGreat
set_option maxRecDepth 100000
open Go.RowKit Go.Lib
open Go.Proofs (encStr)
attribute [local go_sem] Oper.semAt_some

/-- The files in the order of their names. -/
def DirL.sorted (l : DirL) : DirL := (l.names.mergeSort leB).map (fun x => (x, (l.look x).getD 0))
theorem DirL.sorted_length (l : DirL) : l.sorted.length = l.length := by simp [DirL.sorted, DirL.names, List.length_mergeSort]
theorem DirL.sorted_at (l : DirL) (j : Nat) (hj : j < l.length) : ∃ x b, l.sorted[j]? = some (x, b) ∧ (l.names.mergeSort leB)[j]? = some x ∧ l.look x = some b ∧ x ∈ l.names := by
  have hm : (l.names.mergeSort leB).length = l.length := by simp [DirL.names, List.length_mergeSort]
  have hx : (l.names.mergeSort leB)[j]? = some ((l.names.mergeSort leB)[j]'(by omega)) := List.getElem?_eq_getElem (by omega)
  have hin : (l.names.mergeSort leB)[j]'(by omega) ∈ l.names := (List.mergeSort_perm l.names leB).mem_iff.1 (List.getElem_mem _)
  obtain ⟨b, hb⟩ := Option.isSome_iff_exists.1 (DirL.look_names.2 hin)
  refine ⟨_, b, ?_, hx, hb, hin⟩
  unfold DirL.sorted
  rw [List.getElem?_map, hx]
  simp [hb]

def dEnc (x : List UInt8 × Nat) : Array Value := #[encStr x.1, .pointer (some ⟨x.2, 0, none⟩)]
def dOk (l : DirL) (pre : List (List UInt8 × Nat)) (x : List UInt8 × Nat) (_ : World) : Prop := pre = l.sorted.take pre.length ∧ l.sorted[pre.length]? = some x
def dAll (l : DirL) (xs : List (List UInt8 × Nat)) (_ : World) : Prop := xs = l.sorted

theorem DirM.zk {A B : World} {d : Nat} {l : DirL} {Z : Nat → Prop} (h : DirM A d l) (hk : ZK Z A B) (hd : Z d) : DirM B d l := by
  obtain ⟨h1, h2, n, D, ⟨es, clock, hb, hF, hs, hD⟩, h4⟩ := h
  exact ⟨h1, h2, n, D, ⟨es, clock, (hk.2 d (lt_of_block hb) hd).trans hb, hF, hs, hD⟩, h4⟩

theorem Boxed.zk {A B : World} {p : Nat} {t : TypeId} {v : Value} {Z : Nat → Prop} (h : Boxed A p t v) (hk : ZK Z A B) (hd : Z p) : Boxed B p t v := (hk.2 p h.lt hd).trans h

theorem rowFormS {w : World} {B s n : Nat} {e : TypeId} {v : Value} {xs : List Value} (h : w.ownsRow B e s v n xs) : ∃ a c, v = .slice a n c := by
  obtain ⟨_, ⟨rfl, hn⟩ | ⟨g, cap, cur, rfl, _⟩⟩ := h
  · exact ⟨none, 0, by rw [hn]⟩
  · exact ⟨_, _, rfl⟩
theorem ownsRow_zk {A B : World} {e : TypeId} {b s n : Nat} {v : Value} {xs : List Value} {Z : Nat → Prop} (h : A.ownsRow b e s v n xs) (hk : ZK Z A B) (hv : ∀ k, v.ownBlock = some k → Z k) : B.ownsRow b e s v n xs := by
  obtain ⟨q1, q2 | ⟨g, cap, cur, rfl, q4, q5, q6⟩⟩ := h
  · exact ⟨q1, .inl q2⟩
  · exact ⟨q1, .inr ⟨g, cap, cur, rfl, q4, (hk.2 g (lt_of_block q5) (hv g rfl)).trans q5, q6⟩⟩

set_option maxHeartbeats 8000000 in
theorem inOrder1_tells (n p d : Nat) (l : DirL) (w : World) (hn : 8 ≤ n) (hw : Boxed w p 69 (.map (some d))) (hd : DirM w d l) (hlim : l.length ≤ 8796093022208) :
    TellsZ Fence.wide n Tryz.prog 99 #[.pointer (some ⟨p, 0, none⟩)] dEnc (dOk l) (fun k => k = p ∨ k = d) (dAll l) (fun _ _ => True) w := by
  intro ll J Jx W Z hzk hz0 hzl hzn hll hJ hJx hY h0
  have hst : Boxed W p 69 (.map (some d)) := Boxed.zk hw hzk (.inl rfl)
  have hdW : DirM W d l := hd.zk hzk (.inr rfl)
  have hpl := hst.lt
  clear hw hd hzk
  have hc1 := hst.cell
  have hk1 := fun W' => keys_call d W'
  have hk2 := fun W' (g : W.grownBy W' none) => sorted_call W.heap.size d l W' 
  obtain ⟨n, rfl⟩ : ∃ m, n = m + 8 := ⟨n - 8, by omega⟩
  have hf1 : Fence.wide.fn 101 := trivial
  have hf2 : Fence.wide.fn 100 := trivial
  refine callsIn_of_wp Tryz.func99 rfl trivial ?_ rfl
  simp only [Tryz.ntmps99, List.size_toArray, List.length_cons, List.length_nil, Nat.reduceAdd, Nat.reduceSub, Array.replicate_succ, Array.replicate_zero, List.push_toArray, List.append_toArray, List.nil_append, List.cons_append]
  gi_wp2_with (first
    | (gi_at_call 101; refine (callsIn_wide.2 (hk1 _)).mono ?_; rintro e w2 ⟨rfl, rfl⟩)
    | (gi_at_call 100; refine (callsIn_wide.2 (hk2 _ (World.grownBy_alloc W _ none) (Boxed.new W _ _).cell (hdW.kept (World.grownBy_alloc W _ none) (by simp)) hlim)).mono ?_; rintro e w3 ⟨v, rfl, ho, hg⟩; obtain ⟨a, c, rfl⟩ := rowFormS ho))
  have gW : W.grownBy w3 none := (World.grownBy_alloc W _ none).trans hg
  have hw3 : W.heap.size + 1 ≤ w3.heap.size := by have := hg.size; simpa using this
  obtain ⟨Z1, hZ1⟩ : ∃ Z1 : Nat → Prop, Z1 = fun k => Z k ∨ W.heap.size ≤ k ∧ k < w3.heap.size := ⟨_, rfl⟩
  have hzz : ∀ k, Z k → Z1 k := fun k h => by rw [hZ1]; exact .inl h
  have hz1l : ∀ k, Z1 k → k < w3.heap.size := fun k h => by
    rw [hZ1] at h
    rcases h with h | h
    · have := hzl k h; omega
    · exact h.2
  have h3 : J Z1 [] w3 := hJ.more _ _ _ _ _ h0 gW hzz (fun k h => by rw [hZ1] at h; exact h)
  have hst3 := hst.kept gW (by simp)
  have hd3 := hdW.kept gW (by simp)
  have hvz : ∀ k, (Value.slice a l.length c).ownBlock = some k → Z1 k ∧ k ≠ ll := fun k e => by
    have := World.ownsRow.lt ho k e
    simp at this
    rw [hZ1]
    exact ⟨.inr (by omega), by omega⟩
  have hpz : Z1 p ∧ p ≠ ll := ⟨hzz _ (hz0 _ (.inl rfl)), hzn _ (.inl rfl)⟩
  have hdz : Z1 d ∧ d ≠ ll := ⟨hzz _ (hz0 _ (.inr rfl)), hzn _ (.inr rfl)⟩
  have hz01 : ∀ k, k = p ∨ k = d → Z1 k := fun k h => hzz k (hz0 k h)
  replace ho : w3.ownsRow 0 9 1 (.slice a l.length c) l.length ((l.names.mergeSort leB).map encStr) := by
    obtain ⟨q1, q2 | ⟨g, cap, cur, q3, q4, q5⟩⟩ := ho
    · exact ⟨q1, .inl q2⟩
    · exact ⟨q1, .inr ⟨g, cap, cur, q3, Nat.zero_le _, q5⟩⟩
  clear hst hdW hk1 hk2 hc1 h0 hg
  gi_wp2_with fail
  gi_loopw [4, 9] (fun _ va wr => ∃ (pre : List (List UInt8 × Nat)) (j : Nat), va = .int .i64 (j : Int) ∧ Hid (pre = l.sorted.take j) ∧ j ≤ l.length ∧ J Z1 pre wr ∧ ZK (fun k => Z1 k ∧ k ≠ ll) w3 wr) (fun _ va _ => l.length - (RowKit.intOf va).toNat)
  case atStart => exact ⟨[], 0, rfl, Lib.hid rfl, Nat.zero_le _, h3, ZK.refl _ _⟩
  case round =>
    obtain ⟨pre, j, rfl, hpl, hj, hJj, hzj⟩ := hrel
    have hpj : pre.length = j := by rw [hpl.out, List.length_take, DirL.sorted_length]; omega
    have hzjs := hzj.1
    by_cases hlt : j < l.length
    · obtain ⟨x, b, hs, hm, hlk, hin⟩ := DirL.sorted_at l j hlt
      have hrow := ownsRow_zk ho hzj hvz
      have hdj := hd3.zk hzj hdz
      have hbj := (Boxed.zk hst3 hzj hpz).cell
      obtain ⟨g, rfl⟩ : ∃ g, a = some ⟨g, 0, none⟩ := by
        obtain ⟨_, ⟨e, hz⟩ | ⟨g9, cap, cur, e, _⟩⟩ := hrow
        · omega
        · simp at e; exact ⟨g9, e.1⟩
      have hcell : wr.cell? ⟨g, j, none⟩ = some (encStr x) := by
        rw [World.ownsRow.cellAt hrow j (by omega)]
        simp [hm]
      have hrun := hdj.lookup ⟨x.toArray⟩ (by have := hdj.2.1 x hin; show x.toArray.size ≤ maxLen; simpa using this)
      rw [show (⟨x.toArray⟩ : ByteArray).data.toList = x by simp, hlk] at hrun
      unfold ptrV at hrun
      have hok : dOk l pre (x, b) wr := ⟨by rw [hpj]; exact hpl.out, by rw [hpj]; exact hs⟩
      have hnx : Hid (pre ++ [(x, b)] = l.sorted.take (j + 1)) := Lib.hid (by rw [hpl.out, List.take_add_one, hs]; rfl)
      obtain ⟨fn, tmps, assign, body, hy, hRd⟩ := hY Z1 pre (x, b) wr hz01 (fun k h => Nat.lt_of_lt_of_le (hz1l k h) hzjs) hJj hok
      dsimp only [dEnc] at hy
      unfold encStr at hcell hy
      obtain ⟨s, hsv⟩ : ∃ s : ByteArray, s = ⟨x.toArray⟩ := ⟨_, rfl⟩
      rw [← hsv] at hcell hy hrun
      clear hrow hdj hok hm hs hin hlk hpl hsv
      gi_wp2
      refine hRd.mono ?_
      rintro e3 W5 (⟨rfl, hj3, hk3⟩ | ⟨rfl, hj3, hk3⟩)
      all_goals gi_wp2
      all_goals first
        | exact ⟨⟨pre ++ [(x, b)], j + 1, by go_num, hnx, by omega, hj3, hzj.trans hk3⟩, by simp [RowKit.intOf]; omega⟩
        | (refine bodyPost_ret (results_none rfl _ _ _) rfl ?_; exact ⟨⟨_, rfl⟩, Z1, hzz, (fun k h => Nat.lt_of_lt_of_le (hz1l k h) (Nat.le_trans hzjs hk3.1)), .inr ⟨_, trivial, hj3⟩⟩)
        | (go_end0; exact ⟨⟨_, rfl⟩, Z1, hzz, (fun k h => Nat.lt_of_lt_of_le (hz1l k h) (Nat.le_trans hzjs hk3.1)), .inr ⟨_, trivial, hj3⟩⟩)
    · obtain rfl : j = l.length := by omega
      have hall : dAll l pre wr := by unfold dAll; rw [hpl.out, List.take_of_length_le (by rw [DirL.sorted_length]; omega)]
      clear hpl hpj
      gi_wp2
      all_goals first
        | (refine bodyPost_ret (results_none rfl _ _ _) rfl ?_; exact ⟨⟨_, rfl⟩, Z1, hzz, (fun k h => Nat.lt_of_lt_of_le (hz1l k h) hzjs), .inl ⟨pre, hall, hJj⟩⟩)
        | (go_end0; exact ⟨⟨_, rfl⟩, Z1, hzz, (fun k h => Nat.lt_of_lt_of_le (hz1l k h) hzjs), .inl ⟨pre, hall, hJj⟩⟩)
end Go.Proofs.YtafcgjbafihniaaGreat

/-
  LAYER 1 (fs): bytes of a file's own: appended, copied (as codec's text XCWrite has it, at fs.copied).
-/
namespace Go.Proofs.YtafcgjbafihniaaGreat
set_option maxRecDepth 100000
open Go.RowKit Go.Lib

theorem infoU8 : (Tryz.prog.info? 5).map (fun i => (i.zero, i.size, i.bytes)) = some (some (.int .u8 0), 1, 1) := by kernel_rfl
theorem sizeU8 : (Tryz.prog.info? 5).map (·.size) = some 1 := by kernel_rfl

/-- An own row, laid anew. -/
theorem owns_block {w : World} {B g cap : Nat} {e : TypeId} {bs : List UInt8} (hB : B ≤ g) (hg : w.heap[g]? = some (.cells (byteCells bs).toArray e (0, 0))) (hm : bs.length ≤ maxLen) (hc : cap = bs.length) :
    Owns w B e (.slice (some ⟨g, 0, none⟩) bs.length cap) bs := by
  subst hc
  have hl : (byteCells bs).length = bs.length := by simp [byteCells]
  exact ⟨by simp [hl], .inr ⟨g, _, _, rfl, hB, hg, Nat.le_refl _, hm, by simp [hl], by simp [hl, List.take_of_length_le]⟩⟩

theorem byteCells_one (bs : List UInt8) : ∀ v ∈ byteCells bs, v.oneCell' = true := by
  intro v hv
  simp only [byteCells, List.mem_map] at hv
  obtain ⟨u, _, rfl⟩ := hv
  rfl

/-- The cells of what is read, from an address on. -/
theorem Reads.cells {w : World} {a : Addr} {l c : Nat} {bs : List UInt8} (h : Reads w (.slice (some a) l c) bs) : ∀ j v, (byteCells bs)[j]? = some v → w.cell? (a.add j) = some v := by
  rcases h with ⟨h, rfl⟩ | ⟨b, off, cap, h, h1, h2, hc⟩
  · simp at h
  · simp at h
    obtain ⟨rfl, rfl, rfl⟩ := h
    intro j v hv
    rw [byteCells_get] at hv
    obtain ⟨u, hu, rfl⟩ := Option.map_eq_some_iff.1 hv
    have := hc j u hu
    have e : (⟨b, off, none⟩ : Addr).add j = ⟨b, off + j, none⟩ := by unfold Addr.add; split <;> simp_all
    rw [e]
    exact this

theorem byteCells_len (bs : List UInt8) : (byteCells bs).length = bs.length := by simp [byteCells]

/-- 'append(out, f...)' at bytes: out the call's own (or nil), f whatever reads as bytes, nil too. -/
theorem wpList_append_bytes {P : Program} (w : World) {ops : Array Oper} {rest : List Oper} {o : Oper} {a : Act} {Q : Exit → Act → World → Prop} (hgd : o.guard = none) (s x : Operand) (t : TypeId)
    (ho : o.op = .call { callee := .builtin .append, args := #[s, x], argTypes := #[t, t] })
    (base : Nat) (e : TypeId) (i : TypeInfo) (ht : P.underlying t = some (.slice e)) (hi : P.info? e = some i) (hz : i.zero = some (.int .u8 0)) (hsize : i.size = 1) (hby : i.bytes = 1)
    (v : Value) (bs : List UInt8) (hs : a.eval s = v) (hown : Owns w base e v bs) (xv : Value) (f : List UInt8) (hx : a.eval x = xv) (hr : Reads w xv f)
    (hlim : bs.length + f.length ≤ 140737488355328) (hbase : base ≤ w.heap.size)
    (h : ∀ v' w', Owns w' base e v' (bs ++ f) → w.grownBy w' v.ownBlock → wpList P ops Q rest (a.put o.dst v') w') : wpList P ops Q (o :: rest) a w := by
  have hr0 := hr
  rcases hr with ⟨rfl, rfl⟩ | ⟨b, off, cap, rfl, _, _, _⟩
  · refine wpList_plain hgd fun K hK => ?_
    have hrun := run_append_owned_none (P := P) w base t o.type e i 1 ht hi v _ _ hown
    unfold Oper.wp execOp
    simp only [ho, resolve, invoke, builtin, Sem.run_bind, Sem.run_pure, Result.andThen_ok, List.map_toArray, List.map_cons, List.map_nil, hs, hx, hrun]
    exact hK _ _ (h v w (by simpa using hown) (World.grownBy.refl _ _))
  · refine wpList_append_own w hgd s x t ho base e i (.int .u8 0) 1 1 ht hi hz hsize hby rfl (by decide) v bs.length (byteCells bs) hs hown ⟨b, off, none⟩ f.length cap (byteCells f) hx (by rw [byteCells_len]; omega) hr0.cells (byteCells_one f) (by unfold maxLen; omega) (by omega) hbase fun v' w' h2 h3 _ => h v' w' ?_ h3
    unfold Owns
    rw [byteCells_append, List.length_append]
    exact h2

theorem run_copied (w0 : World) (g : Nat) (a : Option Addr) (c : Nat) (bs : List UInt8) (hm : bs.length ≤ maxLen) (hr : Reads w0 (.slice a bs.length c) bs) (hb : w0.heap[g]? = some (.cells (List.replicate bs.length (Value.int .u8 0)).toArray 5 (0, 0))) :
    ∃ w1, (Builtin.copy_ #[32, 32] 3 #[.slice (some ⟨g, 0, none⟩) bs.length bs.length, .slice a bs.length c]).run Tryz.prog w0 = .ok (goInt bs.length) w1 ∧ Owns w1 g 5 (.slice (some ⟨g, 0, none⟩) bs.length bs.length) bs ∧ w0.grownBy w1 (some g) := by
  have hlc : (byteCells bs).length = bs.length := by simp [byteCells]
  by_cases h0 : bs = []
  · subst h0
    exact ⟨w0, run_copy_none w0 _ _ _ 5 _ _ _ _ _ _ Tryz.underlying32 sizeU8 rfl, owns_block (Nat.le_refl _) (by simpa [byteCells] using hb) hm rfl, World.grownBy.refl _ _⟩
  · obtain ⟨ad, rfl⟩ : ∃ ad, a = some ad := by
      rcases hr with ⟨_, rfl⟩ | ⟨b, off, cap, h, _⟩
      · exact absurd rfl h0
      · simp at h; exact ⟨_, h.1⟩
    have hrun := run_copy_row (P := Tryz.prog) w0 32 32 3 5 g 0 bs.length bs.length ad bs.length c _ 5 (byteCells bs) Tryz.underlying32 sizeU8 hb (by simp [hlc]) hr.cells (by simp [hlc]) (byteCells_one bs)
    rw [hlc] at hrun
    refine ⟨_, hrun, owns_block (Nat.le_refl _) ?_ hm rfl, ⟨rfl, rfl, rfl, by simp [World.setRow], fun k _ hne => setRow_other w0 g k _ (fun e => hne (by simp [e]))⟩⟩
    rw [setRow_heap w0 g _ _ _ _ hb]
    simp

set_option maxHeartbeats 1000000 in
theorem fcopied_any (a : Option Addr) (l c : Nat) (bs : List UInt8) (w : World) (hr : Reads w (.slice a l c) bs) (hl : bs.length ≤ 140737488355328) :
    Calls Tryz.prog 51 #[.slice a l c] w fun e w' => ∃ v, e = .returned v ∧ Owns w' w.heap.size 5 v bs ∧ w.grownBy w' none := by
  obtain ⟨rfl, hc, hm⟩ := hr.slice
  obtain ⟨i0, hi, hz0, hz1, hz2⟩ := info_parts infoU8
  go_enter Tryz.func51, Tryz.ntmps51
  go_wp2_with (at_make; refine wpList_make_full _ rfl _ _ 32 rfl w.heap.size 5 i0 (.int .u8 0) 1 Tryz.underlying32 hi hz0 hz1 .i64 .i64 _ _ bs.length rfl rfl rfl rfl (by rw [hz2]; omega) (by unfold maxLen; omega) (Nat.le_refl _) ?_; intro w0 hown0 hgrow0)
  have hblk : w0.heap[w.heap.size]? = some (.cells (List.replicate bs.length (Value.int .u8 0)).toArray 5 (0, 0)) := by
    obtain ⟨_, ⟨h, _⟩ | ⟨g, cap, cur, h, _, hg, _, _, hs, ht⟩⟩ := hown0
    · simp at h
    · simp only [Value.slice.injEq, Option.some.injEq, Addr.mk.injEq, and_true, true_and] at h
      obtain ⟨rfl, rfl⟩ := h
      rw [hg, ← Array.toArray_toList (xs := cur), ← List.take_of_length_le (l := cur.toList) (i := bs.length * 1) (by simp; omega), ht]
      simp [Value.cells, toList_madeCells_one]
  clear hown0
  obtain ⟨w1, hrun, ho, hg1⟩ := run_copied w0 w.heap.size a c bs (by omega) (hr.new hgrow0) hblk
  clear hblk
  go_simp
  go_wp2
  go_ret
  exact ⟨_, rfl, ho, gnew hgrow0 hg1 (by simp)⟩

end Go.Proofs.YtafcgjbafihniaaGreat
