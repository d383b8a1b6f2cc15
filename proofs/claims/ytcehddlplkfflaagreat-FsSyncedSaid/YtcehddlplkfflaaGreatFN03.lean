/-
  DERIVED: THE SHELF's CONTRACTS AT THIS DUMP, IN PLAIN WORDS (tools/lay-plain.mjs out of 'TryzShelf.lean', which tools/lay-shelf.mjs wrote): THE SAME DECLARATIONS UNDER THE SAME NAMES: 'import', 'namespace', 'open', 'def', 'theorem' AND NOTHING ELSE: no command of the shelf's: FOR A HAND-IN. Each laying: the table of numbers ('.._ren') and one theorem, a field a fact of the dump's own or the kernel's comparison; each contract: ONE APPLICATION.
-/
import Derived.Shelf.Small.Bits
import Derived.Shelf.Small.Wraps
import Derived.Shelf.Strconv.Itoa0
import Derived.Shelf.Sort.Plain
import Derived.Ground.Names2Prog
import Derived.Shelf.Slices.Clone
import Derived.Shelf.Slices.SearchI
import Derived.Shelf.Slices.In.SortNone
import Derived.Shelf.Slices.Empties
import Derived.Ground.SlgnProg
import Derived.Shelf.SlicesE.Clone
import Derived.Test.YtcehddlplkfflaaGreatProg
import Derived.Test.YtcehddlplkfflaaGreatFN01
import Derived.RangeFuncBound
import Derived.TacticsInMore
import Derived.BigRegionIn
import Derived.LoopIn
import Derived.LoopNIn
import Derived.OwnWalkIn
import Derived.Sort.OwnSortedInts
import Derived.Test.YtcehddlplkfflaaGreatRows
import Derived.Maps.OwnSet
import Derived.Maps.Views
import Derived.StringKeys
import Derived.Sort.KeysCollected
import Derived.Shelf.SlIter.Sorted
import Derived.Shelf.SlIter.Nil
namespace Go.Proofs
open Go.Shelf
def Tryz.lays128_ren : Go.Shelf.Ren := ⟨fun | 128 => 121 | n => n, fun | 51 => 177 | 3 => 3 | 4 => 4 | 46 => 162 | 5 => 5 | 9 => 9 | n => n, fun | n => n⟩
theorem Tryz.lays128 : Go.Proofs.Lays.n128 Tryz.prog Tryz.lays128_ren := {
  mixed := by kernel_rfl
  f128 := Tryz.func121.trans (congrArg some (by kernel_rfl))
  t3 := Tryz.underlying3
  a3 := Tryz.isAgg3
  z3 := Tryz.sizeOf3
  v3 := Tryz.zeroValue3
  t4 := Tryz.underlying4
  a4 := Tryz.isAgg4
  z4 := Tryz.sizeOf4
  v4 := Tryz.zeroValue4
  t5 := Tryz.underlying5
  a5 := Tryz.isAgg5
  z5 := Tryz.sizeOf5
  v5 := Tryz.zeroValue5
  t9 := Tryz.underlying9
  a9 := Tryz.isAgg9
  z9 := Tryz.sizeOf9
  v9 := Tryz.zeroValue9
  t46 := Tryz.underlying162
  a46 := Tryz.isAgg162
  z46 := Tryz.sizeOf162
  v46 := Tryz.zeroValue162
  t51 := Tryz.underlying177
  a51 := Tryz.isAgg177
  z51 := Tryz.sizeOf177
  v51 := Tryz.zeroValue177 }
/-- bits.Len32: "Len32 returns the minimum number of bits required to represent x; the result is 0 for x == 0.": IT RETURNS 'Lib.bitLen x'; the world is as it was. ('h0', 'h1': x is a uint32.) (LAID: no walk: one application.) -/
theorem Tryz.bits_Len32 (x : Int) (w : World) (h0 : 0 ≤ x) (h1 : x ≤ 4294967295) :
    Calls Tryz.prog 121 #[.int .u32 x] w fun e w' => e = .returned (.int .i64 (Lib.bitLen x.toNat)) ∧ w' = w := Any.bits_Len32 Tryz.lays128 x w h0 h1
def Tryz.lays125_ren : Go.Shelf.Ren := ⟨fun | 125 => 108 | 128 => 121 | 129 => 122 | n => n, fun | 46 => 162 | 3 => 3 | 51 => 177 | 53 => 179 | 4 => 4 | 5 => 5 | 9 => 9 | n => n, fun | n => n⟩
theorem Tryz.lays125 : Go.Proofs.Lays.n125 Tryz.prog Tryz.lays125_ren := {
  mixed := by kernel_rfl
  f125 := Tryz.func108.trans (congrArg some (by kernel_rfl))
  f128 := Tryz.func121.trans (congrArg some (by kernel_rfl))
  f129 := Tryz.func122.trans (congrArg some (by kernel_rfl))
  t3 := Tryz.underlying3
  a3 := Tryz.isAgg3
  z3 := Tryz.sizeOf3
  v3 := Tryz.zeroValue3
  t4 := Tryz.underlying4
  a4 := Tryz.isAgg4
  z4 := Tryz.sizeOf4
  v4 := Tryz.zeroValue4
  t5 := Tryz.underlying5
  a5 := Tryz.isAgg5
  z5 := Tryz.sizeOf5
  v5 := Tryz.zeroValue5
  t9 := Tryz.underlying9
  a9 := Tryz.isAgg9
  z9 := Tryz.sizeOf9
  v9 := Tryz.zeroValue9
  t46 := Tryz.underlying162
  a46 := Tryz.isAgg162
  z46 := Tryz.sizeOf162
  v46 := Tryz.zeroValue162
  t51 := Tryz.underlying177
  a51 := Tryz.isAgg177
  z51 := Tryz.sizeOf177
  v51 := Tryz.zeroValue177
  t53 := Tryz.underlying179
  a53 := Tryz.isAgg179
  z53 := Tryz.sizeOf179
  v53 := Tryz.zeroValue179 }
/-- bits.Len: "Len returns the minimum number of bits required to represent x; the result is 0 for x == 0.": IT RETURNS 'Lib.bitLen x'; the world is as it was. (A uint has 64 bits in the model.) ITS CALLEE bits.Len64 IS MET BY ITS OWN CONTRACT OFF THE SHELF (lay that first). (LAID: no walk: one application.) -/
theorem Tryz.bits_Len (x : Int) (w : World) (h0 : 0 ≤ x) (h1 : x ≤ 18446744073709551615) :
    Calls Tryz.prog 108 #[.int .u64 x] w fun e w' => e = .returned (.int .i64 (Lib.bitLen x.toNat)) ∧ w' = w := Any.bits_Len Tryz.lays125 x w h0 h1
def Tryz.lays215_ren : Go.Shelf.Ren := ⟨fun | 215 => 112 | n => n, fun | 3 => 3 | 4 => 4 | n => n, fun | n => n⟩
theorem Tryz.lays215 : Go.Proofs.Lays.n215 Tryz.prog Tryz.lays215_ren := {
  mixed := by kernel_rfl
  f215 := Tryz.func112.trans (congrArg some (by kernel_rfl))
  t3 := Tryz.underlying3
  a3 := Tryz.isAgg3
  z3 := Tryz.sizeOf3
  v3 := Tryz.zeroValue3
  t4 := Tryz.underlying4
  a4 := Tryz.isAgg4
  z4 := Tryz.sizeOf4
  v4 := Tryz.zeroValue4 }
open Go.RowKit in
/-- cmp.isNaN at int: 'x != x': false. (LAID: no walk: one application.) -/
theorem Tryz.cmp_isNaN_int (x : Int) (w : World) :
    Calls Tryz.prog 112 #[.int .i64 x] w fun e w' => e = .returned (.bool false) ∧ w' = w := Any.cmp_isNaN_int Tryz.lays215 x w
def Tryz.lays129_ren : Go.Shelf.Ren := ⟨fun | 129 => 122 | n => n, fun | 53 => 179 | 3 => 3 | 4 => 4 | 46 => 162 | 5 => 5 | 9 => 9 | n => n, fun | n => n⟩
theorem Tryz.lays129 : Go.Proofs.Lays.n129 Tryz.prog Tryz.lays129_ren := {
  mixed := by kernel_rfl
  f129 := Tryz.func122.trans (congrArg some (by kernel_rfl))
  t3 := Tryz.underlying3
  a3 := Tryz.isAgg3
  z3 := Tryz.sizeOf3
  v3 := Tryz.zeroValue3
  t4 := Tryz.underlying4
  a4 := Tryz.isAgg4
  z4 := Tryz.sizeOf4
  v4 := Tryz.zeroValue4
  t5 := Tryz.underlying5
  a5 := Tryz.isAgg5
  z5 := Tryz.sizeOf5
  v5 := Tryz.zeroValue5
  t9 := Tryz.underlying9
  a9 := Tryz.isAgg9
  z9 := Tryz.sizeOf9
  v9 := Tryz.zeroValue9
  t46 := Tryz.underlying162
  a46 := Tryz.isAgg162
  z46 := Tryz.sizeOf162
  v46 := Tryz.zeroValue162
  t53 := Tryz.underlying179
  a53 := Tryz.isAgg179
  z53 := Tryz.sizeOf179
  v53 := Tryz.zeroValue179 }
/-- bits.Len64: "Len64 returns the minimum number of bits required to represent x; the result is 0 for x == 0.": IT RETURNS 'Lib.bitLen x'; the world is as it was. ('h0', 'h1': x is a uint64.) (LAID: no walk: one application.) -/
theorem Tryz.bits_Len64 (x : Int) (w : World) (h0 : 0 ≤ x) (h1 : x ≤ 18446744073709551615) :
    Calls Tryz.prog 122 #[.int .u64 x] w fun e w' => e = .returned (.int .i64 (Lib.bitLen x.toNat)) ∧ w' = w := Any.bits_Len64 Tryz.lays129 x w h0 h1
def Tryz.lays189_ren : Go.Shelf.Ren := ⟨fun | 189 => 93 | 125 => 108 | 257 => 107 | 128 => 121 | 129 => 122 | 294 => 113 | 295 => 114 | 296 => 115 | 297 => 116 | 298 => 117 | 299 => 118 | 216 => 102 | 300 => 119 | 301 => 120 | 328 => 125 | 329 => 126 | 330 => 127 | 331 => 128 | 332 => 129 | 215 => 112 | 343 => 139 | n => n, fun | 28 => 22 | 3 => 3 | 46 => 162 | 0 => 0 | 51 => 177 | 53 => 179 | 4 => 4 | 183 => 171 | 182 => 170 | 131 => 135 | 5 => 5 | 9 => 9 | 218 => 182 | 222 => 154 | 228 => 193 | 229 => 47 | n => n, fun | n => n⟩
theorem Tryz.lays189 : Go.Proofs.Lays.n189 Tryz.prog Tryz.lays189_ren := {
  mixed := by kernel_rfl
  f125 := Tryz.func108.trans (congrArg some (by kernel_rfl))
  f128 := Tryz.func121.trans (congrArg some (by kernel_rfl))
  f129 := Tryz.func122.trans (congrArg some (by kernel_rfl))
  f189 := Tryz.func93.trans (congrArg some (by kernel_rfl))
  f215 := Tryz.func112.trans (congrArg some (by kernel_rfl))
  f216 := Tryz.func102.trans (congrArg some (by kernel_rfl))
  f257 := Tryz.func107.trans (congrArg some (by kernel_rfl))
  f294 := Tryz.func113.trans (congrArg some (by kernel_rfl))
  f295 := Tryz.func114.trans (congrArg some (by kernel_rfl))
  f296 := Tryz.func115.trans (congrArg some (by kernel_rfl))
  f297 := Tryz.func116.trans (congrArg some (by kernel_rfl))
  f298 := Tryz.func117.trans (congrArg some (by kernel_rfl))
  f299 := Tryz.func118.trans (congrArg some (by kernel_rfl))
  f300 := Tryz.func119.trans (congrArg some (by kernel_rfl))
  f301 := Tryz.func120.trans (congrArg some (by kernel_rfl))
  f328 := Tryz.func125.trans (congrArg some (by kernel_rfl))
  f329 := Tryz.func126.trans (congrArg some (by kernel_rfl))
  f330 := Tryz.func127.trans (congrArg some (by kernel_rfl))
  f331 := Tryz.func128.trans (congrArg some (by kernel_rfl))
  f332 := Tryz.func129.trans (congrArg some (by kernel_rfl))
  f343 := Tryz.func139.trans (congrArg some (by kernel_rfl))
  t0 := Tryz.underlying0
  a0 := Tryz.isAgg0
  z0 := Tryz.sizeOf0
  v0 := Tryz.zeroValue0
  t3 := Tryz.underlying3
  a3 := Tryz.isAgg3
  z3 := Tryz.sizeOf3
  v3 := Tryz.zeroValue3
  t4 := Tryz.underlying4
  a4 := Tryz.isAgg4
  z4 := Tryz.sizeOf4
  v4 := Tryz.zeroValue4
  t5 := Tryz.underlying5
  a5 := Tryz.isAgg5
  z5 := Tryz.sizeOf5
  v5 := Tryz.zeroValue5
  t9 := Tryz.underlying9
  a9 := Tryz.isAgg9
  z9 := Tryz.sizeOf9
  v9 := Tryz.zeroValue9
  t28 := Tryz.underlying22
  a28 := Tryz.isAgg22
  z28 := Tryz.sizeOf22
  v28 := Tryz.zeroValue22
  t46 := Tryz.underlying162
  a46 := Tryz.isAgg162
  z46 := Tryz.sizeOf162
  v46 := Tryz.zeroValue162
  t51 := Tryz.underlying177
  a51 := Tryz.isAgg177
  z51 := Tryz.sizeOf177
  v51 := Tryz.zeroValue177
  t53 := Tryz.underlying179
  a53 := Tryz.isAgg179
  z53 := Tryz.sizeOf179
  v53 := Tryz.zeroValue179
  t131 := Tryz.underlying135
  a131 := Tryz.isAgg135
  z131 := Tryz.sizeOf135
  v131 := Tryz.zeroValue135
  t182 := Tryz.underlying170
  a182 := Tryz.isAgg170
  z182 := Tryz.sizeOf170
  v182 := Tryz.zeroValue170
  t183 := Tryz.underlying171
  a183 := Tryz.isAgg171
  z183 := Tryz.sizeOf171
  v183 := Tryz.zeroValue171
  t218 := Tryz.underlying182
  a218 := Tryz.isAgg182
  z218 := Tryz.sizeOf182
  v218 := Tryz.zeroValue182
  t222 := Tryz.underlying154
  a222 := Tryz.isAgg154
  z222 := Tryz.sizeOf154
  v222 := Tryz.zeroValue154
  t228 := Tryz.underlying193
  a228 := Tryz.isAgg193
  z228 := Tryz.sizeOf193
  v228 := Tryz.zeroValue193
  t229 := Tryz.underlying47
  a229 := Tryz.isAgg47
  z229 := Tryz.sizeOf47
  v229 := Tryz.zeroValue47 }
open Go.Sort Go.RowKit in
theorem Tryz.slices_Sort_int (blk off cap : Nat) (zs : List Int) (w : World) (hH : Holds (Value.int .i64) w blk off zs.toArray) (hblk : blk < w.heap.size) (hsz : zs.length < 4611686018427387904) :
    Calls Tryz.prog 93 #[.slice (some ⟨blk, off, none⟩) zs.length cap] w fun e w' =>
      e = .returned (.tuple #[]) ∧ ∃ n os, w' = grow (putRow (Value.int .i64) (Sort.ahead w n) blk off (zs.mergeSort fun x y => decide (x ≤ y)).toArray) os := Any.slices_Sort_int Tryz.lays189 blk off cap zs w hH hblk hsz
def Tryz.lays190_ren : Go.Shelf.Ren := ⟨fun | 190 => 110 | 125 => 108 | 258 => 124 | 128 => 121 | 129 => 122 | 302 => 130 | 303 => 131 | 304 => 132 | 305 => 133 | 306 => 134 | 307 => 135 | 308 => 136 | 309 => 137 | 310 => 138 | 333 => 140 | 329 => 126 | 330 => 127 | 334 => 141 | 335 => 142 | 336 => 143 | 344 => 144 | n => n, fun | 31 => 125 | 9 => 9 | 3 => 3 | 46 => 162 | 0 => 0 | 51 => 177 | 53 => 179 | 4 => 4 | 183 => 171 | 182 => 170 | 131 => 135 | 5 => 5 | 218 => 182 | 222 => 154 | 228 => 193 | 229 => 47 | n => n, fun | n => n⟩
theorem Tryz.lays190 : Go.Proofs.Lays.n190 Tryz.prog Tryz.lays190_ren := {
  mixed := by kernel_rfl
  f125 := Tryz.func108.trans (congrArg some (by kernel_rfl))
  f128 := Tryz.func121.trans (congrArg some (by kernel_rfl))
  f129 := Tryz.func122.trans (congrArg some (by kernel_rfl))
  f190 := Tryz.func110.trans (congrArg some (by kernel_rfl))
  f258 := Tryz.func124.trans (congrArg some (by kernel_rfl))
  f302 := Tryz.func130.trans (congrArg some (by kernel_rfl))
  f303 := Tryz.func131.trans (congrArg some (by kernel_rfl))
  f304 := Tryz.func132.trans (congrArg some (by kernel_rfl))
  f305 := Tryz.func133.trans (congrArg some (by kernel_rfl))
  f306 := Tryz.func134.trans (congrArg some (by kernel_rfl))
  f307 := Tryz.func135.trans (congrArg some (by kernel_rfl))
  f308 := Tryz.func136.trans (congrArg some (by kernel_rfl))
  f309 := Tryz.func137.trans (congrArg some (by kernel_rfl))
  f310 := Tryz.func138.trans (congrArg some (by kernel_rfl))
  f329 := Tryz.func126.trans (congrArg some (by kernel_rfl))
  f330 := Tryz.func127.trans (congrArg some (by kernel_rfl))
  f333 := Tryz.func140.trans (congrArg some (by kernel_rfl))
  f334 := Tryz.func141.trans (congrArg some (by kernel_rfl))
  f335 := Tryz.func142.trans (congrArg some (by kernel_rfl))
  f336 := Tryz.func143.trans (congrArg some (by kernel_rfl))
  f344 := Tryz.func144.trans (congrArg some (by kernel_rfl))
  t0 := Tryz.underlying0
  a0 := Tryz.isAgg0
  z0 := Tryz.sizeOf0
  v0 := Tryz.zeroValue0
  t3 := Tryz.underlying3
  a3 := Tryz.isAgg3
  z3 := Tryz.sizeOf3
  v3 := Tryz.zeroValue3
  t4 := Tryz.underlying4
  a4 := Tryz.isAgg4
  z4 := Tryz.sizeOf4
  v4 := Tryz.zeroValue4
  t5 := Tryz.underlying5
  a5 := Tryz.isAgg5
  z5 := Tryz.sizeOf5
  v5 := Tryz.zeroValue5
  t9 := Tryz.underlying9
  a9 := Tryz.isAgg9
  z9 := Tryz.sizeOf9
  v9 := Tryz.zeroValue9
  t31 := Tryz.underlying125
  a31 := Tryz.isAgg125
  z31 := Tryz.sizeOf125
  v31 := Tryz.zeroValue125
  t46 := Tryz.underlying162
  a46 := Tryz.isAgg162
  z46 := Tryz.sizeOf162
  v46 := Tryz.zeroValue162
  t51 := Tryz.underlying177
  a51 := Tryz.isAgg177
  z51 := Tryz.sizeOf177
  v51 := Tryz.zeroValue177
  t53 := Tryz.underlying179
  a53 := Tryz.isAgg179
  z53 := Tryz.sizeOf179
  v53 := Tryz.zeroValue179
  t131 := Tryz.underlying135
  a131 := Tryz.isAgg135
  z131 := Tryz.sizeOf135
  v131 := Tryz.zeroValue135
  t182 := Tryz.underlying170
  a182 := Tryz.isAgg170
  z182 := Tryz.sizeOf170
  v182 := Tryz.zeroValue170
  t183 := Tryz.underlying171
  a183 := Tryz.isAgg171
  z183 := Tryz.sizeOf171
  v183 := Tryz.zeroValue171
  t218 := Tryz.underlying182
  a218 := Tryz.isAgg182
  z218 := Tryz.sizeOf182
  v218 := Tryz.zeroValue182
  t222 := Tryz.underlying154
  a222 := Tryz.isAgg154
  z222 := Tryz.sizeOf154
  v222 := Tryz.zeroValue154
  t228 := Tryz.underlying193
  a228 := Tryz.isAgg193
  z228 := Tryz.sizeOf193
  v228 := Tryz.zeroValue193
  t229 := Tryz.underlying47
  a229 := Tryz.isAgg47
  z229 := Tryz.sizeOf47
  v229 := Tryz.zeroValue47 }
open Go.Sort Go.RowKit in
theorem Tryz.slices_Sort_string (blk off cap : Nat) (ss : List (List UInt8)) (w : World) (hH : Holds encStr w blk off ss.toArray) (hblk : blk < w.heap.size) (hsz : ss.length < 4611686018427387904) :
    Calls Tryz.prog 110 #[.slice (some ⟨blk, off, none⟩) ss.length cap] w fun e w' =>
      e = .returned (.tuple #[]) ∧ ∃ n os, w' = grow (putRow encStr (Sort.ahead w n) blk off (ss.mergeSort fun x y => decide (x ≤ y)).toArray) os := Any.slices_Sort_string Tryz.lays190 blk off cap ss w hH hblk hsz
def Tryz.laysNm215_ren : Go.Shelf.Ren := ⟨fun | 15 => 70 | n => n, fun | 22 => 22 | 3 => 3 | 4 => 4 | n => n, fun | n => n⟩
theorem Tryz.laysNm215 : Go.Proofs.Lays2.n15 Tryz.prog Tryz.laysNm215_ren := {
  mixed := by kernel_rfl
  f15 := Tryz.func70.trans (congrArg some (by kernel_rfl))
  t3 := Tryz.underlying3
  a3 := Tryz.isAgg3
  z3 := Tryz.sizeOf3
  v3 := Tryz.zeroValue3
  t4 := Tryz.underlying4
  a4 := Tryz.isAgg4
  z4 := Tryz.sizeOf4
  v4 := Tryz.zeroValue4
  t22 := Tryz.underlying22
  a22 := Tryz.isAgg22
  z22 := Tryz.sizeOf22
  v22 := Tryz.zeroValue22
  i3 := by kernel_rfl }
open Go.RowKit Go.Lib in
/-- slices.Clone at []int: "Clone returns a copy of the slice. The elements are copied using assignment, so this is a shallow clone. The result may have additional unused capacity. The result preserves the nilness of s.": OF A SLICE THAT IS NOT nil IT RETURNS A SLICE THAT IS NOT nil, OF THE SAME ELEMENTS, IN MEMORY OF THE CALL's OWN: in the how-to's words (6f): 'w'.ownsRow B e 1 v' n cells': v' begins at the head of a row among the blocks from B on (B: the heap's size at the call), not frozen, whose first cells are the elements · 'Below B w w'': below B all is as it was. The capacity is whatever the run-time gives. 'zs': what the cells behind the slice's address hold; 'zs.take n': its elements. (LAID: no walk: one application.) -/
theorem Tryz.slices_Clone_int (b off n c : Nat) (zs : List Int) (w : World) (hz : n ≤ zs.length) (hbig : n * 8 ≤ 140737488355328) (hc : ∀ j, j < zs.length → w.cell? ⟨b, off + j, none⟩ = some (.int .i64 (zs.getD j 0))) :
    Calls Tryz.prog 70 #[.slice (some ⟨b, off, none⟩) n c] w fun e w' => ∃ v', e = .returned v' ∧ w'.ownsRow w.heap.size 3 1 v' n ((zs.take n).map (Value.int .i64)) ∧ v' ≠ .slice none 0 0 ∧ Below w.heap.size w w' := Any.slices_Clone_int Tryz.laysNm215 b off n c zs w hz hbig hc
open Go.RowKit Go.Lib in
/-- The same at nil: nil comes back; the world is as it was. (LAID: no walk: one application.) -/
theorem Tryz.slices_Clone_int_nil (n c : Nat) (w : World) :
    Calls Tryz.prog 70 #[.slice none n c] w fun e w' => e = .returned (.slice none 0 0) ∧ w' = w := Any.slices_Clone_int_nil Tryz.laysNm215 n c w
open Go.RowKit Go.Lib in
/-- The same at a slice of length 0 that is not nil, WHATEVER ITS ADDRESS (no cell is asked for): a slice that is not nil and owns nothing comes back. (LAID: no walk: one application.) -/
theorem Tryz.slices_Clone_int_zero (a : Addr) (c : Nat) (w : World) :
    Calls Tryz.prog 70 #[.slice (some a) 0 c] w fun e w' => ∃ v', e = .returned v' ∧ w'.ownsRow w.heap.size 3 1 v' 0 [] ∧ v' ≠ .slice none 0 0 ∧ Below w.heap.size w w' := Any.slices_Clone_int_zero Tryz.laysNm215 a c w
def Tryz.laysNm237_ren : Go.Shelf.Ren := ⟨fun | 37 => 112 | n => n, fun | 3 => 3 | 4 => 4 | n => n, fun | n => n⟩
theorem Tryz.laysNm237 : Go.Proofs.Lays2.n37 Tryz.prog Tryz.laysNm237_ren := {
  mixed := by kernel_rfl
  f37 := Tryz.func112.trans (congrArg some (by kernel_rfl))
  t3 := Tryz.underlying3
  a3 := Tryz.isAgg3
  z3 := Tryz.sizeOf3
  v3 := Tryz.zeroValue3
  t4 := Tryz.underlying4
  a4 := Tryz.isAgg4
  z4 := Tryz.sizeOf4
  v4 := Tryz.zeroValue4 }
open Go.RowKit Go.Lib in
/-- cmp.isNaN[int]: 'x != x': false. (LAID: no walk: one application.) -/
theorem Tryz.cmp_isNaN_int2 (x : Int) (w : World) :
    Calls Tryz.prog 112 #[.int .i64 x] w fun e w' => e = .returned (.bool false) ∧ w' = w := Any.cmp_isNaN_int2 Tryz.laysNm237 x w
def Tryz.laysNm232_ren : Go.Shelf.Ren := ⟨fun | 32 => 103 | n => n, fun | 3 => 3 | 4 => 4 | n => n, fun | n => n⟩
theorem Tryz.laysNm232 : Go.Proofs.Lays2.n32 Tryz.prog Tryz.laysNm232_ren := {
  mixed := by kernel_rfl
  f32 := Tryz.func103.trans (congrArg some (by kernel_rfl))
  t3 := Tryz.underlying3
  a3 := Tryz.isAgg3
  z3 := Tryz.sizeOf3
  v3 := Tryz.zeroValue3
  t4 := Tryz.underlying4
  a4 := Tryz.isAgg4
  z4 := Tryz.sizeOf4
  v4 := Tryz.zeroValue4 }
open Go.RowKit Go.Lib in
/-- slices.isNaN[int]: 'x != x': false. (LAID: no walk: one application.) -/
theorem Tryz.slices_isNaN_int2 (x : Int) (w : World) :
    Calls Tryz.prog 103 #[.int .i64 x] w fun e w' => e = .returned (.bool false) ∧ w' = w := Any.slices_isNaN_int2 Tryz.laysNm232 x w
def Tryz.laysNm231_ren : Go.Shelf.Ren := ⟨fun | 31 => 102 | 37 => 112 | n => n, fun | 3 => 3 | 4 => 4 | n => n, fun | n => n⟩
theorem Tryz.laysNm231 : Go.Proofs.Lays2.n31 Tryz.prog Tryz.laysNm231_ren := {
  mixed := by kernel_rfl
  f31 := Tryz.func102.trans (congrArg some (by kernel_rfl))
  f37 := Tryz.func112.trans (congrArg some (by kernel_rfl))
  t3 := Tryz.underlying3
  a3 := Tryz.isAgg3
  z3 := Tryz.sizeOf3
  v3 := Tryz.zeroValue3
  t4 := Tryz.underlying4
  a4 := Tryz.isAgg4
  z4 := Tryz.sizeOf4
  v4 := Tryz.zeroValue4 }
open Go.RowKit Go.Lib in
/-- cmp.Less[int]: "Less reports whether x is less than y.": 'x < y'; the world is as it was. (LAID: no walk: one application.) -/
theorem Tryz.cmp_Less_int2 (x y : Int) (w : World) :
    Calls Tryz.prog 102 #[.int .i64 x, .int .i64 y] w fun e w' => e = .returned (.bool (decide (x < y))) ∧ w' = w := Any.cmp_Less_int2 Tryz.laysNm231 x y w
def Tryz.laysNm225_ren : Go.Shelf.Ren := ⟨fun | 25 => 84 | 31 => 102 | 32 => 103 | 37 => 112 | n => n, fun | 22 => 22 | 3 => 3 | 4 => 4 | 40 => 162 | 0 => 0 | n => n, fun | n => n⟩
theorem Tryz.laysNm225 : Go.Proofs.Lays2.n25 Tryz.prog Tryz.laysNm225_ren := {
  mixed := by kernel_rfl
  f25 := Tryz.func84.trans (congrArg some (by kernel_rfl))
  f31 := Tryz.func102.trans (congrArg some (by kernel_rfl))
  f32 := Tryz.func103.trans (congrArg some (by kernel_rfl))
  f37 := Tryz.func112.trans (congrArg some (by kernel_rfl))
  t0 := Tryz.underlying0
  a0 := Tryz.isAgg0
  z0 := Tryz.sizeOf0
  v0 := Tryz.zeroValue0
  t3 := Tryz.underlying3
  a3 := Tryz.isAgg3
  z3 := Tryz.sizeOf3
  v3 := Tryz.zeroValue3
  t4 := Tryz.underlying4
  a4 := Tryz.isAgg4
  z4 := Tryz.sizeOf4
  v4 := Tryz.zeroValue4
  t22 := Tryz.underlying22
  a22 := Tryz.isAgg22
  z22 := Tryz.sizeOf22
  v22 := Tryz.zeroValue22
  t40 := Tryz.underlying162
  a40 := Tryz.isAgg162
  z40 := Tryz.sizeOf162
  v40 := Tryz.zeroValue162 }
open Go.RowKit Go.Lib in
/-- slices.BinarySearch at []int: "BinarySearch searches for target in a sorted slice and returns the earliest position where target is found, or the position where target would appear in the sort order; it also returns a bool saying whether the target is really found in the slice. The slice must be sorted in increasing order.": OF A SORTED SLICE IT RETURNS how many elements are less than the target, and whether the target is among the elements; the world is as it was but for the count of draws. 'zs': what the cells behind the slice's address hold; 'zs.take n': its elements. (Of a slice that is not sorted: no contract here.) (LAID: no walk: one application.) -/
theorem Tryz.slices_BinarySearch_int (b off n c : Nat) (zs : List Int) (x : Int) (w : World) (hz : n ≤ zs.length) (hbig : n < 4611686018427387904) (hc : ∀ j, j < zs.length → w.cell? ⟨b, off + j, none⟩ = some (.int .i64 (zs.getD j 0))) (hs : (zs.take n).Pairwise (· ≤ ·)) :
    Calls Tryz.prog 84 #[.slice (some ⟨b, off, none⟩) n c, .int .i64 x] w fun e w' => e = .returned (.tuple #[.int .i64 ((zs.take n).countP (· < x) : Nat), .bool ((zs.take n).contains x)]) ∧ ∃ q, w' = w.drewN q := Any.slices_BinarySearch_int Tryz.laysNm225 b off n c zs x w hz hbig hc hs
open Go.RowKit Go.Sort in
/-- .. and plain. (LAID: no walk: one application.) -/
theorem Tryz.slices_Sort_string_none (p : Option Addr) (cap : Nat) (w : World) :
    Calls Tryz.prog 110 #[.slice p 0 cap] w fun e w' => e = .returned (.tuple #[]) ∧ w' = w := Any.slices_Sort_string_none Tryz.lays190 p cap w
open Go.RowKit Go.Sort in
/-- .. and plain. (LAID: no walk: one application.) -/
theorem Tryz.slices_Sort_int_none (p : Option Addr) (cap : Nat) (w : World) :
    Calls Tryz.prog 93 #[.slice p 0 cap] w fun e w' => e = .returned (.tuple #[]) ∧ w' = w := Any.slices_Sort_int_none Tryz.lays189 p cap w
open Go.RowKit Go.Lib in
/-- slices.BinarySearch at []int of no element: position 0, not found; the world is as it was. (LAID: no walk: one application.) -/
theorem Tryz.slices_BinarySearch_int_empty (a : Option Addr) (c : Nat) (x : Int) (w : World) :
    Calls Tryz.prog 84 #[.slice a 0 c, .int .i64 x] w fun e w' => e = .returned (.tuple #[.int .i64 0, .bool false]) ∧ w' = w := Any.slices_BinarySearch_int_empty Tryz.laysNm225 a c x w
def Tryz.laysSlE041_f70_ren : Go.Shelf.Ren := ⟨fun | 41 => 70 | n => n, fun | 22 => 22 | 23 => 3 | 4 => 4 | n => n, fun | n => n⟩
theorem Tryz.laysSlE041_f70 : Go.Proofs.SlLaysE0.n41 Tryz.prog Tryz.laysSlE041_f70_ren := {
  mixed := by kernel_rfl
  f41 := ⟨Tryz.f70.name, by decide, Tryz.func70.trans (congrArg some (by kernel_rfl))⟩
  t4 := Tryz.underlying4
  a4 := Tryz.isAgg4
  z4 := Tryz.sizeOf4
  v4 := Tryz.zeroValue4
  t22 := Tryz.underlying22
  a22 := Tryz.isAgg22
  z22 := Tryz.sizeOf22
  v22 := Tryz.zeroValue22 }
open Go.RowKit Go.Lib in
/-- slices.Clone: "Clone returns a copy of the slice. The elements are copied using assignment, so this is a shallow clone. The result may have additional unused capacity. The result preserves the nilness of s.": OF A SLICE THAT IS NOT nil IT RETURNS A SLICE THAT IS NOT nil, OF THE SAME CELLS, IN MEMORY OF THE CALL's OWN ('ownsRow': the how-to's 6f); below the heap's size at the call all is as it was. (LAID AT THE INSTANCE 'slices.Clone[[]int,int]': no walk: one application.) -/
theorem Tryz.slices_Clone (i0 : TypeInfo) (z : Value) (size bytes : Nat) (hi : Tryz.prog.info? 3 = some i0) (hz0 : i0.zero = some z) (hz1 : i0.size = size) (hz2 : i0.bytes = bytes) (hzs : z.cells.size = size) (hsz : 0 < size) (z23 : ∀ w, (Go.sizeOf 3).run Tryz.prog w = .ok size w) (b off n c : Nat) (news : List Value) (w : World) (hl : news.length = n * size) (hn : n ≤ maxLen) (hbig : n * bytes ≤ 140737488355328) (hc : ∀ j u, news[j]? = some u → w.cell? ⟨b, off + j, none⟩ = some u) (h1 : ∀ u ∈ news, u.oneCell' = true) :
    Calls Tryz.prog 70 #[.slice (some ⟨b, off, none⟩) n c] w fun e w' => ∃ v', e = .returned v' ∧ w'.ownsRow w.heap.size 3 size v' n news ∧ v' ≠ .slice none 0 0 ∧ Below w.heap.size w w' := AnyE.slices_Clone Tryz.laysSlE041_f70 i0 z size bytes hi hz0 hz1 hz2 hzs hsz z23 b off n c news w hl hn hbig hc h1
open Go.RowKit Go.Lib in
/-- The same at nil: nil comes back; the world is as it was; nothing is asked of the element's type. (LAID AT THE INSTANCE 'slices.Clone[[]int,int]': no walk: one application.) -/
theorem Tryz.slices_Clone_nil (n c : Nat) (w : World) :
    Calls Tryz.prog 70 #[.slice none n c] w fun e w' => e = .returned (.slice none 0 0) ∧ w' = w := AnyE.slices_Clone_nil Tryz.laysSlE041_f70 n c w
end Go.Proofs

/-
  LAYER 1 (fs): slices.Values, Collect, Sorted at ints.
-/
namespace Go.Proofs.YtcehddlplkfflaaGreat
set_option maxRecDepth 100000
open Go.RowKit Go.Lib
attribute [local go_sem] Oper.semAt_some

def intV (x : Int) : Value := .int .i64 x
/-- A slice of ints reads as zs; or it is empty with an address that need lead nowhere. -/
def Ints (w : World) (v : Value) (zs : List Int) : Prop := Row w v (zs.map intV) ∨ ∃ ad : Addr, v = .slice (some ad) 0 0 ∧ zs = []

theorem Row.form {w : World} {v : Value} {vs : List Value} (h : Row w v vs) : ∃ a c, v = .slice a vs.length c := by
  rcases h with ⟨rfl, rfl⟩ | ⟨b, off, cap, rfl, _⟩
  · exact ⟨none, 0, rfl⟩
  · exact ⟨_, _, rfl⟩
theorem Row.len {w : World} {a : Option Addr} {l c : Nat} {vs : List Value} (h : Row w (.slice a l c) vs) : l = vs.length ∧ l ≤ c ∧ c ≤ maxLen := by
  rcases h with ⟨h, rfl⟩ | ⟨b, off, cap, h, h1, h2, _⟩
  · simp at h
    obtain ⟨rfl, rfl, rfl⟩ := h
    simp
  · simp at h
    obtain ⟨rfl, rfl, rfl⟩ := h
    exact ⟨rfl, h1, h2⟩
theorem Row.get {w : World} {a : Option Addr} {l c : Nat} {vs : List Value} (h : Row w (.slice a l c) vs) {i : Nat} (hi : i < vs.length) : ∃ b off, a = some ⟨b, off, none⟩ ∧ w.cell? ⟨b, off + i, none⟩ = some vs[i] := by
  rcases h with ⟨_, rfl⟩ | ⟨b, off, cap, h, _, _, hc⟩
  · simp at hi
  · simp at h
    obtain ⟨rfl, _, _⟩ := h
    exact ⟨b, off, rfl, hc i _ (List.getElem?_eq_getElem hi)⟩
theorem Row.heap {A B : World} {v : Value} {vs : List Value} (h : Row A v vs) (hb : vs ≠ [] → ∀ k, v.ownBlock = some k → B.heap[k]? = A.heap[k]?) : Row B v vs := by
  rcases h with h | ⟨b, off, cap, rfl, h1, h2, hc⟩
  · exact .inl h
  · refine .inr ⟨b, off, cap, rfl, h1, h2, fun i u hu => ?_⟩
    have hn : vs ≠ [] := by rintro rfl; simp at hu
    have := hb hn b rfl
    have h3 := hc i u hu
    simp only [World.cell?] at h3 ⊢
    rw [this]; exact h3

theorem Ints.len {w : World} {a : Option Addr} {l c : Nat} {zs : List Int} (h : Ints w (.slice a l c) zs) : l = zs.length ∧ l ≤ c ∧ c ≤ maxLen := by
  rcases h with h | ⟨ad, h, rfl⟩
  · simpa using h.len
  · simp at h
    obtain ⟨rfl, rfl, rfl⟩ := h
    simp
theorem Ints.form {w : World} {v : Value} {zs : List Int} (h : Ints w v zs) : ∃ a c, v = .slice a zs.length c := by
  rcases h with h | ⟨ad, rfl, rfl⟩
  · simpa using h.form
  · exact ⟨some ad, 0, rfl⟩
theorem Ints.get {w : World} {a : Option Addr} {l c : Nat} {zs : List Int} (h : Ints w (.slice a l c) zs) {i : Nat} (hi : i < zs.length) : ∃ b off, a = some ⟨b, off, none⟩ ∧ w.cell? ⟨b, off + i, none⟩ = some (intV zs[i]) := by
  rcases h with h | ⟨ad, h, rfl⟩
  · obtain ⟨b, off, h1, h2⟩ := Row.get h (i := i) (by simpa using hi)
    exact ⟨b, off, h1, by simpa using h2⟩
  · simp at hi
theorem Ints.heap {A B : World} {v : Value} {zs : List Int} (h : Ints A v zs) (hb : zs ≠ [] → ∀ k, v.ownBlock = some k → B.heap[k]? = A.heap[k]?) : Ints B v zs :=
  h.imp (fun h => Row.heap h (fun hne => hb (by simpa using hne))) id
theorem Ints.lt {w : World} {v : Value} {zs : List Int} (h : Ints w v zs) (hn : zs ≠ []) : ∀ k, v.ownBlock = some k → k < w.heap.size := by
  rcases h with (⟨rfl, h⟩ | ⟨b, off, cap, rfl, _, _, hc⟩) | ⟨ad, rfl, rfl⟩
  · simp at h; exact absurd h hn
  · intro k hk
    simp [Value.ownBlock] at hk
    subst hk
    obtain ⟨u, l, rfl⟩ := List.exists_cons_of_ne_nil hn
    exact World.block_lt_of_cell? w _ (hc 0 _ rfl)
  · exact absurd rfl hn
/-- What was there is read on as it was. -/
theorem Ints.all {w w' : World} {v : Value} {zs : List Int} (h : Ints w v zs) (hg : w.grownBy w' none) : Ints w' v zs :=
  h.heap fun hne k e => hg.block k (h.lt hne k e) (by simp)

abbrev ITold := Int
def iEnc (x : ITold) : Array Value := #[.int .i64 x]
def iOk (zs : List Int) (pre : List ITold) (x : ITold) (_W : World) : Prop := zs[pre.length]? = some x
def iAll (zs : List Int) (xs : List ITold) (_W : World) : Prop := xs = zs

set_option maxHeartbeats 8000000 in
theorem values1_tells (n p n0 ib : Nat) (a : Option Addr) (l c : Nat) (zs : List Int) (w : World) (hw : Boxed w p 22 (.slice a l c)) (hr : Ints w (.slice a l c) zs)
    (hp : p < n0 ∧ p ≠ ib) (hv : zs ≠ [] → ∀ k, (Value.slice a l c).ownBlock = some k → k < n0 ∧ k ≠ ib) :
    TellsO Fence.wide (n + 3) Tryz.prog 94 #[.pointer (some ⟨p, 0, none⟩)] iEnc (iOk zs) none n0 ib (iAll zs) (fun _ _ => True) w := by
  obtain ⟨rfl, hc, hm⟩ := hr.len
  unfold maxLen at hm
  intro l J Jx W hkx hn0 hJ hJx hY h0
  have hst : Boxed W p 22 (.slice a zs.length c) := (hkx.2 p hp.1 hp.2).trans hw
  have hrW : Ints W (.slice a zs.length c) zs := hr.heap (fun hne k e => hkx.2 k (hv hne k e).1 (hv hne k e).2)
  clear hw hr hkx
  have hc1 := hst.cell
  refine callsIn_of_wp Tryz.func94 rfl trivial ?_ rfl
  simp only [Tryz.ntmps94, List.size_toArray, List.length_cons, List.length_nil, Nat.reduceAdd, Nat.reduceSub, Array.replicate_succ, Array.replicate_zero, List.push_toArray, List.append_toArray, List.nil_append, List.cons_append]
  gi_wp2
  gi_loopw [7] (fun va wr => ∃ (pre : List ITold) (k : Nat), va = .int .i64 (k : Int) ∧ Hid (pre = zs.take k) ∧ k ≤ zs.length ∧ J pre wr ∧ Ints wr (.slice a zs.length c) zs ∧ n0 ≤ wr.heap.size) (fun va _ => zs.length - (RowKit.intOf va).toNat)
  case atStart => exact ⟨[], 0, rfl, Lib.hid rfl, Nat.zero_le _, h0, hrW, hn0⟩
  case round =>
    clear h0 hst hrW hn0 hc1
    obtain ⟨pre, k, rfl, hpl, hk, hj, hR, hn0⟩ := hrel
    have hpk : pre.length = k := by rw [hpl.out]; simp; omega
    by_cases hlt : k < zs.length
    · obtain ⟨b, off, rfl, hcell⟩ := hR.get (i := k) hlt
      unfold intV at hcell
      have hget : zs[pre.length]? = some zs[k] := by rw [hpk]; exact List.getElem?_eq_getElem hlt
      have hnx : Hid (pre ++ [zs[k]] = zs.take (k + 1)) := Lib.hid (by rw [hpl.out, List.take_succ_eq_append_getElem hlt])
      obtain ⟨x, hx⟩ : ∃ x, zs[k] = x := ⟨_, rfl⟩
      rw [hx] at hcell hget hnx
      obtain ⟨fn, tmps, assign, body, hy, hRd⟩ := hY pre x wr hj hget hn0
      dsimp only [iEnc] at hy
      have hRH := Lib.hid hR
      clear hR hget hx hpl
      gi_wp2
      refine hRd.mono ?_
      rintro e3 W5 (⟨rfl, hj3, hk3⟩ | ⟨rfl, hj3, hk3⟩)
      all_goals gi_wp2
      all_goals first
        | exact ⟨⟨pre ++ [x], k + 1, by go_num, hnx, by omega, hj3, hRH.out.heap (fun hne q e => hk3.2 q (hv hne q e).1 (hv hne q e).2), Nat.le_trans hn0 hk3.1⟩, by simp [RowKit.intOf]; omega⟩
        | (refine bodyPost_ret (results_none rfl _ _ _) rfl ?_; exact ⟨⟨_, rfl⟩, .inr ⟨_, trivial, hj3⟩⟩)
        | (go_end0; exact ⟨⟨_, rfl⟩, .inr ⟨_, trivial, hj3⟩⟩)
    · obtain rfl : k = zs.length := by omega
      have hall : iAll zs pre wr := by unfold iAll; rw [hpl.out, List.take_length]
      clear hR
      gi_wp2
      all_goals first
        | (refine bodyPost_ret (results_none rfl _ _ _) rfl ?_; exact ⟨⟨_, rfl⟩, .inl ⟨pre, hall, hj⟩⟩)
        | (go_end0; exact ⟨⟨_, rfl⟩, .inl ⟨pre, hall, hj⟩⟩)

theorem neq_nilSeqI (w : World) (p : Option Addr) : (binOp .eql 117 (.func (.func 94) #[] #[.pointer p]) .nilFunc).run Tryz.prog w = .ok (.bool false) w := by rfl

theorem rowForm {w : World} {B s n : Nat} {e : TypeId} {v : Value} {xs : List Value} (h : w.ownsRow B e s v n xs) : ∃ a c, v = .slice a n c := by
  obtain ⟨_, ⟨rfl, hn⟩ | ⟨g, cap, cur, rfl, _⟩⟩ := h
  · exact ⟨none, 0, by rw [hn]⟩
  · exact ⟨_, _, rfl⟩
theorem infoInt : (Tryz.prog.info? 3).map (fun i => (i.zero, i.size, i.bytes)) = some (some (.int .i64 0), 1, 8) := by kernel_rfl
theorem infoInt_parts : ∃ i0 : TypeInfo, Tryz.prog.info? 3 = some i0 ∧ i0.zero = some (.int .i64 0) ∧ i0.size = 1 ∧ i0.bytes = 8 := by
  have h := infoInt
  cases hi : Tryz.prog.info? 3 with
  | none => rw [hi] at h; cases h
  | some i =>
    rw [hi] at h
    simp only [Option.map_some, Option.some.injEq, Prod.mk.injEq] at h
    exact ⟨i, rfl, h.1, h.2.1, h.2.2⟩

set_option maxHeartbeats 8000000 in
theorem appendSeq_ints (p : Nat) (a : Option Addr) (l c : Nat) (zs : List Int) (w : World) (hw : Boxed w p 22 (.slice a l c)) (hr : Ints w (.slice a l c) zs)
    (hv : zs ≠ [] → ∀ k, (Value.slice a l c).ownBlock = some k → k < w.heap.size) (hlim : zs.length * 8 ≤ 140737488351232) :
    CallsIn Fence.wide 8 Tryz.prog 106 #[.slice none 0 0, .func (.func 94) #[] #[.pointer (some ⟨p, 0, none⟩)]] w fun e w' => ∃ v, e = .returned v ∧ w'.ownsRow w.heap.size 3 1 v zs.length (zs.map intV) ∧ w.grownBy w' none := by
  have hpl := hw.lt
  obtain ⟨i0, hi, hz0, hz1, hz2⟩ := infoInt_parts
  obtain ⟨W0, hW0⟩ : ∃ W0, W0 = w.alloc (.cells #[.slice none 0 0] 22) := ⟨_, rfl⟩
  have hB0 : Boxed W0 w.heap.size 22 (.slice none 0 0) := by rw [hW0]; exact Boxed.new w _ _
  have hg0 : w.grownBy W0 none := by rw [hW0]; exact World.grownBy_alloc w _ none
  have hs0 : W0.heap.size = w.heap.size + 1 := by rw [hW0]; simp
  have hw0 := hw.kept hg0 (by simp)
  have hr0 : Ints W0 (.slice a l c) zs := hr.heap (fun hne k e => hg0.block k (hv hne k e) (by simp))
  refine callsIn_of_wp_marks Tryz.func106 rfl trivial ?_ rfl
  simp only [Tryz.ntmps106, List.size_toArray, List.length_cons, List.length_nil, Nat.reduceAdd, Nat.reduceSub, Array.replicate_succ, Array.replicate_zero, List.push_toArray, List.append_toArray, List.nil_append, List.cons_append]
  gi_wp2_with fail
  rw [← hW0]
  clear hW0
  have hTell := values1_tells 4 p W0.heap.size w.heap.size a l c zs W0 hw0 hr0 (by omega) (fun hne k e => by have := hv hne k e; omega)
  refine range_tells3 (a := _) (w := W0) (α := ITold) rfl (by omega) (gf := 94) (lb := #[.pointer (some ⟨p, 0, none⟩)]) rfl trivial (enters_of Tryz.func94 (by kernel_rfl) rfl)
    hTell (by simp) (fun _ => rfl) (fun _ _ _ _ _ _ h _ _ _ => h)
    (fun pre W => ∃ v, Boxed W w.heap.size 22 v ∧ W.ownsRow (w.heap.size + 1) 3 1 v pre.length (pre.map intV) ∧ KeptX W0.heap.size w.heap.size W0 W ∧ Below w.heap.size w W) (fun _ _ _ => False)
    ?hI (fun _ _ _ _ _ h _ _ => h.elim) ⟨_, hB0, World.ownsRow_nil _ _ _ _, KeptX.refl _, gbelow hg0 (Nat.le_refl _) (by simp)⟩ ?a1 ?assign ?body ?done ?stop
  case hI =>
    rintro pre A B k ⟨v, h1, h2, h3, h4⟩ hg hk
    rcases hk with rfl | ⟨q, rfl, hq, ho⟩
    · exact ⟨v, h1.kept hg (by simp), h2.kept hg (by cases v.ownBlock <;> simp), h3.trans ⟨hg.size, fun i hi _ => hg.block i (Nat.lt_of_lt_of_le hi h3.1) (by simp)⟩, h4.trans (gbelow hg h4.size (by simp))⟩
    · refine ⟨v, h1.kept hg (by simp; omega), h2.kept hg ?_, h3.trans (KeptX.grown hg h3.1 (.inr hq)), h4.trans (gbelow hg h4.size (by simp; omega))⟩
      obtain ⟨_, ⟨rfl, _⟩ | ⟨g, cap, cur, rfl, _, hgg, _⟩⟩ := h2
      · exact .inl rfl
      · right
        intro e
        simp only [Value.ownBlock, Option.some.injEq] at e
        subst e
        have := ho _ hgg
        cases this
  case assign =>
    intro l x W K hK
    dsimp only [iEnc]
    gi_wp2
    exact hK
  case body =>
    rintro l2 pre x W ⟨v, h1, h2, h3, h4⟩ hget hsz
    have hpz : pre.length < zs.length := (List.getElem?_eq_some_iff.1 hget).1
    have r1 := h1.cell
    have r2 := h1.frozen
    clear hTell hw hr hv hw0 hr0 hB0
    gi_wp2_with (gi_at_builtin; refine wpListIn_append_own _ rfl _ _ 22 rfl (w.heap.size + 1) 3 i0 (.int .i64 0) 1 8 Tryz.underlying22 hi hz0 hz1 hz2 rfl (by decide) _ _ _ rfl (h2.alloc _) ⟨W.heap.size, 0, none⟩ 1 1 [intV x] rfl rfl ?c1 ?c2 ?c3 ?c4 ?c5 ?_)
    case c1 =>
      intro j u hj
      match j, hj with
      | 0, hj => simp at hj; subst hj; simp [Addr.add, intV]
    case c2 => intro u hu; simp at hu; subst hu; rfl
    case c3 => unfold maxLen; omega
    case c4 => omega
    case c5 => simp; omega
    intro v' W1 hown' hgrow _
    obtain ⟨a', c', rfl⟩ := rowForm hown'
    have hvb : ∀ q, v.ownBlock = some q → W0.heap.size ≤ q ∧ q < W.heap.size := fun q e => by have := World.ownsRow.lt h2 q e; omega
    have gW : W.grownBy W1 v.ownBlock := (gbut (World.grownBy_alloc W _ none) _).trans hgrow
    have hne : v.ownBlock ≠ some w.heap.size := fun e => by have := hvb _ e; omega
    have h1' := h1.kept gW (Ne.symm hne)
    have r3 := h1'.cell
    have r4 := h1'.frozen
    have hko : KeepsOthers W W1 := KeepsOthers.of_grownBy gW (by
      rintro j o hj ho
      obtain ⟨_, ⟨rfl, _⟩ | ⟨g, cap, cur, rfl, _, hgg, _⟩⟩ := h2
      · cases hj
      · simp only [Value.ownBlock, Option.some.injEq] at hj
        subst hj
        rw [hgg] at ho
        cases ho
        rfl)
    have hkx : KeptX W0.heap.size w.heap.size W W1 := ⟨gW.size, fun k hk _ => gW.block k (by omega) (fun e => by have := hvb k e.symm; omega)⟩
    have hbw : Below w.heap.size W W1 := gbelow gW h4.size (fun q e => by have := hvb q e; omega)
    have hown2 : W1.ownsRow (w.heap.size + 1) 3 1 (.slice a' (pre.length + 1) c') (pre ++ [x]).length ((pre ++ [x]).map intV) := by
      simpa using hown'
    have hvb2 := World.ownsRow.lt hown2
    replace hown2 := Lib.hid hown2
    replace h1' := Lib.hid h1'
    replace hko := Lib.hid hko
    replace hkx := Lib.hid hkx
    replace hbw := Lib.hid hbw
    replace h3 := Lib.hid h3
    replace h4 := Lib.hid h4
    clear hown' hgrow h2 h1 r1 r2
    gi_wp2_with fail
    have gs := gset (World.grownBy.refl W1 (some w.heap.size)) 0 (.slice a' (pre.length + 1) c')
    refine ⟨hko.out.trans (KeepsOthers.setCell W1 _ _), hkx.out.trans (KeptX.grown gs (Nat.le_trans hsz hkx.out.1) (.inl rfl)), _, h1'.out.set _, hown2.out.kept gs ?_, (h3.out.trans hkx.out).trans (KeptX.grown gs (Nat.le_trans hsz hkx.out.1) (.inl rfl)), (h4.out.trans hbw.out).trans (gbelow gs (Nat.le_trans h4.out.size hbw.out.size) (by simp))⟩
    right
    intro e
    have := hvb2 _ e
    omega
  case stop =>
    rintro D c pre Wd W15 hD _ h _ _
    exact h.elim
  case done =>
    rintro D xs Wd W15 hD hS ⟨v, h1, h2, h3, h4⟩ hg hM
    obtain rfl : xs = zs := hS
    obtain ⟨a', c', rfl⟩ := rowForm h2
    have r1 := h1.cell
    have hDD : w.heap.size ≠ D := by omega
    clear hTell hw hr hv hw0 hr0 hB0
    gi_wp2_with fail
    refine ⟨by simp, .inl ⟨_, _, rfl, run_takeDeferred hM, ?_⟩⟩
    have gp := grownBy_putObj' W15 D (.deferred none)
    have hown : (W15.putObj D (.deferred none)).ownsRow w.heap.size 3 1 (.slice a' xs.length c') xs.length (xs.map intV) := by
      have h2' : W15.ownsRow w.heap.size 3 1 (.slice a' xs.length c') xs.length (xs.map intV) := by
        obtain ⟨q1, q2 | ⟨g, cap, cur, q3, q4, q5⟩⟩ := h2
        · exact ⟨q1, .inl q2⟩
        · exact ⟨q1, .inr ⟨g, cap, cur, q3, by omega, q5⟩⟩
      refine h2'.kept gp ?_
      obtain ⟨_, ⟨q2, _⟩ | ⟨g, cap, cur, q3, _, hgg, _⟩⟩ := h2
      · left; rw [q2]; rfl
      · right
        rw [q3]
        intro e
        simp only [Value.ownBlock, Option.some.injEq] at e
        subst e
        rw [hM] at hgg
        cases hgg
    have hb19 : Below w.heap.size w (W15.putObj D (.deferred none)) := h4.trans (gbelow gp h4.size (by simp; omega))
    have hgw := belowg hb19 none
    clear gp hb19 h1 h2 h3 h4 hg hM r1
    generalize W15.putObj D (.deferred none) = W19 at hown hgw ⊢
    simp [LeavesInM, LeavesIn, results, Tryz.results106, go_sem]
    exact ⟨hown, hgw⟩

theorem appendSeq_calls (p : Nat) (a : Option Addr) (l c : Nat) (zs : List Int) (w : World) (hw : Boxed w p 22 (.slice a l c)) (hr : Ints w (.slice a l c) zs)
    (hv : zs ≠ [] → ∀ k, (Value.slice a l c).ownBlock = some k → k < w.heap.size) (hlim : zs.length * 8 ≤ 140737488351232) :
    Calls Tryz.prog 106 #[.slice none 0 0, .func (.func 94) #[] #[.pointer (some ⟨p, 0, none⟩)]] w fun e w' => ∃ v, e = .returned v ∧ w'.ownsRow w.heap.size 3 1 v zs.length (zs.map intV) ∧ w.grownBy w' none :=
  callsIn_wide.1 (appendSeq_ints p a l c zs w hw hr hv hlim)

set_option maxHeartbeats 1000000 in
theorem collect_ints (p : Nat) (a : Option Addr) (l c : Nat) (zs : List Int) (w : World) (hw : Boxed w p 22 (.slice a l c)) (hr : Ints w (.slice a l c) zs)
    (hv : zs ≠ [] → ∀ k, (Value.slice a l c).ownBlock = some k → k < w.heap.size) (hlim : zs.length * 8 ≤ 140737488351232) :
    Calls Tryz.prog 92 #[.func (.func 94) #[] #[.pointer (some ⟨p, 0, none⟩)]] w fun e w' => ∃ v, e = .returned v ∧ w'.ownsRow w.heap.size 3 1 v zs.length (zs.map intV) ∧ w.grownBy w' none := by
  have hA := appendSeq_calls p a l c zs w hw hr hv hlim
  go_enter Tryz.func92, Tryz.ntmps92
  go_wp2_with (go_at_call 106; refine hA.mono ?_; rintro e w1 ⟨v, rfl, ho, hg⟩)
  go_ret
  exact ⟨_, rfl, ho, hg⟩

set_option maxHeartbeats 1000000 in
theorem values_ints (a : Option Addr) (l c : Nat) (w : World) :
    Calls Tryz.prog 72 #[.slice a l c] w fun e w' => e = .returned (.func (.func 94) #[] #[.pointer (some ⟨w.heap.size, 0, none⟩)]) ∧ Boxed w' w.heap.size 22 (.slice a l c) ∧ w.grownBy w' none := by
  have hmf : ∀ (fn : Fn) (first cap : Array Value) (w : World), (Instr.makeFunc fn first cap).run Tryz.prog w = .ok (.func fn first cap) w := fun _ _ _ _ => rfl
  go_enter Tryz.func72, Tryz.ntmps72
  go_wp2
  go_ret
  exact ⟨rfl, Boxed.new w _ _, World.grownBy_alloc w _ none⟩

/-- A list of ints in order. -/
def inOrd (zs : List Int) : List Int := zs.mergeSort fun x y => decide (x ≤ y)
theorem inOrd_length (zs : List Int) : (inOrd zs).length = zs.length := by unfold inOrd; exact List.length_mergeSort ..

theorem sort_own (B : Nat) (v : Value) (zs : List Int) (w : World) (ho : w.ownsRow B 3 1 v zs.length (zs.map intV)) (hsz : zs.length < 4611686018427387904) :
    Calls Tryz.prog 93 #[v] w fun e w' => e = .returned (.tuple #[]) ∧ w'.ownsRow B 3 1 v zs.length ((inOrd zs).map intV) ∧ w.grownBy w' v.ownBlock := by
  obtain ⟨h0, ⟨rfl, hn⟩ | ⟨g, cap, cur, rfl, hB, hgg, h1, h2, h3, h4⟩⟩ := ho
  · obtain rfl := List.length_eq_zero_iff.1 hn
    refine (Tryz.slices_Sort_int_none none 0 w).mono ?_
    rintro e w' ⟨rfl, rfl⟩
    exact ⟨rfl, ⟨by simp [inOrd], .inl ⟨rfl, rfl⟩⟩, World.grownBy.refl _ _⟩
  · have hb : cur.toList.take zs.length = zs.map (Value.int .i64) := by rw [Nat.mul_one] at h4; exact h4
    refine (Tryz.slices_Sort_int g 0 cap zs w (holds_of_blockI hgg hb) (Array.getElem?_eq_some_iff.1 hgg).1 hsz).mono ?_
    rintro e w' ⟨rfl, n, os, rfl⟩
    exact ⟨rfl, ownsRow_sortedI (inOrd_length zs) hB hgg h1 h2 (by simpa using h3), grownBy_sortedI _⟩

set_option maxHeartbeats 1000000 in
theorem sorted_ints (p : Nat) (a : Option Addr) (l c : Nat) (zs : List Int) (w : World) (hw : Boxed w p 22 (.slice a l c)) (hr : Ints w (.slice a l c) zs)
    (hv : zs ≠ [] → ∀ k, (Value.slice a l c).ownBlock = some k → k < w.heap.size) (hlim : zs.length * 8 ≤ 140737488351232) :
    Calls Tryz.prog 71 #[.func (.func 94) #[] #[.pointer (some ⟨p, 0, none⟩)]] w fun e w' => ∃ v, e = .returned v ∧ w'.ownsRow w.heap.size 3 1 v zs.length ((inOrd zs).map intV) ∧ w.grownBy w' none := by
  have hA := collect_ints p a l c zs w hw hr hv hlim
  go_enter Tryz.func71, Tryz.ntmps71
  go_wp2_with (first
    | (go_at_call 92; refine hA.mono ?_; rintro e w1 ⟨v, rfl, ho, hg⟩; have hvb := World.ownsRow.lt ho; have hS := sort_own _ v zs w1 ho (by omega))
    | (go_at_call 93; refine hS.mono ?_; rintro e w2 ⟨rfl, ho2, hg2⟩))
  go_ret
  exact ⟨_, rfl, ho2, gnew hg hg2 (fun q e => .inl (hvb q e).1)⟩
end Go.Proofs.YtcehddlplkfflaaGreat

/-
  LAYER 1 (fs): a directory in memory: a map from names to files' blocks, as a list of pairs; looked up, stored, deleted, counted.
-/
namespace Go.Proofs.YtcehddlplkfflaaGreat
set_option maxRecDepth 100000
open Go.RowKit Go.Lib
open Go.Maps (Keyed)

/-- How a pointer to a file reads: its block; -1 of nil. -/
def ptrEl (v : Value) : Option (DataW Unit × List MemPlace) :=
  match v with
  | .pointer none => some (.lit (.int .i64 (-1)), [])
  | .pointer (some ⟨b, 0, none⟩) => some (.lit (.int .i64 (b : Int)), [])
  | _ => none
def ptrV : Option Nat → Value
  | none => .pointer none
  | some b => .pointer (some ⟨b, 0, none⟩)
def ptrN : Option Nat → Int
  | none => -1
  | some b => (b : Int)
theorem ptrEl_mk (o : Option Nat) : ptrEl (ptrV o) = some (.lit (.int .i64 (ptrN o)), []) := by cases o <;> rfl
theorem ptrEl_inv {v : Value} {o : Option Nat} {ps : List MemPlace} (h : ptrEl v = some (.lit (.int .i64 (ptrN o)), ps)) : v = ptrV o := by
  unfold ptrEl at h
  split at h
  · cases o with
    | none => rfl
    | some b => simp [ptrN] at h
  · cases o with
    | none => simp [ptrN] at h
    | some b =>
      simp [ptrN] at h
      obtain ⟨h, _⟩ := h
      simp only [ptrV]
      congr 3
      omega
  · cases h

abbrev DirL := List (List UInt8 × Nat)
def DirL.look (l : DirL) (x : List UInt8) : Option Nat := (l.find? (fun p => p.1 == x)).map (·.2)
def DirL.drop (l : DirL) (x : List UInt8) : DirL := l.filter (fun p => !(p.1 == x))
def DirL.put (l : DirL) (x : List UInt8) (b : Nat) : DirL := DirL.drop l x ++ [(x, b)]
def DirL.names (l : DirL) : List (List UInt8) := l.map (·.1)

theorem DirL.look_drop_same (l : DirL) (x : List UInt8) : (DirL.drop l x).look x = none := by
  unfold DirL.look DirL.drop
  rw [List.find?_eq_none.2]
  · rfl
  · intro p hp
    have := (List.mem_filter.1 hp).2
    simpa using this
theorem DirL.look_drop_other (l : DirL) {x y : List UInt8} (h : y ≠ x) : (DirL.drop l x).look y = l.look y := by
  unfold DirL.look DirL.drop
  congr 1
  induction l with
  | nil => rfl
  | cons p l ih =>
    by_cases h1 : p.1 = x
    · have h2 : ¬ p.1 = y := fun e => h (by rw [← e, h1])
      simp [h1, ih, Ne.symm h]
    · by_cases h2 : p.1 = y
      · simp [h2, h]
      · simp [h1, h2, ih]
theorem DirL.look_append (l m : DirL) (x : List UInt8) : DirL.look (l ++ m) x = (l.look x).or (DirL.look m x) := by
  unfold DirL.look
  rw [List.find?_append]
  cases List.find? (fun p => p.1 == x) l <;> rfl
theorem DirL.look_put_same (l : DirL) (x : List UInt8) (b : Nat) : (DirL.put l x b).look x = some b := by
  unfold DirL.put
  rw [DirL.look_append, DirL.look_drop_same]
  simp [DirL.look]
theorem DirL.look_put_other (l : DirL) {x y : List UInt8} (h : y ≠ x) (b : Nat) : (DirL.put l x b).look y = l.look y := by
  unfold DirL.put
  rw [DirL.look_append, DirL.look_drop_other l h]
  simp [DirL.look, Ne.symm h]
theorem DirL.nodup_drop {l : DirL} (h : l.names.Nodup) (x : List UInt8) : (DirL.drop l x).names.Nodup := by
  unfold DirL.names DirL.drop at *
  exact h.sublist (List.Sublist.map _ List.filter_sublist)
theorem DirL.nodup_put {l : DirL} (h : l.names.Nodup) (x : List UInt8) (b : Nat) : (DirL.put l x b).names.Nodup := by
  have h2 := DirL.nodup_drop h x
  unfold DirL.names DirL.put at *
  rw [List.map_append, List.nodup_append]
  refine ⟨h2, by simp, fun a ha c hc e => ?_⟩
  simp at hc
  subst hc
  subst e
  obtain ⟨p, hp, rfl⟩ := List.mem_map.1 ha
  have := (List.mem_filter.1 hp).2
  simp at this
theorem DirL.look_mem {l : DirL} {x : List UInt8} {b : Nat} (h : l.look x = some b) : (x, b) ∈ l := by
  unfold DirL.look at h
  cases hf : List.find? (fun p => p.1 == x) l with
  | none => rw [hf] at h; cases h
  | some p =>
    rw [hf] at h
    have h1 := List.find?_some hf
    have h2 := List.mem_of_find?_eq_some hf
    simp at h h1
    obtain ⟨a, c⟩ := p
    simp at h h1
    subst h h1
    exact h2
theorem DirL.look_names {l : DirL} {x : List UInt8} : (l.look x).isSome = true ↔ x ∈ l.names := by
  unfold DirL.look DirL.names
  rw [Option.isSome_map, List.find?_isSome]
  simp

/-- Block d holds a directory that reads as l (no name twice; in whatever order). -/
def DirM (w : World) (d : Nat) (l : DirL) : Prop :=
  l.names.Nodup ∧ (∀ x ∈ l.names, x.length ≤ maxLen) ∧ ∃ (n : Nat) (D : DataW Unit), w.ownsMap Tryz.prog 9 ptrEl d n D ∧ ∀ x, Go.Maps.has D (.string x) = (l.look x).isSome ∧ D.atKey (.string x) (.lit (.int .i64 (-1))) = .lit (.int .i64 (ptrN (l.look x)))

theorem DirM.made (w : World) : DirM (w.alloc (.map #[] 0)) w.heap.size [] :=
  ⟨List.nodup_nil, by simp [DirL.names], 0, .map [], World.ownsMap_made w _ _ _, fun x => ⟨rfl, rfl⟩⟩
theorem DirM.kept {w w' : World} {d : Nat} {l : DirL} {row : Option Nat} (h : DirM w d l) (hg : w.grownBy w' row) (hne : some d ≠ row) : DirM w' d l := by
  obtain ⟨h1, h2, n, D, h3, h4⟩ := h
  exact ⟨h1, h2, n, D, h3.kept hg hne, h4⟩
theorem DirM.lt {w : World} {d : Nat} {l : DirL} (h : DirM w d l) : d < w.heap.size := by
  obtain ⟨_, _, _, _, h3, _⟩ := h
  exact h3.lt

theorem keyed_str : Keyed Tryz.prog 9 := Go.Maps.string_keyed Tryz.underlying9

theorem DirM.size {w : World} {d : Nat} {l : DirL} (h : DirM w d l) : ∃ (D : DataW Unit), w.ownsMap Tryz.prog 9 ptrEl d l.length D ∧ Go.Maps.size D = l.length ∧ l.names.Perm (strKeys D) ∧ ∀ x, Go.Maps.has D (.string x) = (l.look x).isSome ∧ D.atKey (.string x) (.lit (.int .i64 (-1))) = .lit (.int .i64 (ptrN (l.look x))) := by
  obtain ⟨h1, h2, n, D, h3, h4⟩ := h
  have hC : Collected D (fun _ => false) l.names := ⟨h1, fun x => by rw [(h4 x).1, DirL.look_names]; simp⟩
  have hp := hC.perm h3 keyed_str Tryz.underlying9 (fun _ => rfl)
  have hlen : (strKeys D).length = l.length := by rw [← hp.length_eq]; simp [DirL.names]
  obtain ⟨es, clock, hb, hF, hs, rfl⟩ := h3
  have hsz : Go.Maps.size (DataW.map ((es.toList.map (Go.WideElems.rg Tryz.prog 9 ptrEl)).foldr DataW.insert [])) = es.size := by simp [Go.Maps.size, length_sorted]
  have hsz2 : (strKeys (DataW.map ((es.toList.map (Go.WideElems.rg Tryz.prog 9 ptrEl)).foldr DataW.insert []))).length = es.size := by simp [strKeys, length_sorted]
  exact ⟨_, ⟨es, clock, hb, hF, by omega, rfl⟩, by rw [hsz]; omega, hp, h4⟩

/-- 'd[name]'. -/
theorem DirM.lookup {w : World} {d : Nat} {l : DirL} (h : DirM w d l) (s : ByteArray) (hs : s.size ≤ maxLen) :
    (Instr.lookup 67 (.map (some d)) (.string s) false).run Tryz.prog w = .ok (ptrV (l.look s.data.toList)) w := by
  obtain ⟨h1, h2, n, D, h3, h4⟩ := h
  obtain ⟨v, ps, hrun, hv⟩ := h3.lookup keyed_str Tryz.underlying67 (z := .pointer none) (by kernel_rfl) (zd := .lit (.int .i64 (-1))) (zp := []) rfl (Go.WideMaps.keyOf_string_mk Tryz.underlying9 hs)
  rw [(h4 _).2] at hv
  rw [hrun, ptrEl_inv hv]

/-- 'len(d)'. -/
theorem DirM.len {w : World} {d : Nat} {l : DirL} (h : DirM w d l) (ty : TypeId) : (Builtin.len_ #[67] ty #[.map (some d)]).run Tryz.prog w = .ok (.int .i64 (l.length : Int)) w := by
  obtain ⟨D, h3, h4, _⟩ := h.size
  rw [h3.len Tryz.underlying67 ty, h4]

theorem lit_ne {x y : List UInt8} (h : y ≠ x) : Lit.string y ≠ Lit.string x := fun e => h (by injection e)

/-- 'd[name] = x'. -/
theorem DirM.store {w : World} {d : Nat} {l : DirL} (h : DirM w d l) (s : ByteArray) (hs : s.size ≤ maxLen) (b : Nat) (hn : l.length < maxLen) :
    ∃ w', (Instr.mapUpdate 67 (.map (some d)) (.string s) (.pointer (some ⟨b, 0, none⟩))).run Tryz.prog w = .ok () w' ∧ DirM w' d (l.put s.data.toList b) ∧ w.grownBy w' (some d) ∧ w'.heap.size = w.heap.size := by
  obtain ⟨D, h3, h5, h6, h4⟩ := h.size
  obtain ⟨h1, h2, _⟩ := h
  obtain ⟨w', hrun, h7, h8⟩ := h3.store keyed_str Tryz.underlying67 hn (Go.WideMaps.keyOf_string_mk Tryz.underlying9 hs) (ptrEl_mk (some b))
  have hsz : w'.heap.size = w.heap.size := by
    obtain ⟨es, clock, es', clock', _, rfl⟩ := h8
    simp [Go.ChangeMaps.setBlock]
  refine ⟨w', hrun, ⟨DirL.nodup_put h1 _ _, ?_, l.length + 1, _, h7, fun x => ?_⟩, h8.grown, hsz⟩
  · intro x hx
    unfold DirL.names DirL.put at hx
    rw [List.map_append, List.mem_append] at hx
    rcases hx with hx | hx
    · obtain ⟨p, hp, rfl⟩ := List.mem_map.1 hx
      exact h2 _ (List.mem_map.2 ⟨p, (List.mem_filter.1 hp).1, rfl⟩)
    · simp at hx
      subst hx
      simpa using hs
  · by_cases e : x = s.data.toList
    · subst e
      rw [DirL.look_put_same, Go.Maps.has_put_same h3.isMap (show Go.WideAt.IsKeyLit (Lit.string s.data.toList) from trivial), Go.Maps.atKey_put_same h3.isMap (show Go.WideAt.IsKeyLit (Lit.string s.data.toList) from trivial)]
      exact ⟨rfl, rfl⟩
    · rw [DirL.look_put_other l e, Go.Maps.has_put_other (lit_ne e), Go.Maps.atKey_put_other (lit_ne e)]
      exact h4 x

/-- 'delete(d, name)'. -/
theorem DirM.remove {w : World} {d : Nat} {l : DirL} (h : DirM w d l) (s : ByteArray) (hs : s.size ≤ maxLen) (ty : TypeId) :
    ∃ w', (Builtin.delete_ #[67, 9] ty #[.map (some d), .string s]).run Tryz.prog w = .ok (.tuple #[]) w' ∧ DirM w' d (l.drop s.data.toList) ∧ w.grownBy w' (some d) ∧ w'.heap.size = w.heap.size := by
  obtain ⟨h1, h2, n, D, h3, h4⟩ := h
  obtain ⟨w', hrun, h7, h8⟩ := h3.drop keyed_str Tryz.underlying67 (Go.WideMaps.keyOf_string_mk Tryz.underlying9 hs) ty
  have hsz : w'.heap.size = w.heap.size := by
    obtain ⟨es, clock, es', clock', _, rfl⟩ := h8
    simp [Go.ChangeMaps.setBlock]
  refine ⟨w', hrun, ⟨DirL.nodup_drop h1 _, ?_, n, _, h7, fun x => ?_⟩, h8.grown, hsz⟩
  · intro x hx
    unfold DirL.names DirL.drop at hx
    obtain ⟨p, hp, rfl⟩ := List.mem_map.1 hx
    exact h2 _ (List.mem_map.2 ⟨p, (List.mem_filter.1 hp).1, rfl⟩)
  · by_cases e : x = s.data.toList
    · subst e
      rw [DirL.look_drop_same, Go.Maps.has_del_same, Go.Maps.atKey_del_same]
      exact ⟨rfl, rfl⟩
    · rw [DirL.look_drop_other l e, Go.Maps.has_del_other (lit_ne e), Go.Maps.atKey_del_other (lit_ne e)]
      exact h4 x
end Go.Proofs.YtcehddlplkfflaaGreat

/-
  LAYER 1 (fs): slices.Sorted(maps.Keys(d)): the library's contracts laid at this program.
-/
namespace Go.Proofs.YtcehddlplkfflaaGreat
set_option maxRecDepth 100000
open Go.Shelf Go.RowKit Go.Lib Go.Sort
open Go.Proofs (encStr)

def keys_ren : Go.Shelf.Ren := ⟨fun | 6 => 99 | 7 => 100 | 8 => 109 | 9 => 110 | 10 => 111 | 11 => 123 | n => n, fun | 0 => 0 | 4 => 4 | 23 => 67 | 26 => 9 | 24 => 125 | 27 => 158 | 28 => 159 | 33 => 110 | 3 => 95 | n => n, fun | n => n⟩
theorem keysL7 : SlLaysZ.n7 Tryz.prog keys_ren := {
  mixed := by kernel_rfl
  f7 := ⟨Tryz.f100.name, by kernel_rfl, Tryz.func100.trans (congrArg some (by kernel_rfl))⟩
  f10 := ⟨Tryz.f111.name, by kernel_rfl, Tryz.func111.trans (congrArg some (by kernel_rfl))⟩
  t0 := Tryz.underlying0
  a0 := Tryz.isAgg0
  z0 := Tryz.sizeOf0
  v0 := Tryz.zeroValue0
  t4 := Tryz.underlying4
  a4 := Tryz.isAgg4
  z4 := Tryz.sizeOf4
  v4 := Tryz.zeroValue4
  t23 := Tryz.underlying67
  a23 := Tryz.isAgg67
  z23 := Tryz.sizeOf67
  v23 := Tryz.zeroValue67
  t26 := Tryz.underlying9
  a26 := Tryz.isAgg9
  z26 := Tryz.sizeOf9
  v26 := Tryz.zeroValue9
  t27 := Tryz.underlying158
  a27 := Tryz.isAgg158
  z27 := Tryz.sizeOf158
  v27 := Tryz.zeroValue158
  t28 := Tryz.underlying159
  a28 := Tryz.isAgg159
  z28 := Tryz.sizeOf159
  v28 := Tryz.zeroValue159
  t33 := Tryz.underlying110
  a33 := Tryz.isAgg110
  z33 := Tryz.sizeOf110
  v33 := Tryz.zeroValue110 }
theorem keysL10 : SlLaysZ.n10 Tryz.prog keys_ren := {
  mixed := by kernel_rfl
  f10 := ⟨Tryz.f111.name, by kernel_rfl, Tryz.func111.trans (congrArg some (by kernel_rfl))⟩
  t0 := Tryz.underlying0
  a0 := Tryz.isAgg0
  z0 := Tryz.sizeOf0
  v0 := Tryz.zeroValue0
  t4 := Tryz.underlying4
  a4 := Tryz.isAgg4
  z4 := Tryz.sizeOf4
  v4 := Tryz.zeroValue4
  t23 := Tryz.underlying67
  a23 := Tryz.isAgg67
  z23 := Tryz.sizeOf67
  v23 := Tryz.zeroValue67
  t26 := Tryz.underlying9
  a26 := Tryz.isAgg9
  z26 := Tryz.sizeOf9
  v26 := Tryz.zeroValue9
  t33 := Tryz.underlying110
  a33 := Tryz.isAgg110
  z33 := Tryz.sizeOf110
  v33 := Tryz.zeroValue110 }
theorem keysL6 : SlLaysZ.n6 Tryz.prog keys_ren := {
  mixed := by kernel_rfl
  f6 := ⟨Tryz.f99.name, by kernel_rfl, Tryz.func99.trans (congrArg some (by kernel_rfl))⟩
  f8 := ⟨Tryz.f109.name, by kernel_rfl, Tryz.func109.trans (congrArg some (by kernel_rfl))⟩
  f11 := ⟨Tryz.f123.name, by kernel_rfl, Tryz.func123.trans (congrArg some (by kernel_rfl))⟩
  t0 := Tryz.underlying0
  a0 := Tryz.isAgg0
  z0 := Tryz.sizeOf0
  v0 := Tryz.zeroValue0
  t24 := Tryz.underlying125
  a24 := Tryz.isAgg125
  z24 := Tryz.sizeOf125
  v24 := Tryz.zeroValue125
  t26 := Tryz.underlying9
  a26 := Tryz.isAgg9
  z26 := Tryz.sizeOf9
  v26 := Tryz.zeroValue9
  t28 := Tryz.underlying159
  a28 := Tryz.isAgg159
  z28 := Tryz.sizeOf159
  v28 := Tryz.zeroValue159
  i26 := by kernel_rfl }

theorem sortsA (m : Nat) : AnyZ.SortsIn Tryz.prog keys_ren Fence.wide m :=
  ⟨fun blk off cap ss W hH hblk hsz => callsIn_wide.2 (Tryz.slices_Sort_string blk off cap ss W hH hblk hsz),
   fun p cap W => callsIn_wide.2 (Tryz.slices_Sort_string_none p cap W)⟩

theorem keys_call (d : Nat) (w : World) : Calls Tryz.prog 100 #[.map (some d)] w fun e w' => e = .returned (.func (.func 111) #[] #[.pointer (some ⟨w.heap.size, 0, none⟩)]) ∧ w' = w.alloc (.cells #[.map (some d)] 67) :=
  (callsIn_wide (n := 5)).1 (AnyZ.keys_in keysL7 Fence.wide 5 trivial rfl (some d) w)

/-- The names of a directory in order. -/
theorem sorted_call (B d : Nat) (l : DirL) (w : World) (hB : w.cell? ⟨B, 0, none⟩ = some (.map (some d))) (hd : DirM w d l) (hlim : l.length ≤ 8796093022208) :
    Calls Tryz.prog 99 #[.func (.func 111) #[] #[.pointer (some ⟨B, 0, none⟩)]] w fun e w' => ∃ v, e = .returned v ∧ w'.ownsRow w.heap.size 9 1 v l.length ((l.names.mergeSort leB).map encStr) ∧ w.grownBy w' none := by
  obtain ⟨D, hown, hsz, hp, _⟩ := hd.size
  have hseq : SeqGives Fence.wide 2 Tryz.prog 111 #[.pointer (some ⟨B, 0, none⟩)] encStr (fun ss => ss.Perm (strKeys D)) (Go.Maps.size D) w :=
    AnyZ.keys_gives (ρ := keys_ren) keysL10 Fence.wide _ trivial rfl (by omega) B d _ D _ (World.block_lt_of_cell? w _ hB) hB hown
  have cS := AnyZ.sorted_in keysL6 Fence.wide 5 trivial trivial trivial trivial rfl (by omega) (sortsA _) (enters_of Tryz.func110 (by kernel_rfl) rfl) 111 #[.pointer (some ⟨B, 0, none⟩)] trivial (enters_of Tryz.func111 (by kernel_rfl) rfl) _ _ (by rw [hsz]; unfold maxLen; omega) (by rw [hsz]; omega) _ hseq
  refine (callsIn_wide.1 cS).mono ?_
  rintro e w' ⟨v, ss, rfl, hS, hrow, hnil, hb⟩
  have e1 : ss.mergeSort leB = l.names.mergeSort leB := mergeSort_of_perm (hS.trans hp.symm)
  have e2 : ss.length = l.length := by rw [(hS.trans hp.symm).length_eq]; simp [DirL.names]
  refine ⟨v, rfl, ?_, belowg hb none⟩
  rw [← e1, ← e2]
  exact hrow
end Go.Proofs.YtcehddlplkfflaaGreat

/-
  LAYER 1 (fs): a directory's files in the order of their names: the iterator inOrder$1.
-/
namespace Go.Proofs.YtcehddlplkfflaaGreat
set_option maxRecDepth 100000
open Go.RowKit Go.Lib
open Go.Proofs (encStr)
attribute [local go_sem] Oper.semAt_some

/-- The files in the order of their names. -/
def DirL.sorted (l : DirL) : DirL := (l.names.mergeSort leB).map (fun x => (x, (l.look x).getD 0))
theorem DirL.sorted_length (l : DirL) : l.sorted.length = l.length := by simp [DirL.sorted, DirL.names, List.length_mergeSort]
theorem DirL.sorted_at (l : DirL) (j : Nat) (hj : j < l.length) : ∃ x b, l.sorted[j]? = some (x, b) ∧ (l.names.mergeSort leB)[j]? = some x ∧ l.look x = some b ∧ x ∈ l.names := by
  have hm : (l.names.mergeSort leB).length = l.length := by simp [DirL.names, List.length_mergeSort]
  have hx : (l.names.mergeSort leB)[j]? = some ((l.names.mergeSort leB)[j]'(by omega)) := List.getElem?_eq_getElem (by omega)
  have hin : (l.names.mergeSort leB)[j]'(by omega) ∈ l.names := (List.mergeSort_perm l.names leB).mem_iff.1 (List.getElem_mem _)
  obtain ⟨b, hb⟩ := Option.isSome_iff_exists.1 (DirL.look_names.2 hin)
  refine ⟨_, b, ?_, hx, hb, hin⟩
  unfold DirL.sorted
  rw [List.getElem?_map, hx]
  simp [hb]

def dEnc (x : List UInt8 × Nat) : Array Value := #[encStr x.1, .pointer (some ⟨x.2, 0, none⟩)]
def dOk (l : DirL) (pre : List (List UInt8 × Nat)) (x : List UInt8 × Nat) (_ : World) : Prop := pre = l.sorted.take pre.length ∧ l.sorted[pre.length]? = some x
def dAll (l : DirL) (xs : List (List UInt8 × Nat)) (_ : World) : Prop := xs = l.sorted

theorem DirM.zk {A B : World} {d : Nat} {l : DirL} {Z : Nat → Prop} (h : DirM A d l) (hk : ZK Z A B) (hd : Z d) : DirM B d l := by
  obtain ⟨h1, h2, n, D, ⟨es, clock, hb, hF, hs, hD⟩, h4⟩ := h
  exact ⟨h1, h2, n, D, ⟨es, clock, (hk.2 d (lt_of_block hb) hd).trans hb, hF, hs, hD⟩, h4⟩

theorem Boxed.zk {A B : World} {p : Nat} {t : TypeId} {v : Value} {Z : Nat → Prop} (h : Boxed A p t v) (hk : ZK Z A B) (hd : Z p) : Boxed B p t v := (hk.2 p h.lt hd).trans h

theorem rowFormS {w : World} {B s n : Nat} {e : TypeId} {v : Value} {xs : List Value} (h : w.ownsRow B e s v n xs) : ∃ a c, v = .slice a n c := by
  obtain ⟨_, ⟨rfl, hn⟩ | ⟨g, cap, cur, rfl, _⟩⟩ := h
  · exact ⟨none, 0, by rw [hn]⟩
  · exact ⟨_, _, rfl⟩
theorem ownsRow_zk {A B : World} {e : TypeId} {b s n : Nat} {v : Value} {xs : List Value} {Z : Nat → Prop} (h : A.ownsRow b e s v n xs) (hk : ZK Z A B) (hv : ∀ k, v.ownBlock = some k → Z k) : B.ownsRow b e s v n xs := by
  obtain ⟨q1, q2 | ⟨g, cap, cur, rfl, q4, q5, q6⟩⟩ := h
  · exact ⟨q1, .inl q2⟩
  · exact ⟨q1, .inr ⟨g, cap, cur, rfl, q4, (hk.2 g (lt_of_block q5) (hv g rfl)).trans q5, q6⟩⟩

set_option maxHeartbeats 8000000 in
theorem inOrder1_tells (n p d : Nat) (l : DirL) (w : World) (hn : 8 ≤ n) (hw : Boxed w p 67 (.map (some d))) (hd : DirM w d l) (hlim : l.length ≤ 8796093022208) :
    TellsZ Fence.wide n Tryz.prog 98 #[.pointer (some ⟨p, 0, none⟩)] dEnc (dOk l) (fun k => k = p ∨ k = d) (dAll l) (fun _ _ => True) w := by
  intro ll J Jx W Z hzk hz0 hzl hzn hll hJ hJx hY h0
  have hst : Boxed W p 67 (.map (some d)) := Boxed.zk hw hzk (.inl rfl)
  have hdW : DirM W d l := hd.zk hzk (.inr rfl)
  have hpl := hst.lt
  clear hw hd hzk
  have hc1 := hst.cell
  have hk1 := fun W' => keys_call d W'
  have hk2 := fun W' (g : W.grownBy W' none) => sorted_call W.heap.size d l W' 
  obtain ⟨n, rfl⟩ : ∃ m, n = m + 8 := ⟨n - 8, by omega⟩
  have hf1 : Fence.wide.fn 100 := trivial
  have hf2 : Fence.wide.fn 99 := trivial
  refine callsIn_of_wp Tryz.func98 rfl trivial ?_ rfl
  simp only [Tryz.ntmps98, List.size_toArray, List.length_cons, List.length_nil, Nat.reduceAdd, Nat.reduceSub, Array.replicate_succ, Array.replicate_zero, List.push_toArray, List.append_toArray, List.nil_append, List.cons_append]
  gi_wp2_with (first
    | (gi_at_call 100; refine (callsIn_wide.2 (hk1 _)).mono ?_; rintro e w2 ⟨rfl, rfl⟩)
    | (gi_at_call 99; refine (callsIn_wide.2 (hk2 _ (World.grownBy_alloc W _ none) (Boxed.new W _ _).cell (hdW.kept (World.grownBy_alloc W _ none) (by simp)) hlim)).mono ?_; rintro e w3 ⟨v, rfl, ho, hg⟩; obtain ⟨a, c, rfl⟩ := rowFormS ho))
  have gW : W.grownBy w3 none := (World.grownBy_alloc W _ none).trans hg
  have hw3 : W.heap.size + 1 ≤ w3.heap.size := by have := hg.size; simpa using this
  obtain ⟨Z1, hZ1⟩ : ∃ Z1 : Nat → Prop, Z1 = fun k => Z k ∨ W.heap.size ≤ k ∧ k < w3.heap.size := ⟨_, rfl⟩
  have hzz : ∀ k, Z k → Z1 k := fun k h => by rw [hZ1]; exact .inl h
  have hz1l : ∀ k, Z1 k → k < w3.heap.size := fun k h => by
    rw [hZ1] at h
    rcases h with h | h
    · have := hzl k h; omega
    · exact h.2
  have h3 : J Z1 [] w3 := hJ.more _ _ _ _ _ h0 gW hzz (fun k h => by rw [hZ1] at h; exact h)
  have hst3 := hst.kept gW (by simp)
  have hd3 := hdW.kept gW (by simp)
  have hvz : ∀ k, (Value.slice a l.length c).ownBlock = some k → Z1 k ∧ k ≠ ll := fun k e => by
    have := World.ownsRow.lt ho k e
    simp at this
    rw [hZ1]
    exact ⟨.inr (by omega), by omega⟩
  have hpz : Z1 p ∧ p ≠ ll := ⟨hzz _ (hz0 _ (.inl rfl)), hzn _ (.inl rfl)⟩
  have hdz : Z1 d ∧ d ≠ ll := ⟨hzz _ (hz0 _ (.inr rfl)), hzn _ (.inr rfl)⟩
  have hz01 : ∀ k, k = p ∨ k = d → Z1 k := fun k h => hzz k (hz0 k h)
  replace ho : w3.ownsRow 0 9 1 (.slice a l.length c) l.length ((l.names.mergeSort leB).map encStr) := by
    obtain ⟨q1, q2 | ⟨g, cap, cur, q3, q4, q5⟩⟩ := ho
    · exact ⟨q1, .inl q2⟩
    · exact ⟨q1, .inr ⟨g, cap, cur, q3, Nat.zero_le _, q5⟩⟩
  clear hst hdW hk1 hk2 hc1 h0 hg
  gi_wp2_with fail
  gi_loopw [4, 9] (fun _ va wr => ∃ (pre : List (List UInt8 × Nat)) (j : Nat), va = .int .i64 (j : Int) ∧ Hid (pre = l.sorted.take j) ∧ j ≤ l.length ∧ J Z1 pre wr ∧ ZK (fun k => Z1 k ∧ k ≠ ll) w3 wr) (fun _ va _ => l.length - (RowKit.intOf va).toNat)
  case atStart => exact ⟨[], 0, rfl, Lib.hid rfl, Nat.zero_le _, h3, ZK.refl _ _⟩
  case round =>
    obtain ⟨pre, j, rfl, hpl, hj, hJj, hzj⟩ := hrel
    have hpj : pre.length = j := by rw [hpl.out, List.length_take, DirL.sorted_length]; omega
    have hzjs := hzj.1
    by_cases hlt : j < l.length
    · obtain ⟨x, b, hs, hm, hlk, hin⟩ := DirL.sorted_at l j hlt
      have hrow := ownsRow_zk ho hzj hvz
      have hdj := hd3.zk hzj hdz
      have hbj := (Boxed.zk hst3 hzj hpz).cell
      obtain ⟨g, rfl⟩ : ∃ g, a = some ⟨g, 0, none⟩ := by
        obtain ⟨_, ⟨e, hz⟩ | ⟨g9, cap, cur, e, _⟩⟩ := hrow
        · omega
        · simp at e; exact ⟨g9, e.1⟩
      have hcell : wr.cell? ⟨g, j, none⟩ = some (encStr x) := by
        rw [World.ownsRow.cellAt hrow j (by omega)]
        simp [hm]
      have hrun := hdj.lookup ⟨x.toArray⟩ (by have := hdj.2.1 x hin; show x.toArray.size ≤ maxLen; simpa using this)
      rw [show (⟨x.toArray⟩ : ByteArray).data.toList = x by simp, hlk] at hrun
      unfold ptrV at hrun
      have hok : dOk l pre (x, b) wr := ⟨by rw [hpj]; exact hpl.out, by rw [hpj]; exact hs⟩
      have hnx : Hid (pre ++ [(x, b)] = l.sorted.take (j + 1)) := Lib.hid (by rw [hpl.out, List.take_add_one, hs]; rfl)
      obtain ⟨fn, tmps, assign, body, hy, hRd⟩ := hY Z1 pre (x, b) wr hz01 (fun k h => Nat.lt_of_lt_of_le (hz1l k h) hzjs) hJj hok
      dsimp only [dEnc] at hy
      unfold encStr at hcell hy
      obtain ⟨s, hsv⟩ : ∃ s : ByteArray, s = ⟨x.toArray⟩ := ⟨_, rfl⟩
      rw [← hsv] at hcell hy hrun
      clear hrow hdj hok hm hs hin hlk hpl hsv
      gi_wp2
      refine hRd.mono ?_
      rintro e3 W5 (⟨rfl, hj3, hk3⟩ | ⟨rfl, hj3, hk3⟩)
      all_goals gi_wp2
      all_goals first
        | exact ⟨⟨pre ++ [(x, b)], j + 1, by go_num, hnx, by omega, hj3, hzj.trans hk3⟩, by simp [RowKit.intOf]; omega⟩
        | (refine bodyPost_ret (results_none rfl _ _ _) rfl ?_; exact ⟨⟨_, rfl⟩, Z1, hzz, (fun k h => Nat.lt_of_lt_of_le (hz1l k h) (Nat.le_trans hzjs hk3.1)), .inr ⟨_, trivial, hj3⟩⟩)
        | (go_end0; exact ⟨⟨_, rfl⟩, Z1, hzz, (fun k h => Nat.lt_of_lt_of_le (hz1l k h) (Nat.le_trans hzjs hk3.1)), .inr ⟨_, trivial, hj3⟩⟩)
    · obtain rfl : j = l.length := by omega
      have hall : dAll l pre wr := by unfold dAll; rw [hpl.out, List.take_of_length_le (by rw [DirL.sorted_length]; omega)]
      clear hpl hpj
      gi_wp2
      all_goals first
        | (refine bodyPost_ret (results_none rfl _ _ _) rfl ?_; exact ⟨⟨_, rfl⟩, Z1, hzz, (fun k h => Nat.lt_of_lt_of_le (hz1l k h) hzjs), .inl ⟨pre, hall, hJj⟩⟩)
        | (go_end0; exact ⟨⟨_, rfl⟩, Z1, hzz, (fun k h => Nat.lt_of_lt_of_le (hz1l k h) hzjs), .inl ⟨pre, hall, hJj⟩⟩)
end Go.Proofs.YtcehddlplkfflaaGreat
