/-
  LAYER 1 (fs): slices.Sorted(maps.Keys(d)): the library's contracts laid at this program.
-/
import Derived.Test.YtfgmaeaojkfakaaGreatFDir
import Derived.Test.YtfgmaeaojkfakaaGreatShelf
import Derived.Shelf.SlIter.Sorted
import Derived.Shelf.SlIter.Nil
namespace Go.Proofs.YtfgmaeaojkfakaaGreat
set_option maxRecDepth 100000
open Go.Shelf Go.RowKit Go.Lib Go.Sort
open Go.Proofs (encStr)

def keys_ren : Go.Shelf.Ren := ⟨fun | 6 => 100 | 7 => 101 | 8 => 110 | 9 => 111 | 10 => 112 | 11 => 124 | n => n, fun | 0 => 0 | 4 => 4 | 23 => 69 | 26 => 9 | 24 => 127 | 27 => 160 | 28 => 161 | 33 => 112 | 3 => 97 | n => n, fun | n => n⟩
theorem keysL7 : SlLaysZ.n7 Tryz.prog keys_ren := {
  mixed := by kernel_rfl
  f7 := ⟨Tryz.f101.name, by kernel_rfl, Tryz.func101.trans (congrArg some (by kernel_rfl))⟩
  f10 := ⟨Tryz.f112.name, by kernel_rfl, Tryz.func112.trans (congrArg some (by kernel_rfl))⟩
  t0 := Tryz.underlying0
  a0 := Tryz.isAgg0
  z0 := Tryz.sizeOf0
  v0 := Tryz.zeroValue0
  t4 := Tryz.underlying4
  a4 := Tryz.isAgg4
  z4 := Tryz.sizeOf4
  v4 := Tryz.zeroValue4
  t23 := Tryz.underlying69
  a23 := Tryz.isAgg69
  z23 := Tryz.sizeOf69
  v23 := Tryz.zeroValue69
  t26 := Tryz.underlying9
  a26 := Tryz.isAgg9
  z26 := Tryz.sizeOf9
  v26 := Tryz.zeroValue9
  t27 := Tryz.underlying160
  a27 := Tryz.isAgg160
  z27 := Tryz.sizeOf160
  v27 := Tryz.zeroValue160
  t28 := Tryz.underlying161
  a28 := Tryz.isAgg161
  z28 := Tryz.sizeOf161
  v28 := Tryz.zeroValue161
  t33 := Tryz.underlying112
  a33 := Tryz.isAgg112
  z33 := Tryz.sizeOf112
  v33 := Tryz.zeroValue112 }
theorem keysL10 : SlLaysZ.n10 Tryz.prog keys_ren := {
  mixed := by kernel_rfl
  f10 := ⟨Tryz.f112.name, by kernel_rfl, Tryz.func112.trans (congrArg some (by kernel_rfl))⟩
  t0 := Tryz.underlying0
  a0 := Tryz.isAgg0
  z0 := Tryz.sizeOf0
  v0 := Tryz.zeroValue0
  t4 := Tryz.underlying4
  a4 := Tryz.isAgg4
  z4 := Tryz.sizeOf4
  v4 := Tryz.zeroValue4
  t23 := Tryz.underlying69
  a23 := Tryz.isAgg69
  z23 := Tryz.sizeOf69
  v23 := Tryz.zeroValue69
  t26 := Tryz.underlying9
  a26 := Tryz.isAgg9
  z26 := Tryz.sizeOf9
  v26 := Tryz.zeroValue9
  t33 := Tryz.underlying112
  a33 := Tryz.isAgg112
  z33 := Tryz.sizeOf112
  v33 := Tryz.zeroValue112 }
theorem keysL6 : SlLaysZ.n6 Tryz.prog keys_ren := {
  mixed := by kernel_rfl
  f6 := ⟨Tryz.f100.name, by kernel_rfl, Tryz.func100.trans (congrArg some (by kernel_rfl))⟩
  f8 := ⟨Tryz.f110.name, by kernel_rfl, Tryz.func110.trans (congrArg some (by kernel_rfl))⟩
  f11 := ⟨Tryz.f124.name, by kernel_rfl, Tryz.func124.trans (congrArg some (by kernel_rfl))⟩
  t0 := Tryz.underlying0
  a0 := Tryz.isAgg0
  z0 := Tryz.sizeOf0
  v0 := Tryz.zeroValue0
  t24 := Tryz.underlying127
  a24 := Tryz.isAgg127
  z24 := Tryz.sizeOf127
  v24 := Tryz.zeroValue127
  t26 := Tryz.underlying9
  a26 := Tryz.isAgg9
  z26 := Tryz.sizeOf9
  v26 := Tryz.zeroValue9
  t28 := Tryz.underlying161
  a28 := Tryz.isAgg161
  z28 := Tryz.sizeOf161
  v28 := Tryz.zeroValue161
  i26 := by kernel_rfl }

theorem sortsA (m : Nat) : AnyZ.SortsIn Tryz.prog keys_ren Fence.wide m :=
  ⟨fun blk off cap ss W hH hblk hsz => callsIn_wide.2 (Tryz.slices_Sort_string blk off cap ss W hH hblk hsz),
   fun p cap W => callsIn_wide.2 (Tryz.slices_Sort_string_none p cap W)⟩

theorem keys_call (d : Nat) (w : World) : Calls Tryz.prog 101 #[.map (some d)] w fun e w' => e = .returned (.func (.func 112) #[] #[.pointer (some ⟨w.heap.size, 0, none⟩)]) ∧ w' = w.alloc (.cells #[.map (some d)] 69) :=
  (callsIn_wide (n := 5)).1 (AnyZ.keys_in keysL7 Fence.wide 5 trivial rfl (some d) w)

/-- The names of a directory in order. -/
theorem sorted_call (B d : Nat) (l : DirL) (w : World) (hB : w.cell? ⟨B, 0, none⟩ = some (.map (some d))) (hd : DirM w d l) (hlim : l.length ≤ 8796093022208) :
    Calls Tryz.prog 100 #[.func (.func 112) #[] #[.pointer (some ⟨B, 0, none⟩)]] w fun e w' => ∃ v, e = .returned v ∧ w'.ownsRow w.heap.size 9 1 v l.length ((l.names.mergeSort leB).map encStr) ∧ w.grownBy w' none := by
  obtain ⟨D, hown, hsz, hp, _⟩ := hd.size
  have hseq : SeqGives Fence.wide 2 Tryz.prog 112 #[.pointer (some ⟨B, 0, none⟩)] encStr (fun ss => ss.Perm (strKeys D)) (Go.Maps.size D) w :=
    AnyZ.keys_gives (ρ := keys_ren) keysL10 Fence.wide _ trivial rfl (by omega) B d _ D _ (World.block_lt_of_cell? w _ hB) hB hown
  have cS := AnyZ.sorted_in keysL6 Fence.wide 5 trivial trivial trivial trivial rfl (by omega) (sortsA _) (enters_of Tryz.func111 (by kernel_rfl) rfl) 112 #[.pointer (some ⟨B, 0, none⟩)] trivial (enters_of Tryz.func112 (by kernel_rfl) rfl) _ _ (by rw [hsz]; unfold maxLen; omega) (by rw [hsz]; omega) _ hseq
  refine (callsIn_wide.1 cS).mono ?_
  rintro e w' ⟨v, ss, rfl, hS, hrow, hnil, hb⟩
  have e1 : ss.mergeSort leB = l.names.mergeSort leB := mergeSort_of_perm (hS.trans hp.symm)
  have e2 : ss.length = l.length := by rw [(hS.trans hp.symm).length_eq]; simp [DirL.names]
  refine ⟨v, rfl, ?_, belowg hb none⟩
  rw [← e1, ← e2]
  exact hrow
end Go.Proofs.YtfgmaeaojkfakaaGreat
