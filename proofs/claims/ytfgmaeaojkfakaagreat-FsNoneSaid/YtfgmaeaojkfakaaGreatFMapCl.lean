/-
  LAYER 1 (fs): maps.Clone at directories.
-/
import Derived.Test.YtfgmaeaojkfakaaGreatFDir
import Derived.Shelf.SlMaps.Clone
import Derived.RangeFuncRecord
namespace Go.Proofs.YtfgmaeaojkfakaaGreat
set_option maxRecDepth 100000
open Go.Shelf Go.RowKit Go.Lib

def mapcl_ren : Go.Shelf.Ren := ⟨fun | 5 => 89 | 7 => 106 | n => n, fun | 4 => 4 | 20 => 20 | 23 => 69 | 25 => 9 | 3 => 97 | n => n, fun | n => n⟩
theorem mapclL : SlLaysW.n5 Tryz.prog mapcl_ren := {
  mixed := by kernel_rfl
  f5 := ⟨Tryz.f89.name, by kernel_rfl, Tryz.func89.trans (congrArg some (by kernel_rfl))⟩
  f7 := Tryz.func106.trans (congrArg some (by kernel_rfl))
  t4 := Tryz.underlying4
  a4 := Tryz.isAgg4
  z4 := Tryz.sizeOf4
  v4 := Tryz.zeroValue4
  t20 := Tryz.underlying20
  a20 := Tryz.isAgg20
  z20 := Tryz.sizeOf20
  v20 := Tryz.zeroValue20
  t23 := Tryz.underlying69
  a23 := Tryz.isAgg69
  z23 := Tryz.sizeOf69
  v23 := Tryz.zeroValue69 }

theorem mapClone_any (d : Nat) (l : DirL) (w : World) (h : DirM w d l) :
    Calls Tryz.prog 89 #[.map (some d)] w fun e w' => e = .returned (.map (some w.heap.size)) ∧ DirM w' w.heap.size l ∧ w.grownBy w' none := by
  obtain ⟨h1, h2, n, D, ⟨es, clock, hb, F, hs, hD⟩, h4⟩ := h
  refine (AnyW.maps_Clone mapclL d es clock w hb).mono ?_
  rintro e w' ⟨rfl, rfl⟩
  exact ⟨rfl, ⟨h1, h2, n, D, ⟨es, clock, World.alloc_heap_new w _, F, hs, hD⟩, h4⟩, World.grownBy_alloc w _ none⟩
end Go.Proofs.YtfgmaeaojkfakaaGreat
