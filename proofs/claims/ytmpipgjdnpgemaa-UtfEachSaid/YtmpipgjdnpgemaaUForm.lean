/-
  LAYER 4 (utf): the reference's form of a scalar.
-/
import Derived.Test.YtmpipgjdnpgemaaULeaf
import Derived.RangeFuncBox
import Derived.RangeFuncNested
namespace Go.Proofs.Ytmpipgjdnpgemaa
set_option maxRecDepth 100000
open Go.RowKit Go.Lib

theorem owns_lit {w : World} {e : TypeId} {bs : List UInt8} {cs : Array Value} {n : Nat} (hc : cs = (byteCells bs).toArray) (hn : bs.length = n) (hm : n ≤ maxLen) :
    Owns (w.alloc (.cells cs e)) w.heap.size e (.slice (some ⟨w.heap.size, 0, none⟩) n n) bs := by
  subst hn
  subst hc
  have hl : (byteCells bs).length = bs.length := by simp [byteCells]
  exact ⟨by simp [hl], .inr ⟨w.heap.size, _, _, rfl, Nat.le_refl _, World.alloc_heap_new w _, Nat.le_refl _, hm, by simp [hl], by simp [hl, List.take_of_length_le]⟩⟩

theorem form_cells1 {r : Nat} (h1 : r < 128) : #[Value.int .u8 (r : Int)] = (byteCells (form r)).toArray ∧ (form r).length = 1 := by
  rw [form, if_pos h1]
  simp only [byteCells, List.map, ofNat_toNat (show r < 256 by omega)]
  exact ⟨trivial, rfl⟩

theorem form_cells2 {r : Nat} (h1 : ¬ r < 128) (h2 : r < 2048) : #[Value.int .u8 (192 + (r : Int) / 64), Value.int .u8 (128 + (r : Int) % 64)] = (byteCells (form r)).toArray ∧ (form r).length = 2 := by
  rw [form, if_neg h1, if_pos h2]
  simp only [byteCells, List.map, ofNat_toNat (show 192 + r / 64 < 256 by omega), ofNat_toNat (show 128 + r % 64 < 256 by omega)]
  exact ⟨rfl, rfl⟩
theorem form_cells3 {r x y z : Nat} (h2 : ¬ r < 2048) (h3 : r < 65536) (hx : (r : Int) / 4096 = (x : Int)) (hy : (r : Int) / 64 % 64 = (y : Int)) (hz : (r : Int) % 64 = (z : Int)) :
    #[Value.int .u8 (224 + (x : Int)), Value.int .u8 (128 + (y : Int)), Value.int .u8 (128 + (z : Int))] = (byteCells (form r)).toArray ∧ (form r).length = 3 := by
  rw [form, if_neg (by omega), if_neg h2, if_pos h3]
  obtain rfl : r / 4096 = x := by omega
  obtain rfl : r / 64 % 64 = y := by omega
  obtain rfl : r % 64 = z := by omega
  simp only [byteCells, List.map, ofNat_toNat (show 224 + r / 4096 < 256 by omega), ofNat_toNat (show 128 + r / 64 % 64 < 256 by omega), ofNat_toNat (show 128 + r % 64 < 256 by omega)]
  exact ⟨rfl, rfl⟩
theorem form_cells4 {r u x y z : Nat} (h3 : ¬ r < 65536) (hr : r ≤ 1114111) (hu : (r : Int) / 262144 = (u : Int)) (hx : (r : Int) / 4096 % 64 = (x : Int)) (hy : (r : Int) / 64 % 64 = (y : Int)) (hz : (r : Int) % 64 = (z : Int)) :
    #[Value.int .u8 (240 + (u : Int)), Value.int .u8 (128 + (x : Int)), Value.int .u8 (128 + (y : Int)), Value.int .u8 (128 + (z : Int))] = (byteCells (form r)).toArray ∧ (form r).length = 4 := by
  rw [form, if_neg (by omega), if_neg (by omega), if_neg h3]
  obtain rfl : r / 262144 = u := by omega
  obtain rfl : r / 4096 % 64 = x := by omega
  obtain rfl : r / 64 % 64 = y := by omega
  obtain rfl : r % 64 = z := by omega
  simp only [byteCells, List.map, ofNat_toNat (show 240 + r / 262144 < 256 by omega), ofNat_toNat (show 128 + r / 4096 % 64 < 256 by omega), ofNat_toNat (show 128 + r / 64 % 64 < 256 by omega), ofNat_toNat (show 128 + r % 64 < 256 by omega)]
  exact ⟨rfl, rfl⟩

set_option maxRecDepth 100000 in
set_option maxHeartbeats 1000000 in
theorem form_any (r : Nat) (w : World) (hr : r ≤ 1114111) :
    Calls Try.prog 41 #[.int .i32 (r : Int)] w fun e w' => ∃ v, e = .returned v ∧ Owns w' w.heap.size 5 v (form r) ∧ w.grownBy w' none := by
  by_cases h1 : r < 128
  · have hf := form_cells1 h1
    have H := Lib.hid hf; clear hf
    go_enter Try.func41, Try.ntmps41
    go_wp2
    go_ret
    exact ⟨_, rfl, owns_lit H.out.1 H.out.2 (by decide), World.grownBy_alloc w _ none⟩
  · by_cases h2 : r < 2048
    · have H := Lib.hid (form_cells2 h1 h2)
      go_enter Try.func41, Try.ntmps41
      go_wp2
      go_ret
      exact ⟨_, rfl, owns_lit H.out.1 H.out.2 (by decide), World.grownBy_alloc w _ none⟩
    · by_cases h3 : r < 65536
      · obtain ⟨x, hx, hxb⟩ : ∃ x : Nat, (r : Int) / 4096 = (x : Int) ∧ x ≤ 15 := ⟨r / 4096, by omega, by omega⟩
        obtain ⟨y, hy, hyb⟩ : ∃ y : Nat, (r : Int) / 64 % 64 = (y : Int) ∧ y ≤ 63 := ⟨r / 64 % 64, by omega, by omega⟩
        obtain ⟨z, hz, hzb⟩ : ∃ z : Nat, (r : Int) % 64 = (z : Int) ∧ z ≤ 63 := ⟨r % 64, by omega, by omega⟩
        have d1 : decide ((r : Int) < 128) = false := by simp; omega
        have d2 : decide ((r : Int) < 2048) = false := by simp; omega
        have d3 : decide ((r : Int) < 65536) = true := by simp; omega
        have H := Lib.hid (form_cells3 h2 h3 hx hy hz)
        clear h1 h2 h3 hr
        go_enter Try.func41, Try.ntmps41
        go_wp2
        go_ret
        exact ⟨_, rfl, owns_lit H.out.1 H.out.2 (by decide), World.grownBy_alloc w _ none⟩
      · obtain ⟨u, hu, hub⟩ : ∃ u : Nat, (r : Int) / 262144 = (u : Int) ∧ u ≤ 4 := ⟨r / 262144, by omega, by omega⟩
        obtain ⟨x, hx, hxb⟩ : ∃ x : Nat, (r : Int) / 4096 % 64 = (x : Int) ∧ x ≤ 63 := ⟨r / 4096 % 64, by omega, by omega⟩
        obtain ⟨y, hy, hyb⟩ : ∃ y : Nat, (r : Int) / 64 % 64 = (y : Int) ∧ y ≤ 63 := ⟨r / 64 % 64, by omega, by omega⟩
        obtain ⟨z, hz, hzb⟩ : ∃ z : Nat, (r : Int) % 64 = (z : Int) ∧ z ≤ 63 := ⟨r % 64, by omega, by omega⟩
        have d1 : decide ((r : Int) < 128) = false := by simp; omega
        have d2 : decide ((r : Int) < 2048) = false := by simp; omega
        have d3 : decide ((r : Int) < 65536) = false := by simp; omega
        have H := Lib.hid (form_cells4 h3 hr hu hx hy hz)
        clear h1 h2 h3 hr
        go_enter Try.func41, Try.ntmps41
        go_wp2
        go_ret
        exact ⟨_, rfl, owns_lit H.out.1 H.out.2 (by decide), World.grownBy_alloc w _ none⟩
end Go.Proofs.Ytmpipgjdnpgemaa
