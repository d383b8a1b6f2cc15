/-
  LAYER 7 (weight): show: a number in four digits.
-/
import Derived.Test.YtjdpnklnhiigpaaWHex
import Derived.Test.YtjdpnklnhiigpaaWConv
import Derived.Laws.BytesString
namespace Go.Proofs.Ytjdpnklnhiigpaa
set_option maxRecDepth 100000
open Go.RowKit Go.Lib
attribute [local go_sem] Oper.semAt_some

/-- Four digits. -/
def dg4 (n : Nat) : List UInt8 := [hx (n / 4096 % 16), hx (n / 256 % 16), hx (n / 16 % 16), hx (n % 16)]

theorem gany {a c : World} (h : a.grownBy c none) (row : Option Nat) : a.grownBy c row := ⟨h.os, h.tape, h.output, h.size, fun i hi _ => h.block i hi (by simp)⟩

def OutAt (w : World) (q : Nat) (l : List UInt8) : Prop := w.heap[q]? = some (.cells (byteCells l).toArray 56 (0, 0))
def stp4 (n k : Nat) : List UInt8 := (dg4 n).take k ++ List.replicate (4 - k) 0
section
variable {w : World} {q : Nat} {l : List UInt8}
theorem OutAt.free (h : OutAt w q l) (o : Nat) : w.frozen? ⟨q, o, none⟩ = false := by simp [World.frozen?, show _ = _ from h]
theorem OutAt.cell (h : OutAt w q l) {o : Nat} {u : UInt8} (hu : l[o]? = some u) : w.cell? ⟨q, o, none⟩ = some (.int .u8 (u.toNat : Int)) := by
  have e : (byteCells l)[o]? = some (.int .u8 (u.toNat : Int)) := by rw [byteCells_get, hu]; rfl
  simp [World.cell?, show _ = _ from h, e]
theorem OutAt.set (h : OutAt w q l) (o : Nat) (u : UInt8) : OutAt (w.setCell ⟨q, o, none⟩ (.int .u8 (u.toNat : Int))) q (l.set o u) := by
  have h2 := heap_setCell_same w q o _ _ (.int .u8 (u.toNat : Int)) h
  unfold OutAt
  rw [h2]
  simp [byteCells, List.map_set]
end

theorem i64_and15 (x : Nat) (h : x < 65536) : bits .and .i64 (x : Int) 15 = ((x % 16 : Nat) : Int) := by
  have := bits_mask .i64 32 (by decide) (fun n h1 h2 => IntWalk.i64_in n (by omega)) 4 (by decide) (x : Int) (by omega) (by omega)
  simpa using this

set_option maxHeartbeats 2000000 in
theorem show_any (n : Nat) (hn : n < 65536) (w : World) : Calls Try.prog 26 #[.int .i64 (n : Int)] w fun e w' => e = .returned (.string ⟨(dg4 n).toArray⟩) ∧ w.grownBy w' none := by
  obtain ⟨l, hl⟩ : ∃ l, l = dg4 n := ⟨_, rfl⟩
  have a0 := i64_and15 (n / 4096) (by omega)
  have a1 := i64_and15 (n / 256) (by omega)
  have a2 := i64_and15 (n / 16) (by omega)
  have a3 := i64_and15 n (by omega)
  rw [show ((n / 4096 : Nat) : Int) = (n : Int) / 4096 by omega] at a0
  rw [show ((n / 256 : Nat) : Int) = (n : Int) / 256 by omega] at a1
  rw [show ((n / 16 : Nat) : Int) = (n : Int) / 16 by omega] at a2
  obtain ⟨d0, hd0⟩ : ∃ d, d = n / 4096 % 16 := ⟨_, rfl⟩
  obtain ⟨d1, hd1⟩ : ∃ d, d = n / 256 % 16 := ⟨_, rfl⟩
  obtain ⟨d2, hd2⟩ : ∃ d, d = n / 16 % 16 := ⟨_, rfl⟩
  obtain ⟨d3, hd3⟩ : ∃ d, d = n % 16 := ⟨_, rfl⟩
  rw [← hd0] at a0
  rw [← hd1] at a1
  rw [← hd2] at a2
  rw [← hd3] at a3
  have hl' : l = [hx d0, hx d1, hx d2, hx d3] := by rw [hl, hd0, hd1, hd2, hd3]; rfl
  rw [← hl]
  clear hl
  have l0 : d0 < 16 := by omega
  have l1 : d1 < 16 := by omega
  have l2 : d2 < 16 := by omega
  have l3 : d3 < 16 := by omega
  clear hd0 hd1 hd2 hd3
  have i0 := fun w => run_index_hexB (P := Try.prog) w 9 .i64 d0 Try.underlying9 l0
  have i1 := fun w => run_index_hexB (P := Try.prog) w 9 .i64 d1 Try.underlying9 l1
  have i2 := fun w => run_index_hexB (P := Try.prog) w 9 .i64 d2 Try.underlying9 l2
  have i3 := fun w => run_index_hexB (P := Try.prog) w 9 .i64 d3 Try.underlying9 l3
  replace hl' := Lib.hid hl'
  go_enter Try.func26, Try.ntmps26
  go_wp2
  go_loopw [4, 5] (fun _ vi wr => ∃ k : Nat, vi = .int .i64 (k : Int) ∧ k ≤ 4 ∧ Hid (OutAt wr w.heap.size (l.take k ++ List.replicate (4 - k) 0)) ∧ Hid (w.grownBy wr none)) (fun _ vi _ => 4 - (RowKit.intOf vi).toNat)
  case atStart => exact ⟨0, rfl, by omega, Lib.hid (World.alloc_heap_new w _), Lib.hid (World.grownBy_alloc w _ none)⟩
  case round =>
    obtain ⟨k, rfl, hk, hO, hg⟩ := hrel
    have key : k = 0 ∨ k = 1 ∨ k = 2 ∨ k = 3 ∨ k = 4 := by omega
    rcases key with rfl | rfl | rfl | rfl | rfl
    · have f0 := hO.out.free 0
      have c0 := hO.out.cell (o := 0) (u := 0) (by rw [hl'.out]; rfl)
      have g1 := gset (gany hg.out (some w.heap.size)) 0 (.int .u8 ((hx d0).toNat : Int))
      have O1 := hO.out.set 0 (hx d0)
      go_wp2
      refine ⟨⟨1, rfl, by omega, Lib.hid ?_, Lib.hid ⟨g1.os, g1.tape, g1.output, g1.size, fun i hi _ => ?_⟩⟩, by simp [RowKit.intOf]⟩
      · rw [hl'.out] at O1 ⊢; exact O1
      · exact g1.block i hi (by simp; omega)
    · have f0 := hO.out.free 1
      have c0 := hO.out.cell (o := 1) (u := 0) (by rw [hl'.out]; rfl)
      have g1 := gset (gany hg.out (some w.heap.size)) 1 (.int .u8 ((hx d1).toNat : Int))
      have O1 := hO.out.set 1 (hx d1)
      go_wp2
      refine ⟨⟨2, rfl, by omega, Lib.hid ?_, Lib.hid ⟨g1.os, g1.tape, g1.output, g1.size, fun i hi _ => ?_⟩⟩, by simp [RowKit.intOf]⟩
      · rw [hl'.out] at O1 ⊢; exact O1
      · exact g1.block i hi (by simp; omega)
    · have f0 := hO.out.free 2
      have c0 := hO.out.cell (o := 2) (u := 0) (by rw [hl'.out]; rfl)
      have g1 := gset (gany hg.out (some w.heap.size)) 2 (.int .u8 ((hx d2).toNat : Int))
      have O1 := hO.out.set 2 (hx d2)
      go_wp2
      refine ⟨⟨3, rfl, by omega, Lib.hid ?_, Lib.hid ⟨g1.os, g1.tape, g1.output, g1.size, fun i hi _ => ?_⟩⟩, by simp [RowKit.intOf]⟩
      · rw [hl'.out] at O1 ⊢; exact O1
      · exact g1.block i hi (by simp; omega)
    · have f0 := hO.out.free 3
      have c0 := hO.out.cell (o := 3) (u := 0) (by rw [hl'.out]; rfl)
      have g1 := gset (gany hg.out (some w.heap.size)) 3 (.int .u8 ((hx d3).toNat : Int))
      have O1 := hO.out.set 3 (hx d3)
      go_wp2
      refine ⟨⟨4, rfl, by omega, Lib.hid ?_, Lib.hid ⟨g1.os, g1.tape, g1.output, g1.size, fun i hi _ => ?_⟩⟩, by simp [RowKit.intOf]⟩
      · rw [hl'.out] at O1 ⊢; exact O1
      · exact g1.block i hi (by simp; omega)
    · have hrd : Reads wr (.slice (some ⟨w.heap.size, 0, none⟩) 4 4) l := by
        have hO := hO.out
        rw [hl'.out] at hO ⊢
        refine .inr ⟨w.heap.size, 0, 4, rfl, Nat.le_refl _, by decide, fun i u hu => ?_⟩
        rw [Nat.zero_add]
        exact hO.cell hu
      have hcv := wconv_of hrd
      have hg := hg.out
      clear hrd hO
      go_wp2
      go_ret
      exact ⟨rfl, hg⟩

theorem encode_small : ∀ c : Fin 128, Utf8.encode (c.val : Int) = ⟨#[UInt8.ofNat c.val]⟩ := by decide +kernel
/-- 's += string(c)'. -/
theorem run_byteString (w : World) (c : Nat) (h : c < 128) : (convert 5 9 (.int .u8 (c : Int))).run Try.prog w = .ok (.string ⟨#[UInt8.ofNat c]⟩) w := by
  rw [run_convert_int_string w 5 9 .u8 (c : Int) (by kernel_rfl) Try.underlying9]
  have := encode_small ⟨c, h⟩
  dsimp only at this
  rw [this]

set_option maxHeartbeats 2000000 in
theorem digits_any (n : Nat) (hn : n < 65536) (w : World) : Calls Try.prog 27 #[.int .i64 (n : Int)] w fun e w' => e = .returned (.string ⟨(dg4 n).toArray⟩) ∧ w.grownBy w' none := by
  obtain ⟨l, hl⟩ : ∃ l, l = dg4 n := ⟨_, rfl⟩
  have a0 := i64_and15 (n / 4096) (by omega)
  have a1 := i64_and15 (n / 256) (by omega)
  have a2 := i64_and15 (n / 16) (by omega)
  have a3 := i64_and15 n (by omega)
  rw [show ((n / 4096 : Nat) : Int) = (n : Int) / 4096 by omega] at a0
  rw [show ((n / 256 : Nat) : Int) = (n : Int) / 256 by omega] at a1
  rw [show ((n / 16 : Nat) : Int) = (n : Int) / 16 by omega] at a2
  obtain ⟨d0, hd0⟩ : ∃ d, d = n / 4096 % 16 := ⟨_, rfl⟩
  obtain ⟨d1, hd1⟩ : ∃ d, d = n / 256 % 16 := ⟨_, rfl⟩
  obtain ⟨d2, hd2⟩ : ∃ d, d = n / 16 % 16 := ⟨_, rfl⟩
  obtain ⟨d3, hd3⟩ : ∃ d, d = n % 16 := ⟨_, rfl⟩
  rw [← hd0] at a0
  rw [← hd1] at a1
  rw [← hd2] at a2
  rw [← hd3] at a3
  have hl' : l = [hx d0, hx d1, hx d2, hx d3] := by rw [hl, hd0, hd1, hd2, hd3]; rfl
  rw [← hl]
  clear hl
  have l0 : d0 < 16 := by omega
  have l1 : d1 < 16 := by omega
  have l2 : d2 < 16 := by omega
  have l3 : d3 < 16 := by omega
  clear hd0 hd1 hd2 hd3
  have i0 := fun w => run_index_hexB (P := Try.prog) w 9 .i64 d0 Try.underlying9 l0
  have i1 := fun w => run_index_hexB (P := Try.prog) w 9 .i64 d1 Try.underlying9 l1
  have i2 := fun w => run_index_hexB (P := Try.prog) w 9 .i64 d2 Try.underlying9 l2
  have i3 := fun w => run_index_hexB (P := Try.prog) w 9 .i64 d3 Try.underlying9 l3
  have s0 := fun w => run_byteString w _ (dv_hx ⟨d0, l0⟩).2.2
  have s1 := fun w => run_byteString w _ (dv_hx ⟨d1, l1⟩).2.2
  have s2 := fun w => run_byteString w _ (dv_hx ⟨d2, l2⟩).2.2
  have s3 := fun w => run_byteString w _ (dv_hx ⟨d3, l3⟩).2.2
  simp only [UInt8.ofNat_toNat] at s0 s1 s2 s3
  replace hl' := Lib.hid hl'
  go_enter Try.func27, Try.ntmps27
  go_wp2
  go_loopw [3, 4] (fun vs vi wr => ∃ k : Nat, k ≤ 4 ∧ vi = .int .i64 (12 - 4 * (k : Int)) ∧ vs = .string ⟨(l.take k).toArray⟩ ∧ wr = w) (fun _ vi _ => (RowKit.intOf vi + 4).toNat)
  case atStart => exact ⟨0, by omega, rfl, rfl, rfl⟩
  case round =>
    obtain ⟨k, hk, rfl, rfl, rfl⟩ := hrel
    have key : k = 0 ∨ k = 1 ∨ k = 2 ∨ k = 3 ∨ k = 4 := by omega
    rcases key with rfl | rfl | rfl | rfl | rfl
    · go_wp2
      exact ⟨⟨1, by omega, by go_num, by first | (rw [hl'.out]; rfl) | rfl, by trivial⟩, by simp [RowKit.intOf]⟩
    · rw [hl'.out]
      simp only [List.take_succ_cons, List.take_zero]
      go_wp2
      exact ⟨⟨2, by omega, by go_num, by first | (rw [hl'.out]; rfl) | rfl, by trivial⟩, by simp [RowKit.intOf]⟩
    · rw [hl'.out]
      simp only [List.take_succ_cons, List.take_zero]
      go_wp2
      exact ⟨⟨3, by omega, by go_num, by first | (rw [hl'.out]; rfl) | rfl, by trivial⟩, by simp [RowKit.intOf]⟩
    · rw [hl'.out]
      simp only [List.take_succ_cons, List.take_zero]
      go_wp2
      exact ⟨⟨4, by omega, by go_num, by first | (rw [hl'.out]; rfl) | rfl, by trivial⟩, by simp [RowKit.intOf]⟩
    · rw [hl'.out]
      simp only [List.take_succ_cons, List.take_zero]
      go_wp2
      go_ret
      exact ⟨by simp [hl'.out], World.grownBy.refl _ _⟩
end Go.Proofs.Ytjdpnklnhiigpaa
