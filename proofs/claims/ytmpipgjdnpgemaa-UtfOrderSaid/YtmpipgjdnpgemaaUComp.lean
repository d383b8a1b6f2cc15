/-
  LAYER 4 (utf): Compare; UtfOrder.
-/
import Derived.Test.YtmpipgjdnpgemaaUOrder
import Derived.Test.YtmpipgjdnpgemaaUAwake
import Derived.LoopN
namespace Go.Proofs.Ytmpipgjdnpgemaa
set_option maxRecDepth 100000
open Go.RowKit Go.Lib

set_option maxRecDepth 100000 in
set_option maxHeartbeats 2000000 in
theorem compare_ok (a b : ByteArray) (w : World) (ha : a.size ≤ 1048576) (hb : b.size ≤ 1048576) (va : tot a.data.toList = a.data.toList.length) (vb : tot b.data.toList = b.data.toList.length) :
    Calls Try.prog 26 #[.string a, .string b] w fun e w' => e = .returned (.tuple #[.int .i64 (compareBytes a.data.toList b.data.toList), .int .i64 0]) ∧ Below w.heap.size w w' := by
  have hA := fun w => check_ok a w (by unfold maxLen; omega) va
  have hB := fun w => check_ok b w (by unfold maxLen; omega) vb
  have hS := fun w => Try.strings_Compare a b w
  generalize compareBytes a.data.toList b.data.toList = O at hS ⊢
  clear va vb
  obtain ⟨W0, hW0⟩ : ∃ W0, W0 = w.alloc (.cells #[.string a, .string b] 9) := ⟨_, rfl⟩
  have hg0 : w.grownBy W0 none := by rw [hW0]; exact World.grownBy_alloc w _ none
  have k0 : W0.cell? ⟨w.heap.size, 0, none⟩ = some (.string a) := by rw [hW0]; simp [go_sem]
  have k1 : W0.cell? ⟨w.heap.size, 1, none⟩ = some (.string b) := by rw [hW0]; simp [go_sem]
  have hlt := World.block_lt_of_cell? W0 _ k0
  replace hW0 := Lib.hid hW0
  go_enter Try.func26, Try.ntmps26
  go_wp2_with fail
  rw [← hW0.out]
  refine wp_loop_rounds 3 ?_
  rw [rounds_succ]
  go_wp2_with (go_at_call 9; refine (hA _).mono ?_; rintro e w1 ⟨rfl, hb1⟩; have k2 := (hb1.cell (p := ⟨w.heap.size, 1, none⟩) hlt).trans k1)
  rw [rounds_succ]
  go_wp2_with (go_at_call 9; refine (hB _).mono ?_; rintro e w2 ⟨rfl, hb2⟩)
  rw [rounds_succ]
  go_wp2_with (go_at_call 43; refine (hS _).mono ?_; rintro e w3 ⟨rfl, rfl⟩)
  go_ret2
  exact ⟨rfl, ((belowg' hg0).trans (hb1.mono hg0.size)).trans (hb2.mono (Nat.le_trans hg0.size hb1.size))⟩

set_option maxRecDepth 100000 in
set_option maxHeartbeats 2000000 in
theorem compare_bad (a b : ByteArray) (w : World) (ha : a.size ≤ 1048576) (hb : b.size ≤ 1048576) (h : tot a.data.toList ≠ a.data.toList.length ∨ tot b.data.toList ≠ b.data.toList.length) :
    Calls Try.prog 26 #[.string a, .string b] w fun e w' => e = .returned (.tuple #[.int .i64 0, .int .i64 40]) ∧ Below w.heap.size w w' := by
  obtain ⟨W0, hW0⟩ : ∃ W0, W0 = w.alloc (.cells #[.string a, .string b] 9) := ⟨_, rfl⟩
  have hg0 : w.grownBy W0 none := by rw [hW0]; exact World.grownBy_alloc w _ none
  have k0 : W0.cell? ⟨w.heap.size, 0, none⟩ = some (.string a) := by rw [hW0]; simp [go_sem]
  have k1 : W0.cell? ⟨w.heap.size, 1, none⟩ = some (.string b) := by rw [hW0]; simp [go_sem]
  have hlt := World.block_lt_of_cell? W0 _ k0
  replace hW0 := Lib.hid hW0
  by_cases va : tot a.data.toList = a.data.toList.length
  · have vb : tot b.data.toList ≠ b.data.toList.length := by rcases h with h | h; exact absurd va h; exact h
    have hA := fun w => check_ok a w (by unfold maxLen; omega) va
    have hB := fun w => check_bad b w (by unfold maxLen; omega) vb
    generalize tot b.data.toList = T at hB
    clear va vb h
    go_enter Try.func26, Try.ntmps26
    go_wp2_with fail
    rw [← hW0.out]
    refine wp_loop_rounds 2 ?_
    rw [rounds_succ]
    go_wp2_with (go_at_call 9; refine (hA _).mono ?_; rintro e w1 ⟨rfl, hb1⟩; have k2 := (hb1.cell (p := ⟨w.heap.size, 1, none⟩) hlt).trans k1)
    rw [rounds_succ]
    go_wp2_with (go_at_call 9; refine (hB _).mono ?_; rintro e w2 ⟨rfl, hb2⟩)
    go_ret2
    exact ⟨rfl, ((belowg' hg0).trans (hb1.mono hg0.size)).trans (hb2.mono (Nat.le_trans hg0.size hb1.size))⟩
  · have hA := fun w => check_bad a w (by unfold maxLen; omega) va
    generalize tot a.data.toList = T at hA
    clear va h
    go_enter Try.func26, Try.ntmps26
    go_wp2_with fail
    rw [← hW0.out]
    refine wp_loop_rounds 1 ?_
    rw [rounds_succ]
    go_wp2_with (go_at_call 9; refine (hA _).mono ?_; rintro e w1 ⟨rfl, hb1⟩)
    go_ret2
    exact ⟨rfl, (belowg' hg0).trans (hb1.mono hg0.size)⟩

theorem below_on {w w1 w2 : World} (h : Below w.heap.size w w1) (k : Below w1.heap.size w1 w2) : Below w.heap.size w w2 := h.trans (k.mono h.size)

set_option maxRecDepth 100000 in
set_option maxHeartbeats 4000000 in
theorem order_bad (a b : ByteArray) (w : World) (hl : a.size + b.size ≤ 3000) (h : tot a.data.toList ≠ a.size ∨ tot b.data.toList ≠ b.size) :
    Calls Try.prog 6 #[.string a, .string b] w fun e w' => e = .returned (.bool true) ∧ Below w.heap.size w w' := by
  have hC := fun w => compare_bad a b w (by omega) (by omega) (by simpa using h)
  have hR := fun w => refCompare_bad a b w (by omega) (by omega) h
  clear h
  go_enter Try.func6, Try.ntmps6
  go_wp2_with (first
    | (go_at_call 8; refine (awake_any _).mono ?_; rintro e w1 ⟨rfl, hb1⟩)
    | (go_at_call 26; refine (hC _).mono ?_; rintro e w2 ⟨rfl, hb2⟩)
    | (go_at_call 27; refine (hR _).mono ?_; rintro e w3 ⟨rfl, hg3⟩))
  go_ret
  exact ⟨by simp, below_on (below_on hb1 hb2) (belowg' hg3)⟩

theorem less_cmp : ∀ (x y : List UInt8), (compareBytes x y = -1 ∧ Op.bytesLess x y = true ∧ (x == y) = false) ∨ (compareBytes x y = 0 ∧ Op.bytesLess x y = false ∧ (x == y) = true) ∨ (compareBytes x y = 1 ∧ Op.bytesLess x y = false ∧ (x == y) = false)
  | [], [] => .inr (.inl ⟨rfl, rfl, rfl⟩)
  | [], _ :: _ => .inl ⟨rfl, rfl, rfl⟩
  | _ :: _, [] => .inr (.inr ⟨rfl, rfl, rfl⟩)
  | a :: x, b :: y => by
    have ha := a.toNat_lt
    have hb := b.toNat_lt
    rw [cmpc, Op.bytesLess, List.cons_beq_cons]
    rcases Nat.lt_trichotomy a.toNat b.toNat with h | h | h
    · left
      have hne : (a == b) = false := by rw [beq_eq_false_iff_ne]; rintro rfl; omega
      rw [if_pos h]
      exact ⟨rfl, by simp [UInt8.lt_iff_toNat_lt, h], by simp [hne]⟩
    · obtain rfl : a = b := UInt8.toNat_inj.1 h
      rw [if_neg (by omega), if_neg (by omega)]
      simpa [UInt8.lt_iff_toNat_lt] using less_cmp x y
    · right; right
      have hne : (a == b) = false := by rw [beq_eq_false_iff_ne]; rintro rfl; omega
      rw [if_neg (by omega), if_pos h]
      refine ⟨rfl, ?_, by simp [hne]⟩
      simp [UInt8.lt_iff_toNat_lt, hne]
      omega

set_option maxRecDepth 100000 in
set_option maxHeartbeats 4000000 in
theorem order_ok (a b : ByteArray) (w : World) (hl : a.size + b.size ≤ 3000) (va : tot a.data.toList = a.size) (vb : tot b.data.toList = b.size) :
    Calls Try.prog 6 #[.string a, .string b] w fun e w' => e = .returned (.bool true) ∧ Below w.heap.size w w' := by
  have hC := fun w => compare_ok a b w (by omega) (by omega) (by simpa using va) (by simpa using vb)
  have hR := fun w => refCompare_ok a b w (by omega) (by omega) va vb
  have hq := cmp_runes _ a.data.toList b.data.toList (Nat.le_refl _) (by unfold valid; simpa using va) (by unfold valid; simpa using vb)
  rw [← hq] at hR
  have hlc := less_cmp a.data.toList b.data.toList
  rw [← ByteArray.toList_eq, ← ByteArray.toList_eq] at hlc hC hR
  clear hq va vb
  rcases hlc with ⟨h1, h2, h3⟩ | ⟨h1, h2, h3⟩ | ⟨h1, h2, h3⟩
  all_goals
    rw [h1] at hC hR
    clear h1
    go_enter Try.func6, Try.ntmps6
    go_wp2_with (first
      | (go_at_call 8; refine (awake_any _).mono ?_; rintro e w1 ⟨rfl, hb1⟩)
      | (go_at_call 26; refine (hC _).mono ?_; rintro e w2 ⟨rfl, hb2⟩)
      | (go_at_call 27; refine (hR _).mono ?_; rintro e w3 ⟨rfl, hg3⟩))
    go_ret
    exact ⟨by simp, below_on (below_on hb1 hb2) (belowg' hg3)⟩

set_option maxRecDepth 100000 in
set_option maxHeartbeats 1000000 in
theorem order_big (a b : ByteArray) (w : World) (hl : 3000 < a.size + b.size) (h1 : a.size ≤ 140737488355328) (h2 : b.size ≤ 140737488355328) :
    Calls Try.prog 6 #[.string a, .string b] w fun e w' => e = .returned (.bool true) ∧ Below w.heap.size w w' := by
  go_enter Try.func6, Try.ntmps6
  go_wp2_with (go_at_call 8; refine (awake_any _).mono ?_; rintro e w1 ⟨rfl, hb1⟩)
  go_ret
  exact ⟨by simp, hb1⟩

theorem UtfOrder_walk (w : World) (a : ByteArray) (h1 : a.size ≤ 140737488351232) (b : ByteArray) (h2 : b.size ≤ 140737488351232) :
    Calls Try.prog 6 #[.string a, .string b] w fun e w' => e = .returned (.bool true) ∧ Below w.heap.size w w' := by
  by_cases hl : a.size + b.size ≤ 3000
  · by_cases ha : tot a.data.toList = a.size
    · by_cases hb : tot b.data.toList = b.size
      · exact order_ok a b w hl ha hb
      · exact order_bad a b w hl (.inr hb)
    · exact order_bad a b w hl (.inl ha)
  · exact order_big a b w (by omega) (by omega) (by omega)
end Go.Proofs.Ytmpipgjdnpgemaa
