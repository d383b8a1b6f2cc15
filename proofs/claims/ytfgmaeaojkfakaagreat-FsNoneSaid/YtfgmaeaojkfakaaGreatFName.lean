/-
  LAYER 1 (fs): which names may be, of both.
-/
import Derived.Test.YtfgmaeaojkfakaaGreatCBase
import Derived.Test.YtfgmaeaojkfakaaGreatRows
import Derived.WalkKit
import Derived.WalkLawsBesides
import Derived.WalkSpells
import Derived.BigQuiet
import Derived.Laws.Strings
namespace Go.Proofs.YtfgmaeaojkfakaaGreat
set_option maxRecDepth 100000
open Go.RowKit Go.Lib
attribute [local go_sem] Oper.semAt_some

def okByte (c : UInt8) : Bool := decide (33 ≤ c.toNat) && decide (c.toNat ≤ 126) && !decide (c.toNat = 47)
def okName (s : ByteArray) : Bool := decide (1 ≤ s.size) && decide (s.size ≤ 32) && s.data.toList.all okByte

theorem okFrom (s : ByteArray) (k : Nat) (h : k < s.size) : (s.data.toList.drop k).all okByte = (okByte s[k] && (s.data.toList.drop (k + 1)).all okByte) := by
  have e : s.data.toList.drop k = s[k] :: s.data.toList.drop (k + 1) := by
    rw [List.drop_eq_getElem_cons (by simpa using h)]
    rfl
  rw [e, List.all_cons]

theorem okByte_cases (c : UInt8) (C : Nat) (hC : C = c.toNat) : (okByte c = true ∧ ¬ (C : Int) < 33 ∧ ¬ 126 < (C : Int) ∧ ((C : Int) == 47) = false) ∨ (okByte c = false ∧ (C : Int) < 33) ∨ (okByte c = false ∧ ¬ (C : Int) < 33 ∧ 126 < (C : Int)) ∨ (okByte c = false ∧ ¬ (C : Int) < 33 ∧ ¬ 126 < (C : Int) ∧ ((C : Int) == 47) = true) := by
  subst hC
  unfold okByte
  by_cases h1 : 33 ≤ c.toNat
  · by_cases h2 : c.toNat ≤ 126
    · by_cases h3 : c.toNat = 47
      · right; right; right; simp [h3]
      · left; simp [h1, h2, h3]; omega
    · right; right; left; simp [h2]; omega
  · right; left; simp [h1]; omega

theorem index_byte {P : Program} (w : World) (t : TypeId) (s : ByteArray) (k : Nat) (h : P.underlying t = some .string) (h1 : k < s.size) :
    (Instr.index t (.string s) (.int .i64 (k : Int))).run P w = .ok (.int .u8 ((s[k].toNat : Nat) : Int)) w := by
  rw [run_index_string w t s .i64 k h, dif_pos (show 0 ≤ (k : Int) ∧ (k : Int) < (s.size : Int) by omega)]
  simp

set_option maxHeartbeats 4000000 in
theorem mayBe_any (s : ByteArray) (w : World) : Calls Tryz.prog 68 #[.string s] w fun e w' => e = .returned (.bool (okName s)) ∧ w = w' := by
  obtain ⟨q, hq⟩ : ∃ q, q = okName s := ⟨_, rfl⟩
  rw [← hq]
  unfold okName at hq
  have hl0 : s.toList.length = s.size := by rw [ByteArray.toList_eq]; simp
  by_cases h1 : s.size = 0
  · have he : s.toList.isEmpty = true := by rw [← hl0] at h1; simpa using List.length_eq_zero_iff.1 h1
    have hs1 : (s.size : Int) < 1 := by omega
    obtain rfl : q = false := by rw [hq]; simp [h1]
    clear hq
    go_enter Tryz.func68, Tryz.ntmps68
    go_wp2
    go_ret
    exact ⟨rfl, rfl⟩
  · have he : s.toList.isEmpty = false := by
      cases hh : s.toList with
      | nil => rw [hh] at hl0; simp at hl0; omega
      | cons a l => rfl
    have hs1 : ¬ (s.size : Int) < 1 := by omega
    by_cases h2 : s.size ≤ 32
    · have hs2 : ¬ 32 < (s.size : Int) := by omega
      have hq2 : q = (s.data.toList.drop 0).all okByte := by
        rw [hq, List.drop_zero]
        have : 1 ≤ s.size := by omega
        simp [h2, this]
      clear hq
      have hq3 := Lib.hid hq2
      clear hq2
      go_enter Tryz.func68, Tryz.ntmps68
      go_wp2
      go_loopw [3, 13] (fun _ vi wr => ∃ k : Nat, vi = .int .i64 (k : Int) ∧ k ≤ s.size ∧ Hid (q = (s.data.toList.drop k).all okByte) ∧ Hid (wr = w)) (fun _ vi _ => s.size - (RowKit.intOf vi).toNat)
      case atStart => exact ⟨0, rfl, Nat.zero_le _, hq3, Lib.hid rfl⟩
      case round =>
        obtain ⟨k, rfl, hk, hK, hw⟩ := hrel
        obtain rfl := hw.out
        clear hw
        by_cases hlt : k < s.size
        · have hx := fun w t h => index_byte (P := Tryz.prog) w t s k h hlt
          have hK2 := hK.out
          rw [okFrom s k hlt] at hK2
          obtain ⟨C, hC⟩ : ∃ C, C = s[k].toNat := ⟨_, rfl⟩
          rw [← hC] at hx
          have hcs := okByte_cases s[k] C hC
          generalize okByte s[k] = ob at hK2 hcs
          clear hC hK
          rcases hcs with ⟨rfl, c1, c2, c3⟩ | ⟨rfl, c1⟩ | ⟨rfl, c1, c2⟩ | ⟨rfl, c1, c2, c3⟩
          · rw [Bool.true_and] at hK2
            have hK3 := Lib.hid hK2
            clear hK2
            go_wp2
            exact ⟨⟨k + 1, by go_num, by omega, hK3, Lib.hid (by trivial)⟩, by simp [RowKit.intOf]; omega⟩
          all_goals
            rw [Bool.false_and] at hK2
            subst hK2
            go_wp2
            go_ret
            exact ⟨rfl, rfl⟩
        · obtain rfl : k = s.size := by omega
          have hK2 := hK.out
          rw [List.drop_eq_nil_of_le (by simp)] at hK2
          obtain rfl : q = true := hK2
          clear hK
          go_wp2
          go_ret
          exact ⟨rfl, rfl⟩
    · have hs2 : 32 < (s.size : Int) := by omega
      obtain rfl : q = false := by rw [hq]; simp [h2]
      clear hq
      go_enter Tryz.func68, Tryz.ntmps68
      go_wp2
      go_ret
      exact ⟨rfl, rfl⟩
set_option maxHeartbeats 4000000 in
theorem refMay_any (s : ByteArray) (w : World) : Calls Tryz.prog 75 #[.string s] w fun e w' => e = .returned (.bool (okName s)) ∧ w = w' := by
  obtain ⟨q, hq⟩ : ∃ q, q = okName s := ⟨_, rfl⟩
  rw [← hq]
  unfold okName at hq
  have hl0 : s.toList.length = s.size := by rw [ByteArray.toList_eq]; simp
  by_cases h1 : s.size = 0
  · have he : s.toList.isEmpty = true := by rw [← hl0] at h1; simpa using List.length_eq_zero_iff.1 h1
    have hs1 : (s.size : Int) < 1 := by omega
    obtain rfl : q = false := by rw [hq]; simp [h1]
    clear hq
    go_enter Tryz.func75, Tryz.ntmps75
    go_wp2
    go_ret
    exact ⟨rfl, rfl⟩
  · have he : s.toList.isEmpty = false := by
      cases hh : s.toList with
      | nil => rw [hh] at hl0; simp at hl0; omega
      | cons a l => rfl
    have hs1 : ¬ (s.size : Int) < 1 := by omega
    by_cases h2 : s.size ≤ 32
    · have hs2 : ¬ 32 < (s.size : Int) := by omega
      have hq2 : q = (s.data.toList.drop 0).all okByte := by
        rw [hq, List.drop_zero]
        have : 1 ≤ s.size := by omega
        simp [h2, this]
      clear hq
      have hq3 := Lib.hid hq2
      clear hq2
      go_enter Tryz.func75, Tryz.ntmps75
      go_wp2
      go_loopw [3] (fun vi wr => ∃ k : Nat, vi = .int .i64 (k : Int) ∧ k ≤ s.size ∧ Hid (q = (s.data.toList.drop k).all okByte) ∧ Hid (wr = w)) (fun vi _ => s.size - (RowKit.intOf vi).toNat)
      case atStart => exact ⟨0, rfl, Nat.zero_le _, hq3, Lib.hid rfl⟩
      case round =>
        obtain ⟨k, rfl, hk, hK, hw⟩ := hrel
        obtain rfl := hw.out
        clear hw
        by_cases hlt : k < s.size
        · have hx := fun w t h => index_byte (P := Tryz.prog) w t s k h hlt
          have hK2 := hK.out
          rw [okFrom s k hlt] at hK2
          obtain ⟨C, hC⟩ : ∃ C, C = s[k].toNat := ⟨_, rfl⟩
          rw [← hC] at hx
          have hcs := okByte_cases s[k] C hC
          generalize okByte s[k] = ob at hK2 hcs
          clear hC hK
          rcases hcs with ⟨rfl, c1, c2, c3⟩ | ⟨rfl, c1⟩ | ⟨rfl, c1, c2⟩ | ⟨rfl, c1, c2, c3⟩
          · rw [Bool.true_and] at hK2
            have hK3 := Lib.hid hK2
            clear hK2
            go_wp2
            exact ⟨⟨k + 1, by go_num, by omega, hK3, Lib.hid (by trivial)⟩, by simp [RowKit.intOf]; omega⟩
          all_goals
            rw [Bool.false_and] at hK2
            subst hK2
            go_wp2
            go_ret
            exact ⟨rfl, rfl⟩
        · obtain rfl : k = s.size := by omega
          have hK2 := hK.out
          rw [List.drop_eq_nil_of_le (by simp)] at hK2
          obtain rfl : q = true := hK2
          clear hK
          go_wp2
          go_ret
          exact ⟨rfl, rfl⟩
    · have hs2 : 32 < (s.size : Int) := by omega
      obtain rfl : q = false := by rw [hq]; simp [h2]
      clear hq
      go_enter Tryz.func75, Tryz.ntmps75
      go_wp2
      go_ret
      exact ⟨rfl, rfl⟩
end Go.Proofs.YtfgmaeaojkfakaaGreat
