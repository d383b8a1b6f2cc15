/-
  LAYER 4 (utf): the reference's Decode, Order, Same.
-/
import Derived.Test.YtmpipgjdnpgemaaURef1
import Derived.Test.YtmpipgjdnpgemaaUDecode
import Derived.LoopTactic
namespace Go.Proofs.Ytmpipgjdnpgemaa
set_option maxRecDepth 100000
open Go.RowKit Go.Lib

theorem infoI32 : (Try.prog.info? 21).map (fun i => (i.zero, i.size, i.bytes)) = some (some (.int .i32 0), 1, 4) := by kernel_rfl

/-- The call owns these runes. -/
def OwnsR (w : World) (B : Nat) (v : Value) (l : List Int) : Prop := w.ownsRow B 21 1 v l.length (runeCells l)
theorem OwnsR.kept {w w' : World} {B : Nat} {v : Value} {l : List Int} {row : Option Nat} (h : OwnsR w B v l) (hg : w.grownBy w' row) (hne : v.ownBlock = none ∨ v.ownBlock ≠ row) : OwnsR w' B v l := World.ownsRow.kept h hg hne
theorem OwnsR.new {w w' : World} {B : Nat} {v : Value} {l : List Int} (h : OwnsR w B v l) (hg : w.grownBy w' none) : OwnsR w' B v l := h.kept hg (by cases v.ownBlock <;> simp)
theorem OwnsR.runes {w : World} {B : Nat} {v : Value} {l : List Int} (h : OwnsR w B v l) : Runes w v l := by
  have h0 := h
  have hl : (runeCells l).length = l.length := by simp [runeCells]
  obtain ⟨_, ⟨rfl, hn⟩ | ⟨g, cap, cur, rfl, hB, hg, hn, hc, hs, ht⟩⟩ := h
  · obtain rfl : l = [] := List.length_eq_zero_iff.1 hn
    exact .inl ⟨rfl, rfl⟩
  · refine .inr ⟨g, 0, cap, by rw [hl], by omega, hc, fun i u hu => ?_⟩
    have hi : i < (runeCells l).length := (List.getElem?_eq_some_iff.1 hu).1
    rw [Nat.zero_add, World.ownsRow.cellAt h0 i (by omega), hu]
theorem ownsR_nil (w : World) (B : Nat) : OwnsR w B (.slice none 0 0) [] := ⟨rfl, .inl ⟨rfl, rfl⟩⟩
/-- A step that turns a block that is new since 'a'. -/
theorem gnew' {a b c : World} {row : Option Nat} (h : a.grownBy b none) (k : b.grownBy c row) (hn : ∀ r, row = some r → a.heap.size ≤ r) : a.grownBy c none := gnew h k (fun r e => .inl (hn r e))
theorem runeCells_snoc (l : List Int) (r : Int) : runeCells l ++ [Value.int .i32 r] = runeCells (l ++ [r]) := by simp [runeCells]

set_option maxRecDepth 100000 in
set_option maxHeartbeats 2000000 in
theorem refDecode_ok (s : ByteArray) (w : World) (hs : s.size ≤ 1048576) (h : tot s.data.toList = s.size) :
    Calls Try.prog 12 #[.string s] w fun e w' => (∃ v, e = .returned (.tuple #[v, .int .i64 0, .int .i64 0]) ∧ (0 = (0 : Int) → Runes w' v (runes s.data.toList)) ∧ (0 ≠ (0 : Int) → v = .slice none 0 0)) ∧ w.grownBy w' none := by
  have hl0 := tot_length s.data.toList
  have hsz : s.data.toList.length = s.size := by simp
  rw [hsz] at hl0
  obtain ⟨T, hT⟩ : ∃ T, T = tot s.data.toList := ⟨_, rfl⟩
  obtain ⟨R, hR⟩ : ∃ R, R = runes s.data.toList := ⟨_, rfl⟩
  rw [← hT] at h hl0
  try rw [← hT]
  rw [← hR]
  replace hT := Lib.hid hT
  replace hR := Lib.hid hR
  clear hsz
  obtain ⟨i0, hi, hz0, hz1, hz2⟩ := info_parts infoI32
  go_enter Try.func12, Try.ntmps12
  go_wp2
  go_loopw [5, 6] (fun vo vi wr => ∃ (v : Value) (i : Nat) (out : List Int), vo = v ∧ vi = .int .i64 (i : Int) ∧ i ≤ s.size ∧ out.length ≤ i ∧ Hid (i + tot (s.data.toList.drop i) = T) ∧ Hid (R = out ++ runes (s.data.toList.drop i)) ∧ OwnsR wr w.heap.size v out ∧ w.grownBy wr none) (fun _ vi _ => s.size - (RowKit.intOf vi).toNat)
  case atStart => exact ⟨_, 0, [], rfl, rfl, Nat.zero_le _, Nat.le_refl _, Lib.hid (by rw [Nat.zero_add, List.drop_zero]; exact hT.out.symm), Lib.hid (by rw [List.drop_zero, List.nil_append]; exact hR.out), ownsR_nil _ _, World.grownBy.refl w none⟩
  case round =>
    obtain ⟨_, i, out, rfl, rfl, hi1, hol, hI, hRo, hown, hg⟩ := hrel
    have hI2 := hI.out
    have hR2 := hRo.out
    by_cases hlt : i < s.size
    · have hA := fun w => at_any s i w hs hlt
      cases hd : dec (s.data.toList.drop i) with
      | none =>
        rw [hd, atEnd] at hA
        rw [tot_none hd, Nat.add_zero] at hI2
        clear hd hI hRo hR2 hR
        first
          | omega
          | (subst hI2
             clear h
             go_wp2_with (go_at_call 31; refine (hA _).mono ?_; rintro e w5 ⟨rfl, hg5⟩)
             go_ret3
             exact ⟨⟨_, rfl, (fun e => by cases e), fun _ => rfl⟩, gnew hg hg5 (by simp)⟩)
      | some x =>
        obtain ⟨r, n⟩ := x
        rw [hd, atEnd] at hA
        have h1 := dec_some hd
        rw [tot_some hd, List.drop_drop, ← Nat.add_assoc] at hI2
        rw [runes_some hd, List.drop_drop] at hR2
        simp at h1
        have hn1 := h1.1
        have hn2 := h1.2.2.1
        have hne : ((n : Int) == 0) = false := by rw [beq_eq_false_iff_ne]; omega
        have hR3 : R = (out ++ [(r : Int)]) ++ runes (s.data.toList.drop (i + n)) := by rw [hR2]; simp
        replace hI2 := Lib.hid hI2
        replace hR3 := Lib.hid hR3
        clear hd h1 hI hRo hR2
        go_wp2_with (first
          | (go_at_call 31; refine (hA _).mono ?_; rintro e w5 ⟨rfl, hg5⟩; have hown6 : ∀ o, (w5.alloc o).ownsRow w.heap.size 21 1 u5 out.length (runeCells out) := fun o => World.ownsRow.alloc (hown.new hg5) o)
          | (at_builtin; refine wpList_append_own _ rfl _ _ 28 rfl w.heap.size 21 i0 (.int .i32 0) 1 4 Try.underlying28 hi hz0 hz1 hz2 rfl (by decide) u5 out.length (runeCells out) rfl (hown6 _) ⟨w5.heap.size, 0, none⟩ 1 1 [.int .i32 (r : Int)] rfl rfl ?c1 ?c2 ?c3 ?c4 ?c5 ?_))
        case c1 =>
          intro j u hj
          match j, hj with
          | 0, hj => simp at hj; subst hj; simp [Addr.add]
        case c2 =>
          intro u hu; simp at hu; subst hu; rfl
        case c3 => unfold maxLen; omega
        case c4 => omega
        case c5 => have := hg.size; have := hg5.size; simp; omega
        intro v' w7 hown7 hg7 _
        rw [runeCells_snoc] at hown7
        have hob := World.ownsRow.lt hown
        have hown8 : OwnsR w7 w.heap.size v' (out ++ [(r : Int)]) := by unfold OwnsR; rw [List.length_append]; exact hown7
        have hg8 : w.grownBy w7 none := gnew' (galloc (gnew hg hg5 (by simp)) _) hg7 (fun k e => (hob k e).1)
        clear hown7 hg7 hob hown6 hown
        go_wp2
        go_roundw
        case rel => exact ⟨_, i + n, out ++ [(r : Int)], rfl, by go_num, by omega, by simp; omega, hI2, hR3, hown8, hg8⟩
        case measure => simp [RowKit.intOf]; omega
    · rw [List.drop_eq_nil_of_le (by simp; omega), tot_nil, Nat.add_zero] at hI2
      rw [List.drop_eq_nil_of_le (by simp; omega), runes_nil, List.append_nil] at hR2
      subst hR2
      first
        | omega
        | (clear hI hI2 h
           go_wp2
           go_ret3
           exact ⟨⟨_, rfl, fun _ => hown.runes, fun e => absurd rfl e⟩, hg⟩)
set_option maxRecDepth 100000 in
set_option maxHeartbeats 2000000 in
theorem refDecode_bad (s : ByteArray) (w : World) (hs : s.size ≤ 1048576) (h : tot s.data.toList ≠ s.size) :
    Calls Try.prog 12 #[.string s] w fun e w' => (∃ v, e = .returned (.tuple #[v, .int .i64 (tot s.data.toList : Int), .int .i64 40]) ∧ (40 = (0 : Int) → Runes w' v (runes s.data.toList)) ∧ (40 ≠ (0 : Int) → v = .slice none 0 0)) ∧ w.grownBy w' none := by
  have hl0 := tot_length s.data.toList
  have hsz : s.data.toList.length = s.size := by simp
  rw [hsz] at hl0
  obtain ⟨T, hT⟩ : ∃ T, T = tot s.data.toList := ⟨_, rfl⟩
  obtain ⟨R, hR⟩ : ∃ R, R = runes s.data.toList := ⟨_, rfl⟩
  rw [← hT] at h hl0
  try rw [← hT]
  rw [← hR]
  replace hT := Lib.hid hT
  replace hR := Lib.hid hR
  clear hsz
  obtain ⟨i0, hi, hz0, hz1, hz2⟩ := info_parts infoI32
  go_enter Try.func12, Try.ntmps12
  go_wp2
  go_loopw [5, 6] (fun vo vi wr => ∃ (v : Value) (i : Nat) (out : List Int), vo = v ∧ vi = .int .i64 (i : Int) ∧ i ≤ s.size ∧ out.length ≤ i ∧ Hid (i + tot (s.data.toList.drop i) = T) ∧ Hid (R = out ++ runes (s.data.toList.drop i)) ∧ OwnsR wr w.heap.size v out ∧ w.grownBy wr none) (fun _ vi _ => s.size - (RowKit.intOf vi).toNat)
  case atStart => exact ⟨_, 0, [], rfl, rfl, Nat.zero_le _, Nat.le_refl _, Lib.hid (by rw [Nat.zero_add, List.drop_zero]; exact hT.out.symm), Lib.hid (by rw [List.drop_zero, List.nil_append]; exact hR.out), ownsR_nil _ _, World.grownBy.refl w none⟩
  case round =>
    obtain ⟨_, i, out, rfl, rfl, hi1, hol, hI, hRo, hown, hg⟩ := hrel
    have hI2 := hI.out
    have hR2 := hRo.out
    by_cases hlt : i < s.size
    · have hA := fun w => at_any s i w hs hlt
      cases hd : dec (s.data.toList.drop i) with
      | none =>
        rw [hd, atEnd] at hA
        rw [tot_none hd, Nat.add_zero] at hI2
        clear hd hI hRo hR2 hR
        first
          | omega
          | (subst hI2
             clear h
             go_wp2_with (go_at_call 31; refine (hA _).mono ?_; rintro e w5 ⟨rfl, hg5⟩)
             go_ret3
             exact ⟨⟨_, rfl, (fun e => by cases e), fun _ => rfl⟩, gnew hg hg5 (by simp)⟩)
      | some x =>
        obtain ⟨r, n⟩ := x
        rw [hd, atEnd] at hA
        have h1 := dec_some hd
        rw [tot_some hd, List.drop_drop, ← Nat.add_assoc] at hI2
        rw [runes_some hd, List.drop_drop] at hR2
        simp at h1
        have hn1 := h1.1
        have hn2 := h1.2.2.1
        have hne : ((n : Int) == 0) = false := by rw [beq_eq_false_iff_ne]; omega
        have hR3 : R = (out ++ [(r : Int)]) ++ runes (s.data.toList.drop (i + n)) := by rw [hR2]; simp
        replace hI2 := Lib.hid hI2
        replace hR3 := Lib.hid hR3
        clear hd h1 hI hRo hR2
        go_wp2_with (first
          | (go_at_call 31; refine (hA _).mono ?_; rintro e w5 ⟨rfl, hg5⟩; have hown6 : ∀ o, (w5.alloc o).ownsRow w.heap.size 21 1 u5 out.length (runeCells out) := fun o => World.ownsRow.alloc (hown.new hg5) o)
          | (at_builtin; refine wpList_append_own _ rfl _ _ 28 rfl w.heap.size 21 i0 (.int .i32 0) 1 4 Try.underlying28 hi hz0 hz1 hz2 rfl (by decide) u5 out.length (runeCells out) rfl (hown6 _) ⟨w5.heap.size, 0, none⟩ 1 1 [.int .i32 (r : Int)] rfl rfl ?c1 ?c2 ?c3 ?c4 ?c5 ?_))
        case c1 =>
          intro j u hj
          match j, hj with
          | 0, hj => simp at hj; subst hj; simp [Addr.add]
        case c2 =>
          intro u hu; simp at hu; subst hu; rfl
        case c3 => unfold maxLen; omega
        case c4 => omega
        case c5 => have := hg.size; have := hg5.size; simp; omega
        intro v' w7 hown7 hg7 _
        rw [runeCells_snoc] at hown7
        have hob := World.ownsRow.lt hown
        have hown8 : OwnsR w7 w.heap.size v' (out ++ [(r : Int)]) := by unfold OwnsR; rw [List.length_append]; exact hown7
        have hg8 : w.grownBy w7 none := gnew' (galloc (gnew hg hg5 (by simp)) _) hg7 (fun k e => (hob k e).1)
        clear hown7 hg7 hob hown6 hown
        go_wp2
        go_roundw
        case rel => exact ⟨_, i + n, out ++ [(r : Int)], rfl, by go_num, by omega, by simp; omega, hI2, hR3, hown8, hg8⟩
        case measure => simp [RowKit.intOf]; omega
    · rw [List.drop_eq_nil_of_le (by simp; omega), tot_nil, Nat.add_zero] at hI2
      rw [List.drop_eq_nil_of_le (by simp; omega), runes_nil, List.append_nil] at hR2
      subst hR2
      first
        | omega
        | (clear hI hI2 h
           go_wp2
           go_ret3
           exact ⟨⟨_, rfl, fun _ => hown.runes, fun e => absurd rfl e⟩, hg⟩)
end Go.Proofs.Ytmpipgjdnpgemaa
