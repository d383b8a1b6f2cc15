/-
  LAYER 4 (utf): the reference's Check, Next, Decode.
-/
import Derived.Test.YtpdacbiiaglodaaGreatQG36
import Derived.Test.YtpdacbiiaglodaaGreatQG06
import Derived.Test.YtpdacbiiaglodaaGreatQG05
import Derived.RangeFuncLeaves
import Derived.Test.YtpdacbiiaglodaaGreatQG35
import Derived.LoopTactic
import Derived.Test.YtpdacbiiaglodaaGreatQG07
import Derived.Test.YtpdacbiiaglodaaGreatQG34
import Derived.RegionTactic
import Derived.BigRegion
namespace Go.Proofs.YtpdacbiiaglodaaGreat.U
set_option maxRecDepth 100000
open Go.RowKit Go.Lib

theorem bel {w w' : World} (h : w.grownBy w' none) : Below w.heap.size w w' := belowg' h

def nextEnd : Option (Nat × Nat) → Ending
  | some (r, n) => .returned (.tuple #[.int .i32 (r : Int), .int .i64 (n : Int), .int .i64 0])
  | none => .returned (.tuple #[.int .i32 0, .int .i64 0, .int .i64 40])

end Go.Proofs.YtpdacbiiaglodaaGreat.U

/-
  LAYER 4 (utf): the reference's Decode, Order, Same.
-/
namespace Go.Proofs.YtpdacbiiaglodaaGreat.U
set_option maxRecDepth 100000
open Go.RowKit Go.Lib

theorem infoI32 : (Tryz.prog.info? 21).map (fun i => (i.zero, i.size, i.bytes)) = some (some (.int .i32 0), 1, 4) := by kernel_rfl

/-- The call owns these runes. -/
def OwnsR (w : World) (B : Nat) (v : Value) (l : List Int) : Prop := w.ownsRow B 21 1 v l.length (runeCells l)
theorem OwnsR.kept {w w' : World} {B : Nat} {v : Value} {l : List Int} {row : Option Nat} (h : OwnsR w B v l) (hg : w.grownBy w' row) (hne : v.ownBlock = none ∨ v.ownBlock ≠ row) : OwnsR w' B v l := World.ownsRow.kept h hg hne
theorem OwnsR.new {w w' : World} {B : Nat} {v : Value} {l : List Int} (h : OwnsR w B v l) (hg : w.grownBy w' none) : OwnsR w' B v l := h.kept hg (by cases v.ownBlock <;> simp)
theorem OwnsR.runes {w : World} {B : Nat} {v : Value} {l : List Int} (h : OwnsR w B v l) : Runes w v l := by
  have h0 := h
  have hl : (runeCells l).length = l.length := by simp [runeCells]
  obtain ⟨_, ⟨rfl, hn⟩ | ⟨g, cap, cur, rfl, hB, hg, hn, hc, hs, ht⟩⟩ := h
  · obtain rfl : l = [] := List.length_eq_zero_iff.1 hn
    exact .inl ⟨rfl, rfl⟩
  · refine .inr ⟨g, 0, cap, by rw [hl], by omega, hc, fun i u hu => ?_⟩
    have hi : i < (runeCells l).length := (List.getElem?_eq_some_iff.1 hu).1
    rw [Nat.zero_add, World.ownsRow.cellAt h0 i (by omega), hu]
theorem ownsR_nil (w : World) (B : Nat) : OwnsR w B (.slice none 0 0) [] := ⟨rfl, .inl ⟨rfl, rfl⟩⟩
/-- A step that turns a block that is new since 'a'. -/
theorem gnew' {a b c : World} {row : Option Nat} (h : a.grownBy b none) (k : b.grownBy c row) (hn : ∀ r, row = some r → a.heap.size ≤ r) : a.grownBy c none := gnew h k (fun r e => .inl (hn r e))
theorem runeCells_snoc (l : List Int) (r : Int) : runeCells l ++ [Value.int .i32 r] = runeCells (l ++ [r]) := by simp [runeCells]

set_option maxRecDepth 100000 in
set_option maxHeartbeats 2000000 in
theorem refDecode_ok (s : ByteArray) (w : World) (hs : s.size ≤ 1048576) (h : tot s.data.toList = s.size) :
    Calls Tryz.prog 60 #[.string s] w fun e w' => (∃ v, e = .returned (.tuple #[v, .int .i64 0, .int .i64 0]) ∧ (0 = (0 : Int) → Runes w' v (runes s.data.toList)) ∧ (0 ≠ (0 : Int) → v = .slice none 0 0)) ∧ w.grownBy w' none := by
  have hl0 := tot_length s.data.toList
  have hsz : s.data.toList.length = s.size := by simp
  rw [hsz] at hl0
  obtain ⟨T, hT⟩ : ∃ T, T = tot s.data.toList := ⟨_, rfl⟩
  obtain ⟨R, hR⟩ : ∃ R, R = runes s.data.toList := ⟨_, rfl⟩
  rw [← hT] at h hl0
  try rw [← hT]
  rw [← hR]
  replace hT := Lib.hid hT
  replace hR := Lib.hid hR
  clear hsz
  obtain ⟨i0, hi, hz0, hz1, hz2⟩ := info_parts infoI32
  go_enter Tryz.func60, Tryz.ntmps60
  go_wp2
  go_loopw [5, 6] (fun vo vi wr => ∃ (v : Value) (i : Nat) (out : List Int), vo = v ∧ vi = .int .i64 (i : Int) ∧ i ≤ s.size ∧ out.length ≤ i ∧ Hid (i + tot (s.data.toList.drop i) = T) ∧ Hid (R = out ++ runes (s.data.toList.drop i)) ∧ OwnsR wr w.heap.size v out ∧ w.grownBy wr none) (fun _ vi _ => s.size - (RowKit.intOf vi).toNat)
  case atStart => exact ⟨_, 0, [], rfl, rfl, Nat.zero_le _, Nat.le_refl _, Lib.hid (by rw [Nat.zero_add, List.drop_zero]; exact hT.out.symm), Lib.hid (by rw [List.drop_zero, List.nil_append]; exact hR.out), ownsR_nil _ _, World.grownBy.refl w none⟩
  case round =>
    obtain ⟨_, i, out, rfl, rfl, hi1, hol, hI, hRo, hown, hg⟩ := hrel
    have hI2 := hI.out
    have hR2 := hRo.out
    by_cases hlt : i < s.size
    · have hA := fun w => at_any s i w hs hlt
      cases hd : dec (s.data.toList.drop i) with
      | none =>
        rw [hd, atEnd] at hA
        rw [tot_none hd, Nat.add_zero] at hI2
        clear hd hI hRo hR2 hR
        first
          | omega
          | (subst hI2
             clear h
             go_wp2_with (go_at_call 104; refine (hA _).mono ?_; rintro e w5 ⟨rfl, hg5⟩)
             go_ret3
             exact ⟨⟨_, rfl, (fun e => by cases e), fun _ => rfl⟩, gnew hg hg5 (by simp)⟩)
      | some x =>
        obtain ⟨r, n⟩ := x
        rw [hd, atEnd] at hA
        have h1 := dec_some hd
        rw [tot_some hd, List.drop_drop, ← Nat.add_assoc] at hI2
        rw [runes_some hd, List.drop_drop] at hR2
        simp at h1
        have hn1 := h1.1
        have hn2 := h1.2.2.1
        have hne : ((n : Int) == 0) = false := by rw [beq_eq_false_iff_ne]; omega
        have hR3 : R = (out ++ [(r : Int)]) ++ runes (s.data.toList.drop (i + n)) := by rw [hR2]; simp
        replace hI2 := Lib.hid hI2
        replace hR3 := Lib.hid hR3
        clear hd h1 hI hRo hR2
        go_wp2_with (first
          | (go_at_call 104; refine (hA _).mono ?_; rintro e w5 ⟨rfl, hg5⟩; have hown6 : ∀ o, (w5.alloc o).ownsRow w.heap.size 21 1 u5 out.length (runeCells out) := fun o => World.ownsRow.alloc (hown.new hg5) o)
          | (at_builtin; refine wpList_append_own _ rfl _ _ 50 rfl w.heap.size 21 i0 (.int .i32 0) 1 4 Tryz.underlying50 hi hz0 hz1 hz2 rfl (by decide) u5 out.length (runeCells out) rfl (hown6 _) ⟨w5.heap.size, 0, none⟩ 1 1 [.int .i32 (r : Int)] rfl rfl ?c1 ?c2 ?c3 ?c4 ?c5 ?_))
        case c1 =>
          intro j u hj
          match j, hj with
          | 0, hj => simp at hj; subst hj; simp [Addr.add]
        case c2 =>
          intro u hu; simp at hu; subst hu; rfl
        case c3 => unfold maxLen; omega
        case c4 => omega
        case c5 => have := hg.size; have := hg5.size; simp; omega
        intro v' w7 hown7 hg7 _
        rw [runeCells_snoc] at hown7
        have hob := World.ownsRow.lt hown
        have hown8 : OwnsR w7 w.heap.size v' (out ++ [(r : Int)]) := by unfold OwnsR; rw [List.length_append]; exact hown7
        have hg8 : w.grownBy w7 none := gnew' (galloc (gnew hg hg5 (by simp)) _) hg7 (fun k e => (hob k e).1)
        clear hown7 hg7 hob hown6 hown
        go_wp2
        go_roundw
        case rel => exact ⟨_, i + n, out ++ [(r : Int)], rfl, by go_num, by omega, by simp; omega, hI2, hR3, hown8, hg8⟩
        case measure => simp [RowKit.intOf]; omega
    · rw [List.drop_eq_nil_of_le (by simp; omega), tot_nil, Nat.add_zero] at hI2
      rw [List.drop_eq_nil_of_le (by simp; omega), runes_nil, List.append_nil] at hR2
      subst hR2
      first
        | omega
        | (clear hI hI2 h
           go_wp2
           go_ret3
           exact ⟨⟨_, rfl, fun _ => hown.runes, fun e => absurd rfl e⟩, hg⟩)
set_option maxRecDepth 100000 in
set_option maxHeartbeats 2000000 in
theorem refDecode_bad (s : ByteArray) (w : World) (hs : s.size ≤ 1048576) (h : tot s.data.toList ≠ s.size) :
    Calls Tryz.prog 60 #[.string s] w fun e w' => (∃ v, e = .returned (.tuple #[v, .int .i64 (tot s.data.toList : Int), .int .i64 40]) ∧ (40 = (0 : Int) → Runes w' v (runes s.data.toList)) ∧ (40 ≠ (0 : Int) → v = .slice none 0 0)) ∧ w.grownBy w' none := by
  have hl0 := tot_length s.data.toList
  have hsz : s.data.toList.length = s.size := by simp
  rw [hsz] at hl0
  obtain ⟨T, hT⟩ : ∃ T, T = tot s.data.toList := ⟨_, rfl⟩
  obtain ⟨R, hR⟩ : ∃ R, R = runes s.data.toList := ⟨_, rfl⟩
  rw [← hT] at h hl0
  try rw [← hT]
  rw [← hR]
  replace hT := Lib.hid hT
  replace hR := Lib.hid hR
  clear hsz
  obtain ⟨i0, hi, hz0, hz1, hz2⟩ := info_parts infoI32
  go_enter Tryz.func60, Tryz.ntmps60
  go_wp2
  go_loopw [5, 6] (fun vo vi wr => ∃ (v : Value) (i : Nat) (out : List Int), vo = v ∧ vi = .int .i64 (i : Int) ∧ i ≤ s.size ∧ out.length ≤ i ∧ Hid (i + tot (s.data.toList.drop i) = T) ∧ Hid (R = out ++ runes (s.data.toList.drop i)) ∧ OwnsR wr w.heap.size v out ∧ w.grownBy wr none) (fun _ vi _ => s.size - (RowKit.intOf vi).toNat)
  case atStart => exact ⟨_, 0, [], rfl, rfl, Nat.zero_le _, Nat.le_refl _, Lib.hid (by rw [Nat.zero_add, List.drop_zero]; exact hT.out.symm), Lib.hid (by rw [List.drop_zero, List.nil_append]; exact hR.out), ownsR_nil _ _, World.grownBy.refl w none⟩
  case round =>
    obtain ⟨_, i, out, rfl, rfl, hi1, hol, hI, hRo, hown, hg⟩ := hrel
    have hI2 := hI.out
    have hR2 := hRo.out
    by_cases hlt : i < s.size
    · have hA := fun w => at_any s i w hs hlt
      cases hd : dec (s.data.toList.drop i) with
      | none =>
        rw [hd, atEnd] at hA
        rw [tot_none hd, Nat.add_zero] at hI2
        clear hd hI hRo hR2 hR
        first
          | omega
          | (subst hI2
             clear h
             go_wp2_with (go_at_call 104; refine (hA _).mono ?_; rintro e w5 ⟨rfl, hg5⟩)
             go_ret3
             exact ⟨⟨_, rfl, (fun e => by cases e), fun _ => rfl⟩, gnew hg hg5 (by simp)⟩)
      | some x =>
        obtain ⟨r, n⟩ := x
        rw [hd, atEnd] at hA
        have h1 := dec_some hd
        rw [tot_some hd, List.drop_drop, ← Nat.add_assoc] at hI2
        rw [runes_some hd, List.drop_drop] at hR2
        simp at h1
        have hn1 := h1.1
        have hn2 := h1.2.2.1
        have hne : ((n : Int) == 0) = false := by rw [beq_eq_false_iff_ne]; omega
        have hR3 : R = (out ++ [(r : Int)]) ++ runes (s.data.toList.drop (i + n)) := by rw [hR2]; simp
        replace hI2 := Lib.hid hI2
        replace hR3 := Lib.hid hR3
        clear hd h1 hI hRo hR2
        go_wp2_with (first
          | (go_at_call 104; refine (hA _).mono ?_; rintro e w5 ⟨rfl, hg5⟩; have hown6 : ∀ o, (w5.alloc o).ownsRow w.heap.size 21 1 u5 out.length (runeCells out) := fun o => World.ownsRow.alloc (hown.new hg5) o)
          | (at_builtin; refine wpList_append_own _ rfl _ _ 50 rfl w.heap.size 21 i0 (.int .i32 0) 1 4 Tryz.underlying50 hi hz0 hz1 hz2 rfl (by decide) u5 out.length (runeCells out) rfl (hown6 _) ⟨w5.heap.size, 0, none⟩ 1 1 [.int .i32 (r : Int)] rfl rfl ?c1 ?c2 ?c3 ?c4 ?c5 ?_))
        case c1 =>
          intro j u hj
          match j, hj with
          | 0, hj => simp at hj; subst hj; simp [Addr.add]
        case c2 =>
          intro u hu; simp at hu; subst hu; rfl
        case c3 => unfold maxLen; omega
        case c4 => omega
        case c5 => have := hg.size; have := hg5.size; simp; omega
        intro v' w7 hown7 hg7 _
        rw [runeCells_snoc] at hown7
        have hob := World.ownsRow.lt hown
        have hown8 : OwnsR w7 w.heap.size v' (out ++ [(r : Int)]) := by unfold OwnsR; rw [List.length_append]; exact hown7
        have hg8 : w.grownBy w7 none := gnew' (galloc (gnew hg hg5 (by simp)) _) hg7 (fun k e => (hob k e).1)
        clear hown7 hg7 hob hown6 hown
        go_wp2
        go_roundw
        case rel => exact ⟨_, i + n, out ++ [(r : Int)], rfl, by go_num, by omega, by simp; omega, hI2, hR3, hown8, hg8⟩
        case measure => simp [RowKit.intOf]; omega
    · rw [List.drop_eq_nil_of_le (by simp; omega), tot_nil, Nat.add_zero] at hI2
      rw [List.drop_eq_nil_of_le (by simp; omega), runes_nil, List.append_nil] at hR2
      subst hR2
      first
        | omega
        | (clear hI hI2 h
           go_wp2
           go_ret3
           exact ⟨⟨_, rfl, fun _ => hown.runes, fun e => absurd rfl e⟩, hg⟩)
end Go.Proofs.YtpdacbiiaglodaaGreat.U

/-
  LAYER 4 (utf): the reference's Order, Same, Compare.
-/
namespace Go.Proofs.YtpdacbiiaglodaaGreat.U
set_option maxRecDepth 100000
open Go.RowKit Go.Lib

theorem Runes.form {w : World} {v : Value} {l : List Int} (h : Runes w v l) : ∃ a c, v = .slice a l.length c ∧ l.length ≤ c ∧ c ≤ maxLen := by
  rcases h with ⟨rfl, h⟩ | ⟨b, off, cap, rfl, h1, h2, _⟩
  · have : l = [] := by cases l with | nil => rfl | cons a t => simp [runeCells] at h
    subst this
    exact ⟨none, 0, rfl, Nat.le_refl _, by decide⟩
  · rw [show (runeCells l).length = l.length by simp [runeCells]] at h1 ⊢
    exact ⟨_, _, rfl, h1, h2⟩
theorem Runes.cell {w : World} {a : Option Addr} {n c : Nat} {l : List Int} (h : Runes w (.slice a n c) l) {i : Nat} {r : Int} (hr : l[i]? = some r) : ∃ b off, a = some ⟨b, off, none⟩ ∧ w.cell? ⟨b, off + i, none⟩ = some (.int .i32 r) := by
  rcases h with ⟨_, h⟩ | ⟨b, off, cap, e, _, _, hc⟩
  · have : l = [] := by cases l with | nil => rfl | cons a t => simp [runeCells] at h
    subst this
    simp at hr
  · simp only [Value.slice.injEq] at e
    exact ⟨b, off, e.1, hc i _ (by simp [runeCells, hr])⟩

theorem ordL_step {x y : List Int} {i : Nat} {a b : Int} (ha : x[i]? = some a) (hb : y[i]? = some b) : ordL (x.drop i) (y.drop i) = if a < b then -1 else if b < a then 1 else ordL (x.drop (i + 1)) (y.drop (i + 1)) := by
  have h1 := (List.getElem?_eq_some_iff.1 ha).1
  have h2 := (List.getElem?_eq_some_iff.1 hb).1
  rw [List.drop_eq_getElem_cons h1, List.drop_eq_getElem_cons h2, (List.getElem?_eq_some_iff.1 ha).2, (List.getElem?_eq_some_iff.1 hb).2, ordL]
theorem ordL_end {x y : List Int} {i : Nat} (h : x.length ≤ i ∨ y.length ≤ i) (hi : i ≤ x.length) (hj : i ≤ y.length) : ordL (x.drop i) (y.drop i) = if x.length < y.length then -1 else if y.length < x.length then 1 else 0 := by
  rcases Nat.lt_trichotomy x.length y.length with h1 | h1 | h1
  · rw [if_pos h1, show x.drop i = [] from List.drop_eq_nil_of_le (by omega), List.drop_eq_getElem_cons (l := y) (i := i) (by omega)]; rfl
  · rw [if_neg (by omega), if_neg (by omega), show x.drop i = [] from List.drop_eq_nil_of_le (by omega), show y.drop i = [] from List.drop_eq_nil_of_le (by omega)]; rfl
  · rw [if_neg (by omega), if_pos h1, show y.drop i = [] from List.drop_eq_nil_of_le (by omega), List.drop_eq_getElem_cons (l := x) (i := i) (by omega)]; rfl

set_option maxRecDepth 100000 in
set_option maxHeartbeats 2000000 in
theorem order_any (vx vy : Value) (x y : List Int) (w : World) (hx : Runes w vx x) (hy : Runes w vy y) (hlx : x.length ≤ 1048576) (_hly : y.length ≤ 1048576) :
    Calls Tryz.prog 107 #[vx, vy] w fun e w' => e = .returned (.int .i64 (ordL x y)) ∧ ∃ m, w' = w.drewN m := by
  obtain ⟨ax, cx, rfl, _⟩ := hx.form
  obtain ⟨ay, cy, rfl, _⟩ := hy.form
  obtain ⟨O, hO⟩ : ∃ O, O = ordL x y := ⟨_, rfl⟩
  rw [← hO]
  replace hO := Lib.hid hO
  go_enter Tryz.func107, Tryz.ntmps107
  go_wp2
  go_loopw [5] (fun vi wr => ∃ i p : Nat, vi = .int .i64 (i : Int) ∧ i ≤ x.length ∧ i ≤ y.length ∧ Hid (O = ordL (x.drop i) (y.drop i)) ∧ wr = w.drewN p) (fun vi _ => x.length - (RowKit.intOf vi).toNat)
  case atStart => exact ⟨0, 0, rfl, Nat.zero_le _, Nat.zero_le _, hO, rfl⟩
  case round =>
    obtain ⟨i, p, rfl, hi, hj, hI, rfl⟩ := hrel
    have hI2 := hI.out
    by_cases hlt : i < x.length ∧ i < y.length
    · obtain ⟨h1, h2⟩ := hlt
      obtain ⟨a, ha⟩ : ∃ a, x[i]? = some a := ⟨_, List.getElem?_eq_getElem h1⟩
      obtain ⟨b, hb⟩ : ∃ b, y[i]? = some b := ⟨_, List.getElem?_eq_getElem h2⟩
      obtain ⟨bx, ox, rfl, kx⟩ := hx.cell ha
      obtain ⟨by', oy, rfl, ky⟩ := hy.cell hb
      rw [ordL_step ha hb] at hI2
      clear ha hb hI hx hy
      rcases (by omega : a < b ∨ b < a ∨ a = b) with q | q | q
      · rw [if_pos q] at hI2
        subst hI2
        go_wp2
        go_quiet (fail)
        go_wp2
        go_ret
        exact ⟨rfl, p + nq, by rw [World.drewN_drewN]⟩
      · rw [if_neg (by omega), if_pos q] at hI2
        subst hI2
        go_wp2
        go_quiet (fail)
        go_wp2
        go_quiet (fail)
        go_wp2
        go_ret
        exact ⟨rfl, _, by rw [World.drewN_drewN, World.drewN_drewN]⟩
      · subst q
        rw [if_neg (by omega), if_neg (by omega)] at hI2
        replace hI2 := Lib.hid hI2
        go_wp2
        go_quiet (fail)
        go_wp2
        go_quiet (fail)
        go_wp2
        go_roundw
        case rel => exact ⟨i + 1, _, by go_num, by omega, by omega, hI2, rfl⟩
        case measure => simp [RowKit.intOf]; omega
    · rw [ordL_end (by omega) hi hj] at hI2
      clear hI hx hy
      rcases Nat.lt_trichotomy x.length y.length with q | q | q
      · rw [if_pos q] at hI2
        subst hI2
        have q1 : x.length ≤ i := by omega
        clear hlt
        go_wp2
        go_ret
        exact ⟨rfl, p, rfl⟩
      · rw [if_neg (by omega), if_neg (by omega)] at hI2
        subst hI2
        have q1 : x.length ≤ i := by omega
        clear hlt
        go_wp2
        go_ret
        exact ⟨rfl, p, rfl⟩
      · rw [if_neg (by omega), if_pos q] at hI2
        subst hI2
        have q1 : i < x.length ∧ y.length ≤ i := by omega
        obtain ⟨q1, q2⟩ := q1
        clear hlt
        go_wp2
        go_ret
        exact ⟨rfl, p, rfl⟩

theorem runes_len (s : ByteArray) (hs : s.size ≤ 1048576) : (runes s.data.toList).length ≤ 1048576 := by
  have := tot_runes_le s.data.toList
  have h2 : s.data.toList.length = s.size := by simp
  omega

set_option maxHeartbeats 2000000 in
theorem refCompare_ok (a b : ByteArray) (w : World) (ha : a.size ≤ 1048576) (hb : b.size ≤ 1048576) (va : tot a.data.toList = a.size) (vb : tot b.data.toList = b.size) :
    Calls Tryz.prog 63 #[.string a, .string b] w fun e w' => e = .returned (.tuple #[.int .i64 (ordL (runes a.data.toList) (runes b.data.toList)), .int .i64 0]) ∧ w.grownBy w' none := by
  have hA := fun w => refDecode_ok a w ha va
  have hB := fun w => refDecode_ok b w hb vb
  have la := runes_len a ha
  have lb := runes_len b hb
  generalize runes a.data.toList = x at hA la ⊢
  generalize runes b.data.toList = y at hB lb ⊢
  clear va vb
  go_enter Tryz.func63, Tryz.ntmps63
  go_wp2_with fail
  refine (hA _).mono ?_
  rintro e w1 ⟨⟨v1, rfl, hv1, -⟩, hg1⟩
  replace hv1 := hv1 trivial
  go_wp2_with fail
  refine (hB _).mono ?_
  rintro e w2 ⟨⟨v2, rfl, hv2, -⟩, hg2⟩
  replace hv2 := hv2 trivial
  have hv3 := hv1.all (belowg' hg2)
  go_wp2_with (go_at_call 107; refine (order_any v1 v2 x y _ hv3 hv2 la lb).mono ?_; rintro e w' ⟨rfl, ⟨m, rfl⟩⟩)
  go_ret2
  exact ⟨rfl, gdrewN (gnew hg1 hg2 (by simp)) m⟩

set_option maxHeartbeats 2000000 in
theorem refCompare_bad (a b : ByteArray) (w : World) (ha : a.size ≤ 1048576) (hb : b.size ≤ 1048576) (h : tot a.data.toList ≠ a.size ∨ tot b.data.toList ≠ b.size) :
    Calls Tryz.prog 63 #[.string a, .string b] w fun e w' => e = .returned (.tuple #[.int .i64 0, .int .i64 40]) ∧ w.grownBy w' none := by
  by_cases va : tot a.data.toList = a.size
  · have vb : tot b.data.toList ≠ b.size := by rcases h with h | h; exact absurd va h; exact h
    have hA := fun w => refDecode_ok a w ha va
    have hB := fun w => refDecode_bad b w hb vb
    generalize tot b.data.toList = T at hB
    clear va vb h
    go_enter Tryz.func63, Tryz.ntmps63
    go_wp2_with fail
    refine (hA _).mono ?_
    rintro e w1 ⟨⟨v1, rfl, -, -⟩, hg1⟩
    go_wp2_with fail
    refine (hB _).mono ?_
    rintro e w2 ⟨⟨v2, rfl, -, -⟩, hg2⟩
    go_wp2
    go_ret2
    exact ⟨rfl, gnew hg1 hg2 (by simp)⟩
  · have hA := fun w => refDecode_bad a w ha va
    generalize tot a.data.toList = T at hA
    clear va h
    go_enter Tryz.func63, Tryz.ntmps63
    go_wp2_with fail
    refine (hA _).mono ?_
    rintro e w1 ⟨⟨v1, rfl, -, -⟩, hg1⟩
    go_wp2
    go_ret2
    exact ⟨rfl, hg1⟩
end Go.Proofs.YtpdacbiiaglodaaGreat.U

/-
  LAYER 4 (utf): Next and its closure.
-/
namespace Go.Proofs.YtpdacbiiaglodaaGreat.U
set_option maxRecDepth 100000
open Go.RowKit Go.Lib

/-- The four cells that Next lays. -/
def four (w : World) (s : ByteArray) (k : Int) : World := (((w.alloc (.cells #[.string s] 9)).alloc (.cells #[.int .i64 k] 3)).alloc (.cells #[.int .i32 0] 21)).alloc (.cells #[.int .i64 0] 3)
def Four (w : World) (s : ByteArray) (k : Int) (W : World) : Prop :=
  Boxed W w.heap.size 9 (.string s) ∧ Boxed W (w.heap.size + 1) 3 (.int .i64 k) ∧ Boxed W (w.heap.size + 1 + 1) 21 (.int .i32 0) ∧ Boxed W (w.heap.size + 1 + 1 + 1) 3 (.int .i64 0)
theorem four_grown (w : World) (s : ByteArray) (k : Int) : w.grownBy (four w s k) none := galloc (galloc (galloc (World.grownBy_alloc w _ none) _) _) _
theorem four_size (w : World) (s : ByteArray) (k : Int) : (four w s k).heap.size = w.heap.size + 4 := by simp [four]
theorem four_four (w : World) (s : ByteArray) (k : Int) : Four w s k (four w s k) := by
  refine ⟨(((Boxed.new w _ _).alloc _).alloc _).alloc _, ?_, ?_, ?_⟩
  · have := Boxed.new (w.alloc (.cells #[.string s] 9)) 3 (.int .i64 k)
    rw [World.size_alloc] at this
    exact (this.alloc _).alloc _
  · have := Boxed.new ((w.alloc (.cells #[.string s] 9)).alloc (.cells #[.int .i64 k] 3)) 21 (.int .i32 0)
    rw [World.size_alloc, World.size_alloc] at this
    exact this.alloc _
  · have := Boxed.new (((w.alloc (.cells #[.string s] 9)).alloc (.cells #[.int .i64 k] 3)).alloc (.cells #[.int .i32 0] 21)) 3 (.int .i64 0)
    rwa [World.size_alloc, World.size_alloc, World.size_alloc] at this
theorem Four.kept {w W W' : World} {s : ByteArray} {k : Int} (h : Four w s k W) (hg : W.grownBy W' none) : Four w s k W' :=
  ⟨h.1.kept hg (by simp), h.2.1.kept hg (by simp), h.2.2.1.kept hg (by simp), h.2.2.2.kept hg (by simp)⟩

end Go.Proofs.YtpdacbiiaglodaaGreat.U

/-
  LAYER 4 (utf): last, Last and its closure.
-/
namespace Go.Proofs.YtpdacbiiaglodaaGreat.U
set_option maxRecDepth 100000
open Go.RowKit Go.Lib

theorem getD_str (s : ByteArray) (p : Nat) (h : p < s.size) : s.data.toList.getD p 0 = s[p] := by
  rw [List.getD_eq_getElem?_getD, List.getElem?_eq_getElem (by simpa using h)]; rfl

def lastEnd (S : Nat) : Option (Nat × Nat) → Ending
  | some (r, n) => .returned (.tuple #[.int .i32 (r : Int), .int .i64 (n : Int)])
  | none => .panicked [{ v := .iface 196 (.int .i64 (S : Int)), recovered := false }]
def LastPost (l : List UInt8) (w : World) (e : Ending) (w' : World) : Prop := e = lastEnd (startOf l) (lastv l) ∧ ∃ m, w' = w.drewN m

/-- The form that ends ahead of place k. -/
def lastAt (s : ByteArray) (k : Nat) : Option (Nat × Nat) := lastv (s.data.toList.take k)
theorem take_str (s : ByteArray) (k : Nat) : (s.extract 0 k).data.toList = s.data.toList.take k := by
  simp [ByteArray.extract, ByteArray.copySlice]

end Go.Proofs.YtpdacbiiaglodaaGreat.U
