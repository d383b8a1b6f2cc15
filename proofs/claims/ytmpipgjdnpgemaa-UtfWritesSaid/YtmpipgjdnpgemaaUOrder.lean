/-
  LAYER 4 (utf): the reference's Order, Same, Compare.
-/
import Derived.Test.YtmpipgjdnpgemaaURef2
import Derived.Test.YtmpipgjdnpgemaaUOrdP
namespace Go.Proofs.Ytmpipgjdnpgemaa
set_option maxRecDepth 100000
open Go.RowKit Go.Lib

theorem Runes.form {w : World} {v : Value} {l : List Int} (h : Runes w v l) : ∃ a c, v = .slice a l.length c ∧ l.length ≤ c ∧ c ≤ maxLen := by
  rcases h with ⟨rfl, h⟩ | ⟨b, off, cap, rfl, h1, h2, _⟩
  · have : l = [] := by cases l with | nil => rfl | cons a t => simp [runeCells] at h
    subst this
    exact ⟨none, 0, rfl, Nat.le_refl _, by decide⟩
  · rw [show (runeCells l).length = l.length by simp [runeCells]] at h1 ⊢
    exact ⟨_, _, rfl, h1, h2⟩
theorem Runes.cell {w : World} {a : Option Addr} {n c : Nat} {l : List Int} (h : Runes w (.slice a n c) l) {i : Nat} {r : Int} (hr : l[i]? = some r) : ∃ b off, a = some ⟨b, off, none⟩ ∧ w.cell? ⟨b, off + i, none⟩ = some (.int .i32 r) := by
  rcases h with ⟨_, h⟩ | ⟨b, off, cap, e, _, _, hc⟩
  · have : l = [] := by cases l with | nil => rfl | cons a t => simp [runeCells] at h
    subst this
    simp at hr
  · simp only [Value.slice.injEq] at e
    exact ⟨b, off, e.1, hc i _ (by simp [runeCells, hr])⟩

theorem ordL_step {x y : List Int} {i : Nat} {a b : Int} (ha : x[i]? = some a) (hb : y[i]? = some b) : ordL (x.drop i) (y.drop i) = if a < b then -1 else if b < a then 1 else ordL (x.drop (i + 1)) (y.drop (i + 1)) := by
  have h1 := (List.getElem?_eq_some_iff.1 ha).1
  have h2 := (List.getElem?_eq_some_iff.1 hb).1
  rw [List.drop_eq_getElem_cons h1, List.drop_eq_getElem_cons h2, (List.getElem?_eq_some_iff.1 ha).2, (List.getElem?_eq_some_iff.1 hb).2, ordL]
theorem ordL_end {x y : List Int} {i : Nat} (h : x.length ≤ i ∨ y.length ≤ i) (hi : i ≤ x.length) (hj : i ≤ y.length) : ordL (x.drop i) (y.drop i) = if x.length < y.length then -1 else if y.length < x.length then 1 else 0 := by
  rcases Nat.lt_trichotomy x.length y.length with h1 | h1 | h1
  · rw [if_pos h1, show x.drop i = [] from List.drop_eq_nil_of_le (by omega), List.drop_eq_getElem_cons (l := y) (i := i) (by omega)]; rfl
  · rw [if_neg (by omega), if_neg (by omega), show x.drop i = [] from List.drop_eq_nil_of_le (by omega), show y.drop i = [] from List.drop_eq_nil_of_le (by omega)]; rfl
  · rw [if_neg (by omega), if_pos h1, show y.drop i = [] from List.drop_eq_nil_of_le (by omega), List.drop_eq_getElem_cons (l := x) (i := i) (by omega)]; rfl

set_option maxRecDepth 100000 in
set_option maxHeartbeats 2000000 in
theorem order_any (vx vy : Value) (x y : List Int) (w : World) (hx : Runes w vx x) (hy : Runes w vy y) (hlx : x.length ≤ 1048576) (_hly : y.length ≤ 1048576) :
    Calls Try.prog 34 #[vx, vy] w fun e w' => e = .returned (.int .i64 (ordL x y)) ∧ ∃ m, w' = w.drewN m := by
  obtain ⟨ax, cx, rfl, _⟩ := hx.form
  obtain ⟨ay, cy, rfl, _⟩ := hy.form
  obtain ⟨O, hO⟩ : ∃ O, O = ordL x y := ⟨_, rfl⟩
  rw [← hO]
  replace hO := Lib.hid hO
  go_enter Try.func34, Try.ntmps34
  go_wp2
  go_loopw [5] (fun vi wr => ∃ i p : Nat, vi = .int .i64 (i : Int) ∧ i ≤ x.length ∧ i ≤ y.length ∧ Hid (O = ordL (x.drop i) (y.drop i)) ∧ wr = w.drewN p) (fun vi _ => x.length - (RowKit.intOf vi).toNat)
  case atStart => exact ⟨0, 0, rfl, Nat.zero_le _, Nat.zero_le _, hO, rfl⟩
  case round =>
    obtain ⟨i, p, rfl, hi, hj, hI, rfl⟩ := hrel
    have hI2 := hI.out
    by_cases hlt : i < x.length ∧ i < y.length
    · obtain ⟨h1, h2⟩ := hlt
      obtain ⟨a, ha⟩ : ∃ a, x[i]? = some a := ⟨_, List.getElem?_eq_getElem h1⟩
      obtain ⟨b, hb⟩ : ∃ b, y[i]? = some b := ⟨_, List.getElem?_eq_getElem h2⟩
      obtain ⟨bx, ox, rfl, kx⟩ := hx.cell ha
      obtain ⟨by', oy, rfl, ky⟩ := hy.cell hb
      rw [ordL_step ha hb] at hI2
      clear ha hb hI hx hy
      rcases (by omega : a < b ∨ b < a ∨ a = b) with q | q | q
      · rw [if_pos q] at hI2
        subst hI2
        go_wp2
        go_quiet (fail)
        go_wp2
        go_ret
        exact ⟨rfl, p + nq, by rw [World.drewN_drewN]⟩
      · rw [if_neg (by omega), if_pos q] at hI2
        subst hI2
        go_wp2
        go_quiet (fail)
        go_wp2
        go_quiet (fail)
        go_wp2
        go_ret
        exact ⟨rfl, _, by rw [World.drewN_drewN, World.drewN_drewN]⟩
      · subst q
        rw [if_neg (by omega), if_neg (by omega)] at hI2
        replace hI2 := Lib.hid hI2
        go_wp2
        go_quiet (fail)
        go_wp2
        go_quiet (fail)
        go_wp2
        go_roundw
        case rel => exact ⟨i + 1, _, by go_num, by omega, by omega, hI2, rfl⟩
        case measure => simp [RowKit.intOf]; omega
    · rw [ordL_end (by omega) hi hj] at hI2
      clear hI hx hy
      rcases Nat.lt_trichotomy x.length y.length with q | q | q
      · rw [if_pos q] at hI2
        subst hI2
        have q1 : x.length ≤ i := by omega
        clear hlt
        go_wp2
        go_ret
        exact ⟨rfl, p, rfl⟩
      · rw [if_neg (by omega), if_neg (by omega)] at hI2
        subst hI2
        have q1 : x.length ≤ i := by omega
        clear hlt
        go_wp2
        go_ret
        exact ⟨rfl, p, rfl⟩
      · rw [if_neg (by omega), if_pos q] at hI2
        subst hI2
        have q1 : i < x.length ∧ y.length ≤ i := by omega
        obtain ⟨q1, q2⟩ := q1
        clear hlt
        go_wp2
        go_ret
        exact ⟨rfl, p, rfl⟩

set_option maxHeartbeats 1000000 in
theorem same_any (vx vy : Value) (x y : List Int) (w : World) (hx : Runes w vx x) (hy : Runes w vy y) (hlx : x.length ≤ 1048576) (hly : y.length ≤ 1048576) (h : x = y) :
    Calls Try.prog 13 #[vx, vy] w fun e w' => e = .returned (.bool true) ∧ ∃ m, w' = w.drewN m := by
  have hO := order_any vx vy x y w hx hy hlx hly
  rw [h, ordL_refl] at hO
  go_enter Try.func13, Try.ntmps13
  go_wp2_with (go_at_call 34; refine hO.mono ?_; rintro e w' ⟨rfl, ⟨m, rfl⟩⟩)
  go_ret
  exact ⟨rfl, m, rfl⟩

theorem runes_len (s : ByteArray) (hs : s.size ≤ 1048576) : (runes s.data.toList).length ≤ 1048576 := by
  have := tot_runes_le s.data.toList
  have h2 : s.data.toList.length = s.size := by simp
  omega

set_option maxHeartbeats 2000000 in
theorem refCompare_ok (a b : ByteArray) (w : World) (ha : a.size ≤ 1048576) (hb : b.size ≤ 1048576) (va : tot a.data.toList = a.size) (vb : tot b.data.toList = b.size) :
    Calls Try.prog 27 #[.string a, .string b] w fun e w' => e = .returned (.tuple #[.int .i64 (ordL (runes a.data.toList) (runes b.data.toList)), .int .i64 0]) ∧ w.grownBy w' none := by
  have hA := fun w => refDecode_ok a w ha va
  have hB := fun w => refDecode_ok b w hb vb
  have la := runes_len a ha
  have lb := runes_len b hb
  generalize runes a.data.toList = x at hA la ⊢
  generalize runes b.data.toList = y at hB lb ⊢
  clear va vb
  go_enter Try.func27, Try.ntmps27
  go_wp2_with fail
  refine (hA _).mono ?_
  rintro e w1 ⟨⟨v1, rfl, hv1, -⟩, hg1⟩
  replace hv1 := hv1 trivial
  go_wp2_with fail
  refine (hB _).mono ?_
  rintro e w2 ⟨⟨v2, rfl, hv2, -⟩, hg2⟩
  replace hv2 := hv2 trivial
  have hv3 := hv1.all (belowg' hg2)
  go_wp2_with (go_at_call 34; refine (order_any v1 v2 x y _ hv3 hv2 la lb).mono ?_; rintro e w' ⟨rfl, ⟨m, rfl⟩⟩)
  go_ret2
  exact ⟨rfl, gdrewN (gnew hg1 hg2 (by simp)) m⟩

set_option maxHeartbeats 2000000 in
theorem refCompare_bad (a b : ByteArray) (w : World) (ha : a.size ≤ 1048576) (hb : b.size ≤ 1048576) (h : tot a.data.toList ≠ a.size ∨ tot b.data.toList ≠ b.size) :
    Calls Try.prog 27 #[.string a, .string b] w fun e w' => e = .returned (.tuple #[.int .i64 0, .int .i64 40]) ∧ w.grownBy w' none := by
  by_cases va : tot a.data.toList = a.size
  · have vb : tot b.data.toList ≠ b.size := by rcases h with h | h; exact absurd va h; exact h
    have hA := fun w => refDecode_ok a w ha va
    have hB := fun w => refDecode_bad b w hb vb
    generalize tot b.data.toList = T at hB
    clear va vb h
    go_enter Try.func27, Try.ntmps27
    go_wp2_with fail
    refine (hA _).mono ?_
    rintro e w1 ⟨⟨v1, rfl, -, -⟩, hg1⟩
    go_wp2_with fail
    refine (hB _).mono ?_
    rintro e w2 ⟨⟨v2, rfl, -, -⟩, hg2⟩
    go_wp2
    go_ret2
    exact ⟨rfl, gnew hg1 hg2 (by simp)⟩
  · have hA := fun w => refDecode_bad a w ha va
    generalize tot a.data.toList = T at hA
    clear va h
    go_enter Try.func27, Try.ntmps27
    go_wp2_with fail
    refine (hA _).mono ?_
    rintro e w1 ⟨⟨v1, rfl, -, -⟩, hg1⟩
    go_wp2
    go_ret2
    exact ⟨rfl, hg1⟩
end Go.Proofs.Ytmpipgjdnpgemaa
