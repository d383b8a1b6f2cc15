/-
  LAYER 5 (norms): the reference's Check and Build, of data that may not be.
-/
import Derived.Test.YtpdacbiiaglodaaGreatQC45
import Derived.Test.YtpdacbiiaglodaaGreatQC48
import Derived.Test.YtpdacbiiaglodaaGreatQC41
import Derived.Test.YtpdacbiiaglodaaGreatQC28
namespace Go.Proofs.YtpdacbiiaglodaaGreat
set_option maxRecDepth 100000
open Go.RowKit Go.Lib

theorem decsOk_of {c : List Cls} {d : List Dec} : ∀ {l : List Dec} {L : Int}, decs1 L l = true → l.all (ok3 c d) = true → decsOk c d L l = true
  | [], _, _, _ => rfl
  | x :: t, L, h1, h2 => by
    rw [decs1, Bool.and_eq_true, Bool.and_eq_true] at h1
    rw [List.all_cons, Bool.and_eq_true] at h2
    rw [decsOk, Bool.and_eq_true]
    refine ⟨?_, decsOk_of h1.2 h2.2⟩
    have hc := h1.1.2
    have ho := h2.1
    simp only [cod1, Bool.and_eq_true] at hc
    obtain ⟨⟨⟨⟨⟨s1, s2⟩, s3⟩, s4⟩, s5⟩, s6⟩ := hc
    simp only [ok3, Bool.and_eq_true, Bool.or_eq_true] at ho
    obtain ⟨⟨hB, hm⟩, hb⟩ := ho
    have hs7 : (!syl x.2.2) = true := by
      rcases hB with h | ⟨_, h⟩
      · rw [decide_eq_true_eq] at h; rw [h]; rfl
      · exact h
    have hbO : bOk d x = true := by
      rw [bOk, Bool.or_eq_true]
      rcases hB with h | ⟨h, _⟩
      · exact .inl h
      · exact .inr h
    simp [decOk, codesOk, h1.1.1, s1, s2, s3, s4, s5, s6, hs7, hbO, hm, hb] 
theorem bad_cases {c : List Cls} {d : List Dec} (h : good c d = false) : (4000 < c.length ∨ 8000 < d.length) ∨ (c.length ≤ 4000 ∧ d.length ≤ 8000 ∧ (clsOk 0 c = false ∨ (clsOk 0 c = true ∧ (decs1 0 d = false ∨ (decs1 0 d = true ∧ d.all (ok3 c d) = false))))) := by
  by_cases h1 : c.length ≤ 4000
  · by_cases h2 : d.length ≤ 8000
    · right
      refine ⟨h1, h2, ?_⟩
      cases h3 : clsOk 0 c with
      | false => exact .inl rfl
      | true =>
        right
        refine ⟨rfl, ?_⟩
        cases h4 : decs1 0 d with
        | false => exact .inl rfl
        | true =>
          right
          refine ⟨rfl, ?_⟩
          cases h5 : d.all (ok3 c d) with
          | false => rfl
          | true =>
            have := decsOk_of h4 h5
            simp [good, h1, h2, h3, this] at h
    · left; omega
  · left; omega

theorem refCheck_bad (vc vd : Value) (c : List Cls) (d : List Dec) (w : World) (hT : Dat w vc vd c d) (h : good c d = false) :
    Calls Tryz.prog 42 #[vc, vd] w fun e w' => ∃ n : Int, n ≠ 0 ∧ e = .returned (.int .i64 n) ∧ w.grownBy w' none := by
  rcases bad_cases h with h1 | ⟨h1, h2, h3 | ⟨h3, h4 | ⟨h4, h5⟩⟩⟩
  · exact (refCheck_long vc vd c d w hT h1).mono fun e w' ⟨q1, q2⟩ => ⟨2, by decide, q1, q2⟩
  · exact (refCheck_cls vc vd c d w hT h1 h2 h3).mono fun e w' ⟨q1, q2⟩ => ⟨51, by decide, q1, q2⟩
  · exact (refCheck_dec vc vd c d w hT h1 h2 h3 h4).mono fun e w' ⟨q1, q2⟩ => ⟨52, by decide, q1, q2⟩
  · exact (refCheck_end vc vd c d w hT h1 h2 h3 h4 h5).mono fun e w' ⟨q1, q2⟩ => ⟨52, by decide, q1, q2⟩

set_option maxHeartbeats 1000000 in
theorem refBuild_bad (vc vd : Value) (c : List Cls) (d : List Dec) (w : World) (hT : Dat w vc vd c d) (h : good c d = false) :
    Calls Tryz.prog 12 #[vc, vd] w fun e w' => ∃ n : Int, n ≠ 0 ∧ e = .returned (.tuple #[.slice none 0 0, .int .i64 n]) ∧ w.grownBy w' none := by
  have hC := refCheck_bad vc vd c d w hT h
  obtain ⟨a1, c1, rfl, _, _⟩ := hT.1.form
  obtain ⟨a2, c2, rfl, _, _⟩ := hT.2.form
  clear hT h
  generalize c.length = cl at hC ⊢
  generalize d.length = dl at hC ⊢
  go_enter Tryz.func12, Tryz.ntmps12
  go_wp2_with (go_at_call 42; refine hC.mono ?_; rintro e w1 ⟨n, hn, rfl, hg1⟩; have hn1 : (n != 0) = true := by { simpa using hn }; replace hn := Lib.hid hn)
  go_ret2
  exact ⟨n, hn.out, rfl, hg1⟩
end Go.Proofs.YtpdacbiiaglodaaGreat

/-
  LAYER 6 (norm): the laws' data, where it may not be.
-/
namespace Go.Proofs.YtpdacbiiaglodaaGreat
set_option maxRecDepth 100000
open Go.RowKit Go.Lib

theorem data_end {w W : World} (hg : w.grownBy W none) (hk : W.heap[w.heap.size]? = some (.cells #[.slice none 0 0, .slice none 0 0] 59 (0, 0))) :
    w.grownBy ((W.setCell ⟨w.heap.size, 0, none⟩ (.slice none 0 0)).setCell ⟨w.heap.size, 1, none⟩ (.slice none 0 0)) none ∧ ((W.setCell ⟨w.heap.size, 0, none⟩ (.slice none 0 0)).setCell ⟨w.heap.size, 1, none⟩ (.slice none 0 0)).heap[w.heap.size]? = some (.cells #[.slice none 0 0, .slice none 0 0] 59 (0, 0)) := by
  have gs0 : W.grownBy (W.setCell ⟨w.heap.size, 0, none⟩ (.slice none 0 0)) (some w.heap.size) := gset (World.grownBy.refl W _) 0 _
  have gs := gset gs0 1 (.slice none 0 0)
  have e0 := heap_setCell_same W w.heap.size 0 _ _ (.slice none 0 0) hk
  have e1 := heap_setCell_same _ w.heap.size 1 _ _ (.slice none 0 0) e0
  exact ⟨gnew hg gs (fun r e => by cases e; left; exact Nat.le_refl _), e1⟩

set_option maxHeartbeats 4000000 in
theorem data_no (vc vd : Value) (c : List Cls) (d : List Dec) (w : World) (hT : Dat w vc vd c d) (h : 200 < c.length ∨ 200 < d.length ∨ good c d = false) :
    Calls Tryz.prog 27 #[vc, vd] w fun e w' => e = .returned (.tuple #[.pointer none, .agg #[.slice none 0 0, .slice none 0 0], .bool false]) ∧ w.grownBy w' none := by
  have hB := fun W (hg : w.grownBy W none) (hb : good c d = false) => refBuild_bad vc vd c d W (hT.all hg) hb
  obtain ⟨a1, c1, rfl, _, _⟩ := hT.1.form
  obtain ⟨a2, c2, rfl, _, _⟩ := hT.2.form
  generalize hcl : c.length = cl at hB h ⊢
  generalize hdl : d.length = dl at hB h ⊢
  clear hcl hdl hT
  have hgA := World.grownBy_alloc w (.cells #[.slice none 0 0, .slice none 0 0] 59) none
  have hkA := World.alloc_heap_new w (.cells #[.slice none 0 0, .slice none 0 0] 59)
  have h3 : (decide ((200 : Int) < (cl : Int)) = true) ∨ (decide ((200 : Int) < (cl : Int)) = false ∧ decide ((200 : Int) < (dl : Int)) = true) ∨ (decide ((200 : Int) < (cl : Int)) = false ∧ decide ((200 : Int) < (dl : Int)) = false ∧ good c d = false) := by
    by_cases p1 : 200 < cl
    · left; simp; omega
    · by_cases p2 : 200 < dl
      · right; left; simp; omega
      · right; right; exact ⟨by simp; omega, by simp; omega, by rcases h with h | h | h; omega; omega; exact h⟩
  clear h
  have n0 : (w.alloc (.cells #[.slice none 0 0, .slice none 0 0] 59)).cell? ⟨w.heap.size, 0, none⟩ = some (.slice none 0 0) := (pair_new w _ _ _).1
  have n1 : (w.alloc (.cells #[.slice none 0 0, .slice none 0 0] 59)).cell? ⟨w.heap.size, 1, none⟩ = some (.slice none 0 0) := (pair_new w _ _ _).2.1
  rcases h3 with e1 | ⟨e1, e2⟩ | ⟨e1, e2, hb⟩
  · clear hB hkA
    go_enter Tryz.func27, Tryz.ntmps27
    go_wp2_with fail
    generalize w.alloc (.cells #[.slice none 0 0, .slice none 0 0] 59) = W at n0 n1 hgA ⊢
    refine bodyPost_ret (v := .tuple #[.pointer none, .agg #[.slice none 0 0, .slice none 0 0], .bool false]) (by simp [results, Tryz.results27, go_sem, n0, n1]) rfl ⟨rfl, hgA⟩
  · clear hB hkA
    go_enter Tryz.func27, Tryz.ntmps27
    go_wp2_with fail
    generalize w.alloc (.cells #[.slice none 0 0, .slice none 0 0] 59) = W at n0 n1 hgA ⊢
    refine bodyPost_ret (v := .tuple #[.pointer none, .agg #[.slice none 0 0, .slice none 0 0], .bool false]) (by simp [results, Tryz.results27, go_sem, n0, n1]) rfl ⟨rfl, hgA⟩
  · have hBb := hB _ hgA hb
    clear hB hb n0 n1
    replace hkA := Lib.hid hkA
    replace hgA := Lib.hid hgA
    go_enter Tryz.func27, Tryz.ntmps27
    go_wp2_with fail
    go_at_call 12
    refine hBb.mono ?_
    rintro e w1 ⟨n, hn, rfl, hg1⟩
    clear hBb
    have hn1 : (n != 0) = true := by simpa using hn
    have kd := (hg1.block w.heap.size (by simp) (by simp)).trans hkA.out
    have d0 : w1.cell? ⟨w.heap.size, 0, none⟩ = some (.slice none 0 0) := by simp [World.cell?, kd]
    have d1 : w1.cell? ⟨w.heap.size, 1, none⟩ = some (.slice none 0 0) := by simp [World.cell?, kd]
    have f0 : ∀ i, w1.frozen? ⟨w.heap.size, i, none⟩ = false := by simp [World.frozen?, kd]
    obtain ⟨q1, q2⟩ := data_end (hgA.out.trans hg1) kd
    replace hn := Lib.hid hn
    replace q1 := Lib.hid q1
    replace q2 := Lib.hid q2
    replace kd := Lib.hid kd
    go_wp2_with fail
    have q3 := q1.out
    have q4 := q2.out
    generalize (w1.setCell ⟨w.heap.size, 0, none⟩ (.slice none 0 0)).setCell ⟨w.heap.size, 1, none⟩ (.slice none 0 0) = V at q3 q4 ⊢
    refine bodyPost_ret (v := .tuple #[.pointer none, .agg #[.slice none 0 0, .slice none 0 0], .bool false]) (by simp [results, Tryz.results27, go_sem, World.cell?, q4]) rfl ⟨rfl, q3⟩
end Go.Proofs.YtpdacbiiaglodaaGreat

/-
  LAYER 6 (norm): the laws' comparison of two lists.
-/
namespace Go.Proofs.YtpdacbiiaglodaaGreat
set_option maxRecDepth 100000
open Go.RowKit Go.Lib

theorem RS.cell {w : World} {a : Option Addr} {n c : Nat} {l : List Int} (h : RS w (.slice a n c) l) {i : Nat} {r : Int} (hr : l[i]? = some r) : ∃ b off, a = some ⟨b, off, none⟩ ∧ w.cell? ⟨b, off + i, none⟩ = some (.int .i32 r) := by
  obtain ⟨a', c', e, _, _, _, h1⟩ := h
  cases e
  obtain ⟨b, off, h2, h3⟩ := h1 (by rintro rfl; simp at hr)
  exact ⟨b, off, h2, h3 i r hr⟩

set_option maxRecDepth 100000 in
set_option maxHeartbeats 2000000 in
theorem runes_same (vx vy : Value) (x : List Int) (w : World) (hx : RS w vx x) (hy : RS w vy x) (hlx : x.length < 1099511627776) :
    Calls Tryz.prog 30 #[vx, vy] w fun e w' => e = .returned (.bool true) ∧ ∃ m, w' = w.drewN m := by
  obtain ⟨ax, cx, rfl, _⟩ := id hx
  obtain ⟨ay, cy, rfl, _⟩ := id hy
  have hget : ∀ i, i < x.length → ∃ a, x[i]? = some a := fun i h => ⟨_, List.getElem?_eq_getElem h⟩
  generalize hn : x.length = n at hx hy hlx hget ⊢
  clear hn
  go_enter Tryz.func30, Tryz.ntmps30
  go_wp2
  go_loopw [13] (fun vi wr => ∃ i p : Nat, vi = .int .i64 (i : Int) ∧ i ≤ n ∧ wr = w.drewN p) (fun vi _ => n - (RowKit.intOf vi).toNat)
  case atStart => exact ⟨0, 0, rfl, Nat.zero_le _, rfl⟩
  case round =>
    obtain ⟨i, p, rfl, hi, rfl⟩ := hrel
    by_cases h1 : i < n
    · obtain ⟨a, ha⟩ := hget i h1
      obtain ⟨bx, ox, rfl, kx⟩ := hx.cell ha
      obtain ⟨by', oy, rfl, ky⟩ := hy.cell ha
      clear ha hx hy hget
      go_wp2
      go_quiet (fail)
      go_wp2
      go_roundw
      case rel => exact ⟨i + 1, _, by go_num, by omega, rfl⟩
      case measure => simp [RowKit.intOf]; omega
    · clear hx hy hget
      go_wp2
      go_ret
      exact ⟨rfl, p, rfl⟩
end Go.Proofs.YtpdacbiiaglodaaGreat
