/-
  LAYER 3 (crc): the reference's Unframe in every case, and its Each.
-/
import Derived.Test.YtilbccjgaaembaaRRefF
import Derived.Test.YtilbccjgaaembaaREach2
import Derived.Test.YtilbccjgaaembaaCRefL
namespace Go.Proofs.Ytilbccjgaaembaa
set_option maxRecDepth 100000
open Go.RowKit Go.Lib

theorem refUnframe_any (a : Option Addr) (l c : Nat) (bs p : List UInt8) (k : Nat) (x : Int) (w : World) (hr : Reads w (.slice a l c) bs) (h : unf bs = (p, k, x)) :
    Calls Try.prog 62 #[.slice a l c] w fun e w' => ∃ v, e = .returned (.tuple #[v, .int .i64 (k : Int), .int .i64 x]) ∧ Owns w' w.heap.size 5 v p ∧ w.grownBy w' none := by
  rcases unf_cases bs with ⟨hsp, hu⟩ | ⟨q, f, k', hsp, ⟨hm, hu⟩ | ⟨hm, hu⟩⟩ <;> (rw [hu] at h; simp only [Prod.mk.injEq] at h; obtain ⟨rfl, rfl, rfl⟩ := h)
  · exact (refUnframe_none a l c bs w hr hsp).mono fun e w' ⟨h1, h2⟩ => ⟨_, h1, owns_nil _ _ _, h2 ▸ World.grownBy.refl _ _⟩
  · refine (refUnframe_some a l c bs q f k' w hr hsp).mono fun e w' ⟨v, h1, h2, h3⟩ => ⟨v, ?_, h2, h3⟩
    rw [h1, if_pos hm]
  · refine (refUnframe_some a l c bs q f k' w hr hsp).mono fun e w' ⟨v, h1, h2, h3⟩ => ⟨.slice none 0 0, ?_, owns_nil _ _ _, h3⟩
    rw [h1, if_neg hm]
    rfl

theorem own_apart {w : World} {B B' s s' n k : Nat} {e e' : TypeId} {x v : Value} {xs vs : List Value} (h : w.ownsRow B e s x n xs) (h' : w.ownsRow B' e' s' v k vs) (hne : e ≠ e') : x.ownBlock = none ∨ x.ownBlock ≠ v.ownBlock := by
  obtain ⟨_, ⟨rfl, hn⟩ | ⟨g, cap, cur, rfl, hB, hg, _⟩⟩ := h
  · left; rfl
  · obtain ⟨_, ⟨rfl, hn⟩ | ⟨g', cap', cur', rfl, hB', hg', _⟩⟩ := h'
    · right; simp [Value.ownBlock]
    · right
      intro q
      simp only [Value.ownBlock, Option.some.injEq] at q
      subst q
      rw [hg] at hg'
      simp only [Option.some.injEq, Obj.cells.injEq] at hg'
      exact hne hg'.2.1
theorem OwnsL.beside {w w' : World} {B B' s n : Nat} {e : TypeId} {x v : Value} {xs : List Value} {L : List (List UInt8)} (h : OwnsL w B v L) (hx : w.ownsRow B' e s x n xs) (hg : w.grownBy w' x.ownBlock) (h1 : 23 ≠ e) (h2 : 5 ≠ e) : OwnsL w' B v L := by
  obtain ⟨vs, q1, q2, q3⟩ := h
  exact ⟨vs, q1, World.ownsRow.kept q2 hg (own_apart q2 hx h1), fun i y f hy hf => (q3 i y f hy hf).kept hg (own_apart (q3 i y f hy hf) hx h2)⟩

theorem OwnsL.beside' {w w' : World} {B : Nat} {v : Value} {L : List (List UInt8)} (h : OwnsL w B v L) (hg : w.grownBy w' none) : OwnsL w' B v L := by
  obtain ⟨vs, q1, q2, q3⟩ := h
  exact ⟨vs, q1, World.ownsRow.kept q2 hg ob_new, fun i y g hy hf => (q3 i y g hy hf).kept hg ob_new⟩

theorem infoInt : (Try.prog.info? 3).map (fun i => (i.zero, i.size, i.bytes)) = some (some (.int .i64 0), 1, 8) := by kernel_rfl

def Places (w : World) (B : Nat) (v : Value) (L : List (Nat × List UInt8)) : Prop := w.ownsRow B 3 1 v L.length (L.map fun x => Value.int .i64 (x.1 : Int))

theorem Places.kept {w w' : World} {B : Nat} {v : Value} {L : List (Nat × List UInt8)} (h : Places w B v L) (hg : w.grownBy w' none) : Places w' B v L := World.ownsRow.kept h hg ob_new
theorem lit1 (w : World) (u : Value) (e : TypeId) : ∀ (j : Nat) (x : Value), [u][j]? = some x → (w.alloc (.cells #[u] e)).cell? ((⟨w.heap.size, 0, none⟩ : Addr).add j) = some x := by
  intro j x hj
  match j, hj with
  | 0, hj => simp at hj; subst hj; simp [Addr.add]

set_option maxHeartbeats 4000000 in
theorem refEach_any (a : Option Addr) (l c : Nat) (bs : List UInt8) (w : World) (hr : Reads w (.slice a l c) bs) (hlim : bs.length ≤ 1000000) :
    Calls Try.prog 63 #[.slice a l c] w fun e w' => ∃ va vo, e = .returned (.tuple #[va, vo]) ∧ Places w' w.heap.size va (frs bs) ∧ OwnsL w' w.heap.size vo ((frs bs).map (·.2)) ∧ w.grownBy w' none := by
  obtain ⟨rfl, hc, hm⟩ := hr.slice
  clear hm
  obtain ⟨i0, hi, hz0, hz1, hz2⟩ := info_parts infoBs
  obtain ⟨i1, hj, hy0, hy1, hy2⟩ := info_parts infoInt
  go_enter Try.func63, Try.ntmps63
  go_wp2
  go_loopw [4, 5, 6] (fun va vo vi wr => ∃ (pre : List (Nat × List UInt8)) (k f : Nat), vi = .int .i64 (k : Int) ∧ k ≤ bs.length ∧ bs.length - k < f ∧ Hid (frs bs = pre ++ frsN f k (bs.drop k)) ∧ pre.length ≤ k ∧ w.grownBy wr none ∧ Places wr w.heap.size va pre ∧ OwnsL wr w.heap.size vo (pre.map (·.2))) (fun _ _ vi _ => bs.length - (RowKit.intOf vi).toNat)
  case atStart => exact ⟨[], 0, bs.length + 1, rfl, Nat.zero_le _, by omega, rfl, Nat.le_refl _, World.grownBy.refl _ _, World.ownsRow_nil w _ _ 1, ownsL_nil _ _⟩
  case round =>
    obtain ⟨pre, k, f, rfl, hk, hf, hfr, hpk, hg, hP, hL⟩ := hrel
    obtain ⟨pl, m, x, hun⟩ : ∃ p1 k1 x1, unf (bs.drop k) = (p1, k1, x1) := ⟨_, _, _, rfl⟩
    obtain ⟨a', hcut, hcr⟩ := run_cut_from a bs.length c k hc hk
    have hcall := refUnframe_any a' _ _ (bs.drop k) pl m x wr (hcr wr bs (hr.new hg)) hun
    obtain ⟨f', rfl⟩ : ∃ f', f = f' + 1 := ⟨f - 1, by omega⟩
    have hws := hg.size
    clear hcr
    by_cases hx : x = 0
    · subst hx
      have hm := unf_le hun
      rw [List.length_drop] at hm
      have hm5 := hm.2 rfl
      have hmk := hm.1
      have hfr2 : Hid (frs bs = (pre ++ [(k, pl)]) ++ frsN f' (k + m) (bs.drop (k + m))) := by
        have := hfr.out
        rw [frsN, hun] at this
        show _ = _
        rw [this]
        simp [List.drop_drop]
      clear hm hun hfr
      have hpl : pre.length ≤ 1000000 := by omega
      have hL1 := fun w1 (h : wr.grownBy w1 none) => OwnsL.beside' hL h
      have hP1 := fun w1 (h : wr.grownBy w1 none) => Places.kept hP h
      clear hP hL
      go_wp2_with (first
        | (go_at_call 62; refine hcall.mono ?_; rintro e w3 ⟨v3, rfl, ho3, hg3⟩; obtain ⟨a3, c3, rfl⟩ := ho3.reads.form; replace ho3 := ho3.mono hws; have hP3 := hP1 w3 hg3; have hL3 := hL1 w3 hg3)
        | (at_builtin; refine wpList_append_own _ rfl _ _ 85 rfl w.heap.size 3 i1 (.int .i64 0) 1 8 Try.underlying85 hj hy0 hy1 hy2 rfl (by decide) _ _ _ rfl (World.ownsRow.alloc hP3 _) ⟨w3.heap.size, 0, none⟩ 1 1 [.int .i64 (k : Int)] rfl rfl ?c1 ?c2 ?c3 ?c4 ?c5 ?c6; (case c1 => exact lit1 _ _ _); (case c2 => intro u hu; simp at hu; subst hu; rfl); (case c3 => unfold maxLen; omega); (case c4 => omega); (case c5 => have := hg3.size; simp; omega); intro v4 w4 hP4 hg4 _; have hP4' := World.ownsRow.alloc hP3 (.cells #[.int .i64 (k : Int)] 3); have hg0 := World.grownBy_alloc w3 (.cells #[.int .i64 (k : Int)] 3) none; replace ho3 := (ho3.new hg0).kept hg4 (own_apart (ho3.new hg0) hP4' (by decide)); replace hL3 := OwnsL.beside (OwnsL.beside' hL3 hg0) hP4' hg4 (by decide) (by decide); have hb4 := gnew (galloc (hg.trans hg3) (.cells #[.int .i64 (k : Int)] 3)) hg4 (fun q hq => by have := World.ownsRow.lt hP3 q hq; left; omega); obtain ⟨vs, hvs, hown, hall⟩ := hL3; have hvl : vs.length ≤ 1000000 := (by rw [hvs, List.length_map]; exact hpl))
        | (at_builtin; refine wpList_append_own _ rfl _ _ 47 rfl w.heap.size 23 i0 (.slice none 0 0) 1 24 Try.underlying47 hi hz0 hz1 hz2 rfl (by decide) _ _ _ rfl (hown.alloc _) ⟨w4.heap.size, 0, none⟩ 1 1 [.slice a3 pl.length c3] rfl rfl ?d1 ?d2 ?d3 ?d4 ?d5 ?d6; (case d1 => exact lit1 _ _ _); (case d2 => intro u hu; simp at hu; subst hu; rfl); (case d3 => unfold maxLen; omega); (case d4 => omega); (case d5 => have := hb4.size; simp; omega); intro v5 w5 hown5 hg5 _))
      have hga := World.grownBy_alloc w4 (.cells #[.slice a3 pl.length c3] 23) none
      have hO := OwnsL.snoc (L := pre.map (·.2)) hvs (hown.alloc _) (fun i y f hy hf => (hall i y f hy hf).new hga) (ho3.new hga) hg5 hown5
      have hO' : OwnsL w5 w.heap.size v5 ((pre ++ [(k, pl)]).map (·.2)) := by rw [List.map_append]; exact hO
      have hP4a := World.ownsRow.alloc hP4 (.cells #[.slice a3 pl.length c3] 23)
      have hP5 : Places w5 w.heap.size v4 (pre ++ [(k, pl)]) := by
        unfold Places
        rw [List.length_append, List.map_append]
        exact World.ownsRow.kept hP4a hg5 (own_apart hP4a (World.ownsRow.alloc hown _) (by decide))
      have hb5 := gnew (galloc hb4 (.cells #[.slice a3 pl.length c3] 23)) hg5 (fun q hq => by have := World.ownsRow.lt hown q hq; left; omega)
      exact ⟨⟨pre ++ [(k, pl)], k + m, f', by go_num, by omega, by omega, hfr2, by rw [List.length_append, List.length_singleton]; omega, hb5, hP5, hO'⟩, by simp [RowKit.intOf]; omega⟩
    · have hx1 : (x != 0) = true := by simpa using hx
      have hend : frs bs = pre := by
        have := hfr.out
        rw [frsN, hun, if_neg hx, List.append_nil] at this
        exact this
      have hE := Lib.hid hend
      clear hun hfr hx hend
      go_wp2_with (go_at_call 62; refine hcall.mono ?_; rintro e w3 ⟨v3, rfl, ho3, hg3⟩)
      go_ret2
      refine ⟨_, _, rfl, ?_, ?_, hg.trans hg3⟩
      · rw [hE.out]; exact World.ownsRow.kept hP hg3 ob_new
      · rw [hE.out]
        exact OwnsL.beside' hL hg3
end Go.Proofs.Ytilbccjgaaembaa
