/-
  LAYER 7 (weight): goesDown.
-/
import Derived.Test.YtlnplompnabmlaaRA05
import Derived.LoopTactic
import Derived.Deep.LoopGhost
import Derived.Deep.RegionHeld3
import Derived.Deep.RegionHeld
namespace Go.Proofs.Ytlnplompnabmlaa
set_option maxRecDepth 100000
open Go.RowKit Go.Lib
attribute [local go_sem] Oper.semAt_some

set_option maxHeartbeats 4000000 in
theorem goesDown_any (x : El) (w : World) : Calls Try.prog 72 #[x.agg] w fun e w' => e = .returned (.bool (elDown x)) ∧ w.grownBy w' none := by
  have hl := fun w => level_any x w
  have hnew := fun w => ElAt.new w x
  obtain ⟨p, s, t, v⟩ := x
  obtain ⟨n, hn⟩ : ∃ n, n = elDown ⟨p, s, t, v⟩ := ⟨_, rfl⟩
  rw [← hn]
  unfold El.agg at *
  dsimp only at *
  replace hn := Lib.hid hn
  obtain ⟨k, hk⟩ : ∃ k, k = elLevel ⟨p, s, t, v⟩ := ⟨_, rfl⟩
  rw [← hk] at hl
  unfold elLevel at hk
  dsimp only at hk
  rcases (show p = 0 ∨ p ≠ 0 by omega) with rfl | hp
  all_goals rcases (show s = 0 ∨ s ≠ 0 by omega) with rfl | hs
  all_goals rcases (show t = 0 ∨ t ≠ 0 by omega) with rfl | ht
  all_goals simp [*] at hk
  all_goals subst hk
  all_goals cases v
  all_goals
    go_enter Try.func72, Try.ntmps72
    go_wp2_with (go_at_call 76; refine (hl _).mono ?_; rintro e w1 ⟨rfl, hg⟩; have h0 := (hnew w).kept hg (by simp); have c1 := h0.c1; have c2 := h0.c2; have c3 := h0.c3; dsimp only at c1 c2 c3; clear h0 hl hnew)
    go_ret
    refine ⟨?_, (World.grownBy_alloc w _ none).trans hg⟩
    rw [hn.out]
    simp [elDown, *]
end Go.Proofs.Ytlnplompnabmlaa

/-
  LAYER 7 (weight): Check, both.
-/
namespace Go.Proofs.Ytlnplompnabmlaa
set_option maxRecDepth 100000
open Go.RowKit Go.Lib
attribute [local go_sem] Oper.semAt_some

set_option maxHeartbeats 4000000 in
theorem check_any (x : El) (w : World) : Calls Try.prog 65 #[x.agg] w fun e w' => e = .returned (.int .i64 (elCheck x)) ∧ w.grownBy w' none := by
  have hl := fun w => inLimits_any x w
  have hd := fun w => goesDown_any x w
  have hnew := fun w => ElAt.new w x
  obtain ⟨n, hn⟩ : ∃ n, n = elCheck x := ⟨_, rfl⟩
  rw [← hn]
  unfold elCheck elOk at hn
  obtain ⟨b, hb⟩ : ∃ b, b = elLim x := ⟨_, rfl⟩
  obtain ⟨d, hd'⟩ : ∃ d, d = elDown x := ⟨_, rfl⟩
  rw [← hb] at hl hn
  rw [← hd'] at hd hn
  clear hb hd'
  obtain ⟨p, s, t, v⟩ := x
  unfold El.agg at *
  dsimp only at *
  cases b
  all_goals cases d
  all_goals
    obtain rfl := hn
    go_enter Try.func65, Try.ntmps65
    go_wp2_with (first
      | (go_at_call 71; refine (hl _).mono ?_; rintro e w1 ⟨rfl, hg⟩; have h0 := (hnew w).kept hg (by simp); have c0 := h0.c0; have c1 := h0.c1; have c2 := h0.c2; have c3 := h0.c3; dsimp only at c0 c1 c2 c3; clear h0)
      | (go_at_call 72; refine (hd _).mono ?_; rintro e w2 ⟨rfl, hg2⟩; have hg := hg.trans hg2; clear hg2))
    go_ret
    exact ⟨rfl, (World.grownBy_alloc w _ none).trans hg⟩
end Go.Proofs.Ytlnplompnabmlaa

/-
  LAYER 9 (trie): which entries may be.
-/
namespace Go.Proofs.Ytlnplompnabmlaa
set_option maxRecDepth 100000
open Go.RowKit Go.Lib
attribute [local go_sem] Oper.semAt_some

theorem isWrong_any (x : El) (w : World) : Calls Try.prog 54 #[x.agg] w fun e w' => e = .returned (.bool (!elOk x)) ∧ w.grownBy w' none := by
  have hC := fun w => check_any x w
  have hnew := ElAt.new w x
  have hg0 := World.grownBy_alloc w (.cells #[.int .i64 x.p, .int .i64 x.s, .int .i64 x.t, .bool x.v] 66) none
  have c0 := hnew.c0
  have c1 := hnew.c1
  have c2 := hnew.c2
  have c3 := hnew.c3
  unfold elCheck at hC
  obtain ⟨b, hb⟩ : ∃ b, b = elOk x := ⟨_, rfl⟩
  rw [← hb] at hC ⊢
  clear hb hnew
  obtain ⟨p, s, t, v⟩ := x
  unfold El.agg at *
  dsimp only at *
  cases b
  all_goals
    go_enter Try.func54, Try.ntmps54
    go_wp2_with (go_at_call 65; refine (hC _).mono ?_; rintro e w1 ⟨rfl, hg⟩)
    go_ret
    exact ⟨rfl, hg0.trans hg⟩

/-- Where the first number, the first element stands that may not be; none: -1. -/
def idxOf {α : Type} (f : α → Bool) (l : List α) : Int := match l.findIdx? fun r => !f r with
  | some k => k
  | none => -1
theorem idxOf_of {α : Type} {f : α → Bool} {l : List α} {i : Nat} (h : ∀ j u, j < i → l[j]? = some u → f u = true) {u : α} (hu : l[i]? = some u) (hs : f u = false) : idxOf f l = i := by
  unfold idxOf
  have : l.findIdx? (fun r => !f r) = some i := by
    rw [List.findIdx?_eq_some_iff_getElem]
    obtain ⟨hi, rfl⟩ := List.getElem?_eq_some_iff.1 hu
    refine ⟨hi, by simp [hs], fun j hj => ?_⟩
    have := h j _ hj (List.getElem?_eq_getElem (by omega))
    simp [this]
  rw [this]
theorem idxOf_none {α : Type} {f : α → Bool} {l : List α} (h : ∀ j u, j < l.length → l[j]? = some u → f u = true) : idxOf f l = -1 := by
  unfold idxOf
  have : l.findIdx? (fun r => !f r) = none := by
    rw [List.findIdx?_eq_none_iff]
    intro x hx
    obtain ⟨j, hj, rfl⟩ := List.getElem_of_mem hx
    have := h j _ hj (List.getElem?_eq_getElem hj)
    simp [this]
  rw [this]
theorem idxOf_all {α : Type} (f : α → Bool) (l : List α) : (decide (0 ≤ idxOf f l)) = !l.all f := by
  unfold idxOf
  cases hf : l.findIdx? (fun r => !f r) with
  | none =>
    rw [List.findIdx?_eq_none_iff] at hf
    have : l.all f = true := by rw [List.all_eq_true]; intro x hx; have := hf x hx; simpa using this
    rw [this]; rfl
  | some k =>
    rw [List.findIdx?_eq_some_iff_getElem] at hf
    obtain ⟨hk, h1, _⟩ := hf
    have : l.all f = false := by
      rw [List.all_eq_false]
      exact ⟨_, List.getElem_mem hk, by simpa using h1⟩
    rw [this]
    simp

theorem rc_get {P : Nat → Prop} {w : World} {a : Option Addr} {m c : Nat} {l : List Int} (h : SR P 1 w (.slice a m c) l.length (rc l)) {i : Nat} {u : Int} (hu : l[i]? = some u) : ∃ b off, a = some ⟨b, off, none⟩ ∧ P b ∧ w.cell? ⟨b, off + i, none⟩ = some (.int .i32 u) := by
  obtain ⟨b, off, q1, q2, q3⟩ := h.get (i := i) (List.getElem?_eq_some_iff.1 hu).1
  obtain ⟨x, hx, hc⟩ := q3 0 (by omega)
  simp [rc, hu] at hx
  subst hx
  exact ⟨b, off, q1, q2, by simpa using hc⟩
theorem ec_get {P : Nat → Prop} {w : World} {a : Option Addr} {m c : Nat} {l : List El} (h : SR P 4 w (.slice a m c) l.length (ec l)) {i : Nat} {u : El} (hu : l[i]? = some u) : ∃ b off, a = some ⟨b, off, none⟩ ∧ P b ∧
    w.cell? ⟨b, off + i * 4, none⟩ = some (.int .i64 u.p) ∧ w.cell? ⟨b, off + i * 4 + 1, none⟩ = some (.int .i64 u.s) ∧ w.cell? ⟨b, off + i * 4 + 2, none⟩ = some (.int .i64 u.t) ∧ w.cell? ⟨b, off + i * 4 + 3, none⟩ = some (.bool u.v) := by
  obtain ⟨b, off, q1, q2, q3⟩ := h.get (i := i) (List.getElem?_eq_some_iff.1 hu).1
  obtain ⟨e0, e1, e2, e3⟩ := ec_at l i u hu
  obtain ⟨x0, h0, c0⟩ := q3 0 (by omega)
  obtain ⟨x1, h1, c1⟩ := q3 1 (by omega)
  obtain ⟨x2, h2, c2⟩ := q3 2 (by omega)
  obtain ⟨x3, h3, c3⟩ := q3 3 (by omega)
  rw [Nat.add_zero, e0] at h0
  rw [e1] at h1
  rw [e2] at h2
  rw [e3] at h3
  cases h0; cases h1; cases h2; cases h3
  exact ⟨b, off, q1, q2, by simpa using c0, by simpa [Nat.add_assoc] using c1, by simpa [Nat.add_assoc] using c2, by simpa [Nat.add_assoc] using c3⟩

set_option maxHeartbeats 2000000 in
theorem indexFunc_rc (P : Nat → Prop) (v : Value) (l : List Int) (w : World) (h : SR P 1 w v l.length (rc l)) (hlen : l.length < 1099511627776) :
    Calls Try.prog 62 #[v, .func (.func 52) #[] #[]] w fun e w' => e = .returned (.int .i64 (idxOf scal l)) ∧ w.grownBy w' none := by
  obtain ⟨a, c, rfl, hc, hm⟩ := h.form
  replace h := Lib.hid h
  obtain ⟨n, hn⟩ : ∃ n, n = l.length := ⟨_, rfl⟩
  rw [← hn] at hc hlen ⊢
  have HN := Lib.hid hn
  clear hn
  go_enter Try.func62, Try.ntmps62
  go_wp2
  go_loopg [8] n (fun kx s8 wr => ∃ (i : Nat), s8 = .int .i64 (i : Int) ∧ i ≤ n ∧ n - i ≤ kx ∧ Hid (∀ j u, j < i → l[j]? = some u → scal u = true) ∧ Hid (w.grownBy wr none))
  case atStart => exact ⟨0, rfl, Nat.zero_le _, Nat.le_refl _, fun j u hj => absurd hj (Nat.not_lt_zero _), Lib.hid (World.grownBy.refl _ _)⟩
  case round =>
    obtain ⟨i, rfl, hin, hkx, HB, HG⟩ := hrel
    by_cases hlt : i < n
    · have hltz : (i : Int) < (n : Int) := by omega
      obtain ⟨u, hu⟩ : ∃ u, l[i]? = some u := ⟨_, List.getElem?_eq_getElem (by have := HN.out; omega)⟩
      have hrr : SR P 1 wr (.slice a n c) l.length (rc l) := by have := h.out.new HG.out; rwa [← HN.out] at this ⊢
      obtain ⟨b, off, rfl, _, c0⟩ := rc_get hrr hu
      have HU := Lib.hid hu
      have hI := fun w => isNone_any u w
      clear hu hrr
      cases hs : scal u with
      | true =>
        rw [hs] at hI
        have HB2 : Hid (∀ j u, j < i + 1 → l[j]? = some u → scal u = true) := fun j v hj hv => by
          by_cases e : j = i
          · subst e; rw [HU.out] at hv; cases hv; exact hs
          · exact HB.out j v (by omega) hv
        clear hs
        go_wp2_with (go_at_call 52; refine (hI _).mono ?_; rintro e w' ⟨rfl, hg⟩)
        have HG2 := Lib.hid (HG.out.trans hg)
        go_roundg (n - (i + 1))
        case measure => omega
        case rel => exact ⟨i + 1, by first | rfl | go_num, by omega, Nat.le_refl _, HB2, HG2⟩
      | false =>
        rw [hs] at hI
        have hbi := idxOf_of HB.out HU.out hs
        have HBI := Lib.hid hbi
        clear hs hbi
        go_wp2_with (go_at_call 52; refine (hI _).mono ?_; rintro e w' ⟨rfl, hg⟩)
        go_ret
        exact ⟨by rw [HBI.out]; rfl, HG.out.trans hg⟩
    · obtain rfl : n = i := by omega
      have hbi : idxOf scal l = -1 := idxOf_none (fun j u hj => HB.out j u (by have := HN.out; omega))
      have HBI := Lib.hid hbi
      clear hbi
      go_wp2
      go_ret
      exact ⟨by rw [HBI.out]; rfl, HG.out⟩
set_option maxHeartbeats 2000000 in
theorem indexFunc_ec (P : Nat → Prop) (v : Value) (l : List El) (w : World) (h : SR P 4 w v l.length (ec l)) (hlen : l.length < 1099511627776) :
    Calls Try.prog 64 #[v, .func (.func 54) #[] #[]] w fun e w' => e = .returned (.int .i64 (idxOf elOk l)) ∧ w.grownBy w' none := by
  obtain ⟨a, c, rfl, hc, hm⟩ := h.form
  replace h := Lib.hid h
  obtain ⟨n, hn⟩ : ∃ n, n = l.length := ⟨_, rfl⟩
  rw [← hn] at hc hlen ⊢
  have HN := Lib.hid hn
  clear hn
  go_enter Try.func64, Try.ntmps64
  go_wp2
  go_loopg [8] n (fun kx s8 wr => ∃ (i : Nat), s8 = .int .i64 (i : Int) ∧ i ≤ n ∧ n - i ≤ kx ∧ Hid (∀ j u, j < i → l[j]? = some u → elOk u = true) ∧ Hid (w.grownBy wr none))
  case atStart => exact ⟨0, rfl, Nat.zero_le _, Nat.le_refl _, fun j u hj => absurd hj (Nat.not_lt_zero _), Lib.hid (World.grownBy.refl _ _)⟩
  case round =>
    obtain ⟨i, rfl, hin, hkx, HB, HG⟩ := hrel
    by_cases hlt : i < n
    · have hltz : (i : Int) < (n : Int) := by omega
      obtain ⟨u, hu⟩ : ∃ u, l[i]? = some u := ⟨_, List.getElem?_eq_getElem (by have := HN.out; omega)⟩
      have hrr : SR P 4 wr (.slice a n c) l.length (ec l) := by have := h.out.new HG.out; rwa [← HN.out] at this ⊢
      obtain ⟨b, off, rfl, _, c0, c1, c2, c3⟩ := ec_get hrr hu
      have HU := Lib.hid hu
      have hI := fun w => isWrong_any u w
      clear hu hrr
      cases hs : elOk u with
      | true =>
        rw [hs] at hI
        have HB2 : Hid (∀ j u, j < i + 1 → l[j]? = some u → elOk u = true) := fun j v hj hv => by
          by_cases e : j = i
          · subst e; rw [HU.out] at hv; cases hv; exact hs
          · exact HB.out j v (by omega) hv
        clear hs
        obtain ⟨p, s, t, vv⟩ := u
        unfold El.agg at hI
        dsimp only at *
        go_wp2_with (go_at_call 54; refine (hI _).mono ?_; rintro e w' ⟨rfl, hg⟩)
        have HG2 := Lib.hid (HG.out.trans hg)
        go_roundg (n - (i + 1))
        case measure => omega
        case rel => exact ⟨i + 1, by first | rfl | go_num, by omega, Nat.le_refl _, HB2, HG2⟩
      | false =>
        rw [hs] at hI
        have hbi := idxOf_of HB.out HU.out hs
        have HBI := Lib.hid hbi
        clear hs hbi
        obtain ⟨p, s, t, vv⟩ := u
        unfold El.agg at hI
        dsimp only at *
        go_wp2_with (go_at_call 54; refine (hI _).mono ?_; rintro e w' ⟨rfl, hg⟩)
        go_ret
        exact ⟨by rw [HBI.out]; rfl, HG.out.trans hg⟩
    · obtain rfl : n = i := by omega
      have hbi : idxOf elOk l = -1 := idxOf_none (fun j u hj => HB.out j u (by have := HN.out; omega))
      have HBI := Lib.hid hbi
      clear hbi
      go_wp2
      go_ret
      exact ⟨by rw [HBI.out]; rfl, HG.out⟩
theorem contains_rc (P : Nat → Prop) (v : Value) (l : List Int) (w : World) (h : SR P 1 w v l.length (rc l)) (hlen : l.length < 1099511627776) :
    Calls Try.prog 51 #[v, .func (.func 52) #[] #[]] w fun e w' => e = .returned (.bool (!l.all scal)) ∧ w.grownBy w' none := by
  have hI := indexFunc_rc P v l w h hlen
  obtain ⟨a, c, rfl, _⟩ := h.form
  rw [← idxOf_all scal l]
  clear h
  generalize idxOf scal l = z at hI
  go_enter Try.func51, Try.ntmps51
  go_wp2_with (go_at_call 62; refine hI.mono ?_; rintro e w' ⟨rfl, hg⟩)
  go_ret
  exact ⟨by first | rfl | simp, hg⟩
theorem contains_ec (P : Nat → Prop) (v : Value) (l : List El) (w : World) (h : SR P 4 w v l.length (ec l)) (hlen : l.length < 1099511627776) :
    Calls Try.prog 53 #[v, .func (.func 54) #[] #[]] w fun e w' => e = .returned (.bool (!l.all elOk)) ∧ w.grownBy w' none := by
  have hI := indexFunc_ec P v l w h hlen
  obtain ⟨a, c, rfl, _⟩ := h.form
  rw [← idxOf_all elOk l]
  clear h
  generalize idxOf elOk l = z at hI
  go_enter Try.func53, Try.ntmps53
  go_wp2_with (go_at_call 64; refine hI.mono ?_; rintro e w' ⟨rfl, hg⟩)
  go_ret
  exact ⟨by first | rfl | simp, hg⟩
end Go.Proofs.Ytlnplompnabmlaa

/-
  LAYER 9 (trie): an entry's copy; which entries may be.
-/
namespace Go.Proofs.Ytlnplompnabmlaa
set_option maxRecDepth 100000
open Go.RowKit Go.Lib
attribute [local go_sem] Oper.semAt_some

/-- A block of two cells. -/
def Two (w : World) (q : Nat) (a b : Value) : Prop := w.heap[q]? = some (.cells #[a, b] 35 (0, 0))
section
variable {w w' : World} {q : Nat} {a b : Value}
theorem Two.c0 (h : Two w q a b) : w.cell? ⟨q, 0, none⟩ = some a := by simp [World.cell?, show _ = _ from h]
theorem Two.c1 (h : Two w q a b) : w.cell? ⟨q, 1, none⟩ = some b := by simp [World.cell?, show _ = _ from h]
theorem Two.free (h : Two w q a b) (o : Nat) : w.frozen? ⟨q, o, none⟩ = false := by simp [World.frozen?, show _ = _ from h]
theorem Two.lt (h : Two w q a b) : q < w.heap.size := lt_of_block h
theorem Two.s0 (h : Two w q a b) (x : Value) : Two (w.setCell ⟨q, 0, none⟩ x) q x b := heap_setCell_same w q 0 _ _ _ h
theorem Two.s1 (h : Two w q a b) (x : Value) : Two (w.setCell ⟨q, 1, none⟩ x) q a x := heap_setCell_same w q 1 _ _ _ h
theorem Two.new (h : Two w q a b) (hg : w.grownBy w' none) : Two w' q a b := (hg.block q h.lt (by simp)).trans h
theorem Two.kept {r : Option Nat} (h : Two w q a b) (hg : w.grownBy w' r) (hr : r ≠ some q) : Two w' q a b := (hg.block q h.lt (fun e => hr e.symm)).trans h
end

theorem gbut' {a b : World} {r : Option Nat} (h : a.grownBy b none) : a.grownBy b r := ⟨h.os, h.tape, h.output, h.size, fun k hk _ => h.block k hk (by simp)⟩
set_option maxHeartbeats 4000000 in
theorem copied_any (P : Nat → Prop) (vc ve : Value) (x : Ent) (w : World) (h : EntR P w vc ve x) (h1 : x.codes.length < 1099511627776) (h2 : x.els.length < 1099511627776) :
    Calls Try.prog 44 #[.agg #[vc, ve]] w fun e w' => ∃ a b, e = .returned (.agg #[.slice a x.codes.length x.codes.length, .slice b x.els.length x.els.length]) ∧
      SO (fun k => w.heap.size ≤ k) 21 1 w' (.slice a x.codes.length x.codes.length) x.codes.length (rc x.codes) ∧ SO (fun k => w.heap.size ≤ k) 66 4 w' (.slice b x.els.length x.els.length) x.els.length (ec x.els) ∧ w.grownBy w' none := by
  have gA := World.grownBy_alloc w (.cells #[vc, ve] 35) none
  have sA : (w.alloc (.cells #[vc, ve] 35)).heap.size = w.heap.size + 1 := by simp
  have eA : Two (w.alloc (.cells #[vc, ve] 35)) w.heap.size vc ve := World.alloc_heap_new w _
  obtain ⟨W0, hW0⟩ : ∃ W0, W0 = w.alloc (.cells #[vc, ve] 35) := ⟨_, rfl⟩
  rw [← hW0] at gA sA eA
  have gB := World.grownBy_alloc W0 (.cells #[.slice none 0 0, .slice none 0 0] 35) none
  have sB : (W0.alloc (.cells #[.slice none 0 0, .slice none 0 0] 35)).heap.size = w.heap.size + 2 := by simp [sA]
  have eB : Two (W0.alloc (.cells #[.slice none 0 0, .slice none 0 0] 35)) (w.heap.size + 1) (.slice none 0 0) (.slice none 0 0) := by rw [← sA]; exact World.alloc_heap_new W0 _
  have eA := eA.new gB
  have gW := gA.trans gB
  go_enter Try.func44, Try.ntmps44
  go_wp2_with fail
  rw [← hW0]
  clear hW0 gA gB sA
  generalize W0.alloc (.cells #[.slice none 0 0, .slice none 0 0] 35) = W at *
  refine wp_region_held_drew (S := fun w' => W.grownBy w' (some (w.heap.size + 1)) ∧ w'.cell? ⟨w.heap.size, 0, none⟩ = some vc ∧ w'.cell? ⟨w.heap.size, 1, none⟩ = some ve) (by kernel_rfl) ⟨gdrew (World.grownBy.refl W _), eA.c0, eA.c1⟩ (fun hS0 => ?_)
  refine wpAnyH_take (i := 0) (oi := ⟨some 3, _, _, _, _, _⟩) (v := ?_) rfl (by kernel_rfl) (by kernel_rfl) (by kernel_rfl) (fun _ _ _ h => h) (Or.inl ⟨by rfl, ?_⟩) (by assumption) ?_
  rotate_left
  · (intro w hSw; (try dsimp only at hSw); go_simp; try with_reducible rfl)
  try simp only [Act.put, List.setIfInBounds_toArray, List.set_cons_zero, List.set_cons_succ]
  refine wpAnyH_take (i := 1) (oi := ⟨some 4, _, _, _, _, _⟩) (v := ?_) rfl (by kernel_rfl) (by kernel_rfl) (by kernel_rfl) (fun _ _ _ h => h) (Or.inl ⟨by rfl, ?_⟩) (by assumption) ?_
  rotate_left
  · (intro w hSw; (try dsimp only at hSw); go_simp; try with_reducible rfl)
  try simp only [Act.put, List.setIfInBounds_toArray, List.set_cons_zero, List.set_cons_succ]
  refine wpAnyH_take (i := 3) (oi := ⟨some 6, _, _, _, _, _⟩) (v := ?_) rfl (by kernel_rfl) (by kernel_rfl) (by kernel_rfl) (fun _ _ _ h => h) (Or.inl ⟨by rfl, ?_⟩) (by assumption) ?_
  rotate_left
  · (intro w hSw; (try dsimp only at hSw); go_simp; try with_reducible rfl)
  try simp only [Act.put, List.setIfInBounds_toArray, List.set_cons_zero, List.set_cons_succ]
  refine wpAnyH_take (i := 4) (oi := ⟨some 7, _, _, _, _, _⟩) (v := ?_) rfl (by kernel_rfl) (by kernel_rfl) (by kernel_rfl) (fun _ _ _ h => h) (Or.inl ⟨by rfl, ?_⟩) (by assumption) ?_
  rotate_left
  · (intro w hSw; (try dsimp only at hSw); go_simp; try with_reducible rfl)
  try simp only [Act.put, List.setIfInBounds_toArray, List.set_cons_zero, List.set_cons_succ]
  refine wpAnyH_ready (rs := [2]) (by kernel_rfl) (by simp) ?_
  refine AllReadyH.cons rfl (fun K hK => ?_) AllReadyH.nil
  go_simp
  have gV : W.grownBy W.drew none := gdrew (World.grownBy.refl W none)
  refine (copy_rc P vc x.codes _ (h.1.new (gW.trans gV)) h1).mono ?_
  rintro e w1 ⟨a, rfl, o1, g1⟩
  have gV1 := gV.trans g1
  refine hK.out _ _ ⟨gbut' gV1, (eA.new gV1).c0, (eA.new gV1).c1⟩ (fun _ => ?_)
  clear hK
  refine wpAnyH_ready (rs := [5]) (by kernel_rfl) (by simp) ?_
  refine AllReadyH.cons rfl (fun K hK => ?_) AllReadyH.nil
  go_simp
  refine (copy_ec P ve x.els _ (h.2.new (gW.trans gV1)) h2).mono ?_
  rintro e w2 ⟨b, rfl, o2, g2⟩
  have gV2 := gV1.trans g2
  have hS2 : W.grownBy w2 (some (w.heap.size + 1)) ∧ w2.cell? ⟨w.heap.size, 0, none⟩ = some vc ∧ w2.cell? ⟨w.heap.size, 1, none⟩ = some ve := ⟨gbut' gV2, (eA.new gV2).c0, (eA.new gV2).c1⟩
  refine hK.out _ _ hS2 (fun _ => ?_)
  clear hK
  have e3 := eB.new gV2
  have z0 := e3.c0
  have z1 := e3.c1
  have f0 := e3.free 0
  have f1 := e3.free 1
  have e4 := (e3.s0 (.slice a x.codes.length x.codes.length))
  have z2 := e4.c1
  have f2 := e4.free 1
  have e5 := e4.s1 (.slice b x.els.length x.els.length)
  have r0 := e5.c0
  have r1 := e5.c1
  have gs := gset (gset (World.grownBy.refl w2 (some (w.heap.size + 1))) 0 (.slice a x.codes.length x.codes.length)) 1 (.slice b x.els.length x.els.length)
  have hWs : w.heap.size + 2 ≤ W.heap.size := by omega
  have p1 := o1.heap (w' := (w2.setCell ⟨w.heap.size + 1, 0, none⟩ (.slice a x.codes.length x.codes.length)).setCell ⟨w.heap.size + 1, 1, none⟩ (.slice b x.els.length x.els.length)) (fun k cur hk hb => by
    have hkl := lt_of_block hb
    have hs3 := gV.size
    have hs4 := g2.size
    exact (gs.block k (by omega) (fun e => by simp at e; omega)).trans (g2.block k hkl (by simp)))
  have p2 := o2.heap (w' := (w2.setCell ⟨w.heap.size + 1, 0, none⟩ (.slice a x.codes.length x.codes.length)).setCell ⟨w.heap.size + 1, 1, none⟩ (.slice b x.els.length x.els.length)) (fun k cur hk hb => by
    have hkl := lt_of_block hb
    have hs3 := gV1.size
    exact gs.block k hkl (fun e => by simp at e; omega))
  have hs3 := gV.size
  have hs4 := gV1.size
  have hs5 := gW.size
  have p1 := p1.weak (Q := fun k => w.heap.size ≤ k) (fun k hk => by omega)
  have p2 := p2.weak (Q := fun k => w.heap.size ≤ k) (fun k hk => by omega)
  have hgF : w.grownBy ((w2.setCell ⟨w.heap.size + 1, 0, none⟩ (.slice a x.codes.length x.codes.length)).setCell ⟨w.heap.size + 1, 1, none⟩ (.slice b x.els.length x.els.length)) none := gnew (gW.trans gV2) gs (fun r e => by simp at e; left; omega)
  have hSf : W.grownBy ((w2.setCell ⟨w.heap.size + 1, 0, none⟩ (.slice a x.codes.length x.codes.length)).setCell ⟨w.heap.size + 1, 1, none⟩ (.slice b x.els.length x.els.length)) (some (w.heap.size + 1)) ∧ ((w2.setCell ⟨w.heap.size + 1, 0, none⟩ (.slice a x.codes.length x.codes.length)).setCell ⟨w.heap.size + 1, 1, none⟩ (.slice b x.els.length x.els.length)).cell? ⟨w.heap.size, 0, none⟩ = some vc ∧ ((w2.setCell ⟨w.heap.size + 1, 0, none⟩ (.slice a x.codes.length x.codes.length)).setCell ⟨w.heap.size + 1, 1, none⟩ (.slice b x.els.length x.els.length)).cell? ⟨w.heap.size, 1, none⟩ = some ve := by
    have e := ((eA.new gV2).kept gs (by simp))
    exact ⟨(gbut' gV2).trans gs, e.c0, e.c1⟩
  refine wpAnyH_take (i := 6) (oi := ⟨some 9, _, _, _, _, _⟩) (v := ?_) rfl (by kernel_rfl) (by kernel_rfl) (by kernel_rfl) (fun _ _ _ h => h) (Or.inl ⟨by rfl, ?_⟩) (by assumption) ?_
  rotate_left
  · (intro w hSw; (try dsimp only at hSw); go_simp; try with_reducible rfl)
  try simp only [Act.put, List.setIfInBounds_toArray, List.set_cons_zero, List.set_cons_succ]
  refine wpAnyH_ready (rs := [7]) (by kernel_rfl) (by simp) ?_
  refine AllReadyH.cons rfl (fun K hK => ?_) AllReadyH.nil
  go_simp
  refine hK.out _ _ hSf (fun _ => ?_)
  clear hK
  refine wpAnyH_done (by kernel_rfl) ?_ _
  go_wp2
  refine bodyPost_ret (v := .agg #[.slice a x.codes.length x.codes.length, .slice b x.els.length x.els.length]) (by simp [results, Try.results44, go_sem, r0, r1]) rfl ?_
  exact ⟨_, _, rfl, p1, p2, hgF⟩
end Go.Proofs.Ytlnplompnabmlaa
