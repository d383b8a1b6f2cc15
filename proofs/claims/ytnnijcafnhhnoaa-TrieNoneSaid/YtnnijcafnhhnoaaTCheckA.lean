/-
  LAYER 9 (trie): which entries may be.
-/
import Derived.Test.YtnnijcafnhhnoaaTLeaf
import Derived.Test.YtnnijcafnhhnoaaWCheck
import Derived.LoopTactic
import Derived.Deep.LoopGhost
namespace Go.Proofs.Ytnnijcafnhhnoaa
set_option maxRecDepth 100000
open Go.RowKit Go.Lib
attribute [local go_sem] Oper.semAt_some

theorem isWrong_any (x : El) (w : World) : Calls Try.prog 54 #[x.agg] w fun e w' => e = .returned (.bool (!elOk x)) ∧ w.grownBy w' none := by
  have hC := fun w => check_any x w
  have hnew := ElAt.new w x
  have hg0 := World.grownBy_alloc w (.cells #[.int .i64 x.p, .int .i64 x.s, .int .i64 x.t, .bool x.v] 66) none
  have c0 := hnew.c0
  have c1 := hnew.c1
  have c2 := hnew.c2
  have c3 := hnew.c3
  unfold elCheck at hC
  obtain ⟨b, hb⟩ : ∃ b, b = elOk x := ⟨_, rfl⟩
  rw [← hb] at hC ⊢
  clear hb hnew
  obtain ⟨p, s, t, v⟩ := x
  unfold El.agg at *
  dsimp only at *
  cases b
  all_goals
    go_enter Try.func54, Try.ntmps54
    go_wp2_with (go_at_call 65; refine (hC _).mono ?_; rintro e w1 ⟨rfl, hg⟩)
    go_ret
    exact ⟨rfl, hg0.trans hg⟩

/-- Where the first number, the first element stands that may not be; none: -1. -/
def idxOf {α : Type} (f : α → Bool) (l : List α) : Int := match l.findIdx? fun r => !f r with
  | some k => k
  | none => -1
theorem idxOf_of {α : Type} {f : α → Bool} {l : List α} {i : Nat} (h : ∀ j u, j < i → l[j]? = some u → f u = true) {u : α} (hu : l[i]? = some u) (hs : f u = false) : idxOf f l = i := by
  unfold idxOf
  have : l.findIdx? (fun r => !f r) = some i := by
    rw [List.findIdx?_eq_some_iff_getElem]
    obtain ⟨hi, rfl⟩ := List.getElem?_eq_some_iff.1 hu
    refine ⟨hi, by simp [hs], fun j hj => ?_⟩
    have := h j _ hj (List.getElem?_eq_getElem (by omega))
    simp [this]
  rw [this]
theorem idxOf_none {α : Type} {f : α → Bool} {l : List α} (h : ∀ j u, j < l.length → l[j]? = some u → f u = true) : idxOf f l = -1 := by
  unfold idxOf
  have : l.findIdx? (fun r => !f r) = none := by
    rw [List.findIdx?_eq_none_iff]
    intro x hx
    obtain ⟨j, hj, rfl⟩ := List.getElem_of_mem hx
    have := h j _ hj (List.getElem?_eq_getElem hj)
    simp [this]
  rw [this]
theorem idxOf_all {α : Type} (f : α → Bool) (l : List α) : (decide (0 ≤ idxOf f l)) = !l.all f := by
  unfold idxOf
  cases hf : l.findIdx? (fun r => !f r) with
  | none =>
    rw [List.findIdx?_eq_none_iff] at hf
    have : l.all f = true := by rw [List.all_eq_true]; intro x hx; have := hf x hx; simpa using this
    rw [this]; rfl
  | some k =>
    rw [List.findIdx?_eq_some_iff_getElem] at hf
    obtain ⟨hk, h1, _⟩ := hf
    have : l.all f = false := by
      rw [List.all_eq_false]
      exact ⟨_, List.getElem_mem hk, by simpa using h1⟩
    rw [this]
    simp

theorem rc_get {P : Nat → Prop} {w : World} {a : Option Addr} {m c : Nat} {l : List Int} (h : SR P 1 w (.slice a m c) l.length (rc l)) {i : Nat} {u : Int} (hu : l[i]? = some u) : ∃ b off, a = some ⟨b, off, none⟩ ∧ P b ∧ w.cell? ⟨b, off + i, none⟩ = some (.int .i32 u) := by
  obtain ⟨b, off, q1, q2, q3⟩ := h.get (i := i) (List.getElem?_eq_some_iff.1 hu).1
  obtain ⟨x, hx, hc⟩ := q3 0 (by omega)
  simp [rc, hu] at hx
  subst hx
  exact ⟨b, off, q1, q2, by simpa using hc⟩
theorem ec_get {P : Nat → Prop} {w : World} {a : Option Addr} {m c : Nat} {l : List El} (h : SR P 4 w (.slice a m c) l.length (ec l)) {i : Nat} {u : El} (hu : l[i]? = some u) : ∃ b off, a = some ⟨b, off, none⟩ ∧ P b ∧
    w.cell? ⟨b, off + i * 4, none⟩ = some (.int .i64 u.p) ∧ w.cell? ⟨b, off + i * 4 + 1, none⟩ = some (.int .i64 u.s) ∧ w.cell? ⟨b, off + i * 4 + 2, none⟩ = some (.int .i64 u.t) ∧ w.cell? ⟨b, off + i * 4 + 3, none⟩ = some (.bool u.v) := by
  obtain ⟨b, off, q1, q2, q3⟩ := h.get (i := i) (List.getElem?_eq_some_iff.1 hu).1
  obtain ⟨e0, e1, e2, e3⟩ := ec_at l i u hu
  obtain ⟨x0, h0, c0⟩ := q3 0 (by omega)
  obtain ⟨x1, h1, c1⟩ := q3 1 (by omega)
  obtain ⟨x2, h2, c2⟩ := q3 2 (by omega)
  obtain ⟨x3, h3, c3⟩ := q3 3 (by omega)
  rw [Nat.add_zero, e0] at h0
  rw [e1] at h1
  rw [e2] at h2
  rw [e3] at h3
  cases h0; cases h1; cases h2; cases h3
  exact ⟨b, off, q1, q2, by simpa using c0, by simpa [Nat.add_assoc] using c1, by simpa [Nat.add_assoc] using c2, by simpa [Nat.add_assoc] using c3⟩

set_option maxHeartbeats 2000000 in
theorem indexFunc_rc (P : Nat → Prop) (v : Value) (l : List Int) (w : World) (h : SR P 1 w v l.length (rc l)) (hlen : l.length < 1099511627776) :
    Calls Try.prog 62 #[v, .func (.func 52) #[] #[]] w fun e w' => e = .returned (.int .i64 (idxOf scal l)) ∧ w.grownBy w' none := by
  obtain ⟨a, c, rfl, hc, hm⟩ := h.form
  replace h := Lib.hid h
  obtain ⟨n, hn⟩ : ∃ n, n = l.length := ⟨_, rfl⟩
  rw [← hn] at hc hlen ⊢
  have HN := Lib.hid hn
  clear hn
  go_enter Try.func62, Try.ntmps62
  go_wp2
  go_loopg [8] n (fun kx s8 wr => ∃ (i : Nat), s8 = .int .i64 (i : Int) ∧ i ≤ n ∧ n - i ≤ kx ∧ Hid (∀ j u, j < i → l[j]? = some u → scal u = true) ∧ Hid (w.grownBy wr none))
  case atStart => exact ⟨0, rfl, Nat.zero_le _, Nat.le_refl _, fun j u hj => absurd hj (Nat.not_lt_zero _), Lib.hid (World.grownBy.refl _ _)⟩
  case round =>
    obtain ⟨i, rfl, hin, hkx, HB, HG⟩ := hrel
    by_cases hlt : i < n
    · have hltz : (i : Int) < (n : Int) := by omega
      obtain ⟨u, hu⟩ : ∃ u, l[i]? = some u := ⟨_, List.getElem?_eq_getElem (by have := HN.out; omega)⟩
      have hrr : SR P 1 wr (.slice a n c) l.length (rc l) := by have := h.out.new HG.out; rwa [← HN.out] at this ⊢
      obtain ⟨b, off, rfl, _, c0⟩ := rc_get hrr hu
      have HU := Lib.hid hu
      have hI := fun w => isNone_any u w
      clear hu hrr
      cases hs : scal u with
      | true =>
        rw [hs] at hI
        have HB2 : Hid (∀ j u, j < i + 1 → l[j]? = some u → scal u = true) := fun j v hj hv => by
          by_cases e : j = i
          · subst e; rw [HU.out] at hv; cases hv; exact hs
          · exact HB.out j v (by omega) hv
        clear hs
        go_wp2_with (go_at_call 52; refine (hI _).mono ?_; rintro e w' ⟨rfl, hg⟩)
        have HG2 := Lib.hid (HG.out.trans hg)
        go_roundg (n - (i + 1))
        case measure => omega
        case rel => exact ⟨i + 1, by first | rfl | go_num, by omega, Nat.le_refl _, HB2, HG2⟩
      | false =>
        rw [hs] at hI
        have hbi := idxOf_of HB.out HU.out hs
        have HBI := Lib.hid hbi
        clear hs hbi
        go_wp2_with (go_at_call 52; refine (hI _).mono ?_; rintro e w' ⟨rfl, hg⟩)
        go_ret
        exact ⟨by rw [HBI.out]; rfl, HG.out.trans hg⟩
    · obtain rfl : n = i := by omega
      have hbi : idxOf scal l = -1 := idxOf_none (fun j u hj => HB.out j u (by have := HN.out; omega))
      have HBI := Lib.hid hbi
      clear hbi
      go_wp2
      go_ret
      exact ⟨by rw [HBI.out]; rfl, HG.out⟩
set_option maxHeartbeats 2000000 in
theorem indexFunc_ec (P : Nat → Prop) (v : Value) (l : List El) (w : World) (h : SR P 4 w v l.length (ec l)) (hlen : l.length < 1099511627776) :
    Calls Try.prog 64 #[v, .func (.func 54) #[] #[]] w fun e w' => e = .returned (.int .i64 (idxOf elOk l)) ∧ w.grownBy w' none := by
  obtain ⟨a, c, rfl, hc, hm⟩ := h.form
  replace h := Lib.hid h
  obtain ⟨n, hn⟩ : ∃ n, n = l.length := ⟨_, rfl⟩
  rw [← hn] at hc hlen ⊢
  have HN := Lib.hid hn
  clear hn
  go_enter Try.func64, Try.ntmps64
  go_wp2
  go_loopg [8] n (fun kx s8 wr => ∃ (i : Nat), s8 = .int .i64 (i : Int) ∧ i ≤ n ∧ n - i ≤ kx ∧ Hid (∀ j u, j < i → l[j]? = some u → elOk u = true) ∧ Hid (w.grownBy wr none))
  case atStart => exact ⟨0, rfl, Nat.zero_le _, Nat.le_refl _, fun j u hj => absurd hj (Nat.not_lt_zero _), Lib.hid (World.grownBy.refl _ _)⟩
  case round =>
    obtain ⟨i, rfl, hin, hkx, HB, HG⟩ := hrel
    by_cases hlt : i < n
    · have hltz : (i : Int) < (n : Int) := by omega
      obtain ⟨u, hu⟩ : ∃ u, l[i]? = some u := ⟨_, List.getElem?_eq_getElem (by have := HN.out; omega)⟩
      have hrr : SR P 4 wr (.slice a n c) l.length (ec l) := by have := h.out.new HG.out; rwa [← HN.out] at this ⊢
      obtain ⟨b, off, rfl, _, c0, c1, c2, c3⟩ := ec_get hrr hu
      have HU := Lib.hid hu
      have hI := fun w => isWrong_any u w
      clear hu hrr
      cases hs : elOk u with
      | true =>
        rw [hs] at hI
        have HB2 : Hid (∀ j u, j < i + 1 → l[j]? = some u → elOk u = true) := fun j v hj hv => by
          by_cases e : j = i
          · subst e; rw [HU.out] at hv; cases hv; exact hs
          · exact HB.out j v (by omega) hv
        clear hs
        obtain ⟨p, s, t, vv⟩ := u
        unfold El.agg at hI
        dsimp only at *
        go_wp2_with (go_at_call 54; refine (hI _).mono ?_; rintro e w' ⟨rfl, hg⟩)
        have HG2 := Lib.hid (HG.out.trans hg)
        go_roundg (n - (i + 1))
        case measure => omega
        case rel => exact ⟨i + 1, by first | rfl | go_num, by omega, Nat.le_refl _, HB2, HG2⟩
      | false =>
        rw [hs] at hI
        have hbi := idxOf_of HB.out HU.out hs
        have HBI := Lib.hid hbi
        clear hs hbi
        obtain ⟨p, s, t, vv⟩ := u
        unfold El.agg at hI
        dsimp only at *
        go_wp2_with (go_at_call 54; refine (hI _).mono ?_; rintro e w' ⟨rfl, hg⟩)
        go_ret
        exact ⟨by rw [HBI.out]; rfl, HG.out.trans hg⟩
    · obtain rfl : n = i := by omega
      have hbi : idxOf elOk l = -1 := idxOf_none (fun j u hj => HB.out j u (by have := HN.out; omega))
      have HBI := Lib.hid hbi
      clear hbi
      go_wp2
      go_ret
      exact ⟨by rw [HBI.out]; rfl, HG.out⟩
theorem contains_rc (P : Nat → Prop) (v : Value) (l : List Int) (w : World) (h : SR P 1 w v l.length (rc l)) (hlen : l.length < 1099511627776) :
    Calls Try.prog 51 #[v, .func (.func 52) #[] #[]] w fun e w' => e = .returned (.bool (!l.all scal)) ∧ w.grownBy w' none := by
  have hI := indexFunc_rc P v l w h hlen
  obtain ⟨a, c, rfl, _⟩ := h.form
  rw [← idxOf_all scal l]
  clear h
  generalize idxOf scal l = z at hI
  go_enter Try.func51, Try.ntmps51
  go_wp2_with (go_at_call 62; refine hI.mono ?_; rintro e w' ⟨rfl, hg⟩)
  go_ret
  exact ⟨by first | rfl | simp, hg⟩
theorem contains_ec (P : Nat → Prop) (v : Value) (l : List El) (w : World) (h : SR P 4 w v l.length (ec l)) (hlen : l.length < 1099511627776) :
    Calls Try.prog 53 #[v, .func (.func 54) #[] #[]] w fun e w' => e = .returned (.bool (!l.all elOk)) ∧ w.grownBy w' none := by
  have hI := indexFunc_ec P v l w h hlen
  obtain ⟨a, c, rfl, _⟩ := h.form
  rw [← idxOf_all elOk l]
  clear h
  generalize idxOf elOk l = z at hI
  go_enter Try.func53, Try.ntmps53
  go_wp2_with (go_at_call 64; refine hI.mono ?_; rintro e w' ⟨rfl, hg⟩)
  go_ret
  exact ⟨by first | rfl | simp, hg⟩
end Go.Proofs.Ytnnijcafnhhnoaa
