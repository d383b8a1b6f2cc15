/-
  LAYER 9 (trie): copies of code points, of elements, of entries.
-/
import Derived.Test.YtnnijcafnhhnoaaTLeaf
import Derived.ArgAppend
namespace Go.Proofs.Ytnnijcafnhhnoaa
set_option maxRecDepth 100000
open Go.RowKit Go.Lib
attribute [local go_sem] Oper.semAt_some

theorem infoRune : (Try.prog.info? 21).map (fun i => (i.zero, i.size, i.bytes)) = some (some (.int .i32 0), 1, 4) := by kernel_rfl
theorem infoEl : (Try.prog.info? 66).map (fun i => (i.zero, i.size, i.bytes)) = some (some (.agg #[.int .i64 0, .int .i64 0, .int .i64 0, .bool false]), 4, 32) := by kernel_rfl
theorem infoEnt : (Try.prog.info? 35).map (fun i => (i.zero, i.size, i.bytes)) = some (some (.agg #[.slice none 0 0, .slice none 0 0]), 2, 48) := by kernel_rfl
theorem infoRune_parts : ∃ i0 : TypeInfo, Try.prog.info? 21 = some i0 ∧ i0.zero = some (.int .i32 0) ∧ i0.size = 1 ∧ i0.bytes = 4 := by
  have h := infoRune
  cases hi : Try.prog.info? 21 with
  | none => rw [hi] at h; cases h
  | some i =>
    rw [hi] at h
    simp only [Option.map_some, Option.some.injEq, Prod.mk.injEq] at h
    exact ⟨i, rfl, h.1, h.2.1, h.2.2⟩
theorem infoEl_parts : ∃ i0 : TypeInfo, Try.prog.info? 66 = some i0 ∧ i0.zero = some (.agg #[.int .i64 0, .int .i64 0, .int .i64 0, .bool false]) ∧ i0.size = 4 ∧ i0.bytes = 32 := by
  have h := infoEl
  cases hi : Try.prog.info? 66 with
  | none => rw [hi] at h; cases h
  | some i =>
    rw [hi] at h
    simp only [Option.map_some, Option.some.injEq, Prod.mk.injEq] at h
    exact ⟨i, rfl, h.1, h.2.1, h.2.2⟩
theorem infoEnt_parts : ∃ i0 : TypeInfo, Try.prog.info? 35 = some i0 ∧ i0.zero = some (.agg #[.slice none 0 0, .slice none 0 0]) ∧ i0.size = 2 ∧ i0.bytes = 48 := by
  have h := infoEnt
  cases hi : Try.prog.info? 35 with
  | none => rw [hi] at h; cases h
  | some i =>
    rw [hi] at h
    simp only [Option.map_some, Option.some.injEq, Prod.mk.injEq] at h
    exact ⟨i, rfl, h.1, h.2.1, h.2.2⟩
theorem rc_one {l : List Int} : ∀ u ∈ rc l, u.oneCell' = true := by
  intro u hu
  simp only [rc, List.mem_map] at hu
  obtain ⟨x, _, rfl⟩ := hu
  rfl
theorem ec_one {l : List El} : ∀ u ∈ ec l, u.oneCell' = true := by
  intro u hu
  simp only [ec, List.mem_flatMap, List.mem_cons, List.not_mem_nil, or_false] at hu
  obtain ⟨x, _, rfl | rfl | rfl | rfl⟩ := hu <;> rfl
theorem addr_add (b off j : Nat) : (⟨b, off, none⟩ : Addr).add j = ⟨b, off + j, none⟩ := by unfold Addr.add; split <;> simp_all

set_option maxHeartbeats 2000000 in
theorem clone_rc (P : Nat → Prop) (v : Value) (l : List Int) (w : World) (h : SR P 1 w v l.length (rc l)) (hlen : l.length < 1099511627776) :
    Calls Try.prog 67 #[v] w fun e w' => ∃ a c, e = .returned (.slice a l.length c) ∧ (a = none → c = 0) ∧ SO (fun b => w.heap.size ≤ b) 21 1 w' (.slice a l.length c) l.length (rc l) ∧ w.grownBy w' none := by
  obtain ⟨h00, a, cap, rfl, hc, hm, hnc, hcl⟩ := h
  clear h00
  cases a with
  | none =>
    have hl : l = [] := by
      by_cases hl : l.length = 0
      · exact List.length_eq_zero_iff.1 hl
      · obtain ⟨b, off, e, _⟩ := hcl hl; cases e
    subst hl
    obtain rfl := hnc rfl
    clear hnc hcl
    have q : ∀ (w : World), (binOp .eql 32 (.slice none 0 0) (.slice none 0 0)).run Try.prog w = .ok (.bool true) w := fun w => Lib.run_eql_slice_nil w _ _ none 0 0 0 0 Try.underlying32
    go_enter Try.func67, Try.ntmps67
    go_wp2
    go_ret
    exact ⟨none, 0, rfl, fun _ => rfl, SO.nil _ _ _ _, World.grownBy.refl _ _⟩
  | some x =>
    clear hnc
    have q : ∀ (w : World), (binOp .eql 32 (.slice (some x) l.length cap) (.slice none 0 0)).run Try.prog w = .ok (.bool false) w := fun w => Lib.run_eql_slice_nil w _ _ (some x) l.length cap 0 0 Try.underlying32
    by_cases hl : l = []
    · subst hl
      have q0 : ∀ (w : World), (binOp .eql 32 (.slice (some x) 0 cap) (.slice none 0 0)).run Try.prog w = .ok (.bool false) w := q
      clear q hcl
      go_enter Try.func67, Try.ntmps67
      go_wp2
      go_ret
      exact ⟨_, 0, rfl, fun _ => rfl, ⟨by simp [rc], _, 0, rfl, Nat.le_refl _, Nat.zero_le _, fun _ => rfl, fun h => absurd rfl h⟩, World.grownBy_alloc w _ none⟩
    · obtain ⟨b, off, e, _, hbl, hcell⟩ := hcl (by simpa using hl)
      cases e
      obtain ⟨i0, hi, hz0, hz1, hz2⟩ := infoRune_parts
      obtain ⟨n, hn⟩ : ∃ n, n = l.length := ⟨_, rfl⟩
      go_enter Try.func67, Try.ntmps67
      go_wp2_with (at_builtin; refine wpList_append_grows _ rfl _ _ 32 rfl 21 i0 (.int .i32 0) 1 4 Try.underlying32 hi hz0 hz1 hz2 rfl (by decide) (some ⟨w.heap.size, 0, none⟩) 0 0 [] rfl (fun h => by cases h) ?d0 ?d1 ⟨b, off, none⟩ l.length cap (rc l) rfl ?d7 ?d2 ?d3 ?d4 ?d5 ?d6 ?_)
      case d0 => rfl
      case d1 => intro b hb j u hu; simp at hu
      case d7 => rw [rc_len]; try omega
      case d2 =>
        intro j u hu
        have h4 := (World.grownBy_alloc w (.cells #[] 21) none).cell (hcell j u hu) (by simp)
        rw [addr_add]
        exact h4
      case d3 => exact rc_one
      case d4 =>
        have := List.length_pos_iff.2 hl
        omega
      case d5 => unfold maxLen; omega
      case d6 => omega
      intro v' w' hown hg
      clear hi hz0 hz1 hz2 q hcell hcl
      have hg2 := (World.grownBy_alloc w (.cells #[] 21) none).trans hg
      have ho2 := SR.of_owns (P := fun b => w.heap.size ≤ b) hown (fun b hb _ => by omega)
      have hfm : ∃ a c, v' = .slice a l.length c ∧ (a = none → c = 0) := by
        obtain ⟨_, a, c, q1, _, _, q2, _⟩ := ho2
        exact ⟨a, c, q1, q2⟩
      obtain ⟨a', c', rfl, hac⟩ := hfm
      clear hown hg
      go_wp2
      go_ret
      exact ⟨_, _, rfl, hac, ho2, hg2⟩
set_option maxHeartbeats 2000000 in
theorem clone_ec (P : Nat → Prop) (v : Value) (l : List El) (w : World) (h : SR P 4 w v l.length (ec l)) (hlen : l.length < 1099511627776) :
    Calls Try.prog 58 #[v] w fun e w' => ∃ a c, e = .returned (.slice a l.length c) ∧ (a = none → c = 0) ∧ SO (fun b => w.heap.size ≤ b) 66 4 w' (.slice a l.length c) l.length (ec l) ∧ w.grownBy w' none := by
  obtain ⟨h00, a, cap, rfl, hc, hm, hnc, hcl⟩ := h
  clear h00
  cases a with
  | none =>
    have hl : l = [] := by
      by_cases hl : l.length = 0
      · exact List.length_eq_zero_iff.1 hl
      · obtain ⟨b, off, e, _⟩ := hcl hl; cases e
    subst hl
    obtain rfl := hnc rfl
    clear hnc hcl
    have q : ∀ (w : World), (binOp .eql 33 (.slice none 0 0) (.slice none 0 0)).run Try.prog w = .ok (.bool true) w := fun w => Lib.run_eql_slice_nil w _ _ none 0 0 0 0 Try.underlying33
    go_enter Try.func58, Try.ntmps58
    go_wp2
    go_ret
    exact ⟨none, 0, rfl, fun _ => rfl, SO.nil _ _ _ _, World.grownBy.refl _ _⟩
  | some x =>
    clear hnc
    have q : ∀ (w : World), (binOp .eql 33 (.slice (some x) l.length cap) (.slice none 0 0)).run Try.prog w = .ok (.bool false) w := fun w => Lib.run_eql_slice_nil w _ _ (some x) l.length cap 0 0 Try.underlying33
    by_cases hl : l = []
    · subst hl
      have q0 : ∀ (w : World), (binOp .eql 33 (.slice (some x) 0 cap) (.slice none 0 0)).run Try.prog w = .ok (.bool false) w := q
      clear q hcl
      go_enter Try.func58, Try.ntmps58
      go_wp2
      go_ret
      exact ⟨_, 0, rfl, fun _ => rfl, ⟨by simp [ec], _, 0, rfl, Nat.le_refl _, Nat.zero_le _, fun _ => rfl, fun h => absurd rfl h⟩, World.grownBy_alloc w _ none⟩
    · obtain ⟨b, off, e, _, hbl, hcell⟩ := hcl (by simpa using hl)
      cases e
      obtain ⟨i0, hi, hz0, hz1, hz2⟩ := infoEl_parts
      obtain ⟨n, hn⟩ : ∃ n, n = l.length := ⟨_, rfl⟩
      go_enter Try.func58, Try.ntmps58
      go_wp2_with (at_builtin; refine wpList_append_grows _ rfl _ _ 33 rfl 66 i0 (.agg #[.int .i64 0, .int .i64 0, .int .i64 0, .bool false]) 4 32 Try.underlying33 hi hz0 hz1 hz2 rfl (by decide) (some ⟨w.heap.size, 0, none⟩) 0 0 [] rfl (fun h => by cases h) ?d0 ?d1 ⟨b, off, none⟩ l.length cap (ec l) rfl ?d7 ?d2 ?d3 ?d4 ?d5 ?d6 ?_)
      case d0 => rfl
      case d1 => intro b hb j u hu; simp at hu
      case d7 => rw [ec_len]; try omega
      case d2 =>
        intro j u hu
        have h4 := (World.grownBy_alloc w (.cells #[] 66) none).cell (hcell j u hu) (by simp)
        rw [addr_add]
        exact h4
      case d3 => exact ec_one
      case d4 =>
        have := List.length_pos_iff.2 hl
        omega
      case d5 => unfold maxLen; omega
      case d6 => omega
      intro v' w' hown hg
      clear hi hz0 hz1 hz2 q hcell hcl
      have hg2 := (World.grownBy_alloc w (.cells #[] 66) none).trans hg
      have ho2 := SR.of_owns (P := fun b => w.heap.size ≤ b) hown (fun b hb _ => by omega)
      have hfm : ∃ a c, v' = .slice a l.length c ∧ (a = none → c = 0) := by
        obtain ⟨_, a, c, q1, _, _, q2, _⟩ := ho2
        exact ⟨a, c, q1, q2⟩
      obtain ⟨a', c', rfl, hac⟩ := hfm
      clear hown hg
      go_wp2
      go_ret
      exact ⟨_, _, rfl, hac, ho2, hg2⟩
theorem clip_rc (n c : Nat) (a : Option Addr) (w : World) (h : n ≤ c ∧ c ≤ maxLen ∧ (a = none → c = 0)) :
    Calls Try.prog 66 #[.slice a n c] w fun e w' => e = .returned (.slice a n n) ∧ w = w' := by
  obtain ⟨h1, h2, h3⟩ := h
  cases a with
  | none =>
    obtain rfl := h3 rfl
    obtain rfl : n = 0 := by omega
    clear h3
    go_enter Try.func66, Try.ntmps66
    go_wp2
    go_ret
    exact ⟨rfl, rfl⟩
  | some x =>
    clear h3
    unfold maxLen at h2
    go_enter Try.func66, Try.ntmps66
    go_wp2
    go_ret
    exact ⟨rfl, rfl⟩
theorem copy_rc (P : Nat → Prop) (v : Value) (l : List Int) (w : World) (h : SR P 1 w v l.length (rc l)) (hlen : l.length < 1099511627776) :
    Calls Try.prog 55 #[v] w fun e w' => ∃ a, e = .returned (.slice a l.length l.length) ∧ SO (fun b => w.heap.size ≤ b) 21 1 w' (.slice a l.length l.length) l.length (rc l) ∧ w.grownBy w' none := by
  have hC := clone_rc P v l w h hlen
  have hP := fun a c W h => clip_rc l.length c a W h
  obtain ⟨_, a, cap, rfl, _⟩ := h
  obtain ⟨cs, hcs⟩ : ∃ cs, cs = rc l := ⟨_, rfl⟩
  rw [← hcs] at hC ⊢
  clear hcs
  generalize l.length = n at hC hP hlen
  go_enter Try.func55, Try.ntmps55
  go_wp2_with (first
    | (go_at_call 67; refine hC.mono ?_; rintro e w1 ⟨a1, c1, rfl, hac, ho1, hg1⟩)
    | (go_at_call 66; refine (hP _ _ _ (by obtain ⟨_, a', c', q1, q2, q3, q4, _⟩ := ho1; simp at q1; obtain ⟨rfl, rfl⟩ := q1; exact ⟨q2, q3, q4⟩)).mono ?_; rintro e w2 ⟨rfl, rfl⟩))
  go_ret
  exact ⟨_, rfl, ho1.clip (by unfold maxLen; omega) (fun e => by obtain ⟨_, a', c', q1, q2, q3, q4, _⟩ := ho1; simp at q1; obtain ⟨rfl, rfl⟩ := q1; have := q4 e; omega), hg1⟩
theorem clip_ec (n c : Nat) (a : Option Addr) (w : World) (h : n ≤ c ∧ c ≤ maxLen ∧ (a = none → c = 0)) :
    Calls Try.prog 57 #[.slice a n c] w fun e w' => e = .returned (.slice a n n) ∧ w = w' := by
  obtain ⟨h1, h2, h3⟩ := h
  cases a with
  | none =>
    obtain rfl := h3 rfl
    obtain rfl : n = 0 := by omega
    clear h3
    go_enter Try.func57, Try.ntmps57
    go_wp2
    go_ret
    exact ⟨rfl, rfl⟩
  | some x =>
    clear h3
    unfold maxLen at h2
    go_enter Try.func57, Try.ntmps57
    go_wp2
    go_ret
    exact ⟨rfl, rfl⟩
theorem copy_ec (P : Nat → Prop) (v : Value) (l : List El) (w : World) (h : SR P 4 w v l.length (ec l)) (hlen : l.length < 1099511627776) :
    Calls Try.prog 47 #[v] w fun e w' => ∃ a, e = .returned (.slice a l.length l.length) ∧ SO (fun b => w.heap.size ≤ b) 66 4 w' (.slice a l.length l.length) l.length (ec l) ∧ w.grownBy w' none := by
  have hC := clone_ec P v l w h hlen
  have hP := fun a c W h => clip_ec l.length c a W h
  obtain ⟨_, a, cap, rfl, _⟩ := h
  obtain ⟨cs, hcs⟩ : ∃ cs, cs = ec l := ⟨_, rfl⟩
  rw [← hcs] at hC ⊢
  clear hcs
  generalize l.length = n at hC hP hlen
  go_enter Try.func47, Try.ntmps47
  go_wp2_with (first
    | (go_at_call 58; refine hC.mono ?_; rintro e w1 ⟨a1, c1, rfl, hac, ho1, hg1⟩)
    | (go_at_call 57; refine (hP _ _ _ (by obtain ⟨_, a', c', q1, q2, q3, q4, _⟩ := ho1; simp at q1; obtain ⟨rfl, rfl⟩ := q1; exact ⟨q2, q3, q4⟩)).mono ?_; rintro e w2 ⟨rfl, rfl⟩))
  go_ret
  exact ⟨_, rfl, ho1.clip (by unfold maxLen; omega) (fun e => by obtain ⟨_, a', c', q1, q2, q3, q4, _⟩ := ho1; simp at q1; obtain ⟨rfl, rfl⟩ := q1; have := q4 e; omega), hg1⟩
end Go.Proofs.Ytnnijcafnhhnoaa
