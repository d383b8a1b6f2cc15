/-
  LAYER 2 (codec): the reference's reader of lists of fields; Same.
-/
import Derived.Test.YtilbccjgaaembaaCRefF
namespace Go.Proofs.Ytilbccjgaaembaa
set_option maxRecDepth 100000
open Go.RowKit Go.Lib

theorem ob_new {x : Value} : x.ownBlock = none ∨ x.ownBlock ≠ none := by cases x.ownBlock <;> simp

/-- b[k:]: what it is, and what it reads as. -/
theorem run_cut_from (a : Option Addr) (l c k : Nat) (hl : l ≤ c) (h : k ≤ l) : ∃ a' : Option Addr, (∀ w : World, (Instr.slice 23 (.slice a l c) (some (.int .i64 (k : Int))) none none).run Try.prog w = .ok (.slice a' (l - k) (c - k)) w) ∧
    ∀ (w : World) (bs : List UInt8), Reads w (.slice a l c) bs → Reads w (.slice a' (l - k) (c - k)) (bs.drop k) := by
  by_cases hck : c = k
  · refine ⟨a, fun w => ?_, fun w bs hr => ?_⟩
    · obtain ⟨a', h1, h2, _⟩ := run_cut_lo a l c k h w
      rw [h1, h2 hck]
    · have e1 := hr.slice.1
      have e2 : l - k = 0 := by omega
      have e3 : c - k = 0 := by omega
      rw [e2, e3, List.drop_eq_nil_of_le (by omega)]
      exact hr.nothing
  · refine ⟨a.map fun x => x.add k, fun w => ?_, fun w bs hr => ?_⟩
    · obtain ⟨a', h1, _, h3⟩ := run_cut_lo a l c k h w
      rw [h1, h3 hck]
    · have e1 := hr.slice.1
      have := hr.cut k (l - k) (by omega)
      rwa [List.take_of_length_le (by simp; omega)] at this

set_option maxHeartbeats 1000000 in
theorem refReadFields_ok (a : Option Addr) (l c : Nat) (bs : List UInt8) (L : List (List UInt8)) (m : Nat) (w : World) (hr : Reads w (.slice a l c) bs) (hrd : rdFields bs = .ok (L, m)) :
    Calls Try.prog 29 #[.slice a l c] w fun e w' => ∃ v, e = .returned (.tuple #[v, .int .i64 (m : Int), .int .i64 0]) ∧ OwnsL w' w.heap.size v L ∧ w.grownBy w' none := by
  obtain ⟨rfl, hc, hm⟩ := hr.slice
  unfold maxLen at hm
  unfold rdFields at hrd
  split at hrd
  · cases hrd
  rename_i n k h'
  split at hrd
  · cases hrd
  rename_i L' m' hmany
  simp only [Except.ok.injEq, Prod.mk.injEq] at hrd
  obtain ⟨rfl, rfl⟩ := hrd
  have hl := rdLen_lt h'
  obtain ⟨hn, hk1, hk, hru⟩ := hl
  have hml := rdMany_lt _ _ _ _ hmany
  simp only [List.length_drop] at hk hml
  obtain ⟨hL, hm', hkm⟩ := hml
  have hM := Lib.hid hmany
  have hLh := Lib.hid hL
  have hu := refReadUint_any a bs.length c bs n k 0 w hr (by rw [uRes_eq, hru]; rfl)
  clear h' hmany hL hru
  go_enter Try.func29, Try.ntmps29
  go_wp2_with (go_at_call 22; refine hu.mono ?_; rintro e w' ⟨rfl, rfl⟩)
  obtain ⟨i0, hi, hz0, hz1, hz2⟩ := info_parts infoBs
  go_loopw [6, 8, 9] (fun vk vb vi wr => ∃ (j : Nat) (vs : List Value) (pre rest : List (List UInt8)) (p mr : Nat), vi = .int .u64 (j : Int) ∧ vk = .int .i64 (p : Int) ∧ j = pre.length ∧ Hid (L' = pre ++ rest) ∧ Hid (rdMany rest.length (bs.drop p) = .ok (rest, mr)) ∧ Hid (p + mr = k + m') ∧ p ≤ bs.length ∧ w.grownBy wr none ∧ Hid (vs.length = pre.length) ∧ wr.ownsRow w.heap.size 23 1 vb vs.length vs ∧ Hid (∀ (i : Nat) (x : Value) (f : List UInt8), vs[i]? = some x → pre[i]? = some f → Owns wr w.heap.size 5 x f)) (fun _ _ vi _ => n - (RowKit.intOf vi).toNat)
  case atStart =>
    refine ⟨0, [], [], L', k, m', rfl, rfl, rfl, rfl, ?_, rfl, by omega, World.grownBy.refl _ _, rfl, World.ownsRow_nil w _ _ 1, fun i x f hx _ => by simp at hx⟩
    have := hM.out
    rw [← hLh.out] at this
    exact this
  case round =>
    obtain ⟨j, vs, pre, rest, p, mr, rfl, rfl, rfl, hLL, hRM, hP, hp, hg, hvs, hown, hall⟩ := hrel
    have hnl : n = pre.length + rest.length := by rw [← hLh.out, hLL.out, List.length_append]
    cases rest with
    | nil =>
      have hnp : n = pre.length := by simpa using hnl
      clear hnl
      have hge : (n : Int) ≤ (pre.length : Int) := by omega
      have h1 := hRM.out
      simp only [rdMany, List.length_nil, Except.ok.injEq, Prod.mk.injEq, true_and] at h1
      have hP1 := hP.out
      have hpp : p = k + m' := by omega
      have hLe : L' = pre := by have := hLL.out; simpa using this
      have HP := Lib.hid hpp
      have HL := Lib.hid hLe
      clear hnp h1 hP1 hpp hLe
      go_wp2
      go_ret3
      refine ⟨_, by rw [← HP.out]; rfl, ?_, hg⟩
      rw [HL.out]; exact ⟨vs, hvs.out, hown, hall.out⟩
    | cons f rest' =>
      have h1 := hRM.out
      rw [List.length_cons, rdMany] at h1
      split at h1
      · cases h1
      rename_i f1 m1 hf1
      split at h1
      · cases h1
      rename_i l2 m2 hl2
      simp only [Except.ok.injEq, Prod.mk.injEq, List.cons.injEq] at h1
      obtain ⟨⟨rfl, rfl⟩, rfl⟩ := h1
      have hfl := rdField_lt hf1
      simp only [List.length_drop] at hfl
      have hlt : (pre.length : Int) < (n : Int) := by rw [hnl]; simp only [List.length_cons]; omega
      have hnn : pre.length + 1 ≤ n := by omega
      obtain ⟨a', hcut, hcr⟩ := run_cut_from a bs.length c p hc hp
      have hcall := refReadField_ok a' _ _ _ f1 m1 wr (hcr wr bs (hr.new hg)) hf1
      have HL := Lib.hid hnl
      have HF := Lib.hid hf1
      have H2 := Lib.hid hl2
      clear hnl hf1 hl2 hcr
      have hvl : vs.length ≤ 65536 := by rw [hvs.out]; omega
      have hws := hg.size
      go_wp2_with (first | (go_at_call 27; refine hcall.mono ?_; rintro e w3 ⟨v3, rfl, ho3, hg3⟩; have hown3 := hown.kept hg3 ob_new; obtain ⟨a3, c3, rfl⟩ := ho3.reads.form) | (at_builtin; refine wpList_append_own _ rfl _ _ 47 rfl w.heap.size 23 i0 (.slice none 0 0) 1 24 Try.underlying47 hi hz0 hz1 hz2 rfl (by decide) _ _ _ rfl (hown3.alloc _) ⟨w3.heap.size, 0, none⟩ 1 1 [.slice a3 f1.length c3] rfl rfl ?c1 ?c2 ?c3 ?c4 ?c5 ?_))
      case c1 =>
        intro j u hj
        match j, hj with
        | 0, hj => simp at hj; subst hj; simp [Addr.add]
      case c2 => intro u hu; simp at hu; subst hu; rfl
      case c3 => unfold maxLen; omega
      case c4 => omega
      case c5 => have := hg3.size; simp; omega
      intro v' w4 hown4 hg4 _
      have hall3 : Hid (∀ (i : Nat) (x : Value) (f : List UInt8), vs[i]? = some x → pre[i]? = some f → Owns (w3.alloc (.cells #[.slice a3 f1.length c3] 23)) w.heap.size 5 x f) := fun i x f hx hf =>
        (((hall.out i x f hx hf).kept hg3 ob_new)).new (World.grownBy_alloc _ _ _)
      have hsn := OwnsL.snoc (L := pre) hvs.out (hown3.alloc _) hall3.out ((ho3.mono hws).new (World.grownBy_alloc _ _ _)) hg4 hown4
      obtain ⟨vs', hv1, hv2, hv3⟩ := hsn
      have hv3' := Lib.hid hv3
      have hv1' := Lib.hid hv1
      have hg5 : w.grownBy w4 none := gnew (galloc (hg.trans hg3) _) hg4 (fun q hq => by have := hown.lt q; have := hown3.lt q hq; left; omega)
      have hP' : Hid (p + m1 + m2 = k + m') := by have := hP.out; show _ = _; omega
      have hLL' : Hid (L' = (pre ++ [f1]) ++ l2) := by have := hLL.out; show _ = _; rw [this, List.append_assoc]; rfl
      have hRM' : Hid (rdMany l2.length (bs.drop (p + m1)) = .ok (l2, m2)) := by have := H2.out; rw [List.drop_drop] at this; exact this
      clear hv3 hv1 hall3 hown3 hown4 hg4
      go_wp2
      exact ⟨⟨pre.length + 1, vs', pre ++ [f1], l2, p + m1, m2, by go_num, by go_num, by simp, hLL', hRM', hP', by omega, hg5, hv1', hv2, hv3'⟩, by simp [RowKit.intOf]; omega⟩

set_option maxHeartbeats 1000000 in
theorem refReadFields_bad (a : Option Addr) (l c : Nat) (bs : List UInt8) (x : Int) (w : World) (hr : Reads w (.slice a l c) bs) (hrd : rdFields bs = .error x) :
    Calls Try.prog 29 #[.slice a l c] w fun e w' => e = .returned (.tuple #[.slice none 0 0, .int .i64 0, .int .i64 x]) ∧ w.grownBy w' none := by
  obtain ⟨rfl, hc, hm⟩ := hr.slice
  unfold maxLen at hm
  obtain ⟨n, k, y, hy⟩ : ∃ n m y, uRes bs = (n, m, y) := ⟨_, _, _, rfl⟩
  have hu := refReadUint_any a bs.length c bs n k y w hr hy
  have hn := uRes_lt hy
  unfold rdFields rdLen at hrd
  rcases uRes_cases hy with ⟨rfl, hru⟩ | ⟨hy0, rfl, rfl, hru⟩
  · have hlen := (once_uint hru).2.1
    rw [hru] at hrd
    simp only at hrd
    by_cases hbig : 65536 < n
    · rw [if_pos hbig] at hrd
      simp only [Except.error.injEq] at hrd
      subst hrd
      clear hy hru
      go_enter Try.func29, Try.ntmps29
      go_wp2_with (go_at_call 22; refine hu.mono ?_; rintro e w' ⟨rfl, rfl⟩)
      go_ret3
      exact ⟨rfl, World.grownBy.refl _ _⟩
    · rw [if_neg hbig] at hrd
      simp only at hrd
      split at hrd
      rotate_left
      · cases hrd
      rename_i x' hmany
      simp only [Except.error.injEq] at hrd
      subst hrd
      have hM := Lib.hid hmany
      clear hy hru hmany
      obtain ⟨i0, hi, hz0, hz1, hz2⟩ := info_parts infoBs
      go_enter Try.func29, Try.ntmps29
      go_wp2_with (go_at_call 22; refine hu.mono ?_; rintro e w' ⟨rfl, rfl⟩)
      go_loopw [6, 8, 9] (fun vk vb vi wr => ∃ (j : Nat) (vs : List Value) (p : Nat), vi = .int .u64 (j : Int) ∧ vk = .int .i64 (p : Int) ∧ j ≤ n ∧ Hid (rdMany (n - j) (bs.drop p) = .error x') ∧ p ≤ bs.length ∧ w.grownBy wr none ∧ Hid (vs.length = j) ∧ wr.ownsRow w.heap.size 23 1 vb vs.length vs) (fun _ _ vi _ => n - (RowKit.intOf vi).toNat)
      case atStart => exact ⟨0, [], k, rfl, rfl, Nat.zero_le _, hM.out, by omega, World.grownBy.refl _ _, rfl, World.ownsRow_nil w _ _ 1⟩
      case round =>
        obtain ⟨j, vs, p, rfl, rfl, hj, hRM, hp, hg, hvs, hown⟩ := hrel
        have h1 := hRM.out
        have hjn : j ≠ n := by rintro rfl; simp [rdMany] at h1
        have hlt : (j : Int) < (n : Int) := by omega
        obtain ⟨d, hd⟩ : ∃ d, n - j = d + 1 := ⟨n - j - 1, by omega⟩
        rw [hd, rdMany] at h1
        have hws := hg.size
        obtain ⟨a', hcut, hcr⟩ := run_cut_from a bs.length c p hc hp
        split at h1
        · rename_i x1 hx1
          simp only [Except.error.injEq] at h1
          subst h1
          have hcall := refReadField_bad a' _ _ _ x1 wr (hcr wr bs (hr.new hg)) hx1
          have hx0 : (x1 != 0) = true := by rcases rdField_err hx1 with h | h | h <;> subst h <;> rfl
          clear hjn hd hx1 hcr
          go_wp2_with (go_at_call 27; refine hcall.mono ?_; rintro e w3 ⟨rfl, rfl⟩)
          go_ret3
          exact ⟨rfl, hg⟩
        · rename_i f1 m1 hf1
          have hfl := rdField_lt hf1
          simp only [List.length_drop] at hfl
          split at h1
          rotate_left
          · cases h1
          rename_i x1 hx1
          simp only [Except.error.injEq] at h1
          subst h1
          have hnn : j + 1 ≤ n := by omega
          have hcall := refReadField_ok a' _ _ _ f1 m1 wr (hcr wr bs (hr.new hg)) hf1
          have hRM' : Hid (rdMany (n - (j + 1)) (bs.drop (p + m1)) = .error x1) := by
            show _ = _
            rw [show n - (j + 1) = d by omega, ← List.drop_drop]; exact hx1
          clear hf1 hx1 hjn hd hcr
          have hvl : vs.length ≤ 65536 := by rw [hvs.out]; omega
          go_wp2_with (first | (go_at_call 27; refine hcall.mono ?_; rintro e w3 ⟨v3, rfl, ho3, hg3⟩; have hown3 := hown.kept hg3 ob_new; obtain ⟨a3, c3, rfl⟩ := ho3.reads.form) | (at_builtin; refine wpList_append_own _ rfl _ _ 47 rfl w.heap.size 23 i0 (.slice none 0 0) 1 24 Try.underlying47 hi hz0 hz1 hz2 rfl (by decide) _ _ _ rfl (hown3.alloc _) ⟨w3.heap.size, 0, none⟩ 1 1 [.slice a3 f1.length c3] rfl rfl ?c1 ?c2 ?c3 ?c4 ?c5 ?_))
          case c1 =>
            intro j u hj
            match j, hj with
            | 0, hj => simp at hj; subst hj; simp [Addr.add]
          case c2 => intro u hu; simp at hu; subst hu; rfl
          case c3 => unfold maxLen; omega
          case c4 => omega
          case c5 => have := hg3.size; simp; omega
          intro v' w4 hown4 hg4 _
          have hg5 : w.grownBy w4 none := gnew (galloc (hg.trans hg3) _) hg4 (fun q hq => by have := hown.lt q; have := hown3.lt q hq; left; omega)
          have hvs' : Hid ((vs ++ [Value.slice a3 f1.length c3]).length = j + 1) := by have := hvs.out; show _ = _; simp [this]
          have hown5 : w4.ownsRow w.heap.size 23 1 v' (vs ++ [Value.slice a3 f1.length c3]).length (vs ++ [Value.slice a3 f1.length c3]) := by rw [List.length_append, List.length_singleton]; exact hown4
          clear hown3 hown4 hg4
          go_wp2
          exact ⟨⟨j + 1, _, p + m1, by go_num, by go_num, by omega, hRM', by omega, hg5, hvs', hown5⟩, by simp [RowKit.intOf]; omega⟩
  · rw [hru] at hrd
    simp only [Except.error.injEq] at hrd
    subst hrd
    have hx0 : (y != 0) = true := by simpa using hy0
    clear hy hru hy0
    go_enter Try.func29, Try.ntmps29
    go_wp2_with (go_at_call 22; refine hu.mono ?_; rintro e w' ⟨rfl, rfl⟩)
    go_ret3
    exact ⟨rfl, World.grownBy.refl _ _⟩

theorem refReadFields_any (a : Option Addr) (l c : Nat) (bs : List UInt8) (L : List (List UInt8)) (m : Nat) (x : Int) (w : World) (hr : Reads w (.slice a l c) bs) (h : lRes bs = (L, m, x)) :
    Calls Try.prog 29 #[.slice a l c] w fun e w' => ∃ v, e = .returned (.tuple #[v, .int .i64 (m : Int), .int .i64 x]) ∧ OwnsL w' w.heap.size v L ∧ w.grownBy w' none := by
  rcases lRes_cases h with ⟨rfl, h'⟩ | ⟨_, rfl, rfl, h'⟩
  · exact refReadFields_ok a l c bs L m w hr h'
  · exact (refReadFields_bad a l c bs x w hr h').mono fun e w' ⟨he, hw⟩ => ⟨_, he, ownsL_nil _ _, hw⟩
end Go.Proofs.Ytilbccjgaaembaa
