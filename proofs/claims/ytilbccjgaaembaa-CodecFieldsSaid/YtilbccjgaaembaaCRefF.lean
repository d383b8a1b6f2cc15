/-
  LAYER 2 (codec): the reference's readers of fields.
-/
import Derived.Test.YtilbccjgaaembaaCRefR
import Derived.Test.YtilbccjgaaembaaCBack
namespace Go.Proofs.Ytilbccjgaaembaa
set_option maxRecDepth 100000
open Go.RowKit Go.Lib

theorem owns_empty (w : World) (e : TypeId) : Owns (w.alloc (.cells #[] e)) w.heap.size e (.slice (some ⟨w.heap.size, 0, none⟩) 0 0) [] :=
  owns_block (bs := []) (Nat.le_refl _) (by unfold World.alloc; simp [byteCells]) (by simp) rfl

/-- b[k:k+n]: what it is, and what it reads as. -/
theorem run_cut_mid (a : Option Addr) (l c k n : Nat) (hl : l ≤ c) (h : k + n ≤ l) : ∃ a' : Option Addr, (∀ w : World, (Instr.slice 23 (.slice a l c) (some (.int .i64 (k : Int))) (some (.int .i64 ((k : Int) + (n : Int)))) none).run Try.prog w = .ok (.slice a' n (c - k)) w) ∧
    ∀ (w : World) (bs : List UInt8), Reads w (.slice a l c) bs → Reads w (.slice a' n (c - k)) ((bs.drop k).take n) := by
  have he : Try.prog.underlying 23 = some (.slice (Try.prog.elem 23)) := by simp [go_sem]
  by_cases hck : c = k
  · subst hck
    obtain rfl : n = 0 := by omega
    refine ⟨a, fun w => ?_, fun w bs hr => ?_⟩
    · rw [run_slice_lh (P := Try.prog) w 23 a l c he .i64 .i64 (c : Int) ((c : Int) + ((0 : Nat) : Int)) (by omega) (by omega) (by omega)]
      have hz : (sizeOf (Try.prog.elem 23)).run Try.prog w = .ok 1 w := by simp [go_sem]
      rw [hz]
      simp [Result.andThen_ok, sliced]
    · simpa using hr.nothing
  · refine ⟨a.map fun x => x.add k, fun w => ?_, fun w bs hr => hr.cut k n (by have := hr.slice.1; omega)⟩
    rw [run_slice_lh (P := Try.prog) w 23 a l c he .i64 .i64 (k : Int) ((k : Int) + (n : Int)) (by omega) (by omega) (by omega)]
    have hz : (sizeOf (Try.prog.elem 23)).run Try.prog w = .ok 1 w := by simp [go_sem]
    rw [hz]
    have e2 : ((k : Int) + (n : Int)).toNat = k + n := by omega
    simp only [Result.andThen_ok, sliced, Int.toNat_natCast, Nat.mul_one, e2]
    rw [if_neg hck]
    congr 2
    omega

set_option maxHeartbeats 1000000 in
theorem refReadField_ok (a : Option Addr) (l c : Nat) (bs f : List UInt8) (m : Nat) (w : World) (hr : Reads w (.slice a l c) bs) (h : rdField bs = .ok (f, m)) :
    Calls Try.prog 27 #[.slice a l c] w fun e w' => ∃ v, e = .returned (.tuple #[v, .int .i64 (m : Int), .int .i64 0]) ∧ Owns w' w.heap.size 5 v f ∧ w.grownBy w' none := by
  obtain ⟨rfl, hc, hm⟩ := hr.slice
  unfold maxLen at hm
  obtain ⟨i0, hi, hz0, hz1, hz2⟩ := info_parts infoU8
  unfold rdField rdLen at h
  split at h
  · cases h
  rename_i n k h'
  split at h'
  · cases h'
  rename_i n' k' h''
  split at h'
  · cases h'
  simp only [Except.ok.injEq, Prod.mk.injEq] at h'
  obtain ⟨rfl, rfl⟩ := h'
  rename_i hbig
  split at h
  · cases h
  rename_i hsh
  simp only [Except.ok.injEq, Prod.mk.injEq] at h
  obtain ⟨rfl, rfl⟩ := h
  have hfl : ((bs.drop k').take n').length = n' := by simp; omega
  have hu := refReadUint_any a bs.length c bs n' k' 0 w hr (by rw [uRes_eq, h'']; rfl)
  obtain ⟨a', hcut, hcr⟩ := run_cut_mid a bs.length c k' n' hc (by omega)
  generalize hfe : (bs.drop k').take n' = f at hcr hfl
  have hF := Lib.hid hfe
  clear hfe h''
  go_enter Try.func27, Try.ntmps27
  go_wp2_with (first | (go_at_call 22; refine hu.mono ?_; rintro e w' ⟨rfl, rfl⟩) | (at_builtin; refine wpList_append_bytes _ rfl _ _ 23 rfl w.heap.size 5 i0 Try.underlying23 hi hz0 hz1 hz2 (.slice (some ⟨w.heap.size, 0, none⟩) 0 0) [] rfl (owns_empty w 5) (.slice a' n' (c - k')) f rfl (hF.out ▸ hcr _ bs (hr.new (World.grownBy_alloc w _ _))) (by simp; omega) (by simp) ?_; intro v2 w2 ho2 hg2))
  go_ret3
  exact ⟨v2, rfl, by simpa using ho2, gnew (World.grownBy_alloc w _ none) hg2 (fun r e => .inl (by simp only [Value.ownBlock, Option.some.injEq] at e; omega))⟩

set_option maxHeartbeats 1000000 in
theorem refReadField_bad (a : Option Addr) (l c : Nat) (bs : List UInt8) (x : Int) (w : World) (hr : Reads w (.slice a l c) bs) (h : rdField bs = .error x) :
    Calls Try.prog 27 #[.slice a l c] w fun e w' => e = .returned (.tuple #[.slice none 0 0, .int .i64 0, .int .i64 x]) ∧ w = w' := by
  obtain ⟨rfl, hc, hm⟩ := hr.slice
  unfold maxLen at hm
  obtain ⟨n, m, y, hy⟩ : ∃ n m y, uRes bs = (n, m, y) := ⟨_, _, _, rfl⟩
  have hu := refReadUint_any a bs.length c bs n m y w hr hy
  have hn := uRes_lt hy
  rcases uRes_cases hy with ⟨rfl, hrd⟩ | ⟨hy0, rfl, rfl, hrd⟩
  · have hlen := (once_uint hrd).2.1
    unfold rdField rdLen at h
    rw [hrd] at h
    simp only at h
    by_cases hbig : 1048576 < n
    · rw [if_pos hbig] at h
      simp only [Except.error.injEq] at h
      subst h
      clear hy hrd
      go_enter Try.func27, Try.ntmps27
      go_wp2_with (go_at_call 22; refine hu.mono ?_; rintro e w' ⟨rfl, rfl⟩)
      go_ret3
      exact ⟨rfl, rfl⟩
    · rw [if_neg hbig] at h
      simp only at h
      split at h
      · rename_i hsh
        simp only [Except.error.injEq] at h
        subst h
        clear hy hrd
        go_enter Try.func27, Try.ntmps27
        go_wp2_with (go_at_call 22; refine hu.mono ?_; rintro e w' ⟨rfl, rfl⟩)
        go_ret3
        exact ⟨rfl, rfl⟩
      · cases h
  · unfold rdField rdLen at h
    rw [hrd] at h
    simp only [Except.error.injEq] at h
    subst h
    have hx0 : (y != 0) = true := by simpa using hy0
    clear hy hrd hy0
    go_enter Try.func27, Try.ntmps27
    go_wp2_with (go_at_call 22; refine hu.mono ?_; rintro e w' ⟨rfl, rfl⟩)
    go_ret3
    exact ⟨rfl, rfl⟩

theorem refReadField_any (a : Option Addr) (l c : Nat) (bs f : List UInt8) (m : Nat) (x : Int) (w : World) (hr : Reads w (.slice a l c) bs) (h : fRes bs = (f, m, x)) :
    Calls Try.prog 27 #[.slice a l c] w fun e w' => ∃ v, e = .returned (.tuple #[v, .int .i64 (m : Int), .int .i64 x]) ∧ Owns w' w.heap.size 5 v f ∧ w.grownBy w' none := by
  rcases fRes_cases h with ⟨rfl, h'⟩ | ⟨_, rfl, rfl, h'⟩
  · exact refReadField_ok a l c bs f m w hr h'
  · exact (refReadField_bad a l c bs x w hr h').mono fun e w' ⟨he, hw⟩ => ⟨_, he, owns_nil _ _ _, hw ▸ World.grownBy.refl _ _⟩
end Go.Proofs.Ytilbccjgaaembaa
