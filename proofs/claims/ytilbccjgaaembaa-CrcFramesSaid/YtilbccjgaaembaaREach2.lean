/-
  LAYER 3 (crc): Each of a table: its iterator tells the frames from the front.
-/
import Derived.Test.YtilbccjgaaembaaREach
import Derived.Test.YtilbccjgaaembaaRange
import Derived.Stop.RegionWithIn
namespace Go.Proofs.Ytilbccjgaaembaa
set_option maxRecDepth 100000
open Go.RowKit Go.Lib
attribute [local go_sem] Oper.semAt_some

/-- The frames from the front, with their places. -/
def frsN : Nat → Nat → List UInt8 → List (Nat × List UInt8)
  | 0, _, _ => []
  | f + 1, n, bs => if (unf bs).2.2 = 0 then (n, (unf bs).1) :: frsN f (n + (unf bs).2.1) (bs.drop (unf bs).2.1) else []
def frs (bs : List UInt8) : List (Nat × List UInt8) := frsN (bs.length + 1) 0 bs

abbrev Told := Nat × List UInt8 × Value
def tEnc (x : Told) : Array Value := #[.int .i64 (x.1 : Int), x.2.2]
def tOk (bs : List UInt8) (pre : List Told) (x : Told) (W : World) : Prop := Reads W x.2.2 x.2.1 ∧ (frs bs)[pre.length]? = some (x.1, x.2.1)
def tAll (bs : List UInt8) (xs : List Told) (_W : World) : Prop := xs.map (fun x => (x.1, x.2.1)) = frs bs

/-- What the iterator needs of a world. -/
def EachSt (p q t : Nat) (v : Value) (bs : List UInt8) (W : World) : Prop :=
  Boxed W p 78 (.pointer (some ⟨t, 0, none⟩)) ∧ Boxed W q 23 v ∧ Reads W v bs ∧ Tbl W t true
theorem EachSt.new {p q t : Nat} {v : Value} {bs : List UInt8} {A B : World} (h : EachSt p q t v bs A) (hg : A.grownBy B none) : EachSt p q t v bs B :=
  ⟨h.1.kept hg (by simp), h.2.1.kept hg (by simp), h.2.2.1.new hg, h.2.2.2.new hg⟩
theorem Reads.heap {A B : World} {v : Value} {bs : List UInt8} (h : Reads A v bs) (hb : bs ≠ [] → ∀ k, v.ownBlock = some k → B.heap[k]? = A.heap[k]?) : Reads B v bs := by
  rcases h with h | ⟨b, off, cap, rfl, h1, h2, hc⟩
  · exact .inl h
  · refine .inr ⟨b, off, cap, rfl, h1, h2, fun i u hu => ?_⟩
    have hn : bs ≠ [] := by rintro rfl; simp at hu
    have := hb hn b rfl
    have h3 := hc i u hu
    simp only [World.cell?] at h3 ⊢
    rw [this]; exact h3
theorem Tbl.heap {A B : World} {t : Nat} {b : Bool} (h : Tbl A t b) (e : B.heap[t]? = A.heap[t]?) : Tbl B t b := by
  unfold Tbl at h ⊢
  split at h
  · rename_i hb; rw [if_pos hb]
    obtain ⟨cs, h1, h2⟩ := h
    exact ⟨cs, e.trans h1, h2⟩
  · rename_i hb; rw [if_neg hb]
    obtain ⟨cs, h1, h2⟩ := h
    exact ⟨cs, e.trans h1, h2⟩
theorem EachSt.keptX {p q t n0 ib : Nat} {v : Value} {bs : List UInt8} {A B : World} (h : EachSt p q t v bs A) (hk : KeptX n0 ib A B)
    (hp : p < n0 ∧ p ≠ ib) (hq : q < n0 ∧ q ≠ ib) (ht : t < n0 ∧ t ≠ ib) (hv : bs ≠ [] → ∀ k, v.ownBlock = some k → k < n0 ∧ k ≠ ib) : EachSt p q t v bs B :=
  ⟨(hk.2 p hp.1 hp.2).trans h.1, (hk.2 q hq.1 hq.2).trans h.2.1, h.2.2.1.heap (fun hn k e => hk.2 k (hv hn k e).1 (hv hn k e).2), h.2.2.2.heap (hk.2 t ht.1 ht.2)⟩

theorem unf_le {bs p : List UInt8} {k : Nat} {x : Int} (h : unf bs = (p, k, x)) : k ≤ bs.length ∧ (x = 0 → 5 ≤ k) := by
  rcases unf_cases bs with ⟨_, hu⟩ | ⟨q, f, k', hsp, ⟨hm, hu⟩ | ⟨hm, hu⟩⟩ <;> (rw [hu] at h; simp only [Prod.mk.injEq] at h; obtain ⟨rfl, rfl, rfl⟩ := h)
  · exact ⟨Nat.zero_le _, fun h => by simp at h⟩
  · obtain ⟨n, m, hrd, h1, h2, h3, h4, h5, h6⟩ := sp_some hsp
    have := once_uint hrd
    have h7 := Lib.uvarint_pos n
    rw [this.1, List.length_take] at h7
    exact ⟨by omega, fun _ => by omega⟩
  · exact ⟨Nat.zero_le _, fun h => by simp at h⟩

set_option maxHeartbeats 8000000 in
theorem each2_tells (n : Nat) (p q t r n0 ib : Nat) (a : Option Addr) (c : Nat) (bs : List UInt8) (w : World) (hw : EachSt p q t (.slice a bs.length c) bs w)
    (hp : p < n0 ∧ p ≠ ib) (hq : q < n0 ∧ q ≠ ib) (ht : t < n0 ∧ t ≠ ib) (hv : bs ≠ [] → ∀ k, (Value.slice a bs.length c).ownBlock = some k → k < n0 ∧ k ≠ ib) (hlim : bs.length ≤ 140737488355328) (hcap : bs.length ≤ c) :
    Tells Fence.wide (n + 3) Try.prog 97 #[.pointer (some ⟨p, 0, none⟩), .pointer (some ⟨q, 0, none⟩)] tEnc (tOk bs) r n0 ib (tAll bs) (fun _ _ => True) w := by
  intro l J Jx W hkx hn0 hJ hJx hY h0
  have hst := hw.keptX hkx hp hq ht hv
  clear hw hkx
  refine callsIn_of_wp Try.func97 rfl trivial ?_ rfl
  simp only [Try.ntmps97, List.size_toArray, List.length_cons, List.length_nil, Nat.reduceAdd, Nat.reduceSub, Array.replicate_succ, Array.replicate_zero, List.push_toArray, List.append_toArray, List.nil_append, List.cons_append]
  gi_wp2
  gi_loopw [4] (fun va wr => ∃ (pre : List Told) (k f : Nat), va = .int .i64 (k : Int) ∧ k ≤ bs.length ∧ bs.length - k < f ∧ frs bs = pre.map (fun x => (x.1, x.2.1)) ++ frsN f k (bs.drop k) ∧ J pre wr ∧ EachSt p q t (.slice a bs.length c) bs wr ∧ n0 ≤ wr.heap.size) (fun va _ => bs.length - (RowKit.intOf va).toNat)
  case atStart => exact ⟨[], 0, bs.length + 1, rfl, Nat.zero_le _, by omega, rfl, h0, hst, hn0⟩
  case round =>
    clear h0 hst hn0
    obtain ⟨pre, k, f, rfl, hk, hf, hfr, hj, hst, hn0⟩ := hrel
    obtain ⟨pl, m, x, hun⟩ : ∃ p1 k1 x1, unf (bs.drop k) = (p1, k1, x1) := ⟨_, _, _, rfl⟩
    obtain ⟨a', hcut, hcr⟩ := run_cut_from a bs.length c k hcap hk
    have hc9 := hst.1.cell
    have hc10 := hst.2.1.cell
    have hcall := fun W1 (h : EachSt p q t (.slice a bs.length c) bs W1) => Unframe_done t a' _ _ (bs.drop k) pl m x W1 h.2.2.2 (hcr W1 bs h.2.2.1) (by simp; omega) hun
    clear hcr
    by_cases hx : x = 0
    · subst hx
      have hm := unf_le hun
      rw [List.length_drop] at hm
      have hm5 := hm.2 rfl
      have hmk := hm.1
      obtain ⟨f', rfl⟩ : ∃ f', f = f' + 1 := ⟨f - 1, by omega⟩
      have hfr2 : frs bs = (pre ++ [((k, pl, Value.nilFunc) : Told)]).map (fun x => (x.1, x.2.1)) ++ frsN f' (k + m) (bs.drop (k + m)) := by
        rw [hfr, frsN, hun]
        simp [List.drop_drop]
      have hget : (frs bs)[pre.length]? = some (k, pl) := by rw [hfr2]; simp
      replace hfr2 := Lib.hid hfr2
      have hget2 := Lib.hid hget
      clear hm hun hfr hget
      gi_wp2_with fail
      gi_region_with (refine ⟨trivial, ?_⟩; gi_at_call 61; refine (callsIn_wide.2 (hcall _ (hst.new (gdrew (World.grownBy.refl _ _))))).mono ?_; rintro e W2 ⟨v2, rfl, ho2, hg2, hT2⟩)
      all_goals
        have hgW : wr.grownBy W2 none := ⟨hg2.os, hg2.tape, hg2.output, hg2.size, hg2.block⟩
        obtain ⟨fn, tmps, assign, body, hy, hR⟩ := hY pre (k, pl, v2) W2 (hJ _ _ _ hj (gbut hgW _)) ⟨ho2.reads, hget2.out⟩ (Nat.le_trans hn0 hgW.size)
        dsimp only [tEnc] at hy
        have hst2 := hst.new hgW
        gi_wp2
      all_goals
        refine hR.mono ?_
        rintro e3 W3 (⟨rfl, hj3, hk3⟩ | ⟨rfl, hj3, hk3⟩)
      all_goals gi_wp2
      all_goals first
        | exact ⟨⟨pre ++ [(k, pl, v2)], k + m, f', by go_num, by omega, by omega, by rw [hfr2.out]; simp, hj3, hst2.keptX hk3 hp hq ht hv, Nat.le_trans hn0 (Nat.le_trans hgW.size hk3.1)⟩, by simp [RowKit.intOf]; omega⟩
        | (refine bodyPost_ret (results_none rfl _ _ _) rfl ?_; exact ⟨⟨_, rfl⟩, .inr ⟨_, trivial, hj3⟩⟩)
        | (go_end0; exact ⟨⟨_, rfl⟩, .inr ⟨_, trivial, hj3⟩⟩)
    · have hx1 : (x != 0) = true := by simpa using hx
      obtain ⟨f', rfl⟩ : ∃ f', f = f' + 1 := ⟨f - 1, by omega⟩
      have hdone : tAll bs pre wr := by
        unfold tAll
        rw [hfr, frsN, hun, if_neg hx, List.append_nil]
      clear hun hfr hx
      gi_wp2_with fail
      gi_region_with (refine ⟨trivial, ?_⟩; gi_at_call 61; refine (callsIn_wide.2 (hcall _ (hst.new (gdrew (World.grownBy.refl _ _))))).mono ?_; rintro e W2 ⟨v2, rfl, ho2, hg2, hT2⟩)
      all_goals
        have hgW : wr.grownBy W2 none := ⟨hg2.os, hg2.tape, hg2.output, hg2.size, hg2.block⟩
        gi_wp2
        refine ⟨fun _ h => (by cases h), ?_⟩
        gi_wp2
      all_goals first
        | (refine bodyPost_ret (results_none rfl _ _ _) rfl ?_; exact ⟨⟨_, rfl⟩, .inl ⟨pre, hdone, hJ _ _ _ hj (gbut hgW _)⟩⟩)
        | (go_end0; exact ⟨⟨_, rfl⟩, .inl ⟨pre, hdone, hJ _ _ _ hj (gbut hgW _)⟩⟩)
end Go.Proofs.Ytilbccjgaaembaa
