/-
  LAYER 2 (codec): Each and At of a reader; the sum of lengths.
-/
import Derived.Test.YtilbccjgaaembaaCSame
import Derived.Test.YtilbccjgaaembaaCShort
import Derived.OwnWalkIn
import Derived.LoopNIn
import Derived.Shelf.Abstract
import Derived.Shelf.RegionOpen
namespace Go.Proofs.Ytilbccjgaaembaa
set_option maxRecDepth 100000
open Go.RowKit Go.Lib
attribute [local go_sem] Oper.semAt_some

set_option maxRecDepth 100000 in
set_option maxHeartbeats 1000000 in
theorem rEach_any (r : Nat) (w : World) :
    Calls Try.prog 35 #[.pointer (some ⟨r, 0, none⟩)] w fun e w' => e = .returned (.func (.func 85) #[] #[.pointer (some ⟨w.heap.size, 0, none⟩)]) ∧ Boxed w' w.heap.size 58 (.pointer (some ⟨r, 0, none⟩)) ∧ w.grownBy w' none := by
  have hmf : ∀ (fn : Fn) (first cap : Array Value) (w : World), (Instr.makeFunc fn first cap).run Try.prog w = .ok (.func fn first cap) w := fun _ _ _ _ => rfl
  go_enter Try.func35, Try.ntmps35
  go_wp2
  go_ret
  exact ⟨rfl, Boxed.new w _ _, World.grownBy_alloc w _ none⟩

/-- The lengths' sum. -/
def lens (L : List (List UInt8)) : Nat := (L.map List.length).sum
theorem lens_take {L : List (List UInt8)} {i : Nat} (h : i < L.length) : lens (L.take (i + 1)) = lens (L.take i) + L[i].length := by
  unfold lens
  rw [List.take_add_one, List.getElem?_eq_getElem h, List.map_append, List.sum_append]
  simp only [Option.toList_some, List.map_cons, List.map_nil, List.sum_cons, List.sum_nil, Nat.add_zero]
theorem lens_take_le (L : List (List UInt8)) (i : Nat) : lens (L.take i) ≤ lens L := by
  have h : lens L = lens (L.take i) + lens (L.drop i) := by
    unfold lens
    rw [← List.sum_append, ← List.map_append, List.take_append_drop]
  omega
theorem lens_mem {L : List (List UInt8)} {f : List UInt8} (h : f ∈ L) : f.length ≤ lens L := by
  induction L with
  | nil => cases h
  | cons g L ih =>
    have e : lens (g :: L) = g.length + lens L := by simp [lens]
    rcases List.mem_cons.1 h with rfl | h
    · omega
    · have := ih h; omega
theorem lens_le (L : List (List UInt8)) (h : ∀ f ∈ L, f.length ≤ 140737488351232) : lens L ≤ L.length * 140737488351232 := by
  induction L with
  | nil => simp [lens]
  | cons f L ih =>
    have h1 := ih (fun g hg => h g (List.mem_cons_of_mem _ hg))
    have h2 := h f (List.mem_cons_self ..)
    have e : lens (f :: L) = f.length + lens L := by simp [lens]
    rw [e, List.length_cons]
    omega
theorem lens_fields (L : List (List UInt8)) (h : ∀ f ∈ L, f.length ≤ 1048576) : ((L.map field).flatten).length ≤ lens L + 10 * L.length := by
  induction L with
  | nil => simp [lens]
  | cons f L ih =>
    have h1 := ih (fun g hg => h g (List.mem_cons_of_mem _ hg))
    have h2 := h f (List.mem_cons_self ..)
    have hu : (Lib.uvarint f.length).length ≤ 10 := ulen_le (by omega)
    simp only [List.map_cons, List.flatten_cons, List.length_append, List.length_cons, lens, List.sum_cons] at h1 ⊢
    have : (field f).length = (Lib.uvarint f.length).length + f.length := by unfold field; rw [List.length_append]
    omega

/-- 'append(out, f...)' at bytes, inside a fence. -/
theorem wpListIn_app {F : Fence} {n : Nat} {P : Program} (w : World) {ops : Array Oper} {rest : List Oper} {o : Oper} {a : Act} {Q : Exit → Act → World → Prop} (hgd : o.guard = none) (s x : Operand) (t : TypeId)
    (ho : o.op = .call { callee := .builtin .append, args := #[s, x], argTypes := #[t, t] })
    (base : Nat) (e : TypeId) (i : TypeInfo) (ht : P.underlying t = some (.slice e)) (hi : P.info? e = some i) (hz : i.zero = some (.int .u8 0)) (hsize : i.size = 1) (hby : i.bytes = 1)
    (v : Value) (bs : List UInt8) (hs : a.eval s = v) (hown : Owns w base e v bs) (xv : Value) (f : List UInt8) (hx : a.eval x = xv) (hr : Reads w xv f)
    (hlim : bs.length + f.length ≤ 140737488355328) (hbase : base ≤ w.heap.size)
    (h : ∀ v' w', Owns w' base e v' (bs ++ f) → w.grownBy w' v.ownBlock → wpListIn F n P ops Q rest (a.put o.dst v') w') : wpListIn F n P ops Q (o :: rest) a w := by
  have hr0 := hr
  rcases hr with ⟨rfl, rfl⟩ | ⟨b, off, cap, rfl, _, _, _⟩
  · refine wpListIn_plain hgd fun K hK => ?_
    have hrun := run_append_owned_none (P := P) w base t o.type e i 1 ht hi v _ _ hown
    unfold Oper.wpIn
    refine ⟨?_, ?_⟩
    · simp [Oper.about, ho, resolve, Target.leads, Sem.run_pure]
    · rw [Oper.semAt_plain F _ _ (by rw [ho]; intro c hc'; cases hc')]
      simp [execOp, ho, resolve, invoke, builtin, hs, hx, hrun, Result.andThen]
      exact hK _ _ (h v w (by simpa using hown) (World.grownBy.refl _ _))
  · refine wpListIn_append_own w hgd s x t ho base e i (.int .u8 0) 1 1 ht hi hz hsize hby rfl (by decide) v bs.length (byteCells bs) hs hown ⟨b, off, none⟩ f.length cap (byteCells f) hx (by rw [byteCells_len]; omega) hr0.cells (byteCells_one f) (by unfold maxLen; omega) (by omega) hbase fun v' w' h2 h3 _ => h v' w' ?_ h3
    unfold Owns
    rw [byteCells_append, List.length_append]
    exact h2

/-- What a round leaves of the elder blocks: all but two. -/
def KeptRI (n0 r ib : Nat) (A B : World) : Prop := A.heap.size ≤ B.heap.size ∧ ∀ k, k < n0 → k ≠ r → k ≠ ib → B.heap[k]? = A.heap[k]?

theorem fOk_kept (L : List (List UInt8)) (pre : List FTold) (x : FTold) (A B : World) (k : Nat) (o : Obj) (h : fOk L pre x A) (hg : A.grownBy B (some k)) (hk : A.heap[k]? = some o) (ho : o.isCells = false) : fOk L pre x B := by
  refine ⟨?_, h.2⟩
  rcases h.1 with h1 | ⟨b, off, cap, e, h2, h3, hc⟩
  · exact .inl h1
  · refine .inr ⟨b, off, cap, e, h2, h3, fun i u hu => ?_⟩
    have hcell := hc i u hu
    refine hg.cell hcell ?_
    rintro e
    simp only [Option.some.injEq] at e
    subst e
    simp only [World.cell?, hk] at hcell
    cases o <;> simp_all [Obj.isCells]

theorem eq_nilFuncC (w : World) (p : Option Addr) : (binOp .eql 61 (.func (.func 85) #[] #[.pointer p]) .nilFunc).run Try.prog w = .ok (.bool false) w := by rfl
end Go.Proofs.Ytilbccjgaaembaa
