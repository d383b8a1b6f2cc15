/-
  LAYER 9 (trie): ARGUMENTS OF A LAW, OPENED: slices of entries, of code points that came in.
-/
import Derived.Test.YtnnijcafnhhnoaaTRunes
import Derived.Deep.SlicePairs
import Derived.Deep.Matrix
import Derived.OpenShut
import Derived.ProofKit
namespace Go.Proofs.Ytnnijcafnhhnoaa
set_option maxRecDepth 100000
open Go.ChangeShapes Go.WideShapes Go.ChangeAt Go.RowKit

/-- A slice whose elements' cells are known one by one. -/
theorem sr_of_cells {w : World} {k : Nat} {a : Addr} {n c : Nat} {cs : List Value} (hk : 0 < k) (hl : cs.length = n * k) (hc : n ≤ c) (hm : c ≤ maxLen) (h : ∀ i j, i < n → j < k → ∃ u, cs[i * k + j]? = some u ∧ w.cell? ((a.add (i * k)).add j) = some u) :
    SR (fun b => b < w.heap.size) k w (.slice (some a) n c) n cs := by
  refine ⟨hl, some a, c, rfl, hc, hm, (fun e => by cases e), fun hn => ?_⟩
  obtain ⟨u0, _, h0⟩ := h 0 0 (by omega) hk
  have hsp := World.cell?_spot h0
  obtain ⟨b, off, sp⟩ := a
  have hs : sp = none := by
    unfold Addr.add at hsp
    split at hsp <;> simp_all
  subst hs
  have e : ∀ o i, (⟨b, o, none⟩ : Addr).add i = ⟨b, o + i, none⟩ := fun o i => by unfold Addr.add; split <;> simp_all
  rw [e, e] at h0
  have hb := World.block_lt_of_cell? w _ h0
  refine ⟨b, off, rfl, hb, hb, fun m u hu => ?_⟩
  have hml : m < n * k := by rw [← hl]; exact (List.getElem?_eq_some_iff.1 hu).1
  have hd : m / k < n := Nat.div_lt_of_lt_mul (by rw [Nat.mul_comm]; exact hml)
  obtain ⟨v, h1, h2⟩ := h (m / k) (m % k) hd (Nat.mod_lt _ hk)
  have he : m / k * k + m % k = m := by rw [Nat.mul_comm]; exact Nat.div_add_mod m k
  rw [he, hu] at h1
  cases h1
  rw [e, e, Nat.add_assoc, he] at h2
  exact h2
theorem choose_list {α : Type} {n : Nat} {p : Nat → α → Prop} (h : ∀ i, i < n → ∃ x, p i x) : ∃ l : List α, l.length = n ∧ ∀ i x, l[i]? = some x → p i x := by
  induction n with
  | zero => exact ⟨[], rfl, fun i x h => by simp at h⟩
  | succ n ih =>
    obtain ⟨l, h1, h2⟩ := ih (fun i hi => h i (by omega))
    obtain ⟨x, hx⟩ := h n (by omega)
    refine ⟨l ++ [x], by simp [h1], fun i y hy => ?_⟩
    by_cases hi : i < n
    · rw [List.getElem?_append_left (by omega)] at hy
      exact h2 i y hy
    · have hin : i = n := by
        have := (List.getElem?_eq_some_iff.1 hy).1
        simp at this
        omega
      subst hin
      rw [List.getElem?_append_right (by omega), h1] at hy
      simp at hy
      subst hy
      exact hx

section
variable {H : Type} {enc : TypeId × Value → H} {W : World} {base : Nat} {sp : Nat → Bool} {held : Bool} {fuel : Nat} {cs : List Value} {x : DataW H × List MemPlace}
theorem rc_open (h : DataW.trod enc Try.prog W base sp held fuel 32 cs = some x) : ∃ v l, cs = [v] ∧ SR (fun b => b < W.heap.size) 1 W v l.length (rc l) := by
  rcases Deep.open_slice Try.underlying32 h with ⟨h0, _⟩ | ⟨a, len, cap, m, n, D, Pl, rfl, hb, hl, hm, hmm, rfl, hx⟩
  · exact ⟨_, [], h0, SR.nil _ _ _⟩
  have hlm : len ≤ m := by rw [hmm]; split <;> omega
  obtain ⟨l, hll, hl2⟩ := choose_list (α := Int) (n := len) (p := fun i z => W.cell? ((a.add (i * 1)).add 0) = some (.int .i32 z)) (fun i hi => by
    obtain ⟨cs', h1, h2⟩ := hx i (by omega)
    have ce : Try.prog.cellsOf 21 = 1 := by kernel_rfl
    rw [ce] at h1
    obtain ⟨_, hlen, hcell⟩ := World.cells?_some h1
    obtain ⟨z, e1, _, _⟩ := DataW.trod_int Try.underlying21 h2
    have h3 := hcell 0 (by omega)
    subst e1
    exact ⟨z, by simpa using h3⟩)
  subst hll
  refine ⟨_, l, rfl, sr_of_cells (by omega) (by rw [rc_len]; omega) hl hm (fun i j hi hj => ?_)⟩
  obtain rfl : j = 0 := by omega
  refine ⟨.int .i32 l[i], by simp [rc, hi], hl2 i _ (List.getElem?_eq_getElem hi)⟩
theorem ec_open (h : DataW.trod enc Try.prog W base sp held fuel 33 cs = some x) : ∃ v l, cs = [v] ∧ SR (fun b => b < W.heap.size) 4 W v l.length (ec l) := by
  rcases Deep.open_slice Try.underlying33 h with ⟨h0, _⟩ | ⟨a, len, cap, m, n, D, Pl, rfl, hb, hl, hm, hmm, rfl, hx⟩
  · exact ⟨_, [], h0, SR.nil _ _ _⟩
  have hlm : len ≤ m := by rw [hmm]; split <;> omega
  obtain ⟨l, hll, hl2⟩ := choose_list (α := El) (n := len) (p := fun i z => W.cell? ((a.add (i * 4)).add 0) = some (.int .i64 z.p) ∧ W.cell? ((a.add (i * 4)).add 1) = some (.int .i64 z.s) ∧ W.cell? ((a.add (i * 4)).add 2) = some (.int .i64 z.t) ∧ W.cell? ((a.add (i * 4)).add 3) = some (.bool z.v)) (fun i hi => by
    obtain ⟨cs', h1, h2⟩ := hx i (by omega)
    have ce : Try.prog.cellsOf 66 = 4 := by kernel_rfl
    rw [ce] at h1
    obtain ⟨_, hlen, hcell⟩ := World.cells?_some h1
    obtain ⟨xs, k, hk, hxy, _, hxl, hf⟩ := DataW.trod_struct Try.underlying66 h2
    have hci : Try.prog.cellsOf 3 = 1 := by kernel_rfl
    have hcb : Try.prog.cellsOf 4 = 1 := by kernel_rfl
    match xs, hxl, cs', hlen with
    | [y0, y1, y2, y3], _, [v0, v1, v2, v3], _ =>
      have g0 := hf 0 _ rfl
      have g1 := hf 1 _ rfl
      have g2 := hf 2 _ rfl
      have g3 := hf 3 _ rfl
      simp [hci, hcb] at g0 g1 g2 g3
      obtain ⟨n0, e0, _, _⟩ := DataW.trod_int Try.underlying3 g0
      obtain ⟨n1, e1, _, _⟩ := DataW.trod_int Try.underlying3 g1
      obtain ⟨n2, e2, _, _⟩ := DataW.trod_int Try.underlying3 g2
      obtain ⟨b3, e3, _⟩ := DataW.trod_bool Try.underlying4 g3
      simp at e0 e1 e2 e3
      subst e0 e1 e2 e3
      have c0 := hcell 0 (by omega)
      have c1 := hcell 1 (by omega)
      have c2 := hcell 2 (by omega)
      have c3 := hcell 3 (by omega)
      exact ⟨⟨n0, n1, n2, b3⟩, by simpa using c0, by simpa using c1, by simpa using c2, by simpa using c3⟩)
  subst hll
  refine ⟨_, l, rfl, sr_of_cells (by omega) (ec_len l) hl hm (fun i j hi hj => ?_)⟩
  obtain ⟨q0, q1, q2, q3⟩ := hl2 i _ (List.getElem?_eq_getElem hi)
  obtain ⟨r0, r1, r2, r3⟩ := ec_at l i _ (List.getElem?_eq_getElem hi)
  match j, hj with
  | 0, _ => exact ⟨_, r0, q0⟩
  | 1, _ => exact ⟨_, r1, q1⟩
  | 2, _ => exact ⟨_, r2, q2⟩
  | 3, _ => exact ⟨_, r3, q3⟩
theorem ent_open (h : DataW.trod enc Try.prog W base sp held fuel 22 cs = some x) : ∃ v L, cs = [v] ∧ EntsR (fun b => b < W.heap.size) W v L := by
  rcases Deep.open_slice Try.underlying22 h with ⟨h0, _⟩ | ⟨a, len, cap, m, n, D, Pl, rfl, hb, hl, hm, hmm, rfl, hx⟩
  · exact ⟨_, [], h0, [], rfl, SR.nil _ _ _, fun i x p h => by simp at h⟩
  have hlm : len ≤ m := by rw [hmm]; split <;> omega
  obtain ⟨l, hll, hl2⟩ := choose_list (α := (Value × Value) × Ent) (n := len) (p := fun i z => W.cell? ((a.add (i * 2)).add 0) = some z.1.1 ∧ W.cell? ((a.add (i * 2)).add 1) = some z.1.2 ∧ EntR (fun b => b < W.heap.size) W z.1.1 z.1.2 z.2) (fun i hi => by
    obtain ⟨cs', h1, h2⟩ := hx i (by omega)
    have ce : Try.prog.cellsOf 35 = 2 := by kernel_rfl
    rw [ce] at h1
    obtain ⟨_, hlen, hcell⟩ := World.cells?_some h1
    obtain ⟨xs, k, hk, hxy, _, hxl, hf⟩ := DataW.trod_struct Try.underlying35 h2
    have hc0 : Try.prog.cellsOf 32 = 1 := by kernel_rfl
    have hc1 : Try.prog.cellsOf 33 = 1 := by kernel_rfl
    match xs, hxl, cs', hlen with
    | [y0, y1], _, [v0, v1], _ =>
      have g0 := hf 0 _ rfl
      have g1 := hf 1 _ rfl
      simp [hc0, hc1] at g0 g1
      obtain ⟨u0, l0, e0, s0⟩ := rc_open g0
      obtain ⟨u1, l1, e1, s1⟩ := ec_open g1
      simp at e0 e1
      subst e0 e1
      have c0 := hcell 0 (by omega)
      have c1 := hcell 1 (by omega)
      exact ⟨((v0, v1), ⟨l0, l1⟩), by simpa using c0, by simpa using c1, s0, s1⟩)
  subst hll
  refine ⟨_, l.map (·.2), rfl, l.map (·.1), by simp, ?_, ?_⟩
  · rw [List.length_map]
    refine sr_of_cells (by omega) (by rw [pc_len, List.length_map]) hl hm (fun i j hi hj => ?_)
    obtain ⟨q0, q1, _⟩ := hl2 i _ (List.getElem?_eq_getElem hi)
    obtain ⟨r0, r1⟩ := pc_at (l.map (·.1)) i l[i].1 (by simp [hi])
    match j, hj with
    | 0, _ => exact ⟨_, r0, q0⟩
    | 1, _ => exact ⟨_, r1, q1⟩
  · intro i y p hy hp
    rw [List.getElem?_map] at hy hp
    obtain ⟨z, hz, rfl⟩ := Option.map_eq_some_iff.1 hy
    rw [hz] at hp
    simp at hp
    subst hp
    exact (hl2 i z hz).2.2
end
theorem ents_arg {H : Type} {enc : TypeId × Value → H} {W : World} {sp : Nat → Bool} {v : Value} {d : DataW H} {ps : List MemPlace} (h : DataW.Trod enc Try.prog W 0 sp true 22 v d ps) (hv : ∃ a l c, v = .slice a l c) : ∃ L, EntsR (fun b => b < W.heap.size) W v L := by
  obtain ⟨fuel, hf⟩ := h
  obtain ⟨a, l, c, rfl⟩ := hv
  obtain ⟨v', L, e, hL⟩ := ent_open hf
  simp [Value.cells] at e
  subst e
  exact ⟨L, hL⟩
theorem codes_arg {H : Type} {enc : TypeId × Value → H} {W : World} {sp : Nat → Bool} {v : Value} {d : DataW H} {ps : List MemPlace} (h : DataW.Trod enc Try.prog W 0 sp true 32 v d ps) (hv : ∃ a l c, v = .slice a l c) : ∃ l, SR (fun b => b < W.heap.size) 1 W v l.length (rc l) := by
  obtain ⟨fuel, hf⟩ := h
  obtain ⟨a, l, c, rfl⟩ := hv
  obtain ⟨v', L, e, hL⟩ := rc_open hf
  simp [Value.cells] at e
  subst e
  exact ⟨L, hL⟩
end Go.Proofs.Ytnnijcafnhhnoaa
