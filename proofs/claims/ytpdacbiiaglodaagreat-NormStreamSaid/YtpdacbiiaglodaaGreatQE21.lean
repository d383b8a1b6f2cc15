/-
  LAYER 6 (norm): normalisation data in memory with the blocks that they lean on; what they tell, whoever made them.
-/
import Derived.Test.YtpdacbiiaglodaaGreatQE20
namespace Go.Proofs.YtpdacbiiaglodaaGreat
set_option maxRecDepth 100000
open Go.RowKit Go.Lib

/-- The map of full decompositions and all that it leads to lie in F. -/
def FullF (F : Nat → Prop) (d : List Dec) (w : World) (n m : Nat) : Prop :=
  F m ∧ ∃ l : List (Dec × Value), l.map (·.1) = d ∧ Ents w m (l.map fun p => (p.1.1, p.2)) ∧ ∀ p ∈ l, Runes (n + 1) w p.2 (whl d 4 p.1) ∧ ∀ k, p.2.ownBlock = some k → F k
/-- Loaded data whose blocks all lie in F. -/
def NrmF (w : World) (n : Nat) (c : List Cls) (d : List Dec) (dn : Bool) (F : Nat → Prop) : Prop :=
  ∃ vc vd mv, Dat w vc vd c d ∧ (c ≠ [] → ∀ k, vc.ownBlock = some k → k < n ∧ F k) ∧ (d ≠ [] → ∀ k, vd.ownBlock = some k → k < n ∧ F k) ∧ NormsAt w n (if dn = true then 1 else 0) 0 vc vd mv ∧ F n ∧ (dn = false → mv = none) ∧
    (dn = true → ∃ m, mv = some m ∧ n < m ∧ FullF F d w n m) ∧ ∀ k, F k → k < w.heap.size
theorem NrmF.nrm {w : World} {n : Nat} {c : List Cls} {d : List Dec} {dn : Bool} {F : Nat → Prop} (h : NrmF w n c d dn F) : Nrm w n c d dn := by
  obtain ⟨vc, vd, mv, h1, h2, h3, h4, _, h5, h6, _⟩ := h
  refine ⟨vc, vd, mv, h1, fun a k e => (h2 a k e).1, fun a k e => (h3 a k e).1, h4, h5, fun e => ?_⟩
  obtain ⟨m, q1, q2, _, l, q3, q4, q5⟩ := h6 e
  exact ⟨m, q1, q2, l, q3, q4, fun p hp => (q5 p hp).1⟩
theorem Runes.heap {B : Nat} {w w' : World} {v : Value} {l : List Int} (h : Runes B w v l) (hk : ∀ k, v.ownBlock = some k → w'.heap[k]? = w.heap[k]?) : Runes B w' v l := by
  obtain ⟨b, cap, rfl, hB, hl, h1, h2, h3⟩ := h
  have := hk b rfl
  exact ⟨b, cap, rfl, hB, hl, h1, h2, fun i u hu => by have := h3 i u hu; simp only [World.cell?] at this ⊢; rw [hk b rfl]; exact this⟩
theorem Ents.heap {w w' : World} {B : Nat} {l : List (Int × Value)} (h : Ents w B l) (hk : w'.heap[B]? = w.heap[B]?) : Ents w' B l := by
  obtain ⟨es, cl, hb, he⟩ := h
  exact ⟨es, cl, hk.trans hb, he⟩
/-- They hold on in every world that has the same in F. -/
theorem NrmF.keep {w w' : World} {n : Nat} {c : List Cls} {d : List Dec} {dn : Bool} {F : Nat → Prop} (h : NrmF w n c d dn F) (hk : ∀ k, F k → w'.heap[k]? = w.heap[k]?) (hs : w.heap.size ≤ w'.heap.size) : NrmF w' n c d dn F := by
  obtain ⟨vc, vd, mv, h1, h2, h3, h4, h5, h6, h7, h8⟩ := h
  refine ⟨vc, vd, mv, ⟨h1.1.heap fun a k e => hk k (h2 a k e).2, h1.2.heap fun a k e => hk k (h3 a k e).2⟩, h2, h3, (hk n h5).trans h4, h5, h6, fun e => ?_, fun k hf => Nat.lt_of_lt_of_le (h8 k hf) hs⟩
  obtain ⟨m, q1, q2, q3, l, q4, q5, q6⟩ := h7 e
  exact ⟨m, q1, q2, q3, l, q4, q5.heap (hk m q3), fun p hp => ⟨(q6 p hp).1.heap fun k e => hk k ((q6 p hp).2 k e), (q6 p hp).2⟩⟩
theorem NrmF.grown {w w' : World} {n : Nat} {c : List Cls} {d : List Dec} {dn : Bool} {F : Nat → Prop} {q : Option Nat} (h : NrmF w n c d dn F) (hg : w.grownBy w' q) (hq : ∀ k, q = some k → ¬ F k) : NrmF w' n c d dn F := by
  have hb := h
  obtain ⟨_, _, _, _, _, _, _, _, _, _, h8⟩ := hb
  exact h.keep (fun k hf => hg.block k (h8 k hf) (fun e => hq k e.symm hf)) hg.size
theorem NrmF.lt {w : World} {n : Nat} {c : List Cls} {d : List Dec} {dn : Bool} {F : Nat → Prop} (h : NrmF w n c d dn F) : ∀ k, F k → k < w.heap.size := by
  obtain ⟨_, _, _, _, _, _, _, _, _, _, h8⟩ := h
  exact h8
/-- Fresh data: what lies behind block n is none of theirs. -/
theorem Nrm.foot {w : World} {n : Nat} {c : List Cls} {d : List Dec} (h : Nrm w n c d false) : NrmF w n c d false (fun k => k ≤ n) := by
  obtain ⟨vc, vd, mv, h1, h2, h3, h4, h5, h6⟩ := h
  exact ⟨vc, vd, mv, h1, fun a k e => ⟨h2 a k e, Nat.le_of_lt (h2 a k e)⟩, fun a k e => ⟨h3 a k e, Nat.le_of_lt (h3 a k e)⟩, h4, Nat.le_refl _, h5, (fun e => by cases e), fun k hk => Nat.lt_of_le_of_lt hk h4.lt⟩

theorem nDo_f (n : Nat) (c : List Cls) (d : List Dec) (dn : Bool) (F : Nat → Prop) (w : World) (h : NrmF w n c d dn F) (hgd : good c d = true) :
    Calls Tryz.prog 49 #[.pointer (some ⟨n, 3, none⟩), .func (.func 50) #[.pointer (some ⟨n, 0, none⟩)] #[]] w fun e w' => e = .returned (.tuple #[]) ∧ w.grownBy w' (some n) ∧ ∃ F' : Nat → Prop, (∀ k, F k → F' k) ∧ (∀ k, F' k → F k ∨ w.heap.size ≤ k) ∧ NrmF w' n c d true F' := by
  have h0 := h
  obtain ⟨vc, vd, mv, h1, h2, h3, h4, h5, h6, h7, h8⟩ := h
  cases dn with
  | false =>
    obtain rfl := h6 rfl
    refine (ndo_first n vc vd c d w h4 h1 hgd (fun a k e => by have := (h2 a k e).1; omega) (fun a k e => by have := (h3 a k e).1; omega)).mono ?_
    rintro e w' ⟨rfl, hg, m, hm, hN, hF⟩
    have hl := h4.lt
    obtain ⟨l, q1, q2, q3⟩ := hF
    refine ⟨rfl, hg, fun k => F k ∨ (w.heap.size ≤ k ∧ k < w'.heap.size), fun k hk => .inl hk, fun k hk => hk.imp id And.left, vc, vd, some m, ⟨h1.1.heap fun a k e => hg.block k (h1.1.lt a k e) (by simp; have := (h2 a k e).1; omega), h1.2.heap fun a k e => hg.block k (h1.2.lt a k e) (by simp; have := (h3 a k e).1; omega)⟩, fun a k e => ⟨(h2 a k e).1, .inl (h2 a k e).2⟩, fun a k e => ⟨(h3 a k e).1, .inl (h3 a k e).2⟩, hN, .inl h5, (fun e => by cases e), fun _ => ⟨m, rfl, by omega, ?_, l, q1, q2, fun p hp => ?_⟩, ?_⟩
    · refine .inr ⟨hm, ?_⟩
      obtain ⟨es, cl, hb, _⟩ := q2
      exact (Array.getElem?_eq_some_iff.1 hb).1
    · have hr := q3 p hp
      refine ⟨by obtain ⟨b, cap, r1, r2, r3⟩ := hr; exact ⟨b, cap, r1, by omega, r3⟩, fun k e => ?_⟩
      obtain ⟨b, cap, r1, r2, r3, r4, r5, r6⟩ := hr
      rw [r1] at e
      simp [Value.ownBlock] at e
      subst e
      obtain ⟨u, t, hu⟩ := List.exists_cons_of_ne_nil r3
      exact .inr ⟨r2, World.block_lt_of_cell? w' _ (r6 0 u (by rw [hu]; rfl))⟩
    · rintro k (hk | ⟨_, hk⟩)
      · exact Nat.lt_of_lt_of_le (h8 k hk) hg.size
      · exact hk
  | true =>
    refine (ndo_done n 0 vc vd mv _ w h4).mono ?_
    rintro e w' ⟨rfl, rfl⟩
    exact ⟨rfl, World.grownBy.refl _ _, F, fun _ h => h, fun _ h => .inl h, h0⟩

set_option maxHeartbeats 4000000 in
theorem nDecomp_f (n : Nat) (c : List Cls) (d : List Dec) (dn : Bool) (F : Nat → Prop) (r : Int) (w : World) (h : NrmF w n c d dn F) (hgd : good c d = true) :
    Calls Tryz.prog 14 #[.pointer (some ⟨n, 0, none⟩), .int .i32 r] w fun e w' => ∃ v, e = .returned v ∧ Runes w.heap.size w' v (told' d r) ∧ w.grownBy w' (some n) ∧ ∃ F' : Nat → Prop, (∀ k, F k → F' k) ∧ (∀ k, F' k → F k ∨ w.heap.size ≤ k) ∧ NrmF w' n c d true F' := by
  have hm := nIsMade n true w h.nrm.made
  have hmf : ∀ (fn : Fn) (first cap : Array Value) (w : World), (Instr.makeFunc fn first cap).run Tryz.prog w = .ok (.func fn first cap) w := fun _ _ _ _ => rfl
  have hD := nDo_f n c d dn F w h hgd
  clear h
  refine Calls.mono (R := fun e w' => ∃ v, e = .returned v ∧ (∃ w2, w.grownBy w2 (some n) ∧ (∃ F' : Nat → Prop, (∀ k, F k → F' k) ∧ (∀ k, F' k → F k ∨ w.heap.size ≤ k) ∧ NrmF w2 n c d true F') ∧ w2.grownBy w' none ∧ Runes w2.heap.size w' v (told' d r))) ?_ ?_
  · cases hs : stp d r with
    | none =>
      have ht : told' d r = byR r := by unfold told'; rw [hs]
      have hB := fun w => byRule_any r w
      have hbn := byR_ne r
      rw [ht]
      go_enter Tryz.func14, Tryz.ntmps14
      go_wp2_with (first
        | (go_at_call 48; refine hm.mono ?_; rintro e w' ⟨rfl, rfl⟩)
        | (go_at_call 49; refine hD.mono ?_; rintro e w2 ⟨rfl, hg2, hN0⟩; have hN2 : Nrm w2 n c d true := (by obtain ⟨_, _, _, h⟩ := hN0; exact h.nrm); replace hN0 := Lib.hid hN0; obtain ⟨vc, vd, mv, h1, h2, h3, h4, h5, h6⟩ := hN2; obtain ⟨m, rfl, hnm, hF⟩ := h6 rfl; obtain ⟨es, hes, hlk⟩ := hF.look; have k6 := h4.full; have hrun := run_lookup_ents (P := Tryz.prog) (t := 46) Tryz.underlying46 Tryz.underlying21 zeroRunes hes r; replace hlk := hlk r; rw [hs] at hlk; simp only at hlk; rw [hlk] at hrun; rw [Option.getD_none, Option.isSome_none] at hrun; clear h1 h2 h3 h4 h5 h6 hF hes hlk)
        | (go_at_call 52; refine (hB _).mono ?_; rintro e w3 ⟨v3, rfl, hR3, hg3⟩))
      go_ret
      exact ⟨_, rfl, _, hg2, hN0.out, hg3, hR3.runes hbn⟩
    | some x =>
      have ht : told' d r = whl d 4 x := by unfold told'; rw [hs]
      have hlen := told_length d r
      rw [ht] at hlen
      have hCp := fun v w h => ncopied_any (n + 1) v (whl d 4 x) w h (by omega)
      rw [ht]
      go_enter Tryz.func14, Tryz.ntmps14
      go_wp2_with (first
        | (go_at_call 48; refine hm.mono ?_; rintro e w' ⟨rfl, rfl⟩)
        | (go_at_call 49; refine hD.mono ?_; rintro e w2 ⟨rfl, hg2, hN0⟩; have hN2 : Nrm w2 n c d true := (by obtain ⟨_, _, _, h⟩ := hN0; exact h.nrm); replace hN0 := Lib.hid hN0; obtain ⟨vc, vd, mv, h1, h2, h3, h4, h5, h6⟩ := hN2; obtain ⟨m, rfl, hnm, hF⟩ := h6 rfl; obtain ⟨es, hes, hlk⟩ := hF.look; have k6 := h4.full; have hrun := run_lookup_ents (P := Tryz.prog) (t := 46) Tryz.underlying46 Tryz.underlying21 zeroRunes hes r; replace hlk := hlk r; rw [hs] at hlk; simp only at hlk; obtain ⟨vv, hlk, hRR⟩ := hlk; rw [hlk] at hrun; rw [Option.getD_some, Option.isSome_some] at hrun; clear h1 h2 h3 h4 h5 h6 hF hes hlk)
        | (go_at_call 51; refine (hCp _ _ hRR).mono ?_; rintro e w3 ⟨v3, rfl, hR3, hg3⟩))
      go_ret
      exact ⟨_, rfl, _, hg2, hN0.out, hg3, hR3⟩
  · rintro e w' ⟨v, rfl, w2, q1, ⟨F', f1, f2, f3⟩, q3, q4⟩
    obtain ⟨b, cap, s1, s2, s3⟩ := q4
    exact ⟨_, rfl, ⟨b, cap, s1, Nat.le_trans q1.size s2, s3⟩, q1.trans (gbut q3 _), F', f1, f2, f3.grown q3 (by simp)⟩

/-! ### Whoever made them -/
/-- Data at p, of classes cf and full decompositions df, whose blocks lie in F. -/
def ND (p : Value) (cf : Int → Int) (df : Int → List Int) (F : Nat → Prop) (w : World) : Prop :=
  (p = .pointer none ∧ cf = (fun _ => 0) ∧ df = (fun r => [r]) ∧ ∀ k, F k → k < w.heap.size) ∨ ∃ n c d dn, p = .pointer (some ⟨n, 0, none⟩) ∧ NrmF w n c d dn F ∧ good c d = true ∧ cf = clsOf c ∧ df = told' d
section
variable {p : Value} {cf : Int → Int} {df : Int → List Int} {F : Nat → Prop} {w w' : World} {q : Option Nat}
theorem ND.lt (h : ND p cf df F w) : ∀ k, F k → k < w.heap.size := by
  rcases h with ⟨_, _, _, h⟩ | ⟨n, c, d, dn, _, h, _⟩
  · exact h
  · exact h.lt
theorem ND.grown (h : ND p cf df F w) (hg : w.grownBy w' q) (hq : ∀ k, q = some k → ¬ F k) : ND p cf df F w' := by
  rcases h with ⟨h1, h2, h3, h4⟩ | ⟨n, c, d, dn, h1, h2, h3⟩
  · exact .inl ⟨h1, h2, h3, fun k hk => Nat.lt_of_lt_of_le (h4 k hk) hg.size⟩
  · exact .inr ⟨n, c, d, dn, h1, h2.grown hg hq, h3⟩
theorem ND.new (h : ND p cf df F w) (hg : w.grownBy w' none) : ND p cf df F w' := h.grown hg (by simp)
theorem nd_class (r : Int) (h : ND p cf df F w) : Calls Tryz.prog 15 #[p, .int .i32 r] w fun e w' => e = .returned (.int .i64 (cf r)) ∧ w.grownBy w' none := by
  rcases h with ⟨rfl, rfl, rfl, _⟩ | ⟨n, c, d, dn, rfl, h, hg, rfl, rfl⟩
  · refine (nClass_none _ r w (nIsMade_nil w)).mono ?_
    rintro e w' ⟨rfl, rfl⟩
    exact ⟨rfl, World.grownBy.refl _ _⟩
  · exact nClass_any n c d dn r w h.nrm hg
theorem nd_starter (r : Int) (h : ND p cf df F w) : Calls Tryz.prog 16 #[p, .int .i32 r] w fun e w' => e = .returned (.bool (cf r == 0)) ∧ w.grownBy w' none :=
  nStarter_of p r (cf r) w (nd_class r h)
theorem nDecomp_nil (r : Int) (w : World) :
    Calls Tryz.prog 14 #[.pointer none, .int .i32 r] w fun e w' => ∃ v, e = .returned v ∧ Runes w.heap.size w' v [r] ∧ w.grownBy w' none := by
  have hm := nIsMade_nil w
  go_enter Tryz.func14, Tryz.ntmps14
  go_wp2_with (go_at_call 48; refine hm.mono ?_; rintro e w' ⟨rfl, rfl⟩)
  go_ret
  refine ⟨_, rfl, ⟨w.heap.size, 1, rfl, Nat.le_refl _, by simp, by simp, by unfold maxLen; omega, fun i u hu => ?_⟩, World.grownBy_alloc w _ none⟩
  have hn := World.alloc_heap_new w (.cells #[.int .i32 r] 21)
  cases i with
  | zero => simp at hu; subst hu; simp only [World.cell?, hn]; rfl
  | succ i => simp at hu
theorem nd_decomp (r : Int) (h : ND p cf df F w) : Calls Tryz.prog 14 #[p, .int .i32 r] w fun e w' => ∃ v, e = .returned v ∧ Runes w.heap.size w' v (df r) ∧ (∃ q, w.grownBy w' q ∧ ∀ k, q = some k → F k ∧ p = .pointer (some ⟨k, 0, none⟩)) ∧ ∃ F' : Nat → Prop, (∀ k, F k → F' k) ∧ (∀ k, F' k → F k ∨ w.heap.size ≤ k) ∧ ND p cf df F' w' := by
  rcases h with ⟨rfl, rfl, rfl, hk⟩ | ⟨n, c, d, dn, rfl, h, hg, rfl, rfl⟩
  · refine (nDecomp_nil r w).mono ?_
    rintro e w' ⟨v, rfl, h1, h2⟩
    exact ⟨v, rfl, h1, ⟨none, h2, by simp⟩, F, fun _ h => h, fun _ h => .inl h, .inl ⟨rfl, rfl, rfl, fun k h => Nat.lt_of_lt_of_le (hk k h) h2.size⟩⟩
  · have hn : F n := by obtain ⟨_, _, _, _, _, _, _, h5, _⟩ := h; exact h5
    refine (nDecomp_f n c d dn F r w h hg).mono ?_
    rintro e w' ⟨v, rfl, h1, h2, F', f1, f2, f3⟩
    exact ⟨v, rfl, h1, ⟨some n, h2, fun k e => by cases e; exact ⟨hn, rfl⟩⟩, F', f1, f2, .inr ⟨n, c, d, true, rfl, f3, hg, rfl, rfl⟩⟩
end
end Go.Proofs.YtpdacbiiaglodaaGreat
