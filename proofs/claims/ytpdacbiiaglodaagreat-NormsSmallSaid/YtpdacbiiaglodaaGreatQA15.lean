/-
  LAYER 5 (norms): sync.Once over loaded data; what loaded data tell.
-/
import Derived.Test.YtpdacbiiaglodaaGreatQA14
import Derived.Test.YtpdacbiiaglodaaGreatQA09
import Derived.Test.YtpdacbiiaglodaaGreatQA11
import Derived.Lib.LazyBuf
import Derived.WalkSpells
namespace Go.Proofs.YtpdacbiiaglodaaGreat
set_option maxRecDepth 100000
open Go.RowKit Go.Lib

theorem Tri.set {k : IntKind} {w : World} {v : Value} {l : List (Int × Int × Int)} {n o : Nat} {u : Value} (h : Tri k w v l) (hne : l ≠ [] → ∀ q, v.ownBlock = some q → q ≠ n) : Tri k (w.setCell ⟨n, o, none⟩ u) v l :=
  h.heap fun hl q e => (gset (World.grownBy.refl w (some n)) o u).block q (h.lt hl q e) (by simpa using hne hl q e)

set_option maxHeartbeats 4000000 in
theorem nslow_any (n : Nat) (vc vd : Value) (c : List Cls) (d : List Dec) (w : World) (hN : NormsAt w n 0 0 vc vd none) (hT : Dat w vc vd c d) (hgd : good c d = true) (h1 : c ≠ [] → ∀ k, vc.ownBlock = some k → k ≠ n) (h2 : d ≠ [] → ∀ k, vd.ownBlock = some k → k ≠ n) :
    Calls Tryz.prog 88 #[.pointer (some ⟨n, 3, none⟩), .func (.func 50) #[.pointer (some ⟨n, 0, none⟩)] #[]] w fun e w' => e = .returned (.tuple #[]) ∧ w.grownBy w' (some n) ∧ ∃ m, w.heap.size ≤ m ∧ NormsAt w' n 1 0 vc vd (some m) ∧ FullAt w.heap.size d w' m d := by
  have hN1 := hN.setState 1
  have hs := hN.state
  have hf := hN.free 4
  have hl := run_call_load (P := Tryz.prog) Tryz.func128 (by kernel_rfl) (by kernel_rfl) (by kernel_rfl) .u32 (by kernel_rfl) hN1.done
  have hg1 : w.grownBy (w.setCell ⟨n, 4, none⟩ (.int .i32 1)) (some n) := gset (World.grownBy.refl _ _) _ _
  have hre := reckon_full n 1 vc vd c d _ hN1 ⟨hT.1.set h1, hT.2.set h2⟩ hgd h2
  rw [show (w.setCell ⟨n, 4, none⟩ (.int .i32 1)).heap.size = w.heap.size by simp] at hre
  have hnot : ∀ (x : Bool) (w : World), (Op.unary .not (.bool x)).run Tryz.prog w = .ok (.bool (!x)) w := fun _ _ => rfl
  have hnl := hN.lt
  go_enter_defers Tryz.func88, Tryz.ntmps88
  go_wp2_with (first | (go_at_call 129; refine (lock_free ⟨n, 4, none⟩ _ hs hf).mono ?_; rintro e w' ⟨rfl, rfl⟩) | (go_at_call 50; refine hre.mono ?_; rintro e w2 ⟨rfl, hg2, m, hm, hN2, hF2⟩) | (go_at_call 87; go_in))
  have hmn : ∀ o, w2.heap[n]? = some o → o.isCells = true := by
    intro o ho
    rw [show w2.heap[n]? = _ from hN2] at ho
    cases ho
    rfl
  refine leaves_cons (f := 131) (args := #[.pointer (some ⟨n, 3, none⟩), .bool true]) (by simp) (by simp [go_sem]) ?_
  refine (store_deferred ⟨n, 3, none⟩ _ .returning _ hN2.done (hN2.free 3)).mono ?_
  rintro e u' w'' ⟨rfl, rfl, rfl⟩
  have hN3 := (hN2.kept (gdrew (World.grownBy.refl w2 none)) (by simp)).setDone 1
  refine leaves_cons (f := 130) (args := #[.pointer (some ⟨n, 4, none⟩)]) (by simp [settle]) (by simp [go_sem]) ?_
  refine (unlock_deferred ⟨n, 4, none⟩ _ _ hN3.state (hN3.free 4)).mono ?_
  rintro e u' w'' ⟨rfl, rfl, rfl⟩
  have hN4 := hN3.setState 0
  have hg4 := gset (gset (gdrew (hg1.trans hg2)) 3 (.int .u32 1)) 4 (.int .i32 0)
  have hs1 := hg1.size
  have hF4 : FullAt w.heap.size d ((w2.drew.setCell ⟨n, 3, none⟩ (.int .u32 1)).setCell ⟨n, 4, none⟩ (.int .i32 0)) m d := by
    have g : w2.grownBy ((w2.drew.setCell ⟨n, 3, none⟩ (.int .u32 1)).setCell ⟨n, 4, none⟩ (.int .i32 0)) (some n) := gset (gset (gdrew (World.grownBy.refl w2 _)) 3 _) 4 _
    exact hF2.cells g (by omega) (by omega)
  simp [Leaves, settle, results, Tryz.results88]
  exact ⟨hg4, m, by omega, hN4, hF4⟩

set_option maxHeartbeats 4000000 in
theorem ndo_first (n : Nat) (vc vd : Value) (c : List Cls) (d : List Dec) (w : World) (hN : NormsAt w n 0 0 vc vd none) (hT : Dat w vc vd c d) (hgd : good c d = true) (h1 : c ≠ [] → ∀ k, vc.ownBlock = some k → k ≠ n) (h2 : d ≠ [] → ∀ k, vd.ownBlock = some k → k ≠ n) :
    Calls Tryz.prog 49 #[.pointer (some ⟨n, 3, none⟩), .func (.func 50) #[.pointer (some ⟨n, 0, none⟩)] #[]] w fun e w' => e = .returned (.tuple #[]) ∧ w.grownBy w' (some n) ∧ ∃ m, w.heap.size ≤ m ∧ NormsAt w' n 1 0 vc vd (some m) ∧ FullAt w.heap.size d w' m d := by
  have hl := run_call_load (P := Tryz.prog) Tryz.func128 (by kernel_rfl) (by kernel_rfl) (by kernel_rfl) .u32 (by kernel_rfl) hN.done
  have hsl := nslow_any n vc vd c d w hN hT hgd h1 h2
  have hnot : ∀ (x : Bool) (w : World), (Op.unary .not (.bool x)).run Tryz.prog w = .ok (.bool (!x)) w := fun _ _ => rfl
  clear hT hgd h1 h2
  go_enter Tryz.func49, Tryz.ntmps49
  go_wp2_with (first | (go_at_call 88; refine hsl.mono ?_; rintro e w2 ⟨rfl, hg2, hT2⟩) | (go_at_call 87; go_in))
  go_end0
  exact ⟨rfl, hg2, hT2⟩

theorem ndo_done (n : Nat) (st : Int) (vc vd : Value) (mv : Option Nat) (fv : Value) (w : World) (hN : NormsAt w n 1 st vc vd mv) :
    Calls Tryz.prog 49 #[.pointer (some ⟨n, 3, none⟩), fv] w fun e w' => e = .returned (.tuple #[]) ∧ w = w' := by
  have hl := run_call_load (P := Tryz.prog) Tryz.func128 (by kernel_rfl) (by kernel_rfl) (by kernel_rfl) .u32 (by kernel_rfl) hN.done
  have hnot : ∀ (x : Bool) (w : World), (Op.unary .not (.bool x)).run Tryz.prog w = .ok (.bool (!x)) w := fun _ _ => rfl
  go_enter Tryz.func49, Tryz.ntmps49
  go_wp2_with (go_at_call 87; go_in)
  go_end0
  exact ⟨rfl, rfl⟩

/-- Loaded data in memory: the full decompositions reckoned, or not yet. -/
def Nrm (w : World) (n : Nat) (c : List Cls) (d : List Dec) (dn : Bool) : Prop :=
  ∃ vc vd mv, Dat w vc vd c d ∧ (c ≠ [] → ∀ k, vc.ownBlock = some k → k < n) ∧ (d ≠ [] → ∀ k, vd.ownBlock = some k → k < n) ∧ NormsAt w n (if dn = true then 1 else 0) 0 vc vd mv ∧ (dn = false → mv = none) ∧ (dn = true → ∃ m, mv = some m ∧ n < m ∧ FullAt (n + 1) d w m d)
theorem Nrm.new {w w' : World} {n : Nat} {c : List Cls} {d : List Dec} {dn : Bool} (h : Nrm w n c d dn) (hg : w.grownBy w' none) : Nrm w' n c d dn := by
  obtain ⟨vc, vd, mv, h1, h2, h3, h4, h5, h6⟩ := h
  exact ⟨vc, vd, mv, h1.all hg, h2, h3, h4.kept hg (by simp), h5, fun e => by obtain ⟨m, q1, q2, q3⟩ := h6 e; exact ⟨m, q1, q2, q3.new hg⟩⟩
theorem FullAt.mono {B B' : Nat} {d pre : List Dec} {w : World} {m : Nat} (h : FullAt B d w m pre) (hB : B' ≤ B) : FullAt B' d w m pre := by
  obtain ⟨l, h1, h2, h3⟩ := h
  exact ⟨l, h1, h2, fun p hp => by obtain ⟨b, cap, q1, q2, q3⟩ := h3 p hp; exact ⟨b, cap, q1, Nat.le_trans hB q2, q3⟩⟩

theorem nDo_any (n : Nat) (c : List Cls) (d : List Dec) (dn : Bool) (w : World) (h : Nrm w n c d dn) (hgd : good c d = true) :
    Calls Tryz.prog 49 #[.pointer (some ⟨n, 3, none⟩), .func (.func 50) #[.pointer (some ⟨n, 0, none⟩)] #[]] w fun e w' => e = .returned (.tuple #[]) ∧ w.grownBy w' (some n) ∧ Nrm w' n c d true := by
  have h0 := h
  obtain ⟨vc, vd, mv, h1, h2, h3, h4, h5, h6⟩ := h
  cases dn with
  | false =>
    obtain rfl := h5 rfl
    refine (ndo_first n vc vd c d w h4 h1 hgd (fun a k e => by have := h2 a k e; omega) (fun a k e => by have := h3 a k e; omega)).mono ?_
    rintro e w' ⟨rfl, hg, m, hm, hN, hF⟩
    have hl := h4.lt
    exact ⟨rfl, hg, vc, vd, some m, ⟨h1.1.heap fun a k e => hg.block k (h1.1.lt a k e) (by simp; have := h2 a k e; omega), h1.2.heap fun a k e => hg.block k (h1.2.lt a k e) (by simp; have := h3 a k e; omega)⟩, h2, h3, hN, (fun e => by cases e), fun _ => ⟨m, rfl, by omega, hF.mono (by omega)⟩⟩
  | true =>
    refine (ndo_done n 0 vc vd mv _ w h4).mono ?_
    rintro e w' ⟨rfl, rfl⟩
    exact ⟨rfl, World.grownBy.refl _ _, h0⟩
end Go.Proofs.YtpdacbiiaglodaaGreat

/-
  LAYER 5 (norms): what loaded data tell of a code point; what data that nobody loaded tell.
-/
namespace Go.Proofs.YtpdacbiiaglodaaGreat
set_option maxRecDepth 100000
open Go.RowKit Go.Lib

theorem nIsMade_nil (w : World) : Calls Tryz.prog 48 #[.pointer none] w fun e w' => e = .returned (.bool false) ∧ w = w' := by
  go_enter Tryz.func48, Tryz.ntmps48
  go_wp2
  go_ret
  exact ⟨rfl, rfl⟩
theorem nIsMade (n : Nat) (m : Bool) (w : World) (hc : w.cell? ⟨n, 0, none⟩ = some (.bool m)) : Calls Tryz.prog 48 #[.pointer (some ⟨n, 0, none⟩)] w fun e w' => e = .returned (.bool m) ∧ w = w' := by
  go_enter Tryz.func48, Tryz.ntmps48
  go_wp2
  go_ret
  exact ⟨rfl, rfl⟩

/-! ### Data that nobody loaded -/
theorem nClass_none (p : Value) (r : Int) (w : World) (hm : Calls Tryz.prog 48 #[p] w fun e w' => e = .returned (.bool false) ∧ w = w') :
    Calls Tryz.prog 15 #[p, .int .i32 r] w fun e w' => e = .returned (.int .i64 0) ∧ w = w' := by
  go_enter Tryz.func15, Tryz.ntmps15
  go_wp2_with (go_at_call 48; refine hm.mono ?_; rintro e w' ⟨rfl, rfl⟩)
  go_ret
  exact ⟨rfl, rfl⟩
theorem nStarter_of (p : Value) (r k : Int) (w : World) (hC : Calls Tryz.prog 15 #[p, .int .i32 r] w fun e w' => e = .returned (.int .i64 k) ∧ w.grownBy w' none) :
    Calls Tryz.prog 16 #[p, .int .i32 r] w fun e w' => e = .returned (.bool (k == 0)) ∧ w.grownBy w' none := by
  go_enter Tryz.func16, Tryz.ntmps16
  go_wp2_with (go_at_call 15; refine hC.mono ?_; rintro e w' ⟨rfl, hg⟩)
  go_ret
  exact ⟨rfl, hg⟩
theorem nClasses_none (p : Value) (w : World) (hm : Calls Tryz.prog 48 #[p] w fun e w' => e = .returned (.bool false) ∧ w = w') :
    Calls Tryz.prog 17 #[p] w fun e w' => e = .returned (.slice none 0 0) ∧ w = w' := by
  go_enter Tryz.func17, Tryz.ntmps17
  go_wp2_with (go_at_call 48; refine hm.mono ?_; rintro e w' ⟨rfl, rfl⟩)
  go_ret
  exact ⟨rfl, rfl⟩
theorem nDecomps_none (p : Value) (w : World) (hm : Calls Tryz.prog 48 #[p] w fun e w' => e = .returned (.bool false) ∧ w = w') :
    Calls Tryz.prog 18 #[p] w fun e w' => e = .returned (.func (.func 55) #[] #[]) ∧ w = w' := by
  go_enter Tryz.func18, Tryz.ntmps18
  go_wp2_with (go_at_call 48; refine hm.mono ?_; rintro e w' ⟨rfl, rfl⟩)
  go_ret
  exact ⟨rfl, rfl⟩
theorem nDecomp_none (p : Value) (r : Int) (w : World) (hm : ∀ w, Calls Tryz.prog 48 #[p] w fun e w' => e = .returned (.bool false) ∧ w = w') :
    Calls Tryz.prog 14 #[p, .int .i32 r] w fun e w' => ∃ b, e = .returned (.slice (some ⟨b, 0, none⟩) 1 1) ∧ w'.cell? ⟨b, 0, none⟩ = some (.int .i32 r) ∧ w.grownBy w' none := by
  go_enter Tryz.func14, Tryz.ntmps14
  go_wp2_with (go_at_call 48; refine (hm _).mono ?_; rintro e w' ⟨rfl, rfl⟩)
  go_ret
  exact ⟨w.heap.size, rfl, by have := World.alloc_heap_new w (.cells #[.int .i32 r] 21); simp only [World.cell?, this]; rfl, World.grownBy_alloc w _ none⟩

/-! ### Loaded data -/
theorem Nrm.made {w : World} {n : Nat} {c : List Cls} {d : List Dec} {dn : Bool} (h : Nrm w n c d dn) : w.cell? ⟨n, 0, none⟩ = some (.bool true) := by
  obtain ⟨vc, vd, mv, h1, h2, h3, h4, h5, h6⟩ := h
  exact h4.made
theorem nClass_any (n : Nat) (c : List Cls) (d : List Dec) (dn : Bool) (r : Int) (w : World) (h : Nrm w n c d dn) (hgd : good c d = true) :
    Calls Tryz.prog 15 #[.pointer (some ⟨n, 0, none⟩), .int .i32 r] w fun e w' => e = .returned (.int .i64 (clsOf c r)) ∧ w.grownBy w' none := by
  have hm := nIsMade n true w h.made
  obtain ⟨vc, vd, mv, h1, h2, h3, h4, h5, h6⟩ := h
  obtain ⟨q1, q2, q3, q4⟩ := good_parts hgd
  have hC := class_any vc vd c r w h1.1 q3 q1
  have k1 := h4.c1
  have k2 := h4.c2
  obtain ⟨a, cp, rfl, _, _⟩ := h1.2.form
  obtain ⟨ac, cc, rfl, _, _⟩ := h1.1.form
  unfold datV at hC
  clear h1 h2 h3 h5 h6
  go_enter Tryz.func15, Tryz.ntmps15
  go_wp2_with (first
    | (go_at_call 48; refine hm.mono ?_; rintro e w' ⟨rfl, rfl⟩)
    | (go_at_call 53; refine hC.mono ?_; rintro e w' ⟨rfl, hg⟩))
  go_ret
  exact ⟨rfl, hg⟩

theorem clone_runes (B : Nat) (v : Value) (l : List Int) (w : World) (h : Runes B w v l) (hlim : l.length ≤ 10) :
    Calls Tryz.prog 91 #[v] w fun e w' => ∃ v', e = .returned v' ∧ w'.ownsRow w.heap.size 21 1 v' l.length (rCells l) ∧ w.grownBy w' none := by
  obtain ⟨b, cap, rfl, hB, hl, h1, h2, h3⟩ := h
  obtain ⟨i0, hi, hz0, hz1, hz2⟩ := infoRune_parts
  have hbl : b < w.heap.size := by
    obtain ⟨u, t, rfl⟩ := List.exists_cons_of_ne_nil hl
    exact World.block_lt_of_cell? w _ (h3 0 u rfl)
  have q : ∀ (w : World), (binOp .eql 50 (.slice (some ⟨b, 0, none⟩) l.length cap) (.slice none 0 0)).run Tryz.prog w = .ok (.bool false) w := fun w => Lib.run_eql_slice_nil w _ _ (some ⟨b, 0, none⟩) l.length cap 0 0 Tryz.underlying50
  go_enter Tryz.func91, Tryz.ntmps91
  go_wp2_with (at_builtin; refine wpList_append_grows _ rfl _ _ 50 rfl 21 i0 (.int .i32 0) 1 4 Tryz.underlying50 hi hz0 hz1 hz2 rfl (by decide) (some ⟨w.heap.size, 0, none⟩) 0 0 [] rfl (fun h => by cases h) ?d0 ?d1 ⟨b, 0, none⟩ l.length cap (rCells l) rfl ?d7 ?d2 ?d3 ?d4 ?d5 ?d6 ?_)
  case d0 => rfl
  case d1 => intro b hb j u hu; simp at hu
  case d7 => simp [rCells]
  case d2 =>
    intro j u hu
    have hu' : ∃ x, l[j]? = some x ∧ u = .int .i32 x := by
      simp only [rCells, List.getElem?_map, Option.map_eq_some_iff] at hu
      obtain ⟨x, q1, q2⟩ := hu
      exact ⟨x, q1, q2.symm⟩
    obtain ⟨x, q1, rfl⟩ := hu'
    have h4 := (World.grownBy_alloc w (.cells #[] 21) none).cell (h3 j x q1) (by simp)
    rw [show (⟨b, 0, none⟩ : Addr).add j = ⟨b, j, none⟩ by unfold Addr.add; split <;> simp_all]
    exact h4
  case d3 =>
    intro u hu
    simp only [rCells, List.mem_map] at hu
    obtain ⟨x, _, rfl⟩ := hu
    rfl
  case d4 =>
    have := List.length_pos_iff.2 hl
    omega
  case d5 => unfold maxLen; omega
  case d6 => omega
  intro v' w' hown hg
  clear hi hz0 hz1 hz2 q h3
  have hg2 := (World.grownBy_alloc w (.cells #[] 21) none).trans hg
  have ho2 : w'.ownsRow w.heap.size 21 1 v' l.length (rCells l) := by simpa using ownLow hown (by simp)
  clear hown hg
  go_wp2
  go_ret
  exact ⟨_, rfl, ho2, hg2⟩

/-- Runes told: of a code point by its full decomposition, or by rule. -/
def told' (d : List Dec) (r : Int) : List Int := match stp d r with
  | none => byR r
  | some x => whl d 4 x

set_option maxHeartbeats 4000000 in
theorem ncopied_any (B : Nat) (v : Value) (l : List Int) (w : World) (h : Runes B w v l) (hlim : l.length ≤ 10) :
    Calls Tryz.prog 51 #[v] w fun e w' => ∃ v', e = .returned v' ∧ Runes w.heap.size w' v' l ∧ w.grownBy w' none := by
  have hC := clone_runes B v l w h hlim
  have hne : l ≠ [] := by obtain ⟨_, _, _, _, h, _⟩ := h; exact h
  have hP := fun v W h => clip_own w.heap.size v l W h hne
  obtain ⟨b, cap, rfl, _⟩ := h
  generalize l.length = n at hC hP hlim
  go_enter Tryz.func51, Tryz.ntmps51
  go_wp2_with (first
    | (go_at_call 91; refine hC.mono ?_; rintro e w1 ⟨v1, rfl, ho1, hg1⟩)
    | (go_at_call 69; refine (hP _ _ ho1).mono ?_; rintro e w2 ⟨v2, rfl, hF2, rfl⟩))
  go_ret
  exact ⟨_, rfl, Rn.runes (.inr ⟨hne, hF2⟩) hne, hg1⟩
end Go.Proofs.YtpdacbiiaglodaaGreat

/-
  LAYER 5 (norms): the full decomposition of a code point, of loaded data.
-/
namespace Go.Proofs.YtpdacbiiaglodaaGreat
set_option maxRecDepth 100000
open Go.RowKit Go.Lib

theorem zeroRunes (w : World) : (zeroValue 50).run Tryz.prog w = .ok (.slice none 0 0) w := by kernel_rfl
theorem told_length (d : List Dec) (r : Int) : (told' d r).length ≤ 7 := by
  unfold told'
  cases stp d r with
  | none => have := byR_length r; simp only; omega
  | some x => have := whl_length d 4 x; simp only; omega

set_option maxHeartbeats 4000000 in
theorem nDecomp_any (n : Nat) (c : List Cls) (d : List Dec) (dn : Bool) (r : Int) (w : World) (h : Nrm w n c d dn) (hgd : good c d = true) :
    Calls Tryz.prog 14 #[.pointer (some ⟨n, 0, none⟩), .int .i32 r] w fun e w' => ∃ v, e = .returned v ∧ Runes w.heap.size w' v (told' d r) ∧ w.grownBy w' (some n) ∧ Nrm w' n c d true := by
  have hm := nIsMade n true w h.made
  have hmf : ∀ (fn : Fn) (first cap : Array Value) (w : World), (Instr.makeFunc fn first cap).run Tryz.prog w = .ok (.func fn first cap) w := fun _ _ _ _ => rfl
  have hD := nDo_any n c d dn w h hgd
  clear h
  refine Calls.mono (R := fun e w' => ∃ v, e = .returned v ∧ (∃ w2, w.grownBy w2 (some n) ∧ Nrm w2 n c d true ∧ w2.grownBy w' none ∧ Runes w2.heap.size w' v (told' d r))) ?_ ?_
  · cases hs : stp d r with
    | none =>
      have ht : told' d r = byR r := by unfold told'; rw [hs]
      have hB := fun w => byRule_any r w
      have hbn := byR_ne r
      rw [ht]
      go_enter Tryz.func14, Tryz.ntmps14
      go_wp2_with (first
        | (go_at_call 48; refine hm.mono ?_; rintro e w' ⟨rfl, rfl⟩)
        | (go_at_call 49; refine hD.mono ?_; rintro e w2 ⟨rfl, hg2, hN2⟩; have hN0 := hN2; obtain ⟨vc, vd, mv, h1, h2, h3, h4, h5, h6⟩ := hN2; obtain ⟨m, rfl, hnm, hF⟩ := h6 rfl; obtain ⟨es, hes, hlk⟩ := hF.look; have k6 := h4.full; have hrun := run_lookup_ents (P := Tryz.prog) (t := 46) Tryz.underlying46 Tryz.underlying21 zeroRunes hes r; replace hlk := hlk r; rw [hs] at hlk; simp only at hlk; rw [hlk] at hrun; rw [Option.getD_none, Option.isSome_none] at hrun; clear h1 h2 h3 h4 h5 h6 hF hes hlk)
        | (go_at_call 52; refine (hB _).mono ?_; rintro e w3 ⟨v3, rfl, hR3, hg3⟩))
      go_ret
      exact ⟨_, rfl, _, hg2, hN0, hg3, hR3.runes hbn⟩
    | some x =>
      have ht : told' d r = whl d 4 x := by unfold told'; rw [hs]
      have hlen := told_length d r
      rw [ht] at hlen
      have hCp := fun v w h => ncopied_any (n + 1) v (whl d 4 x) w h (by omega)
      rw [ht]
      go_enter Tryz.func14, Tryz.ntmps14
      go_wp2_with (first
        | (go_at_call 48; refine hm.mono ?_; rintro e w' ⟨rfl, rfl⟩)
        | (go_at_call 49; refine hD.mono ?_; rintro e w2 ⟨rfl, hg2, hN2⟩; have hN0 := hN2; obtain ⟨vc, vd, mv, h1, h2, h3, h4, h5, h6⟩ := hN2; obtain ⟨m, rfl, hnm, hF⟩ := h6 rfl; obtain ⟨es, hes, hlk⟩ := hF.look; have k6 := h4.full; have hrun := run_lookup_ents (P := Tryz.prog) (t := 46) Tryz.underlying46 Tryz.underlying21 zeroRunes hes r; replace hlk := hlk r; rw [hs] at hlk; simp only at hlk; obtain ⟨vv, hlk, hRR⟩ := hlk; rw [hlk] at hrun; rw [Option.getD_some, Option.isSome_some] at hrun; clear h1 h2 h3 h4 h5 h6 hF hes hlk)
        | (go_at_call 51; refine (hCp _ _ hRR).mono ?_; rintro e w3 ⟨v3, rfl, hR3, hg3⟩))
      go_ret
      exact ⟨_, rfl, _, hg2, hN0, hg3, hR3⟩
  · rintro e w' ⟨v, rfl, w2, q1, q2, q3, q4⟩
    obtain ⟨b, cap, s1, s2, s3⟩ := q4
    exact ⟨_, rfl, ⟨b, cap, s1, Nat.le_trans q1.size s2, s3⟩, q1.trans (gbut q3 _), q2.new q3⟩
end Go.Proofs.YtpdacbiiaglodaaGreat
