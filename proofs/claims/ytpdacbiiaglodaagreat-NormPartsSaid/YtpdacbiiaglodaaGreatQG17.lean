/-
  LAYER 5 (norms): sync.Once over loaded data; what loaded data tell.
-/
import Derived.Test.YtpdacbiiaglodaaGreatQG16
import Derived.Test.YtpdacbiiaglodaaGreatQG12
import Derived.Test.YtpdacbiiaglodaaGreatQG14
import Derived.Lib.LazyBuf
import Derived.WalkSpells
import Derived.Test.YtpdacbiiaglodaaGreatQG04
import Derived.Test.YtpdacbiiaglodaaGreatQG08
import Derived.Shelf.SlSortCmp.HeapSortK
namespace Go.Proofs.YtpdacbiiaglodaaGreat
set_option maxRecDepth 100000
open Go.RowKit Go.Lib

theorem Tri.set {k : IntKind} {w : World} {v : Value} {l : List (Int × Int × Int)} {n o : Nat} {u : Value} (h : Tri k w v l) (hne : l ≠ [] → ∀ q, v.ownBlock = some q → q ≠ n) : Tri k (w.setCell ⟨n, o, none⟩ u) v l :=
  h.heap fun hl q e => (gset (World.grownBy.refl w (some n)) o u).block q (h.lt hl q e) (by simpa using hne hl q e)

set_option maxHeartbeats 4000000 in
theorem nslow_any (n : Nat) (vc vd : Value) (c : List Cls) (d : List Dec) (w : World) (hN : NormsAt w n 0 0 vc vd none) (hT : Dat w vc vd c d) (hgd : good c d = true) (h1 : c ≠ [] → ∀ k, vc.ownBlock = some k → k ≠ n) (h2 : d ≠ [] → ∀ k, vd.ownBlock = some k → k ≠ n) :
    Calls Tryz.prog 88 #[.pointer (some ⟨n, 3, none⟩), .func (.func 50) #[.pointer (some ⟨n, 0, none⟩)] #[]] w fun e w' => e = .returned (.tuple #[]) ∧ w.grownBy w' (some n) ∧ ∃ m, w.heap.size ≤ m ∧ NormsAt w' n 1 0 vc vd (some m) ∧ FullAt w.heap.size d w' m d := by
  have hN1 := hN.setState 1
  have hs := hN.state
  have hf := hN.free 4
  have hl := run_call_load (P := Tryz.prog) Tryz.func128 (by kernel_rfl) (by kernel_rfl) (by kernel_rfl) .u32 (by kernel_rfl) hN1.done
  have hg1 : w.grownBy (w.setCell ⟨n, 4, none⟩ (.int .i32 1)) (some n) := gset (World.grownBy.refl _ _) _ _
  have hre := reckon_full n 1 vc vd c d _ hN1 ⟨hT.1.set h1, hT.2.set h2⟩ hgd h2
  rw [show (w.setCell ⟨n, 4, none⟩ (.int .i32 1)).heap.size = w.heap.size by simp] at hre
  have hnot : ∀ (x : Bool) (w : World), (Op.unary .not (.bool x)).run Tryz.prog w = .ok (.bool (!x)) w := fun _ _ => rfl
  have hnl := hN.lt
  go_enter_defers Tryz.func88, Tryz.ntmps88
  go_wp2_with (first | (go_at_call 129; refine (lock_free ⟨n, 4, none⟩ _ hs hf).mono ?_; rintro e w' ⟨rfl, rfl⟩) | (go_at_call 50; refine hre.mono ?_; rintro e w2 ⟨rfl, hg2, m, hm, hN2, hF2⟩) | (go_at_call 87; go_in))
  have hmn : ∀ o, w2.heap[n]? = some o → o.isCells = true := by
    intro o ho
    rw [show w2.heap[n]? = _ from hN2] at ho
    cases ho
    rfl
  refine leaves_cons (f := 131) (args := #[.pointer (some ⟨n, 3, none⟩), .bool true]) (by simp) (by simp [go_sem]) ?_
  refine (store_deferred ⟨n, 3, none⟩ _ .returning _ hN2.done (hN2.free 3)).mono ?_
  rintro e u' w'' ⟨rfl, rfl, rfl⟩
  have hN3 := (hN2.kept (gdrew (World.grownBy.refl w2 none)) (by simp)).setDone 1
  refine leaves_cons (f := 130) (args := #[.pointer (some ⟨n, 4, none⟩)]) (by simp [settle]) (by simp [go_sem]) ?_
  refine (unlock_deferred ⟨n, 4, none⟩ _ _ hN3.state (hN3.free 4)).mono ?_
  rintro e u' w'' ⟨rfl, rfl, rfl⟩
  have hN4 := hN3.setState 0
  have hg4 := gset (gset (gdrew (hg1.trans hg2)) 3 (.int .u32 1)) 4 (.int .i32 0)
  have hs1 := hg1.size
  have hF4 : FullAt w.heap.size d ((w2.drew.setCell ⟨n, 3, none⟩ (.int .u32 1)).setCell ⟨n, 4, none⟩ (.int .i32 0)) m d := by
    have g : w2.grownBy ((w2.drew.setCell ⟨n, 3, none⟩ (.int .u32 1)).setCell ⟨n, 4, none⟩ (.int .i32 0)) (some n) := gset (gset (gdrew (World.grownBy.refl w2 _)) 3 _) 4 _
    exact hF2.cells g (by omega) (by omega)
  simp [Leaves, settle, results, Tryz.results88]
  exact ⟨hg4, m, by omega, hN4, hF4⟩

set_option maxHeartbeats 4000000 in
theorem ndo_first (n : Nat) (vc vd : Value) (c : List Cls) (d : List Dec) (w : World) (hN : NormsAt w n 0 0 vc vd none) (hT : Dat w vc vd c d) (hgd : good c d = true) (h1 : c ≠ [] → ∀ k, vc.ownBlock = some k → k ≠ n) (h2 : d ≠ [] → ∀ k, vd.ownBlock = some k → k ≠ n) :
    Calls Tryz.prog 49 #[.pointer (some ⟨n, 3, none⟩), .func (.func 50) #[.pointer (some ⟨n, 0, none⟩)] #[]] w fun e w' => e = .returned (.tuple #[]) ∧ w.grownBy w' (some n) ∧ ∃ m, w.heap.size ≤ m ∧ NormsAt w' n 1 0 vc vd (some m) ∧ FullAt w.heap.size d w' m d := by
  have hl := run_call_load (P := Tryz.prog) Tryz.func128 (by kernel_rfl) (by kernel_rfl) (by kernel_rfl) .u32 (by kernel_rfl) hN.done
  have hsl := nslow_any n vc vd c d w hN hT hgd h1 h2
  have hnot : ∀ (x : Bool) (w : World), (Op.unary .not (.bool x)).run Tryz.prog w = .ok (.bool (!x)) w := fun _ _ => rfl
  clear hT hgd h1 h2
  go_enter Tryz.func49, Tryz.ntmps49
  go_wp2_with (first | (go_at_call 88; refine hsl.mono ?_; rintro e w2 ⟨rfl, hg2, hT2⟩) | (go_at_call 87; go_in))
  go_end0
  exact ⟨rfl, hg2, hT2⟩

theorem ndo_done (n : Nat) (st : Int) (vc vd : Value) (mv : Option Nat) (fv : Value) (w : World) (hN : NormsAt w n 1 st vc vd mv) :
    Calls Tryz.prog 49 #[.pointer (some ⟨n, 3, none⟩), fv] w fun e w' => e = .returned (.tuple #[]) ∧ w = w' := by
  have hl := run_call_load (P := Tryz.prog) Tryz.func128 (by kernel_rfl) (by kernel_rfl) (by kernel_rfl) .u32 (by kernel_rfl) hN.done
  have hnot : ∀ (x : Bool) (w : World), (Op.unary .not (.bool x)).run Tryz.prog w = .ok (.bool (!x)) w := fun _ _ => rfl
  go_enter Tryz.func49, Tryz.ntmps49
  go_wp2_with (go_at_call 87; go_in)
  go_end0
  exact ⟨rfl, rfl⟩

/-- Loaded data in memory: the full decompositions reckoned, or not yet. -/
def Nrm (w : World) (n : Nat) (c : List Cls) (d : List Dec) (dn : Bool) : Prop :=
  ∃ vc vd mv, Dat w vc vd c d ∧ (c ≠ [] → ∀ k, vc.ownBlock = some k → k < n) ∧ (d ≠ [] → ∀ k, vd.ownBlock = some k → k < n) ∧ NormsAt w n (if dn = true then 1 else 0) 0 vc vd mv ∧ (dn = false → mv = none) ∧ (dn = true → ∃ m, mv = some m ∧ n < m ∧ FullAt (n + 1) d w m d)
theorem Nrm.new {w w' : World} {n : Nat} {c : List Cls} {d : List Dec} {dn : Bool} (h : Nrm w n c d dn) (hg : w.grownBy w' none) : Nrm w' n c d dn := by
  obtain ⟨vc, vd, mv, h1, h2, h3, h4, h5, h6⟩ := h
  exact ⟨vc, vd, mv, h1.all hg, h2, h3, h4.kept hg (by simp), h5, fun e => by obtain ⟨m, q1, q2, q3⟩ := h6 e; exact ⟨m, q1, q2, q3.new hg⟩⟩
theorem FullAt.mono {B B' : Nat} {d pre : List Dec} {w : World} {m : Nat} (h : FullAt B d w m pre) (hB : B' ≤ B) : FullAt B' d w m pre := by
  obtain ⟨l, h1, h2, h3⟩ := h
  exact ⟨l, h1, h2, fun p hp => by obtain ⟨b, cap, q1, q2, q3⟩ := h3 p hp; exact ⟨b, cap, q1, Nat.le_trans hB q2, q3⟩⟩

theorem nDo_any (n : Nat) (c : List Cls) (d : List Dec) (dn : Bool) (w : World) (h : Nrm w n c d dn) (hgd : good c d = true) :
    Calls Tryz.prog 49 #[.pointer (some ⟨n, 3, none⟩), .func (.func 50) #[.pointer (some ⟨n, 0, none⟩)] #[]] w fun e w' => e = .returned (.tuple #[]) ∧ w.grownBy w' (some n) ∧ Nrm w' n c d true := by
  have h0 := h
  obtain ⟨vc, vd, mv, h1, h2, h3, h4, h5, h6⟩ := h
  cases dn with
  | false =>
    obtain rfl := h5 rfl
    refine (ndo_first n vc vd c d w h4 h1 hgd (fun a k e => by have := h2 a k e; omega) (fun a k e => by have := h3 a k e; omega)).mono ?_
    rintro e w' ⟨rfl, hg, m, hm, hN, hF⟩
    have hl := h4.lt
    exact ⟨rfl, hg, vc, vd, some m, ⟨h1.1.heap fun a k e => hg.block k (h1.1.lt a k e) (by simp; have := h2 a k e; omega), h1.2.heap fun a k e => hg.block k (h1.2.lt a k e) (by simp; have := h3 a k e; omega)⟩, h2, h3, hN, (fun e => by cases e), fun _ => ⟨m, rfl, by omega, hF.mono (by omega)⟩⟩
  | true =>
    refine (ndo_done n 0 vc vd mv _ w h4).mono ?_
    rintro e w' ⟨rfl, rfl⟩
    exact ⟨rfl, World.grownBy.refl _ _, h0⟩
end Go.Proofs.YtpdacbiiaglodaaGreat

/-
  LAYER 5 (norms): what loaded data tell of a code point; what data that nobody loaded tell.
-/
namespace Go.Proofs.YtpdacbiiaglodaaGreat
set_option maxRecDepth 100000
open Go.RowKit Go.Lib

theorem nIsMade_nil (w : World) : Calls Tryz.prog 48 #[.pointer none] w fun e w' => e = .returned (.bool false) ∧ w = w' := by
  go_enter Tryz.func48, Tryz.ntmps48
  go_wp2
  go_ret
  exact ⟨rfl, rfl⟩
theorem nIsMade (n : Nat) (m : Bool) (w : World) (hc : w.cell? ⟨n, 0, none⟩ = some (.bool m)) : Calls Tryz.prog 48 #[.pointer (some ⟨n, 0, none⟩)] w fun e w' => e = .returned (.bool m) ∧ w = w' := by
  go_enter Tryz.func48, Tryz.ntmps48
  go_wp2
  go_ret
  exact ⟨rfl, rfl⟩

/-! ### Data that nobody loaded -/
theorem nClass_none (p : Value) (r : Int) (w : World) (hm : Calls Tryz.prog 48 #[p] w fun e w' => e = .returned (.bool false) ∧ w = w') :
    Calls Tryz.prog 15 #[p, .int .i32 r] w fun e w' => e = .returned (.int .i64 0) ∧ w = w' := by
  go_enter Tryz.func15, Tryz.ntmps15
  go_wp2_with (go_at_call 48; refine hm.mono ?_; rintro e w' ⟨rfl, rfl⟩)
  go_ret
  exact ⟨rfl, rfl⟩
theorem nStarter_of (p : Value) (r k : Int) (w : World) (hC : Calls Tryz.prog 15 #[p, .int .i32 r] w fun e w' => e = .returned (.int .i64 k) ∧ w.grownBy w' none) :
    Calls Tryz.prog 16 #[p, .int .i32 r] w fun e w' => e = .returned (.bool (k == 0)) ∧ w.grownBy w' none := by
  go_enter Tryz.func16, Tryz.ntmps16
  go_wp2_with (go_at_call 15; refine hC.mono ?_; rintro e w' ⟨rfl, hg⟩)
  go_ret
  exact ⟨rfl, hg⟩
theorem nClasses_none (p : Value) (w : World) (hm : Calls Tryz.prog 48 #[p] w fun e w' => e = .returned (.bool false) ∧ w = w') :
    Calls Tryz.prog 17 #[p] w fun e w' => e = .returned (.slice none 0 0) ∧ w = w' := by
  go_enter Tryz.func17, Tryz.ntmps17
  go_wp2_with (go_at_call 48; refine hm.mono ?_; rintro e w' ⟨rfl, rfl⟩)
  go_ret
  exact ⟨rfl, rfl⟩
theorem nDecomps_none (p : Value) (w : World) (hm : Calls Tryz.prog 48 #[p] w fun e w' => e = .returned (.bool false) ∧ w = w') :
    Calls Tryz.prog 18 #[p] w fun e w' => e = .returned (.func (.func 55) #[] #[]) ∧ w = w' := by
  go_enter Tryz.func18, Tryz.ntmps18
  go_wp2_with (go_at_call 48; refine hm.mono ?_; rintro e w' ⟨rfl, rfl⟩)
  go_ret
  exact ⟨rfl, rfl⟩
theorem nDecomp_none (p : Value) (r : Int) (w : World) (hm : ∀ w, Calls Tryz.prog 48 #[p] w fun e w' => e = .returned (.bool false) ∧ w = w') :
    Calls Tryz.prog 14 #[p, .int .i32 r] w fun e w' => ∃ b, e = .returned (.slice (some ⟨b, 0, none⟩) 1 1) ∧ w'.cell? ⟨b, 0, none⟩ = some (.int .i32 r) ∧ w.grownBy w' none := by
  go_enter Tryz.func14, Tryz.ntmps14
  go_wp2_with (go_at_call 48; refine (hm _).mono ?_; rintro e w' ⟨rfl, rfl⟩)
  go_ret
  exact ⟨w.heap.size, rfl, by have := World.alloc_heap_new w (.cells #[.int .i32 r] 21); simp only [World.cell?, this]; rfl, World.grownBy_alloc w _ none⟩

/-! ### Loaded data -/
theorem Nrm.made {w : World} {n : Nat} {c : List Cls} {d : List Dec} {dn : Bool} (h : Nrm w n c d dn) : w.cell? ⟨n, 0, none⟩ = some (.bool true) := by
  obtain ⟨vc, vd, mv, h1, h2, h3, h4, h5, h6⟩ := h
  exact h4.made
theorem nClass_any (n : Nat) (c : List Cls) (d : List Dec) (dn : Bool) (r : Int) (w : World) (h : Nrm w n c d dn) (hgd : good c d = true) :
    Calls Tryz.prog 15 #[.pointer (some ⟨n, 0, none⟩), .int .i32 r] w fun e w' => e = .returned (.int .i64 (clsOf c r)) ∧ w.grownBy w' none := by
  have hm := nIsMade n true w h.made
  obtain ⟨vc, vd, mv, h1, h2, h3, h4, h5, h6⟩ := h
  obtain ⟨q1, q2, q3, q4⟩ := good_parts hgd
  have hC := class_any vc vd c r w h1.1 q3 q1
  have k1 := h4.c1
  have k2 := h4.c2
  obtain ⟨a, cp, rfl, _, _⟩ := h1.2.form
  obtain ⟨ac, cc, rfl, _, _⟩ := h1.1.form
  unfold datV at hC
  clear h1 h2 h3 h5 h6
  go_enter Tryz.func15, Tryz.ntmps15
  go_wp2_with (first
    | (go_at_call 48; refine hm.mono ?_; rintro e w' ⟨rfl, rfl⟩)
    | (go_at_call 53; refine hC.mono ?_; rintro e w' ⟨rfl, hg⟩))
  go_ret
  exact ⟨rfl, hg⟩

theorem clone_runes (B : Nat) (v : Value) (l : List Int) (w : World) (h : Runes B w v l) (hlim : l.length ≤ 10) :
    Calls Tryz.prog 91 #[v] w fun e w' => ∃ v', e = .returned v' ∧ w'.ownsRow w.heap.size 21 1 v' l.length (rCells l) ∧ w.grownBy w' none := by
  obtain ⟨b, cap, rfl, hB, hl, h1, h2, h3⟩ := h
  obtain ⟨i0, hi, hz0, hz1, hz2⟩ := infoRune_parts
  have hbl : b < w.heap.size := by
    obtain ⟨u, t, rfl⟩ := List.exists_cons_of_ne_nil hl
    exact World.block_lt_of_cell? w _ (h3 0 u rfl)
  have q : ∀ (w : World), (binOp .eql 50 (.slice (some ⟨b, 0, none⟩) l.length cap) (.slice none 0 0)).run Tryz.prog w = .ok (.bool false) w := fun w => Lib.run_eql_slice_nil w _ _ (some ⟨b, 0, none⟩) l.length cap 0 0 Tryz.underlying50
  go_enter Tryz.func91, Tryz.ntmps91
  go_wp2_with (at_builtin; refine wpList_append_grows _ rfl _ _ 50 rfl 21 i0 (.int .i32 0) 1 4 Tryz.underlying50 hi hz0 hz1 hz2 rfl (by decide) (some ⟨w.heap.size, 0, none⟩) 0 0 [] rfl (fun h => by cases h) ?d0 ?d1 ⟨b, 0, none⟩ l.length cap (rCells l) rfl ?d7 ?d2 ?d3 ?d4 ?d5 ?d6 ?_)
  case d0 => rfl
  case d1 => intro b hb j u hu; simp at hu
  case d7 => simp [rCells]
  case d2 =>
    intro j u hu
    have hu' : ∃ x, l[j]? = some x ∧ u = .int .i32 x := by
      simp only [rCells, List.getElem?_map, Option.map_eq_some_iff] at hu
      obtain ⟨x, q1, q2⟩ := hu
      exact ⟨x, q1, q2.symm⟩
    obtain ⟨x, q1, rfl⟩ := hu'
    have h4 := (World.grownBy_alloc w (.cells #[] 21) none).cell (h3 j x q1) (by simp)
    rw [show (⟨b, 0, none⟩ : Addr).add j = ⟨b, j, none⟩ by unfold Addr.add; split <;> simp_all]
    exact h4
  case d3 =>
    intro u hu
    simp only [rCells, List.mem_map] at hu
    obtain ⟨x, _, rfl⟩ := hu
    rfl
  case d4 =>
    have := List.length_pos_iff.2 hl
    omega
  case d5 => unfold maxLen; omega
  case d6 => omega
  intro v' w' hown hg
  clear hi hz0 hz1 hz2 q h3
  have hg2 := (World.grownBy_alloc w (.cells #[] 21) none).trans hg
  have ho2 : w'.ownsRow w.heap.size 21 1 v' l.length (rCells l) := by simpa using ownLow hown (by simp)
  clear hown hg
  go_wp2
  go_ret
  exact ⟨_, rfl, ho2, hg2⟩

/-- Runes told: of a code point by its full decomposition, or by rule. -/
def told' (d : List Dec) (r : Int) : List Int := match stp d r with
  | none => byR r
  | some x => whl d 4 x

set_option maxHeartbeats 4000000 in
theorem ncopied_any (B : Nat) (v : Value) (l : List Int) (w : World) (h : Runes B w v l) (hlim : l.length ≤ 10) :
    Calls Tryz.prog 51 #[v] w fun e w' => ∃ v', e = .returned v' ∧ Runes w.heap.size w' v' l ∧ w.grownBy w' none := by
  have hC := clone_runes B v l w h hlim
  have hne : l ≠ [] := by obtain ⟨_, _, _, _, h, _⟩ := h; exact h
  have hP := fun v W h => clip_own w.heap.size v l W h hne
  obtain ⟨b, cap, rfl, _⟩ := h
  generalize l.length = n at hC hP hlim
  go_enter Tryz.func51, Tryz.ntmps51
  go_wp2_with (first
    | (go_at_call 91; refine hC.mono ?_; rintro e w1 ⟨v1, rfl, ho1, hg1⟩)
    | (go_at_call 69; refine (hP _ _ ho1).mono ?_; rintro e w2 ⟨v2, rfl, hF2, rfl⟩))
  go_ret
  exact ⟨_, rfl, Rn.runes (.inr ⟨hne, hF2⟩) hne, hg1⟩
end Go.Proofs.YtpdacbiiaglodaaGreat

/-
  LAYER 5 (norms): the full decomposition of a code point, of loaded data.
-/
namespace Go.Proofs.YtpdacbiiaglodaaGreat
set_option maxRecDepth 100000
open Go.RowKit Go.Lib

theorem zeroRunes (w : World) : (zeroValue 50).run Tryz.prog w = .ok (.slice none 0 0) w := by kernel_rfl
theorem told_length (d : List Dec) (r : Int) : (told' d r).length ≤ 7 := by
  unfold told'
  cases stp d r with
  | none => have := byR_length r; simp only; omega
  | some x => have := whl_length d 4 x; simp only; omega

set_option maxHeartbeats 4000000 in
theorem nDecomp_any (n : Nat) (c : List Cls) (d : List Dec) (dn : Bool) (r : Int) (w : World) (h : Nrm w n c d dn) (hgd : good c d = true) :
    Calls Tryz.prog 14 #[.pointer (some ⟨n, 0, none⟩), .int .i32 r] w fun e w' => ∃ v, e = .returned v ∧ Runes w.heap.size w' v (told' d r) ∧ w.grownBy w' (some n) ∧ Nrm w' n c d true := by
  have hm := nIsMade n true w h.made
  have hmf : ∀ (fn : Fn) (first cap : Array Value) (w : World), (Instr.makeFunc fn first cap).run Tryz.prog w = .ok (.func fn first cap) w := fun _ _ _ _ => rfl
  have hD := nDo_any n c d dn w h hgd
  clear h
  refine Calls.mono (R := fun e w' => ∃ v, e = .returned v ∧ (∃ w2, w.grownBy w2 (some n) ∧ Nrm w2 n c d true ∧ w2.grownBy w' none ∧ Runes w2.heap.size w' v (told' d r))) ?_ ?_
  · cases hs : stp d r with
    | none =>
      have ht : told' d r = byR r := by unfold told'; rw [hs]
      have hB := fun w => byRule_any r w
      have hbn := byR_ne r
      rw [ht]
      go_enter Tryz.func14, Tryz.ntmps14
      go_wp2_with (first
        | (go_at_call 48; refine hm.mono ?_; rintro e w' ⟨rfl, rfl⟩)
        | (go_at_call 49; refine hD.mono ?_; rintro e w2 ⟨rfl, hg2, hN2⟩; have hN0 := hN2; obtain ⟨vc, vd, mv, h1, h2, h3, h4, h5, h6⟩ := hN2; obtain ⟨m, rfl, hnm, hF⟩ := h6 rfl; obtain ⟨es, hes, hlk⟩ := hF.look; have k6 := h4.full; have hrun := run_lookup_ents (P := Tryz.prog) (t := 46) Tryz.underlying46 Tryz.underlying21 zeroRunes hes r; replace hlk := hlk r; rw [hs] at hlk; simp only at hlk; rw [hlk] at hrun; rw [Option.getD_none, Option.isSome_none] at hrun; clear h1 h2 h3 h4 h5 h6 hF hes hlk)
        | (go_at_call 52; refine (hB _).mono ?_; rintro e w3 ⟨v3, rfl, hR3, hg3⟩))
      go_ret
      exact ⟨_, rfl, _, hg2, hN0, hg3, hR3.runes hbn⟩
    | some x =>
      have ht : told' d r = whl d 4 x := by unfold told'; rw [hs]
      have hlen := told_length d r
      rw [ht] at hlen
      have hCp := fun v w h => ncopied_any (n + 1) v (whl d 4 x) w h (by omega)
      rw [ht]
      go_enter Tryz.func14, Tryz.ntmps14
      go_wp2_with (first
        | (go_at_call 48; refine hm.mono ?_; rintro e w' ⟨rfl, rfl⟩)
        | (go_at_call 49; refine hD.mono ?_; rintro e w2 ⟨rfl, hg2, hN2⟩; have hN0 := hN2; obtain ⟨vc, vd, mv, h1, h2, h3, h4, h5, h6⟩ := hN2; obtain ⟨m, rfl, hnm, hF⟩ := h6 rfl; obtain ⟨es, hes, hlk⟩ := hF.look; have k6 := h4.full; have hrun := run_lookup_ents (P := Tryz.prog) (t := 46) Tryz.underlying46 Tryz.underlying21 zeroRunes hes r; replace hlk := hlk r; rw [hs] at hlk; simp only at hlk; obtain ⟨vv, hlk, hRR⟩ := hlk; rw [hlk] at hrun; rw [Option.getD_some, Option.isSome_some] at hrun; clear h1 h2 h3 h4 h5 h6 hF hes hlk)
        | (go_at_call 51; refine (hCp _ _ hRR).mono ?_; rintro e w3 ⟨v3, rfl, hR3, hg3⟩))
      go_ret
      exact ⟨_, rfl, _, hg2, hN0, hg3, hR3⟩
  · rintro e w' ⟨v, rfl, w2, q1, q2, q3, q4⟩
    obtain ⟨b, cap, s1, s2, s3⟩ := q4
    exact ⟨_, rfl, ⟨b, cap, s1, Nat.le_trans q1.size s2, s3⟩, q1.trans (gbut q3 _), q2.new q3⟩
end Go.Proofs.YtpdacbiiaglodaaGreat

/-
  LAYER 6 (norm): normalisation data in memory with the blocks that they lean on; what they tell, whoever made them.
-/
namespace Go.Proofs.YtpdacbiiaglodaaGreat
set_option maxRecDepth 100000
open Go.RowKit Go.Lib

/-- The map of full decompositions and all that it leads to lie in F. -/
def FullF (F : Nat → Prop) (d : List Dec) (w : World) (n m : Nat) : Prop :=
  F m ∧ ∃ l : List (Dec × Value), l.map (·.1) = d ∧ Ents w m (l.map fun p => (p.1.1, p.2)) ∧ ∀ p ∈ l, Runes (n + 1) w p.2 (whl d 4 p.1) ∧ ∀ k, p.2.ownBlock = some k → F k
/-- Loaded data whose blocks all lie in F. -/
def NrmF (w : World) (n : Nat) (c : List Cls) (d : List Dec) (dn : Bool) (F : Nat → Prop) : Prop :=
  ∃ vc vd mv, Dat w vc vd c d ∧ (c ≠ [] → ∀ k, vc.ownBlock = some k → k < n ∧ F k) ∧ (d ≠ [] → ∀ k, vd.ownBlock = some k → k < n ∧ F k) ∧ NormsAt w n (if dn = true then 1 else 0) 0 vc vd mv ∧ F n ∧ (dn = false → mv = none) ∧
    (dn = true → ∃ m, mv = some m ∧ n < m ∧ FullF F d w n m) ∧ ∀ k, F k → k < w.heap.size
theorem NrmF.nrm {w : World} {n : Nat} {c : List Cls} {d : List Dec} {dn : Bool} {F : Nat → Prop} (h : NrmF w n c d dn F) : Nrm w n c d dn := by
  obtain ⟨vc, vd, mv, h1, h2, h3, h4, _, h5, h6, _⟩ := h
  refine ⟨vc, vd, mv, h1, fun a k e => (h2 a k e).1, fun a k e => (h3 a k e).1, h4, h5, fun e => ?_⟩
  obtain ⟨m, q1, q2, _, l, q3, q4, q5⟩ := h6 e
  exact ⟨m, q1, q2, l, q3, q4, fun p hp => (q5 p hp).1⟩
theorem Runes.heap {B : Nat} {w w' : World} {v : Value} {l : List Int} (h : Runes B w v l) (hk : ∀ k, v.ownBlock = some k → w'.heap[k]? = w.heap[k]?) : Runes B w' v l := by
  obtain ⟨b, cap, rfl, hB, hl, h1, h2, h3⟩ := h
  have := hk b rfl
  exact ⟨b, cap, rfl, hB, hl, h1, h2, fun i u hu => by have := h3 i u hu; simp only [World.cell?] at this ⊢; rw [hk b rfl]; exact this⟩
theorem Ents.heap {w w' : World} {B : Nat} {l : List (Int × Value)} (h : Ents w B l) (hk : w'.heap[B]? = w.heap[B]?) : Ents w' B l := by
  obtain ⟨es, cl, hb, he⟩ := h
  exact ⟨es, cl, hk.trans hb, he⟩
/-- They hold on in every world that has the same in F. -/
theorem NrmF.keep {w w' : World} {n : Nat} {c : List Cls} {d : List Dec} {dn : Bool} {F : Nat → Prop} (h : NrmF w n c d dn F) (hk : ∀ k, F k → w'.heap[k]? = w.heap[k]?) (hs : w.heap.size ≤ w'.heap.size) : NrmF w' n c d dn F := by
  obtain ⟨vc, vd, mv, h1, h2, h3, h4, h5, h6, h7, h8⟩ := h
  refine ⟨vc, vd, mv, ⟨h1.1.heap fun a k e => hk k (h2 a k e).2, h1.2.heap fun a k e => hk k (h3 a k e).2⟩, h2, h3, (hk n h5).trans h4, h5, h6, fun e => ?_, fun k hf => Nat.lt_of_lt_of_le (h8 k hf) hs⟩
  obtain ⟨m, q1, q2, q3, l, q4, q5, q6⟩ := h7 e
  exact ⟨m, q1, q2, q3, l, q4, q5.heap (hk m q3), fun p hp => ⟨(q6 p hp).1.heap fun k e => hk k ((q6 p hp).2 k e), (q6 p hp).2⟩⟩
theorem NrmF.grown {w w' : World} {n : Nat} {c : List Cls} {d : List Dec} {dn : Bool} {F : Nat → Prop} {q : Option Nat} (h : NrmF w n c d dn F) (hg : w.grownBy w' q) (hq : ∀ k, q = some k → ¬ F k) : NrmF w' n c d dn F := by
  have hb := h
  obtain ⟨_, _, _, _, _, _, _, _, _, _, h8⟩ := hb
  exact h.keep (fun k hf => hg.block k (h8 k hf) (fun e => hq k e.symm hf)) hg.size
theorem NrmF.lt {w : World} {n : Nat} {c : List Cls} {d : List Dec} {dn : Bool} {F : Nat → Prop} (h : NrmF w n c d dn F) : ∀ k, F k → k < w.heap.size := by
  obtain ⟨_, _, _, _, _, _, _, _, _, _, h8⟩ := h
  exact h8
/-- Fresh data: what lies behind block n is none of theirs. -/
theorem Nrm.foot {w : World} {n : Nat} {c : List Cls} {d : List Dec} (h : Nrm w n c d false) : NrmF w n c d false (fun k => k ≤ n) := by
  obtain ⟨vc, vd, mv, h1, h2, h3, h4, h5, h6⟩ := h
  exact ⟨vc, vd, mv, h1, fun a k e => ⟨h2 a k e, Nat.le_of_lt (h2 a k e)⟩, fun a k e => ⟨h3 a k e, Nat.le_of_lt (h3 a k e)⟩, h4, Nat.le_refl _, h5, (fun e => by cases e), fun k hk => Nat.lt_of_le_of_lt hk h4.lt⟩

theorem nDo_f (n : Nat) (c : List Cls) (d : List Dec) (dn : Bool) (F : Nat → Prop) (w : World) (h : NrmF w n c d dn F) (hgd : good c d = true) :
    Calls Tryz.prog 49 #[.pointer (some ⟨n, 3, none⟩), .func (.func 50) #[.pointer (some ⟨n, 0, none⟩)] #[]] w fun e w' => e = .returned (.tuple #[]) ∧ w.grownBy w' (some n) ∧ ∃ F' : Nat → Prop, (∀ k, F k → F' k) ∧ (∀ k, F' k → F k ∨ w.heap.size ≤ k) ∧ NrmF w' n c d true F' := by
  have h0 := h
  obtain ⟨vc, vd, mv, h1, h2, h3, h4, h5, h6, h7, h8⟩ := h
  cases dn with
  | false =>
    obtain rfl := h6 rfl
    refine (ndo_first n vc vd c d w h4 h1 hgd (fun a k e => by have := (h2 a k e).1; omega) (fun a k e => by have := (h3 a k e).1; omega)).mono ?_
    rintro e w' ⟨rfl, hg, m, hm, hN, hF⟩
    have hl := h4.lt
    obtain ⟨l, q1, q2, q3⟩ := hF
    refine ⟨rfl, hg, fun k => F k ∨ (w.heap.size ≤ k ∧ k < w'.heap.size), fun k hk => .inl hk, fun k hk => hk.imp id And.left, vc, vd, some m, ⟨h1.1.heap fun a k e => hg.block k (h1.1.lt a k e) (by simp; have := (h2 a k e).1; omega), h1.2.heap fun a k e => hg.block k (h1.2.lt a k e) (by simp; have := (h3 a k e).1; omega)⟩, fun a k e => ⟨(h2 a k e).1, .inl (h2 a k e).2⟩, fun a k e => ⟨(h3 a k e).1, .inl (h3 a k e).2⟩, hN, .inl h5, (fun e => by cases e), fun _ => ⟨m, rfl, by omega, ?_, l, q1, q2, fun p hp => ?_⟩, ?_⟩
    · refine .inr ⟨hm, ?_⟩
      obtain ⟨es, cl, hb, _⟩ := q2
      exact (Array.getElem?_eq_some_iff.1 hb).1
    · have hr := q3 p hp
      refine ⟨by obtain ⟨b, cap, r1, r2, r3⟩ := hr; exact ⟨b, cap, r1, by omega, r3⟩, fun k e => ?_⟩
      obtain ⟨b, cap, r1, r2, r3, r4, r5, r6⟩ := hr
      rw [r1] at e
      simp [Value.ownBlock] at e
      subst e
      obtain ⟨u, t, hu⟩ := List.exists_cons_of_ne_nil r3
      exact .inr ⟨r2, World.block_lt_of_cell? w' _ (r6 0 u (by rw [hu]; rfl))⟩
    · rintro k (hk | ⟨_, hk⟩)
      · exact Nat.lt_of_lt_of_le (h8 k hk) hg.size
      · exact hk
  | true =>
    refine (ndo_done n 0 vc vd mv _ w h4).mono ?_
    rintro e w' ⟨rfl, rfl⟩
    exact ⟨rfl, World.grownBy.refl _ _, F, fun _ h => h, fun _ h => .inl h, h0⟩

set_option maxHeartbeats 4000000 in
theorem nDecomp_f (n : Nat) (c : List Cls) (d : List Dec) (dn : Bool) (F : Nat → Prop) (r : Int) (w : World) (h : NrmF w n c d dn F) (hgd : good c d = true) :
    Calls Tryz.prog 14 #[.pointer (some ⟨n, 0, none⟩), .int .i32 r] w fun e w' => ∃ v, e = .returned v ∧ Runes w.heap.size w' v (told' d r) ∧ w.grownBy w' (some n) ∧ ∃ F' : Nat → Prop, (∀ k, F k → F' k) ∧ (∀ k, F' k → F k ∨ w.heap.size ≤ k) ∧ NrmF w' n c d true F' := by
  have hm := nIsMade n true w h.nrm.made
  have hmf : ∀ (fn : Fn) (first cap : Array Value) (w : World), (Instr.makeFunc fn first cap).run Tryz.prog w = .ok (.func fn first cap) w := fun _ _ _ _ => rfl
  have hD := nDo_f n c d dn F w h hgd
  clear h
  refine Calls.mono (R := fun e w' => ∃ v, e = .returned v ∧ (∃ w2, w.grownBy w2 (some n) ∧ (∃ F' : Nat → Prop, (∀ k, F k → F' k) ∧ (∀ k, F' k → F k ∨ w.heap.size ≤ k) ∧ NrmF w2 n c d true F') ∧ w2.grownBy w' none ∧ Runes w2.heap.size w' v (told' d r))) ?_ ?_
  · cases hs : stp d r with
    | none =>
      have ht : told' d r = byR r := by unfold told'; rw [hs]
      have hB := fun w => byRule_any r w
      have hbn := byR_ne r
      rw [ht]
      go_enter Tryz.func14, Tryz.ntmps14
      go_wp2_with (first
        | (go_at_call 48; refine hm.mono ?_; rintro e w' ⟨rfl, rfl⟩)
        | (go_at_call 49; refine hD.mono ?_; rintro e w2 ⟨rfl, hg2, hN0⟩; have hN2 : Nrm w2 n c d true := (by obtain ⟨_, _, _, h⟩ := hN0; exact h.nrm); replace hN0 := Lib.hid hN0; obtain ⟨vc, vd, mv, h1, h2, h3, h4, h5, h6⟩ := hN2; obtain ⟨m, rfl, hnm, hF⟩ := h6 rfl; obtain ⟨es, hes, hlk⟩ := hF.look; have k6 := h4.full; have hrun := run_lookup_ents (P := Tryz.prog) (t := 46) Tryz.underlying46 Tryz.underlying21 zeroRunes hes r; replace hlk := hlk r; rw [hs] at hlk; simp only at hlk; rw [hlk] at hrun; rw [Option.getD_none, Option.isSome_none] at hrun; clear h1 h2 h3 h4 h5 h6 hF hes hlk)
        | (go_at_call 52; refine (hB _).mono ?_; rintro e w3 ⟨v3, rfl, hR3, hg3⟩))
      go_ret
      exact ⟨_, rfl, _, hg2, hN0.out, hg3, hR3.runes hbn⟩
    | some x =>
      have ht : told' d r = whl d 4 x := by unfold told'; rw [hs]
      have hlen := told_length d r
      rw [ht] at hlen
      have hCp := fun v w h => ncopied_any (n + 1) v (whl d 4 x) w h (by omega)
      rw [ht]
      go_enter Tryz.func14, Tryz.ntmps14
      go_wp2_with (first
        | (go_at_call 48; refine hm.mono ?_; rintro e w' ⟨rfl, rfl⟩)
        | (go_at_call 49; refine hD.mono ?_; rintro e w2 ⟨rfl, hg2, hN0⟩; have hN2 : Nrm w2 n c d true := (by obtain ⟨_, _, _, h⟩ := hN0; exact h.nrm); replace hN0 := Lib.hid hN0; obtain ⟨vc, vd, mv, h1, h2, h3, h4, h5, h6⟩ := hN2; obtain ⟨m, rfl, hnm, hF⟩ := h6 rfl; obtain ⟨es, hes, hlk⟩ := hF.look; have k6 := h4.full; have hrun := run_lookup_ents (P := Tryz.prog) (t := 46) Tryz.underlying46 Tryz.underlying21 zeroRunes hes r; replace hlk := hlk r; rw [hs] at hlk; simp only at hlk; obtain ⟨vv, hlk, hRR⟩ := hlk; rw [hlk] at hrun; rw [Option.getD_some, Option.isSome_some] at hrun; clear h1 h2 h3 h4 h5 h6 hF hes hlk)
        | (go_at_call 51; refine (hCp _ _ hRR).mono ?_; rintro e w3 ⟨v3, rfl, hR3, hg3⟩))
      go_ret
      exact ⟨_, rfl, _, hg2, hN0.out, hg3, hR3⟩
  · rintro e w' ⟨v, rfl, w2, q1, ⟨F', f1, f2, f3⟩, q3, q4⟩
    obtain ⟨b, cap, s1, s2, s3⟩ := q4
    exact ⟨_, rfl, ⟨b, cap, s1, Nat.le_trans q1.size s2, s3⟩, q1.trans (gbut q3 _), F', f1, f2, f3.grown q3 (by simp)⟩

/-! ### Whoever made them -/
/-- Data at p, of classes cf and full decompositions df, whose blocks lie in F. -/
def ND (p : Value) (cf : Int → Int) (df : Int → List Int) (F : Nat → Prop) (w : World) : Prop :=
  (p = .pointer none ∧ cf = (fun _ => 0) ∧ df = (fun r => [r]) ∧ ∀ k, F k → k < w.heap.size) ∨ ∃ n c d dn, p = .pointer (some ⟨n, 0, none⟩) ∧ NrmF w n c d dn F ∧ good c d = true ∧ cf = clsOf c ∧ df = told' d
section
variable {p : Value} {cf : Int → Int} {df : Int → List Int} {F : Nat → Prop} {w w' : World} {q : Option Nat}
theorem ND.lt (h : ND p cf df F w) : ∀ k, F k → k < w.heap.size := by
  rcases h with ⟨_, _, _, h⟩ | ⟨n, c, d, dn, _, h, _⟩
  · exact h
  · exact h.lt
theorem ND.grown (h : ND p cf df F w) (hg : w.grownBy w' q) (hq : ∀ k, q = some k → ¬ F k) : ND p cf df F w' := by
  rcases h with ⟨h1, h2, h3, h4⟩ | ⟨n, c, d, dn, h1, h2, h3⟩
  · exact .inl ⟨h1, h2, h3, fun k hk => Nat.lt_of_lt_of_le (h4 k hk) hg.size⟩
  · exact .inr ⟨n, c, d, dn, h1, h2.grown hg hq, h3⟩
theorem ND.new (h : ND p cf df F w) (hg : w.grownBy w' none) : ND p cf df F w' := h.grown hg (by simp)
theorem nd_class (r : Int) (h : ND p cf df F w) : Calls Tryz.prog 15 #[p, .int .i32 r] w fun e w' => e = .returned (.int .i64 (cf r)) ∧ w.grownBy w' none := by
  rcases h with ⟨rfl, rfl, rfl, _⟩ | ⟨n, c, d, dn, rfl, h, hg, rfl, rfl⟩
  · refine (nClass_none _ r w (nIsMade_nil w)).mono ?_
    rintro e w' ⟨rfl, rfl⟩
    exact ⟨rfl, World.grownBy.refl _ _⟩
  · exact nClass_any n c d dn r w h.nrm hg
theorem nd_starter (r : Int) (h : ND p cf df F w) : Calls Tryz.prog 16 #[p, .int .i32 r] w fun e w' => e = .returned (.bool (cf r == 0)) ∧ w.grownBy w' none :=
  nStarter_of p r (cf r) w (nd_class r h)
theorem nDecomp_nil (r : Int) (w : World) :
    Calls Tryz.prog 14 #[.pointer none, .int .i32 r] w fun e w' => ∃ v, e = .returned v ∧ Runes w.heap.size w' v [r] ∧ w.grownBy w' none := by
  have hm := nIsMade_nil w
  go_enter Tryz.func14, Tryz.ntmps14
  go_wp2_with (go_at_call 48; refine hm.mono ?_; rintro e w' ⟨rfl, rfl⟩)
  go_ret
  refine ⟨_, rfl, ⟨w.heap.size, 1, rfl, Nat.le_refl _, by simp, by simp, by unfold maxLen; omega, fun i u hu => ?_⟩, World.grownBy_alloc w _ none⟩
  have hn := World.alloc_heap_new w (.cells #[.int .i32 r] 21)
  cases i with
  | zero => simp at hu; subst hu; simp only [World.cell?, hn]; rfl
  | succ i => simp at hu
theorem nd_decomp (r : Int) (h : ND p cf df F w) : Calls Tryz.prog 14 #[p, .int .i32 r] w fun e w' => ∃ v, e = .returned v ∧ Runes w.heap.size w' v (df r) ∧ (∃ q, w.grownBy w' q ∧ ∀ k, q = some k → F k ∧ p = .pointer (some ⟨k, 0, none⟩)) ∧ ∃ F' : Nat → Prop, (∀ k, F k → F' k) ∧ (∀ k, F' k → F k ∨ w.heap.size ≤ k) ∧ ND p cf df F' w' := by
  rcases h with ⟨rfl, rfl, rfl, hk⟩ | ⟨n, c, d, dn, rfl, h, hg, rfl, rfl⟩
  · refine (nDecomp_nil r w).mono ?_
    rintro e w' ⟨v, rfl, h1, h2⟩
    exact ⟨v, rfl, h1, ⟨none, h2, by simp⟩, F, fun _ h => h, fun _ h => .inl h, .inl ⟨rfl, rfl, rfl, fun k h => Nat.lt_of_lt_of_le (hk k h) h2.size⟩⟩
  · have hn : F n := by obtain ⟨_, _, _, _, _, _, _, h5, _⟩ := h; exact h5
    refine (nDecomp_f n c d dn F r w h hg).mono ?_
    rintro e w' ⟨v, rfl, h1, h2, F', f1, f2, f3⟩
    exact ⟨v, rfl, h1, ⟨some n, h2, fun k e => by cases e; exact ⟨hn, rfl⟩⟩, F', f1, f2, .inr ⟨n, c, d, true, rfl, f3, hg, rfl, rfl⟩⟩
end
end Go.Proofs.YtpdacbiiaglodaaGreat

/-
  LAYER 6 (norm): the stable sort's row (code points with their classes): what its bodies lean on, its comparison, insertion, exchange of ranges.
-/
namespace Go.Proofs.YtpdacbiiaglodaaGreat
set_option maxRecDepth 100000
open Go.Shelf Go.RowKit Go.Lib Go.Sort

def ins_ren : Go.Shelf.Ren := ⟨fun | 20 => 168 | n => n, fun | 22 => 168 | 24 => 170 | 25 => 173 | n => n, fun | n => n⟩
theorem insL : SlLaysF0.n20 Tryz.prog ins_ren := {
  mixed := by kernel_rfl
  f20 := ⟨Tryz.f168.name, by kernel_rfl, Tryz.func168.trans (congrArg some (by kernel_rfl))⟩
  t0 := Tryz.underlying0
  a0 := Tryz.isAgg0
  z0 := Tryz.sizeOf0
  v0 := Tryz.zeroValue0
  t3 := Tryz.underlying3
  a3 := Tryz.isAgg3
  z3 := Tryz.sizeOf3
  v3 := Tryz.zeroValue3
  t4 := Tryz.underlying4
  a4 := Tryz.isAgg4
  z4 := Tryz.sizeOf4
  v4 := Tryz.zeroValue4
  t22 := Tryz.underlying168
  a22 := Tryz.isAgg168
  z22 := Tryz.sizeOf168
  v22 := Tryz.zeroValue168
  t25 := Tryz.underlying173
  a25 := Tryz.isAgg173
  z25 := Tryz.sizeOf173
  v25 := Tryz.zeroValue173 }

/-- A code point with its class, in memory. -/
def kEnc (x : Int × Int) : List Value := [.int .i32 x.1, .int .i64 x.2]
/-- How two compare. -/
def kCmp (x y : Int × Int) : Int := Lib.compareInt x.2 y.2
theorem kCmp_lt (x y : Int × Int) : kCmp x y < 0 ↔ x.2 < y.2 := by
  unfold kCmp Lib.compareInt
  split
  · simp; omega
  · split <;> simp <;> omega
theorem ltOf_key (x y : Int × Int) : ltOf kCmp x y = true ↔ x.2 < y.2 := by
  unfold ltOf
  rw [decide_eq_true_eq]
  exact kCmp_lt x y
theorem kEnc_length (x : Int × Int) : (kEnc x).length = 2 := rfl
theorem kEnc_one (x : Int × Int) : ∀ v ∈ kEnc x, v.oneCell' = true := by
  intro v hv
  simp only [kEnc, List.mem_cons, List.not_mem_nil, or_false] at hv
  rcases hv with rfl | rfl <;> rfl

theorem kClosure (x y : Int × Int) (W : World) : Calls Tryz.prog 112 #[.agg #[.int .i32 x.1, .int .i64 x.2], .agg #[.int .i32 y.1, .int .i64 y.2]] W fun e w' => e = .returned (.int .i64 (kCmp x y)) ∧ ∃ q os', w' = grow (W.drewN q) os' := by
  have hcon := fun W' => Tryz.cmp_Compare_int x.2 y.2 W'
  unfold kCmp
  generalize Lib.compareInt x.2 y.2 = r at hcon ⊢
  go_enter Tryz.func112, Tryz.ntmps112
  go_wp2_with (go_at_call 113; refine (hcon _).mono ?_; rintro e w' ⟨rfl, rfl⟩)
  go_ret
  exact ⟨rfl, 0, _, by rw [alloc_eq_grow, alloc_eq_grow, grow_grow]; rfl⟩
theorem kCmpLays (blk off size : Nat) (w : World) : CmpLays Tryz.prog 112 #[] kEnc 2 kCmp blk off size w :=
  fun _ _ _ _ x y => kClosure x y _
theorem enters_kcmp : ∀ args w, (callFunc 112 args).run Tryz.prog w = .ok (.enter 112 args) w := enters_of Tryz.func112 (by kernel_rfl) rfl

/-- A row of them, among the worlds of its sort. -/
abbrev KRow (w0 : World) (blk off : Nat) (dk : Array (Int × Int)) (W : World) : Prop := SWK kEnc 2 w0 blk off dk W
abbrev KBase (w0 : World) (blk off : Nat) (d0 : Array (Int × Int)) : Prop := RowK kEnc 2 w0 blk off d0

theorem insertion_any (w0 w : World) (blk off cap : Nat) (d0 d : Array (Int × Int)) (X T Y : List (Int × Int)) (R : KBase w0 blk off d0) (hs : d0.size = d.size) (S : KRow w0 blk off d w) (hd : d.toList = X ++ (T ++ Y)) (hsz : d.size < 4611686018427387904) (a b : Nat) (ha : a = X.length) (hb : b = X.length + T.length) :
    Calls Tryz.prog 168 #[.slice (some ⟨blk, off, none⟩) d.size cap, .int .i64 a, .int .i64 b, .func (.func 112) #[] #[]] w fun e w' =>
      e = .returned (.tuple #[]) ∧ ∃ d' M, d'.toList = X ++ (M ++ Y) ∧ StM (fun x => x.2) T M ∧ KRow w0 blk off d' w' := by
  subst ha hb
  have hl : d.size = X.length + T.length + Y.length := by rw [size_list d _ hd]; simp; omega
  refine (AnyQ.insertionSortCmpFunc insL 2 Tryz.isAgg170 Tryz.sizeOf170 kEnc kEnc_length kEnc_one kCmp 112 #[] blk off cap X.length (X.length + T.length) d w enters_kcmp (kCmpLays _ _ _ _) (S.holds R.hblk R.hH hs.symm) (S.lt R.hblk) (by omega) (by omega) hsz).mono ?_
  rintro e w' ⟨rfl, n, os, rfl⟩
  obtain ⟨M, m1, m2⟩ := insertion_list (key := fun x : Int × Int => x.2) ltOf_key X T Y d hd
  refine ⟨rfl, _, M, m2, m1, S.on R.hblk n _ os ?_⟩
  rw [size_list _ _ m2, hl]
  have := m1.2.2
  simp
  omega
end Go.Proofs.YtpdacbiiaglodaaGreat
