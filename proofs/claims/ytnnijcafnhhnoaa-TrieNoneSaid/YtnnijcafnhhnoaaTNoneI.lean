/-
  LAYER 9 (trie): the iterators of a trie that nobody made: they tell nothing.
-/
import Derived.Test.YtnnijcafnhhnoaaTFind
import Derived.Test.YtnnijcafnhhnoaaFRangeZ
import Derived.RangeFuncNested
import Derived.RangeFuncBound
import Derived.RangeFuncCalls
import Derived.RangeFuncLeaves
import Derived.Shelf.Abstract
import Derived.Shelf.RegionOpen
import Derived.WalkKit
import Derived.OwnWalkIn
import Derived.TacticsInMore
import Derived.LoopNIn
import Derived.LoopIn
namespace Go.Proofs.Ytnnijcafnhhnoaa
set_option maxRecDepth 100000
open Go.RowKit Go.Lib
attribute [local go_sem] Oper.semAt_some

theorem Box.zk {Z : Nat → Prop} {A B : World} {b : Nat} {e : TypeId} {v : Value} (h : Box A b e v) (hk : ZK Z A B) (hz : Z b) : Box B b e v := (hk.2 b h.lt hz).trans h

/-- What is told of an entry: its number, its code points and elements in memory of their own. -/
structure Tl where
  i : Nat
  a : Option Addr
  n : Nat
  b : Option Addr
  m : Nat
def Tl.agg (x : Tl) : Value := .agg #[.slice x.a x.n x.n, .slice x.b x.m x.m]
def nEnc (x : Tl) : Array Value := #[.int .i64 (x.i : Int), .agg #[.slice x.a x.n x.n, .slice x.b x.m x.m]]
def eEnc (x : Tl) : Array Value := #[.agg #[.slice x.a x.n x.n, .slice x.b x.m x.m]]
def nNone (xs : List Tl) (_W : World) : Prop := xs = []

set_option maxHeartbeats 2000000 in
theorem from1_none (n q3 q2 : Nat) (Z0 : Nat → Prop) (w : World) (hb : Box w q3 55 (.pointer none)) (hz3 : Z0 q3) :
    TellsZ Fence.wide n Try.prog 49 #[.pointer (some ⟨q3, 0, none⟩), .pointer (some ⟨q2, 0, none⟩)] nEnc (fun _ _ _ => False) Z0 nNone (fun _ _ => False) w := by
  intro l J Jx W Z hzk hz0 hzl hzn hll hJ hJx hY h0
  have hbW := hb.zk hzk hz3
  have g1 := World.grownBy_alloc W (.cells #[.func (.yield l) #[] #[]] 89) none
  have c1 := (hbW.new g1).c0
  have hJ1 := Lib.hid (hJ.more Z Z [] _ _ h0 g1 (fun _ h => h) (fun _ h => .inl h))
  have hz1 : ∀ k, Z k → k < (W.alloc (.cells #[.func (.yield l) #[] #[]] 89)).heap.size := fun k h => Nat.lt_of_lt_of_le (hzl k h) g1.size
  replace hz1 := Lib.hid hz1
  clear hJ hJx hY h0 hzk hb g1 hzn
  refine callsIn_of_wp Try.func49 rfl trivial ?_ rfl
  simp only [Try.ntmps49, List.size_toArray, List.length_cons, List.length_nil, Nat.reduceAdd, Nat.reduceSub, Array.replicate_succ, Array.replicate_zero, List.push_toArray, List.append_toArray, List.nil_append, List.cons_append]
  gi_wp2
  refine bodyPost_ret (results_none rfl _ _ _) rfl ?_
  exact ⟨⟨_, rfl⟩, Z, fun _ h => h, hz1.out, .inl ⟨[], rfl, hJ1.out⟩⟩

set_option maxHeartbeats 4000000 in
theorem under1_none (n eb q3 q2 : Nat) (Z0 : Nat → Prop) (w : World) (he : Box w eb 46 (.func (.func 49) #[] #[.pointer (some ⟨q3, 0, none⟩), .pointer (some ⟨q2, 0, none⟩)])) (hb : Box w q3 55 (.pointer none)) (hz3 : Z0 q3) (hze : Z0 eb) :
    TellsZ Fence.wide (n + 5) Try.prog 40 #[.pointer (some ⟨eb, 0, none⟩)] eEnc (fun _ _ _ => False) Z0 nNone (fun _ _ => False) w := by
  intro l J Jx W Z hzk hz0 hzl hzn hll hJ hJx hY h0
  have hbW := hb.zk hzk hz3
  have heW := he.zk hzk hze
  have g1 := World.grownBy_alloc W (.cells #[.func (.yield l) #[] #[]] 82) none
  have c1 := (heW.new g1).c0
  have hb1 := hbW.new g1
  have hJ1 := Lib.hid (hJ.more Z Z [] _ _ h0 g1 (fun _ h => h) (fun _ h => .inl h))
  have hz1 : ∀ k, Z k → k < (W.alloc (.cells #[.func (.yield l) #[] #[]] 82)).heap.size := fun k h => Nat.lt_of_lt_of_le (hzl k h) g1.size
  have hs1 : W.heap.size ≤ (W.alloc (.cells #[.func (.yield l) #[] #[]] 82)).heap.size := g1.size
  have hZ3 := hz0 _ hz3
  clear hJx hY h0 hzk hb g1 hzn he heW hbW
  refine callsIn_of_wp_marks Try.func40 rfl trivial ?_ rfl
  simp only [Try.ntmps40, List.size_toArray, List.length_cons, List.length_nil, Nat.reduceAdd, Nat.reduceSub, Array.replicate_succ, Array.replicate_zero, List.push_toArray, List.append_toArray, List.nil_append, List.cons_append]
  gi_wp2_with fail
  generalize W.alloc (.cells #[.func (.yield l) #[] #[]] 82) = V at *
  refine range_tellsZ rfl (by omega) (gf := 49) (lb := #[.pointer (some ⟨q3, 0, none⟩), .pointer (some ⟨q2, 0, none⟩)]) rfl trivial (enters_of Try.func49 (by kernel_rfl) rfl)
    (from1_none _ q3 q2 Z V hb1 hZ3) hz1 (fun _ => rfl) (fun _ _ _ _ _ _ h _ _ _ => h) (fun Z' _ A => J Z' [] A ∧ V.heap.size ≤ A.heap.size) (fun _ _ _ _ => False) ?hn ?hI ?hIx ⟨hJ1.out, Nat.le_refl _⟩ (fun _ _ _ => True) (fun _ _ _ _ h _ => h) (fun _ _ _ _ _ _ _ _ _ _ => trivial) ?assign ?body ?done ?stop
  case hn => exact fun Z s A h => h.2
  case hI =>
    exact ⟨fun Z' Z'' s A B h g h1 h2 => ⟨hJ.more _ _ _ _ _ h.1 g h1 h2, Nat.le_trans h.2 g.size⟩, fun Z' s A B q h h1 h2 g => ⟨hJ.own _ _ _ _ q h.1 h1 (by omega) g, Nat.le_trans h.2 g.size⟩⟩
  case hIx => exact fun c => ⟨fun _ _ _ _ _ h _ _ _ => h.elim, fun _ _ _ _ _ h _ _ _ => h.elim⟩
  case assign =>
    intro l' x W' K hK
    unfold nEnc
    gi_wp2_with fail
    exact hK _ _ (World.grownBy_alloc W' _ none) trivial
  case body =>
    intro l' Z' pre x a' W' _ _ _ h
    exact h.elim
  case stop =>
    rintro D c Z' pre A B _ _ _ _ h
    exact h.elim
  case done =>
    rintro D Z' xs A B hD hZD hz' hzl' hS ⟨hj, hsz⟩ gD hM
    have gp := grownBy_putObj' B D (.deferred none)
    have hj2 := Lib.hid (hJ.own _ _ _ _ D hj hZD (by omega) gp)
    have hzz := Lib.hid hzl'
    have hz'' := Lib.hid hz'
    clear hj gp hJ hS gD hz' hzl' hJ1 hzl hz1 hz0
    gi_wp2_with fail
    refine ⟨by simp, .inl ⟨_, _, rfl, run_takeDeferred hM, ?_⟩⟩
    simp [LeavesInM, LeavesIn, results, Try.results40, go_sem]
    exact ⟨Z', hz''.out, hzz.out, [], rfl, hj2.out⟩
end Go.Proofs.Ytnnijcafnhhnoaa
