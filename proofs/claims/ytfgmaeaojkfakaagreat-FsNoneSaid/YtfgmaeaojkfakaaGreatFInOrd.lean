/-
  LAYER 1 (fs): a directory's files in the order of their names: the iterator inOrder$1.
-/
import Derived.Test.YtfgmaeaojkfakaaGreatFDir
import Derived.Test.YtfgmaeaojkfakaaGreatFRangeZ
import Derived.Test.YtfgmaeaojkfakaaGreatFKeys
import Derived.TacticsInMore
import Derived.LoopIn
import Derived.LoopNIn
import Derived.OwnWalkIn
namespace Go.Proofs.YtfgmaeaojkfakaaGreat
set_option maxRecDepth 100000
open Go.RowKit Go.Lib
open Go.Proofs (encStr)
attribute [local go_sem] Oper.semAt_some

/-- The files in the order of their names. -/
def DirL.sorted (l : DirL) : DirL := (l.names.mergeSort leB).map (fun x => (x, (l.look x).getD 0))
theorem DirL.sorted_length (l : DirL) : l.sorted.length = l.length := by simp [DirL.sorted, DirL.names, List.length_mergeSort]
theorem DirL.sorted_at (l : DirL) (j : Nat) (hj : j < l.length) : ∃ x b, l.sorted[j]? = some (x, b) ∧ (l.names.mergeSort leB)[j]? = some x ∧ l.look x = some b ∧ x ∈ l.names := by
  have hm : (l.names.mergeSort leB).length = l.length := by simp [DirL.names, List.length_mergeSort]
  have hx : (l.names.mergeSort leB)[j]? = some ((l.names.mergeSort leB)[j]'(by omega)) := List.getElem?_eq_getElem (by omega)
  have hin : (l.names.mergeSort leB)[j]'(by omega) ∈ l.names := (List.mergeSort_perm l.names leB).mem_iff.1 (List.getElem_mem _)
  obtain ⟨b, hb⟩ := Option.isSome_iff_exists.1 (DirL.look_names.2 hin)
  refine ⟨_, b, ?_, hx, hb, hin⟩
  unfold DirL.sorted
  rw [List.getElem?_map, hx]
  simp [hb]

def dEnc (x : List UInt8 × Nat) : Array Value := #[encStr x.1, .pointer (some ⟨x.2, 0, none⟩)]
def dOk (l : DirL) (pre : List (List UInt8 × Nat)) (x : List UInt8 × Nat) (_ : World) : Prop := pre = l.sorted.take pre.length ∧ l.sorted[pre.length]? = some x
def dAll (l : DirL) (xs : List (List UInt8 × Nat)) (_ : World) : Prop := xs = l.sorted

theorem DirM.zk {A B : World} {d : Nat} {l : DirL} {Z : Nat → Prop} (h : DirM A d l) (hk : ZK Z A B) (hd : Z d) : DirM B d l := by
  obtain ⟨h1, h2, n, D, ⟨es, clock, hb, hF, hs, hD⟩, h4⟩ := h
  exact ⟨h1, h2, n, D, ⟨es, clock, (hk.2 d (lt_of_block hb) hd).trans hb, hF, hs, hD⟩, h4⟩

theorem Boxed.zk {A B : World} {p : Nat} {t : TypeId} {v : Value} {Z : Nat → Prop} (h : Boxed A p t v) (hk : ZK Z A B) (hd : Z p) : Boxed B p t v := (hk.2 p h.lt hd).trans h

theorem rowFormS {w : World} {B s n : Nat} {e : TypeId} {v : Value} {xs : List Value} (h : w.ownsRow B e s v n xs) : ∃ a c, v = .slice a n c := by
  obtain ⟨_, ⟨rfl, hn⟩ | ⟨g, cap, cur, rfl, _⟩⟩ := h
  · exact ⟨none, 0, by rw [hn]⟩
  · exact ⟨_, _, rfl⟩
theorem ownsRow_zk {A B : World} {e : TypeId} {b s n : Nat} {v : Value} {xs : List Value} {Z : Nat → Prop} (h : A.ownsRow b e s v n xs) (hk : ZK Z A B) (hv : ∀ k, v.ownBlock = some k → Z k) : B.ownsRow b e s v n xs := by
  obtain ⟨q1, q2 | ⟨g, cap, cur, rfl, q4, q5, q6⟩⟩ := h
  · exact ⟨q1, .inl q2⟩
  · exact ⟨q1, .inr ⟨g, cap, cur, rfl, q4, (hk.2 g (lt_of_block q5) (hv g rfl)).trans q5, q6⟩⟩

set_option maxHeartbeats 8000000 in
theorem inOrder1_tells (n p d : Nat) (l : DirL) (w : World) (hn : 8 ≤ n) (hw : Boxed w p 69 (.map (some d))) (hd : DirM w d l) (hlim : l.length ≤ 8796093022208) :
    TellsZ Fence.wide n Tryz.prog 99 #[.pointer (some ⟨p, 0, none⟩)] dEnc (dOk l) (fun k => k = p ∨ k = d) (dAll l) (fun _ _ => True) w := by
  intro ll J Jx W Z hzk hz0 hzl hzn hll hJ hJx hY h0
  have hst : Boxed W p 69 (.map (some d)) := Boxed.zk hw hzk (.inl rfl)
  have hdW : DirM W d l := hd.zk hzk (.inr rfl)
  have hpl := hst.lt
  clear hw hd hzk
  have hc1 := hst.cell
  have hk1 := fun W' => keys_call d W'
  have hk2 := fun W' (g : W.grownBy W' none) => sorted_call W.heap.size d l W' 
  obtain ⟨n, rfl⟩ : ∃ m, n = m + 8 := ⟨n - 8, by omega⟩
  have hf1 : Fence.wide.fn 101 := trivial
  have hf2 : Fence.wide.fn 100 := trivial
  refine callsIn_of_wp Tryz.func99 rfl trivial ?_ rfl
  simp only [Tryz.ntmps99, List.size_toArray, List.length_cons, List.length_nil, Nat.reduceAdd, Nat.reduceSub, Array.replicate_succ, Array.replicate_zero, List.push_toArray, List.append_toArray, List.nil_append, List.cons_append]
  gi_wp2_with (first
    | (gi_at_call 101; refine (callsIn_wide.2 (hk1 _)).mono ?_; rintro e w2 ⟨rfl, rfl⟩)
    | (gi_at_call 100; refine (callsIn_wide.2 (hk2 _ (World.grownBy_alloc W _ none) (Boxed.new W _ _).cell (hdW.kept (World.grownBy_alloc W _ none) (by simp)) hlim)).mono ?_; rintro e w3 ⟨v, rfl, ho, hg⟩; obtain ⟨a, c, rfl⟩ := rowFormS ho))
  have gW : W.grownBy w3 none := (World.grownBy_alloc W _ none).trans hg
  have hw3 : W.heap.size + 1 ≤ w3.heap.size := by have := hg.size; simpa using this
  obtain ⟨Z1, hZ1⟩ : ∃ Z1 : Nat → Prop, Z1 = fun k => Z k ∨ W.heap.size ≤ k ∧ k < w3.heap.size := ⟨_, rfl⟩
  have hzz : ∀ k, Z k → Z1 k := fun k h => by rw [hZ1]; exact .inl h
  have hz1l : ∀ k, Z1 k → k < w3.heap.size := fun k h => by
    rw [hZ1] at h
    rcases h with h | h
    · have := hzl k h; omega
    · exact h.2
  have h3 : J Z1 [] w3 := hJ.more _ _ _ _ _ h0 gW hzz (fun k h => by rw [hZ1] at h; exact h)
  have hst3 := hst.kept gW (by simp)
  have hd3 := hdW.kept gW (by simp)
  have hvz : ∀ k, (Value.slice a l.length c).ownBlock = some k → Z1 k ∧ k ≠ ll := fun k e => by
    have := World.ownsRow.lt ho k e
    simp at this
    rw [hZ1]
    exact ⟨.inr (by omega), by omega⟩
  have hpz : Z1 p ∧ p ≠ ll := ⟨hzz _ (hz0 _ (.inl rfl)), hzn _ (.inl rfl)⟩
  have hdz : Z1 d ∧ d ≠ ll := ⟨hzz _ (hz0 _ (.inr rfl)), hzn _ (.inr rfl)⟩
  have hz01 : ∀ k, k = p ∨ k = d → Z1 k := fun k h => hzz k (hz0 k h)
  replace ho : w3.ownsRow 0 9 1 (.slice a l.length c) l.length ((l.names.mergeSort leB).map encStr) := by
    obtain ⟨q1, q2 | ⟨g, cap, cur, q3, q4, q5⟩⟩ := ho
    · exact ⟨q1, .inl q2⟩
    · exact ⟨q1, .inr ⟨g, cap, cur, q3, Nat.zero_le _, q5⟩⟩
  clear hst hdW hk1 hk2 hc1 h0 hg
  gi_wp2_with fail
  gi_loopw [4, 9] (fun _ va wr => ∃ (pre : List (List UInt8 × Nat)) (j : Nat), va = .int .i64 (j : Int) ∧ Hid (pre = l.sorted.take j) ∧ j ≤ l.length ∧ J Z1 pre wr ∧ ZK (fun k => Z1 k ∧ k ≠ ll) w3 wr) (fun _ va _ => l.length - (RowKit.intOf va).toNat)
  case atStart => exact ⟨[], 0, rfl, Lib.hid rfl, Nat.zero_le _, h3, ZK.refl _ _⟩
  case round =>
    obtain ⟨pre, j, rfl, hpl, hj, hJj, hzj⟩ := hrel
    have hpj : pre.length = j := by rw [hpl.out, List.length_take, DirL.sorted_length]; omega
    have hzjs := hzj.1
    by_cases hlt : j < l.length
    · obtain ⟨x, b, hs, hm, hlk, hin⟩ := DirL.sorted_at l j hlt
      have hrow := ownsRow_zk ho hzj hvz
      have hdj := hd3.zk hzj hdz
      have hbj := (Boxed.zk hst3 hzj hpz).cell
      obtain ⟨g, rfl⟩ : ∃ g, a = some ⟨g, 0, none⟩ := by
        obtain ⟨_, ⟨e, hz⟩ | ⟨g9, cap, cur, e, _⟩⟩ := hrow
        · omega
        · simp at e; exact ⟨g9, e.1⟩
      have hcell : wr.cell? ⟨g, j, none⟩ = some (encStr x) := by
        rw [World.ownsRow.cellAt hrow j (by omega)]
        simp [hm]
      have hrun := hdj.lookup ⟨x.toArray⟩ (by have := hdj.2.1 x hin; show x.toArray.size ≤ maxLen; simpa using this)
      rw [show (⟨x.toArray⟩ : ByteArray).data.toList = x by simp, hlk] at hrun
      unfold ptrV at hrun
      have hok : dOk l pre (x, b) wr := ⟨by rw [hpj]; exact hpl.out, by rw [hpj]; exact hs⟩
      have hnx : Hid (pre ++ [(x, b)] = l.sorted.take (j + 1)) := Lib.hid (by rw [hpl.out, List.take_add_one, hs]; rfl)
      obtain ⟨fn, tmps, assign, body, hy, hRd⟩ := hY Z1 pre (x, b) wr hz01 (fun k h => Nat.lt_of_lt_of_le (hz1l k h) hzjs) hJj hok
      dsimp only [dEnc] at hy
      unfold encStr at hcell hy
      obtain ⟨s, hsv⟩ : ∃ s : ByteArray, s = ⟨x.toArray⟩ := ⟨_, rfl⟩
      rw [← hsv] at hcell hy hrun
      clear hrow hdj hok hm hs hin hlk hpl hsv
      gi_wp2
      refine hRd.mono ?_
      rintro e3 W5 (⟨rfl, hj3, hk3⟩ | ⟨rfl, hj3, hk3⟩)
      all_goals gi_wp2
      all_goals first
        | exact ⟨⟨pre ++ [(x, b)], j + 1, by go_num, hnx, by omega, hj3, hzj.trans hk3⟩, by simp [RowKit.intOf]; omega⟩
        | (refine bodyPost_ret (results_none rfl _ _ _) rfl ?_; exact ⟨⟨_, rfl⟩, Z1, hzz, (fun k h => Nat.lt_of_lt_of_le (hz1l k h) (Nat.le_trans hzjs hk3.1)), .inr ⟨_, trivial, hj3⟩⟩)
        | (go_end0; exact ⟨⟨_, rfl⟩, Z1, hzz, (fun k h => Nat.lt_of_lt_of_le (hz1l k h) (Nat.le_trans hzjs hk3.1)), .inr ⟨_, trivial, hj3⟩⟩)
    · obtain rfl : j = l.length := by omega
      have hall : dAll l pre wr := by unfold dAll; rw [hpl.out, List.take_of_length_le (by rw [DirL.sorted_length]; omega)]
      clear hpl hpj
      gi_wp2
      all_goals first
        | (refine bodyPost_ret (results_none rfl _ _ _) rfl ?_; exact ⟨⟨_, rfl⟩, Z1, hzz, (fun k h => Nat.lt_of_lt_of_le (hz1l k h) hzjs), .inl ⟨pre, hall, hJj⟩⟩)
        | (go_end0; exact ⟨⟨_, rfl⟩, Z1, hzz, (fun k h => Nat.lt_of_lt_of_le (hz1l k h) hzjs), .inl ⟨pre, hall, hJj⟩⟩)
end Go.Proofs.YtfgmaeaojkfakaaGreat
