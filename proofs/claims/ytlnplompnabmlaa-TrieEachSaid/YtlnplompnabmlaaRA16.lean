/-
  LAYER 9 (trie): the order of entries, pure: what begins with a list, in order.
-/
import Derived.Test.YtlnplompnabmlaaRA14
import Derived.Test.YtlnplompnabmlaaRA15
namespace Go.Proofs.Ytlnplompnabmlaa
set_option maxRecDepth 100000

/-- The order of lists of code points. -/
def lessL : List Int → List Int → Bool
  | [], [] => false
  | [], _ :: _ => true
  | _ :: _, [] => false
  | x :: a, y :: b => if x = y then lessL a b else decide (x < y)
theorem lessL_irrefl : ∀ a : List Int, lessL a a = false
  | [] => rfl
  | x :: a => by rw [lessL, if_pos rfl]; exact lessL_irrefl a
theorem lessL_trans : ∀ a b c : List Int, lessL a b = true → lessL b c = true → lessL a c = true
  | [], [], _, h, _ => by cases h
  | [], _ :: _, [], _, h => by cases h
  | [], _ :: _, _ :: _, _, _ => rfl
  | _ :: _, [], _, h, _ => by cases h
  | _ :: _, _ :: _, [], _, h => by cases h
  | x :: a, y :: b, z :: c, h1, h2 => by
    rw [lessL] at h1 h2 ⊢
    by_cases hxy : x = y
    · subst hxy
      rw [if_pos rfl] at h1
      by_cases hxz : x = z
      · rw [if_pos hxz] at h2 ⊢
        exact lessL_trans a b c h1 h2
      · rw [if_neg hxz] at h2 ⊢
        exact h2
    · rw [if_neg hxy] at h1
      have h1' : x < y := by simpa using h1
      by_cases hyz : y = z
      · subst hyz
        rw [if_neg hxy]
        exact h1
      · rw [if_neg hyz] at h2
        have h2' : y < z := by simpa using h2
        rw [if_neg (by omega)]
        simp; omega
theorem lessL_total : ∀ a b : List Int, a ≠ b → lessL a b = true ∨ lessL b a = true
  | [], [], h => absurd rfl h
  | [], _ :: _, _ => .inl rfl
  | _ :: _, [], _ => .inr rfl
  | x :: a, y :: b, h => by
    rw [lessL, lessL]
    by_cases hxy : x = y
    · subst hxy
      rw [if_pos rfl, if_pos rfl]
      exact lessL_total a b (fun e => h (by rw [e]))
    · rw [if_neg hxy, if_neg (Ne.symm hxy)]
      rcases Int.lt_or_gt_of_ne hxy with h | h
      · left; simpa using h
      · right; simpa using h
theorem lessL_asymm {a b : List Int} (h : lessL a b = true) : lessL b a = false := by
  cases h2 : lessL b a with
  | false => rfl
  | true => have := lessL_trans a b a h h2; rw [lessL_irrefl] at this; cases this
theorem lessL_app : ∀ (p a b : List Int), lessL (p ++ a) (p ++ b) = lessL a b
  | [], _, _ => rfl
  | x :: p, a, b => by
    rw [List.cons_append, List.cons_append, lessL, if_pos rfl]
    exact lessL_app p a b

/-- Numbers in the order of what they stand for. -/
def Strict (c : Nat → List Int) (l : List Nat) : Prop := l.Pairwise fun i j => lessL (c i) (c j) = true
theorem strict_eq {c : Nat → List Int} : ∀ (l l' : List Nat), Strict c l → Strict c l' → (∀ i, i ∈ l ↔ i ∈ l') → l = l'
  | [], [], _, _, _ => rfl
  | [], y :: ys, _, _, h => by have := (h y).2 (by simp); simp at this
  | x :: xs, [], _, _, h => by have := (h x).1 (by simp); simp at this
  | x :: xs, y :: ys, h1, h2, h => by
    unfold Strict at h1 h2
    rw [List.pairwise_cons] at h1 h2
    have hxy : x = y := by
      rcases List.mem_cons.1 ((h x).1 (by simp)) with e | e
      · exact e
      · rcases List.mem_cons.1 ((h y).2 (by simp)) with e' | e'
        · exact e'.symm
        · have a1 := h2.1 x e
          have a2 := lessL_asymm (h1.1 y e')
          rw [a1] at a2
          cases a2
    subst hxy
    have nx : x ∉ xs := fun e => by have := h1.1 x e; rw [lessL_irrefl] at this; cases this
    have ny : x ∉ ys := fun e => by have := h2.1 x e; rw [lessL_irrefl] at this; cases this
    rw [strict_eq xs ys h1.2 h2.2 (fun i => ?_)]
    constructor
    · intro hi
      rcases List.mem_cons.1 ((h i).1 (List.mem_cons_of_mem _ hi)) with e | e
      · exact absurd (e ▸ hi) nx
      · exact e
    · intro hi
      rcases List.mem_cons.1 ((h i).2 (List.mem_cons_of_mem _ hi)) with e | e
      · exact absurd (e ▸ hi) ny
      · exact e

/-- Those whose code points begin with p, in order. -/
def underL (c : Nat → List Int) (O : List Nat) (p : List Int) : List Nat := O.filter fun i => p.isPrefixOf (c i)
theorem mem_under {c : Nat → List Int} {O : List Nat} {p : List Int} {i : Nat} : i ∈ underL c O p ↔ i ∈ O ∧ p <+: c i := by
  unfold underL
  rw [List.mem_filter, List.isPrefixOf_iff_prefix]
theorem under_strict {c : Nat → List Int} {O : List Nat} (h : Strict c O) (p : List Int) : Strict c (underL c O p) := List.Pairwise.filter _ h

theorem under_step {c : Nat → List Int} {O : List Nat} (h : Strict c O) (p : List Int) (R : List Int) (hR : R.Pairwise (· < ·)) (hk : ∀ i ∈ O, ∀ r s, c i = p ++ r :: s → r ∈ R) :
    underL c O p = O.filter (fun i => decide (c i = p)) ++ R.flatMap (fun r => underL c O (p ++ [r])) := by
  refine strict_eq (c := c) _ _ (under_strict h p) ?_ (fun i => ?_)
  · unfold Strict
    rw [List.pairwise_append]
    refine ⟨List.Pairwise.filter _ h, ?_, ?_⟩
    · rw [List.pairwise_flatMap]
      refine ⟨fun r _ => under_strict h _, hR.imp (fun {r r'} hrr i hi j hj => ?_)⟩
      obtain ⟨_, s, hs⟩ := mem_under.1 hi
      obtain ⟨_, s', hs'⟩ := mem_under.1 hj
      rw [← hs, ← hs', List.append_assoc, List.append_assoc, lessL_app]
      show (if r = r' then _ else decide (r < r')) = true
      rw [if_neg (by omega)]
      simpa using hrr
    · intro i hi j hj
      obtain ⟨r, _, hj⟩ := List.mem_flatMap.1 hj
      obtain ⟨_, s, hs⟩ := mem_under.1 hj
      have hi' : c i = p := by simpa using (List.mem_filter.1 hi).2
      rw [hi', ← hs, List.append_assoc]
      have := lessL_app p [] ([r] ++ s)
      rw [List.append_nil] at this
      rw [this]
      rfl
  · rw [mem_under, List.mem_append, List.mem_filter, List.mem_flatMap]
    constructor
    · rintro ⟨hi, s, hs⟩
      cases s with
      | nil => left; exact ⟨hi, by simp [← hs]⟩
      | cons r s =>
        right
        exact ⟨r, hk i hi r s hs.symm, mem_under.2 ⟨hi, s, by rw [← hs]; simp⟩⟩
    · rintro (⟨hi, hp⟩ | ⟨r, _, hi⟩)
      · have hp' : c i = p := by simpa using hp
        exact ⟨hi, by rw [hp']; exact List.prefix_refl p⟩
      · obtain ⟨h1, s, hs⟩ := mem_under.1 hi
        exact ⟨h1, [r] ++ s, by rw [← hs]; simp⟩
end Go.Proofs.Ytlnplompnabmlaa

/-
  LAYER 9 (trie): the numbers under a path, as the tree's iterator tells them.
-/
namespace Go.Proofs.Ytlnplompnabmlaa
set_option maxRecDepth 100000
open Go.RowKit

/-- The code points of the i-th entry. -/
def codesAt (cs : List (List Int)) (i : Nat) : List Int := (cs[i]?).getD []
/-- The numbers of those that begin with p, in order. -/
def numsU (cs : List (List Int)) (O : List Nat) (p : List Int) : List Int := (underL (codesAt cs) O p).map fun i : Nat => (i : Int)

theorem at_inj {cs : List (List Int)} (hn : cs.Nodup) {i j : Nat} (hi : i < cs.length) (hj : j < cs.length) (h : codesAt cs i = codesAt cs j) : i = j := by
  unfold codesAt at h
  rw [List.getElem?_eq_getElem hi, List.getElem?_eq_getElem hj] at h
  exact (List.getElem_inj hn).1 (by simpa using h)

theorem head_eq {cs : List (List Int)} (hn : cs.Nodup) {O : List Nat} (hO : Strict (codesAt cs) O) (hm : ∀ i, i ∈ O ↔ i < cs.length) (p : List Int) :
    (O.filter (fun i => decide (codesAt cs i = p))).map (fun i : Nat => (i : Int)) = headN (numOf cs p) := by
  unfold headN
  by_cases hp : p ∈ cs
  · obtain ⟨k, e1, e2, e3⟩ := numOf_at hp
    have hk : codesAt cs k = p := by unfold codesAt; rw [e3]; rfl
    rw [e1, if_neg (by omega)]
    have : O.filter (fun i => decide (codesAt cs i = p)) = [k] := by
      refine strict_eq (c := codesAt cs) _ _ (List.Pairwise.filter _ hO) (List.pairwise_singleton _ _) (fun i => ?_)
      rw [List.mem_filter, List.mem_singleton, hm]
      constructor
      · rintro ⟨h1, h2⟩
        exact at_inj hn h1 e2 ((by simpa using h2 : codesAt cs i = p).trans hk.symm)
      · rintro rfl
        exact ⟨e2, by simp [hk]⟩
    rw [this]
    rfl
  · rw [if_pos (numOf_none.2 hp)]
    have : O.filter (fun i => decide (codesAt cs i = p)) = [] := by
      rw [List.filter_eq_nil_iff]
      intro i hi h
      have hl := (hm i).1 hi
      refine hp ?_
      rw [← (by simpa using h : codesAt cs i = p)]
      unfold codesAt
      rw [List.getElem?_eq_getElem hl]
      exact List.getElem_mem hl
    rw [this]
    rfl

theorem inOrder_rises {l : List Int} (hn : l.Nodup) : (inOrder l).Pairwise (· < ·) := by
  have tr : ∀ a b c : Int, (!less b a) = true → (!less c b) = true → (!less c a) = true := fun a b c h1 h2 => by simp [less] at *; omega
  have tl : ∀ a b : Int, ((!less b a) || (!less a b)) = true := fun a b => by simp [less]; omega
  have h1 := List.pairwise_mergeSort (le := fun x y => !less y x) tr tl l
  have h2 : (inOrder l).Nodup := (List.mergeSort_perm l _).nodup_iff.2 hn
  exact (h1.and h2).imp (fun {a b} h => by
    have h3 : (!less b a) = true := h.1
    have h4 : a ≠ b := h.2
    simp [less] at h3
    omega)

theorem nums_step {cs : List (List Int)} (hn : cs.Nodup) {O : List Nat} (hO : Strict (codesAt cs) O) (hm : ∀ i, i ∈ O ↔ i < cs.length) {nd : List Int → Option Nat} (hd : ∀ p, nd p ≠ none ↔ p = [] ∨ ∃ x ∈ cs, p <+: x) (p : List Int) (kl : Kl) (hk : KidsOf nd p kl) :
    numsU cs O p = headN (numOf cs p) ++ (inOrder (kl.map (·.1))).flatMap (fun r => numsU cs O (p ++ [r])) := by
  unfold numsU
  rw [under_step hO p (inOrder (kl.map (·.1))) (inOrder_rises hk.1) (fun i hi r s e => ?_), List.map_append, head_eq hn hO hm, List.map_flatMap]
  have hl := (hm i).1 hi
  have hc : codesAt cs i ∈ cs := by
    unfold codesAt
    rw [List.getElem?_eq_getElem hl]
    exact List.getElem_mem hl
  have hne : nd (p ++ [r]) ≠ none := (hd _).2 (.inr ⟨_, hc, s, by rw [e]; simp⟩)
  obtain ⟨c, hcc⟩ := Option.ne_none_iff_exists'.1 hne
  exact ((List.mergeSort_perm _ _).mem_iff).2 (List.mem_map.2 ⟨(r, c), (hk.2 r c).2 hcc, rfl⟩)
end Go.Proofs.Ytlnplompnabmlaa

/-
  LAYER 9 (trie): the entries from a node of a made trie on, told in order, with their numbers.
-/
namespace Go.Proofs.Ytlnplompnabmlaa
set_option maxRecDepth 100000
open Go.RowKit Go.Lib
attribute [local go_sem] Oper.semAt_some

/-- What is told next, behind what was told: the entry with the next number, its code points and elements in blocks that hold nothing else. -/
def tOk (L : List Ent) (U : List Int) (pre : List Tl) (x : Tl) (A : World) : Prop :=
  pre.map (fun y => (y.i : Int)) = U.take pre.length ∧ U[pre.length]? = some (x.i : Int) ∧ ∃ e, L[x.i]? = some e ∧ x.n = e.codes.length ∧ x.m = e.els.length ∧ SO (fun _ => True) 21 1 A (.slice x.a x.n x.n) x.n (rc e.codes) ∧ SO (fun _ => True) 66 4 A (.slice x.b x.m x.m) x.m (ec e.els)
def tS (U : List Int) (xs : List Tl) (_ : World) : Prop := xs.map (fun y => (y.i : Int)) = U
theorem tOk.heap {L : List Ent} {U : List Int} {pre : List Tl} {x : Tl} {A B : World} (h : tOk L U pre x A) (hk : ∀ (b : Nat) (cur : Array Value) (e : TypeId), A.heap[b]? = some (Obj.cells cur e (0, 0)) → B.heap[b]? = A.heap[b]?) : tOk L U pre x B := by
  obtain ⟨h1, h2, e, h3, h4, h5, h6, h7⟩ := h
  exact ⟨h1, h2, e, h3, h4, h5, h6.heap (fun b cur _ hb => hk b cur _ hb), h7.heap (fun b cur _ hb => hk b cur _ hb)⟩
theorem tOk.own {L : List Ent} {U : List Int} {pre : List Tl} {x : Tl} {A B : World} {k : Nat} {o : Obj} (h : tOk L U pre x A) (g : A.grownBy B (some k)) (ho : A.heap[k]? = some o) (hc : o.isCells = false) : tOk L U pre x B :=
  h.heap fun b cur e hb => g.block b (lt_of_block hb) (fun e2 => by cases e2; rw [hb] at ho; cases ho; cases hc)
theorem tOk.new {L : List Ent} {U : List Int} {pre : List Tl} {x : Tl} {A B : World} (h : tOk L U pre x A) (g : A.grownBy B none) : tOk L U pre x B :=
  h.heap fun b cur e hb => g.block b (lt_of_block hb) (by simp)

theorem TreeM.any {Q : Nat → Prop} {w : World} {nd mp : List Int → Option Nat} {nm : List Int → Int} (h : TreeM Q w nd mp nm) : TreeM (fun _ => True) w nd mp nm :=
  { h with
    node := fun p b e => ⟨trivial, (h.node p b e).2⟩
    kids := fun p m e => ⟨trivial, (h.kids p m e).2⟩ }

set_option maxHeartbeats 8000000 in
theorem from1_made (L : List Ent) (Up : List Int) (b k0 : Nat) (t : Nat) (n : Int) (rt : Nat) (ve : Value) (nd mp : List Int → Option Nat)
    (hNum : ∀ (nb' : Nat) (w' : World) (Z0' : Nat → Prop), Box w' nb' 55 (.pointer (some ⟨b, 0, none⟩)) → TreeM (fun _ => True) w' nd mp (nmL L) → Z0' nb' → (∀ j, InT nd mp j → Z0' j) →
      TellsZ Fence.wide (k0 + 2) Try.prog 59 #[.pointer (some ⟨nb', 0, none⟩)] mEnc (mOk Up) Z0' (fun xs _ => xs = Up) (fun _ _ => True) w')
    (hUr : ∀ m ∈ Up, ∃ i : Nat, m = i ∧ i < L.length) (hlen : ∀ x ∈ L, x.codes.length < 1099511627776 ∧ x.els.length < 1099511627776)
    (Z0 : Nat → Prop) (q3 q2 : Nat) (w : World) (h : TrieAt Z0 w t L n rt ve nd mp) (hb : Box w q3 55 (.pointer (some ⟨b, 0, none⟩))) (hq : Box w q2 25 (.pointer (some ⟨t, 0, none⟩))) (hz3 : Z0 q3) (hz2 : Z0 q2) :
    TellsZ Fence.wide (k0 + 3) Try.prog 49 #[.pointer (some ⟨q3, 0, none⟩), .pointer (some ⟨q2, 0, none⟩)] nEnc (tOk L Up) Z0 (tS Up) (fun _ _ => True) w := by
  intro ll J Jx W Z hzk hz0 hzl hzn hll hJ hJx hY h0
  replace hNum := Lib.hid hNum
  replace hUr := Lib.hid hUr
  replace hlen := Lib.hid hlen
  replace hJ := Lib.hid hJ
  replace hJx := Lib.hid hJx
  replace hY := Lib.hid hY
  have hbW := hb.zk hzk hz3
  have hqW := hq.zk hzk hz2
  have hTW := h.heap (w' := W) (fun k hk hl => hzk.2 k hl hk)
  have htr : ∀ j, InT nd mp j → Z0 j := fun j hj => h.tree.q hj
  clear h hb hq hzk
  have g1 := World.grownBy_alloc W (.cells #[.func (.yield ll) #[] #[]] 89) none
  have hyV : Box (W.alloc (.cells #[.func (.yield ll) #[] #[]] 89)) W.heap.size 89 (.func (.yield ll) #[] #[]) := World.alloc_heap_new W _
  have hsV : (W.alloc (.cells #[.func (.yield ll) #[] #[]] 89)).heap.size = W.heap.size + 1 := by simp
  have hbV := hbW.new g1
  have hqV := hqW.new g1
  have hTV := hTW.new g1
  have c1 := hbV.c0
  have hnn : ∀ w, (binOp .eql 55 (.pointer (some ⟨b, 0, none⟩)) (.pointer none)).run Try.prog w = .ok (.bool false) w := fun w => by kernel_rfl
  clear hbW hqW hTW
  replace h0 := Lib.hid h0
  replace hzl := Lib.hid hzl
  replace hz0 := Lib.hid hz0
  replace hzn := Lib.hid hzn
  replace htr := Lib.hid htr
  replace hyV := Lib.hid hyV
  replace hqV := Lib.hid hqV
  replace hTV := Lib.hid hTV
  replace hsV := Lib.hid hsV
  clear hbV
  refine callsIn_of_wp_marks Try.func49 rfl trivial ?_ rfl
  simp only [Try.ntmps49, List.size_toArray, List.length_cons, List.length_nil, Nat.reduceAdd, Nat.reduceSub, Array.replicate_succ, Array.replicate_zero, List.push_toArray, List.append_toArray, List.nil_append, List.cons_append]
  gi_wp2_with (refine ⟨trivial, ?_⟩; gi_at_call 50; refine (callsIn_wide.2 (numbers_any _ _)).mono ?_; rintro e6 W6 ⟨rfl, hb6, g6⟩)
  have hs6 := g6.size
  have hs5 : W.heap.size + 1 < W6.heap.size := by rw [← hsV.out]; exact hb6.lt
  rw [hsV.out] at hb6
  generalize W.alloc (.cells #[.func (.yield ll) #[] #[]] 89) = V at *
  have hTW6 := hTV.out.new g6
  obtain ⟨Zi, hZi⟩ : ∃ Zi : Nat → Prop, Zi = fun k => (Z k ∨ k = W.heap.size ∨ k = W.heap.size + 1) ∧ k ≠ ll := ⟨_, rfl⟩
  have hZib : Zi (W.heap.size + 1) := by rw [hZi]; exact ⟨.inr (.inr rfl), by omega⟩
  have hZiy : Zi W.heap.size := by rw [hZi]; exact ⟨.inr (.inl rfl), by omega⟩
  have hZir : ∀ k, Z k → k ≠ ll → Zi k := fun k h h' => by rw [hZi]; exact ⟨.inl h, h'⟩
  have hZi0 : ∀ k, Z0 k → Zi k := fun k h => hZir k (hz0.out k h) (hzn.out k h)
  have hsv := hsV.out
  have hZil : ∀ k, Zi k → k < W6.heap.size := fun k h => by
    rw [hZi] at h
    rcases h.1 with h | rfl | rfl
    · have := hzl.out k h; omega
    · omega
    · omega
  have hZin : ¬ Zi ll := fun h => by rw [hZi] at h; exact h.2 rfl
  have J6 : J (fun k => Zi k ∨ (k = ll ∧ Z ll)) [] W6 := hJ.out.more _ _ _ _ _ h0.out (g1.trans g6) (fun k h => by
    by_cases e : k = ll
    · exact .inr ⟨e, e ▸ h⟩
    · exact .inl (hZir k h e)) (fun k h => by
    rcases h with h | ⟨rfl, h⟩
    · rw [hZi] at h
      rcases h.1 with h | rfl | rfl
      · exact .inl h
      · exact .inr ⟨Nat.le_refl _, by omega⟩
      · exact .inr ⟨by omega, by omega⟩
    · exact .inl h)
  have IH := hNum.out (W.heap.size + 1) W6 Zi hb6 (TreeM.any hTW6.tree) hZib (fun j hj => hZi0 j (htr.out j hj))
  have hy6 := hyV.out.new g6
  have hq6 := hqV.out.new g6
  replace hZi := Lib.hid hZi
  have HH := Lib.hid (And.intro hZi0 (And.intro hZir (And.intro hZin (And.intro hZiy (And.intro hy6 (And.intro hq6 hTW6))))))
  have IHH := Lib.hid IH
  have J6H := Lib.hid J6
  clear hZi0 hZir hZin hZiy hy6 hq6 hTW6 IH J6 c1 g1 hb6 hyV hqV hTV
  refine range_tellsZ1 (a := _) (w := W6) (α := Int) rfl (by omega) (gf := 59) (lb := #[.pointer (some ⟨W.heap.size + 1, 0, none⟩)]) rfl trivial (enters_of Try.func59 (by kernel_rfl) rfl)
    IHH.out hZil (fun _ => rfl) (fun _ _ _ _ _ _ h _ _ _ => h)
    (fun Z' pre' A => ¬ Z' ll ∧ (∃ pre : List Tl, pre.map (fun y => (y.i : Int)) = pre' ∧ J (fun k => Z' k ∨ (k = ll ∧ Z ll)) pre A) ∧ ZK Zi W6 A) (fun c' Z' _ A => c' = .ret ∧ ¬ Z' ll ∧ (∃ pre, Jx (fun k => Z' k ∨ (k = ll ∧ Z ll)) pre A) ∧ ZK Zi W6 A)
    (fun Z' s A h => h.2.2.1) ?hI ?hIx ⟨HH.out.2.2.1, ⟨[], rfl, J6H.out⟩, ZK.refl _ _⟩ ?a1 (fun _ _ _ _ h _ => h) ?assign ?body ?done ?stop
  case hI =>
    refine ⟨fun Z' Z'' s A B h g h1 h2 => ⟨fun e => ?_, ?_, h.2.2.trans (ZK.of g (by simp))⟩, fun Z' s A B q h hq hn g => ⟨h.1, ?_, ?_⟩⟩
    · rcases h2 _ e with e | e
      · exact h.1 e
      · have := h.2.2.1; omega
    · obtain ⟨pre, hp, hj⟩ := h.2.1
      exact ⟨pre, hp, hJ.out.more _ _ _ _ _ hj g (fun k hk => hk.imp (h1 k) id) (fun k hk => by
        rcases hk with hk | hk
        · exact (h2 k hk).imp .inl id
        · exact .inl (.inr hk))⟩
    · obtain ⟨pre, hp, hj⟩ := h.2.1
      exact ⟨pre, hp, hJ.out.own _ _ _ _ q hj (.inl hq) (by omega) g⟩
    · exact h.2.2.trans (ZK.new g (fun k e => by cases e; exact hn) hZil)
  case hIx =>
    intro c'
    refine ⟨fun Z' Z'' s A B h g h1 h2 => ⟨h.1, fun e => ?_, ?_, h.2.2.2.trans (ZK.of g (by simp))⟩, fun Z' s A B q h hq hn g => ⟨h.1, h.2.1, ?_, ?_⟩⟩
    · rcases h2 _ e with e | e
      · exact h.2.1 e
      · have := h.2.2.2.1; omega
    · obtain ⟨pre, hj⟩ := h.2.2.1
      exact ⟨pre, hJx.out.more _ _ _ _ _ hj g (fun k hk => hk.imp (h1 k) id) (fun k hk => by
        rcases hk with hk | hk
        · exact (h2 k hk).imp .inl id
        · exact .inl (.inr hk))⟩
    · obtain ⟨pre, hj⟩ := h.2.2.1
      exact ⟨pre, hJx.out.own _ _ _ _ q hj (.inl hq) (by omega) g⟩
    · exact h.2.2.2.trans (ZK.new g (fun k e => by cases e; exact hn) hZil)
  case assign =>
    intro l' x A K hK
    unfold mEnc
    gi_wp2
    exact hK
  case body =>
    rintro l2 Z' pre' x A hZ0 hZl ⟨i1, ⟨pre, rfl, i2⟩, i3⟩ ⟨ok1, ok2⟩ hsz
    obtain ⟨q0, qr, qn, qy, hy6, hq6, hT6⟩ := HH.out
    have hpl : (pre.map (fun y => (y.i : Int))).length = pre.length := by simp
    rw [hpl] at ok1 ok2
    obtain ⟨i, rfl, hil⟩ := hUr.out x (List.mem_of_getElem? ok2)
    obtain ⟨e, hxe⟩ : ∃ e, L[i]? = some e := ⟨_, List.getElem?_eq_getElem hil⟩
    obtain ⟨hl1, hl2⟩ := hlen.out e (List.mem_of_getElem? hxe)
    have gV : A.grownBy A.drew none := gdrew (World.grownBy.refl A none)
    have i3d := i3.trans (ZK.of gV (by simp))
    have hyA := hy6.zk i3d qy
    have hqA := hq6.zk i3d (q0 _ hz2)
    have hTA := hT6.heap (w' := A.drew) (fun k hk hl => i3d.2 k hl (q0 k hk))
    obtain ⟨vs, v1, v2, v3, v4⟩ := hTA.ents
    obtain ⟨pv, hpv⟩ : ∃ pv, vs[i]? = some pv := ⟨_, List.getElem?_eq_getElem (by omega)⟩
    obtain ⟨so1, so2⟩ := v4 i e pv hxe hpv
    have hrow := v2
    obtain ⟨gr, cap, hve⟩ : ∃ gr cap, ve = .slice (some ⟨gr, 0, none⟩) L.length cap := by
      obtain ⟨_, ⟨_, hz⟩ | ⟨g9, cap, cur, e9, _⟩⟩ := v2
      · omega
      · exact ⟨g9, cap, e9⟩
    subst hve
    have d1 : A.drew.cell? ⟨gr, i * 2, none⟩ = some pv.1 := by rw [World.ownsRow.cellAt hrow _ (by omega)]; exact (pc_at vs i pv hpv).1
    have d2 : A.drew.cell? ⟨gr, i * 2 + 1, none⟩ = some pv.2 := by rw [World.ownsRow.cellAt hrow _ (by omega)]; exact (pc_at vs i pv hpv).2
    have t1 := hTA.tr.c1
    have hgrz : Z0 gr := v3 gr rfl
    have htz : Z0 t := hTA.tq
    have hcp := copied_any Z0 pv.1 pv.2 e A.drew ⟨so1.reads, so2.reads⟩ hl1 hl2
    obtain ⟨pa, pac, hpe1, _⟩ := so1.reads.form
    obtain ⟨pb, pbc, hpe2, _⟩ := so2.reads.form
    rw [hpe1] at d1 hcp
    rw [hpe2] at d2 hcp
    have hi1 : (0 : Int) ≤ (i : Int) := by omega
    have hi2 : (i : Int) < (L.length : Int) := by omega
    have hS9 : ∀ W9, ZK Zi A.drew W9 → W9.cell? ⟨W.heap.size, 0, none⟩ = some (.func (.yield ll) #[] #[]) ∧ W9.cell? ⟨q2, 0, none⟩ = some (.pointer (some ⟨t, 0, none⟩)) ∧ W9.cell? ⟨t, 1, none⟩ = some (.slice (some ⟨gr, 0, none⟩) L.length cap) ∧ W9.cell? ⟨gr, i * 2, none⟩ = some (.slice pa e.codes.length pac) ∧ W9.cell? ⟨gr, i * 2 + 1, none⟩ = some (.slice pb e.els.length pbc) := fun W9 hz =>
      ⟨(hyA.zk hz qy).c0, (hqA.zk hz (q0 _ hz2)).c0, (World.cell?_of_block (a := ⟨t, 1, none⟩) (hz.2 t hTA.tr.lt (q0 _ htz))).trans t1, (World.cell?_of_block (a := ⟨gr, i * 2, none⟩) (hz.2 gr (World.block_lt_of_cell? _ _ d1) (q0 _ hgrz))).trans d1, (World.cell?_of_block (a := ⟨gr, i * 2 + 1, none⟩) (hz.2 gr (World.block_lt_of_cell? _ _ d1) (q0 _ hgrz))).trans d2⟩
    have hS := hS9 _ (ZK.refl _ _)
    have S9 := Lib.hid hS9
    have BD := Lib.hid (And.intro i1 (And.intro i2 (And.intro i3 (And.intro ok1 (And.intro ok2 (And.intro hxe (And.intro hZ0 hZl)))))))
    have QQ := Lib.hid (And.intro q0 (And.intro qr qn))
    clear hS9 q0 qr qn qy hy6 hq6 hT6 i1 i2 i3 ok1 ok2 hxe hZ0 hZl hyA hqA hTA v1 v2 v3 v4 hpv so1 so2 hrow d1 d2 t1 hgrz htz hpe1 hpe2 i3d hl1 hl2 hpl
    gi_wp2_with fail
    refine wpIn_noPanicT ?_
    refine wpIn_region_held (S := fun V' => V'.cell? ⟨W.heap.size, 0, none⟩ = some (.func (.yield ll) #[] #[]) ∧ V'.cell? ⟨q2, 0, none⟩ = some (.pointer (some ⟨t, 0, none⟩)) ∧ V'.cell? ⟨t, 1, none⟩ = some (.slice (some ⟨gr, 0, none⟩) L.length cap) ∧ V'.cell? ⟨gr, i * 2, none⟩ = some (.slice pa e.codes.length pac) ∧ V'.cell? ⟨gr, i * 2 + 1, none⟩ = some (.slice pb e.els.length pbc)) (by kernel_rfl) hS (fun hS0 => ?_)
    refine wpAnyHIn_take (i := 0) (oi := ⟨some 10, _, _, _, _, _⟩) (v := ?_) rfl (by kernel_rfl) (by kernel_rfl) (by kernel_rfl) (by kernel_rfl) (fun _ _ _ h => h) (fun _ => rfl) (Or.inl ⟨by rfl, ?_⟩) (by assumption) ?_
    rotate_left
    · (intro w hSw; (try dsimp only at hSw); go_simp; try with_reducible rfl)
    try simp only [Act.put, List.setIfInBounds_toArray, List.set_cons_zero, List.set_cons_succ]
    refine wpAnyHIn_take (i := 1) (oi := ⟨some 11, _, _, _, _, _⟩) (v := ?_) rfl (by kernel_rfl) (by kernel_rfl) (by kernel_rfl) (by kernel_rfl) (fun _ _ _ h => h) (fun _ => rfl) (Or.inl ⟨by rfl, ?_⟩) (by assumption) ?_
    rotate_left
    · (intro w hSw; (try dsimp only at hSw); go_simp; try with_reducible rfl)
    try simp only [Act.put, List.setIfInBounds_toArray, List.set_cons_zero, List.set_cons_succ]
    refine wpAnyHIn_take (i := 2) (oi := ⟨some 12, _, _, _, _, _⟩) (v := ?_) rfl (by kernel_rfl) (by kernel_rfl) (by kernel_rfl) (by kernel_rfl) (fun _ _ _ h => h) (fun _ => rfl) (Or.inl ⟨by rfl, ?_⟩) (by assumption) ?_
    rotate_left
    · (intro w hSw; (try dsimp only at hSw); go_simp; try with_reducible rfl)
    try simp only [Act.put, List.setIfInBounds_toArray, List.set_cons_zero, List.set_cons_succ]
    refine wpAnyHIn_take (i := 3) (oi := ⟨some 13, _, _, _, _, _⟩) (v := ?_) rfl (by kernel_rfl) (by kernel_rfl) (by kernel_rfl) (by kernel_rfl) (fun _ _ _ h => h) (fun _ => rfl) (Or.inl ⟨by rfl, ?_⟩) (by assumption) ?_
    rotate_left
    · (intro w hSw; (try dsimp only at hSw); go_simp; try with_reducible rfl)
    try simp only [Act.put, List.setIfInBounds_toArray, List.set_cons_zero, List.set_cons_succ]
    refine wpAnyHIn_take (i := 4) (oi := ⟨some 14, _, _, _, _, _⟩) (v := ?_) rfl (by kernel_rfl) (by kernel_rfl) (by kernel_rfl) (by kernel_rfl) (fun _ _ _ h => h) (fun _ => rfl) (Or.inl ⟨by rfl, ?_⟩) (by assumption) ?_
    rotate_left
    · (intro w hSw; (try dsimp only at hSw); go_simp; try with_reducible rfl)
    try simp only [Act.put, List.setIfInBounds_toArray, List.set_cons_zero, List.set_cons_succ]
    refine wpAnyHIn_take (i := 5) (oi := ⟨some 15, _, _, _, _, _⟩) (v := ?_) rfl (by kernel_rfl) (by kernel_rfl) (by kernel_rfl) (by kernel_rfl) (fun _ _ _ h => h) (fun _ => rfl) (Or.inl ⟨by rfl, ?_⟩) (by assumption) ?_
    rotate_left
    · (intro w hSw; (try dsimp only at hSw); go_simp; try with_reducible rfl)
    try simp only [Act.put, List.setIfInBounds_toArray, List.set_cons_zero, List.set_cons_succ]
    refine wpAnyHIn_take (i := 6) (oi := ⟨some 16, _, _, _, _, _⟩) (v := ?_) rfl (by kernel_rfl) (by kernel_rfl) (by kernel_rfl) (by kernel_rfl) (fun _ _ _ h => h) (fun _ => rfl) (Or.inl ⟨by rfl, ?_⟩) (by assumption) ?_
    rotate_left
    · (intro w hSw; (try dsimp only at hSw); go_simp; try with_reducible rfl)
    try simp only [Act.put, List.setIfInBounds_toArray, List.set_cons_zero, List.set_cons_succ]
    refine wpAnyHIn_take (i := 7) (oi := ⟨some 17, _, _, _, _, _⟩) (v := ?_) rfl (by kernel_rfl) (by kernel_rfl) (by kernel_rfl) (by kernel_rfl) (fun _ _ _ h => h) (fun _ => rfl) (Or.inl ⟨by rfl, ?_⟩) (by assumption) ?_
    rotate_left
    · (intro w hSw; (try dsimp only at hSw); go_simp; try with_reducible rfl)
    try simp only [Act.put, List.setIfInBounds_toArray, List.set_cons_zero, List.set_cons_succ]
    refine wpAnyHIn_take (i := 8) (oi := ⟨some 18, _, _, _, _, _⟩) (v := ?_) rfl (by kernel_rfl) (by kernel_rfl) (by kernel_rfl) (by kernel_rfl) (fun _ _ _ h => h) (fun _ => rfl) (Or.inl ⟨by rfl, ?_⟩) (by assumption) ?_
    rotate_left
    · (intro w hSw; (try dsimp only at hSw); go_simp; try with_reducible rfl)
    try simp only [Act.put, List.setIfInBounds_toArray, List.set_cons_zero, List.set_cons_succ]
    refine wpAnyHIn_next (i := 9) (by kernel_rfl) rfl (by rfl) (fun K hK => ?_)
    go_simp
    refine ⟨trivial, (callsIn_wide.2 hcp).mono ?_⟩
    rintro e' A2 ⟨ca, cb, rfl, so1, so2, g2⟩
    have gA2 := gV.trans g2
    refine hK.out _ _ (S9.out A2 (ZK.of g2 (by simp))) (fun hS1 => ?_)
    clear hK
    obtain ⟨b1, b2, b3, ok1, ok2, hxe, hZ0, hZl⟩ := BD.out
    have j2 := hJ.out.more _ _ _ _ _ b2 gA2 (fun _ h => h) (fun _ h => .inl h)
    have hllA : ll < A2.heap.size := by have := gA2.size; omega
    have hOk : tOk L Up pre ⟨i, ca, e.codes.length, cb, e.els.length⟩ A2 := ⟨ok1, ok2, e, hxe, rfl, rfl, so1.weak (fun _ _ => trivial), so2.weak (fun _ _ => trivial)⟩
    obtain ⟨fn, tmps, assign, body, hy, hRd⟩ := hY.out (fun k => Z' k ∨ (k = ll ∧ Z ll)) pre ⟨i, ca, e.codes.length, cb, e.els.length⟩ A2 (fun k h => .inl (hZ0 k (QQ.out.1 k h))) (fun k h => by
      rcases h with h | ⟨rfl, _⟩
      · have := hZl k h; have := gA2.size; omega
      · exact hllA) j2 hOk
    unfold nEnc at hy
    dsimp only at hy
    have b23 := b3.trans (ZK.of gA2 (by simp))
    have hZAA : ∀ A3, ZK (fun k => (Z' k ∨ (k = ll ∧ Z ll)) ∧ k ≠ ll) A2 A3 → ZK Z' A A3 ∧ ZK Zi W6 A3 ∧ ZK Zi A.drew A3 := fun A3 h7 => by
      have h1 : ZK Z' A2 A3 := h7.less (fun k h => ⟨.inl h, fun e => b1 (e ▸ h)⟩)
      exact ⟨(ZK.of gA2 (by simp)).trans h1, b23.trans (h1.less hZ0), (ZK.of g2 (by simp)).trans (h1.less hZ0)⟩
    have ZA := Lib.hid hZAA
    have B1 := Lib.hid b1
    clear hZAA b1 b2 b3 b23 ok1 ok2 hxe hZ0 hZl j2 hllA hOk so1 so2 g2 gA2 gV hcp BD
    refine wpAnyHIn_next (i := 10) (by kernel_rfl) rfl (by rfl) (fun K hK => ?_)
    go_simp
    refine (roundIn_wideT hRd).mono ?_
    rintro e7 A3 (⟨rfl, hj7, hk7⟩ | ⟨rfl, hj7, hk7⟩)
    · obtain ⟨z1, z2, z3⟩ := ZA.out A3 hk7
      have F7 := Lib.hid (show ZK Z' A A3 ∧ ¬ Z' ll ∧ (∃ pre0 : List Tl, pre0.map (fun y => (y.i : Int)) = pre.map (fun y => (y.i : Int)) ++ [(i : Int)] ∧ J (fun k => Z' k ∨ (k = ll ∧ Z ll)) pre0 A3) ∧ ZK Zi W6 A3 from ⟨z1, B1.out, ⟨_, by simp, hj7⟩, z2⟩)
      refine hK.out _ _ (S9.out A3 z3) (fun hS2 => ?_)
      clear hK hj7 hk7 hRd hy z1 z2 z3
      refine wpAnyHIn_take (i := 11) (oi := ⟨some 21, _, _, _, _, _⟩) (v := ?_) rfl (by kernel_rfl) (by kernel_rfl) (by kernel_rfl) (by kernel_rfl) (fun _ _ _ h => h) (fun _ => rfl) (Or.inl ⟨by rfl, ?_⟩) (by assumption) ?_
      rotate_left
      · (intro w hSw; (try dsimp only at hSw); go_simp; try with_reducible rfl)
      try simp only [Act.put, List.setIfInBounds_toArray, List.set_cons_zero, List.set_cons_succ]
      refine wpAnyHIn_done (by kernel_rfl) ?_ _
      refine noPanicT ?_
      clear hS hS0 hS1 hS2
      gi_wp2_with fail
      exact F7.out
    · obtain ⟨z1, z2, z3⟩ := ZA.out A3 hk7
      have F7 := Lib.hid (show ZK Z' A A3 ∧ Code.ret = .ret ∧ ¬ Z' ll ∧ (∃ pre, Jx (fun k => Z' k ∨ (k = ll ∧ Z ll)) pre A3) ∧ ZK Zi W6 A3 from ⟨z1, rfl, B1.out, ⟨_, hj7⟩, z2⟩)
      refine hK.out _ _ (S9.out A3 z3) (fun hS2 => ?_)
      clear hK hj7 hk7 hRd hy z1 z2 z3
      refine wpAnyHIn_take (i := 11) (oi := ⟨some 21, _, _, _, _, _⟩) (v := ?_) rfl (by kernel_rfl) (by kernel_rfl) (by kernel_rfl) (by kernel_rfl) (fun _ _ _ h => h) (fun _ => rfl) (Or.inl ⟨by rfl, ?_⟩) (by assumption) ?_
      rotate_left
      · (intro w hSw; (try dsimp only at hSw); go_simp; try with_reducible rfl)
      try simp only [Act.put, List.setIfInBounds_toArray, List.set_cons_zero, List.set_cons_succ]
      refine wpAnyHIn_done (by kernel_rfl) ?_ _
      refine noPanicT ?_
      clear hS hS0 hS1 hS2
      gi_wp2_with fail
      exact ⟨F7.out.1, rfl, F7.out.2.2⟩
  case stop =>
    rintro D c7 Z' pre' A B hD hZD hz' hzl' _ ⟨rfl, i1, i2, i3⟩ hg hM
    obtain ⟨q0, qr, qn, qy, hy6, hq6, hT6⟩ := HH.out
    have hZs : ∀ k, Z k → (Z' k ∨ (k = ll ∧ Z ll)) := fun k h => by
      by_cases e : k = ll
      · exact .inr ⟨e, e ▸ h⟩
      · exact .inl (hz' k (qr k h e))
    have hZl : ∀ k, (Z' k ∨ (k = ll ∧ Z ll)) → k < B.heap.size := fun k h => by
      rcases h with h | ⟨rfl, _⟩
      · exact hzl' k h
      · have := i3.1; have := hg.size; omega
    have F := Lib.hid (And.intro hZs (And.intro hZl (And.intro i2 (And.intro hZD hM))))
    clear q0 qr qn qy hy6 hq6 hT6 hZs hZl hz' hzl' i1 i2 i3 hg hM HH J6H
    gi_wp2_with fail
    obtain ⟨f1, f2, f3, f4, f5⟩ := F.out
    refine leaves_with (fun w => (∃ pre, Jx (fun k => Z' k ∨ (k = ll ∧ Z ll)) pre w) ∧ ∀ k, (Z' k ∨ (k = ll ∧ Z ll)) → k < w.heap.size) [D] B ⟨by simp, fun k hk => by simp at hk; subst hk; exact f5⟩ ⟨f3, f2⟩
      (fun D' hD' w h hb => ⟨by
        simp at hD'
        subst hD'
        obtain ⟨pre, hj⟩ := h.1
        exact ⟨pre, hJx.out.own _ _ _ _ D' hj (.inl f4) (by omega) (grownBy_putObj' w D' (.deferred none))⟩, fun k hk => by simpa [World.putObj] using h.2 k hk⟩)
      (fun w' h => ⟨.tuple #[], results_none rfl _ _ _, ⟨_, rfl⟩, _, f1, h.2, .inr (by simpa using h.1)⟩)
  case done =>
    rintro D Z' xs A B hD hZD hz' hzl' hxs ⟨i1, i2, i3⟩ hg hM
    obtain ⟨q0, qr, qn, qy, hy6, hq6, hT6⟩ := HH.out
    have hxs' : xs = Up := hxs
    subst hxs'
    have hZs : ∀ k, Z k → (Z' k ∨ (k = ll ∧ Z ll)) := fun k h => by
      by_cases e : k = ll
      · exact .inr ⟨e, e ▸ h⟩
      · exact .inl (hz' k (qr k h e))
    have hZl : ∀ k, (Z' k ∨ (k = ll ∧ Z ll)) → k < B.heap.size := fun k h => by
      rcases h with h | ⟨rfl, _⟩
      · exact hzl' k h
      · have := i3.1; have := hg.size; omega
    have F := Lib.hid (And.intro hZs (And.intro hZl (And.intro i2 (And.intro hZD hM))))
    clear q0 qr qn qy hy6 hq6 hT6 hZs hZl hz' hzl' i1 i2 i3 hg hM HH J6H hxs
    gi_wp2_with fail
    obtain ⟨f1, f2, f3, f4, f5⟩ := F.out
    refine leaves_with (fun w => (∃ pre : List Tl, pre.map (fun y => (y.i : Int)) = xs ∧ J (fun k => Z' k ∨ (k = ll ∧ Z ll)) pre w) ∧ ∀ k, (Z' k ∨ (k = ll ∧ Z ll)) → k < w.heap.size) [D] B ⟨by simp, fun k hk => by simp at hk; subst hk; exact f5⟩ ⟨f3, f2⟩
      (fun D' hD' w h hb => ⟨by
        simp at hD'
        subst hD'
        obtain ⟨pre, hp, hj⟩ := h.1
        exact ⟨pre, hp, hJ.out.own _ _ _ _ D' hj (.inl f4) (by omega) (grownBy_putObj' w D' (.deferred none))⟩, fun k hk => by simpa [World.putObj] using h.2 k hk⟩)
      (fun w' h => ⟨.tuple #[], results_none rfl _ _ _, ⟨_, rfl⟩, _, f1, h.2, .inl h.1⟩)
end Go.Proofs.Ytlnplompnabmlaa

/-
  LAYER 9 (trie): the entries under a list, told in order: Under's iterator of a trie that New made.
-/
namespace Go.Proofs.Ytlnplompnabmlaa
set_option maxRecDepth 100000
open Go.RowKit Go.Lib
attribute [local go_sem] Oper.semAt_some

/-- What from's iterator promises, from here on, whatever more is protected. -/
def FromOk (L : List Ent) (Up : List Int) (k0 : Nat) (Z0 : Nat → Prop) (q3 q2 : Nat) (w : World) : Prop :=
  ∀ (w' : World) (Z0' : Nat → Prop), ZK Z0 w w' → (∀ k, Z0 k → Z0' k) →
    TellsZ Fence.wide (k0 + 3) Try.prog 49 #[.pointer (some ⟨q3, 0, none⟩), .pointer (some ⟨q2, 0, none⟩)] nEnc (tOk L Up) Z0' (tS Up) (fun _ _ => True) w'
theorem FromOk.zk {L : List Ent} {Up : List Int} {k0 q3 q2 : Nat} {Z0 Z1 : Nat → Prop} {w w' : World} (h : FromOk L Up k0 Z0 q3 q2 w) (hz : ZK Z0 w w') (h1 : ∀ k, Z0 k → Z1 k) : FromOk L Up k0 Z1 q3 q2 w' :=
  fun w'' Z' hk hs => h w'' Z' (hz.trans (hk.less h1)) (fun k hk => hs k (h1 k hk))

set_option maxHeartbeats 8000000 in
theorem under1_made (L : List Ent) (Up : List Int) (k0 : Nat) (Z0 : Nat → Prop) (eb q3 q2 : Nat) (w : World) (hf : FromOk L Up k0 Z0 q3 q2 w)
    (he : Box w eb 46 (.func (.func 49) #[] #[.pointer (some ⟨q3, 0, none⟩), .pointer (some ⟨q2, 0, none⟩)])) (hze : Z0 eb) :
    TellsZ Fence.wide (k0 + 4) Try.prog 40 #[.pointer (some ⟨eb, 0, none⟩)] eEnc (tOk L Up) Z0 (tS Up) (fun _ _ => True) w := by
  intro ll J Jx W Z hzk hz0 hzl hzn hll hJ hJx hY h0
  replace hJ := Lib.hid hJ
  replace hJx := Lib.hid hJx
  replace hY := Lib.hid hY
  have heW := he.zk hzk hze
  have hfW := hf.zk hzk (fun _ h => h)
  clear hf he hzk
  have g1 := World.grownBy_alloc W (.cells #[.func (.yield ll) #[] #[]] 82) none
  have hyV : Box (W.alloc (.cells #[.func (.yield ll) #[] #[]] 82)) W.heap.size 82 (.func (.yield ll) #[] #[]) := World.alloc_heap_new W _
  have hsV : (W.alloc (.cells #[.func (.yield ll) #[] #[]] 82)).heap.size = W.heap.size + 1 := by simp
  have c1 := (heW.new g1).c0
  clear heW
  replace h0 := Lib.hid h0
  replace hzl := Lib.hid hzl
  replace hz0 := Lib.hid hz0
  replace hzn := Lib.hid hzn
  replace hyV := Lib.hid hyV
  replace hfW := Lib.hid hfW
  replace hsV := Lib.hid hsV
  replace g1 := Lib.hid g1
  refine callsIn_of_wp_marks Try.func40 rfl trivial ?_ rfl
  simp only [Try.ntmps40, List.size_toArray, List.length_cons, List.length_nil, Nat.reduceAdd, Nat.reduceSub, Array.replicate_succ, Array.replicate_zero, List.push_toArray, List.append_toArray, List.nil_append, List.cons_append]
  gi_wp2_with fail
  generalize W.alloc (.cells #[.func (.yield ll) #[] #[]] 82) = V at *
  obtain ⟨Zi, hZi⟩ : ∃ Zi : Nat → Prop, Zi = fun k => (Z k ∨ k = W.heap.size) ∧ k ≠ ll := ⟨_, rfl⟩
  have hZiy : Zi W.heap.size := by rw [hZi]; exact ⟨.inr rfl, by omega⟩
  have hZir : ∀ k, Z k → k ≠ ll → Zi k := fun k h h' => by rw [hZi]; exact ⟨.inl h, h'⟩
  have hZi0 : ∀ k, Z0 k → Zi k := fun k h => hZir k (hz0.out k h) (hzn.out k h)
  have hsv := hsV.out
  have hZil : ∀ k, Zi k → k < V.heap.size := fun k h => by
    rw [hZi] at h
    rcases h.1 with h | rfl
    · have := hzl.out k h; omega
    · omega
  have hZin : ¬ Zi ll := fun h => by rw [hZi] at h; exact h.2 rfl
  have J6 : J (fun k => Zi k ∨ (k = ll ∧ Z ll)) [] V := hJ.out.more _ _ _ _ _ h0.out g1.out (fun k h => by
    by_cases e : k = ll
    · exact .inr ⟨e, e ▸ h⟩
    · exact .inl (hZir k h e)) (fun k h => by
    rcases h with h | ⟨rfl, h⟩
    · rw [hZi] at h
      rcases h.1 with h | rfl
      · exact .inl h
      · exact .inr ⟨Nat.le_refl _, by omega⟩
    · exact .inl h)
  have IH := hfW.out V Zi (ZK.of g1.out (by simp)) hZi0
  replace hZi := Lib.hid hZi
  have HH := Lib.hid (And.intro hZi0 (And.intro hZir (And.intro hZin (And.intro hZiy hyV.out))))
  have IHH := Lib.hid IH
  have J6H := Lib.hid J6
  clear hZi0 hZir hZin hZiy hyV IH J6 c1 hfW g1 h0
  refine range_tellsZ (a := _) (w := V) (α := Tl) rfl (by omega) (gf := 49) (lb := #[.pointer (some ⟨q3, 0, none⟩), .pointer (some ⟨q2, 0, none⟩)]) rfl trivial (enters_of Try.func49 (by kernel_rfl) rfl)
    IHH.out hZil (fun _ => rfl) (fun _ _ _ _ _ _ h g ho hc => h.own g ho hc)
    (fun Z' pre A => ¬ Z' ll ∧ J (fun k => Z' k ∨ (k = ll ∧ Z ll)) pre A ∧ ZK Zi V A) (fun c' Z' _ A => c' = .ret ∧ ¬ Z' ll ∧ (∃ pre, Jx (fun k => Z' k ∨ (k = ll ∧ Z ll)) pre A) ∧ ZK Zi V A)
    (fun Z' s A h => h.2.2.1) ?hI ?hIx ⟨HH.out.2.2.1, J6H.out, ZK.refl _ _⟩
    (fun (x : Tl) a' A => ∃ bx, a' = { tmps := #[.func (.yield ll) #[] #[], .pointer (some ⟨eb, 0, none⟩), .pointer (some ⟨W.heap.size, 0, none⟩), undef, .pointer (some ⟨bx, 0, none⟩), .func (.func 49) #[] #[.pointer (some ⟨q3, 0, none⟩), .pointer (some ⟨q2, 0, none⟩)], .int .i64 (x.i : Int), .agg #[.slice x.a x.n x.n, .slice x.b x.m x.m], undef, undef, undef, undef], defers := [] } ∧ Two A bx (.slice x.a x.n x.n) (.slice x.b x.m x.m))
    (fun _ _ _ _ h g => h.new g) ?hAx ?assign ?body ?done ?stop
  case hI =>
    refine ⟨fun Z' Z'' s A B h g h1 h2 => ⟨fun e => ?_, hJ.out.more _ _ _ _ _ h.2.1 g (fun k hk => hk.imp (h1 k) id) (fun k hk => ?_), h.2.2.trans (ZK.of g (by simp))⟩, fun Z' s A B q h hq hn g => ⟨h.1, hJ.out.own _ _ _ _ q h.2.1 (.inl hq) (by omega) g, ?_⟩⟩
    · rcases h2 _ e with e | e
      · exact h.1 e
      · have := h.2.2.1; omega
    · rcases hk with hk | hk
      · exact (h2 k hk).imp .inl id
      · exact .inl (.inr hk)
    · exact h.2.2.trans (ZK.new g (fun k e => by cases e; exact hn) hZil)
  case hIx =>
    intro c'
    refine ⟨fun Z' Z'' s A B h g h1 h2 => ⟨h.1, fun e => ?_, ?_, h.2.2.2.trans (ZK.of g (by simp))⟩, fun Z' s A B q h hq hn g => ⟨h.1, h.2.1, ?_, ?_⟩⟩
    · rcases h2 _ e with e | e
      · exact h.2.1 e
      · have := h.2.2.2.1; omega
    · obtain ⟨pre, hj⟩ := h.2.2.1
      exact ⟨pre, hJx.out.more _ _ _ _ _ hj g (fun k hk => hk.imp (h1 k) id) (fun k hk => by
        rcases hk with hk | hk
        · exact (h2 k hk).imp .inl id
        · exact .inl (.inr hk))⟩
    · obtain ⟨pre, hj⟩ := h.2.2.1
      exact ⟨pre, hJx.out.own _ _ _ _ q hj (.inl hq) (by omega) g⟩
    · exact h.2.2.2.trans (ZK.new g (fun k e => by cases e; exact hn) hZil)
  case hAx =>
    rintro x a' A B k o ⟨bx, rfl, h2⟩ g ho hc
    exact ⟨bx, rfl, (g.block bx h2.lt (fun e => by cases e; rw [show A.heap[k]? = _ from h2] at ho; cases ho; cases hc)).trans h2⟩
  case assign =>
    intro l' x W' K hK
    unfold nEnc
    gi_wp2_with fail
    exact hK _ _ (World.grownBy_alloc W' _ none) ⟨_, rfl, World.alloc_heap_new W' _⟩
  case body =>
    rintro l2 Z' pre x a' A hZ0 hZl ⟨i1, i2, i3⟩ hok ⟨bx, rfl, hx2⟩ hsz
    obtain ⟨q0, qr, qn, qy, hy6⟩ := HH.out
    have hyA := (hy6.zk i3 qy).c0
    have x0 := hx2.c0
    have x1 := hx2.c1
    have hllA : ll < A.heap.size := by omega
    obtain ⟨fn, tmps, assign, body, hy, hRd⟩ := hY.out (fun k => Z' k ∨ (k = ll ∧ Z ll)) pre x A (fun k h => .inl (hZ0 k (q0 k h))) (fun k h => by
      rcases h with h | ⟨rfl, _⟩
      · exact hZl k h
      · exact hllA) i2 hok
    unfold eEnc at hy
    have I1 := Lib.hid (And.intro i1 i3)
    have hZI : Hid (∀ k, Zi k → Z' k) := hZ0
    clear hok q0 qr qn qy hy6 i1 i2 i3 hZ0 hx2
    gi_wp2_with fail
    refine (roundIn_wideT hRd).mono ?_
    rintro e7 A3 (⟨rfl, hj7, hk7⟩ | ⟨rfl, hj7, hk7⟩)
    · have h1 : ZK Z' A A3 := hk7.less (fun k h => ⟨.inl h, fun e => I1.out.1 (e ▸ h)⟩)
      have F7 := Lib.hid (show ZK Z' A A3 ∧ ¬ Z' ll ∧ J (fun k => Z' k ∨ (k = ll ∧ Z ll)) (pre ++ [x]) A3 ∧ ZK Zi V A3 from ⟨h1, I1.out.1, hj7, I1.out.2.trans (h1.less hZI.out)⟩)
      clear hj7 hk7 hRd hy h1
      gi_wp2_with fail
      exact F7.out
    · have h1 : ZK Z' A A3 := hk7.less (fun k h => ⟨.inl h, fun e => I1.out.1 (e ▸ h)⟩)
      have F7 := Lib.hid (show ZK Z' A A3 ∧ Code.ret = .ret ∧ ¬ Z' ll ∧ (∃ pre, Jx (fun k => Z' k ∨ (k = ll ∧ Z ll)) pre A3) ∧ ZK Zi V A3 from ⟨h1, rfl, I1.out.1, ⟨_, hj7⟩, I1.out.2.trans (h1.less hZI.out)⟩)
      clear hj7 hk7 hRd hy h1
      gi_wp2_with fail
      exact ⟨F7.out.1, rfl, F7.out.2.2⟩
  case stop =>
    rintro D c7 Z' pre' A B hD hZD hz' hzl' _ ⟨rfl, i1, i2, i3⟩ hg hM
    obtain ⟨q0, qr, qn, qy, hy6⟩ := HH.out
    have hZs : ∀ k, Z k → (Z' k ∨ (k = ll ∧ Z ll)) := fun k h => by
      by_cases e : k = ll
      · exact .inr ⟨e, e ▸ h⟩
      · exact .inl (hz' k (qr k h e))
    have hZl : ∀ k, (Z' k ∨ (k = ll ∧ Z ll)) → k < B.heap.size := fun k h => by
      rcases h with h | ⟨rfl, _⟩
      · exact hzl' k h
      · have := i3.1; have := hg.size; omega
    have F := Lib.hid (And.intro hZs (And.intro hZl (And.intro i2 (And.intro hZD hM))))
    clear q0 qr qn qy hy6 hZs hZl hz' hzl' i1 i2 i3 hg hM HH J6H
    gi_wp2_with fail
    obtain ⟨f1, f2, f3, f4, f5⟩ := F.out
    refine leaves_with (fun w => (∃ pre, Jx (fun k => Z' k ∨ (k = ll ∧ Z ll)) pre w) ∧ ∀ k, (Z' k ∨ (k = ll ∧ Z ll)) → k < w.heap.size) [D] B ⟨by simp, fun k hk => by simp at hk; subst hk; exact f5⟩ ⟨f3, f2⟩
      (fun D' hD' w h hb => ⟨by
        simp at hD'
        subst hD'
        obtain ⟨pre, hj⟩ := h.1
        exact ⟨pre, hJx.out.own _ _ _ _ D' hj (.inl f4) (by omega) (grownBy_putObj' w D' (.deferred none))⟩, fun k hk => by simpa [World.putObj] using h.2 k hk⟩)
      (fun w' h => ⟨.tuple #[], results_none rfl _ _ _, ⟨_, rfl⟩, _, f1, h.2, .inr (by simpa using h.1)⟩)
  case done =>
    rintro D Z' xs A B hD hZD hz' hzl' hxs ⟨i1, i2, i3⟩ hg hM
    obtain ⟨q0, qr, qn, qy, hy6⟩ := HH.out
    have hZs : ∀ k, Z k → (Z' k ∨ (k = ll ∧ Z ll)) := fun k h => by
      by_cases e : k = ll
      · exact .inr ⟨e, e ▸ h⟩
      · exact .inl (hz' k (qr k h e))
    have hZl : ∀ k, (Z' k ∨ (k = ll ∧ Z ll)) → k < B.heap.size := fun k h => by
      rcases h with h | ⟨rfl, _⟩
      · exact hzl' k h
      · have := i3.1; have := hg.size; omega
    have F := Lib.hid (And.intro hZs (And.intro hZl (And.intro i2 (And.intro hZD (And.intro hM hxs)))))
    clear q0 qr qn qy hy6 hZs hZl hz' hzl' i1 i2 i3 hg hM HH J6H hxs
    gi_wp2_with fail
    obtain ⟨f1, f2, f3, f4, f5, f6⟩ := F.out
    refine leaves_with (fun w => J (fun k => Z' k ∨ (k = ll ∧ Z ll)) xs w ∧ ∀ k, (Z' k ∨ (k = ll ∧ Z ll)) → k < w.heap.size) [D] B ⟨by simp, fun k hk => by simp at hk; subst hk; exact f5⟩ ⟨f3, f2⟩
      (fun D' hD' w h hb => ⟨by
        simp at hD'
        subst hD'
        exact hJ.out.own _ _ _ _ D' h.1 (.inl f4) (by omega) (grownBy_putObj' w D' (.deferred none)), fun k hk => by simpa [World.putObj] using h.2 k hk⟩)
      (fun w' h => ⟨.tuple #[], results_none rfl _ _ _, ⟨_, rfl⟩, _, f1, h.2, .inl ⟨_, f6, h.1⟩⟩)
end Go.Proofs.Ytlnplompnabmlaa
