/-
  LAYER 9 (trie): the law TrieNone, walked.
-/
import Derived.Test.YtnnijcafnhhnoaaTNoneF
import Derived.Test.YtnnijcafnhhnoaaTRunes
namespace Go.Proofs.Ytnnijcafnhhnoaa
set_option maxRecDepth 100000
open Go.RowKit Go.Lib
attribute [local go_sem] Oper.semAt_some

theorem neqNil (eb : Nat) (w : World) : (binOp .neq 48 (.func (.func 40) #[] #[.pointer (some ⟨eb, 0, none⟩)]) .nilFunc).run Try.prog w = .ok (.bool true) w := by kernel_rfl
def nn1 : Ent := ⟨[97], [⟨5, 5, 5, false⟩]⟩
theorem so_one {P : Nat → Prop} {w : World} {a : Option Addr} {x : El} (h : SO P 66 4 w (.slice a 1 1) 1 (ec [x])) : ∃ k, a = some ⟨k, 0, none⟩ ∧ P k ∧ w.cell? ⟨k, 0, none⟩ = some (.int .i64 x.p) ∧ w.frozen? ⟨k, 0, none⟩ = false := by
  obtain ⟨h0, a', c, h1, h2, h3, h4, h5⟩ := h
  obtain ⟨b, cur, q1, q2, q3, q4⟩ := h5 (by omega)
  obtain ⟨rfl, _⟩ : a = a' ∧ 1 = c := by simpa using h1
  refine ⟨b, q1, q2, ?_, by simp [World.frozen?, q3]⟩
  have h6 : (cur.toList.take 4)[0]? = some (Value.int .i64 x.p) := by rw [show 4 = 1 * 4 from rfl, q4]; rfl
  rw [List.getElem?_take_of_lt (by omega)] at h6
  simp only [World.cell?, q3]
  simpa using h6
theorem nn_all : newAll [nn1] = (0, 0) := by decide
theorem nn_find : findEnt [nn1] [97] = some nn1 := rfl

set_option maxHeartbeats 16000000 in
theorem none_law (W : World) (ca : Option Addr) (cc : Nat) (l : List Int) (hl : SR (fun k => k < W.heap.size) 1 W (.slice ca l.length cc) l.length (rc l)) (hle : l.length ≤ 500) :
    CallsIn Fence.wide 20 Try.prog 6 #[.slice ca l.length cc] W fun e W' => e = .returned (.bool true) ∧ Below W.heap.size W W' := by
  obtain ⟨n, hn⟩ : ∃ n, n = l.length := ⟨_, rfl⟩
  have hrun := fun w' (g : W.grownBy w' none) => runes_any _ _ (.slice ca l.length cc) (.slice ca l.length cc) l l w' (hl.new g) (hl.new g)
  have hdec : decide (l = l) = true := by simp
  rw [hdec] at hrun
  rw [← hn] at hle hrun ⊢
  clear hn hl hdec
  replace hrun := Lib.hid hrun
  have g0 := World.grownBy_alloc W (.cells #[.bool false] 4) none
  have eR : Box (W.alloc (.cells #[.bool false] 4)) W.heap.size 4 (.bool false) := World.alloc_heap_new W _
  have hA := fun w => tawake_any w
  have hbb : decide (500 < (n : Int)) = false := by simp; omega
  refine callsIn_of_wp_marks Try.func6 rfl trivial ?_ rfl
  simp only [Try.ntmps6, List.size_toArray, List.length_cons, List.length_nil, Nat.reduceAdd, Nat.reduceSub, Array.replicate_succ, Array.replicate_zero, List.push_toArray, List.append_toArray, List.nil_append, List.cons_append]
  gi_wp2_with (refine ⟨trivial, ?_⟩; gi_at_call 7; refine (callsIn_wide.2 (hA _)).mono ?_; rintro e w1 ⟨rfl, g1⟩)
  have gW1 := g0.trans g1
  have eR1 := eR.new g1
  clear hA hbb eR g0 g1
  obtain ⟨zb, hzb⟩ : ∃ z, z = w1.heap.size := ⟨_, rfl⟩
  obtain ⟨w2, hw2⟩ : ∃ w2, w2 = (w1.alloc (.cells #[.pointer none, .slice none 0 0, .int .i64 0] 62)).alloc (.cells #[.pointer none, .pointer (some ⟨w1.heap.size, 0, none⟩)] 25) := ⟨_, rfl⟩
  have g2 : w1.grownBy w2 none := by rw [hw2]; exact galloc (World.grownBy_alloc w1 _ none) _
  have eZ2 : TrAt w2 zb none (.slice none 0 0) 0 := by rw [hw2, hzb]; exact ((World.grownBy_alloc (w1.alloc _) _ none).block w1.heap.size (by simp) (by simp)).trans (World.alloc_heap_new w1 _)
  have eA : w2.heap[zb + 1]? = some (.cells #[.pointer none, .pointer (some ⟨zb, 0, none⟩)] 25 (0, 0)) := by
    rw [hw2, hzb]
    have := World.alloc_heap_new (w1.alloc (.cells #[.pointer none, .slice none 0 0, .int .i64 0] 62)) (.cells #[.pointer none, .pointer (some ⟨w1.heap.size, 0, none⟩)] 25)
    rw [World.size_alloc] at this
    exact this
  rw [← hw2, ← hzb]
  have gW2 := gW1.trans g2
  have eR2 := eR1.new g2
  have a0 : w2.cell? ⟨zb + 1, 0, none⟩ = some (.pointer none) := by simp [World.cell?, eA]
  have a1 : w2.cell? ⟨zb + 1, 1, none⟩ = some (.pointer (some ⟨zb, 0, none⟩)) := by simp [World.cell?, eA]
  clear hw2 hzb g2 eA eR1 gW1
  refine wpIn_loop_rounds 3 ?_
  rw [roundsIn_succ]
  have hN1 : ∀ w', w2.grownBy w' none → NonePtr w' (none) := fun w' g => .inl rfl
  gi_wp2_with (first
    | (refine ⟨trivial, ?_⟩; gi_at_call 12; refine (callsIn_wide.2 (get_nobody _ _ _ (hN1 _ (World.grownBy.refl _ _)) ⟨_, _, _, rfl⟩)).mono ?_; rintro e x1 ⟨rfl, h1⟩)
    | (refine ⟨trivial, ?_⟩; gi_at_call 13; refine (callsIn_wide.2 (longest_nobody _ _ _ (hN1 _ h1) ⟨_, _, _, rfl⟩)).mono ?_; rintro e x2 ⟨rfl, h2⟩; have h2 := h1.trans h2)
    | (refine ⟨trivial, ?_⟩; gi_at_call 18; refine (callsIn_wide.2 (begins_nobody _ _ _ (hN1 _ h2) ⟨_, _, _, rfl⟩)).mono ?_; rintro e x3 ⟨rfl, h3⟩; have h3 := h2.trans h3)
    | (refine ⟨trivial, ?_⟩; gi_at_call 11; refine (callsIn_wide.2 (len_nobody _ _ (hN1 _ h3))).mono ?_; rintro e x4 ⟨rfl, rfl⟩)
    | (refine ⟨trivial, ?_⟩; gi_at_call 15; refine (callsIn_wide.2 (asked_nobody _ _ (hN1 _ h3))).mono ?_; rintro e x5 ⟨rfl, rfl⟩)
    | (refine ⟨trivial, ?_⟩; gi_at_call 21; refine (callsIn_wide.2 (under_nobody _ _ _ (hN1 _ h3) ⟨_, _, _, rfl⟩)).mono ?_; rintro e x6 ⟨eb, q3, q2, rfl, bE, bQ, h6⟩; have h6 := h3.trans h6))
  have gB := World.grownBy_alloc x6 (.cells #[.func (.func 40) #[] #[.pointer (some ⟨eb, 0, none⟩)]] 48) none
  have eB : Box (x6.alloc (.cells #[.func (.func 40) #[] #[.pointer (some ⟨eb, 0, none⟩)]] 48)) x6.heap.size 48 _ := World.alloc_heap_new x6 _
  have hsx : (x6.alloc (.cells #[.func (.func 40) #[] #[.pointer (some ⟨eb, 0, none⟩)]] 48)).heap.size = x6.heap.size + 1 := by simp
  obtain ⟨y1, hy⟩ : ∃ y, y = x6.alloc (.cells #[.func (.func 40) #[] #[.pointer (some ⟨eb, 0, none⟩)]] 48) := ⟨_, rfl⟩
  rw [← hy] at gB eB hsx ⊢
  have gy1 := h6.trans gB
  have bE := bE.new gB
  have bQ := bQ.new gB
  have u0 := eB.c0
  have hnq := fun w => neqNil eb w
  clear hy eB h6 h3 hN1 hsx
  refine wpIn_loop_rounds 2 ?_
  rw [roundsIn_succ]
  gi_wp2_with fail
  refine range_tellsZ rfl (by omega) (gf := 40) (lb := #[.pointer (some ⟨eb, 0, none⟩)]) rfl trivial (enters_of Try.func40 (by kernel_rfl) rfl)
    (under1_none _ eb q3 q2 (fun k => k = eb ∨ k = q3) y1 bE bQ (.inr rfl) (.inl rfl)) (fun k h => by rcases h with rfl | rfl; exact bE.lt; exact bQ.lt) (fun _ => rfl) (fun _ _ _ _ _ _ h _ _ _ => h) (fun _ _ A => y1.grownBy A none) (fun _ _ _ _ => False) (fun _ _ _ h => h.size) ?hI1 ?hIx1 (World.grownBy.refl _ _) (fun _ _ _ => True) (fun _ _ _ _ h _ => h) (fun _ _ _ _ _ _ _ _ _ _ => trivial) ?assign1 ?body1 ?done1 ?stop1
  case hI1 => exact ⟨fun _ _ _ _ _ h g _ _ => h.trans g, fun _ _ _ _ q h _ h1 g => gnew h g (fun r e => by cases e; left; omega)⟩
  case hIx1 => exact fun c => ⟨fun _ _ _ _ _ h _ _ _ => h.elim, fun _ _ _ _ _ h _ _ _ => h.elim⟩
  case assign1 =>
    intro l' x W' K hK
    unfold eEnc
    gi_wp2_with fail
    exact hK _ _ (World.grownBy.refl W' none) trivial
  case body1 =>
    intro l' Z' pre x a' W' _ _ _ h
    exact h.elim
  case stop1 =>
    rintro D c Z' pre A B _ _ _ _ h
    exact h.elim
  case done1 =>
    rintro D1 Z' xs A B1 hD1 _ _ _ _ hgB1 _ hM1
    have gW3 := gW2.trans (gy1.trans hgB1)
    have eR3 := eR2.new (gy1.trans hgB1)
    have eZ3 : TrAt B1 zb none (.slice none 0 0) 0 := ((gy1.trans hgB1).block _ eZ2.lt (by simp)).trans eZ2
    have hsz1 : W.heap.size < y1.heap.size := (eR2.new gy1).lt
    clear bE bQ u0 hnq gB
    have a1 := (gy1.trans hgB1).cell a1 (by simp)
    clear a0 eR2 eZ2 gW2 gy1
    gi_wp2_with fail
    rw [roundsIn_succ]
    gi_wp2_with fail
    rw [roundsIn_succ]
    have hN2 : ∀ w', B1.grownBy w' none → NonePtr w' (some ⟨zb, 0, none⟩) := fun w' g => .inr ⟨zb, _, _, rfl, (g.block _ eZ3.lt (by simp)).trans eZ3⟩
    gi_wp2_with (first
      | (refine ⟨trivial, ?_⟩; gi_at_call 12; refine (callsIn_wide.2 (get_nobody _ _ _ (hN2 _ (World.grownBy.refl _ _)) ⟨_, _, _, rfl⟩)).mono ?_; rintro e x1 ⟨rfl, h1⟩)
      | (refine ⟨trivial, ?_⟩; gi_at_call 13; refine (callsIn_wide.2 (longest_nobody _ _ _ (hN2 _ h1) ⟨_, _, _, rfl⟩)).mono ?_; rintro e x2 ⟨rfl, h2⟩; have h2 := h1.trans h2)
      | (refine ⟨trivial, ?_⟩; gi_at_call 18; refine (callsIn_wide.2 (begins_nobody _ _ _ (hN2 _ h2) ⟨_, _, _, rfl⟩)).mono ?_; rintro e x3 ⟨rfl, h3⟩; have h3 := h2.trans h3)
      | (refine ⟨trivial, ?_⟩; gi_at_call 11; refine (callsIn_wide.2 (len_nobody _ _ (hN2 _ h3))).mono ?_; rintro e x4 ⟨rfl, rfl⟩)
      | (refine ⟨trivial, ?_⟩; gi_at_call 15; refine (callsIn_wide.2 (asked_nobody _ _ (hN2 _ h3))).mono ?_; rintro e x5 ⟨rfl, rfl⟩)
      | (refine ⟨trivial, ?_⟩; gi_at_call 21; refine (callsIn_wide.2 (under_nobody _ _ _ (hN2 _ h3) ⟨_, _, _, rfl⟩)).mono ?_; rintro e x6 ⟨eb, q3, q2, rfl, bE, bQ, h6⟩; have h6 := h3.trans h6))
    have gB := World.grownBy_alloc x6 (.cells #[.func (.func 40) #[] #[.pointer (some ⟨eb, 0, none⟩)]] 48) none
    have eB : Box (x6.alloc (.cells #[.func (.func 40) #[] #[.pointer (some ⟨eb, 0, none⟩)]] 48)) x6.heap.size 48 _ := World.alloc_heap_new x6 _
    have hsx : (x6.alloc (.cells #[.func (.func 40) #[] #[.pointer (some ⟨eb, 0, none⟩)]] 48)).heap.size = x6.heap.size + 1 := by simp
    obtain ⟨y2, hy⟩ : ∃ y, y = x6.alloc (.cells #[.func (.func 40) #[] #[.pointer (some ⟨eb, 0, none⟩)]] 48) := ⟨_, rfl⟩
    rw [← hy] at gB eB hsx ⊢
    have gy2 := h6.trans gB
    have bE := bE.new gB
    have bQ := bQ.new gB
    have u0 := eB.c0
    have hnq := fun w => neqNil eb w
    clear hy eB h6 h3 hN2 hsx
    refine wpIn_loop_rounds 2 ?_
    rw [roundsIn_succ]
    gi_wp2_with fail
    refine range_tellsZ rfl (by omega) (gf := 40) (lb := #[.pointer (some ⟨eb, 0, none⟩)]) rfl trivial (enters_of Try.func40 (by kernel_rfl) rfl)
      (under1_none _ eb q3 q2 (fun k => k = eb ∨ k = q3) y2 bE bQ (.inr rfl) (.inl rfl)) (fun k h => by rcases h with rfl | rfl; exact bE.lt; exact bQ.lt) (fun _ => rfl) (fun _ _ _ _ _ _ h _ _ _ => h) (fun _ _ A => y2.grownBy A none) (fun _ _ _ _ => False) (fun _ _ _ h => h.size) ?hI2 ?hIx2 (World.grownBy.refl _ _) (fun _ _ _ => True) (fun _ _ _ _ h _ => h) (fun _ _ _ _ _ _ _ _ _ _ => trivial) ?assign2 ?body2 ?done2 ?stop2
    case hI2 => exact ⟨fun _ _ _ _ _ h g _ _ => h.trans g, fun _ _ _ _ q h _ h1 g => gnew h g (fun r e => by cases e; left; omega)⟩
    case hIx2 => exact fun c => ⟨fun _ _ _ _ _ h _ _ _ => h.elim, fun _ _ _ _ _ h _ _ _ => h.elim⟩
    case assign2 =>
      intro l' x W' K hK
      unfold eEnc
      gi_wp2_with fail
      exact hK _ _ (World.grownBy.refl W' none) trivial
    case body2 =>
      intro l' Z' pre x a' W' _ _ _ h
      exact h.elim
    case stop2 =>
      rintro D c Z' pre A B _ _ _ _ h
      exact h.elim
    case done2 =>
      rintro D2 Z' xs A B2 hD2 _ _ _ _ hgB2 _ hM2
      have gW4 := gW3.trans (gy2.trans hgB2)
      have eR4 := eR3.new (gy2.trans hgB2)
      have eZ4 : TrAt B2 zb none (.slice none 0 0) 0 := ((gy2.trans hgB2).block _ eZ3.lt (by simp)).trans eZ3
      have hsz2 : W.heap.size < y2.heap.size := (eR3.new gy2).lt
      clear bE bQ u0 hnq gB
      have hM1q := hM1
      have hM1 := ((gy2.trans hgB2).block _ (lt_of_block hM1) (by simp)).trans hM1
      have hD12 : D1 < y2.heap.size := Nat.lt_of_lt_of_le (lt_of_block hM1q) gy2.size
      clear a1 eR3 eZ3 gW3 gy2 eZ4 hgB1 hgB2
      gi_wp2_with fail
      rw [roundsIn_succ]
      gi_wp2_with fail
      rw [roundsIn_succ]
      obtain ⟨s, hs⟩ : ∃ s, s = B2.heap.size := ⟨_, rfl⟩
      obtain ⟨A1, hA1⟩ : ∃ A, A = B2.alloc (.cells #[.int .i32 97] 21) := ⟨_, rfl⟩
      obtain ⟨A2, hA2⟩ : ∃ A, A = A1.alloc (.cells #[.int .i64 5, .int .i64 5, .int .i64 5, .bool false] 66) := ⟨_, rfl⟩
      obtain ⟨A3, hA3⟩ : ∃ A, A = A2.alloc (.cells #[.slice (some ⟨B2.heap.size, 0, none⟩) 1 1, .slice (some ⟨B2.heap.size + 1, 0, none⟩) 1 1] 35) := ⟨_, rfl⟩
      have z1 : A1.heap.size = s + 1 := by rw [hA1, hs]; simp
      have z2 : A2.heap.size = s + 1 + 1 := by rw [hA2]; rw [World.size_alloc, z1]
      have z3 : A3.heap.size = s + 1 + 1 + 1 := by rw [hA3]; rw [World.size_alloc, z2]
      have ga1 : B2.grownBy A1 none := by rw [hA1]; exact World.grownBy_alloc _ _ _
      have ga2 : A1.grownBy A2 none := by rw [hA2]; exact World.grownBy_alloc _ _ _
      have ga3 : A2.grownBy A3 none := by rw [hA3]; exact World.grownBy_alloc _ _ _
      have b1 : A1.heap[s]? = some (.cells #[.int .i32 97] 21 (0, 0)) := by rw [hA1, hs]; exact World.alloc_heap_new _ _
      have b2 : A2.heap[s + 1]? = some (.cells #[.int .i64 5, .int .i64 5, .int .i64 5, .bool false] 66 (0, 0)) := by rw [hA2, ← z1]; exact World.alloc_heap_new _ _
      have b3 : A3.heap[s + 1 + 1]? = some (.cells #[.slice (some ⟨s, 0, none⟩) 1 1, .slice (some ⟨s + 1, 0, none⟩) 1 1] 35 (0, 0)) := by rw [hA3, ← z2, hs]; exact World.alloc_heap_new _ _
      have c1 := ((ga2.trans ga3).block _ (lt_of_block b1) (by simp)).trans b1
      have c2 := (ga3.block _ (lt_of_block b2) (by simp)).trans b2
      have gBA : B2.grownBy A3 none := (ga1.trans ga2).trans ga3
      have hE : EntsR (fun k => k < A3.heap.size) A3 (.slice (some ⟨s + 1 + 1, 0, none⟩) 1 1) [nn1] := by
        refine ⟨[(.slice (some ⟨s, 0, none⟩) 1 1, .slice (some ⟨s + 1, 0, none⟩) 1 1)], rfl, ?_, ?_⟩
        · have := sr_lit (P := fun k => k < A3.heap.size) (k := 2) (n := 1) b3 (by omega) rfl (by omega)
          simpa [pc] using this
        · intro i x p hx hp
          match i, hx, hp with
          | 0, hx, hp =>
            simp at hx hp
            subst hx hp
            have q1 := sr_lit (P := fun k => k < A3.heap.size) (k := 1) (n := 1) c1 (by omega) rfl (by omega)
            have q2 := sr_lit (P := fun k => k < A3.heap.size) (k := 4) (n := 1) c2 (by omega) rfl (by omega)
            exact ⟨q1, q2⟩
      have hNew := new_any _ _ A3 hE
      rw [nn_all] at hNew
      dsimp only at hNew
      have hz0 : ((0 : Nat) : Int) = 0 := rfl
      rw [hz0] at hNew
      clear hz0 hE ga1 ga2 ga3 b1 b2
      have hBA := Lib.hid gBA
      clear gBA
      have hNQ : ∀ po w4, NewQ A3 [nn1] 0 po w4 → ∃ t rt ve nd mp, po = some ⟨t, 0, none⟩ ∧ Hid (TrieAt (fun k => A3.heap.size ≤ k) w4 t [nn1] 0 rt ve nd mp) ∧ Hid (A3.grownBy w4 none) := fun po w4 hq => by
        rcases hq.2 with ⟨_, t, rt, ve, nd, mp, h1, h2⟩ | ⟨h, _⟩
        · exact ⟨t, rt, ve, nd, mp, h1, Lib.hid h2, Lib.hid (hq.1.grownB (fun k h => h))⟩
        · exact absurd rfl h
      replace hNQ := Lib.hid hNQ
      have hNew2 := hNew
      rw [hA3, hA2, hA1] at hNew2
      have e1 : s + 1 + 1 = B2.heap.size + 1 + 1 := by omega
      rw [e1] at hNew2
      replace hA1 := Lib.hid hA1
      replace hA2 := Lib.hid hA2
      replace hA3 := Lib.hid hA3
      replace hs := Lib.hid hs
      clear hNew e1 z1 z2
      have hsA : s + 1 + 1 + 1 = A3.heap.size := z3.symm
      clear z3
      replace hsA := Lib.hid hsA
      gi_wp2_with fail
      refine ⟨trivial, ?_⟩
      refine (callsIn_wide.2 hNew2).mono ?_
      clear hNew2
      rintro e w4 ⟨po, rfl, hq⟩
      rw [← hA1.out, ← hA2.out, ← hA3.out] at hq
      obtain ⟨t, rt, ve, nd, mp, rfl, hT4, g4⟩ := hNQ.out po w4 hq
      clear hq hNQ
      rw [← hs.out]
      have c3 := (g4.out.block _ (lt_of_block b3) (by simp)).trans b3
      have c1 := (g4.out.block _ (lt_of_block c1) (by simp)).trans c1
      have c2 := (g4.out.block _ (lt_of_block c2) (by simp)).trans c2
      have k0 : w4.cell? ⟨s + 1 + 1, 0, none⟩ = some (.slice (some ⟨s, 0, none⟩) 1 1) := by simp only [World.cell?, c3]; rfl
      have k1 : w4.cell? ⟨s, 0, none⟩ = some (.int .i32 97) := by simp only [World.cell?, c1]; rfl
      have k2 : w4.frozen? ⟨s, 0, none⟩ = false := by simp [World.frozen?, c1]
      have c3b : (w4.setCell ⟨s, 0, none⟩ (.int .i32 98)).heap[s + 1 + 1]? = _ := (Below.heap_setCell _ _ _ _ (by show s + 1 + 1 ≠ s; omega)).trans c3
      have c2b : (w4.setCell ⟨s, 0, none⟩ (.int .i32 98)).heap[s + 1]? = _ := (Below.heap_setCell _ _ _ _ (by show s + 1 ≠ s; omega)).trans c2
      have k3 : (w4.setCell ⟨s, 0, none⟩ (.int .i32 98)).cell? ⟨s + 1 + 1, 1, none⟩ = some (.slice (some ⟨s + 1, 0, none⟩) 1 1) := by simp only [World.cell?, c3b]; rfl
      have k4 : (w4.setCell ⟨s, 0, none⟩ (.int .i32 98)).cell? ⟨s + 1, 0, none⟩ = some (.int .i64 5) := by simp only [World.cell?, c2b]; rfl
      have k5 : (w4.setCell ⟨s, 0, none⟩ (.int .i32 98)).frozen? ⟨s + 1, 0, none⟩ = false := by simp [World.frozen?, c2b]
      gi_wp2_with fail
      have hsB2 := hs.out
      obtain ⟨w6, hw6⟩ : ∃ w6, w6 = (w4.setCell ⟨s, 0, none⟩ (.int .i32 98)).setCell ⟨s + 1, 0, none⟩ (.int .i64 9) := ⟨_, rfl⟩
      have g56 : ∀ {X : World}, X.grownBy w4 none → X.heap.size ≤ s → X.grownBy w6 none := fun h hx => by
        rw [hw6]
        exact gnew (gnew h (gset (World.grownBy.refl w4 (some s)) 0 (.int .i32 98)) (fun r e => by cases e; exact .inl hx)) (gset (World.grownBy.refl _ (some (s + 1))) 0 (.int .i64 9)) (fun r e => by cases e; left; omega)
      have hs6 : ∀ k, k ≠ s → k ≠ s + 1 → w6.heap[k]? = w4.heap[k]? := fun k h1 h2 => by
        rw [hw6]
        exact (Below.heap_setCell _ _ _ _ (fun e => h2 (by simpa using e))).trans (Below.heap_setCell _ _ _ _ (fun e => h1 (by simpa using e)))
      have hz6 : w6.heap.size = w4.heap.size := by rw [hw6]; simp
      have hT6 : TrieAt (fun k => A3.heap.size ≤ k) w6 t [nn1] 0 rt ve nd mp := hT4.out.heap (fun k hk _ => hs6 k (by have := hsA.out; omega) (by have := hsA.out; omega))
      have hT6l := hT6.low
      have gB6 : B2.grownBy w6 none := g56 (hBA.out.trans g4.out) (by omega)
      rw [← hw6]
      have bX1 : (w6.alloc (.cells #[.int .i32 97] 21)).heap[w6.heap.size]? = some (.cells #[.int .i32 97] 21 (0, 0)) := World.alloc_heap_new w6 _
      have gX1 := World.grownBy_alloc w6 (.cells #[.int .i32 97] 21) none
      rw [hz6] at bX1
      have ht6 := hT6l.tr.lt
      have hT4s : Hid (B2.heap.size ≤ t) := Lib.hid (Nat.le_trans hBA.out.size hT6.tq)
      have hz1 : nn1.els.length = 1 := rfl
      have hget1 := get_some (P := fun k => k = w4.heap.size) _ [97] nn1 _ (hT6l.new gX1) (sr_lit (k := 1) (n := 1) bX1 rfl rfl (by omega)) (fun k e => by omega) (by omega) (by omega) nn_find (by decide)
      simp only [hz1] at hget1
      have hsX1 : (w6.alloc (.cells #[.int .i32 97] 21)).heap.size = w6.heap.size + 1 := by simp
      replace hw6 := Lib.hid hw6
      replace hsX1 := Lib.hid hsX1
      replace hz6 := Lib.hid hz6
      replace hT6l := Lib.hid hT6l
      replace gB6 := Lib.hid gB6
      clear hT6 hs6 g56 hT4 k0 k1 k2 k3 k4 k5 c1 c2 c3 c2b c3b bX1 hsB2 hz1
      refine ⟨trivial, ?_⟩
      with_reducible refine (callsIn_wide.2 hget1).mono ?_
      clear hget1
      rintro e w7 ⟨a7, rfl, o7, T7, g7⟩
      obtain ⟨k7, rfl, hk7, k7c, k7f⟩ := so_one o7
      have k7c : w7.cell? ⟨k7, 0, none⟩ = some (.int .i64 5) := k7c
      replace T7 := Lib.hid T7
      clear o7
      gi_wp2_with fail
      have hX1s := hsX1.out
      have ht7 := T7.out.tr.lt
      have hw7 : w6.heap.size < w7.heap.size := by have := g7.size; omega
      obtain ⟨w8, hw8⟩ : ∃ w8, w8 = w7.setCell ⟨k7, 0, none⟩ (.int .i64 9) := ⟨_, rfl⟩
      have hz8 : w8.heap.size = w7.heap.size := by rw [hw8]; simp
      have g78 : w7.grownBy w8 (some k7) := by rw [hw8]; exact gset (World.grownBy.refl w7 (some k7)) 0 (.int .i64 9)
      have hT8 : TrieAt (fun k => k < w6.heap.size) w8 t [nn1] (0 + 1) rt ve nd mp := T7.out.heap (fun k hk hl => g78.block k hl (fun e => by cases e; omega))
      have gB7 : B2.grownBy w7 none := gnew (gB6.out.trans gX1) g7 (fun r e => by cases e; left; have := hT4s.out; omega)
      have gB8 : B2.grownBy w8 none := gnew gB7 g78 (fun r e => by cases e; left; have := gB6.out.size; omega)
      rw [← hw8]
      have bX2 : (w8.alloc (.cells #[.int .i32 97] 21)).heap[w8.heap.size]? = some (.cells #[.int .i32 97] 21 (0, 0)) := World.alloc_heap_new w8 _
      have gX2 := World.grownBy_alloc w8 (.cells #[.int .i32 97] 21) none
      have hsX2 : (w8.alloc (.cells #[.int .i32 97] 21)).heap.size = w8.heap.size + 1 := by simp
      rw [hz8] at bX2
      have hz1 : nn1.els.length = 1 := rfl
      have hget2 := get_some (P := fun k => k = w7.heap.size) _ [97] nn1 _ (hT8.new gX2) (sr_lit (k := 1) (n := 1) bX2 rfl rfl (by omega)) (fun k e => by omega) (by omega) (by omega) nn_find (by decide)
      simp only [hz1] at hget2
      replace gB8 := Lib.hid gB8
      replace hT8 := Lib.hid hT8
      clear hz1 bX2 k7c k7f hw8 hX1s g78 gB7
      refine ⟨trivial, ?_⟩
      with_reducible refine (callsIn_wide.2 hget2).mono ?_
      clear hget2
      rintro e w9 ⟨a9, rfl, o9, T9, g9⟩
      obtain ⟨k9, rfl, hk9, k9c, k9f⟩ := so_one o9
      have k9c : w9.cell? ⟨k9, 0, none⟩ = some (.int .i64 5) := k9c
      have gB9 : B2.grownBy w9 none := gnew (gB8.out.trans gX2) g9 (fun r e => by cases e; left; have := hT4s.out; omega)
      have hrn := hrun.out w9 (gW4.trans gB9)
      have eR9 := eR4.new gB9
      clear o9 T9
      gi_wp2_with fail
      refine ⟨trivial, ?_⟩
      with_reducible refine (callsIn_wide.2 hrn).mono ?_
      clear hrn
      rintro e wA ⟨rfl, gA⟩
      have eRA := eR9.new gA
      have gBA2 := gB9.trans gA
      have hMA1 := (gBA2.block _ (lt_of_block hM1) (by simp)).trans hM1
      have hMA2 := (gBA2.block _ (lt_of_block hM2) (by simp)).trans hM2
      have gWA := gW4.trans gBA2
      have rc := eRA.c0
      have rf := eRA.free 0
      have hWD1 : W.heap.size ≠ D1 := by omega
      have hWD2 : W.heap.size ≠ D2 := by have := hsz2; omega
      have hDD : D1 ≠ D2 := by omega
      have hWs : W.heap.size < wA.heap.size := eRA.lt
      gi_wp2
      have x2 : (wA.setCell ⟨W.heap.size, 0, none⟩ (.bool true)).heap[D2]? = _ := (Below.heap_setCell _ _ _ _ (fun e => hWD2 (by simpa using e.symm))).trans hMA2
      have x1 : (wA.setCell ⟨W.heap.size, 0, none⟩ (.bool true)).heap[D1]? = _ := (Below.heap_setCell _ _ _ _ (fun e => hWD1 (by simpa using e.symm))).trans hMA1
      have hBr := eRA.set (.bool true)
      have hbr := (gbelow gWA (Nat.le_refl _) (by simp)).setCell (p := ⟨W.heap.size, 0, none⟩) (Nat.le_refl _) (.bool true)
      generalize wA.setCell ⟨W.heap.size, 0, none⟩ (.bool true) = W10 at x1 x2 hBr hbr ⊢
      refine ⟨by simp, .inl ⟨_, _, rfl, run_takeDeferred x2, ?_⟩⟩
      have x3 : (W10.putObj D2 (.deferred none)).heap[D1]? = some (.deferred (some [])) := (World.putObj_heap_other hDD).trans x1
      refine ⟨by simp, .inl ⟨_, _, rfl, run_takeDeferred x3, ?_⟩⟩
      have hB11 : Box ((W10.putObj D2 (.deferred none)).putObj D1 (.deferred none)) W.heap.size 4 (.bool true) := (World.putObj_heap_other hWD1).trans ((World.putObj_heap_other hWD2).trans hBr)
      have hb11 : Below W.heap.size W ((W10.putObj D2 (.deferred none)).putObj D1 (.deferred none)) :=
        (hbr.trans (gbelow (grownBy_putObj' W10 D2 _) hbr.size (by simp; omega))).trans (gbelow (grownBy_putObj' _ D1 _) (by simpa [World.putObj] using hbr.size) (by simp; omega))
      have hc11 := hB11.c0
      clear hB11 hBr hbr x1 x2 x3
      generalize (W10.putObj D2 (.deferred none)).putObj D1 (.deferred none) = W11 at hc11 hb11 ⊢
      simp [LeavesInM, LeavesIn, results, Try.results6, go_sem, hc11]
      exact hb11

set_option maxHeartbeats 4000000 in
theorem none_big (W : World) (ca : Option Addr) (n cc : Nat) (hle : 500 < n) (hm : n ≤ 9223372036854775807) :
    CallsIn Fence.wide 20 Try.prog 6 #[.slice ca n cc] W fun e W' => e = .returned (.bool true) ∧ Below W.heap.size W W' := by
  have g0 := World.grownBy_alloc W (.cells #[.bool false] 4) none
  have eR : Box (W.alloc (.cells #[.bool false] 4)) W.heap.size 4 (.bool false) := World.alloc_heap_new W _
  have hA := fun w => tawake_any w
  have hbb : decide (500 < (n : Int)) = true := by simp; omega
  refine callsIn_of_wp_marks Try.func6 rfl trivial ?_ rfl
  simp only [Try.ntmps6, List.size_toArray, List.length_cons, List.length_nil, Nat.reduceAdd, Nat.reduceSub, Array.replicate_succ, Array.replicate_zero, List.push_toArray, List.append_toArray, List.nil_append, List.cons_append]
  gi_wp2_with (refine ⟨trivial, ?_⟩; gi_at_call 7; refine (callsIn_wide.2 (hA _)).mono ?_; rintro e w1 ⟨rfl, g1⟩; have eR1 := eR.new g1; have rc := eR1.c0; have rf := eR1.free 0)
  have hBr := eR1.set (.bool true)
  have hbr := (gbelow (g0.trans g1) (Nat.le_refl _) (by simp)).setCell (p := ⟨W.heap.size, 0, none⟩) (Nat.le_refl _) (.bool true)
  have hc11 := hBr.c0
  clear hBr eR1
  generalize w1.setCell ⟨W.heap.size, 0, none⟩ (.bool true) = W11 at hc11 hbr ⊢
  simp [bodyPostM, LeavesInM, LeavesIn, results, Try.results6, go_sem, hc11]
  exact hbr

theorem TrieNone_walk (W : World) (v : Value) (l : List Int) (hl : SR (fun k => k < W.heap.size) 1 W v l.length (rc l)) :
    Calls Try.prog 6 #[v] W fun e W' => e = .returned (.bool true) ∧ Below W.heap.size W W' := by
  obtain ⟨ca, cc, rfl, h1, h2⟩ := hl.form
  unfold maxLen at h2
  by_cases h : l.length ≤ 500
  · exact callsIn_wide.1 (none_law W ca cc l hl h)
  · exact callsIn_wide.1 (none_big W ca l.length cc (by omega) (by omega))
end Go.Proofs.Ytnnijcafnhhnoaa
