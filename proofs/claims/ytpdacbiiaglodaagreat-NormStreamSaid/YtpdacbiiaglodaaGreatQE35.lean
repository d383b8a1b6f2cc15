/-
  LAYER 6 (norm): Order: the canonical order, piece by piece.
-/
import Derived.Test.YtpdacbiiaglodaaGreatQE34
import Derived.Deep.RegionHeld
import Derived.Laws.AppendOwnNone
import Derived.Maps.AppendAt
import Derived.ArgAppend
namespace Go.Proofs.YtpdacbiiaglodaaGreat
set_option maxRecDepth 100000
open Go.RowKit Go.Lib
attribute [local go_sem] Oper.semAt_some

theorem Cut.edge {cf : Int → Int} {l : List Int} {pre : List (Nat × Nat)} {e : Nat} (h : Cut cf l pre e) (he : e ≠ 0) : ∀ u, l[e]? = some u → cf u = 0 := by
  cases h with
  | nil => exact absurd rfl he
  | snoc _ _ _ _ h => exact h
/-- A piece, sorted, goes behind what is in order. -/
theorem cut_next {cf : Int → Int} {l : List Int} {pre : List (Nat × Nat)} {e t : Nat} {seg' : List Int} (hpos : ∀ r, 0 ≤ cf r) (h : Piece cf l pre (e, t)) (hs : StM cf ((l.drop e).take (t - e)) seg') : ord cf (l.take t) = ord cf (l.take e) ++ seg' := by
  obtain ⟨h1, h2, h3, h4, h5⟩ := h
  dsimp only at h1 h2 h3 h4 h5
  have hel : e < l.length := by omega
  have e1 : l.take t = l.take e ++ (l.drop e).take (t - e) := by
    rw [← List.take_append_drop e (l.take t), List.take_take, Nat.min_eq_left (by omega), List.drop_take]
  obtain ⟨x0, hx0⟩ : ∃ x, l[e] = x := ⟨_, rfl⟩
  have e2 : (l.drop e).take (t - e) = x0 :: (l.drop (e + 1)).take (t - e - 1) := by
    rw [List.drop_eq_getElem_cons hel, hx0, show t - e = (t - e - 1) + 1 by omega, List.take_succ_cons]
    rfl
  have hm : ∀ m ∈ (l.drop (e + 1)).take (t - e - 1), 0 < cf m := by
    intro m hm
    obtain ⟨k, hk, rfl⟩ := List.mem_take_iff_getElem.1 hm
    rw [List.length_drop] at hk
    rw [List.getElem_drop]
    have := h4 (e + 1 + k) _ (by omega) (by omega) (List.getElem?_eq_getElem (by omega))
    have := hpos l[e + 1 + k]
    omega
  rw [e2] at hs
  have hu := hs.unique (ord_piece cf x0 _ hm)
  rw [e1, e2, hu]
  by_cases he : e = 0
  · subst he
    rw [List.take_zero, ord_nil, List.nil_append, List.nil_append]
  · have h0 := h1.edge he x0 (by rw [List.getElem?_eq_getElem hel, hx0])
    exact ord_split cf _ _ _ (by omega)
theorem clsOf_pos (r : Int) : ∀ {c : List Cls} {least : Int}, clsOk least c = true → 0 ≤ clsOf c r
  | [], _, _ => Int.le_refl _
  | x :: t, least, h => by
    rw [clsOk, Bool.and_eq_true] at h
    rw [clsOf]
    split
    · have := h.1
      simp only [clOk, Bool.and_eq_true, decide_eq_true_eq] at this
      omega
    · exact clsOf_pos r h.2
theorem nd_pos {p : Value} {cf : Int → Int} {df : Int → List Int} {F : Nat → Prop} {w : World} (h : ND p cf df F w) : ∀ r, 0 ≤ cf r := by
  rcases h with ⟨_, rfl, _⟩ | ⟨n, c, d, dn, _, _, hg, rfl, _⟩
  · intro r; exact Int.le_refl _
  · intro r
    obtain ⟨q1, q2, q3, q4⟩ := good_parts hg
    exact clsOf_pos r (by assumption)
theorem ND.form {p : Value} {cf : Int → Int} {df : Int → List Int} {F : Nat → Prop} {w : World} (h : ND p cf df F w) : ∃ q, p = .pointer q := by
  rcases h with ⟨rfl, _⟩ | ⟨n, c, d, dn, rfl, _⟩
  · exact ⟨_, rfl⟩
  · exact ⟨_, rfl⟩

theorem mpieces_any (q : Option Addr) (a : Option Addr) (n c : Nat) (w : World) : Calls Tryz.prog 65 #[.pointer q, .slice a n c] w fun e w' => e = .returned (.func (.func 108) #[] #[.pointer (some ⟨w.heap.size + 1, 0, none⟩), .pointer (some ⟨w.heap.size, 0, none⟩)]) ∧ Boxed w' (w.heap.size + 1) 50 (.slice a n c) ∧ Boxed w' w.heap.size 31 (.pointer q) ∧ w.grownBy w' none := by
  have hmf : ∀ (fn : Fn) (first cap : Array Value) (w : World), (Instr.makeFunc fn first cap).run Tryz.prog w = .ok (.func fn first cap) w := fun _ _ _ _ => rfl
  go_enter Tryz.func65, Tryz.ntmps65
  go_wp2
  go_ret
  have g1 := World.grownBy_alloc w (.cells #[.pointer q] 31) none
  have g2 := World.grownBy_alloc (w.alloc (.cells #[.pointer q] 31)) (.cells #[.slice a n c] 50) none
  have b2 := Boxed.new (w.alloc (.cells #[.pointer q] 31)) 50 (.slice a n c)
  rw [World.size_alloc] at b2
  exact ⟨rfl, b2, (Boxed.new w _ (.pointer q)).kept g2 (by simp), g1.trans g2⟩

/-- What holds between the rounds. -/
def OInv (p : Value) (cf : Int → Int) (df : Int → List Int) (F : Nat → Prop) (bl bn nb b : Nat) (lv : Value) (l : List Int) (w w5 : World) (pre : List (Nat × Nat)) (W : World) : Prop :=
  PView p cf df F bl bn b lv l pre W ∧ RAt W b 0 (ord cf (l.take (endOf pre)) ++ l.drop (endOf pre)) ∧ Cut cf l pre (endOf pre) ∧ Boxed W nb 31 p ∧ w.grownBy W none ∧ w5.heap.size ≤ W.heap.size

theorem OInv.next {p : Value} {cf : Int → Int} {df : Int → List Int} {F : Nat → Prop} {bl bn nb b : Nat} {lv : Value} {l : List Int} {w w5 : World} {pre : List (Nat × Nat)} {W W2 : World} {x : Nat × Nat} {seg' : List Int}
    (hI : OInv p cf df F bl bn nb b lv l w w5 pre W) (hx : Piece cf l pre x) (hpos : ∀ r, 0 ≤ cf r) (hF : ¬ F b) (n1 : b ≠ bl) (n2 : b ≠ bn) (n3 : b ≠ nb) (hbw : w.heap.size ≤ b)
    (hs : StM cf ((l.drop x.1).take (x.2 - x.1)) seg') (hr : RAt W2 b x.1 seg') (hg : W.grownBy W2 (some b)) (hc : ∀ o, o < x.1 ∨ x.1 + (x.2 - x.1) ≤ o → W2.cell? ⟨b, o, none⟩ = W.cell? ⟨b, o, none⟩) (hf : ∀ o, W2.frozen? ⟨b, o, none⟩ = W.frozen? ⟨b, o, none⟩) :
    OInv p cf df F bl bn nb b lv l w w5 (pre ++ [x]) W2 := by
  obtain ⟨⟨v1, v2, v3, v4⟩, h2, h3, h4, h5, h6⟩ := hI
  obtain ⟨e, t⟩ := x
  have he : endOf pre = e := hx.1.endOf
  have ht : endOf (pre ++ [(e, t)]) = t := hx.cut.endOf
  have hlt : e < t := hx.2.1
  have htl : t ≤ l.length := hx.2.2.1
  rw [he] at v4 h2
  dsimp only at hs hr hc
  have hsl : seg'.length = t - e := by rw [hs.2.2, List.length_take, List.length_drop]; omega
  have hol : (ord cf (l.take e)).length = e := by rw [ord_length, List.length_take]; omega
  refine ⟨⟨v1.kept hg (by simpa using n1.symm), v2.kept hg (by simpa using n2.symm), v3.grown hg (fun k e => by cases e; exact hF), fun i u hi hu => ?_⟩, ?_, ?_, h4.kept hg (by simpa using n3.symm), gnew h5 hg (fun r e => by cases e; left; exact hbw), Nat.le_trans h6 hg.size⟩
  · rw [ht] at hi
    rw [hc i (.inr (by omega))]
    exact v4 i u (by omega) hu
  · rw [ht, cut_next hpos hx hs]
    intro i u hu
    rw [Nat.zero_add]
    rcases Nat.lt_or_ge i e with hi | hi
    · rw [List.append_assoc, List.getElem?_append_left (by omega)] at hu
      have := h2 i u (by rw [List.getElem?_append_left (by omega)]; exact hu)
      rw [Nat.zero_add] at this
      rw [hc i (.inl hi), hf]
      exact this
    · rcases Nat.lt_or_ge i t with hj | hj
      · rw [List.append_assoc, List.getElem?_append_right (by omega), List.getElem?_append_left (by omega), hol] at hu
        have := hr (i - e) u hu
        rw [show e + (i - e) = i by omega] at this
        exact this
      · rw [List.getElem?_append_right (by rw [List.length_append]; omega), List.length_append, hol, hsl, List.getElem?_drop, show t + (i - (e + (t - e))) = i by omega] at hu
        have := h2 i u (by rw [List.getElem?_append_right (by omega), hol, List.getElem?_drop, show e + (i - e) = i by omega]; exact hu)
        rw [Nat.zero_add] at this
        rw [hc i (.inr (by omega)), hf]
        exact this
  · rw [ht]
    exact hx.cut

set_option maxHeartbeats 8000000 in
theorem order_in (p v : Value) (cf : Int → Int) (df : Int → List Int) (F : Nat → Prop) (l : List Int) (w : World) (hN : ND p cf df F w) (hR : RS w v l) (hlen : l.length < 1099511627776) :
    CallsIn Fence.wide 10 Tryz.prog 39 #[p, v] w fun e w' => ∃ a, e = .returned (.slice a l.length l.length) ∧ RO w.heap.size w' (.slice a l.length l.length) (ord cf l) ∧ w.grownBy w' none := by
  have hpos := nd_pos hN
  obtain ⟨pq, rfl⟩ := hN.form
  have hmf : ∀ (fn : Fn) (first cap : Array Value) (w : World), (Instr.makeFunc fn first cap).run Tryz.prog w = .ok (.func fn first cap) w := fun _ _ _ _ => rfl
  have g0 := World.grownBy_alloc w (.cells #[.pointer pq] 31) none
  have hC := mcopied_any v l _ (hR.new g0) hlen
  have hP := fun a W => mpieces_any pq a l.length l.length W
  obtain ⟨n, hn⟩ : ∃ n, n = l.length := ⟨_, rfl⟩
  rw [← hn] at hC hP
  have HNL := Lib.hid hn
  obtain ⟨va, vc, rfl, _⟩ := hR
  rw [← hn] at hC ⊢
  clear hn
  refine callsIn_of_wp_marks Tryz.func39 rfl trivial ?_ rfl
  simp only [Tryz.ntmps39, List.size_toArray, List.length_cons, List.length_nil, Nat.reduceAdd, Nat.reduceSub, Array.replicate_succ, Array.replicate_zero, List.push_toArray, List.append_toArray, List.nil_append, List.cons_append]
  have hb0 : (w.alloc (.cells #[.pointer pq] 31)).cell? ⟨w.heap.size, 0, none⟩ = some (.pointer pq) := (Boxed.new w _ (.pointer pq)).cell
  gi_wp2_with (first
    | (refine ⟨trivial, ?_⟩; gi_at_call 66; refine (callsIn_wide.2 hC).mono ?_; rintro e w3 ⟨a, rfl, hO3, hg3⟩; have hb3 := hg3.cell hb0 (by simp))
    | (refine ⟨trivial, ?_⟩; gi_at_call 65; refine (callsIn_wide.2 (hP _ _)).mono ?_; rintro e w5 ⟨rfl, hbl, hbn, hg5⟩))
  obtain ⟨b, hba, hbw, hbn0, hb3', hR3⟩ : ∃ b, (l ≠ [] → a = some ⟨b, 0, none⟩) ∧ w.heap.size ≤ b ∧ (l ≠ [] → b ≠ w.heap.size) ∧ b < w3.heap.size ∧ RAt w3 b 0 l := by
    obtain ⟨a', c', e', _, _, _, hh⟩ := hO3
    cases e'
    rw [World.size_alloc] at hh
    by_cases hl : l = []
    · subst hl
      have := hg3.size
      rw [World.size_alloc] at this
      exact ⟨w.heap.size, fun h => absurd rfl h, Nat.le_refl _, fun h => absurd rfl h, by omega, fun i u hu => by simp at hu⟩
    · obtain ⟨b, q1, q2, q3, q4⟩ := hh hl
      exact ⟨b, fun _ => q1, by omega, fun _ => by omega, q3, q4⟩
  have hFw := hN.lt
  have gw5 : w.grownBy w5 none := (g0.trans hg3).trans hg5
  have hs35 := hg5.size
  have hT := pieces1_tellsV 3 (.pointer pq) cf df F (w3.heap.size + 1) w3.heap.size b n a l hba (by have := HNL.out; omega) hlen
  rw [← HNL.out] at hT
  have h0 : OInv (.pointer pq) cf df F (w3.heap.size + 1) w3.heap.size w.heap.size b (.slice a n n) l w w5 [] w5 := by
    have hR5 : RAt w5 b 0 l := hR3.kept hb3' hg5 (by simp)
    refine ⟨⟨hbl, hbn, hN.new gw5, fun i u _ hu => ?_⟩, ?_, .nil, ((Boxed.new w _ (.pointer pq)).kept hg3 (by simp)).kept hg5 (by simp), gw5, Nat.le_refl _⟩
    · have := (hR5 i u hu).1
      rwa [Nat.zero_add] at this
    · show RAt w5 b 0 (ord cf (l.take 0) ++ l.drop 0)
      rw [List.take_zero, ord_nil, List.drop_zero, List.nil_append]
      exact hR5
  have hb5 : b < w5.heap.size := by omega
  have hlbl := hbl.lt
  clear hN hR3 hO3 hC hP hg3 hb3 hbl hbn hg5 g0 hb0
  refine range_tellsV (a := _) (w := w5) (α := Nat × Nat) rfl (by omega) (gf := 108) (lb := #[.pointer (some ⟨w3.heap.size + 1, 0, none⟩), .pointer (some ⟨w3.heap.size, 0, none⟩)]) rfl trivial (enters_of Tryz.func108 (by kernel_rfl) rfl)
    hT (fun _ => rfl) (fun _ _ _ _ _ _ h _ _ _ => h)
    (OInv (.pointer pq) cf df F (w3.heap.size + 1) w3.heap.size w.heap.size b (.slice a n n) l w w5) (fun _ _ _ => False) (fun _ _ h => h.1) (fun _ _ h => h.2.2.2.2.2) ?hI (fun _ _ _ _ _ h _ _ => h.elim) h0
    (fun x a' _ => a' = { tmps := #[.pointer pq, .slice va n vc, .pointer (some ⟨w.heap.size, 0, none⟩), undef, .slice none 0 0, .slice a n n, .slice (some ⟨b, x.1, none⟩) (x.2 - x.1) (n - x.1), .slice va n vc, .slice a n n, .pointer pq, .slice a n n, .func (.func 108) #[] #[.pointer (some ⟨w3.heap.size + 1, 0, none⟩), .pointer (some ⟨w3.heap.size, 0, none⟩)], .slice (some ⟨b, x.1, none⟩) (x.2 - x.1) (n - x.1), undef, undef, undef, undef, undef], defers := [] })
    (fun _ _ _ _ h _ => h) (fun _ _ _ _ _ _ h _ _ _ => h) ?assign ?body ?done ?stop
  case hI =>
    rintro pre A B k ⟨⟨v1, v2, v3, v4⟩, h2, h3, h4, h5, h6⟩ hg' hk
    have hq : k = none ∨ ∃ q, k = some q ∧ w5.heap.size ≤ q := by rcases hk with h | ⟨q, h, h', _⟩; exact .inl h; exact .inr ⟨q, h, h'⟩
    have hkn : ∀ j, j < w5.heap.size → k ≠ some j := fun j hj e => by rcases hq with h | ⟨q, h, h'⟩ <;> rw [h] at e <;> cases e; omega
    have hbA : b < A.heap.size := Nat.lt_of_lt_of_le hb5 h6
    have hbk := hg'.block b hbA (fun e => hkn b hb5 e.symm)
    refine ⟨⟨v1.kept hg' (hkn _ hlbl).symm, v2.kept hg' (hkn _ (by omega)).symm, v3.grown hg' (fun j e hf => by have := hFw j hf; have := gw5.size; exact hkn j (by omega) e), fun i u hi hu => by rw [World.cell?_of_block (a := ⟨b, i, none⟩) hbk]; exact v4 i u hi hu⟩, h2.kept hbA hg' (hkn b hb5), h3, h4.kept hg' (hkn _ (by omega)).symm, gnew h5 hg' (fun r e => by rcases hq with h | ⟨q, h, h'⟩ <;> rw [h] at e <;> cases e; left; have := gw5.size; omega), Nat.le_trans h6 hg'.size⟩
  case assign =>
    intro g x W K hK
    unfold pEnc
    gi_wp2_with fail
    exact hK _ _ (World.grownBy.refl W none) rfl
  case body =>
    rintro g pre x a' W hI hPc rfl hsz
    have hne : l ≠ [] := by rintro rfl; have h1 := hPc.2.1; have h2 : x.2 ≤ 0 := hPc.2.2.1; omega
    have hol : (ord cf (l.take (endOf pre))).length = endOf pre := by have := hPc.1.le; have := hPc.1.endOf; rw [ord_length, List.length_take]; omega
    have hseg : ((l.drop x.1).take (x.2 - x.1)).length = x.2 - x.1 := by have := hPc.2.2.1; rw [List.length_take, List.length_drop]; omega
    have hRs : RAt W b x.1 ((l.drop x.1).take (x.2 - x.1)) := fun i u hu => by
      have hi : i < x.2 - x.1 := by have := (List.getElem?_eq_some_iff.1 hu).1; omega
      rw [List.getElem?_take_of_lt hi] at hu
      have he := hPc.1.endOf
      have := hI.2.1 (x.1 + i) u (by rw [List.getElem?_append_right (by omega), hol, he, show x.1 + i - x.1 = i by omega]; exact hu)
      rwa [Nat.zero_add] at this
    have hS := sortBy_any (.pointer pq) cf df F b x.1 (n - x.1) _ W hI.1.2.2.1 hRs (Nat.lt_of_lt_of_le hb5 hsz) (by have := hPc.2.2.1; omega)
    rw [hseg] at hS
    have hbx := hI.2.2.2.1.cell
    have HI := Lib.hid hI
    have HPc := Lib.hid hPc
    clear hI hPc hRs hol hseg h0 hT
    gi_wp2_with (refine ⟨trivial, ?_⟩; gi_at_call 75; refine (callsIn_wide.2 hS).mono ?_; rintro e w7 ⟨rfl, seg', s1, s2, s3, s4, s5⟩)
    exact ⟨KeepsFrom.of_grownBy s3 (fun j e => by cases e; omega), HI.out.next HPc.out hpos (fun hf => by have := hFw b hf; omega) (by omega) (by omega) (hbn0 hne) hbw s1 s2 s3 s4 s5⟩
  case stop =>
    rintro D c pre Wd W15 hD _ h _ _
    exact h.elim
  case done =>
    rintro D xs Wd W15 hD hS ⟨⟨v1, v2, v3, v4⟩, h2, h3, h4, h5, h6⟩ hg' hM
    have he : endOf xs = l.length := (Cut.endOf hS).trans HNL.out
    rw [he, List.take_length, List.drop_length, List.append_nil] at h2
    have gp := grownBy_putObj' W15 D (.deferred none)
    have hb15 : b < W15.heap.size := Nat.lt_of_lt_of_le hb5 h6
    have hR15 := h2.kept hb15 gp (by simp; omega)
    have hfin : w.grownBy (W15.putObj D (.deferred none)) none := gnew h5 gp (fun r e => by cases e; left; have := gw5.size; omega)
    have han : a = none → n = 0 := fun e => by
      have h1 := HNL.out
      by_cases hl : l = []
      · rw [hl] at h1; exact h1
      · rw [hba hl] at e; cases e
    have hRO : RO w.heap.size (W15.putObj D (.deferred none)) (.slice a n n) (ord cf l) := ⟨a, n, by rw [ord_length, ← HNL.out], by rw [ord_length, ← HNL.out]; exact Nat.le_refl _, by have := HNL.out; unfold maxLen; omega, han, fun hl => ⟨b, hba (by rintro rfl; exact hl rfl), hbw, Nat.lt_of_lt_of_le hb15 gp.size, hR15⟩⟩
    clear v1 v2 v3 v4 h2 h3 h4 h5 gp h0 hT
    gi_wp2_with fail
    refine ⟨by simp, .inl ⟨_, _, rfl, run_takeDeferred hM, ?_⟩⟩
    simp [LeavesInM, LeavesIn, results, Tryz.results39, go_sem]
    exact ⟨hRO, hfin⟩

theorem order_any (p v : Value) (cf : Int → Int) (df : Int → List Int) (F : Nat → Prop) (l : List Int) (w : World) (hN : ND p cf df F w) (hR : RS w v l) (hlen : l.length < 1099511627776) :
    Calls Tryz.prog 39 #[p, v] w fun e w' => ∃ a, e = .returned (.slice a l.length l.length) ∧ RO w.heap.size w' (.slice a l.length l.length) (ord cf l) ∧ w.grownBy w' none := callsIn_wide.1 (order_in p v cf df F l w hN hR hlen)
end Go.Proofs.YtpdacbiiaglodaaGreat

/-
  LAYER 6 (norm): streams: made, pushed to, ended.
-/
namespace Go.Proofs.YtpdacbiiaglodaaGreat
set_option maxRecDepth 100000
open Go.RowKit Go.Lib

/-- Code points in a row of the call's own. -/
def OwnN (w : World) (B : Nat) (v : Value) (l : List Int) : Prop := w.ownsRow B 21 1 v l.length (rCells l)
theorem OwnN.ro {B : Nat} {w : World} {v : Value} {l : List Int} (h : OwnN w B v l) : RO B w v l := ro_of_owns h
theorem rCells_append (l f : List Int) : rCells (l ++ f) = rCells l ++ rCells f := by simp [rCells]
theorem rCells_len (l : List Int) : (rCells l).length = l.length := by simp [rCells]
theorem rCells_one (l : List Int) : ∀ u ∈ rCells l, u.oneCell' = true := by
  intro u hu
  simp only [rCells, List.mem_map] at hu
  obtain ⟨x, _, rfl⟩ := hu
  rfl
theorem OwnN.form {w : World} {B : Nat} {v : Value} {l : List Int} (h : OwnN w B v l) : ∃ a c, v = .slice a l.length c := by
  obtain ⟨a, c, rfl, _⟩ := h.ro
  exact ⟨a, c, rfl⟩
theorem OwnN.none (w : World) (B : Nat) : OwnN w B (.slice none 0 0) [] := ⟨rfl, .inl ⟨rfl, rfl⟩⟩

theorem wpList_append_rs (w : World) {ops : Array Oper} {rest : List Oper} {o : Oper} {a : Act} {Q : Exit → Act → World → Prop} (hgd : o.guard = none) (s x : Operand) (t : TypeId)
    (ho : o.op = .call { callee := .builtin .append, args := #[s, x], argTypes := #[t, t] })
    (base : Nat) (ht : Tryz.prog.underlying t = some (.slice 21))
    (v : Value) (l : List Int) (hs : a.eval s = v) (hown : OwnN w base v l) (xv : Value) (f : List Int) (hx : a.eval x = xv) (hr : RS w xv f)
    (hlim : l.length + f.length ≤ 1099511627776) (hbase : base ≤ w.heap.size)
    (h : ∀ v' w', OwnN w' base v' (l ++ f) → w.grownBy w' v.ownBlock → (v'.ownBlock = v.ownBlock ∨ ∃ k, v'.ownBlock = some k ∧ w.heap.size ≤ k) → wpList Tryz.prog ops Q rest (a.put o.dst v') w') : wpList Tryz.prog ops Q (o :: rest) a w := by
  obtain ⟨i0, hi, hz0, hz1, hz2⟩ := infoRune_parts
  obtain ⟨xa, c, rfl, h1, h2, h3, h4⟩ := hr
  cases xa with
  | none =>
    have hf : f = [] := by
      by_cases hf : f = []
      · exact hf
      · obtain ⟨b, off, e, _⟩ := h4 hf; cases e
    subst hf
    obtain rfl := h3 rfl
    exact wpList_append_own_none hgd s x t ho base 21 i0 1 ht hi v l.length (rCells l) hs hown hx (h v w (by simpa using hown) (World.grownBy.refl _ _) (.inl rfl))
  | some ad =>
    refine wpList_append_own_at w hgd s x t ho base 21 i0 (.int .i32 0) 1 4 ht hi hz0 hz1 hz2 rfl (by decide) v l.length (rCells l) hs hown ad f.length c (rCells f) hx (by rw [rCells_len]; omega) ?_ (rCells_one f) (by unfold maxLen; omega) (by omega) hbase fun v' w' h2 h3 _ h4 => h v' w' ?_ h3 (h4.imp id fun h => ⟨_, h, Nat.le_refl _⟩)
    · intro j u hu
      by_cases hf : f = []
      · subst hf; simp [rCells] at hu
      · obtain ⟨b, off, e, hc⟩ := h4 hf
        cases e
        simp only [rCells, List.getElem?_map, Option.map_eq_some_iff] at hu
        obtain ⟨y, q1, rfl⟩ := hu
        rw [show (⟨b, off, none⟩ : Addr).add j = ⟨b, off + j, none⟩ by unfold Addr.add; split <;> simp_all]
        exact hc j y q1
    · unfold OwnN
      rw [rCells_append, List.length_append]
      exact h2

/-! ### A stream in memory -/
def StmAt (w : World) (s : Nat) (p hv : Value) : Prop := w.heap[s]? = some (.cells #[.bool true, p, hv] 97 (0, 0))
section
variable {w w' : World} {s : Nat} {p hv : Value}
theorem StmAt.made (h : StmAt w s p hv) : w.cell? ⟨s, 0, none⟩ = some (.bool true) := by simp [World.cell?, show _ = _ from h]
theorem StmAt.data (h : StmAt w s p hv) : w.cell? ⟨s, 1, none⟩ = some p := by simp [World.cell?, show _ = _ from h]
theorem StmAt.held (h : StmAt w s p hv) : w.cell? ⟨s, 2, none⟩ = some hv := by simp [World.cell?, show _ = _ from h]
theorem StmAt.free (h : StmAt w s p hv) (o : Nat) : w.frozen? ⟨s, o, none⟩ = false := by simp [World.frozen?, show _ = _ from h]
theorem StmAt.lt (h : StmAt w s p hv) : s < w.heap.size := (Array.getElem?_eq_some_iff.1 h).1
theorem StmAt.kept {q : Option Nat} (h : StmAt w s p hv) (hg : w.grownBy w' q) (hq : q ≠ some s) : StmAt w' s p hv := (hg.block s h.lt (fun e => hq e.symm)).trans h
theorem StmAt.setHeld (h : StmAt w s p hv) (x : Value) : StmAt (w.setCell ⟨s, 2, none⟩ x) s p x := heap_setCell_same w s 2 _ _ _ h
end
/-- A stream that somebody made: its data, what it holds. -/
structure Strm (w : World) (s : Nat) (p : Value) (cf : Int → Int) (df : Int → List Int) (F : Nat → Prop) (hv : Value) (held : List Int) : Prop where
  at_ : StmAt w s p hv
  own : OwnN w (s + 1) hv held
  nd : ND p cf df F w
  notS : ¬ F s
  notB : ∀ k, hv.ownBlock = some k → ¬ F k

theorem sMade (s : Nat) (m : Bool) (w : World) (hc : w.cell? ⟨s, 0, none⟩ = some (.bool m)) : Calls Tryz.prog 67 #[.pointer (some ⟨s, 0, none⟩)] w fun e w' => e = .returned (.bool m) ∧ w = w' := by
  go_enter Tryz.func67, Tryz.ntmps67
  go_wp2
  go_ret
  exact ⟨rfl, rfl⟩
theorem sMade_nil (w : World) : Calls Tryz.prog 67 #[.pointer none] w fun e w' => e = .returned (.bool false) ∧ w = w' := by
  go_enter Tryz.func67, Tryz.ntmps67
  go_wp2
  go_ret
  exact ⟨rfl, rfl⟩
theorem new_any' (q : Option Addr) (w : World) : Calls Tryz.prog 31 #[.pointer q] w fun e w' => e = .returned (.pointer (some ⟨w.heap.size, 0, none⟩)) ∧ StmAt w' w.heap.size (.pointer q) (.slice none 0 0) ∧ w.grownBy w' none := by
  go_enter Tryz.func31, Tryz.ntmps31
  go_wp2
  go_ret
  exact ⟨rfl, World.alloc_heap_new w _, World.grownBy_alloc w _ none⟩
theorem new_strm (p : Value) (cf : Int → Int) (df : Int → List Int) (F : Nat → Prop) (w : World) (h : ND p cf df F w) : Calls Tryz.prog 31 #[p] w fun e w' => e = .returned (.pointer (some ⟨w.heap.size, 0, none⟩)) ∧ Strm w' w.heap.size p cf df F (.slice none 0 0) [] ∧ w.grownBy w' none := by
  have hlt := h.lt
  obtain ⟨q, rfl⟩ := h.form
  refine (new_any' q w).mono ?_
  rintro e w' ⟨rfl, h1, h2⟩
  exact ⟨rfl, ⟨h1, OwnN.none _ _, h.new h2, fun hf => by have := hlt _ hf; omega, fun k e => by cases e⟩, h2⟩

set_option maxHeartbeats 2000000 in
theorem end_any (s : Nat) (p : Value) (cf : Int → Int) (df : Int → List Int) (F : Nat → Prop) (hv : Value) (held : List Int) (w : World) (h : Strm w s p cf df F hv held) (hlen : held.length < 1099511627776) :
    Calls Tryz.prog 36 #[.pointer (some ⟨s, 0, none⟩)] w fun e w' => ∃ a, e = .returned (.slice a held.length held.length) ∧ RO w.heap.size w' (.slice a held.length held.length) (ord cf held) ∧ Strm w' s p cf df F (.slice none 0 0) [] ∧ w.grownBy w' (some s) := by
  have hm := sMade s true w h.at_.made
  have hO := fun W (hg : w.grownBy W none) => order_any p hv cf df F held W (h.nd.new hg) (h.own.ro.reads.new hg) hlen
  have c1 := h.at_.data
  have c2 := h.at_.held
  have f2 := h.at_.free 2
  have hlt := h.at_.lt
  obtain ⟨ha, hc, rfl⟩ := h.own.form
  have H := Lib.hid h
  clear h
  obtain ⟨n, hn⟩ : ∃ n, n = held.length := ⟨_, rfl⟩
  rw [← hn] at hO c2 ⊢
  have HN := Lib.hid hn
  clear hn
  have gd := gdrew (World.grownBy.refl w none)
  go_enter Tryz.func36, Tryz.ntmps36
  go_wp2_with (go_at_call 67; refine hm.mono ?_; rintro e w' ⟨rfl, rfl⟩)
  refine wp_region_held_drew (S := fun W => w.grownBy W none ∧ W.cell? ⟨s, 1, none⟩ = some p ∧ W.cell? ⟨s, 2, none⟩ = some (.slice ha n hc)) (by kernel_rfl) ⟨gd, gd.cell c1 (by simp), gd.cell c2 (by simp)⟩ (fun hS0 => ?_)
  refine wpAnyH_take (i := 0) (oi := ⟨some 7, _, _, _, _, _⟩) (v := ?_) rfl (by kernel_rfl) (by kernel_rfl) (by kernel_rfl) (fun _ _ _ h => h) (Or.inl ⟨by rfl, ?_⟩) (by assumption) ?_
  rotate_left
  · (intro w hSw; (try dsimp only at hSw); go_simp; try with_reducible rfl)
  try simp only [Act.put, List.setIfInBounds_toArray, List.set_cons_zero, List.set_cons_succ]
  refine wpAnyH_take (i := 1) (oi := ⟨some 8, _, _, _, _, _⟩) (v := ?_) rfl (by kernel_rfl) (by kernel_rfl) (by kernel_rfl) (fun _ _ _ h => h) (Or.inl ⟨by rfl, ?_⟩) (by assumption) ?_
  rotate_left
  · (intro w hSw; (try dsimp only at hSw); go_simp; try with_reducible rfl)
  try simp only [Act.put, List.setIfInBounds_toArray, List.set_cons_zero, List.set_cons_succ]
  refine wpAnyH_take (i := 2) (oi := ⟨some 9, _, _, _, _, _⟩) (v := ?_) rfl (by kernel_rfl) (by kernel_rfl) (by kernel_rfl) (fun _ _ _ h => h) (Or.inl ⟨by rfl, ?_⟩) (by assumption) ?_
  rotate_left
  · (intro w hSw; (try dsimp only at hSw); go_simp; try with_reducible rfl)
  try simp only [Act.put, List.setIfInBounds_toArray, List.set_cons_zero, List.set_cons_succ]
  refine wpAnyH_take (i := 3) (oi := ⟨some 10, _, _, _, _, _⟩) (v := ?_) rfl (by kernel_rfl) (by kernel_rfl) (by kernel_rfl) (fun _ _ _ h => h) (Or.inl ⟨by rfl, ?_⟩) (by assumption) ?_
  rotate_left
  · (intro w hSw; (try dsimp only at hSw); go_simp; try with_reducible rfl)
  try simp only [Act.put, List.setIfInBounds_toArray, List.set_cons_zero, List.set_cons_succ]
  refine wpAnyH_take (i := 4) (oi := ⟨some 11, _, _, _, _, _⟩) (v := ?_) rfl (by kernel_rfl) (by kernel_rfl) (by kernel_rfl) (fun _ _ _ h => h) (Or.inl ⟨by rfl, ?_⟩) (by assumption) ?_
  rotate_left
  · (intro w hSw; (try dsimp only at hSw); go_simp; try with_reducible rfl)
  try simp only [Act.put, List.setIfInBounds_toArray, List.set_cons_zero, List.set_cons_succ]
  refine wpAnyH_take (i := 5) (oi := ⟨some 12, _, _, _, _, _⟩) (v := ?_) rfl (by kernel_rfl) (by kernel_rfl) (by kernel_rfl) (fun _ _ _ h => h) (Or.inl ⟨by rfl, ?_⟩) (by assumption) ?_
  rotate_left
  · (intro w hSw; (try dsimp only at hSw); go_simp; try with_reducible rfl)
  try simp only [Act.put, List.setIfInBounds_toArray, List.set_cons_zero, List.set_cons_succ]
  refine wpAnyH_take (i := 6) (oi := ⟨some 13, _, _, _, _, _⟩) (v := ?_) rfl (by kernel_rfl) (by kernel_rfl) (by kernel_rfl) (fun _ _ _ h => h) (Or.inl ⟨by rfl, ?_⟩) (by assumption) ?_
  rotate_left
  · (intro w hSw; (try dsimp only at hSw); go_simp; try with_reducible rfl)
  try simp only [Act.put, List.setIfInBounds_toArray, List.set_cons_zero, List.set_cons_succ]
  refine wpAnyH_take (i := 7) (oi := ⟨some 14, _, _, _, _, _⟩) (v := ?_) rfl (by kernel_rfl) (by kernel_rfl) (by kernel_rfl) (fun _ _ _ h => h) (Or.inl ⟨by rfl, ?_⟩) (by assumption) ?_
  rotate_left
  · (intro w hSw; (try dsimp only at hSw); go_simp; try with_reducible rfl)
  try simp only [Act.put, List.setIfInBounds_toArray, List.set_cons_zero, List.set_cons_succ]
  refine wpAnyH_ready (rs := [8]) (by kernel_rfl) (by simp) ?_
  refine AllReadyH.cons rfl (fun K hK => ?_) AllReadyH.nil
  go_simp
  refine (hO _ gd).mono ?_
  rintro e w2 ⟨a2, rfl, hr2, hg2⟩
  have g2 := gd.trans hg2
  have f2' : w2.frozen? ⟨s, 2, none⟩ = false := by rw [World.frozen?_of_block (a := ⟨s, 2, none⟩) (g2.block s hlt (by simp))]; exact f2
  have hS2 : w2.cell? ⟨s, 2, none⟩ = some (.slice ha n hc) := g2.cell c2 (by simp)
  go_wp2_with fail
  refine hK.out _ _ ⟨g2, g2.cell c1 (by simp), hS2⟩ (fun hS3 => ?_)
  clear hK
  refine wpAnyH_ready (rs := [9]) (by kernel_rfl) (by simp) ?_
  refine AllReadyH.cons rfl (fun K hK => ?_) AllReadyH.nil
  go_simp
  refine hK.out _ _ hS3 (fun hS4 => ?_)
  clear hK
  refine wpAnyH_done (by kernel_rfl) ?_ _
  have hA2 := H.out.at_.kept g2 (by simp)
  have hr2' : RO w.heap.size w2 (.slice a2 n n) (ord cf held) := hr2.low (Nat.le_refl _)
  replace hr2 := Lib.hid hr2'
  clear hr2' hS3 hS4 hS0 c1 c2 f2 hO hm
  go_wp2
  go_ret
  have g3 := gset (gbut g2 (some s)) 2 (.slice none 0 0)
  refine ⟨a2, rfl, hr2.out.kept (gset (World.grownBy.refl w2 _) 2 (.slice none 0 0)) (fun k e => by cases e; exact .inl hlt), ⟨hA2.setHeld _, OwnN.none _ _, H.out.nd.grown g3 (fun k e => by cases e; exact H.out.notS), H.out.notS, fun k e => by cases e⟩, g3⟩

theorem held_any (s : Nat) (p : Value) (cf : Int → Int) (df : Int → List Int) (F : Nat → Prop) (hv : Value) (held : List Int) (w : World) (h : Strm w s p cf df F hv held) :
    Calls Tryz.prog 34 #[.pointer (some ⟨s, 0, none⟩)] w fun e w' => e = .returned (.int .i64 held.length) ∧ w = w' := by
  have hm := sMade s true w h.at_.made
  have c2 := h.at_.held
  obtain ⟨ha, hc, rfl⟩ := h.own.form
  clear h
  generalize held.length = n at c2 ⊢
  go_enter Tryz.func34, Tryz.ntmps34
  go_wp2_with (go_at_call 67; refine hm.mono ?_; rintro e w' ⟨rfl, rfl⟩)
  go_ret
  exact ⟨rfl, rfl⟩
end Go.Proofs.YtpdacbiiaglodaaGreat

/-
  LAYER 6 (norm): the laws' comparison of two lists.
-/
namespace Go.Proofs.YtpdacbiiaglodaaGreat
set_option maxRecDepth 100000
open Go.RowKit Go.Lib

theorem RS.cell {w : World} {a : Option Addr} {n c : Nat} {l : List Int} (h : RS w (.slice a n c) l) {i : Nat} {r : Int} (hr : l[i]? = some r) : ∃ b off, a = some ⟨b, off, none⟩ ∧ w.cell? ⟨b, off + i, none⟩ = some (.int .i32 r) := by
  obtain ⟨a', c', e, _, _, _, h1⟩ := h
  cases e
  obtain ⟨b, off, h2, h3⟩ := h1 (by rintro rfl; simp at hr)
  exact ⟨b, off, h2, h3 i r hr⟩

set_option maxRecDepth 100000 in
set_option maxHeartbeats 2000000 in
theorem runes_same (vx vy : Value) (x : List Int) (w : World) (hx : RS w vx x) (hy : RS w vy x) (hlx : x.length < 1099511627776) :
    Calls Tryz.prog 30 #[vx, vy] w fun e w' => e = .returned (.bool true) ∧ ∃ m, w' = w.drewN m := by
  obtain ⟨ax, cx, rfl, _⟩ := id hx
  obtain ⟨ay, cy, rfl, _⟩ := id hy
  have hget : ∀ i, i < x.length → ∃ a, x[i]? = some a := fun i h => ⟨_, List.getElem?_eq_getElem h⟩
  generalize hn : x.length = n at hx hy hlx hget ⊢
  clear hn
  go_enter Tryz.func30, Tryz.ntmps30
  go_wp2
  go_loopw [13] (fun vi wr => ∃ i p : Nat, vi = .int .i64 (i : Int) ∧ i ≤ n ∧ wr = w.drewN p) (fun vi _ => n - (RowKit.intOf vi).toNat)
  case atStart => exact ⟨0, 0, rfl, Nat.zero_le _, rfl⟩
  case round =>
    obtain ⟨i, p, rfl, hi, rfl⟩ := hrel
    by_cases h1 : i < n
    · obtain ⟨a, ha⟩ := hget i h1
      obtain ⟨bx, ox, rfl, kx⟩ := hx.cell ha
      obtain ⟨by', oy, rfl, ky⟩ := hy.cell ha
      clear ha hx hy hget
      go_wp2
      go_quiet (fail)
      go_wp2
      go_roundw
      case rel => exact ⟨i + 1, _, by go_num, by omega, rfl⟩
      case measure => simp [RowKit.intOf]; omega
    · clear hx hy hget
      go_wp2
      go_ret
      exact ⟨rfl, p, rfl⟩
end Go.Proofs.YtpdacbiiaglodaaGreat

/-
  LAYER 6 (norm): append and slicing of code points, as laws for one operation (in a region whose reads are taken first).
-/
namespace Go.Proofs.YtpdacbiiaglodaaGreat
set_option maxRecDepth 100000
open Go.RowKit Go.Lib

theorem wp_app_rs (w : World) {o : Oper} {a : Act} {K : Act → World → Prop} {Q : Exit → Act → World → Prop} (s x : Operand) (t : TypeId)
    (ho : o.op = .call { callee := .builtin .append, args := #[s, x], argTypes := #[t, t] })
    (base : Nat) (ht : Tryz.prog.underlying t = some (.slice 21))
    (v : Value) (l : List Int) (hs : a.eval s = v) (hown : OwnN w base v l) (xv : Value) (f : List Int) (hx : a.eval x = xv) (hr : RS w xv f)
    (hlim : l.length + f.length ≤ 1099511627776) (hbase : base ≤ w.heap.size)
    (h : ∀ v' w', OwnN w' base v' (l ++ f) → w.grownBy w' v.ownBlock → (v'.ownBlock = v.ownBlock ∨ ∃ k, v'.ownBlock = some k ∧ w.heap.size ≤ k) → K (a.put o.dst v') w') : Oper.wp Tryz.prog o a w K Q := by
  obtain ⟨i0, hi, hz0, hz1, hz2⟩ := infoRune_parts
  obtain ⟨xa, c, rfl, h1, h2, h3, h4⟩ := hr
  cases xa with
  | none =>
    have hf : f = [] := by
      by_cases hf : f = []
      · exact hf
      · obtain ⟨b, off, e, _⟩ := h4 hf; cases e
    subst hf
    obtain rfl := h3 rfl
    have hrun := run_append_owned_none (P := Tryz.prog) (w := w) base t o.type 21 i0 1 ht hi v l.length (rCells l) hown
    unfold Oper.wp
    simp [execOp, ho, resolve, invoke, builtin, hs, hx, hrun, Result.andThen]
    exact h _ _ (by simpa using hown) (World.grownBy.refl _ _) (.inl rfl)
  | some ad =>
    obtain ⟨v', w', hr, g2, g3, _, g5⟩ := run_append_own_at (P := Tryz.prog) w base t o.type 21 i0 (.int .i32 0) 1 4 ht hi hz0 hz1 hz2 rfl (by decide) v l.length (rCells l) hown ad f.length c (rCells f) (by rw [rCells_len]; omega) (by
      intro j u hu
      by_cases hf : f = []
      · subst hf; simp [rCells] at hu
      · obtain ⟨b, off, e, hc⟩ := h4 hf
        cases e
        simp only [rCells, List.getElem?_map, Option.map_eq_some_iff] at hu
        obtain ⟨y, q1, rfl⟩ := hu
        rw [show (⟨b, off, none⟩ : Addr).add j = ⟨b, off + j, none⟩ by unfold Addr.add; split <;> simp_all]
        exact hc j y q1) (rCells_one f) (by unfold maxLen; omega) (by omega) hbase
    unfold Oper.wp execOp
    simp only [ho, resolve, invoke, builtin, Sem.run_bind, Sem.run_pure, Result.andThen_ok, List.map_toArray, List.map_cons, List.map_nil, hs, hx, hr]
    refine h v' w' ?_ g3 (g5.imp id fun h => ⟨_, h, Nat.le_refl _⟩)
    unfold OwnN
    rw [rCells_append, List.length_append]
    exact g2

/-- append(s[:k:k], x...) where x is not empty: a row of its own, new. -/
theorem wp_app_mid (w : World) {o : Oper} {a : Act} {K : Act → World → Prop} {Q : Exit → Act → World → Prop} (s x : Operand) (t : TypeId)
    (ho : o.op = .call { callee := .builtin .append, args := #[s, x], argTypes := #[t, t] })
    (ht : Tryz.prog.underlying t = some (.slice 21))
    (ao : Option Addr) (l : List Int) (k : Nat) (hk : k = l.length) (hs : a.eval s = .slice ao k k) (hR : RS w (.slice ao k k) l) (xv : Value) (f : List Int) (hx : a.eval x = xv) (hr : RS w xv f) (hf : f ≠ [])
    (hlim : l.length + f.length ≤ 1099511627776)
    (h : ∀ v' w', OwnN w' w.heap.size v' (l ++ f) → w.grownBy w' none → K (a.put o.dst v') w') : Oper.wp Tryz.prog o a w K Q := by
  subst hk
  obtain ⟨i0, hi, hz0, hz1, hz2⟩ := infoRune_parts
  obtain ⟨xa, c, rfl, h1, h2, h3, h4⟩ := hr
  obtain ⟨b, off, rfl, hc⟩ := h4 hf
  have hpos := List.length_pos_iff.2 hf
  have hn : ∀ j u, (rCells f)[j]? = some u → w.cell? ((⟨b, off, none⟩ : Addr).add j) = some u := by
    intro j u hu
    simp only [rCells, List.getElem?_map, Option.map_eq_some_iff] at hu
    obtain ⟨y, q1, rfl⟩ := hu
    rw [show (⟨b, off, none⟩ : Addr).add j = ⟨b, off + j, none⟩ by unfold Addr.add; split <;> simp_all]
    exact hc j y q1
  obtain ⟨a', c', e, g1, g2, g3, g4⟩ := hR
  simp only [Value.slice.injEq] at e
  obtain ⟨rfl, _, rfl⟩ := e
  cases ao with
  | some ad =>
    obtain ⟨v', w', hrun, r1, r2⟩ := run_append_arg_grows (P := Tryz.prog) w t o.type 21 i0 (.int .i32 0) 1 4 ht hi hz0 hz1 hz2 rfl (by decide) ad l.length l.length (rCells l) (by rw [rCells_len]; omega) (by
      intro j u hu
      by_cases hl : l = []
      · subst hl; simp [rCells] at hu
      · obtain ⟨b', off', e', hc'⟩ := g4 hl
        cases e'
        simp only [rCells, List.getElem?_map, Option.map_eq_some_iff] at hu
        obtain ⟨y, q1, rfl⟩ := hu
        rw [show (⟨b', off', none⟩ : Addr).add j = ⟨b', off' + j, none⟩ by unfold Addr.add; split <;> simp_all]
        exact hc' j y q1) ⟨b, off, none⟩ f.length c (rCells f) (by rw [rCells_len]; omega) hn (by omega) (by unfold maxLen; omega) (by omega)
    unfold Oper.wp
    simp [execOp, ho, resolve, invoke, builtin, hs, hx, hrun, Result.andThen]
    refine h _ _ ?_ r2
    unfold OwnN
    rw [rCells_append, List.length_append]
    exact r1
  | none =>
    have hl := g3 rfl
    obtain rfl : l = [] := List.length_eq_zero_iff.1 hl
    refine wp_app_rs w s x t ho w.heap.size ht (.slice none 0 0) [] hs (OwnN.none _ _) _ f hx ⟨_, c, rfl, h1, h2, h3, h4⟩ hlim (Nat.le_refl _) fun v' w' q1 q2 _ => h v' w' q1 q2

/-- 's[:k:k]'. -/
theorem run_rs_hm (a : Option Addr) (l c k : Nat) (h : k ≤ c) (w : World) : (Instr.slice 50 (.slice a l c) none (some (.int .i64 (k : Int))) (some (.int .i64 (k : Int)))).run Tryz.prog w = .ok (.slice a k k) w := by
  have he : Tryz.prog.underlying 50 = some (.slice (Tryz.prog.elem 50)) := by simp [go_sem]
  rw [run_slice_hm w 50 a l c he .i64 .i64 (k : Int) (k : Int) (by omega) (by omega) (by omega)]
  have hz : (sizeOf (Tryz.prog.elem 50)).run Tryz.prog w = .ok 1 w := by simp [go_sem]
  rw [hz]
  simp only [Result.andThen_ok, sliced, Int.toNat_natCast, Nat.sub_zero, Nat.zero_mul]
  split
  · rfl
  · cases a <;> simp [Addr.add]
/-- 's[k:]'. -/
theorem run_rs_lo (a : Option Addr) (l c k : Nat) (h : k ≤ l) (w : World) : (Instr.slice 50 (.slice a l c) (some (.int .i64 (k : Int))) none none).run Tryz.prog w = .ok (.slice (if c = k then a else a.map (·.add k)) (l - k) (c - k)) w := by
  have he : Tryz.prog.underlying 50 = some (.slice (Tryz.prog.elem 50)) := by simp [go_sem]
  rw [run_slice_l w 50 a l c he .i64 (k : Int) (by omega) (by omega)]
  have hz : (sizeOf (Tryz.prog.elem 50)).run Tryz.prog w = .ok 1 w := by simp [go_sem]
  rw [hz]
  simp only [Result.andThen_ok, sliced, Int.toNat_natCast, Nat.mul_one]
theorem RS.low {w : World} {a : Option Addr} {n c : Nat} {l : List Int} (h : RS w (.slice a n c) l) {k : Nat} (hk : k ≤ n) : RS w (.slice a k k) (l.take k) := by
  obtain ⟨a', c', e, h1, h2, h3, h4⟩ := h
  simp only [Value.slice.injEq] at e
  obtain ⟨rfl, rfl, rfl⟩ := e
  have hl : (l.take k).length = k := by rw [List.length_take]; omega
  refine ⟨_, k, by rw [hl], by omega, by omega, fun e => by have := h3 e; omega, fun hne => ?_⟩
  obtain ⟨b, off, e, hc⟩ := h4 (by rintro rfl; simp at hne)
  refine ⟨b, off, e, fun i u hu => ?_⟩
  rw [List.getElem?_take] at hu
  split at hu
  · exact hc i u hu
  · cases hu
theorem RS.high {w : World} {a : Option Addr} {n c : Nat} {l : List Int} (h : RS w (.slice a n c) l) {k : Nat} (hk : k ≤ n) : RS w (.slice (if c = k then a else a.map (·.add k)) (n - k) (c - k)) (l.drop k) := by
  obtain ⟨a', c', e, h1, h2, h3, h4⟩ := h
  simp only [Value.slice.injEq] at e
  obtain ⟨rfl, rfl, rfl⟩ := e
  have hl : (l.drop k).length = l.length - k := List.length_drop
  refine ⟨_, c - k, by rw [hl], by omega, by omega, fun e => ?_, fun hne => ?_⟩
  · split at e
    · have := h3 e; omega
    · cases a with
      | none => have := h3 rfl; omega
      | some x => cases e
  · have hlt : k < l.length := by
      have := List.length_pos_iff.2 hne
      omega
    obtain ⟨b, off, rfl, hc⟩ := h4 (by rintro rfl; simp at hlt)
    rw [if_neg (by omega)]
    refine ⟨b, off + k, by simp only [Option.map_some, Option.some.injEq]; unfold Addr.add; split <;> simp_all, fun i u hu => ?_⟩
    rw [List.getElem?_drop] at hu
    rw [Nat.add_assoc]
    exact hc (k + i) u hu
end Go.Proofs.YtpdacbiiaglodaaGreat
