/-
  LAYER 6 (norm): Order: the canonical order, piece by piece.
-/
import Derived.Test.YtpdacbiiaglodaaGreatQG22
import Derived.Test.YtpdacbiiaglodaaGreatQG01
namespace Go.Proofs.YtpdacbiiaglodaaGreat
set_option maxRecDepth 100000
open Go.RowKit Go.Lib
attribute [local go_sem] Oper.semAt_some

theorem Cut.edge {cf : Int → Int} {l : List Int} {pre : List (Nat × Nat)} {e : Nat} (h : Cut cf l pre e) (he : e ≠ 0) : ∀ u, l[e]? = some u → cf u = 0 := by
  cases h with
  | nil => exact absurd rfl he
  | snoc _ _ _ _ h => exact h
/-- A piece, sorted, goes behind what is in order. -/
theorem cut_next {cf : Int → Int} {l : List Int} {pre : List (Nat × Nat)} {e t : Nat} {seg' : List Int} (hpos : ∀ r, 0 ≤ cf r) (h : Piece cf l pre (e, t)) (hs : StM cf ((l.drop e).take (t - e)) seg') : ord cf (l.take t) = ord cf (l.take e) ++ seg' := by
  obtain ⟨h1, h2, h3, h4, h5⟩ := h
  dsimp only at h1 h2 h3 h4 h5
  have hel : e < l.length := by omega
  have e1 : l.take t = l.take e ++ (l.drop e).take (t - e) := by
    rw [← List.take_append_drop e (l.take t), List.take_take, Nat.min_eq_left (by omega), List.drop_take]
  obtain ⟨x0, hx0⟩ : ∃ x, l[e] = x := ⟨_, rfl⟩
  have e2 : (l.drop e).take (t - e) = x0 :: (l.drop (e + 1)).take (t - e - 1) := by
    rw [List.drop_eq_getElem_cons hel, hx0, show t - e = (t - e - 1) + 1 by omega, List.take_succ_cons]
    rfl
  have hm : ∀ m ∈ (l.drop (e + 1)).take (t - e - 1), 0 < cf m := by
    intro m hm
    obtain ⟨k, hk, rfl⟩ := List.mem_take_iff_getElem.1 hm
    rw [List.length_drop] at hk
    rw [List.getElem_drop]
    have := h4 (e + 1 + k) _ (by omega) (by omega) (List.getElem?_eq_getElem (by omega))
    have := hpos l[e + 1 + k]
    omega
  rw [e2] at hs
  have hu := hs.unique (ord_piece cf x0 _ hm)
  rw [e1, e2, hu]
  by_cases he : e = 0
  · subst he
    rw [List.take_zero, ord_nil, List.nil_append, List.nil_append]
  · have h0 := h1.edge he x0 (by rw [List.getElem?_eq_getElem hel, hx0])
    exact ord_split cf _ _ _ (by omega)
theorem clsOf_pos (r : Int) : ∀ {c : List Cls} {least : Int}, clsOk least c = true → 0 ≤ clsOf c r
  | [], _, _ => Int.le_refl _
  | x :: t, least, h => by
    rw [clsOk, Bool.and_eq_true] at h
    rw [clsOf]
    split
    · have := h.1
      simp only [clOk, Bool.and_eq_true, decide_eq_true_eq] at this
      omega
    · exact clsOf_pos r h.2
theorem nd_pos {p : Value} {cf : Int → Int} {df : Int → List Int} {F : Nat → Prop} {w : World} (h : ND p cf df F w) : ∀ r, 0 ≤ cf r := by
  rcases h with ⟨_, rfl, _⟩ | ⟨n, c, d, dn, _, _, hg, rfl, _⟩
  · intro r; exact Int.le_refl _
  · intro r
    obtain ⟨q1, q2, q3, q4⟩ := good_parts hg
    exact clsOf_pos r (by assumption)
theorem ND.form {p : Value} {cf : Int → Int} {df : Int → List Int} {F : Nat → Prop} {w : World} (h : ND p cf df F w) : ∃ q, p = .pointer q := by
  rcases h with ⟨rfl, _⟩ | ⟨n, c, d, dn, rfl, _⟩
  · exact ⟨_, rfl⟩
  · exact ⟨_, rfl⟩

theorem mpieces_any (q : Option Addr) (a : Option Addr) (n c : Nat) (w : World) : Calls Tryz.prog 65 #[.pointer q, .slice a n c] w fun e w' => e = .returned (.func (.func 108) #[] #[.pointer (some ⟨w.heap.size + 1, 0, none⟩), .pointer (some ⟨w.heap.size, 0, none⟩)]) ∧ Boxed w' (w.heap.size + 1) 50 (.slice a n c) ∧ Boxed w' w.heap.size 31 (.pointer q) ∧ w.grownBy w' none := by
  have hmf : ∀ (fn : Fn) (first cap : Array Value) (w : World), (Instr.makeFunc fn first cap).run Tryz.prog w = .ok (.func fn first cap) w := fun _ _ _ _ => rfl
  go_enter Tryz.func65, Tryz.ntmps65
  go_wp2
  go_ret
  have g1 := World.grownBy_alloc w (.cells #[.pointer q] 31) none
  have g2 := World.grownBy_alloc (w.alloc (.cells #[.pointer q] 31)) (.cells #[.slice a n c] 50) none
  have b2 := Boxed.new (w.alloc (.cells #[.pointer q] 31)) 50 (.slice a n c)
  rw [World.size_alloc] at b2
  exact ⟨rfl, b2, (Boxed.new w _ (.pointer q)).kept g2 (by simp), g1.trans g2⟩

/-- What holds between the rounds. -/
def OInv (p : Value) (cf : Int → Int) (df : Int → List Int) (F : Nat → Prop) (bl bn nb b : Nat) (lv : Value) (l : List Int) (w w5 : World) (pre : List (Nat × Nat)) (W : World) : Prop :=
  PView p cf df F bl bn b lv l pre W ∧ RAt W b 0 (ord cf (l.take (endOf pre)) ++ l.drop (endOf pre)) ∧ Cut cf l pre (endOf pre) ∧ Boxed W nb 31 p ∧ w.grownBy W none ∧ w5.heap.size ≤ W.heap.size

theorem OInv.next {p : Value} {cf : Int → Int} {df : Int → List Int} {F : Nat → Prop} {bl bn nb b : Nat} {lv : Value} {l : List Int} {w w5 : World} {pre : List (Nat × Nat)} {W W2 : World} {x : Nat × Nat} {seg' : List Int}
    (hI : OInv p cf df F bl bn nb b lv l w w5 pre W) (hx : Piece cf l pre x) (hpos : ∀ r, 0 ≤ cf r) (hF : ¬ F b) (n1 : b ≠ bl) (n2 : b ≠ bn) (n3 : b ≠ nb) (hbw : w.heap.size ≤ b)
    (hs : StM cf ((l.drop x.1).take (x.2 - x.1)) seg') (hr : RAt W2 b x.1 seg') (hg : W.grownBy W2 (some b)) (hc : ∀ o, o < x.1 ∨ x.1 + (x.2 - x.1) ≤ o → W2.cell? ⟨b, o, none⟩ = W.cell? ⟨b, o, none⟩) (hf : ∀ o, W2.frozen? ⟨b, o, none⟩ = W.frozen? ⟨b, o, none⟩) :
    OInv p cf df F bl bn nb b lv l w w5 (pre ++ [x]) W2 := by
  obtain ⟨⟨v1, v2, v3, v4⟩, h2, h3, h4, h5, h6⟩ := hI
  obtain ⟨e, t⟩ := x
  have he : endOf pre = e := hx.1.endOf
  have ht : endOf (pre ++ [(e, t)]) = t := hx.cut.endOf
  have hlt : e < t := hx.2.1
  have htl : t ≤ l.length := hx.2.2.1
  rw [he] at v4 h2
  dsimp only at hs hr hc
  have hsl : seg'.length = t - e := by rw [hs.2.2, List.length_take, List.length_drop]; omega
  have hol : (ord cf (l.take e)).length = e := by rw [ord_length, List.length_take]; omega
  refine ⟨⟨v1.kept hg (by simpa using n1.symm), v2.kept hg (by simpa using n2.symm), v3.grown hg (fun k e => by cases e; exact hF), fun i u hi hu => ?_⟩, ?_, ?_, h4.kept hg (by simpa using n3.symm), gnew h5 hg (fun r e => by cases e; left; exact hbw), Nat.le_trans h6 hg.size⟩
  · rw [ht] at hi
    rw [hc i (.inr (by omega))]
    exact v4 i u (by omega) hu
  · rw [ht, cut_next hpos hx hs]
    intro i u hu
    rw [Nat.zero_add]
    rcases Nat.lt_or_ge i e with hi | hi
    · rw [List.append_assoc, List.getElem?_append_left (by omega)] at hu
      have := h2 i u (by rw [List.getElem?_append_left (by omega)]; exact hu)
      rw [Nat.zero_add] at this
      rw [hc i (.inl hi), hf]
      exact this
    · rcases Nat.lt_or_ge i t with hj | hj
      · rw [List.append_assoc, List.getElem?_append_right (by omega), List.getElem?_append_left (by omega), hol] at hu
        have := hr (i - e) u hu
        rw [show e + (i - e) = i by omega] at this
        exact this
      · rw [List.getElem?_append_right (by rw [List.length_append]; omega), List.length_append, hol, hsl, List.getElem?_drop, show t + (i - (e + (t - e))) = i by omega] at hu
        have := h2 i u (by rw [List.getElem?_append_right (by omega), hol, List.getElem?_drop, show e + (i - e) = i by omega]; exact hu)
        rw [Nat.zero_add] at this
        rw [hc i (.inr (by omega)), hf]
        exact this
  · rw [ht]
    exact hx.cut

set_option maxHeartbeats 8000000 in
theorem order_in (p v : Value) (cf : Int → Int) (df : Int → List Int) (F : Nat → Prop) (l : List Int) (w : World) (hN : ND p cf df F w) (hR : RS w v l) (hlen : l.length < 1099511627776) :
    CallsIn Fence.wide 10 Tryz.prog 39 #[p, v] w fun e w' => ∃ a, e = .returned (.slice a l.length l.length) ∧ RO w.heap.size w' (.slice a l.length l.length) (ord cf l) ∧ w.grownBy w' none := by
  have hpos := nd_pos hN
  obtain ⟨pq, rfl⟩ := hN.form
  have hmf : ∀ (fn : Fn) (first cap : Array Value) (w : World), (Instr.makeFunc fn first cap).run Tryz.prog w = .ok (.func fn first cap) w := fun _ _ _ _ => rfl
  have g0 := World.grownBy_alloc w (.cells #[.pointer pq] 31) none
  have hC := mcopied_any v l _ (hR.new g0) hlen
  have hP := fun a W => mpieces_any pq a l.length l.length W
  obtain ⟨n, hn⟩ : ∃ n, n = l.length := ⟨_, rfl⟩
  rw [← hn] at hC hP
  have HNL := Lib.hid hn
  obtain ⟨va, vc, rfl, _⟩ := hR
  rw [← hn] at hC ⊢
  clear hn
  refine callsIn_of_wp_marks Tryz.func39 rfl trivial ?_ rfl
  simp only [Tryz.ntmps39, List.size_toArray, List.length_cons, List.length_nil, Nat.reduceAdd, Nat.reduceSub, Array.replicate_succ, Array.replicate_zero, List.push_toArray, List.append_toArray, List.nil_append, List.cons_append]
  have hb0 : (w.alloc (.cells #[.pointer pq] 31)).cell? ⟨w.heap.size, 0, none⟩ = some (.pointer pq) := (Boxed.new w _ (.pointer pq)).cell
  gi_wp2_with (first
    | (refine ⟨trivial, ?_⟩; gi_at_call 66; refine (callsIn_wide.2 hC).mono ?_; rintro e w3 ⟨a, rfl, hO3, hg3⟩; have hb3 := hg3.cell hb0 (by simp))
    | (refine ⟨trivial, ?_⟩; gi_at_call 65; refine (callsIn_wide.2 (hP _ _)).mono ?_; rintro e w5 ⟨rfl, hbl, hbn, hg5⟩))
  obtain ⟨b, hba, hbw, hbn0, hb3', hR3⟩ : ∃ b, (l ≠ [] → a = some ⟨b, 0, none⟩) ∧ w.heap.size ≤ b ∧ (l ≠ [] → b ≠ w.heap.size) ∧ b < w3.heap.size ∧ RAt w3 b 0 l := by
    obtain ⟨a', c', e', _, _, _, hh⟩ := hO3
    cases e'
    rw [World.size_alloc] at hh
    by_cases hl : l = []
    · subst hl
      have := hg3.size
      rw [World.size_alloc] at this
      exact ⟨w.heap.size, fun h => absurd rfl h, Nat.le_refl _, fun h => absurd rfl h, by omega, fun i u hu => by simp at hu⟩
    · obtain ⟨b, q1, q2, q3, q4⟩ := hh hl
      exact ⟨b, fun _ => q1, by omega, fun _ => by omega, q3, q4⟩
  have hFw := hN.lt
  have gw5 : w.grownBy w5 none := (g0.trans hg3).trans hg5
  have hs35 := hg5.size
  have hT := pieces1_tellsV 3 (.pointer pq) cf df F (w3.heap.size + 1) w3.heap.size b n a l hba (by have := HNL.out; omega) hlen
  rw [← HNL.out] at hT
  have h0 : OInv (.pointer pq) cf df F (w3.heap.size + 1) w3.heap.size w.heap.size b (.slice a n n) l w w5 [] w5 := by
    have hR5 : RAt w5 b 0 l := hR3.kept hb3' hg5 (by simp)
    refine ⟨⟨hbl, hbn, hN.new gw5, fun i u _ hu => ?_⟩, ?_, .nil, ((Boxed.new w _ (.pointer pq)).kept hg3 (by simp)).kept hg5 (by simp), gw5, Nat.le_refl _⟩
    · have := (hR5 i u hu).1
      rwa [Nat.zero_add] at this
    · show RAt w5 b 0 (ord cf (l.take 0) ++ l.drop 0)
      rw [List.take_zero, ord_nil, List.drop_zero, List.nil_append]
      exact hR5
  have hb5 : b < w5.heap.size := by omega
  have hlbl := hbl.lt
  clear hN hR3 hO3 hC hP hg3 hb3 hbl hbn hg5 g0 hb0
  refine range_tellsV (a := _) (w := w5) (α := Nat × Nat) rfl (by omega) (gf := 108) (lb := #[.pointer (some ⟨w3.heap.size + 1, 0, none⟩), .pointer (some ⟨w3.heap.size, 0, none⟩)]) rfl trivial (enters_of Tryz.func108 (by kernel_rfl) rfl)
    hT (fun _ => rfl) (fun _ _ _ _ _ _ h _ _ _ => h)
    (OInv (.pointer pq) cf df F (w3.heap.size + 1) w3.heap.size w.heap.size b (.slice a n n) l w w5) (fun _ _ _ => False) (fun _ _ h => h.1) (fun _ _ h => h.2.2.2.2.2) ?hI (fun _ _ _ _ _ h _ _ => h.elim) h0
    (fun x a' _ => a' = { tmps := #[.pointer pq, .slice va n vc, .pointer (some ⟨w.heap.size, 0, none⟩), undef, .slice none 0 0, .slice a n n, .slice (some ⟨b, x.1, none⟩) (x.2 - x.1) (n - x.1), .slice va n vc, .slice a n n, .pointer pq, .slice a n n, .func (.func 108) #[] #[.pointer (some ⟨w3.heap.size + 1, 0, none⟩), .pointer (some ⟨w3.heap.size, 0, none⟩)], .slice (some ⟨b, x.1, none⟩) (x.2 - x.1) (n - x.1), undef, undef, undef, undef, undef], defers := [] })
    (fun _ _ _ _ h _ => h) (fun _ _ _ _ _ _ h _ _ _ => h) ?assign ?body ?done ?stop
  case hI =>
    rintro pre A B k ⟨⟨v1, v2, v3, v4⟩, h2, h3, h4, h5, h6⟩ hg' hk
    have hq : k = none ∨ ∃ q, k = some q ∧ w5.heap.size ≤ q := by rcases hk with h | ⟨q, h, h', _⟩; exact .inl h; exact .inr ⟨q, h, h'⟩
    have hkn : ∀ j, j < w5.heap.size → k ≠ some j := fun j hj e => by rcases hq with h | ⟨q, h, h'⟩ <;> rw [h] at e <;> cases e; omega
    have hbA : b < A.heap.size := Nat.lt_of_lt_of_le hb5 h6
    have hbk := hg'.block b hbA (fun e => hkn b hb5 e.symm)
    refine ⟨⟨v1.kept hg' (hkn _ hlbl).symm, v2.kept hg' (hkn _ (by omega)).symm, v3.grown hg' (fun j e hf => by have := hFw j hf; have := gw5.size; exact hkn j (by omega) e), fun i u hi hu => by rw [World.cell?_of_block (a := ⟨b, i, none⟩) hbk]; exact v4 i u hi hu⟩, h2.kept hbA hg' (hkn b hb5), h3, h4.kept hg' (hkn _ (by omega)).symm, gnew h5 hg' (fun r e => by rcases hq with h | ⟨q, h, h'⟩ <;> rw [h] at e <;> cases e; left; have := gw5.size; omega), Nat.le_trans h6 hg'.size⟩
  case assign =>
    intro g x W K hK
    unfold pEnc
    gi_wp2_with fail
    exact hK _ _ (World.grownBy.refl W none) rfl
  case body =>
    rintro g pre x a' W hI hPc rfl hsz
    have hne : l ≠ [] := by rintro rfl; have h1 := hPc.2.1; have h2 : x.2 ≤ 0 := hPc.2.2.1; omega
    have hol : (ord cf (l.take (endOf pre))).length = endOf pre := by have := hPc.1.le; have := hPc.1.endOf; rw [ord_length, List.length_take]; omega
    have hseg : ((l.drop x.1).take (x.2 - x.1)).length = x.2 - x.1 := by have := hPc.2.2.1; rw [List.length_take, List.length_drop]; omega
    have hRs : RAt W b x.1 ((l.drop x.1).take (x.2 - x.1)) := fun i u hu => by
      have hi : i < x.2 - x.1 := by have := (List.getElem?_eq_some_iff.1 hu).1; omega
      rw [List.getElem?_take_of_lt hi] at hu
      have he := hPc.1.endOf
      have := hI.2.1 (x.1 + i) u (by rw [List.getElem?_append_right (by omega), hol, he, show x.1 + i - x.1 = i by omega]; exact hu)
      rwa [Nat.zero_add] at this
    have hS := sortBy_any (.pointer pq) cf df F b x.1 (n - x.1) _ W hI.1.2.2.1 hRs (Nat.lt_of_lt_of_le hb5 hsz) (by have := hPc.2.2.1; omega)
    rw [hseg] at hS
    have hbx := hI.2.2.2.1.cell
    have HI := Lib.hid hI
    have HPc := Lib.hid hPc
    clear hI hPc hRs hol hseg h0 hT
    gi_wp2_with (refine ⟨trivial, ?_⟩; gi_at_call 75; refine (callsIn_wide.2 hS).mono ?_; rintro e w7 ⟨rfl, seg', s1, s2, s3, s4, s5⟩)
    exact ⟨KeepsFrom.of_grownBy s3 (fun j e => by cases e; omega), HI.out.next HPc.out hpos (fun hf => by have := hFw b hf; omega) (by omega) (by omega) (hbn0 hne) hbw s1 s2 s3 s4 s5⟩
  case stop =>
    rintro D c pre Wd W15 hD _ h _ _
    exact h.elim
  case done =>
    rintro D xs Wd W15 hD hS ⟨⟨v1, v2, v3, v4⟩, h2, h3, h4, h5, h6⟩ hg' hM
    have he : endOf xs = l.length := (Cut.endOf hS).trans HNL.out
    rw [he, List.take_length, List.drop_length, List.append_nil] at h2
    have gp := grownBy_putObj' W15 D (.deferred none)
    have hb15 : b < W15.heap.size := Nat.lt_of_lt_of_le hb5 h6
    have hR15 := h2.kept hb15 gp (by simp; omega)
    have hfin : w.grownBy (W15.putObj D (.deferred none)) none := gnew h5 gp (fun r e => by cases e; left; have := gw5.size; omega)
    have han : a = none → n = 0 := fun e => by
      have h1 := HNL.out
      by_cases hl : l = []
      · rw [hl] at h1; exact h1
      · rw [hba hl] at e; cases e
    have hRO : RO w.heap.size (W15.putObj D (.deferred none)) (.slice a n n) (ord cf l) := ⟨a, n, by rw [ord_length, ← HNL.out], by rw [ord_length, ← HNL.out]; exact Nat.le_refl _, by have := HNL.out; unfold maxLen; omega, han, fun hl => ⟨b, hba (by rintro rfl; exact hl rfl), hbw, Nat.lt_of_lt_of_le hb15 gp.size, hR15⟩⟩
    clear v1 v2 v3 v4 h2 h3 h4 h5 gp h0 hT
    gi_wp2_with fail
    refine ⟨by simp, .inl ⟨_, _, rfl, run_takeDeferred hM, ?_⟩⟩
    simp [LeavesInM, LeavesIn, results, Tryz.results39, go_sem]
    exact ⟨hRO, hfin⟩

theorem order_any (p v : Value) (cf : Int → Int) (df : Int → List Int) (F : Nat → Prop) (l : List Int) (w : World) (hN : ND p cf df F w) (hR : RS w v l) (hlen : l.length < 1099511627776) :
    Calls Tryz.prog 39 #[p, v] w fun e w' => ∃ a, e = .returned (.slice a l.length l.length) ∧ RO w.heap.size w' (.slice a l.length l.length) (ord cf l) ∧ w.grownBy w' none := callsIn_wide.1 (order_in p v cf df F l w hN hR hlen)
end Go.Proofs.YtpdacbiiaglodaaGreat

/-
  LAYER 6 (norm), plain: the pieces of a list, as they are laid one by one.
-/
namespace Go.Proofs.YtpdacbiiaglodaaGreat
set_option maxRecDepth 100000

section
variable (f : Int → Int)
/-- A code point more: it begins a piece, or goes on with the last one. -/
def addP (out : List (List Int)) (u : Int) : List (List Int) := if out = [] ∨ f u = 0 then out ++ [[u]] else out.dropLast ++ [out.getLastD [] ++ [u]]
def pcs (d : List Int) : List (List Int) := d.foldl (addP f) []
theorem pcs_nil : pcs f [] = [] := rfl
theorem pcs_snoc (A : List Int) (u : Int) : pcs f (A ++ [u]) = addP f (pcs f A) u := by simp [pcs, List.foldl_append]
theorem addP_ne (out : List (List Int)) (u : Int) : addP f out u ≠ [] := by unfold addP; split <;> simp
theorem addP_app (out cur : List (List Int)) (u : Int) (h : cur ≠ []) : addP f (out ++ cur) u = out ++ addP f cur u := by
  unfold addP
  by_cases hu : f u = 0
  · rw [if_pos (.inr hu), if_pos (.inr hu), List.append_assoc]
  · rw [if_neg (by simp [h, hu]), if_neg (by simp [h, hu]), List.dropLast_append_of_ne_nil h, List.append_assoc]
    congr 2
    obtain ⟨A, b, rfl⟩ : ∃ A b, cur = A ++ [b] := ⟨cur.dropLast, cur.getLast h, (List.dropLast_concat_getLast h).symm⟩
    rw [← List.append_assoc]
    simp
theorem foldl_addP : ∀ (B : List Int) (out cur : List (List Int)), cur ≠ [] → B.foldl (addP f) (out ++ cur) = out ++ B.foldl (addP f) cur
  | [], _, _, _ => rfl
  | u :: t, out, cur, h => by rw [List.foldl_cons, List.foldl_cons, addP_app f out cur u h, foldl_addP t out _ (addP_ne f cur u)]
/-- A starter parts the pieces. -/
theorem pcs_split (A B : List Int) (h : ∀ u, B.head? = some u → f u = 0) : pcs f (A ++ B) = pcs f A ++ pcs f B := by
  cases B with
  | nil => simp [pcs]
  | cons u t =>
    have hu := h u rfl
    unfold pcs
    rw [List.foldl_append, List.foldl_cons, List.foldl_cons]
    have e1 : ∀ out, addP f out u = out ++ [[u]] := fun out => by unfold addP; rw [if_pos (.inr hu)]
    rw [e1, e1, foldl_addP f t _ [[u]] (by simp)]
    rfl
theorem foldl_one : ∀ (ms c : List Int), (∀ m ∈ ms, f m ≠ 0) → ms.foldl (addP f) [c] = [c ++ ms]
  | [], c, _ => by simp
  | m :: t, c, h => by
    have : addP f [c] m = [c ++ [m]] := by
      unfold addP
      rw [if_neg (by simp [h m (by simp)])]
      rfl
    rw [List.foldl_cons, this, foldl_one t _ (fun x hx => h x (by simp [hx]))]
    simp
theorem pcs_one (x : Int) (ms : List Int) (h : ∀ m ∈ ms, f m ≠ 0) : pcs f (x :: ms) = [x :: ms] := by
  unfold pcs
  rw [List.foldl_cons]
  have : addP f [] x = [[x]] := by unfold addP; rw [if_pos (.inl rfl)]; rfl
  rw [this, foldl_one f ms [x] h]
  rfl
end

/-- The code points of a piece. -/
def seg (d : List Int) (x : Nat × Nat) : List Int := (d.drop x.1).take (x.2 - x.1)
theorem piece_seg {cf : Int → Int} {d : List Int} {e t : Nat} (h1 : e < t) (h2 : t ≤ d.length) (h3 : ∀ i u, e < i → i < t → d[i]? = some u → cf u ≠ 0) :
    d.take t = d.take e ++ seg d (e, t) ∧ ∃ x ms, seg d (e, t) = x :: ms ∧ d[e]? = some x ∧ ∀ m ∈ ms, cf m ≠ 0 := by
  have hel : e < d.length := by omega
  have e1 : d.take t = d.take e ++ (d.drop e).take (t - e) := by
    rw [← List.take_append_drop e (d.take t), List.take_take, Nat.min_eq_left (by omega), List.drop_take]
  refine ⟨e1, d[e], (d.drop (e + 1)).take (t - e - 1), ?_, List.getElem?_eq_getElem hel, fun m hm => ?_⟩
  · show (d.drop e).take (t - e) = _
    rw [List.drop_eq_getElem_cons hel, show t - e = (t - e - 1) + 1 by omega, List.take_succ_cons]
    rfl
  · obtain ⟨k, hk, rfl⟩ := List.mem_take_iff_getElem.1 hm
    rw [List.length_drop] at hk
    rw [List.getElem_drop]
    exact h3 (e + 1 + k) _ (by omega) (by omega) (List.getElem?_eq_getElem (by omega))
theorem cut_pcs {cf : Int → Int} {d : List Int} {pre : List (Nat × Nat)} {e : Nat} (h : Cut cf d pre e) : pcs cf (d.take e) = pre.map (seg d) := by
  induction h with
  | nil => rw [List.take_zero]; rfl
  | snoc h1 h2 h3 h4 h5 ih =>
    rename_i pre e t
    obtain ⟨e1, x, ms, e2, hx, hm⟩ := piece_seg h2 h3 h4
    rw [e1, List.map_append, ← ih]
    have e3 : pcs cf (seg d (e, t)) = [seg d (e, t)] := by rw [e2]; exact pcs_one cf x ms hm
    by_cases he : e = 0
    · subst he
      rw [List.take_zero, List.nil_append, e3]
      rfl
    · rw [pcs_split, e3]
      · rfl
      · intro u hu
        rw [e2] at hu
        simp only [List.head?_cons, Option.some.injEq] at hu
        subst hu
        exact h1.edge he x hx
/-- What is told next is the next piece. -/
theorem piece_next {cf : Int → Int} {d : List Int} {pre : List (Nat × Nat)} {x : Nat × Nat} (h : Piece cf d pre x) : (pcs cf d)[pre.length]? = some (seg d x) := by
  have h1 := cut_pcs h.cut
  have h2 : pcs cf d = pcs cf (d.take x.2) ++ pcs cf (d.drop x.2) := by
    conv => lhs; rw [← List.take_append_drop x.2 d]
    refine pcs_split cf _ _ fun u hu => h.2.2.2.2 u ?_
    rw [List.head?_drop] at hu
    exact hu
  rw [h2, h1]
  simp
theorem cut_all {cf : Int → Int} {d : List Int} {xs : List (Nat × Nat)} (h : Cut cf d xs d.length) : (pcs cf d).length = xs.length := by
  have := cut_pcs h
  rw [List.take_length] at this
  rw [this, List.length_map]
end Go.Proofs.YtpdacbiiaglodaaGreat

/-
  LAYER 6 (norm): the laws' comparison of two lists.
-/
namespace Go.Proofs.YtpdacbiiaglodaaGreat
set_option maxRecDepth 100000
open Go.RowKit Go.Lib

theorem RS.cell {w : World} {a : Option Addr} {n c : Nat} {l : List Int} (h : RS w (.slice a n c) l) {i : Nat} {r : Int} (hr : l[i]? = some r) : ∃ b off, a = some ⟨b, off, none⟩ ∧ w.cell? ⟨b, off + i, none⟩ = some (.int .i32 r) := by
  obtain ⟨a', c', e, _, _, _, h1⟩ := h
  cases e
  obtain ⟨b, off, h2, h3⟩ := h1 (by rintro rfl; simp at hr)
  exact ⟨b, off, h2, h3 i r hr⟩

set_option maxRecDepth 100000 in
set_option maxHeartbeats 2000000 in
theorem runes_same (vx vy : Value) (x : List Int) (w : World) (hx : RS w vx x) (hy : RS w vy x) (hlx : x.length < 1099511627776) :
    Calls Tryz.prog 30 #[vx, vy] w fun e w' => e = .returned (.bool true) ∧ ∃ m, w' = w.drewN m := by
  obtain ⟨ax, cx, rfl, _⟩ := id hx
  obtain ⟨ay, cy, rfl, _⟩ := id hy
  have hget : ∀ i, i < x.length → ∃ a, x[i]? = some a := fun i h => ⟨_, List.getElem?_eq_getElem h⟩
  generalize hn : x.length = n at hx hy hlx hget ⊢
  clear hn
  go_enter Tryz.func30, Tryz.ntmps30
  go_wp2
  go_loopw [13] (fun vi wr => ∃ i p : Nat, vi = .int .i64 (i : Int) ∧ i ≤ n ∧ wr = w.drewN p) (fun vi _ => n - (RowKit.intOf vi).toNat)
  case atStart => exact ⟨0, 0, rfl, Nat.zero_le _, rfl⟩
  case round =>
    obtain ⟨i, p, rfl, hi, rfl⟩ := hrel
    by_cases h1 : i < n
    · obtain ⟨a, ha⟩ := hget i h1
      obtain ⟨bx, ox, rfl, kx⟩ := hx.cell ha
      obtain ⟨by', oy, rfl, ky⟩ := hy.cell ha
      clear ha hx hy hget
      go_wp2
      go_quiet (fail)
      go_wp2
      go_roundw
      case rel => exact ⟨i + 1, _, by go_num, by omega, rfl⟩
      case measure => simp [RowKit.intOf]; omega
    · clear hx hy hget
      go_wp2
      go_ret
      exact ⟨rfl, p, rfl⟩
end Go.Proofs.YtpdacbiiaglodaaGreat

/-
  LAYER 6 (norm): the iterator of Parts: it ranges over pieces itself.
-/
namespace Go.Proofs.YtpdacbiiaglodaaGreat
set_option maxRecDepth 100000
open Go.RowKit Go.Lib
attribute [local go_sem] Oper.semAt_some

theorem roundIn_wide {n m l l' : Nat} {P : Program} {f : FuncId} {tmps : Array Value} {assign body : Code} {w : World} {R : Ending → World → Prop} (h : RoundIn Fence.wide n P l f tmps assign body w R) : RoundIn (Fence.wide.inRound l') m P l f tmps assign body w R :=
  ⟨h.1, fun c cs _ => h.2 c cs (room_wide _)⟩
/-- What is told: a piece's code points, in memory of their own. -/
def sEnc (x : List Int × Option Addr) : Array Value := #[.slice x.2 x.1.length x.1.length]
def POk (cf : Int → Int) (d : List Int) (pre : List (List Int × Option Addr)) (x : List Int × Option Addr) (W : World) : Prop := RS W (.slice x.2 x.1.length x.1.length) x.1 ∧ (pcs cf d)[pre.length]? = some x.1
/-- What the iterator finds behind each round. -/
def PW (p : Value) (cf : Int → Int) (df : Int → List Int) (F : Nat → Prop) (bl bn b : Nat) (lv : Value) (d : List Int) (_ : List (List Int × Option Addr)) (W : World) : Prop :=
  Boxed W bl 50 lv ∧ Boxed W bn 31 p ∧ ND p cf df F W ∧ ∀ i u, d[i]? = some u → W.cell? ⟨b, i, none⟩ = some (.int .i32 u)

set_option maxHeartbeats 8000000 in
theorem parts1_tellsW (p : Value) (cf : Int → Int) (df : Int → List Int) (F : Nat → Prop) (bl bn b cap : Nat) (a : Option Addr) (d : List Int) (ha : d ≠ [] → a = some ⟨b, 0, none⟩) (hcap : d.length ≤ cap) (hcm : cap ≤ maxLen) (hlen : d.length < 1099511627776) :
    TellsW Fence.wide 20 Tryz.prog 64 #[.pointer (some ⟨bn, 0, none⟩), .pointer (some ⟨bl, 0, none⟩)] sEnc (POk cf d) (PW p cf df F bl bn b (.slice a d.length cap) d) (fun xs _ => xs.length = (pcs cf d).length) (fun _ _ => True) := by
  intro g J Jx W hJV hJ hJx hY h0
  have HJV := Lib.hid hJV
  have HJ := Lib.hid hJ
  have HJx := Lib.hid hJx
  have HY := Lib.hid hY
  obtain ⟨v1, v2, v3, v4⟩ := hJV _ _ h0
  obtain ⟨pq, rfl⟩ := v3.form
  have hT := fun bl' bn' => pieces1_tellsV 13 (.pointer pq) cf df F bl' bn' b cap a d ha hcap hlen
  clear hJV hJ hJx hY v3 v4
  refine callsIn_of_wp_marks Tryz.func64 rfl trivial ?_ rfl
  simp only [Tryz.ntmps64, List.size_toArray, List.length_cons, List.length_nil, Nat.reduceAdd, Nat.reduceSub, Array.replicate_succ, Array.replicate_zero, List.push_toArray, List.append_toArray, List.nil_append, List.cons_append]
  have hg1 : W.grownBy (W.alloc (.cells #[.func (.yield g) #[] #[]] 131)) none := World.grownBy_alloc _ _ none
  have hyb : Boxed (W.alloc (.cells #[.func (.yield g) #[] #[]] 131)) W.heap.size 131 (.func (.yield g) #[] #[]) := Boxed.new _ _ _
  have c1 := (v1.kept hg1 (by simp)).cell
  have c2 := (v2.kept hg1 (by simp)).cell
  obtain ⟨n, hn⟩ : ∃ n, n = d.length := ⟨_, rfl⟩
  rw [← hn] at hT hcap hlen c1
  have HN := Lib.hid hn
  have hP := mpieces_any pq a n cap (W.alloc (.cells #[.func (.yield g) #[] #[]] 131))
  rw [World.size_alloc] at hP
  clear v1 v2 hn
  gi_wp2_with (refine ⟨trivial, ?_⟩; gi_at_call 65; refine (callsIn_wide.2 hP).mono ?_; rintro e w5 ⟨rfl, hbl, hbn, hg5⟩)
  have gW5 := hg1.trans hg5
  have hs5 := hg5.size
  rw [World.size_alloc] at hs5
  have hlbl := hbl.lt
  have hyb5 := hyb.kept hg5 (by simp)
  have hj5 := HJ.out _ _ _ _ h0 gW5 (.inl rfl)
  have hTT := hT ((W.heap.size + 1) + 1) (W.heap.size + 1)
  rw [HN.out] at hTT
  clear h0 hT hP c1 c2 hyb hg1 hg5
  refine range_tellsV (a := _) (w := w5) (α := Nat × Nat) rfl (by omega) (gf := 108) (lb := #[.pointer (some ⟨(W.heap.size + 1) + 1, 0, none⟩), .pointer (some ⟨(W.heap.size + 1), 0, none⟩)]) rfl trivial (enters_of Tryz.func108 (by kernel_rfl) rfl)
    hTT (fun _ => rfl) (fun _ _ _ _ _ _ h _ _ _ => h)
    (fun pre V => ∃ xs : List (List Int × Option Addr), xs.length = pre.length ∧ J xs V ∧ Boxed V ((W.heap.size + 1) + 1) 50 (.slice a d.length cap) ∧ Boxed V (W.heap.size + 1) 31 (.pointer pq) ∧ Boxed V W.heap.size 131 (.func (.yield g) #[] #[]) ∧ w5.heap.size ≤ V.heap.size)
    (fun c _ V => c = .ret ∧ ∃ xs : List (List Int × Option Addr), Jx xs V) ?hV (fun _ _ h => by obtain ⟨_, _, _, _, _, _, h⟩ := h; exact h) ?hI ?hIx ⟨[], rfl, hj5, by rw [← HN.out]; exact hbl, hbn, hyb5, Nat.le_refl _⟩
    (fun x a' _ => a' = { tmps := #[.func (.yield g) #[] #[], .pointer (some ⟨bn, 0, none⟩), .pointer (some ⟨bl, 0, none⟩), .pointer (some ⟨W.heap.size, 0, none⟩), .slice (some ⟨b, x.1, none⟩) (x.2 - x.1) (cap - x.1), .pointer pq, .slice a n cap, .func (.func 108) #[] #[.pointer (some ⟨(W.heap.size + 1) + 1, 0, none⟩), .pointer (some ⟨(W.heap.size + 1), 0, none⟩)], .slice (some ⟨b, x.1, none⟩) (x.2 - x.1) (cap - x.1), undef, undef, undef, undef, undef], defers := [] })
    (fun _ _ _ _ h _ => h) (fun _ _ _ _ _ _ h _ _ _ => h) ?assign ?body ?done ?stop
  case hV =>
    rintro pre V ⟨xs, hx, hj, h1, h2, h3, h4⟩
    obtain ⟨v1, v2, v3, v4⟩ := HJV.out _ _ hj
    exact ⟨h1, h2, v3, fun i u _ hu => v4 i u hu⟩
  case hI =>
    rintro pre A B k ⟨xs, hx, hj, h1, h2, h3, h4⟩ hg' hk
    have hkn : ∀ j, j < w5.heap.size → k ≠ some j := fun j hj e => by rcases hk with h | ⟨q, h, h', _⟩ <;> rw [h] at e <;> cases e; omega
    exact ⟨xs, hx, HJ.out _ _ _ _ hj hg' (hk.imp id fun ⟨q, e, h, h'⟩ => ⟨q, e, by omega, h'⟩), h1.kept hg' (hkn _ hlbl).symm, h2.kept hg' (hkn _ (by omega)).symm, h3.kept hg' (hkn _ (by omega)).symm, Nat.le_trans h4 hg'.size⟩
  case hIx =>
    rintro c pre A B k ⟨hc, xs, hj⟩ hg' hk
    exact ⟨hc, xs, HJx.out _ _ _ _ hj hg' (hk.imp id fun ⟨q, e, h, h'⟩ => ⟨q, e, by omega, h'⟩)⟩
  case assign =>
    intro g x W K hK
    unfold pEnc
    gi_wp2_with fail
    exact hK _ _ (World.grownBy.refl W none) rfl
  case stop =>
    rintro D c pre Wd W15 hD _ ⟨rfl, xs, hj⟩ hg' hM
    have gp := grownBy_putObj' W15 D (.deferred none)
    have hj2 := Lib.hid (HJx.out _ _ _ _ hj gp (.inr ⟨D, rfl, by omega, fun o ho => by rw [hM] at ho; cases ho; rfl⟩))
    clear hj gp hTT hj5
    gi_wp2_with fail
    refine ⟨by simp, .inl ⟨_, _, rfl, run_takeDeferred hM, ?_⟩⟩
    simp [LeavesInM, LeavesIn, results, Tryz.results64, go_sem]
    exact .inr ⟨_, hj2.out⟩
  case done =>
    rintro D xs Wd W15 hD hS ⟨ys, hy, hj, h1, h2, h3, h4⟩ hg' hM
    have gp := grownBy_putObj' W15 D (.deferred none)
    have hj2 := Lib.hid (HJ.out _ _ _ _ hj gp (.inr ⟨D, rfl, by omega, fun o ho => by rw [hM] at ho; cases ho; rfl⟩))
    have hl := Lib.hid (hy.trans (cut_all hS).symm)
    clear hj gp hTT hj5 hy h1 h2 h3 hS
    gi_wp2_with fail
    refine ⟨by simp, .inl ⟨_, _, rfl, run_takeDeferred hM, ?_⟩⟩
    simp [LeavesInM, LeavesIn, results, Tryz.results64, go_sem]
    exact .inl ⟨ys, hl.out, hj2.out⟩
  case body =>
    rintro l' pre x a' V ⟨xs, hx, hj, h1, h2, h3, h4⟩ hPc rfl hsz
    have hsl : (seg d x).length = x.2 - x.1 := by have := hPc.2.2.1; unfold seg; rw [List.length_take, List.length_drop]; omega
    obtain ⟨_, _, _, v4⟩ := HJV.out _ _ hj
    have gd := gdrew (World.grownBy.refl V none)
    have hRs : RS V.drew (.slice (some ⟨b, x.1, none⟩) (x.2 - x.1) (cap - x.1)) (seg d x) := by
      have q1 := hPc.2.1
      have q2 := hPc.2.2.1
      have := HN.out
      refine ⟨_, cap - x.1, by rw [hsl], by omega, by omega, (fun e => by cases e), fun _ => ⟨b, x.1, rfl, fun i u hu => ?_⟩⟩
      have hi : i < x.2 - x.1 := by have := (List.getElem?_eq_some_iff.1 hu).1; omega
      unfold seg at hu
      rw [List.getElem?_take_of_lt hi, List.getElem?_drop] at hu
      exact gd.cell (v4 _ u hu) (by simp)
    have hCp := mcopied_any _ _ _ hRs (by rw [hsl]; have := HN.out; have := hPc.2.2.1; omega)
    have hnx := piece_next hPc
    have c3 := gd.cell h3.cell (by simp)
    rw [hsl] at hCp
    have HPc := Lib.hid hPc
    have HB := Lib.hid (And.intro h1 (And.intro h2 (And.intro h3 h4)))
    clear hPc hRs v4 hTT hj5 h1 h2 h3 h4
    gi_wp2_with fail
    apply wpIn_noPanic
    refine wpIn_region_held (S := fun V' => V'.cell? ⟨W.heap.size, 0, none⟩ = some (.func (.yield g) #[] #[])) (by kernel_rfl) c3 (fun hS0 => ?_)
    refine wpAnyHIn_take (i := 0) (oi := ⟨some 9, _, _, _, _, _⟩) (v := ?_) rfl (by kernel_rfl) (by kernel_rfl) (by kernel_rfl) (by kernel_rfl) (fun _ _ _ h => h) (fun _ => rfl) (Or.inl ⟨by rfl, ?_⟩) (by assumption) ?_
    rotate_left
    · (intro w hSw; (try dsimp only at hSw); go_simp; try with_reducible rfl)
    try simp only [Act.put, List.setIfInBounds_toArray, List.set_cons_zero, List.set_cons_succ]
    refine wpAnyHIn_take (i := 1) (oi := ⟨some 10, _, _, _, _, _⟩) (v := ?_) rfl (by kernel_rfl) (by kernel_rfl) (by kernel_rfl) (by kernel_rfl) (fun _ _ _ h => h) (fun _ => rfl) (Or.inl ⟨by rfl, ?_⟩) (by assumption) ?_
    rotate_left
    · (intro w hSw; (try dsimp only at hSw); go_simp; try with_reducible rfl)
    try simp only [Act.put, List.setIfInBounds_toArray, List.set_cons_zero, List.set_cons_succ]
    refine wpAnyHIn_next (i := 2) (by kernel_rfl) rfl (by rfl) (fun K hK => ?_)
    go_simp
    refine ⟨trivial, (callsIn_wide.2 hCp).mono ?_⟩
    rintro e' V2 ⟨a2, rfl, ho2, hg2⟩
    have g2 := gd.trans hg2
    refine hK.out _ _ (hg2.cell c3 (by simp)) (fun hS1 => ?_)
    clear hK
    have hj2 := HJ.out _ _ _ _ hj g2 (.inl rfl)
    obtain ⟨fn, tmps, assign, body, hy, hRd⟩ := HY.out xs (seg d x, a2) V2 hj2 ⟨by show RS V2 (.slice a2 (seg d x).length (seg d x).length) (seg d x); rw [hsl]; exact ho2.reads, by rw [hx]; exact hnx⟩
    unfold sEnc at hy
    dsimp only at hy
    rw [hsl] at hy
    refine wpAnyHIn_next (i := 3) (by kernel_rfl) rfl (by rfl) (fun K hK => ?_)
    go_simp
    refine (roundIn_wide hRd).mono ?_
    rintro e3 V3 (⟨rfl, hj3, hk3⟩ | ⟨rfl, hj3, hk3⟩)
    · have hs3 : V3.cell? ⟨W.heap.size, 0, none⟩ = some (.func (.yield g) #[] #[]) := by
        rw [World.cell?_of_block (a := ⟨W.heap.size, 0, none⟩) (hk3.2 W.heap.size (Nat.le_refl _) (by have := g2.size; have := hg2.size; omega))]
        exact hg2.cell c3 (by simp)
      refine hK.out _ _ hs3 (fun hS2 => ?_)
      clear hK
      refine wpAnyHIn_take (i := 4) (oi := ⟨some 13, _, _, _, _, _⟩) (v := ?_) rfl (by kernel_rfl) (by kernel_rfl) (by kernel_rfl) (by kernel_rfl) (fun _ _ _ h => h) (fun _ => rfl) (Or.inl ⟨by rfl, ?_⟩) (by assumption) ?_
      rotate_left
      · (intro w hSw; (try dsimp only at hSw); go_simp; try with_reducible rfl)
      try simp only [Act.put, List.setIfInBounds_toArray, List.set_cons_zero, List.set_cons_succ]
      refine wpAnyHIn_done (by kernel_rfl) ?_ _
      refine noPanic_normal ?_
      have kf : KF W.heap.size V V3 := (KF.of g2 (by simp)).trans hk3
      have fin : KeepsFrom w5.heap.size V V3 := (kf.up (by omega)).keeps
      have keepB : ∀ {B t v}, W.heap.size ≤ B → Boxed V B t v → Boxed V3 B t v := fun hB hb => (kf.2 _ hB hb.lt).trans hb
      obtain ⟨b1, b2, b3, b4⟩ := HB.out
      have hfin := And.intro fin (show ∃ ys : List (List Int × Option Addr), ys.length = (pre ++ [x]).length ∧ J ys V3 ∧ Boxed V3 (W.heap.size + 1 + 1) 50 (.slice a d.length cap) ∧ Boxed V3 (W.heap.size + 1) 31 (.pointer pq) ∧ Boxed V3 W.heap.size 131 (.func (.yield g) #[] #[]) ∧ w5.heap.size ≤ V3.heap.size from ⟨xs ++ [(seg d x, a2)], by simp [hx], hj3, keepB (by omega) b1, keepB (by omega) b2, keepB (Nat.le_refl _) b3, Nat.le_trans b4 kf.1⟩)
      replace hfin := Lib.hid hfin
      clear hS0 hS1 hS2 hs3 hj3 hk3 kf fin keepB b1 b2 b3 b4 hy hRd hCp c3
      gi_wp2_with fail
      exact hfin.out
    · have hs3 : V3.cell? ⟨W.heap.size, 0, none⟩ = some (.func (.yield g) #[] #[]) := by
        rw [World.cell?_of_block (a := ⟨W.heap.size, 0, none⟩) (hk3.2 W.heap.size (Nat.le_refl _) (by have := g2.size; have := hg2.size; omega))]
        exact hg2.cell c3 (by simp)
      refine hK.out _ _ hs3 (fun hS2 => ?_)
      clear hK
      refine wpAnyHIn_take (i := 4) (oi := ⟨some 13, _, _, _, _, _⟩) (v := ?_) rfl (by kernel_rfl) (by kernel_rfl) (by kernel_rfl) (by kernel_rfl) (fun _ _ _ h => h) (fun _ => rfl) (Or.inl ⟨by rfl, ?_⟩) (by assumption) ?_
      rotate_left
      · (intro w hSw; (try dsimp only at hSw); go_simp; try with_reducible rfl)
      try simp only [Act.put, List.setIfInBounds_toArray, List.set_cons_zero, List.set_cons_succ]
      refine wpAnyHIn_done (by kernel_rfl) ?_ _
      refine noPanic_normal ?_
      have kf : KF W.heap.size V V3 := (KF.of g2 (by simp)).trans hk3
      have fin : KeepsFrom w5.heap.size V V3 := (kf.up (by omega)).keeps
      have hfin := Lib.hid (And.intro fin (show ∃ ys : List (List Int × Option Addr), Jx ys V3 from ⟨_, hj3⟩))
      clear hS0 hS1 hS2 hs3 hj3 hk3 kf fin hy hRd hCp c3
      gi_wp2_with fail
      exact ⟨hfin.out.1, rfl, hfin.out.2⟩
end Go.Proofs.YtpdacbiiaglodaaGreat
