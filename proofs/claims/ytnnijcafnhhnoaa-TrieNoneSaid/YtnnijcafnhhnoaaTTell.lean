/-
  LAYER 9 (trie): an entry's elements; Get; Begins.
-/
import Derived.Test.YtnnijcafnhhnoaaTFind
namespace Go.Proofs.Ytnnijcafnhhnoaa
set_option maxRecDepth 100000
open Go.RowKit Go.Lib
attribute [local go_sem] Oper.semAt_some

def findEnt (L : List Ent) (p : List Int) : Option Ent := L.find? fun x => decide (x.codes = p)
theorem nmL_find (L : List Ent) (p : List Int) : (findEnt L p = none ∧ nmL L p = -1) ∨ ∃ (i : Nat) (x : Ent), findEnt L p = some x ∧ nmL L p = i ∧ L[i]? = some x := by
  unfold findEnt nmL numOf
  rw [List.findIdx?_map]
  cases h : L.findIdx? ((fun q => decide (q = p)) ∘ fun x => x.codes) with
  | none =>
    left
    rw [List.findIdx?_eq_none_iff] at h
    refine ⟨?_, rfl⟩
    rw [List.find?_eq_none]
    intro x hx
    have := h x hx
    simpa using this
  | some i =>
    right
    rw [List.findIdx?_eq_some_iff_getElem] at h
    obtain ⟨hi, h1, h2⟩ := h
    refine ⟨i, L[i], ?_, rfl, List.getElem?_eq_getElem hi⟩
    rw [List.find?_eq_some_iff_getElem]
    refine ⟨by simpa using h1, i, hi, rfl, fun j hj => ?_⟩
    have := h2 j hj
    simpa using this

section
variable {Q : Nat → Prop} {t : Nat} {L : List Ent} {n : Int} {rt : Nat} {ve : Value} {nd mp : List Int → Option Nat}
set_option maxHeartbeats 4000000 in
theorem elements_any (p : List Int) (b i : Nat) (x : Ent) (w : World) (h : TrieAt Q w t L n rt ve nd mp) (hb : nd p = some b) (hi : nmL L p = i) (hx : L[i]? = some x) (hlen : x.els.length < 1099511627776) :
    Calls Try.prog 34 #[.pointer (some ⟨t, 0, none⟩), .pointer (some ⟨b, 0, none⟩)] w fun e w' => ∃ a, e = .returned (.slice a x.els.length x.els.length) ∧ SO (fun k => w.heap.size ≤ k) 66 4 w' (.slice a x.els.length x.els.length) x.els.length (ec x.els) ∧ w.grownBy w' none := by
  have gV : w.grownBy w.drew none := gdrew (World.grownBy.refl w none)
  have hV := h.new gV
  have c1 := hV.tr.c1
  have hN := (hV.tree.node _ _ hb).2
  rw [hi] at hN
  have n0 := hN.c0
  obtain ⟨vs, q1, q2, q3, q4⟩ := hV.ents
  have hil := (List.getElem?_eq_some_iff.1 hx).1
  obtain ⟨pv, hpv⟩ : ∃ pv, vs[i]? = some pv := ⟨_, List.getElem?_eq_getElem (by omega)⟩
  have hso := (q4 i x pv hx hpv).2
  have hrow := q2
  obtain ⟨gr, cap, hve, d1⟩ : ∃ gr cap, ve = .slice (some ⟨gr, 0, none⟩) L.length cap ∧ w.drew.cell? ⟨gr, i * 2 + 1, none⟩ = some pv.2 := by
    obtain ⟨_, ⟨e, hz⟩ | ⟨g9, cap, cur, e, _⟩⟩ := q2
    · omega
    · subst e
      refine ⟨g9, cap, rfl, ?_⟩
      rw [World.ownsRow.cellAt hrow _ (by omega)]
      exact (pc_at vs i pv hpv).2
  subst hve
  have hcp := copy_ec Q pv.2 x.els w.drew hso.reads hlen
  obtain ⟨pa, pc', hpe, _⟩ := hso.reads.form
  rw [hpe] at d1 hcp
  have hi1 : (0 : Int) ≤ (i : Int) := by omega
  have hi2 : (i : Int) < (L.length : Int) := by omega
  have hlt := h.tr.lt
  have hbl := (h.tree.node _ _ hb).2.lt
  have hgl : gr < w.drew.heap.size := World.block_lt_of_cell? _ _ d1
  clear q2 q3 q4 hrow hso hN hV hpv hpe hx hi h hb
  go_enter Try.func34, Try.ntmps34
  go_wp2_with fail
  refine wp_region_held_drew (S := fun w' => w'.cell? ⟨t, 1, none⟩ = some (.slice (some ⟨gr, 0, none⟩) L.length cap) ∧ w'.cell? ⟨b, 0, none⟩ = some (.int .i64 (i : Int)) ∧ w'.cell? ⟨gr, i * 2 + 1, none⟩ = some (.slice pa x.els.length pc')) (by kernel_rfl) ⟨c1, n0, d1⟩ (fun hS0 => ?_)
  generalize w.drew = V at *
  refine wpAnyH_take (i := 0) (oi := ⟨some 5, _, _, _, _, _⟩) (v := ?_) rfl (by kernel_rfl) (by kernel_rfl) (by kernel_rfl) (fun _ _ _ h => h) (Or.inl ⟨by rfl, ?_⟩) (by assumption) ?_
  rotate_left
  · (intro w hSw; (try dsimp only at hSw); go_simp; try with_reducible rfl)
  try simp only [Act.put, List.setIfInBounds_toArray, List.set_cons_zero, List.set_cons_succ]
  refine wpAnyH_take (i := 1) (oi := ⟨some 6, _, _, _, _, _⟩) (v := ?_) rfl (by kernel_rfl) (by kernel_rfl) (by kernel_rfl) (fun _ _ _ h => h) (Or.inl ⟨by rfl, ?_⟩) (by assumption) ?_
  rotate_left
  · (intro w hSw; (try dsimp only at hSw); go_simp; try with_reducible rfl)
  try simp only [Act.put, List.setIfInBounds_toArray, List.set_cons_zero, List.set_cons_succ]
  refine wpAnyH_take (i := 2) (oi := ⟨some 7, _, _, _, _, _⟩) (v := ?_) rfl (by kernel_rfl) (by kernel_rfl) (by kernel_rfl) (fun _ _ _ h => h) (Or.inl ⟨by rfl, ?_⟩) (by assumption) ?_
  rotate_left
  · (intro w hSw; (try dsimp only at hSw); go_simp; try with_reducible rfl)
  try simp only [Act.put, List.setIfInBounds_toArray, List.set_cons_zero, List.set_cons_succ]
  refine wpAnyH_take (i := 3) (oi := ⟨some 8, _, _, _, _, _⟩) (v := ?_) rfl (by kernel_rfl) (by kernel_rfl) (by kernel_rfl) (fun _ _ _ h => h) (Or.inl ⟨by rfl, ?_⟩) (by assumption) ?_
  rotate_left
  · (intro w hSw; (try dsimp only at hSw); go_simp; try with_reducible rfl)
  try simp only [Act.put, List.setIfInBounds_toArray, List.set_cons_zero, List.set_cons_succ]
  refine wpAnyH_take (i := 4) (oi := ⟨some 9, _, _, _, _, _⟩) (v := ?_) rfl (by kernel_rfl) (by kernel_rfl) (by kernel_rfl) (fun _ _ _ h => h) (Or.inl ⟨by rfl, ?_⟩) (by assumption) ?_
  rotate_left
  · (intro w hSw; (try dsimp only at hSw); go_simp; try with_reducible rfl)
  try simp only [Act.put, List.setIfInBounds_toArray, List.set_cons_zero, List.set_cons_succ]
  refine wpAnyH_take (i := 5) (oi := ⟨some 10, _, _, _, _, _⟩) (v := ?_) rfl (by kernel_rfl) (by kernel_rfl) (by kernel_rfl) (fun _ _ _ h => h) (Or.inl ⟨by rfl, ?_⟩) (by assumption) ?_
  rotate_left
  · (intro w hSw; (try dsimp only at hSw); go_simp; try with_reducible rfl)
  try simp only [Act.put, List.setIfInBounds_toArray, List.set_cons_zero, List.set_cons_succ]
  refine wpAnyH_take (i := 6) (oi := ⟨some 11, _, _, _, _, _⟩) (v := ?_) rfl (by kernel_rfl) (by kernel_rfl) (by kernel_rfl) (fun _ _ _ h => h) (Or.inl ⟨by rfl, ?_⟩) (by assumption) ?_
  rotate_left
  · (intro w hSw; (try dsimp only at hSw); go_simp; try with_reducible rfl)
  try simp only [Act.put, List.setIfInBounds_toArray, List.set_cons_zero, List.set_cons_succ]
  refine wpAnyH_take (i := 7) (oi := ⟨some 12, _, _, _, _, _⟩) (v := ?_) rfl (by kernel_rfl) (by kernel_rfl) (by kernel_rfl) (fun _ _ _ h => h) (Or.inl ⟨by rfl, ?_⟩) (by assumption) ?_
  rotate_left
  · (intro w hSw; (try dsimp only at hSw); go_simp; try with_reducible rfl)
  try simp only [Act.put, List.setIfInBounds_toArray, List.set_cons_zero, List.set_cons_succ]
  refine wpAnyH_take (i := 8) (oi := ⟨some 13, _, _, _, _, _⟩) (v := ?_) rfl (by kernel_rfl) (by kernel_rfl) (by kernel_rfl) (fun _ _ _ h => h) (Or.inl ⟨by rfl, ?_⟩) (by assumption) ?_
  rotate_left
  · (intro w hSw; (try dsimp only at hSw); go_simp; try with_reducible rfl)
  try simp only [Act.put, List.setIfInBounds_toArray, List.set_cons_zero, List.set_cons_succ]
  refine wpAnyH_take (i := 9) (oi := ⟨some 14, _, _, _, _, _⟩) (v := ?_) rfl (by kernel_rfl) (by kernel_rfl) (by kernel_rfl) (fun _ _ _ h => h) (Or.inl ⟨by rfl, ?_⟩) (by assumption) ?_
  rotate_left
  · (intro w hSw; (try dsimp only at hSw); go_simp; try with_reducible rfl)
  try simp only [Act.put, List.setIfInBounds_toArray, List.set_cons_zero, List.set_cons_succ]
  refine wpAnyH_take (i := 10) (oi := ⟨some 15, _, _, _, _, _⟩) (v := ?_) rfl (by kernel_rfl) (by kernel_rfl) (by kernel_rfl) (fun _ _ _ h => h) (Or.inl ⟨by rfl, ?_⟩) (by assumption) ?_
  rotate_left
  · (intro w hSw; (try dsimp only at hSw); go_simp; try with_reducible rfl)
  try simp only [Act.put, List.setIfInBounds_toArray, List.set_cons_zero, List.set_cons_succ]
  refine wpAnyH_ready (rs := [11]) (by kernel_rfl) (by simp) ?_
  refine AllReadyH.cons rfl (fun K hK => ?_) AllReadyH.nil
  go_simp
  refine hcp.mono ?_
  rintro e w2 ⟨a, rfl, o, g⟩
  have hS2 : w2.cell? ⟨t, 1, none⟩ = some (.slice (some ⟨gr, 0, none⟩) L.length cap) ∧ w2.cell? ⟨b, 0, none⟩ = some (.int .i64 (i : Int)) ∧ w2.cell? ⟨gr, i * 2 + 1, none⟩ = some (.slice pa x.els.length pc') := ⟨g.cell c1 (by simp), g.cell n0 (by simp), g.cell d1 (by simp)⟩
  refine hK.out _ _ hS2 (fun _ => ?_)
  clear hK
  refine wpAnyH_ready (rs := [12]) (by kernel_rfl) (by simp) ?_
  refine AllReadyH.cons rfl (fun K hK => ?_) AllReadyH.nil
  go_simp
  refine hK.out _ _ hS2 (fun _ => ?_)
  clear hK
  refine wpAnyH_done (by kernel_rfl) ?_ _
  go_wp2
  go_ret
  exact ⟨_, rfl, o.weak (fun k hk => Nat.le_trans gV.size hk), gV.trans g⟩

/-- No entry has just these code points, but a node. -/
theorem not_found {l0 : List Int} (h : findEnt L l0 = none) : nmL L l0 = -1 := by
  rcases nmL_find L l0 with ⟨_, e⟩ | ⟨i, x, e, _⟩
  · exact e
  · rw [h] at e; cases e
theorem found_node {w : World} (h : TrieAt Q w t L n rt ve nd mp) {p : List Int} {x : Ent} (hx : findEnt L p = some x) : ∃ (b i : Nat), nd p = some b ∧ nmL L p = i ∧ L[i]? = some x ∧ x.codes = p := by
  rcases nmL_find L p with ⟨e, _⟩ | ⟨i, y, e, h1, h2⟩
  · rw [hx] at e; cases e
  · rw [hx] at e
    cases e
    have hp : x.codes = p := by
      have := List.find?_some hx
      simpa using this
    have hd := (h.dom p).2 (.inr ⟨x, List.mem_of_getElem? h2, by rw [hp]; exact List.prefix_refl p⟩)
    obtain ⟨b, hb⟩ := Option.ne_none_iff_exists'.1 hd
    exact ⟨b, i, hb, h1, h2, hp⟩

section
variable {P : Nat → Prop}
set_option maxHeartbeats 4000000 in
theorem get_none (v : Value) (l : List Int) (w : World) (h : TrieAt Q w t L n rt ve nd mp) (hv : SR P 1 w v l.length (rc l)) (hP : ∀ k, P k → k ≠ t) (h0 : 0 ≤ n) (h1 : n < 4611686018427387904) (hf : findEnt L l = none) :
    Calls Try.prog 12 #[.pointer (some ⟨t, 0, none⟩), v] w fun e w' => e = .returned (.tuple #[.slice none 0 0, .bool false]) ∧ TrieAt Q w' t L (n + 1) rt ve nd mp ∧ w.grownBy w' (some t) := by
  have hC := count_made t rt ve n w h.tr h0 h1
  have hT1 := h.counted (n + 1)
  have g1 := gset (World.grownBy.refl w (some t)) 2 (.int .i64 (n + 1))
  have hv1 := hv.heap (w' := w.setCell ⟨t, 2, none⟩ (.int .i64 (n + 1))) (fun k hk hl => g1.block k hl (fun e => hP k hk (by cases e; rfl)))
  generalize w.setCell ⟨t, 2, none⟩ (.int .i64 (n + 1)) = W at *
  have hF := find_any Q P t L _ rt ve nd mp v l W hT1 hv1
  have hnm := not_found hf
  obtain ⟨a, c, rfl, _⟩ := hv.form
  cases hnd : nd l with
  | none =>
    rw [hnd] at hF
    unfold ptrV at hF
    replace hT1 := Lib.hid hT1
    clear hv hv1 h hf hnm hnd
    go_enter Try.func12, Try.ntmps12
    go_wp2_with first
      | (go_at_call 31; refine hC.mono ?_; rintro e w2 ⟨rfl, rfl⟩)
      | (go_at_call 32; refine hF.mono ?_; rintro e w3 ⟨rfl, g3⟩)
    go_ret2
    exact ⟨rfl, hT1.out.new g3, g1.trans (gbut' g3)⟩
  | some b =>
    have hE := fun W' (g : W.grownBy W' none) => ends_any b _ _ W' ((hT1.new g).tree.node _ _ hnd).2
    rw [hnm] at hE
    rw [hnd] at hF
    unfold ptrV at hF
    have e1 : ((-1 : Int) != -1) = false := rfl
    rw [e1] at hE
    replace hT1 := Lib.hid hT1
    clear hv hv1 h hf hnm hnd e1
    go_enter Try.func12, Try.ntmps12
    go_wp2_with first
      | (go_at_call 31; refine hC.mono ?_; rintro e w2 ⟨rfl, rfl⟩)
      | (go_at_call 32; refine hF.mono ?_; rintro e w3 ⟨rfl, g3⟩)
      | (go_at_call 33; refine (hE _ g3).mono ?_; rintro e w4 ⟨rfl, rfl⟩)
    go_ret2
    exact ⟨rfl, hT1.out.new g3, g1.trans (gbut' g3)⟩
set_option maxHeartbeats 4000000 in
theorem get_some (v : Value) (l : List Int) (x : Ent) (w : World) (h : TrieAt Q w t L n rt ve nd mp) (hv : SR P 1 w v l.length (rc l)) (hP : ∀ k, P k → k ≠ t) (h0 : 0 ≤ n) (h1 : n < 4611686018427387904) (hf : findEnt L l = some x) (hlen : x.els.length < 1099511627776) :
    Calls Try.prog 12 #[.pointer (some ⟨t, 0, none⟩), v] w fun e w' => ∃ a, e = .returned (.tuple #[.slice a x.els.length x.els.length, .bool true]) ∧ SO (fun k => w.heap.size ≤ k) 66 4 w' (.slice a x.els.length x.els.length) x.els.length (ec x.els) ∧ TrieAt Q w' t L (n + 1) rt ve nd mp ∧ w.grownBy w' (some t) := by
  have hC := count_made t rt ve n w h.tr h0 h1
  have hT1 := h.counted (n + 1)
  have g1 := gset (World.grownBy.refl w (some t)) 2 (.int .i64 (n + 1))
  have hv1 := hv.heap (w' := w.setCell ⟨t, 2, none⟩ (.int .i64 (n + 1))) (fun k hk hl => g1.block k hl (fun e => hP k hk (by cases e; rfl)))
  generalize w.setCell ⟨t, 2, none⟩ (.int .i64 (n + 1)) = W at *
  have hF := find_any Q P t L _ rt ve nd mp v l W hT1 hv1
  obtain ⟨b, i, hnd, hi, hx, _⟩ := found_node h hf
  have hE := fun W' (g : W.grownBy W' none) => ends_any b _ _ W' ((hT1.new g).tree.node _ _ hnd).2
  rw [hi] at hE
  have e1 : ((i : Int) != -1) = true := by simp
  rw [e1] at hE
  have hEl := fun W' (g : W.grownBy W' none) => elements_any l b i x W' (hT1.new g) hnd hi hx hlen
  obtain ⟨a, c, rfl, _⟩ := hv.form
  rw [hnd] at hF
  unfold ptrV at hF
  replace hT1 := Lib.hid hT1
  obtain ⟨m, hm⟩ : ∃ m, m = x.els.length := ⟨_, rfl⟩
  rw [← hm] at hEl ⊢
  clear hv hv1 h hf hi hx hnd e1 hm
  go_enter Try.func12, Try.ntmps12
  go_wp2_with first
    | (go_at_call 31; refine hC.mono ?_; rintro e w2 ⟨rfl, rfl⟩)
    | (go_at_call 32; refine hF.mono ?_; rintro e w3 ⟨rfl, g3⟩)
    | (go_at_call 33; refine (hE _ g3).mono ?_; rintro e w4 ⟨rfl, rfl⟩)
    | (go_at_call 34; refine (hEl _ g3).mono ?_; rintro e w5 ⟨a5, rfl, o5, g5⟩)
  go_ret2
  exact ⟨_, rfl, o5.weak (fun k hk => Nat.le_trans (g1.trans (gbut' g3)).size hk), (hT1.out.new g3).new g5, (g1.trans (gbut' g3)).trans (gbut' g5)⟩
theorem get_nobody (po : Option Addr) (v : Value) (w : World) (h : NonePtr w po) (hv : ∃ a n c, v = .slice a n c) :
    Calls Try.prog 12 #[.pointer po, v] w fun e w' => e = .returned (.tuple #[.slice none 0 0, .bool false]) ∧ w.grownBy w' none := by
  have hC := count_nobody po w h
  have hF := find_nobody po v w h hv
  obtain ⟨a, n, c, rfl⟩ := hv
  clear h
  go_enter Try.func12, Try.ntmps12
  go_wp2_with first
    | (go_at_call 31; refine hC.mono ?_; rintro e w2 ⟨rfl, rfl⟩)
    | (go_at_call 32; refine hF.mono ?_; rintro e w3 ⟨rfl, g3⟩)
  go_ret2
  exact ⟨rfl, g3⟩

/-! ### Begins -/
theorem begins_nobody (po : Option Addr) (v : Value) (w : World) (h : NonePtr w po) (hv : ∃ a n c, v = .slice a n c) :
    Calls Try.prog 18 #[.pointer po, v] w fun e w' => e = .returned (.bool false) ∧ w.grownBy w' none := by
  have hF := find_nobody po v w h hv
  obtain ⟨a, n, c, rfl⟩ := hv
  clear h
  go_enter Try.func18, Try.ntmps18
  go_wp2_with (go_at_call 32; refine hF.mono ?_; rintro e w3 ⟨rfl, g3⟩)
  go_ret
  exact ⟨rfl, g3⟩
/-- Whether some entry's code points begin with l and are more. -/
def moreThan (L : List Ent) (l : List Int) : Bool := L.any fun x => decide (l <+: x.codes ∧ l ≠ x.codes)
theorem more_kid {w : World} (h : TrieAt Q w t L n rt ve nd mp) (l : List Int) : (∃ r, nd (l ++ [r]) ≠ none) ↔ moreThan L l = true := by
  unfold moreThan
  rw [List.any_eq_true]
  constructor
  · rintro ⟨r, hr⟩
    rcases (h.dom _).1 hr with e | ⟨x, hx, hp⟩
    · simp at e
    · refine ⟨x, hx, ?_⟩
      rw [decide_eq_true_eq]
      refine ⟨(List.prefix_append l [r]).trans hp, fun e => ?_⟩
      have := hp.length_le
      rw [← e] at this
      simp at this
      omega
  · rintro ⟨x, hx, hp⟩
    rw [decide_eq_true_eq] at hp
    obtain ⟨⟨s, hs⟩, hne⟩ := hp
    cases s with
    | nil => simp at hs; exact absurd hs hne
    | cons r s =>
      refine ⟨r, (h.dom _).2 (.inr ⟨x, hx, s, ?_⟩)⟩
      rw [← hs]
      simp
set_option maxHeartbeats 4000000 in
theorem begins_any (v : Value) (l : List Int) (w : World) (h : TrieAt Q w t L n rt ve nd mp) (hv : SR P 1 w v l.length (rc l)) :
    Calls Try.prog 18 #[.pointer (some ⟨t, 0, none⟩), v] w fun e w' => e = .returned (.bool (moreThan L l)) ∧ w.grownBy w' none := by
  have hF := find_any Q P t L _ rt ve nd mp v l w h hv
  have hmk := more_kid h l
  obtain ⟨q, hq⟩ : ∃ q, q = moreThan L l := ⟨_, rfl⟩
  rw [← hq] at hmk ⊢
  obtain ⟨a, c, rfl, _⟩ := hv.form
  cases hnd : nd l with
  | none =>
    have hqf : q = false := by
      cases q with
      | false => rfl
      | true =>
        obtain ⟨r, hr⟩ := hmk.2 rfl
        exfalso
        exact hr (h.tree.nokid l (h.tree.up l hnd) r)
    subst hqf
    rw [hnd] at hF
    unfold ptrV at hF
    clear hv h hnd hmk hq
    go_enter Try.func18, Try.ntmps18
    go_wp2_with (go_at_call 32; refine hF.mono ?_; rintro e w3 ⟨rfl, g3⟩)
    go_ret
    exact ⟨rfl, g3⟩
  | some b =>
    rw [hnd] at hF
    unfold ptrV at hF
    have hN := fun W' (g : w.grownBy W' none) => ((h.new g).tree.node _ _ hnd).2.c1
    have hlen : ∃ k : Nat, decide (0 < (k : Int)) = q ∧ ∀ W', w.grownBy W' none → ∀ ty, (Builtin.len_ #[78] ty #[.map (mp l)]).run Try.prog W' = .ok (.int .i64 (k : Int)) W' := by
      cases hm : mp l with
      | none =>
        refine ⟨0, ?_, fun W' g ty => Go.Maps.len_nil Try.underlying78 ty⟩
        cases q with
        | false => rfl
        | true =>
          obtain ⟨r, hr⟩ := hmk.2 rfl
          exfalso
          exact hr (h.tree.nokid l hm r)
      | some m =>
        obtain ⟨_, kl, k1, k2, k3⟩ := h.tree.kids l m hm
        refine ⟨kl.length, ?_, fun W' g ty => ?_⟩
        · cases hkl : kl with
          | nil =>
            cases q with
            | false => rfl
            | true =>
              obtain ⟨r, hr⟩ := hmk.2 rfl
              obtain ⟨c, hc⟩ := Option.ne_none_iff_exists'.1 hr
              have := (k3 r c).2 hc
              rw [hkl] at this
              simp at this
          | cons y ys =>
            have : nd (l ++ [y.1]) ≠ none := by rw [(k3 y.1 y.2).1 (by rw [hkl]; simp)]; simp
            have := hmk.1 ⟨y.1, this⟩
            rw [this]
            simp
        · have := run_len_ents (P := Try.prog) Try.underlying78 (k1.heap (g.block m k1.lt (by simp))) ty
          simpa [klV] using this
    obtain ⟨k, hkq, hrun⟩ := hlen
    generalize mp l = mo at hN hrun
    clear hv h hnd hmk hq
    go_enter Try.func18, Try.ntmps18
    go_wp2_with (go_at_call 32; refine hF.mono ?_; rintro e w3 ⟨rfl, g3⟩; have c1 := hN _ g3; have hr3 := hrun _ g3)
    go_ret
    exact ⟨by rw [← hkq]; simp, g3⟩
end
end
end Go.Proofs.Ytnnijcafnhhnoaa
