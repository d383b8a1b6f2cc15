/-
  LAYER 9 (trie): an entry's elements; Get; Begins.
-/
import Derived.Test.YtlnplompnabmlaaRA09
namespace Go.Proofs.Ytlnplompnabmlaa
set_option maxRecDepth 100000
open Go.RowKit Go.Lib
attribute [local go_sem] Oper.semAt_some

def findEnt (L : List Ent) (p : List Int) : Option Ent := L.find? fun x => decide (x.codes = p)
theorem nmL_find (L : List Ent) (p : List Int) : (findEnt L p = none ∧ nmL L p = -1) ∨ ∃ (i : Nat) (x : Ent), findEnt L p = some x ∧ nmL L p = i ∧ L[i]? = some x := by
  unfold findEnt nmL numOf
  rw [List.findIdx?_map]
  cases h : L.findIdx? ((fun q => decide (q = p)) ∘ fun x => x.codes) with
  | none =>
    left
    rw [List.findIdx?_eq_none_iff] at h
    refine ⟨?_, rfl⟩
    rw [List.find?_eq_none]
    intro x hx
    have := h x hx
    simpa using this
  | some i =>
    right
    rw [List.findIdx?_eq_some_iff_getElem] at h
    obtain ⟨hi, h1, h2⟩ := h
    refine ⟨i, L[i], ?_, rfl, List.getElem?_eq_getElem hi⟩
    rw [List.find?_eq_some_iff_getElem]
    refine ⟨by simpa using h1, i, hi, rfl, fun j hj => ?_⟩
    have := h2 j hj
    simpa using this

section
variable {Q : Nat → Prop} {t : Nat} {L : List Ent} {n : Int} {rt : Nat} {ve : Value} {nd mp : List Int → Option Nat}
set_option maxHeartbeats 4000000 in
theorem elements_any (p : List Int) (b i : Nat) (x : Ent) (w : World) (h : TrieAt Q w t L n rt ve nd mp) (hb : nd p = some b) (hi : nmL L p = i) (hx : L[i]? = some x) (hlen : x.els.length < 1099511627776) :
    Calls Try.prog 34 #[.pointer (some ⟨t, 0, none⟩), .pointer (some ⟨b, 0, none⟩)] w fun e w' => ∃ a, e = .returned (.slice a x.els.length x.els.length) ∧ SO (fun k => w.heap.size ≤ k) 66 4 w' (.slice a x.els.length x.els.length) x.els.length (ec x.els) ∧ w.grownBy w' none := by
  have gV : w.grownBy w.drew none := gdrew (World.grownBy.refl w none)
  have hV := h.new gV
  have c1 := hV.tr.c1
  have hN := (hV.tree.node _ _ hb).2
  rw [hi] at hN
  have n0 := hN.c0
  obtain ⟨vs, q1, q2, q3, q4⟩ := hV.ents
  have hil := (List.getElem?_eq_some_iff.1 hx).1
  obtain ⟨pv, hpv⟩ : ∃ pv, vs[i]? = some pv := ⟨_, List.getElem?_eq_getElem (by omega)⟩
  have hso := (q4 i x pv hx hpv).2
  have hrow := q2
  obtain ⟨gr, cap, hve, d1⟩ : ∃ gr cap, ve = .slice (some ⟨gr, 0, none⟩) L.length cap ∧ w.drew.cell? ⟨gr, i * 2 + 1, none⟩ = some pv.2 := by
    obtain ⟨_, ⟨e, hz⟩ | ⟨g9, cap, cur, e, _⟩⟩ := q2
    · omega
    · subst e
      refine ⟨g9, cap, rfl, ?_⟩
      rw [World.ownsRow.cellAt hrow _ (by omega)]
      exact (pc_at vs i pv hpv).2
  subst hve
  have hcp := copy_ec Q pv.2 x.els w.drew hso.reads hlen
  obtain ⟨pa, pc', hpe, _⟩ := hso.reads.form
  rw [hpe] at d1 hcp
  have hi1 : (0 : Int) ≤ (i : Int) := by omega
  have hi2 : (i : Int) < (L.length : Int) := by omega
  have hlt := h.tr.lt
  have hbl := (h.tree.node _ _ hb).2.lt
  have hgl : gr < w.drew.heap.size := World.block_lt_of_cell? _ _ d1
  clear q2 q3 q4 hrow hso hN hV hpv hpe hx hi h hb
  go_enter Try.func34, Try.ntmps34
  go_wp2_with fail
  refine wp_region_held_drew (S := fun w' => w'.cell? ⟨t, 1, none⟩ = some (.slice (some ⟨gr, 0, none⟩) L.length cap) ∧ w'.cell? ⟨b, 0, none⟩ = some (.int .i64 (i : Int)) ∧ w'.cell? ⟨gr, i * 2 + 1, none⟩ = some (.slice pa x.els.length pc')) (by kernel_rfl) ⟨c1, n0, d1⟩ (fun hS0 => ?_)
  generalize w.drew = V at *
  refine wpAnyH_take (i := 0) (oi := ⟨some 5, _, _, _, _, _⟩) (v := ?_) rfl (by kernel_rfl) (by kernel_rfl) (by kernel_rfl) (fun _ _ _ h => h) (Or.inl ⟨by rfl, ?_⟩) (by assumption) ?_
  rotate_left
  · (intro w hSw; (try dsimp only at hSw); go_simp; try with_reducible rfl)
  try simp only [Act.put, List.setIfInBounds_toArray, List.set_cons_zero, List.set_cons_succ]
  refine wpAnyH_take (i := 1) (oi := ⟨some 6, _, _, _, _, _⟩) (v := ?_) rfl (by kernel_rfl) (by kernel_rfl) (by kernel_rfl) (fun _ _ _ h => h) (Or.inl ⟨by rfl, ?_⟩) (by assumption) ?_
  rotate_left
  · (intro w hSw; (try dsimp only at hSw); go_simp; try with_reducible rfl)
  try simp only [Act.put, List.setIfInBounds_toArray, List.set_cons_zero, List.set_cons_succ]
  refine wpAnyH_take (i := 2) (oi := ⟨some 7, _, _, _, _, _⟩) (v := ?_) rfl (by kernel_rfl) (by kernel_rfl) (by kernel_rfl) (fun _ _ _ h => h) (Or.inl ⟨by rfl, ?_⟩) (by assumption) ?_
  rotate_left
  · (intro w hSw; (try dsimp only at hSw); go_simp; try with_reducible rfl)
  try simp only [Act.put, List.setIfInBounds_toArray, List.set_cons_zero, List.set_cons_succ]
  refine wpAnyH_take (i := 3) (oi := ⟨some 8, _, _, _, _, _⟩) (v := ?_) rfl (by kernel_rfl) (by kernel_rfl) (by kernel_rfl) (fun _ _ _ h => h) (Or.inl ⟨by rfl, ?_⟩) (by assumption) ?_
  rotate_left
  · (intro w hSw; (try dsimp only at hSw); go_simp; try with_reducible rfl)
  try simp only [Act.put, List.setIfInBounds_toArray, List.set_cons_zero, List.set_cons_succ]
  refine wpAnyH_take (i := 4) (oi := ⟨some 9, _, _, _, _, _⟩) (v := ?_) rfl (by kernel_rfl) (by kernel_rfl) (by kernel_rfl) (fun _ _ _ h => h) (Or.inl ⟨by rfl, ?_⟩) (by assumption) ?_
  rotate_left
  · (intro w hSw; (try dsimp only at hSw); go_simp; try with_reducible rfl)
  try simp only [Act.put, List.setIfInBounds_toArray, List.set_cons_zero, List.set_cons_succ]
  refine wpAnyH_take (i := 5) (oi := ⟨some 10, _, _, _, _, _⟩) (v := ?_) rfl (by kernel_rfl) (by kernel_rfl) (by kernel_rfl) (fun _ _ _ h => h) (Or.inl ⟨by rfl, ?_⟩) (by assumption) ?_
  rotate_left
  · (intro w hSw; (try dsimp only at hSw); go_simp; try with_reducible rfl)
  try simp only [Act.put, List.setIfInBounds_toArray, List.set_cons_zero, List.set_cons_succ]
  refine wpAnyH_take (i := 6) (oi := ⟨some 11, _, _, _, _, _⟩) (v := ?_) rfl (by kernel_rfl) (by kernel_rfl) (by kernel_rfl) (fun _ _ _ h => h) (Or.inl ⟨by rfl, ?_⟩) (by assumption) ?_
  rotate_left
  · (intro w hSw; (try dsimp only at hSw); go_simp; try with_reducible rfl)
  try simp only [Act.put, List.setIfInBounds_toArray, List.set_cons_zero, List.set_cons_succ]
  refine wpAnyH_take (i := 7) (oi := ⟨some 12, _, _, _, _, _⟩) (v := ?_) rfl (by kernel_rfl) (by kernel_rfl) (by kernel_rfl) (fun _ _ _ h => h) (Or.inl ⟨by rfl, ?_⟩) (by assumption) ?_
  rotate_left
  · (intro w hSw; (try dsimp only at hSw); go_simp; try with_reducible rfl)
  try simp only [Act.put, List.setIfInBounds_toArray, List.set_cons_zero, List.set_cons_succ]
  refine wpAnyH_take (i := 8) (oi := ⟨some 13, _, _, _, _, _⟩) (v := ?_) rfl (by kernel_rfl) (by kernel_rfl) (by kernel_rfl) (fun _ _ _ h => h) (Or.inl ⟨by rfl, ?_⟩) (by assumption) ?_
  rotate_left
  · (intro w hSw; (try dsimp only at hSw); go_simp; try with_reducible rfl)
  try simp only [Act.put, List.setIfInBounds_toArray, List.set_cons_zero, List.set_cons_succ]
  refine wpAnyH_take (i := 9) (oi := ⟨some 14, _, _, _, _, _⟩) (v := ?_) rfl (by kernel_rfl) (by kernel_rfl) (by kernel_rfl) (fun _ _ _ h => h) (Or.inl ⟨by rfl, ?_⟩) (by assumption) ?_
  rotate_left
  · (intro w hSw; (try dsimp only at hSw); go_simp; try with_reducible rfl)
  try simp only [Act.put, List.setIfInBounds_toArray, List.set_cons_zero, List.set_cons_succ]
  refine wpAnyH_take (i := 10) (oi := ⟨some 15, _, _, _, _, _⟩) (v := ?_) rfl (by kernel_rfl) (by kernel_rfl) (by kernel_rfl) (fun _ _ _ h => h) (Or.inl ⟨by rfl, ?_⟩) (by assumption) ?_
  rotate_left
  · (intro w hSw; (try dsimp only at hSw); go_simp; try with_reducible rfl)
  try simp only [Act.put, List.setIfInBounds_toArray, List.set_cons_zero, List.set_cons_succ]
  refine wpAnyH_ready (rs := [11]) (by kernel_rfl) (by simp) ?_
  refine AllReadyH.cons rfl (fun K hK => ?_) AllReadyH.nil
  go_simp
  refine hcp.mono ?_
  rintro e w2 ⟨a, rfl, o, g⟩
  have hS2 : w2.cell? ⟨t, 1, none⟩ = some (.slice (some ⟨gr, 0, none⟩) L.length cap) ∧ w2.cell? ⟨b, 0, none⟩ = some (.int .i64 (i : Int)) ∧ w2.cell? ⟨gr, i * 2 + 1, none⟩ = some (.slice pa x.els.length pc') := ⟨g.cell c1 (by simp), g.cell n0 (by simp), g.cell d1 (by simp)⟩
  refine hK.out _ _ hS2 (fun _ => ?_)
  clear hK
  refine wpAnyH_ready (rs := [12]) (by kernel_rfl) (by simp) ?_
  refine AllReadyH.cons rfl (fun K hK => ?_) AllReadyH.nil
  go_simp
  refine hK.out _ _ hS2 (fun _ => ?_)
  clear hK
  refine wpAnyH_done (by kernel_rfl) ?_ _
  go_wp2
  go_ret
  exact ⟨_, rfl, o.weak (fun k hk => Nat.le_trans gV.size hk), gV.trans g⟩

/-- No entry has just these code points, but a node. -/
theorem not_found {l0 : List Int} (h : findEnt L l0 = none) : nmL L l0 = -1 := by
  rcases nmL_find L l0 with ⟨_, e⟩ | ⟨i, x, e, _⟩
  · exact e
  · rw [h] at e; cases e
theorem found_node {w : World} (h : TrieAt Q w t L n rt ve nd mp) {p : List Int} {x : Ent} (hx : findEnt L p = some x) : ∃ (b i : Nat), nd p = some b ∧ nmL L p = i ∧ L[i]? = some x ∧ x.codes = p := by
  rcases nmL_find L p with ⟨e, _⟩ | ⟨i, y, e, h1, h2⟩
  · rw [hx] at e; cases e
  · rw [hx] at e
    cases e
    have hp : x.codes = p := by
      have := List.find?_some hx
      simpa using this
    have hd := (h.dom p).2 (.inr ⟨x, List.mem_of_getElem? h2, by rw [hp]; exact List.prefix_refl p⟩)
    obtain ⟨b, hb⟩ := Option.ne_none_iff_exists'.1 hd
    exact ⟨b, i, hb, h1, h2, hp⟩

section
variable {P : Nat → Prop}
set_option maxHeartbeats 4000000 in
theorem get_none (v : Value) (l : List Int) (w : World) (h : TrieAt Q w t L n rt ve nd mp) (hv : SR P 1 w v l.length (rc l)) (hP : ∀ k, P k → k ≠ t) (h0 : 0 ≤ n) (h1 : n < 4611686018427387904) (hf : findEnt L l = none) :
    Calls Try.prog 12 #[.pointer (some ⟨t, 0, none⟩), v] w fun e w' => e = .returned (.tuple #[.slice none 0 0, .bool false]) ∧ TrieAt Q w' t L (n + 1) rt ve nd mp ∧ w.grownBy w' (some t) := by
  have hC := count_made t rt ve n w h.tr h0 h1
  have hT1 := h.counted (n + 1)
  have g1 := gset (World.grownBy.refl w (some t)) 2 (.int .i64 (n + 1))
  have hv1 := hv.heap (w' := w.setCell ⟨t, 2, none⟩ (.int .i64 (n + 1))) (fun k hk hl => g1.block k hl (fun e => hP k hk (by cases e; rfl)))
  generalize w.setCell ⟨t, 2, none⟩ (.int .i64 (n + 1)) = W at *
  have hF := find_any Q P t L _ rt ve nd mp v l W hT1 hv1
  have hnm := not_found hf
  obtain ⟨a, c, rfl, _⟩ := hv.form
  cases hnd : nd l with
  | none =>
    rw [hnd] at hF
    unfold ptrV at hF
    replace hT1 := Lib.hid hT1
    clear hv hv1 h hf hnm hnd
    go_enter Try.func12, Try.ntmps12
    go_wp2_with first
      | (go_at_call 31; refine hC.mono ?_; rintro e w2 ⟨rfl, rfl⟩)
      | (go_at_call 32; refine hF.mono ?_; rintro e w3 ⟨rfl, g3⟩)
    go_ret2
    exact ⟨rfl, hT1.out.new g3, g1.trans (gbut' g3)⟩
  | some b =>
    have hE := fun W' (g : W.grownBy W' none) => ends_any b _ _ W' ((hT1.new g).tree.node _ _ hnd).2
    rw [hnm] at hE
    rw [hnd] at hF
    unfold ptrV at hF
    have e1 : ((-1 : Int) != -1) = false := rfl
    rw [e1] at hE
    replace hT1 := Lib.hid hT1
    clear hv hv1 h hf hnm hnd e1
    go_enter Try.func12, Try.ntmps12
    go_wp2_with first
      | (go_at_call 31; refine hC.mono ?_; rintro e w2 ⟨rfl, rfl⟩)
      | (go_at_call 32; refine hF.mono ?_; rintro e w3 ⟨rfl, g3⟩)
      | (go_at_call 33; refine (hE _ g3).mono ?_; rintro e w4 ⟨rfl, rfl⟩)
    go_ret2
    exact ⟨rfl, hT1.out.new g3, g1.trans (gbut' g3)⟩
set_option maxHeartbeats 4000000 in
theorem get_some (v : Value) (l : List Int) (x : Ent) (w : World) (h : TrieAt Q w t L n rt ve nd mp) (hv : SR P 1 w v l.length (rc l)) (hP : ∀ k, P k → k ≠ t) (h0 : 0 ≤ n) (h1 : n < 4611686018427387904) (hf : findEnt L l = some x) (hlen : x.els.length < 1099511627776) :
    Calls Try.prog 12 #[.pointer (some ⟨t, 0, none⟩), v] w fun e w' => ∃ a, e = .returned (.tuple #[.slice a x.els.length x.els.length, .bool true]) ∧ SO (fun k => w.heap.size ≤ k) 66 4 w' (.slice a x.els.length x.els.length) x.els.length (ec x.els) ∧ TrieAt Q w' t L (n + 1) rt ve nd mp ∧ w.grownBy w' (some t) := by
  have hC := count_made t rt ve n w h.tr h0 h1
  have hT1 := h.counted (n + 1)
  have g1 := gset (World.grownBy.refl w (some t)) 2 (.int .i64 (n + 1))
  have hv1 := hv.heap (w' := w.setCell ⟨t, 2, none⟩ (.int .i64 (n + 1))) (fun k hk hl => g1.block k hl (fun e => hP k hk (by cases e; rfl)))
  generalize w.setCell ⟨t, 2, none⟩ (.int .i64 (n + 1)) = W at *
  have hF := find_any Q P t L _ rt ve nd mp v l W hT1 hv1
  obtain ⟨b, i, hnd, hi, hx, _⟩ := found_node h hf
  have hE := fun W' (g : W.grownBy W' none) => ends_any b _ _ W' ((hT1.new g).tree.node _ _ hnd).2
  rw [hi] at hE
  have e1 : ((i : Int) != -1) = true := by simp
  rw [e1] at hE
  have hEl := fun W' (g : W.grownBy W' none) => elements_any l b i x W' (hT1.new g) hnd hi hx hlen
  obtain ⟨a, c, rfl, _⟩ := hv.form
  rw [hnd] at hF
  unfold ptrV at hF
  replace hT1 := Lib.hid hT1
  obtain ⟨m, hm⟩ : ∃ m, m = x.els.length := ⟨_, rfl⟩
  rw [← hm] at hEl ⊢
  clear hv hv1 h hf hi hx hnd e1 hm
  go_enter Try.func12, Try.ntmps12
  go_wp2_with first
    | (go_at_call 31; refine hC.mono ?_; rintro e w2 ⟨rfl, rfl⟩)
    | (go_at_call 32; refine hF.mono ?_; rintro e w3 ⟨rfl, g3⟩)
    | (go_at_call 33; refine (hE _ g3).mono ?_; rintro e w4 ⟨rfl, rfl⟩)
    | (go_at_call 34; refine (hEl _ g3).mono ?_; rintro e w5 ⟨a5, rfl, o5, g5⟩)
  go_ret2
  exact ⟨_, rfl, o5.weak (fun k hk => Nat.le_trans (g1.trans (gbut' g3)).size hk), (hT1.out.new g3).new g5, (g1.trans (gbut' g3)).trans (gbut' g5)⟩
theorem get_nobody (po : Option Addr) (v : Value) (w : World) (h : NonePtr w po) (hv : ∃ a n c, v = .slice a n c) :
    Calls Try.prog 12 #[.pointer po, v] w fun e w' => e = .returned (.tuple #[.slice none 0 0, .bool false]) ∧ w.grownBy w' none := by
  have hC := count_nobody po w h
  have hF := find_nobody po v w h hv
  obtain ⟨a, n, c, rfl⟩ := hv
  clear h
  go_enter Try.func12, Try.ntmps12
  go_wp2_with first
    | (go_at_call 31; refine hC.mono ?_; rintro e w2 ⟨rfl, rfl⟩)
    | (go_at_call 32; refine hF.mono ?_; rintro e w3 ⟨rfl, g3⟩)
  go_ret2
  exact ⟨rfl, g3⟩

/-! ### Begins -/
theorem begins_nobody (po : Option Addr) (v : Value) (w : World) (h : NonePtr w po) (hv : ∃ a n c, v = .slice a n c) :
    Calls Try.prog 18 #[.pointer po, v] w fun e w' => e = .returned (.bool false) ∧ w.grownBy w' none := by
  have hF := find_nobody po v w h hv
  obtain ⟨a, n, c, rfl⟩ := hv
  clear h
  go_enter Try.func18, Try.ntmps18
  go_wp2_with (go_at_call 32; refine hF.mono ?_; rintro e w3 ⟨rfl, g3⟩)
  go_ret
  exact ⟨rfl, g3⟩
/-- Whether some entry's code points begin with l and are more. -/
def moreThan (L : List Ent) (l : List Int) : Bool := L.any fun x => decide (l <+: x.codes ∧ l ≠ x.codes)
theorem more_kid {w : World} (h : TrieAt Q w t L n rt ve nd mp) (l : List Int) : (∃ r, nd (l ++ [r]) ≠ none) ↔ moreThan L l = true := by
  unfold moreThan
  rw [List.any_eq_true]
  constructor
  · rintro ⟨r, hr⟩
    rcases (h.dom _).1 hr with e | ⟨x, hx, hp⟩
    · simp at e
    · refine ⟨x, hx, ?_⟩
      rw [decide_eq_true_eq]
      refine ⟨(List.prefix_append l [r]).trans hp, fun e => ?_⟩
      have := hp.length_le
      rw [← e] at this
      simp at this
      omega
  · rintro ⟨x, hx, hp⟩
    rw [decide_eq_true_eq] at hp
    obtain ⟨⟨s, hs⟩, hne⟩ := hp
    cases s with
    | nil => simp at hs; exact absurd hs hne
    | cons r s =>
      refine ⟨r, (h.dom _).2 (.inr ⟨x, hx, s, ?_⟩)⟩
      rw [← hs]
      simp
set_option maxHeartbeats 4000000 in
theorem begins_any (v : Value) (l : List Int) (w : World) (h : TrieAt Q w t L n rt ve nd mp) (hv : SR P 1 w v l.length (rc l)) :
    Calls Try.prog 18 #[.pointer (some ⟨t, 0, none⟩), v] w fun e w' => e = .returned (.bool (moreThan L l)) ∧ w.grownBy w' none := by
  have hF := find_any Q P t L _ rt ve nd mp v l w h hv
  have hmk := more_kid h l
  obtain ⟨q, hq⟩ : ∃ q, q = moreThan L l := ⟨_, rfl⟩
  rw [← hq] at hmk ⊢
  obtain ⟨a, c, rfl, _⟩ := hv.form
  cases hnd : nd l with
  | none =>
    have hqf : q = false := by
      cases q with
      | false => rfl
      | true =>
        obtain ⟨r, hr⟩ := hmk.2 rfl
        exfalso
        exact hr (h.tree.nokid l (h.tree.up l hnd) r)
    subst hqf
    rw [hnd] at hF
    unfold ptrV at hF
    clear hv h hnd hmk hq
    go_enter Try.func18, Try.ntmps18
    go_wp2_with (go_at_call 32; refine hF.mono ?_; rintro e w3 ⟨rfl, g3⟩)
    go_ret
    exact ⟨rfl, g3⟩
  | some b =>
    rw [hnd] at hF
    unfold ptrV at hF
    have hN := fun W' (g : w.grownBy W' none) => ((h.new g).tree.node _ _ hnd).2.c1
    have hlen : ∃ k : Nat, decide (0 < (k : Int)) = q ∧ ∀ W', w.grownBy W' none → ∀ ty, (Builtin.len_ #[78] ty #[.map (mp l)]).run Try.prog W' = .ok (.int .i64 (k : Int)) W' := by
      cases hm : mp l with
      | none =>
        refine ⟨0, ?_, fun W' g ty => Go.Maps.len_nil Try.underlying78 ty⟩
        cases q with
        | false => rfl
        | true =>
          obtain ⟨r, hr⟩ := hmk.2 rfl
          exfalso
          exact hr (h.tree.nokid l hm r)
      | some m =>
        obtain ⟨_, kl, k1, k2, k3⟩ := h.tree.kids l m hm
        refine ⟨kl.length, ?_, fun W' g ty => ?_⟩
        · cases hkl : kl with
          | nil =>
            cases q with
            | false => rfl
            | true =>
              obtain ⟨r, hr⟩ := hmk.2 rfl
              obtain ⟨c, hc⟩ := Option.ne_none_iff_exists'.1 hr
              have := (k3 r c).2 hc
              rw [hkl] at this
              simp at this
          | cons y ys =>
            have : nd (l ++ [y.1]) ≠ none := by rw [(k3 y.1 y.2).1 (by rw [hkl]; simp)]; simp
            have := hmk.1 ⟨y.1, this⟩
            rw [this]
            simp
        · have := run_len_ents (P := Try.prog) Try.underlying78 (k1.heap (g.block m k1.lt (by simp))) ty
          simpa [klV] using this
    obtain ⟨k, hkq, hrun⟩ := hlen
    generalize mp l = mo at hN hrun
    clear hv h hnd hmk hq
    go_enter Try.func18, Try.ntmps18
    go_wp2_with (go_at_call 32; refine hF.mono ?_; rintro e w3 ⟨rfl, g3⟩; have c1 := hN _ g3; have hr3 := hrun _ g3)
    go_ret
    exact ⟨by rw [← hkq]; simp, g3⟩
end
end
end Go.Proofs.Ytlnplompnabmlaa

/-
  LAYER 9 (trie): Longest.
-/
namespace Go.Proofs.Ytlnplompnabmlaa
set_option maxRecDepth 100000
open Go.RowKit Go.Lib
attribute [local go_sem] Oper.semAt_some

def best (nd : List Int → Option Nat) (nm : List Int → Int) (l : List Int) : Nat → Nat × Option Nat
  | 0 => (0, none)
  | i + 1 => if nm (l.take i) ≠ -1 then (i, nd (l.take i)) else best nd nm l i
/-- The entry of the longest beginning of l among those of fewer than m code points. -/
def lastEnt (L : List Ent) (l : List Int) : Nat → Option Ent
  | 0 => none
  | i + 1 => (findEnt L (l.take i)).or (lastEnt L l i)

section
variable {Q P : Nat → Prop} {t : Nat} {L : List Ent} {n : Int} {rt : Nat} {ve : Value} {nd mp : List Int → Option Nat}
theorem best_spec {w : World} (h : TrieAt Q w t L n rt ve nd mp) (l : List Int) : ∀ m, m ≤ l.length + 1 → (lastEnt L l m = none ∧ best nd (nmL L) l m = (0, none)) ∨ ∃ (x : Ent) (i b : Nat), lastEnt L l m = some x ∧ best nd (nmL L) l m = (i, some b) ∧ i ≤ l.length ∧ nd (l.take i) = some b ∧ findEnt L (l.take i) = some x
  | 0, _ => .inl ⟨rfl, rfl⟩
  | m + 1, hm => by
    rw [lastEnt, best]
    rcases nmL_find L (l.take m) with ⟨h1, h2⟩ | ⟨i, x, h1, h2, h3⟩
    · rw [h1, h2]
      simpa using best_spec h l m (by omega)
    · obtain ⟨b, j, q1, _⟩ := found_node h h1
      rw [h1, h2, if_pos (by omega)]
      exact .inr ⟨x, m, b, rfl, by rw [q1], by omega, q1, h1⟩
theorem last_far {w : World} (h : TrieAt Q w t L n rt ve nd mp) {l : List Int} {m : Nat} (hf : Far nd l m) : lastEnt L l (l.length + 1) = lastEnt L l m := by
  obtain ⟨h1, h2, h3⟩ := hf
  have key : ∀ d, m + d ≤ l.length + 1 → lastEnt L l (m + d) = lastEnt L l m := by
    intro d
    induction d with
    | zero => intro _; rfl
    | succ d ih =>
      intro hle
      obtain ⟨k, hkd⟩ : ∃ k, k = m + d := ⟨_, rfl⟩
      rw [← Nat.add_assoc] at hle ⊢
      rw [← hkd] at ih hle ⊢
      have hnone : nd (l.take k) = none := by
        cases hc : nd (l.take k) with
        | none => rfl
        | some b =>
          exfalso
          have h5 := (h.dom _).1 (by rw [hc]; simp)
          have h6 : l.take m <+: l.take k := by
            rw [List.prefix_take_iff]
            refine ⟨List.take_prefix _ _, by rw [List.length_take]; omega⟩
          refine (h.dom (l.take m)).2 ?_ (h3 (by omega))
          rcases h5 with e | ⟨x, hx, hp⟩
          · left
            rw [e] at h6
            exact List.prefix_nil.1 h6
          · exact .inr ⟨x, hx, h6.trans hp⟩
      have hfe : findEnt L (l.take k) = none := by
        cases hc : findEnt L (l.take k) with
        | none => rfl
        | some x =>
          obtain ⟨b, i, q1, _⟩ := found_node h hc
          rw [hnone] at q1
          cases q1
      rw [lastEnt, hfe]
      exact ih (by omega)
  have := key (l.length + 1 - m) (by omega)
  rwa [show m + (l.length + 1 - m) = l.length + 1 by omega] at this

def LongS (w : World) (v : Value) (Q P : Nat → Prop) (t : Nat) (L : List Ent) (n : Int) (rt : Nat) (ve : Value) (nd mp : List Int → Option Nat) (l : List Int) (b : Nat) (i : Nat) (W : World) : Prop :=
  TrieAt Q W t L n rt ve nd mp ∧ SR P 1 W v l.length (rc l) ∧ Box W b 3 (.int .i64 ((best nd (nmL L) l i).1 : Int)) ∧ Box W (b + 1) 55 (ptrV (best nd (nmL L) l i).2) ∧ w.grownBy W none ∧ i ≤ l.length + 1

set_option maxHeartbeats 2000000 in
theorem long_sees (w : World) (v : Value) (l : List Int) (b : Nat) (hb : w.heap.size ≤ b) (h0 : TrieAt Q w t L n rt ve nd mp) (hv0 : SR P 1 w v l.length (rc l)) :
    SeesOk 36 (.pointer (some ⟨b, 0, none⟩)) (.pointer (some ⟨b + 1, 0, none⟩)) Q P t L n rt ve nd mp v l (LongS w v Q P t L n rt ve nd mp l b) where
  enter := fun args W => by kernel_rfl
  at_ := fun i W h => h.1
  rd := fun i W h => h.2.1
  call := fun i c W h hi hc => by
    obtain ⟨hT, hv, b1, b2, hg, _⟩ := h
    have hE := ends_any c _ _ W (hT.tree.node _ _ hc).2
    have c1 := b1.c0
    have f1 := b1.free 0
    by_cases hn : nmL L (l.take i) = -1
    · have e : best nd (nmL L) l (i + 1) = best nd (nmL L) l i := by rw [best, if_neg (by omega)]
      have hfin : LongS w v Q P t L n rt ve nd mp l b (i + 1) W := ⟨hT, hv, by rw [e]; exact b1, by rw [e]; exact b2, hg, by omega⟩
      rw [hn] at hE
      have e1 : ((-1 : Int) != -1) = false := rfl
      rw [e1] at hE
      replace hfin := Lib.hid hfin
      clear hT hv b1 b2 hg h0 hv0 hn e e1 hc c1 f1
      go_enter Try.func36, Try.ntmps36
      go_wp2_with (go_at_call 33; refine hE.mono ?_; rintro e w4 ⟨rfl, rfl⟩)
      go_end0
      exact ⟨rfl, hfin.out⟩
    · have e : best nd (nmL L) l (i + 1) = (i, some c) := by rw [best, if_pos hn, hc]
      have hs1 : Box (W.setCell ⟨b, 0, none⟩ (.int .i64 (i : Int))) b 3 (.int .i64 (i : Int)) := b1.set _
      have g1 := gset (World.grownBy.refl W (some b)) 0 (.int .i64 (i : Int))
      have hs2 : Box (W.setCell ⟨b, 0, none⟩ (.int .i64 (i : Int))) (b + 1) 55 _ := b2.kept g1 (by simp)
      have d2 := hs2.c0
      have f2 := hs2.free 0
      have hs3 := hs2.set (.pointer (some ⟨c, 0, none⟩))
      have g2 := gset (World.grownBy.refl (W.setCell ⟨b, 0, none⟩ (.int .i64 (i : Int))) (some (b + 1))) 0 (.pointer (some ⟨c, 0, none⟩))
      have hs4 := hs1.kept g2 (by simp)
      have gF := gnew (gnew hg g1 (fun r e => by simp at e; left; omega)) g2 (fun r e => by simp at e; left; omega)
      have hfin : LongS w v Q P t L n rt ve nd mp l b (i + 1) ((W.setCell ⟨b, 0, none⟩ (.int .i64 (i : Int))).setCell ⟨b + 1, 0, none⟩ (.pointer (some ⟨c, 0, none⟩))) :=
        ⟨h0.new gF, hv0.new gF, by rw [e]; exact hs4, by rw [e]; exact hs3, gF, by omega⟩
      have e1 : (nmL L (l.take i) != -1) = true := by simpa using hn
      rw [e1] at hE
      replace hfin := Lib.hid hfin
      generalize ptrV (best nd (nmL L) l i).2 = pp at d2
      generalize ((best nd (nmL L) l i).1 : Int) = pq at c1
      clear hT hv b1 b2 hg h0 hv0 hn e e1 hc hs1 hs2 hs3 hs4 g1 g2 gF
      go_enter Try.func36, Try.ntmps36
      go_wp2_with (go_at_call 33; refine hE.mono ?_; rintro e w4 ⟨rfl, rfl⟩)
      go_end0
      exact ⟨rfl, hfin.out⟩

theorem longest_nobody (po : Option Addr) (v : Value) (w : World) (h : NonePtr w po) (hv : ∃ a n c, v = .slice a n c) :
    Calls Try.prog 13 #[.pointer po, v] w fun e w' => e = .returned (.tuple #[.int .i64 0, .slice none 0 0]) ∧ w.grownBy w' none := by
  have hC := count_nobody po w h
  obtain ⟨a, n, c, rfl⟩ := hv
  have g1 := World.grownBy_alloc w (.cells #[.int .i64 0] 3) none
  have g2 := galloc g1 (.cells #[.pointer none] 55)
  have e2 : Box ((w.alloc (.cells #[.int .i64 0] 3)).alloc (.cells #[.pointer none] 55)) (w.heap.size + 1) 55 (.pointer none) := by
    have := World.alloc_heap_new (w.alloc (.cells #[.int .i64 0] 3)) (.cells #[.pointer none] 55)
    rw [World.size_alloc] at this
    exact this
  have hW := fun fv => walk_nobody po (.slice a n c) fv _ (h.new g2)
  have c2 := e2.c0
  clear e2 h
  obtain ⟨W, hWd⟩ : ∃ W, W = (w.alloc (.cells #[.int .i64 0] 3)).alloc (.cells #[.pointer none] 55) := ⟨_, rfl⟩
  rw [← hWd] at g2 hW c2
  go_enter Try.func13, Try.ntmps13
  go_wp2_with (go_at_call 31; refine hC.mono ?_; rintro e w2 ⟨rfl, rfl⟩)
  rw [← hWd]
  clear hWd g1 hC
  refine (hW _).mono ?_
  rintro e w' ⟨rfl, rfl⟩
  go_wp2
  go_ret2
  exact ⟨rfl, g2⟩
end
end Go.Proofs.Ytlnplompnabmlaa

/-
  LAYER 9 (trie): Longest of a trie that New made.
-/
namespace Go.Proofs.Ytlnplompnabmlaa
set_option maxRecDepth 100000
open Go.RowKit Go.Lib
attribute [local go_sem] Oper.semAt_some

section
variable {Q P : Nat → Prop} {t : Nat} {L : List Ent} {n : Int} {rt : Nat} {ve : Value} {nd mp : List Int → Option Nat}
/-- What Longest's walk leaves. -/
theorem long_walk (v : Value) (l : List Int) (w : World) (h : TrieAt Q w t L n rt ve nd mp) (hv : SR P 1 w v l.length (rc l)) :
    Calls Try.prog 35 #[.pointer (some ⟨t, 0, none⟩), v, .func (.func 36) #[] #[.pointer (some ⟨w.heap.size, 0, none⟩), .pointer (some ⟨w.heap.size + 1, 0, none⟩)]] ((w.alloc (.cells #[.int .i64 0] 3)).alloc (.cells #[.pointer none] 55)) fun e w' => e = .returned (.tuple #[]) ∧
      ∃ m, LongS w v Q P t L n rt ve nd mp l w.heap.size m w' ∧ lastEnt L l (l.length + 1) = lastEnt L l m := by
  have hS := long_sees w v l w.heap.size (Nat.le_refl _) h hv
  have g1 := World.grownBy_alloc w (.cells #[.int .i64 0] 3) none
  have g2 := galloc g1 (.cells #[.pointer none] 55)
  have e1 : Box ((w.alloc (.cells #[.int .i64 0] 3)).alloc (.cells #[.pointer none] 55)) w.heap.size 3 (.int .i64 0) := ((World.grownBy_alloc (w.alloc (.cells #[.int .i64 0] 3)) (.cells #[.pointer none] 55) none).block _ (by simp) (by simp)).trans (World.alloc_heap_new w _)
  have e2 : Box ((w.alloc (.cells #[.int .i64 0] 3)).alloc (.cells #[.pointer none] 55)) (w.heap.size + 1) 55 (.pointer none) := by
    have := World.alloc_heap_new (w.alloc (.cells #[.int .i64 0] 3)) (.cells #[.pointer none] 55)
    rw [World.size_alloc] at this
    exact this
  refine (walk_any _ _ _ Q P t L n rt ve nd mp _ l _ hS _ ⟨h.new g2, hv.new g2, e1, e2, g2, by omega⟩).mono ?_
  rintro e w' ⟨rfl, m, q, hf⟩
  exact ⟨rfl, m, q, last_far h hf⟩

set_option maxHeartbeats 4000000 in
theorem longest_none (v : Value) (l : List Int) (w : World) (h : TrieAt Q w t L n rt ve nd mp) (hv : SR P 1 w v l.length (rc l)) (hP : ∀ k, P k → k ≠ t) (h0 : 0 ≤ n) (h1 : n < 4611686018427387904) (hf : lastEnt L l (l.length + 1) = none) :
    Calls Try.prog 13 #[.pointer (some ⟨t, 0, none⟩), v] w fun e w' => e = .returned (.tuple #[.int .i64 0, .slice none 0 0]) ∧ TrieAt Q w' t L (n + 1) rt ve nd mp ∧ w.grownBy w' (some t) := by
  have hC := count_made t rt ve n w h.tr h0 h1
  have hT1 := h.counted (n + 1)
  have g1 := gset (World.grownBy.refl w (some t)) 2 (.int .i64 (n + 1))
  have hv1 := hv.heap (w' := w.setCell ⟨t, 2, none⟩ (.int .i64 (n + 1))) (fun k hk hl => g1.block k hl (fun e => hP k hk (by cases e; rfl)))
  generalize w.setCell ⟨t, 2, none⟩ (.int .i64 (n + 1)) = W at *
  have hW := long_walk v l W hT1 hv1
  rw [hf] at hW
  replace hT1 := Lib.hid hT1
  clear hv hv1 hf
  obtain ⟨W2, hW2⟩ : ∃ W2, W2 = (W.alloc (.cells #[.int .i64 0] 3)).alloc (.cells #[.pointer none] 55) := ⟨_, rfl⟩
  rw [← hW2] at hW
  go_enter Try.func13, Try.ntmps13
  go_wp2_with (go_at_call 31; refine hC.mono ?_; rintro e w2 ⟨rfl, rfl⟩)
  rw [← hW2]
  clear hW2 hC
  refine hW.mono ?_
  rintro e w' ⟨rfl, m, ⟨q1, q2, q3, q4, q5, q6⟩, hl⟩
  rcases best_spec q1 l m q6 with ⟨_, e2⟩ | ⟨x, i, b, e1, _⟩
  · rw [e2] at q3 q4
    have c1 := q4.c0
    unfold ptrV at c1
    dsimp only at c1
    replace q1 := Lib.hid q1
    clear q2 q3 q4 hl e2 h
    go_wp2
    go_ret2
    exact ⟨rfl, q1.out, g1.trans (gbut' q5)⟩
  · rw [e1] at hl; cases hl

set_option maxHeartbeats 4000000 in
theorem longest_some (v : Value) (l : List Int) (x : Ent) (w : World) (h : TrieAt Q w t L n rt ve nd mp) (hv : SR P 1 w v l.length (rc l)) (hP : ∀ k, P k → k ≠ t) (h0 : 0 ≤ n) (h1 : n < 4611686018427387904) (hf : lastEnt L l (l.length + 1) = some x) (hlen : x.els.length < 1099511627776) :
    Calls Try.prog 13 #[.pointer (some ⟨t, 0, none⟩), v] w fun e w' => ∃ a, e = .returned (.tuple #[.int .i64 (x.codes.length : Int), .slice a x.els.length x.els.length]) ∧ SO (fun k => w.heap.size ≤ k) 66 4 w' (.slice a x.els.length x.els.length) x.els.length (ec x.els) ∧ TrieAt Q w' t L (n + 1) rt ve nd mp ∧ w.grownBy w' (some t) := by
  have hC := count_made t rt ve n w h.tr h0 h1
  have hT1 := h.counted (n + 1)
  have g1 := gset (World.grownBy.refl w (some t)) 2 (.int .i64 (n + 1))
  have hv1 := hv.heap (w' := w.setCell ⟨t, 2, none⟩ (.int .i64 (n + 1))) (fun k hk hl => g1.block k hl (fun e => hP k hk (by cases e; rfl)))
  generalize w.setCell ⟨t, 2, none⟩ (.int .i64 (n + 1)) = W at *
  have hW := long_walk v l W hT1 hv1
  rw [hf] at hW
  replace hT1 := Lib.hid hT1
  clear hv hv1 hf
  obtain ⟨W2, hW2⟩ : ∃ W2, W2 = (W.alloc (.cells #[.int .i64 0] 3)).alloc (.cells #[.pointer none] 55) := ⟨_, rfl⟩
  rw [← hW2] at hW
  go_enter Try.func13, Try.ntmps13
  go_wp2_with (go_at_call 31; refine hC.mono ?_; rintro e w2 ⟨rfl, rfl⟩)
  rw [← hW2]
  clear hW2 hC
  refine hW.mono ?_
  rintro e w' ⟨rfl, m, ⟨q1, q2, q3, q4, q5, q6⟩, hl⟩
  rcases best_spec q1 l m q6 with ⟨e1, _⟩ | ⟨y, i, b, e1, e2, hi, hnd, hfe⟩
  · rw [e1] at hl; cases hl
  · rw [e1] at hl
    cases hl
    rw [e2] at q3 q4
    obtain ⟨b', j, r1, r2, r3, r4⟩ := found_node q1 hfe
    obtain rfl : b = b' := by rw [hnd] at r1; cases r1; rfl
    have hil : x.codes.length = i := by rw [r4, List.length_take]; omega
    subst hil
    have gV : w'.grownBy w'.drew none := gdrew (World.grownBy.refl w' none)
    have hEl := elements_any (l.take x.codes.length) b j x w'.drew (q1.new gV) hnd r2 r3 hlen
    have c0 := q3.c0
    have c1 := q4.c0
    have d0 := (q3.new gV).c0
    have d1 := (q4.new gV).c0
    unfold ptrV at c1 d1
    dsimp only at c1 d1 c0 d0
    replace q1 := Lib.hid q1
    clear q2 q3 q4 e2 h e1 hfe r1 r2 r3 r4 hnd
    go_wp2_with fail
    refine wp_region_held_drew (S := fun X => X.cell? ⟨w2.heap.size, 0, none⟩ = some (.int .i64 (x.codes.length : Int)) ∧ X.cell? ⟨w2.heap.size + 1, 0, none⟩ = some (.pointer (some ⟨b, 0, none⟩))) (by kernel_rfl) ⟨d0, d1⟩ (fun hS0 => ?_)
    generalize w'.drew = V at *
    refine wpAnyH_take (i := 0) (oi := ⟨some 16, _, _, _, _, _⟩) (v := ?_) rfl (by kernel_rfl) (by kernel_rfl) (by kernel_rfl) (fun _ _ _ h => h) (Or.inl ⟨by rfl, ?_⟩) (by assumption) ?_
    rotate_left
    · (intro w hSw; (try dsimp only at hSw); go_simp; try with_reducible rfl)
    try simp only [Act.put, List.setIfInBounds_toArray, List.set_cons_zero, List.set_cons_succ]
    refine wpAnyH_take (i := 1) (oi := ⟨some 17, _, _, _, _, _⟩) (v := ?_) rfl (by kernel_rfl) (by kernel_rfl) (by kernel_rfl) (fun _ _ _ h => h) (Or.inl ⟨by rfl, ?_⟩) (by assumption) ?_
    rotate_left
    · (intro w hSw; (try dsimp only at hSw); go_simp; try with_reducible rfl)
    try simp only [Act.put, List.setIfInBounds_toArray, List.set_cons_zero, List.set_cons_succ]
    refine wpAnyH_take (i := 2) (oi := ⟨some 18, _, _, _, _, _⟩) (v := ?_) rfl (by kernel_rfl) (by kernel_rfl) (by kernel_rfl) (fun _ _ _ h => h) (Or.inl ⟨by rfl, ?_⟩) (by assumption) ?_
    rotate_left
    · (intro w hSw; (try dsimp only at hSw); go_simp; try with_reducible rfl)
    try simp only [Act.put, List.setIfInBounds_toArray, List.set_cons_zero, List.set_cons_succ]
    refine wpAnyH_ready (rs := [3]) (by kernel_rfl) (by simp) ?_
    refine AllReadyH.cons rfl (fun K hK => ?_) AllReadyH.nil
    go_simp
    refine hEl.mono ?_
    rintro e w5 ⟨a, rfl, o5, g5⟩
    have hS5 : w5.cell? ⟨w2.heap.size, 0, none⟩ = some (.int .i64 (x.codes.length : Int)) ∧ w5.cell? ⟨w2.heap.size + 1, 0, none⟩ = some (.pointer (some ⟨b, 0, none⟩)) := ⟨g5.cell d0 (by simp), g5.cell d1 (by simp)⟩
    refine hK.out _ _ hS5 (fun _ => ?_)
    clear hK
    refine wpAnyH_ready (rs := [4]) (by kernel_rfl) (by simp) ?_
    refine AllReadyH.cons rfl (fun K hK => ?_) AllReadyH.nil
    go_simp
    refine hK.out _ _ hS5 (fun _ => ?_)
    clear hK
    refine wpAnyH_ready (rs := [5]) (by kernel_rfl) (by simp) ?_
    refine AllReadyH.cons rfl (fun K hK => ?_) AllReadyH.nil
    go_simp
    refine hK.out _ _ hS5 (fun _ => ?_)
    clear hK
    refine wpAnyH_done (by kernel_rfl) ?_ _
    go_wp2
    go_ret2
    exact ⟨_, rfl, o5.weak (fun k hk => Nat.le_trans (Nat.le_trans g1.size (Nat.le_trans q5.size gV.size)) hk), (q1.out.new gV).new g5, ((g1.trans (gbut' q5)).trans (gbut' gV)).trans (gbut' g5)⟩
end
end Go.Proofs.Ytlnplompnabmlaa

/-
  LAYER 9 (trie): chapter 9's example.
-/
namespace Go.Proofs.Ytlnplompnabmlaa
set_option maxRecDepth 100000
open Go.RowKit Go.Lib
attribute [local go_sem] Oper.semAt_some

theorem GP.grownB {P : Nat → Prop} {w w' : World} (h : GP P w w') (hP : ∀ k, P k → w.heap.size ≤ k) : w.grownBy w' none :=
  ⟨h.1, h.2.1, h.2.2.1, h.2.2.2.1, fun k hk _ => h.2.2.2.2 k hk (fun e => by have := hP k e; omega)⟩
/-- A row that was just laid. -/
theorem sr_lit {P : Nat → Prop} {k : Nat} {w : World} {b n : Nat} {cs : Array Value} {e : TypeId} (h : w.heap[b]? = some (.cells cs e (0, 0))) (hP : P b) (hl : cs.toList.length = n * k) (hn : n ≤ 1000) : SR P k w (.slice (some ⟨b, 0, none⟩) n n) n cs.toList := by
  refine ⟨hl, _, n, rfl, Nat.le_refl _, by unfold maxLen; omega, (fun e => by cases e), fun _ => ⟨b, 0, rfl, hP, lt_of_block h, fun i u hu => ?_⟩⟩
  rw [Nat.zero_add]
  simp only [World.cell?, h]
  simpa using hu
theorem TrieAt.len {Q : Nat → Prop} {w : World} {t : Nat} {L : List Ent} {n : Int} {rt : Nat} {ve : Value} {nd mp : List Int → Option Nat} (h : TrieAt Q w t L n rt ve nd mp) : ∃ a c, ve = .slice a L.length c := by
  obtain ⟨vs, _, h2, _⟩ := h.ents
  exact rowForm h2

def aw1 : Ent := ⟨[97], []⟩
def aw2 : Ent := ⟨[99, 104], [⟨1, 1, 1, false⟩]⟩
def aw3 : Ent := ⟨[99], []⟩
theorem aw_all : newAll [aw1, aw2, aw3] = (0, 0) := by decide
theorem aw_last : lastEnt [aw1, aw2, aw3] [99, 104, 97] ([99, 104, 97].length + 1) = some aw2 := rfl
theorem aw_more : moreThan [aw1, aw2, aw3] [99] = true := by decide

set_option maxHeartbeats 4000000 in
theorem tawake_any (w : World) : Calls Try.prog 7 #[] w fun e w' => e = .returned (.bool true) ∧ w.grownBy w' none := by
  obtain ⟨A1, hA1⟩ : ∃ A, A = w.alloc (.cells #[.int .i32 97] 21) := ⟨_, rfl⟩
  obtain ⟨A2, hA2⟩ : ∃ A, A = A1.alloc (.cells #[.int .i32 99, .int .i32 104] 21) := ⟨_, rfl⟩
  obtain ⟨A3, hA3⟩ : ∃ A, A = A2.alloc (.cells #[.int .i64 1, .int .i64 1, .int .i64 1, .bool false] 66) := ⟨_, rfl⟩
  obtain ⟨A4, hA4⟩ : ∃ A, A = A3.alloc (.cells #[.int .i32 99] 21) := ⟨_, rfl⟩
  obtain ⟨A5, hA5⟩ : ∃ A, A = A4.alloc (.cells #[.slice (some ⟨w.heap.size, 0, none⟩) 1 1, .slice none 0 0, .slice (some ⟨w.heap.size + 1, 0, none⟩) 2 2, .slice (some ⟨w.heap.size + 2, 0, none⟩) 1 1, .slice (some ⟨w.heap.size + 3, 0, none⟩) 1 1, .slice none 0 0] 35) := ⟨_, rfl⟩
  have z1 : A1.heap.size = w.heap.size + 1 := by rw [hA1]; simp
  have z2 : A2.heap.size = w.heap.size + 2 := by rw [hA2]; simp [z1]
  have z3 : A3.heap.size = w.heap.size + 3 := by rw [hA3]; simp [z2]
  have z4 : A4.heap.size = w.heap.size + 4 := by rw [hA4]; simp [z3]
  have z5 : A5.heap.size = w.heap.size + 5 := by rw [hA5]; simp [z4]
  have g1 : w.grownBy A1 none := by rw [hA1]; exact World.grownBy_alloc _ _ _
  have g2 : A1.grownBy A2 none := by rw [hA2]; exact World.grownBy_alloc _ _ _
  have g3 : A2.grownBy A3 none := by rw [hA3]; exact World.grownBy_alloc _ _ _
  have g4 : A3.grownBy A4 none := by rw [hA4]; exact World.grownBy_alloc _ _ _
  have g5 : A4.grownBy A5 none := by rw [hA5]; exact World.grownBy_alloc _ _ _
  have b1 : A1.heap[w.heap.size]? = some (.cells #[.int .i32 97] 21 (0, 0)) := by rw [hA1]; exact World.alloc_heap_new _ _
  have b2 : A2.heap[w.heap.size + 1]? = some (.cells #[.int .i32 99, .int .i32 104] 21 (0, 0)) := by rw [hA2, ← z1]; exact World.alloc_heap_new _ _
  have b3 : A3.heap[w.heap.size + 2]? = some (.cells #[.int .i64 1, .int .i64 1, .int .i64 1, .bool false] 66 (0, 0)) := by rw [hA3, ← z2]; exact World.alloc_heap_new _ _
  have b4 : A4.heap[w.heap.size + 3]? = some (.cells #[.int .i32 99] 21 (0, 0)) := by rw [hA4, ← z3]; exact World.alloc_heap_new _ _
  have b5 : A5.heap[w.heap.size + 4]? = some (.cells #[.slice (some ⟨w.heap.size, 0, none⟩) 1 1, .slice none 0 0, .slice (some ⟨w.heap.size + 1, 0, none⟩) 2 2, .slice (some ⟨w.heap.size + 2, 0, none⟩) 1 1, .slice (some ⟨w.heap.size + 3, 0, none⟩) 1 1, .slice none 0 0] 35 (0, 0)) := by rw [hA5, ← z4]; exact World.alloc_heap_new _ _
  have g25 := (g2.trans g3).trans (g4.trans g5)
  have c1 := (g25.block _ (lt_of_block b1) (by simp)).trans b1
  have c2 := ((g3.trans (g4.trans g5)).block _ (lt_of_block b2) (by simp)).trans b2
  have c3 := ((g4.trans g5).block _ (lt_of_block b3) (by simp)).trans b3
  have c4 := (g5.block _ (lt_of_block b4) (by simp)).trans b4
  have gA : w.grownBy A5 none := g1.trans g25
  have hE : EntsR (fun k => k < A5.heap.size) A5 (.slice (some ⟨w.heap.size + 4, 0, none⟩) 3 3) [aw1, aw2, aw3] := by
    refine ⟨[(.slice (some ⟨w.heap.size, 0, none⟩) 1 1, .slice none 0 0), (.slice (some ⟨w.heap.size + 1, 0, none⟩) 2 2, .slice (some ⟨w.heap.size + 2, 0, none⟩) 1 1), (.slice (some ⟨w.heap.size + 3, 0, none⟩) 1 1, .slice none 0 0)], rfl, ?_, ?_⟩
    · have := sr_lit (P := fun k => k < A5.heap.size) (k := 2) (n := 3) b5 (by omega) rfl (by omega)
      simpa [pc] using this
    · intro i x p hx hp
      match i, hx, hp with
      | 0, hx, hp =>
        simp at hx hp
        subst hx hp
        have := sr_lit (P := fun k => k < A5.heap.size) (k := 1) (n := 1) c1 (by omega) rfl (by omega)
        exact ⟨this, SR.nil _ _ _⟩
      | 1, hx, hp =>
        simp at hx hp
        subst hx hp
        have q1 := sr_lit (P := fun k => k < A5.heap.size) (k := 1) (n := 2) c2 (by omega) rfl (by omega)
        have q2 := sr_lit (P := fun k => k < A5.heap.size) (k := 4) (n := 1) c3 (by omega) rfl (by omega)
        exact ⟨q1, q2⟩
      | 2, hx, hp =>
        simp at hx hp
        subst hx hp
        have := sr_lit (P := fun k => k < A5.heap.size) (k := 1) (n := 1) c4 (by omega) rfl (by omega)
        exact ⟨this, SR.nil _ _ _⟩
  have hNew := new_any _ _ A5 hE
  rw [aw_all] at hNew
  dsimp only at hNew
  clear hE c1 c2 c3 c4 g25 b1 b2 b3 b4 b5 g1 g2 g3 g4 g5
  have hz0 : ((0 : Nat) : Int) = 0 := rfl
  rw [hz0] at hNew
  clear hz0
  go_enter Try.func7, Try.ntmps7
  go_wp2_with fail
  rw [← hA1, ← hA2, ← hA3, ← hA4, ← hA5]
  clear hA1 hA2 hA3 hA4 hA5 z1 z2 z3 z4
  refine hNew.mono ?_
  clear hNew
  rintro e w1 ⟨po, rfl, hg, hor⟩
  obtain ⟨t, rt, ve, nd, mp, rfl, hT⟩ : ∃ t rt ve nd mp, po = some ⟨t, 0, none⟩ ∧ TrieAt (fun k => A5.heap.size ≤ k) w1 t [aw1, aw2, aw3] 0 rt ve nd mp := by
    rcases hor with ⟨_, h⟩ | ⟨h, _⟩
    · exact h
    · exact absurd rfl h
  have gw1 : w.grownBy w1 none := gA.trans (hg.grownB (fun k h => h))
  have hlen := hT.len
  obtain ⟨va, vc, rfl⟩ := hlen
  have ht1 := hT.tr.lt
  clear hor hg
  go_wp2_with fail
  obtain ⟨B1, hB1⟩ : ∃ B, B = w1.alloc (.cells #[.int .i32 99, .int .i32 104, .int .i32 97] 21) := ⟨_, rfl⟩
  have gB1 : w1.grownBy B1 none := by rw [hB1]; exact World.grownBy_alloc _ _ _
  have bB1 : B1.heap[w1.heap.size]? = some (.cells #[.int .i32 99, .int .i32 104, .int .i32 97] 21 (0, 0)) := by rw [hB1]; exact World.alloc_heap_new _ _
  have hTB := hT.new gB1
  have hlo := longest_some (P := fun k => k = w1.heap.size) _ [99, 104, 97] aw2 B1 hTB (sr_lit (k := 1) (n := 3) bB1 rfl rfl (by omega)) (fun k e => by omega) (by omega) (by omega) aw_last (by decide)
  rw [← hB1]
  clear hB1 hT
  refine hlo.mono ?_
  clear hlo
  rintro e w2 ⟨a2, rfl, _, hT2, g2⟩
  have hz0 : ((aw2.codes.length : Nat) : Int) = 2 := rfl
  have hz1 : aw2.els.length = 1 := rfl
  rw [hz0, hz1]
  clear hz0 hz1
  have gw2 : w.grownBy w2 none := gnew (gw1.trans gB1) g2 (fun r e => by cases e; left; exact Nat.le_trans gA.size hTB.tq)
  have hz2 : ((0 : Int) + 1) = 1 := rfl
  rw [hz2] at hT2
  clear hz2
  have ht2 := hT2.tr.lt
  have hln := fun W (g : w2.grownBy W none) => len_made t rt va [aw1, aw2, aw3].length vc 1 W ((hT2.new g).tr)
  have hz3 : (([aw1, aw2, aw3].length : Nat) : Int) = 3 := rfl
  rw [hz3] at hln
  have hask := fun W (g : w2.grownBy W none) => asked_made t rt _ 1 W ((hT2.new g).tr)
  obtain ⟨B2, hB2⟩ : ∃ B, B = w2.alloc (.cells #[.int .i32 99] 21) := ⟨_, rfl⟩
  have gB2 : w2.grownBy B2 none := by rw [hB2]; exact World.grownBy_alloc _ _ _
  have bB2 : B2.heap[w2.heap.size]? = some (.cells #[.int .i32 99] 21 (0, 0)) := by rw [hB2]; exact World.alloc_heap_new _ _
  have hbg := begins_any (P := fun k => k = w2.heap.size) _ [99] B2 (hT2.new gB2) (sr_lit (k := 1) (n := 1) bB2 rfl rfl (by omega))
  rw [aw_more] at hbg
  clear hT2 hTB
  go_wp2_with fail
  rw [← hB2]
  clear hB2
  refine hbg.mono ?_
  clear hbg
  rintro e w3 ⟨rfl, g3⟩
  have gg3 := gB2.trans g3
  have hln3 := hln _ gg3
  have hask3 := hask _ gg3
  clear hln hask
  go_wp2_with first
    | (go_at_call 11; refine hln3.mono ?_; rintro e w4 ⟨rfl, rfl⟩)
    | (go_at_call 15; refine hask3.mono ?_; rintro e w5 ⟨rfl, rfl⟩)
  go_ret
  exact ⟨rfl, gw2.trans gg3⟩
end Go.Proofs.Ytlnplompnabmlaa
