/-
  LAYER 9 (trie): the law TrieMakes, walked.
-/
import Derived.Test.YtnnijcafnhhnoaaTAwake
import Derived.Test.YtnnijcafnhhnoaaTRefC
import Derived.Test.YtnnijcafnhhnoaaTFew
namespace Go.Proofs.Ytnnijcafnhhnoaa
set_option maxRecDepth 100000
open Go.RowKit Go.Lib
attribute [local go_sem] Oper.semAt_some

structure Good (L : List Ent) : Prop where
  nd : (L.map (·.codes)).Nodup
  ent : ∀ x ∈ L, entErr x = 0
theorem new_good_from : ∀ (rest done : List Ent), Good done → (newRes done rest).2 = 0 → Good (done ++ rest)
  | [], done, h, _ => by simpa using h
  | x :: rest, done, h, hr => by
    rw [newRes] at hr
    by_cases ha : addErr done x = 0
    · rw [if_pos ha] at hr
      have he : entErr x = 0 := by
        unfold addErr at ha
        by_cases e : entErr x = 0
        · exact e
        · rw [if_pos e] at ha; exact ha
      have hn : x.codes ∉ done.map (·.codes) := by
        intro hin
        unfold addErr at ha
        rw [if_neg (by simpa using he), if_pos hin] at ha
        cases ha
      have := new_good_from rest (done ++ [x]) ⟨by
        rw [List.map_append, List.nodup_append]
        refine ⟨h.nd, by simp, fun a h1 b h2 e => ?_⟩
        simp at h2
        subst h2
        subst e
        exact hn h1, fun y hy => by
        rcases List.mem_append.1 hy with h1 | h1
        · exact h.ent y h1
        · simp at h1; subst h1; exact he⟩ hr
      simpa using this
    · rw [if_neg ha] at hr
      exact absurd hr ha
theorem new_good {L : List Ent} (h : (newAll L).2 = 0) : L.length ≤ 4000 ∧ Good L := by
  unfold newAll at h
  by_cases hl : 4000 < L.length
  · rw [if_pos hl] at h; cases h
  · rw [if_neg hl] at h
    have := new_good_from L [] ⟨List.nodup_nil, fun x hx => by cases hx⟩ h
    exact ⟨by omega, by simpa using this⟩
theorem Good.find {L : List Ent} (h : Good L) {x : Ent} (hx : x ∈ L) : findEnt L x.codes = some x := by
  unfold findEnt
  obtain ⟨i, hi, rfl⟩ := List.getElem_of_mem hx
  rw [List.find?_eq_some_iff_getElem]
  refine ⟨by simp, i, hi, rfl, fun j hj => ?_⟩
  have hne : (L.map (·.codes))[j]'(by simp; omega) ≠ (L.map (·.codes))[i]'(by simpa using hi) := fun e => by
    have := (List.getElem_inj h.nd).1 e
    omega
  simp only [List.getElem_map] at hne
  simpa using hne
theorem Good.last {L : List Ent} (h : Good L) {x : Ent} (hx : x ∈ L) : lastEnt L x.codes (x.codes.length + 1) = some x := by
  rw [lastEnt, List.take_length, h.find hx]
  rfl

theorem trie_len {Q : Nat → Prop} {w : World} {t : Nat} {L : List Ent} {n : Int} {rt : Nat} {ve : Value} {nd mp : List Int → Option Nat} (h : TrieAt Q w t L n rt ve nd mp) :
    Calls Try.prog 11 #[.pointer (some ⟨t, 0, none⟩)] w fun e w' => e = .returned (.int .i64 (L.length : Int)) ∧ w = w' := by
  obtain ⟨va, vc, rfl⟩ := h.len
  exact len_made _ _ _ _ _ _ _ h.tr
set_option maxHeartbeats 16000000 in
theorem TrieMakes_walk (W : World) (v : Value) (L : List Ent) (h : EntsR (fun k => k < W.heap.size) W v L) :
    Calls Try.prog 3 #[v] W fun e W' => e = .returned (.bool true) ∧ Below W.heap.size W W' := by
  obtain ⟨a, c, rfl, hc, hm⟩ : ∃ a c, v = .slice a L.length c ∧ L.length ≤ c ∧ c ≤ maxLen := by obtain ⟨vs, _, h2, _⟩ := h; exact h2.form
  unfold maxLen at hm
  have hrd : ∀ w', W.grownBy w' none → EntsR (fun k => k < W.heap.size) w' (.slice a L.length c) L := fun w' g => h.new g
  obtain ⟨n, hn⟩ : ∃ n, n = L.length := ⟨_, rfl⟩
  have hnew := fun w' (g : W.grownBy w' none) => new_any (.slice a L.length c) L w' (by
    obtain ⟨vs, q1, q2, q3⟩ := hrd w' g
    exact ⟨vs, q1, q2.weak (fun b hb => Nat.lt_of_lt_of_le hb g.size), fun i x p e1 e2 => ⟨(q3 i x p e1 e2).1.weak (fun b hb => Nat.lt_of_lt_of_le hb g.size), (q3 i x p e1 e2).2.weak (fun b hb => Nat.lt_of_lt_of_le hb g.size)⟩⟩)
  have hck := fun w' (hr : EntsR (fun k => k < W.heap.size) w' (.slice a L.length c) L) => refTrie_check _ _ L w' hr
  have hfw := fun w' (g : W.grownBy w' none) => few_any _ _ L w' (hrd w' g)
  rw [← hn] at hc hrd hnew hck hfw ⊢
  replace hn := Lib.hid hn
  replace hrd := Lib.hid hrd
  clear h
  have finish : ∀ w', W.grownBy w' none → Below W.heap.size W w' := fun w' g => gbelow g (Nat.le_refl _) (by simp)
  replace finish := Lib.hid finish
  have main : ∀ w3 w2 po, W.grownBy w2 none → NewQ w2 L (newAll L).2 po w3 → EntsR (fun k => k < W.heap.size) w3 (.slice a n c) L := fun w3 w2 po g hq => by
    refine (hrd.out w2 g).heap (fun b hb hl => ?_)
    exact hq.1.2.2.2.2 b hl (fun e => by have := g.size; omega)
  replace main := Lib.hid main
  have key : n ≤ 4000 ∨ 4000 < n := by omega
  have hA := fun w => tawake_any w
  obtain ⟨nk, hnk⟩ : ∃ k, k = (newAll L).1 := ⟨_, rfl⟩
  obtain ⟨ne, hne⟩ : ∃ k, k = (newAll L).2 := ⟨_, rfl⟩
  rw [← hnk, ← hne] at hnew hck
  rw [← hne] at main
  replace hnk := Lib.hid hnk
  replace hne := Lib.hid hne
  go_enter Try.func3, Try.ntmps3
  go_wp2_with (go_at_call 7; refine (hA _).mono ?_; rintro e w1 ⟨rfl, g1⟩)
  refine (hfw _ g1).mono ?_
  rintro e w2 ⟨b, rfl, g2⟩
  have gW2 := g1.trans g2
  have hnw := hnew _ gW2
  clear hA hfw hnew
  have hbad : ∀ po w3, NewQ w2 L ne po w3 → W.grownBy w3 none := fun po w3 hq => by
    have := hq.1
    exact gW2.trans (this.grownB (fun k h => h))
  by_cases hz : ne = 0
  · have hgd := new_good (by rw [← hne.out]; exact hz)
    subst hz
    have hn4 : n ≤ 4000 := by rw [hn.out]; exact hgd.1
    have hgood := Lib.hid hgd.2
    clear hgd key
    cases b
    · clear hck hnw hbad main
      go_wp2_with fail
      go_ret
      exact ⟨rfl, finish.out _ gW2⟩
    replace hbad := Lib.hid hbad
    have hpo : ∀ po w3, NewQ w2 L 0 po w3 → ∃ t rt ve nd mp, po = some ⟨t, 0, none⟩ ∧ Hid (TrieAt (fun k => w2.heap.size ≤ k) w3 t L 0 rt ve nd mp) := fun po w3 hq => by
      rcases hq.2 with ⟨_, h⟩ | ⟨h, _⟩
      · exact h
      · exact absurd rfl h
    replace hpo := Lib.hid hpo
    go_wp2_with first
      | (go_at_call 9; refine hnw.mono ?_; rintro e w3 ⟨po, rfl, hq⟩; have hr3 := main.out _ _ _ gW2 hq; have gW3 := hbad.out _ _ hq; have hc3 := hck _ hr3; obtain ⟨t, rt, ve, nd, mp, rfl, hT3⟩ := hpo.out po w3 hq; clear hq hck hnw)
      | (go_at_call 10; refine hc3.mono ?_; rintro e w4 ⟨rfl, g4⟩; have hT4 := Lib.hid (hT3.out.new g4); have hln := trie_len hT4.out; rw [← hn.out] at hln; clear hc3 hT3)
      | (go_at_call 11; refine hln.mono ?_; rintro e w5 ⟨rfl, rfl⟩; clear hln)
    have hr4 := Lib.hid (hr3.new g4)
    have gW4 := Lib.hid (gW3.trans g4)
    clear hr3 gW3 hpo hbad main
    have htq := hT4.out.tq
    go_loopw [58] (fun vi wr => ∃ i : Nat, vi = .int .i64 (i : Int) ∧ i ≤ n ∧ Hid (TrieAt (fun k => w2.heap.size ≤ k) wr t L (2 * (i : Int)) rt ve nd mp) ∧ Hid (W.grownBy wr none) ∧ Hid (EntsR (fun k => k < W.heap.size) wr (.slice a n c) L)) (fun vi _ => n - (RowKit.intOf vi).toNat)
    case atStart => exact ⟨0, rfl, Nat.zero_le _, Lib.hid (by simpa using hT4.out), gW4, hr4⟩
    case round =>
      obtain ⟨i, rfl, hi1, hT, hG, hR⟩ := hrel
      by_cases hlt : i < n
      · have hltz : (i : Int) < (n : Int) := by omega
        obtain ⟨x, hx⟩ : ∃ x, L[i]? = some x := ⟨_, List.getElem?_eq_getElem (by have := hn.out; omega)⟩
        have hxm := List.mem_of_getElem? hx
        have hfi := hgood.out.find hxm
        have hla := hgood.out.last hxm
        have hfine := ent_fine (hgood.out.ent x hxm)
        obtain ⟨b, off, vc, ve0, rfl, _, c0, c1, hE⟩ := ents_get (c := c) hR.out hx
        obtain ⟨xa, xc, hvc, hxc1, hxc2⟩ := hE.1.form
        obtain ⟨ya, yc, hve, hyc1, hyc2⟩ := hE.2.form
        have gB := World.grownBy_alloc wr (.cells #[vc, ve0] 35) none
        have eB : Two (wr.alloc (.cells #[vc, ve0] 35)) wr.heap.size vc ve0 := World.alloc_heap_new wr _
        obtain ⟨V, hV⟩ : ∃ V, V = wr.alloc (.cells #[vc, ve0] 35) := ⟨_, rfl⟩
        rw [← hV] at gB eB
        have hTV := hT.out.new gB
        have htl := hT.out.tr.lt
        have hGV := hG.out.trans gB
        have hWt : W.heap.size ≤ t := Nat.le_trans gW2.size htq
        have hget := get_some (P := fun k => k < W.heap.size) vc x.codes x V hTV (hE.1.new gB) (fun k hk => by omega) (by omega) (by omega) hfi (by omega)
        have hE1 := hE.1.new gB
        have hE2 := hE.2.new gB
        have hEk : ∀ w', V.grownBy w' (some t) → SR (fun k => k < W.heap.size) 1 w' vc x.codes.length (rc x.codes) ∧ SR (fun k => k < W.heap.size) 4 w' ve0 x.els.length (ec x.els) := fun w' g =>
          ⟨hE1.heap (fun k hk hl => g.block k hl (fun e => by cases e; omega)), hE2.heap (fun k hk hl => g.block k hl (fun e => by cases e; omega))⟩
        have hlo := fun w5 (g : V.grownBy w5 (some t)) (T : TrieAt (fun k => w2.heap.size ≤ k) w5 t L (2 * (i : Int) + 1) rt ve nd mp) => longest_some (P := fun k => k < W.heap.size) vc x.codes x w5 T (hEk w5 g).1 (fun k hk => by omega) (by omega) (by omega) hla (by omega)
        have hbx : ∀ w', V.grownBy w' (some t) → w'.cell? ⟨wr.heap.size, 0, none⟩ = some vc ∧ w'.cell? ⟨wr.heap.size, 1, none⟩ = some ve0 := fun w' g => by
          have e := eB.kept g (by simp; omega)
          exact ⟨e.c0, e.c1⟩
        have hsm := fun w' (g : V.grownBy w' (some t)) va Pv (h : SR Pv 4 w' va x.els.length (ec x.els)) => same_any Pv _ va ve0 x.els x.els w' h (hEk w' g).2
        have hdec : decide (x.els = x.els) = true := by simp
        rw [hdec] at hsm
        have hE1 := Lib.hid hE1
        rw [hvc, hve] at hV hbx
        rw [hvc] at c0 hget hlo
        rw [hve] at c1 hsm
        obtain ⟨d0, d1⟩ := hbx V (World.grownBy.refl _ _)
        obtain ⟨nc, hnc⟩ : ∃ k, k = x.codes.length := ⟨_, rfl⟩
        obtain ⟨ne, hnee⟩ : ∃ k, k = x.els.length := ⟨_, rfl⟩
        rw [← hnc] at hV c0 hxc1
        rw [← hnee] at hV c1 hyc1
        simp only [← hnc, ← hnee] at hbx hget hlo hsm
        rw [← hnc] at d0
        rw [← hnee] at d1
        have hncle : nc ≤ 8 := by rw [hnc]; exact hfine.2.1
        replace hnc := Lib.hid hnc
        replace hnee := Lib.hid hnee
        have hts := hTV.tr.lt
        replace hTV := Lib.hid hTV
        replace hbx := Lib.hid hbx
        replace hGV := Lib.hid hGV
        clear hx hxm hfi hla hfine hE hE2 hEk eB gB hvc hve hdec
        go_wp2_with fail
        rw [← hV]
        clear hV c0 c1
        go_wp2_with fail
        refine hget.mono ?_
        clear hget d0 d1
        rintro e w5 ⟨a5, rfl, o5, T5, g5⟩
        obtain ⟨d0, d1⟩ := hbx.out w5 g5
        have hl5 := hlo w5 g5 T5
        replace T5 := Lib.hid T5
        go_wp2_with fail
        refine hl5.mono ?_
        clear hl5 hlo d0 d1
        rintro e w6 ⟨a6, rfl, o6, T6, g6⟩
        have g56 := g5.trans g6
        obtain ⟨d0, d1⟩ := hbx.out w6 g56
        have r5 := (o5.heap (w' := w6) (fun k cur hk hb => g6.block k (lt_of_block hb) (fun e => by cases e; omega))).reads
        have s5 := hsm w6 g56 _ _ r5
        have r6 := fun w' (g : w6.grownBy w' none) => (o6.new g).reads
        have s6 := fun w' (g : w6.grownBy w' none) => hsm w' (g56.trans (gbut' g)) _ _ (r6 w' g)
        have hbx6 := fun w' (g : w6.grownBy w' none) => hbx.out w' (g56.trans (gbut' g))
        have hTF : ∀ w', w6.grownBy w' none → Hid (TrieAt (fun k => w2.heap.size ≤ k) w' t L (2 * (((i + 1 : Nat) : Int))) rt ve nd mp) ∧ Hid (W.grownBy w' none) ∧ Hid (EntsR (fun k => k < W.heap.size) w' (.slice (some ⟨b, off, none⟩) n c) L) := fun w' g => by
          have gVw : V.grownBy w' (some t) := g56.trans (gbut' g)
          refine ⟨Lib.hid ?_, Lib.hid (gnew hGV.out gVw (fun r e => by cases e; left; omega)), Lib.hid ?_⟩
          · have := T6.new g
            rwa [show 2 * (i : Int) + 1 + 1 = 2 * ((i + 1 : Nat) : Int) by omega] at this
          · exact hrd.out w' (gnew hGV.out gVw (fun r e => by cases e; left; omega))
        replace hTF := Lib.hid hTF
        replace hbx6 := Lib.hid hbx6
        clear hsm r5 r6 o5 o6 T6 g5 g6 g56 hbx
        go_wp2_with first
          | (go_at_call_of 14 (Value.slice a5 ne ne); refine s5.mono ?_; clear s5; rintro e w7 ⟨rfl, g7⟩; obtain ⟨d2, d3⟩ := hbx6.out w7 g7; have s7 := s6 w7 g7; clear s6)
          | (go_at_call_of 14 (Value.slice a6 ne ne); refine s7.mono ?_; clear s7; rintro e w8 ⟨rfl, g8⟩; obtain ⟨t1, t2, t3⟩ := hTF.out w8 (g7.trans g8))
        exact ⟨⟨i + 1, by go_num, by omega, t1, t2, t3⟩, by simp [RowKit.intOf]; omega⟩
      · obtain rfl : n = i := by omega
        have hask := asked_made _ _ _ _ _ hT.out.tr
        go_wp2_with (go_at_call 15; refine hask.mono ?_; rintro e w6 ⟨rfl, rfl⟩)
        go_ret
        exact ⟨by first | rfl | simp, finish.out _ hG.out⟩
  · have hneb : (ne != 0) = true := by simpa using hz
    replace hz := Lib.hid hz
    have hpo : ∀ po w3, NewQ w2 L ne po w3 → po = none := fun po w3 hq => by
      rcases hq.2 with ⟨h, _⟩ | ⟨_, h⟩
      · exact absurd h hz.out
      · exact h
    replace hpo := Lib.hid hpo
    replace hbad := Lib.hid hbad
    cases b
    all_goals rcases key with hk | hk
    all_goals
      go_wp2_with first
        | (go_at_call 9; refine hnw.mono ?_; rintro e w3 ⟨po, rfl, hq⟩; obtain rfl := hpo.out po w3 hq; have hr3 := main.out _ _ _ gW2 hq; have gW3 := hbad.out _ _ hq; have hc3 := hck _ hr3)
        | (go_at_call 10; refine hc3.mono ?_; rintro e w4 ⟨rfl, g4⟩)
      go_ret
      first
        | exact ⟨rfl, finish.out _ gW2⟩
        | exact ⟨rfl, finish.out _ (gW3.trans g4)⟩
end Go.Proofs.Ytnnijcafnhhnoaa
