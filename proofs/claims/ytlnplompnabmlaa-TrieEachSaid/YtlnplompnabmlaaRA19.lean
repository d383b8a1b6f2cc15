/-
  LAYER 9 (trie): few: it answers.
-/
import Derived.Test.YtlnplompnabmlaaRA09
import Derived.Test.YtlnplompnabmlaaRA12
import Derived.Test.YtlnplompnabmlaaRA18
import Derived.Test.YtlnplompnabmlaaRA16
import Derived.Test.YtlnplompnabmlaaRA01
import Derived.Test.YtlnplompnabmlaaRA15
import Derived.OwnWalkIn
import Derived.TacticsInMore
namespace Go.Proofs.Ytlnplompnabmlaa
set_option maxRecDepth 100000
open Go.RowKit Go.Lib
attribute [local go_sem] Oper.semAt_some

def SomeB (w : World) (e : Ending) (w' : World) : Prop := ∃ b : Bool, e = .returned (.bool b) ∧ w.grownBy w' none
set_option maxHeartbeats 4000000 in
theorem few_any (P : Nat → Prop) (v : Value) (L : List Ent) (w : World) (h : EntsR P w v L) : Calls Try.prog 8 #[v] w (SomeB w) := by
  obtain ⟨a, c, rfl, hc, hm⟩ : ∃ a c, v = .slice a L.length c ∧ L.length ≤ c ∧ c ≤ maxLen := by obtain ⟨vs, _, h2, _⟩ := h; exact h2.form
  unfold maxLen at hm
  replace h := Lib.hid h
  obtain ⟨n, hn⟩ : ∃ n, n = L.length := ⟨_, rfl⟩
  rw [← hn] at hc ⊢
  replace hn := Lib.hid hn
  go_enter Try.func8, Try.ntmps8
  go_wp2_with fail
  go_loopw [3, 5, 10] (fun v3 _ vi wr => ∃ (i : Nat) (z : Int), vi = .int .i64 (i : Int) ∧ i ≤ n ∧ v3 = .int .i64 z ∧ Hid (w.grownBy wr none)) (fun _ _ vi _ => n - (RowKit.intOf vi).toNat)
  case atStart => exact ⟨0, _, rfl, Nat.zero_le _, rfl, Lib.hid (World.grownBy.refl _ _)⟩
  case round =>
    obtain ⟨i, z, rfl, hi1, rfl, hG⟩ := hrel
    by_cases hlt : i < n
    · have hltz : (i : Int) < (n : Int) := by omega
      obtain ⟨x, hx⟩ : ∃ x, L[i]? = some x := ⟨_, List.getElem?_eq_getElem (by have := hn.out; omega)⟩
      obtain ⟨b, off, vc, ve0, rfl, _, c0, c1, hE⟩ := ents_get (c := c) (h.out.new hG.out) hx
      obtain ⟨xa, xc, rfl, hxc1, hxc2⟩ := hE.1.form
      obtain ⟨ya, yc, rfl, hyc1, hyc2⟩ := hE.2.form
      generalize x.codes.length = nc at *
      generalize x.els.length = ne at *
      have gB := World.grownBy_alloc wr (.cells #[.slice xa nc xc, .slice ya ne yc] 35) none
      have hG2 := Lib.hid (hG.out.trans gB)
      clear hx hE gB hxc1 hxc2 hyc1 hyc2
      go_wp2_with fail
      exact ⟨⟨i + 1, _, by go_num, by omega, rfl, hG2⟩, by simp [RowKit.intOf]; omega⟩
    · obtain rfl : n = i := by omega
      go_wp2
      go_ret
      exact ⟨_, rfl, hG.out⟩
end Go.Proofs.Ytlnplompnabmlaa

/-
  LAYER 9 (trie): the law TrieMakes, walked.
-/
namespace Go.Proofs.Ytlnplompnabmlaa
set_option maxRecDepth 100000
open Go.RowKit Go.Lib
attribute [local go_sem] Oper.semAt_some

structure Good (L : List Ent) : Prop where
  nd : (L.map (·.codes)).Nodup
  ent : ∀ x ∈ L, entErr x = 0
theorem new_good_from : ∀ (rest done : List Ent), Good done → (newRes done rest).2 = 0 → Good (done ++ rest)
  | [], done, h, _ => by simpa using h
  | x :: rest, done, h, hr => by
    rw [newRes] at hr
    by_cases ha : addErr done x = 0
    · rw [if_pos ha] at hr
      have he : entErr x = 0 := by
        unfold addErr at ha
        by_cases e : entErr x = 0
        · exact e
        · rw [if_pos e] at ha; exact ha
      have hn : x.codes ∉ done.map (·.codes) := by
        intro hin
        unfold addErr at ha
        rw [if_neg (by simpa using he), if_pos hin] at ha
        cases ha
      have := new_good_from rest (done ++ [x]) ⟨by
        rw [List.map_append, List.nodup_append]
        refine ⟨h.nd, by simp, fun a h1 b h2 e => ?_⟩
        simp at h2
        subst h2
        subst e
        exact hn h1, fun y hy => by
        rcases List.mem_append.1 hy with h1 | h1
        · exact h.ent y h1
        · simp at h1; subst h1; exact he⟩ hr
      simpa using this
    · rw [if_neg ha] at hr
      exact absurd hr ha
theorem new_good {L : List Ent} (h : (newAll L).2 = 0) : L.length ≤ 4000 ∧ Good L := by
  unfold newAll at h
  by_cases hl : 4000 < L.length
  · rw [if_pos hl] at h; cases h
  · rw [if_neg hl] at h
    have := new_good_from L [] ⟨List.nodup_nil, fun x hx => by cases hx⟩ h
    exact ⟨by omega, by simpa using this⟩
theorem Good.find {L : List Ent} (h : Good L) {x : Ent} (hx : x ∈ L) : findEnt L x.codes = some x := by
  unfold findEnt
  obtain ⟨i, hi, rfl⟩ := List.getElem_of_mem hx
  rw [List.find?_eq_some_iff_getElem]
  refine ⟨by simp, i, hi, rfl, fun j hj => ?_⟩
  have hne : (L.map (·.codes))[j]'(by simp; omega) ≠ (L.map (·.codes))[i]'(by simpa using hi) := fun e => by
    have := (List.getElem_inj h.nd).1 e
    omega
  simp only [List.getElem_map] at hne
  simpa using hne
theorem Good.last {L : List Ent} (h : Good L) {x : Ent} (hx : x ∈ L) : lastEnt L x.codes (x.codes.length + 1) = some x := by
  rw [lastEnt, List.take_length, h.find hx]
  rfl

theorem trie_len {Q : Nat → Prop} {w : World} {t : Nat} {L : List Ent} {n : Int} {rt : Nat} {ve : Value} {nd mp : List Int → Option Nat} (h : TrieAt Q w t L n rt ve nd mp) :
    Calls Try.prog 11 #[.pointer (some ⟨t, 0, none⟩)] w fun e w' => e = .returned (.int .i64 (L.length : Int)) ∧ w = w' := by
  obtain ⟨va, vc, rfl⟩ := h.len
  exact len_made _ _ _ _ _ _ _ h.tr
set_option maxHeartbeats 16000000 in
theorem TrieMakes_walk (W : World) (v : Value) (L : List Ent) (h : EntsR (fun k => k < W.heap.size) W v L) :
    Calls Try.prog 3 #[v] W fun e W' => e = .returned (.bool true) ∧ Below W.heap.size W W' := by
  obtain ⟨a, c, rfl, hc, hm⟩ : ∃ a c, v = .slice a L.length c ∧ L.length ≤ c ∧ c ≤ maxLen := by obtain ⟨vs, _, h2, _⟩ := h; exact h2.form
  unfold maxLen at hm
  have hrd : ∀ w', W.grownBy w' none → EntsR (fun k => k < W.heap.size) w' (.slice a L.length c) L := fun w' g => h.new g
  obtain ⟨n, hn⟩ : ∃ n, n = L.length := ⟨_, rfl⟩
  have hnew := fun w' (g : W.grownBy w' none) => new_any (.slice a L.length c) L w' (by
    obtain ⟨vs, q1, q2, q3⟩ := hrd w' g
    exact ⟨vs, q1, q2.weak (fun b hb => Nat.lt_of_lt_of_le hb g.size), fun i x p e1 e2 => ⟨(q3 i x p e1 e2).1.weak (fun b hb => Nat.lt_of_lt_of_le hb g.size), (q3 i x p e1 e2).2.weak (fun b hb => Nat.lt_of_lt_of_le hb g.size)⟩⟩)
  have hck := fun w' (hr : EntsR (fun k => k < W.heap.size) w' (.slice a L.length c) L) => refTrie_check _ _ L w' hr
  have hfw := fun w' (g : W.grownBy w' none) => few_any _ _ L w' (hrd w' g)
  rw [← hn] at hc hrd hnew hck hfw ⊢
  replace hn := Lib.hid hn
  replace hrd := Lib.hid hrd
  clear h
  have finish : ∀ w', W.grownBy w' none → Below W.heap.size W w' := fun w' g => gbelow g (Nat.le_refl _) (by simp)
  replace finish := Lib.hid finish
  have main : ∀ w3 w2 po, W.grownBy w2 none → NewQ w2 L (newAll L).2 po w3 → EntsR (fun k => k < W.heap.size) w3 (.slice a n c) L := fun w3 w2 po g hq => by
    refine (hrd.out w2 g).heap (fun b hb hl => ?_)
    exact hq.1.2.2.2.2 b hl (fun e => by have := g.size; omega)
  replace main := Lib.hid main
  have key : n ≤ 4000 ∨ 4000 < n := by omega
  have hA := fun w => tawake_any w
  obtain ⟨nk, hnk⟩ : ∃ k, k = (newAll L).1 := ⟨_, rfl⟩
  obtain ⟨ne, hne⟩ : ∃ k, k = (newAll L).2 := ⟨_, rfl⟩
  rw [← hnk, ← hne] at hnew hck
  rw [← hne] at main
  replace hnk := Lib.hid hnk
  replace hne := Lib.hid hne
  go_enter Try.func3, Try.ntmps3
  go_wp2_with (go_at_call 7; refine (hA _).mono ?_; rintro e w1 ⟨rfl, g1⟩)
  refine (hfw _ g1).mono ?_
  rintro e w2 ⟨b, rfl, g2⟩
  have gW2 := g1.trans g2
  have hnw := hnew _ gW2
  clear hA hfw hnew
  have hbad : ∀ po w3, NewQ w2 L ne po w3 → W.grownBy w3 none := fun po w3 hq => by
    have := hq.1
    exact gW2.trans (this.grownB (fun k h => h))
  by_cases hz : ne = 0
  · have hgd := new_good (by rw [← hne.out]; exact hz)
    subst hz
    have hn4 : n ≤ 4000 := by rw [hn.out]; exact hgd.1
    have hgood := Lib.hid hgd.2
    clear hgd key
    cases b
    · clear hck hnw hbad main
      go_wp2_with fail
      go_ret
      exact ⟨rfl, finish.out _ gW2⟩
    replace hbad := Lib.hid hbad
    have hpo : ∀ po w3, NewQ w2 L 0 po w3 → ∃ t rt ve nd mp, po = some ⟨t, 0, none⟩ ∧ Hid (TrieAt (fun k => w2.heap.size ≤ k) w3 t L 0 rt ve nd mp) := fun po w3 hq => by
      rcases hq.2 with ⟨_, h⟩ | ⟨h, _⟩
      · exact h
      · exact absurd rfl h
    replace hpo := Lib.hid hpo
    go_wp2_with first
      | (go_at_call 9; refine hnw.mono ?_; rintro e w3 ⟨po, rfl, hq⟩; have hr3 := main.out _ _ _ gW2 hq; have gW3 := hbad.out _ _ hq; have hc3 := hck _ hr3; obtain ⟨t, rt, ve, nd, mp, rfl, hT3⟩ := hpo.out po w3 hq; clear hq hck hnw)
      | (go_at_call 10; refine hc3.mono ?_; rintro e w4 ⟨rfl, g4⟩; have hT4 := Lib.hid (hT3.out.new g4); have hln := trie_len hT4.out; rw [← hn.out] at hln; clear hc3 hT3)
      | (go_at_call 11; refine hln.mono ?_; rintro e w5 ⟨rfl, rfl⟩; clear hln)
    have hr4 := Lib.hid (hr3.new g4)
    have gW4 := Lib.hid (gW3.trans g4)
    clear hr3 gW3 hpo hbad main
    have htq := hT4.out.tq
    go_loopw [58] (fun vi wr => ∃ i : Nat, vi = .int .i64 (i : Int) ∧ i ≤ n ∧ Hid (TrieAt (fun k => w2.heap.size ≤ k) wr t L (2 * (i : Int)) rt ve nd mp) ∧ Hid (W.grownBy wr none) ∧ Hid (EntsR (fun k => k < W.heap.size) wr (.slice a n c) L)) (fun vi _ => n - (RowKit.intOf vi).toNat)
    case atStart => exact ⟨0, rfl, Nat.zero_le _, Lib.hid (by simpa using hT4.out), gW4, hr4⟩
    case round =>
      obtain ⟨i, rfl, hi1, hT, hG, hR⟩ := hrel
      by_cases hlt : i < n
      · have hltz : (i : Int) < (n : Int) := by omega
        obtain ⟨x, hx⟩ : ∃ x, L[i]? = some x := ⟨_, List.getElem?_eq_getElem (by have := hn.out; omega)⟩
        have hxm := List.mem_of_getElem? hx
        have hfi := hgood.out.find hxm
        have hla := hgood.out.last hxm
        have hfine := ent_fine (hgood.out.ent x hxm)
        obtain ⟨b, off, vc, ve0, rfl, _, c0, c1, hE⟩ := ents_get (c := c) hR.out hx
        obtain ⟨xa, xc, hvc, hxc1, hxc2⟩ := hE.1.form
        obtain ⟨ya, yc, hve, hyc1, hyc2⟩ := hE.2.form
        have gB := World.grownBy_alloc wr (.cells #[vc, ve0] 35) none
        have eB : Two (wr.alloc (.cells #[vc, ve0] 35)) wr.heap.size vc ve0 := World.alloc_heap_new wr _
        obtain ⟨V, hV⟩ : ∃ V, V = wr.alloc (.cells #[vc, ve0] 35) := ⟨_, rfl⟩
        rw [← hV] at gB eB
        have hTV := hT.out.new gB
        have htl := hT.out.tr.lt
        have hGV := hG.out.trans gB
        have hWt : W.heap.size ≤ t := Nat.le_trans gW2.size htq
        have hget := get_some (P := fun k => k < W.heap.size) vc x.codes x V hTV (hE.1.new gB) (fun k hk => by omega) (by omega) (by omega) hfi (by omega)
        have hE1 := hE.1.new gB
        have hE2 := hE.2.new gB
        have hEk : ∀ w', V.grownBy w' (some t) → SR (fun k => k < W.heap.size) 1 w' vc x.codes.length (rc x.codes) ∧ SR (fun k => k < W.heap.size) 4 w' ve0 x.els.length (ec x.els) := fun w' g =>
          ⟨hE1.heap (fun k hk hl => g.block k hl (fun e => by cases e; omega)), hE2.heap (fun k hk hl => g.block k hl (fun e => by cases e; omega))⟩
        have hlo := fun w5 (g : V.grownBy w5 (some t)) (T : TrieAt (fun k => w2.heap.size ≤ k) w5 t L (2 * (i : Int) + 1) rt ve nd mp) => longest_some (P := fun k => k < W.heap.size) vc x.codes x w5 T (hEk w5 g).1 (fun k hk => by omega) (by omega) (by omega) hla (by omega)
        have hbx : ∀ w', V.grownBy w' (some t) → w'.cell? ⟨wr.heap.size, 0, none⟩ = some vc ∧ w'.cell? ⟨wr.heap.size, 1, none⟩ = some ve0 := fun w' g => by
          have e := eB.kept g (by simp; omega)
          exact ⟨e.c0, e.c1⟩
        have hsm := fun w' (g : V.grownBy w' (some t)) va Pv (h : SR Pv 4 w' va x.els.length (ec x.els)) => same_any Pv _ va ve0 x.els x.els w' h (hEk w' g).2
        have hdec : decide (x.els = x.els) = true := by simp
        rw [hdec] at hsm
        have hE1 := Lib.hid hE1
        rw [hvc, hve] at hV hbx
        rw [hvc] at c0 hget hlo
        rw [hve] at c1 hsm
        obtain ⟨d0, d1⟩ := hbx V (World.grownBy.refl _ _)
        obtain ⟨nc, hnc⟩ : ∃ k, k = x.codes.length := ⟨_, rfl⟩
        obtain ⟨ne, hnee⟩ : ∃ k, k = x.els.length := ⟨_, rfl⟩
        rw [← hnc] at hV c0 hxc1
        rw [← hnee] at hV c1 hyc1
        simp only [← hnc, ← hnee] at hbx hget hlo hsm
        rw [← hnc] at d0
        rw [← hnee] at d1
        have hncle : nc ≤ 8 := by rw [hnc]; exact hfine.2.1
        replace hnc := Lib.hid hnc
        replace hnee := Lib.hid hnee
        have hts := hTV.tr.lt
        replace hTV := Lib.hid hTV
        replace hbx := Lib.hid hbx
        replace hGV := Lib.hid hGV
        clear hx hxm hfi hla hfine hE hE2 hEk eB gB hvc hve hdec
        go_wp2_with fail
        rw [← hV]
        clear hV c0 c1
        go_wp2_with fail
        refine hget.mono ?_
        clear hget d0 d1
        rintro e w5 ⟨a5, rfl, o5, T5, g5⟩
        obtain ⟨d0, d1⟩ := hbx.out w5 g5
        have hl5 := hlo w5 g5 T5
        replace T5 := Lib.hid T5
        go_wp2_with fail
        refine hl5.mono ?_
        clear hl5 hlo d0 d1
        rintro e w6 ⟨a6, rfl, o6, T6, g6⟩
        have g56 := g5.trans g6
        obtain ⟨d0, d1⟩ := hbx.out w6 g56
        have r5 := (o5.heap (w' := w6) (fun k cur hk hb => g6.block k (lt_of_block hb) (fun e => by cases e; omega))).reads
        have s5 := hsm w6 g56 _ _ r5
        have r6 := fun w' (g : w6.grownBy w' none) => (o6.new g).reads
        have s6 := fun w' (g : w6.grownBy w' none) => hsm w' (g56.trans (gbut' g)) _ _ (r6 w' g)
        have hbx6 := fun w' (g : w6.grownBy w' none) => hbx.out w' (g56.trans (gbut' g))
        have hTF : ∀ w', w6.grownBy w' none → Hid (TrieAt (fun k => w2.heap.size ≤ k) w' t L (2 * (((i + 1 : Nat) : Int))) rt ve nd mp) ∧ Hid (W.grownBy w' none) ∧ Hid (EntsR (fun k => k < W.heap.size) w' (.slice (some ⟨b, off, none⟩) n c) L) := fun w' g => by
          have gVw : V.grownBy w' (some t) := g56.trans (gbut' g)
          refine ⟨Lib.hid ?_, Lib.hid (gnew hGV.out gVw (fun r e => by cases e; left; omega)), Lib.hid ?_⟩
          · have := T6.new g
            rwa [show 2 * (i : Int) + 1 + 1 = 2 * ((i + 1 : Nat) : Int) by omega] at this
          · exact hrd.out w' (gnew hGV.out gVw (fun r e => by cases e; left; omega))
        replace hTF := Lib.hid hTF
        replace hbx6 := Lib.hid hbx6
        clear hsm r5 r6 o5 o6 T6 g5 g6 g56 hbx
        go_wp2_with first
          | (go_at_call_of 14 (Value.slice a5 ne ne); refine s5.mono ?_; clear s5; rintro e w7 ⟨rfl, g7⟩; obtain ⟨d2, d3⟩ := hbx6.out w7 g7; have s7 := s6 w7 g7; clear s6)
          | (go_at_call_of 14 (Value.slice a6 ne ne); refine s7.mono ?_; clear s7; rintro e w8 ⟨rfl, g8⟩; obtain ⟨t1, t2, t3⟩ := hTF.out w8 (g7.trans g8))
        exact ⟨⟨i + 1, by go_num, by omega, t1, t2, t3⟩, by simp [RowKit.intOf]; omega⟩
      · obtain rfl : n = i := by omega
        have hask := asked_made _ _ _ _ _ hT.out.tr
        go_wp2_with (go_at_call 15; refine hask.mono ?_; rintro e w6 ⟨rfl, rfl⟩)
        go_ret
        exact ⟨by first | rfl | simp, finish.out _ hG.out⟩
  · have hneb : (ne != 0) = true := by simpa using hz
    replace hz := Lib.hid hz
    have hpo : ∀ po w3, NewQ w2 L ne po w3 → po = none := fun po w3 hq => by
      rcases hq.2 with ⟨h, _⟩ | ⟨_, h⟩
      · exact absurd h hz.out
      · exact h
    replace hpo := Lib.hid hpo
    replace hbad := Lib.hid hbad
    cases b
    all_goals rcases key with hk | hk
    all_goals
      go_wp2_with first
        | (go_at_call 9; refine hnw.mono ?_; rintro e w3 ⟨po, rfl, hq⟩; obtain rfl := hpo.out po w3 hq; have hr3 := main.out _ _ _ gW2 hq; have gW3 := hbad.out _ _ hq; have hc3 := hck _ hr3)
        | (go_at_call 10; refine hc3.mono ?_; rintro e w4 ⟨rfl, g4⟩)
      go_ret
      first
        | exact ⟨rfl, finish.out _ gW2⟩
        | exact ⟨rfl, finish.out _ (gW3.trans g4)⟩
end Go.Proofs.Ytlnplompnabmlaa

/-
  LAYER 9 (trie): what the law TrieEach leans on: Each and Under of a made trie, their iterators, the reference's Same of entries.
-/
namespace Go.Proofs.Ytlnplompnabmlaa
set_option maxRecDepth 100000
open Go.RowKit Go.Lib
attribute [local go_sem] Oper.semAt_some

theorem TrieAt.weak {Q Q' : Nat → Prop} {w : World} {t : Nat} {L : List Ent} {n : Int} {rt : Nat} {ve : Value} {nd mp : List Int → Option Nat} (h : TrieAt Q w t L n rt ve nd mp) (hQ : ∀ k, Q k → Q' k) : TrieAt Q' w t L n rt ve nd mp :=
  { tr := h.tr
    tq := hQ _ h.tq
    root := h.root
    tree := { h.tree with
      node := fun p b e => ⟨hQ _ (h.tree.node p b e).1, (h.tree.node p b e).2⟩
      kids := fun p m e => ⟨hQ _ (h.tree.kids p m e).1, (h.tree.kids p m e).2⟩ }
    dom := h.dom
    ents := by
      obtain ⟨vs, h1, h2, h3, h4⟩ := h.ents
      exact ⟨vs, h1, h2, fun k e => hQ _ (h3 k e), fun i x p q1 q2 => ⟨(h4 i x p q1 q2).1.weak hQ, (h4 i x p q1 q2).2.weak hQ⟩⟩ }

/-- An entry's cells in a row of entries. -/
theorem ents_both {P : Nat → Prop} {w : World} {a : Option Addr} {n c : Nat} {L : List Ent} (h : EntsR P w (.slice a n c) L) {i : Nat} {x : Ent} (hx : L[i]? = some x) :
    ∃ b off a1 c1 a2 c2, a = some ⟨b, off, none⟩ ∧ w.cell? ⟨b, off + i * 2, none⟩ = some (.slice a1 x.codes.length c1) ∧ w.cell? ⟨b, off + i * 2 + 1, none⟩ = some (.slice a2 x.els.length c2) ∧ EntR P w (.slice a1 x.codes.length c1) (.slice a2 x.els.length c2) x := by
  obtain ⟨vs, h1, h2, h3⟩ := h
  have hi : i < L.length := (List.getElem?_eq_some_iff.1 hx).1
  obtain ⟨b, off, q1, _, q3⟩ := h2.get (i := i) hi
  obtain ⟨pv, hpv⟩ : ∃ pv, vs[i]? = some pv := ⟨_, List.getElem?_eq_getElem (by omega)⟩
  obtain ⟨u, hu, hc⟩ := q3 0 (by omega)
  obtain ⟨u', hu', hc'⟩ := q3 1 (by omega)
  have he := h3 i x pv hx hpv
  obtain ⟨p1, p2⟩ := pc_at vs i pv hpv
  rw [Nat.add_zero] at hu hc
  rw [p1] at hu
  rw [p2] at hu'
  cases hu
  cases hu'
  obtain ⟨a1, c1, e, _⟩ := he.1.form
  obtain ⟨a2, c2, e', _⟩ := he.2.form
  rw [e, e'] at he
  rw [e] at hc
  rw [e'] at hc'
  exact ⟨b, off, a1, c1, a2, c2, q1, hc, hc', he⟩

theorem ent_bounds {x : Ent} (h : entErr x = 0) : x.codes.length ≤ 8 ∧ x.els.length ≤ 16 := by
  unfold entErr at h
  split at h
  · cases h
  · rename_i h1
    split at h
    · cases h
    · simp only [not_or] at h1
      omega

theorem fromOk_made {Q : Nat → Prop} {w : World} {t : Nat} {L : List Ent} {n : Int} {rt : Nat} {ve : Value} {nd mp : List Int → Option Nat} (h : TrieAt Q w t L n rt ve nd mp) (hg : Good L) (hlen : L.length ≤ 4000)
    {O : List Nat} (hO : Strict (codesAt (L.map (·.codes))) O) (hm : ∀ i, i ∈ O ↔ i < L.length) (p : List Int) (Z0 : Nat → Prop) (hQ : ∀ k, Q k → Z0 k) (q3 q2 : Nat) (k0 : Nat) (hk : 9 ≤ k0)
    (hb : Box w q3 55 (ptrV (nd p))) (hq : Box w q2 25 (.pointer (some ⟨t, 0, none⟩))) (hz3 : Z0 q3) (hz2 : Z0 q2) : FromOk L (numsU (L.map (·.codes)) O p) k0 Z0 q3 q2 w := by
  intro w' Z0' hz hs
  have hb' := hb.zk hz hz3
  have hq' := hq.zk hz hz2
  have hT := (h.weak hQ).heap (w' := w') (fun k hk hl => hz.2 k hl hk)
  have hT' := hT.weak hs
  have hd : ∀ p, nd p ≠ none ↔ p = [] ∨ ∃ x ∈ L.map (·.codes), p <+: x := fun p => by
    rw [h.dom p]
    simp only [List.mem_map]
    constructor
    · rintro (e | ⟨x, h1, h2⟩)
      · exact .inl e
      · exact .inr ⟨_, ⟨x, h1, rfl⟩, h2⟩
    · rintro (e | ⟨_, ⟨x, h1, rfl⟩, h2⟩)
      · exact .inl e
      · exact .inr ⟨x, h1, h2⟩
  have hmL : ∀ i, i ∈ O ↔ i < (L.map (·.codes)).length := fun i => by rw [hm, List.length_map]
  cases hp : nd p with
  | none =>
    rw [hp] at hb'
    have he : numsU (L.map (·.codes)) O p = [] := by
      unfold numsU
      rw [List.map_eq_nil_iff]
      unfold underL
      rw [List.filter_eq_nil_iff]
      intro i hi hpre
      have hl := (hmL i).1 hi
      have hc : codesAt (L.map (·.codes)) i ∈ L.map (·.codes) := by
        unfold codesAt
        rw [List.getElem?_eq_getElem hl]
        exact List.getElem_mem hl
      exact (hd p).2 (.inr ⟨_, hc, List.isPrefixOf_iff_prefix.1 hpre⟩) hp
    rw [he]
    have hN := from1_none (k0 + 3) q3 q2 Z0' w' hb' (hs _ hz3)
    intro l J Jx W Z y1 y2 y3 y4 y5 y6 y7 y8 y9
    refine (hN l J Jx W Z y1 y2 y3 y4 y5 y6 y7 (fun _ _ _ _ _ _ _ h => h.elim) y9).mono ?_
    rintro e W' ⟨h1, Z', h2, h3, h4⟩
    refine ⟨h1, Z', h2, h3, ?_⟩
    rcases h4 with ⟨xs, h5, h6⟩ | ⟨pre, h5, _⟩
    · have h5' : xs = [] := h5
      subst h5'
      exact .inl ⟨[], rfl, h6⟩
    · exact h5.elim
  | some b =>
    rw [hp] at hb'
    refine from1_made L _ b k0 t n rt ve nd mp (fun nb' w2 Z2 g1 g2 g3 g4 => ?_) (fun m hmm => by
      obtain ⟨i, e, hi⟩ := numsU_mem hmL hmm
      exact ⟨i, e, by simpa using hi⟩) (fun x hx => by have := ent_bounds (hg.ent x hx); omega) Z0' q3 q2 w' hT' hb' hq' (hs _ hz3) (hs _ hz2)
    exact numbers1_all nd mp (nmL L) (numsU (L.map (·.codes)) O) (fun p kl _ hkl => nums_step hg.nd hO hmL hd p kl hkl) (fun p kl _ hkl => by have := kids_few hd hkl; simp at this; omega) k0 p b nb' w2 Z2 hp
      (fun q hq => by
        have := path_short hd (fun x hx => by
          obtain ⟨y, hy, rfl⟩ := List.mem_map.1 hx
          exact (ent_bounds (hg.ent y hy)).1) hq
        simp at this
        omega) g1 g2 g3 g4

theorem each_any {Q : Nat → Prop} {w : World} {t : Nat} {L : List Ent} {n : Int} {rt : Nat} {ve : Value} {nd mp : List Int → Option Nat} (h : TrieAt Q w t L n rt ve nd mp) :
    Calls Try.prog 20 #[.pointer (some ⟨t, 0, none⟩)] w fun e w' => ∃ q3 q2, e = .returned (.func (.func 49) #[] #[.pointer (some ⟨q3, 0, none⟩), .pointer (some ⟨q2, 0, none⟩)]) ∧
      Box w' q3 55 (ptrV (nd [])) ∧ Box w' q2 25 (.pointer (some ⟨t, 0, none⟩)) ∧ w.grownBy w' none := by
  have hF := find_any Q (fun _ => True) t L n rt ve nd mp (.slice none 0 0) [] w h (SR.nil _ _ _)
  obtain ⟨po, hpo⟩ : ∃ po, ptrV (nd []) = .pointer po := by cases nd [] <;> exact ⟨_, rfl⟩
  rw [hpo] at hF ⊢
  clear hpo h
  go_enter Try.func20, Try.ntmps20
  go_wp2_with first
    | (go_at_call 32; refine hF.mono ?_; clear hF; rintro e w1 ⟨rfl, g1⟩)
    | (go_at_call 39; refine (from_any _ _ _).mono ?_; rintro e w2 ⟨rfl, e3, e2, g2, s2⟩; clear s2)
  go_ret
  exact ⟨_, _, rfl, e3, e2, g1.trans g2⟩

theorem under_any {Q P : Nat → Prop} {w : World} {t : Nat} {L : List Ent} {n : Int} {rt : Nat} {ve : Value} {nd mp : List Int → Option Nat} (h : TrieAt Q w t L n rt ve nd mp) (v : Value) (l : List Int) (hv : SR P 1 w v l.length (rc l)) :
    Calls Try.prog 21 #[.pointer (some ⟨t, 0, none⟩), v] w fun e w' => ∃ eb q3 q2, e = .returned (.func (.func 40) #[] #[.pointer (some ⟨eb, 0, none⟩)]) ∧
      Box w' eb 46 (.func (.func 49) #[] #[.pointer (some ⟨q3, 0, none⟩), .pointer (some ⟨q2, 0, none⟩)]) ∧ Box w' q3 55 (ptrV (nd l)) ∧ Box w' q2 25 (.pointer (some ⟨t, 0, none⟩)) ∧ w.grownBy w' none := by
  have hF := find_any Q P t L n rt ve nd mp v l w h hv
  obtain ⟨a, c, rfl, _⟩ := hv.form
  obtain ⟨po, hpo⟩ : ∃ po, ptrV (nd l) = .pointer po := by cases nd l <;> exact ⟨_, rfl⟩
  rw [hpo] at hF ⊢
  clear hpo h hv
  generalize l.length = m at *
  go_enter Try.func21, Try.ntmps21
  go_wp2_with first
    | (go_at_call 32; refine hF.mono ?_; clear hF; rintro e w1 ⟨rfl, g1⟩)
    | (go_at_call 39; refine (from_any _ _ _).mono ?_; rintro e w2 ⟨rfl, e3, e2, g2, s2⟩; clear s2)
  have g3 := World.grownBy_alloc w2 (.cells #[.func (.func 49) #[] #[.pointer (some ⟨w1.heap.size + 1, 0, none⟩), .pointer (some ⟨w1.heap.size, 0, none⟩)]] 46) none
  have e4 : Box (w2.alloc (.cells #[.func (.func 49) #[] #[.pointer (some ⟨w1.heap.size + 1, 0, none⟩), .pointer (some ⟨w1.heap.size, 0, none⟩)]] 46)) w2.heap.size 46 _ := World.alloc_heap_new w2 _
  go_ret
  exact ⟨_, _, _, rfl, e4, e3.new g3, e2.new g3, (g1.trans g2).trans g3⟩

set_option maxHeartbeats 2000000 in
theorem rSameE_any (P P' : Nat → Prop) (va ve vb vf : Value) (x : Ent) (w : World) (h1 : EntR P w va ve x) (h2 : EntR P' w vb vf x) :
    Calls Try.prog 23 #[.agg #[va, ve], .agg #[vb, vf]] w fun e w' => e = .returned (.bool true) ∧ w.grownBy w' none := by
  have gA := World.grownBy_alloc w (.cells #[va, ve] 35) none
  have eA : Two (w.alloc (.cells #[va, ve] 35)) w.heap.size va ve := World.alloc_heap_new w _
  obtain ⟨W0, hW0⟩ : ∃ W0, W0 = w.alloc (.cells #[va, ve] 35) := ⟨_, rfl⟩
  rw [← hW0] at gA eA
  have sA : W0.heap.size = w.heap.size + 1 := by rw [hW0]; simp
  have gB := World.grownBy_alloc W0 (.cells #[vb, vf] 35) none
  have eB : Two (W0.alloc (.cells #[vb, vf] 35)) (w.heap.size + 1) vb vf := by rw [← sA]; exact World.alloc_heap_new W0 _
  obtain ⟨W1, hW1⟩ : ∃ W1, W1 = W0.alloc (.cells #[vb, vf] 35) := ⟨_, rfl⟩
  rw [← hW1] at gB eB
  have gW := gA.trans gB
  have eA1 := eA.new gB
  have hR : ∀ X, W1.grownBy X none → Calls Try.prog 25 #[va, vb] X fun e w' => e = .returned (.bool true) ∧ X.grownBy w' none := fun X g => by
    have := runes_any _ _ va vb x.codes x.codes X (h1.1.new (gW.trans g)) (h2.1.new (gW.trans g))
    simpa using this
  have hS : ∀ X, W1.grownBy X none → Calls Try.prog 14 #[ve, vf] X fun e w' => e = .returned (.bool true) ∧ X.grownBy w' none := fun X g => by
    have := same_any _ _ ve vf x.els x.els X (h1.2.new (gW.trans g)) (h2.2.new (gW.trans g))
    simpa using this
  obtain ⟨a1, c1, rfl, _⟩ := h1.1.form
  obtain ⟨a2, c2, rfl, _⟩ := h1.2.form
  obtain ⟨a3, c3, rfl, _⟩ := h2.1.form
  obtain ⟨a4, c4, rfl, _⟩ := h2.2.form
  generalize x.codes.length = n1 at *
  generalize x.els.length = n2 at *
  have k0 := eA1.c0
  have k3 := eB.c0
  have k1 : ∀ X, W1.grownBy X none → X.cell? ⟨w.heap.size, 1, none⟩ = some (.slice a2 n2 c2) := fun X g => (eA1.new g).c1
  have k2 : ∀ X, W1.grownBy X none → X.cell? ⟨w.heap.size + 1, 1, none⟩ = some (.slice a4 n2 c4) := fun X g => (eB.new g).c1
  replace gW := Lib.hid gW
  replace k1 := Lib.hid k1
  replace k2 := Lib.hid k2
  replace hS := Lib.hid hS
  have hR1 := hR W1 (World.grownBy.refl _ _)
  clear h1 h2 gA eA sA gB eB eA1 hR
  go_enter Try.func23, Try.ntmps23
  go_wp2_with fail
  rw [← hW0, ← hW1]
  refine hR1.mono ?_
  clear hR1
  rintro e X ⟨rfl, g1⟩
  have k4 := k1.out X g1
  have k5 := k2.out X g1
  have hS1 := hS.out X g1
  have gX := Lib.hid (gW.out.trans g1)
  go_wp2_with fail
  refine hS1.mono ?_
  clear hS1
  rintro e Y ⟨rfl, g2⟩
  go_wp2
  go_ret
  exact ⟨rfl, gX.out.trans g2⟩
end Go.Proofs.Ytlnplompnabmlaa

/-
  A RANGE OVER A FUNCTION WHOSE ROUND BREAKS AT ONCE: whether it was told something or nothing, what follows is the same. No program is named here.
-/
namespace Go.Proofs.Ytlnplompnabmlaa
set_option maxRecDepth 100000
open Go.RowKit

theorem range_break {α : Type} {F : Fence} {n : Nat} {P : Program} {g : Operand} {ps : Array Tmp} {Q : Exit → Act → World → Prop} {a : Act} {w : World} {i j : Nat} (hij : i ≠ j)
    (hro : F.round = none) (h1 : 1 ≤ n) {gf : Nat} {lb : Array Value} (hg : a.eval g = .func (.func gf) #[] lb) (hFg : F.fn gf) (eg : ∀ args w, (callFunc gf args).run P w = .ok (.enter gf args) w)
    {encs : α → Array Value} {Ok : List α → α → World → Prop} {Z0 : Nat → Prop} {S Sp : List α → World → Prop}
    (hseq : TellsZ F (n - 1) P gf lb encs Ok Z0 S Sp w) (hz0 : ∀ k, Z0 k → k < w.heap.size) (hps : ∀ x, (encs x).size = ps.size)
    (hOk : ∀ pre x A B k o, Ok pre x A → A.grownBy B (some k) → A.heap[k]? = some o → o.isCells = false → Ok pre x B)
    (hOk0 : ∀ pre x A B, Ok pre x A → A.grownBy B none → Ok pre x B)
    (K' : Act → World → Prop) (hn : ∀ a w, K' a w → Q .normal a w) (he : ∀ a w, K' a w → (Code.exit i).wpIn F n P Q a w)
    (hend : ∀ D B, w.heap.size ≤ D → w.grownBy B none → B.heap[D]? = some (.deferred (some [])) → K' { a with defers := { target := .collected D, args := #[] } :: a.defers } B) :
    (Code.rangeFunc g ps .skip (.block j (.exit i))).wpIn F n P Q a w := by
  refine range_tellsZ1 hro h1 hg hFg eg hseq hz0 hps hOk (fun _ _ A => w.grownBy A none) (fun c _ _ A => c = .exit i ∧ w.grownBy A none) (fun _ _ _ h => h.size) ?_ ?_ (World.grownBy.refl _ _) (fun x => { tmps := (ps.zip (encs x)).foldl (fun t (p, v) => t.setIfInBounds p v) a.tmps, defers := [] }) hOk0 (fun _ _ _ _ h => wpIn_skip h) ?_ ?_ ?_
  · exact ⟨fun _ _ _ _ _ h g _ _ => h.trans g, fun _ _ _ _ q h _ h1 g => gnew h g (fun r e => by cases e; left; omega)⟩
  · exact fun c => ⟨fun _ _ _ _ _ h g _ _ => ⟨h.1, h.2.trans g⟩, fun _ _ _ _ q h _ h1 g => ⟨h.1, gnew h.2 g (fun r e => by cases e; left; omega)⟩⟩
  · intro l Z pre x W hz hzl hI hOk' hs
    have : roundLeftZ Z (fun _ _ A => w.grownBy A none) (fun c _ _ A => c = .exit i ∧ w.grownBy A none) (pre ++ [x]) W (.exit i) (({ tmps := (ps.zip (encs x)).foldl (fun t (p, v) => t.setIfInBounds p v) a.tmps, defers := [] } : Act)) W := ⟨ZK.refl _ _, rfl, hI⟩
    refine wpIn_block (wpIn_exit ?_)
    simp only [Exit.inBlock, if_neg hij]
    exact this
  · intro D Z xs W W' hD hZD hz hzl hS hI hgr hM
    exact hn _ _ (hend D W' hD hI hM)
  · rintro D c Z pre W W' hD hZD hz hzl hS ⟨rfl, hI⟩ hgr hM
    exact he _ _ (hend D W' hD hI hM)

/-- A range whose variable lies in a block of its own: fr the frame of a round, T what that block holds. -/
theorem range_tellsZB {α : Type} {F : Fence} {n : Nat} {P : Program} {g : Operand} {ps : Array Tmp} {assign body : Code} {Q : Exit → Act → World → Prop} {a : Act} {w : World}
    (hro : F.round = none) (h1 : 1 ≤ n) {gf : Nat} {lb : Array Value} (hg : a.eval g = .func (.func gf) #[] lb) (hFg : F.fn gf) (eg : ∀ args w, (callFunc gf args).run P w = .ok (.enter gf args) w)
    {encs : α → Array Value} {Ok : List α → α → World → Prop} {Z0 : Nat → Prop} {S Sp : List α → World → Prop}
    (hseq : TellsZ F (n - 1) P gf lb encs Ok Z0 S Sp w) (hz0 : ∀ k, Z0 k → k < w.heap.size) (hps : ∀ x, (encs x).size = ps.size)
    (hOk : ∀ pre x A B k o, Ok pre x A → A.grownBy B (some k) → A.heap[k]? = some o → o.isCells = false → Ok pre x B)
    (I : (Nat → Prop) → List α → World → Prop) (Ix : Code → (Nat → Prop) → List α → World → Prop) (hn : ∀ Z s A, I Z s A → w.heap.size ≤ A.heap.size)
    (hI : Tame w.heap.size I) (hIx : ∀ c, Tame w.heap.size (Ix c))
    (h0 : I Z0 [] w) (fr : α → Nat → Act) (T : α → Nat → World → Prop)
    (hOk0 : ∀ pre x A B, Ok pre x A → A.grownBy B none → Ok pre x B)
    (hT : ∀ x bx A B k o, T x bx A → A.grownBy B (some k) → A.heap[k]? = some o → o.isCells = false → T x bx B)
    (hassign : ∀ (l : Nat) (x : α) (W : World) (K : Act → World → Prop), (∀ bx W', W.grownBy W' none → T x bx W' → K (fr x bx) W') →
      assign.wpIn (F.inRound l) (n - 1 - 1) P (Exit.then K (fun _ _ _ => False)) { tmps := (ps.zip (encs x)).foldl (fun t (p, v) => t.setIfInBounds p v) a.tmps, defers := [] } W)
    (hbody : ∀ (l : Nat) (Z : Nat → Prop) (pre : List α) (x : α) (bx : Nat) (W : World), (∀ k, Z0 k → Z k) → (∀ k, Z k → k < W.heap.size) → I Z pre W → Ok pre x W → T x bx W → w.heap.size ≤ W.heap.size → body.wpIn (F.inRound l) (n - 1 - 1) P (roundLeftZ Z I Ix (pre ++ [x]) W) (fr x bx) W)
    (hdone : ∀ (D : Nat) (Z : Nat → Prop) (xs : List α) (W W' : World), w.heap.size ≤ D → Z D → (∀ k, Z0 k → Z k) → (∀ k, Z k → k < W'.heap.size) → S xs W → I Z xs W' → W.grownBy W' (some (D + 1)) → W'.heap[D]? = some (.deferred (some [])) → Q .normal { a with defers := { target := .collected D, args := #[] } :: a.defers } W')
    (hstop : ∀ (D : Nat) (c : Code) (Z : Nat → Prop) (pre : List α) (W W' : World), w.heap.size ≤ D → Z D → (∀ k, Z0 k → Z k) → (∀ k, Z k → k < W'.heap.size) → Sp pre W → Ix c Z pre W' → W.grownBy W' (some (D + 1)) → W'.heap[D]? = some (.deferred (some [])) → c.wpIn F n P Q { a with defers := { target := .collected D, args := #[] } :: a.defers } W') :
    (Code.rangeFunc g ps assign body).wpIn F n P Q a w :=
  range_tellsZ hro h1 hg hFg eg hseq hz0 hps hOk I Ix hn hI hIx h0 (fun x a' A => ∃ bx, a' = fr x bx ∧ T x bx A) hOk0
    (fun x a' A B k o h g ho hc => by
      obtain ⟨bx, e, h2⟩ := h
      exact ⟨bx, e, hT x bx A B k o h2 g ho hc⟩)
    (fun l x W K hK => hassign l x W K (fun bx W' hg hT' => hK _ _ hg ⟨bx, rfl, hT'⟩)) (fun l Z pre x a' W q1 q2 q3 q4 q5 q6 => by
      obtain ⟨bx, rfl, h2⟩ := q5
      exact hbody l Z pre x bx W q1 q2 q3 q4 h2 q6) hdone hstop
end Go.Proofs.Ytlnplompnabmlaa
