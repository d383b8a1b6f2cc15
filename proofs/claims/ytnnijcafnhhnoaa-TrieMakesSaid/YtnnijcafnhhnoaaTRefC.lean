/-
  LAYER 9 (trie): the reference's Check.
-/
import Derived.Test.YtnnijcafnhhnoaaTNew
import Derived.Test.YtnnijcafnhhnoaaTRunes
import Derived.Test.YtnnijcafnhhnoaaWCheckR
import Derived.Test.YtnnijcafnhhnoaaUEncP
import Derived.Laws.MakeOwn
namespace Go.Proofs.Ytnnijcafnhhnoaa
set_option maxRecDepth 100000
open Go.RowKit Go.Lib
attribute [local go_sem] Oper.semAt_some

theorem scal_eq (r : Int) : U.scalar r = scal r := by
  unfold scal U.scalar
  simp only [Bool.decide_or, Bool.decide_and]
def encB (l : List Int) : ByteArray := ⟨(U.enc l).toArray⟩
theorem encB_inj {a b : List Int} (ha : a.all scal = true) (hb : b.all scal = true) (h : encB a = encB b) : a = b := by
  have h2 : U.enc a = U.enc b := by
    have := congrArg (fun s => s.data.toList) h
    simpa [encB] using this
  have hA : U.allSc a := fun r hr => by rw [scal_eq]; exact List.all_eq_true.1 ha r hr
  have hB : U.allSc b := fun r hr => by rw [scal_eq]; exact List.all_eq_true.1 hb r hr
  rw [← (U.enc_back a hA).1, h2, (U.enc_back b hB).1]
theorem encB_beq {a b : List Int} (ha : a.all scal = true) (hb : b.all scal = true) : ((encB a).toList == (encB b).toList) = decide (a = b) := by
  by_cases h : a = b
  · subst h; simp
  · have : encB a ≠ encB b := fun e => h (encB_inj ha hb e)
    have h3 : (encB a).toList ≠ (encB b).toList := fun e => this (by
      rw [ByteArray.toList_eq, ByteArray.toList_eq] at e
      unfold encB at e ⊢
      simp at e
      rw [e])
    simp [h, h3]
theorem conv_codes {P : Nat → Prop} {w : World} {v : Value} {l : List Int} (h : SR P 1 w v l.length (rc l)) (hs : l.all scal = true) : (convert 32 9 v).run Try.prog w = .ok (.string (encB l)) w := by
  have hA : U.allSc l := fun r hr => by rw [scal_eq]; exact List.all_eq_true.1 hs r hr
  obtain ⟨a, c, rfl, _⟩ := h.form
  cases a with
  | none =>
    have hl : l = [] := by
      cases l with
      | nil => rfl
      | cons x t =>
        obtain ⟨b, off, e, _⟩ := rc_get h (i := 0) rfl
        cases e
    subst hl
    rw [run_convert_runes_nil w 32 9 21 _ _ Try.underlying32 Try.underlying21 Try.underlying9]
    rfl
  | some ad =>
    rw [run_convert_runes w 32 9 21 ad l.length c l (Nat.le_refl _) Try.underlying32 Try.underlying21 Try.underlying9 ?_, List.take_length, U.runesBytes_enc l hA]
    · rfl
    intro j hj
    obtain ⟨b, off, e, _, hc⟩ := rc_get h (List.getElem?_eq_getElem hj)
    simp only [Option.some.injEq] at e
    subst e
    rw [addr_add, hc]
    simp [List.getD_eq_getElem?_getD, List.getElem?_eq_getElem hj]
theorem infoStr : (Try.prog.info? 9).map (fun i => (i.zero, i.size, i.bytes)) = some (some (.string ⟨#[]⟩), 1, 16) := by kernel_rfl
theorem infoStr_parts : ∃ i0 : TypeInfo, Try.prog.info? 9 = some i0 ∧ i0.zero = some (.string ⟨#[]⟩) ∧ i0.size = 1 ∧ i0.bytes = 16 := by
  have h := infoStr
  cases hi : Try.prog.info? 9 with
  | none => rw [hi] at h; cases h
  | some i =>
    rw [hi] at h
    simp only [Option.map_some, Option.some.injEq, Prod.mk.injEq] at h
    exact ⟨i, rfl, h.1, h.2.1, h.2.2⟩
def seenC (L : List Ent) : List Value := L.map fun x => .string (encB x.codes)

theorem res_err {L : List Ent} {i ra : Nat} {re e : Int} {x : Ent} {rest : List Ent} (h : (ra, re) = newRes (L.take i) (x :: rest)) (hl : (L.take i).length = i) (ha : addErr (L.take i) x = e) (he : e ≠ 0) : ra = i ∧ re = e := by
  rw [newRes, ha, if_neg he, hl] at h
  simpa using h
theorem ae_len {L : List Ent} {x : Ent} (h : x.codes.length = 0 ∨ 8 < x.codes.length) : addErr L x = 90 := by
  have e : entErr x = 90 := by unfold entErr; rw [if_pos (by rcases h with h | h; exact .inl h; exact .inr (.inl h))]
  unfold addErr
  rw [e, if_pos (by decide)]
theorem ae_scal {L : List Ent} {x : Ent} (h : x.codes.all scal = false) : addErr L x = 90 := by
  have e : entErr x = 90 := by unfold entErr; rw [if_pos (.inr (.inr h))]
  unfold addErr
  rw [e, if_pos (by decide)]
theorem ae_els {L : List Ent} {x : Ent} (h0 : x.codes.length ≠ 0) (h8 : ¬ 8 < x.codes.length) (hs : x.codes.all scal = true) (h : 16 < x.els.length) : addErr L x = 2 := by
  have e : entErr x = 2 := by unfold entErr; rw [if_neg (by rintro (e | e | e); exact h0 e; exact h8 e; rw [hs] at e; cases e), if_pos h]
  unfold addErr
  rw [e, if_pos (by decide)]
theorem ae_wrong {L : List Ent} {x : Ent} (h0 : x.codes.length ≠ 0) (h8 : ¬ 8 < x.codes.length) (hs : x.codes.all scal = true) (h : ¬ 16 < x.els.length) (he : x.els.all elOk = false) : addErr L x = 70 := by
  have e : entErr x = 70 := by unfold entErr; rw [if_neg (by rintro (e | e | e); exact h0 e; exact h8 e; rw [hs] at e; cases e), if_neg h, if_pos he]
  unfold addErr
  rw [e, if_pos (by decide)]
theorem ae_fine {L : List Ent} {x : Ent} (h0 : x.codes.length ≠ 0) (h8 : ¬ 8 < x.codes.length) (hs : x.codes.all scal = true) (h : ¬ 16 < x.els.length) (he : x.els.all elOk = true) : addErr L x = if x.codes ∈ L.map (·.codes) then 91 else 0 := by
  have e : entErr x = 0 := by unfold entErr; rw [if_neg (by rintro (e | e | e); exact h0 e; exact h8 e; rw [hs] at e; cases e), if_neg h, if_neg (by rw [he]; simp)]
  unfold addErr
  rw [e, if_neg (by simp)]

set_option maxHeartbeats 16000000 in
theorem refTrie_check (P : Nat → Prop) (v : Value) (L : List Ent) (w : World) (h : EntsR P w v L) :
    Calls Try.prog 10 #[v] w fun e w' => e = .returned (.tuple #[.int .i64 ((newAll L).1 : Int), .int .i64 (newAll L).2]) ∧ w.grownBy w' none := by
  obtain ⟨a, c, rfl, hc, hm⟩ : ∃ a c, v = .slice a L.length c ∧ L.length ≤ c ∧ c ≤ maxLen := by obtain ⟨vs, _, h2, _⟩ := h; exact h2.form
  unfold maxLen at hm
  obtain ⟨ra, hra⟩ : ∃ r, r = (newAll L).1 := ⟨_, rfl⟩
  obtain ⟨re, hre⟩ : ∃ r, r = (newAll L).2 := ⟨_, rfl⟩
  rw [← hra, ← hre]
  replace h := Lib.hid h
  obtain ⟨n, hn⟩ : ∃ n, n = L.length := ⟨_, rfl⟩
  rw [← hn] at hc ⊢
  replace hn := Lib.hid hn
  by_cases hbig : 4000 < n
  · have e : newAll L = (0, 2) := by unfold newAll; rw [if_pos (by rw [← hn.out]; exact hbig)]
    rw [e] at hra hre
    dsimp only at hra hre
    subst hra hre
    clear e
    go_enter Try.func10, Try.ntmps10
    go_wp2
    go_ret2
    exact ⟨rfl, World.grownBy.refl _ _⟩
  · have e : newAll L = newRes [] L := by unfold newAll; rw [if_neg (by rw [← hn.out]; exact hbig)]
    rw [e] at hra hre
    replace hra := Lib.hid hra
    replace hre := Lib.hid hre
    clear e
    obtain ⟨i0, hi, hz0, hz1, hz2⟩ := infoStr_parts
    obtain ⟨w1, hmk, ho1, g1⟩ := run_make_own (P := Try.prog) w w.heap.size 70 9 i0 _ 1 Try.underlying70 hi hz0 hz1 .i64 .i64 n (by rw [hz2]; omega) (by unfold maxLen; omega) (Nat.le_refl _)
    replace hi := Lib.hid hi
    replace hz0 := Lib.hid hz0
    replace hz1 := Lib.hid hz1
    replace hz2 := Lib.hid hz2
    go_enter Try.func10, Try.ntmps10
    go_wp2_with fail
    clear hmk
    go_loopw [4, 22] (fun sv vi wr => ∃ i : Nat, vi = .int .i64 (i : Int) ∧ i ≤ n ∧ Hid (wr.ownsRow w.heap.size 9 1 sv i (seenC (L.take i))) ∧ Hid (∀ x ∈ L.take i, x.codes.all scal = true) ∧ Hid ((ra, re) = newRes (L.take i) (L.drop i)) ∧ Hid (w.grownBy wr none)) (fun _ vi _ => n - (RowKit.intOf vi).toNat)
    case atStart => exact ⟨0, rfl, Nat.zero_le _, Lib.hid ho1, Lib.hid (by simp), Lib.hid (by rw [hra.out, hre.out]; simp), Lib.hid g1⟩
    case round =>
      obtain ⟨i, rfl, hi1, hS, hA, hR, hG⟩ := hrel
      by_cases hlt : i < n
      · have hltz : (i : Int) < (n : Int) := by omega
        obtain ⟨x, hx⟩ : ∃ x, L[i]? = some x := ⟨_, List.getElem?_eq_getElem (by have := hn.out; omega)⟩
        have hdrop : L.drop i = x :: L.drop (i + 1) := by
          obtain ⟨hl, rfl⟩ := List.getElem?_eq_some_iff.1 hx
          exact List.drop_eq_getElem_cons hl
        have hts := Lib.hid (show L.take (i + 1) = L.take i ++ [x] by rw [List.take_add_one, hx]; rfl)
        have hR1 := hR.out
        rw [hdrop] at hR1
        have hR2 := hR1
        rw [newRes] at hR2
        replace hR1 := Lib.hid hR1
        replace hR2 := Lib.hid hR2
        have hlti : Hid ((L.take i).length = i) := Lib.hid (by rw [List.length_take]; have := hn.out; omega)
        have hrr := h.out.new hG.out
        obtain ⟨b, off, vc, ve0, rfl, _, c0, c1, hE⟩ := ents_get (c := c) hrr hx
        obtain ⟨xa, xc, hvc, hxc1, hxc2⟩ := hE.1.form
        obtain ⟨ya, yc, hve, hyc1, hyc2⟩ := hE.2.form
        have gB := World.grownBy_alloc wr (.cells #[vc, ve0] 35) none
        have eB : Two (wr.alloc (.cells #[vc, ve0] 35)) wr.heap.size vc ve0 := World.alloc_heap_new wr _
        obtain ⟨V, hV⟩ : ∃ V, V = wr.alloc (.cells #[vc, ve0] 35) := ⟨_, rfl⟩
        rw [← hV] at gB eB
        have hEc : ∀ W', V.grownBy W' none → SR P 1 W' vc x.codes.length (rc x.codes) ∧ SR P 4 W' ve0 x.els.length (ec x.els) := fun W' g => ⟨(hE.1.new gB).new g, (hE.2.new gB).new g⟩
        have hBx : ∀ W', V.grownBy W' none → W'.cell? ⟨wr.heap.size, 0, none⟩ = some vc ∧ W'.cell? ⟨wr.heap.size, 1, none⟩ = some ve0 := fun W' g => ⟨(eB.new g).c0, (eB.new g).c1⟩
        have hGV := Lib.hid (hG.out.trans gB)
        have hSV := Lib.hid (World.ownsRow.kept hS.out gB (by cases u4.ownBlock <;> simp))
        rw [hvc, hve] at hV hBx
        rw [hvc] at c0
        rw [hve] at c1
        simp only [hvc, hve] at hEc
        unfold maxLen at hxc2 hyc2
        obtain ⟨nc, hnc⟩ : ∃ nc, nc = x.codes.length := ⟨_, rfl⟩
        obtain ⟨ne, hne⟩ : ∃ ne, ne = x.els.length := ⟨_, rfl⟩
        rw [← hnc] at hV c0 hxc1
        rw [← hne] at hV c1 hyc1
        simp only [← hnc, ← hne] at hBx
        replace hnc := Lib.hid hnc
        replace hne := Lib.hid hne
        replace hEc := Lib.hid hEc
        obtain ⟨d0, d1⟩ := hBx V (World.grownBy.refl _ _)
        replace hBx := Lib.hid hBx
        clear hx hdrop hrr hE gB eB hR hvc hve hS hG
        by_cases k1 : nc = 0
        · subst k1
          obtain ⟨rfl, rfl⟩ := res_err hR1.out hlti.out (ae_len (.inl hnc.out.symm)) (by decide)
          go_wp2_with fail
          rw [← hV]
          go_wp2_with fail
          go_ret2
          exact ⟨rfl, hGV.out⟩
        have k1b : decide ((nc : Int) < 1) = false := by simp; omega
        by_cases k2 : 8 < nc
        · obtain ⟨rfl, rfl⟩ := res_err hR1.out hlti.out (ae_len (.inr (by rw [← hnc.out]; exact k2))) (by decide)
          go_wp2_with fail
          rw [← hV]
          go_wp2_with fail
          go_ret2
          exact ⟨rfl, hGV.out⟩
        have k2b : decide (8 < (nc : Int)) = false := by simp; omega
        go_wp2_with fail
        rw [← hV]
        clear hV c0 c1
        obtain ⟨sa, sc, rfl⟩ := rowForm hSV.out
        go_wp2_with fail
        go_loop [41] (fun vi => ∃ j : Nat, vi = .int .i64 (j : Int) ∧ j ≤ nc ∧ Hid (∀ k u, k < j → x.codes[k]? = some u → scal u = true)) (fun vi => nc - (RowKit.intOf vi).toNat)
        case atStart => exact ⟨0, rfl, Nat.zero_le _, Lib.hid (fun k u hk => absurd hk (by omega))⟩
        case round =>
          obtain ⟨j, rfl, hj, hJ⟩ := hrel
          by_cases hlt2 : j < nc
          · have hltz2 : (j : Int) < (nc : Int) := by omega
            obtain ⟨u, hu⟩ : ∃ u, x.codes[j]? = some u := ⟨_, List.getElem?_eq_getElem (by have := hnc.out; omega)⟩
            obtain ⟨cb, co, hxa, _, cu⟩ := rc_get ((hEc.out V (World.grownBy.refl _ _)).1) hu
            subst hxa
            have hSc := fun w => scal_ref u w
            cases hs : scal u with
            | true =>
              rw [hs] at hSc
              have hJ2 : Hid (∀ k u, k < j + 1 → x.codes[k]? = some u → scal u = true) := Lib.hid (fun k v hk hv => by
                by_cases e : k = j
                · subst e; rw [hu] at hv; cases hv; exact hs
                · exact hJ.out k v (by omega) hv)
              clear hu hs hJ
              go_wp2_with (go_at_call 28; refine (hSc _).mono ?_; rintro e w' ⟨rfl, rfl⟩)
              go_round
              case rel => exact ⟨j + 1, by go_num, by omega, hJ2⟩
              case measure => simp [RowKit.intOf]; omega
            | false =>
              rw [hs] at hSc
              have hall : x.codes.all scal = false := by
                rw [List.all_eq_false]
                exact ⟨u, List.mem_of_getElem? hu, by rw [hs]; simp⟩
              obtain ⟨rfl, rfl⟩ := res_err hR1.out hlti.out (ae_scal hall) (by decide)
              clear hu hs hJ hall
              go_wp2_with (go_at_call 28; refine (hSc _).mono ?_; rintro e w' ⟨rfl, rfl⟩)
              go_ret2
              exact ⟨rfl, hGV.out⟩
          · obtain rfl : nc = j := by omega
            have hall : x.codes.all scal = true := by
              rw [List.all_eq_true]
              intro u hu
              obtain ⟨k, hk, rfl⟩ := List.getElem_of_mem hu
              exact hJ.out k _ (by have := hnc.out; omega) (List.getElem?_eq_getElem hk)
            have h0x : x.codes.length ≠ 0 := by rw [← hnc.out]; exact k1
            have h8x : ¬ 8 < x.codes.length := by rw [← hnc.out]; exact k2
            replace h0x := Lib.hid h0x
            replace h8x := Lib.hid h8x
            replace hall := Lib.hid hall
            clear hJ hj hlt2
            by_cases k3 : 16 < ne
            · obtain ⟨rfl, rfl⟩ := res_err hR1.out hlti.out (ae_els h0x.out h8x.out hall.out (by rw [← hne.out]; exact k3)) (by decide)
              go_wp2_with fail
              go_ret2
              exact ⟨rfl, hGV.out⟩
            have k3b : decide (16 < (ne : Int)) = false := by simp; omega
            have h16x : ¬ 16 < x.els.length := by rw [← hne.out]; exact k3
            replace h16x := Lib.hid h16x
            go_wp2_with fail
            go_loopw [58] (fun vi W => ∃ j : Nat, vi = .int .i64 (j : Int) ∧ j ≤ ne ∧ Hid (∀ k u, k < j → x.els[k]? = some u → elOk u = true) ∧ Hid (V.grownBy W none)) (fun vi _ => ne - (RowKit.intOf vi).toNat)
            case atStart => exact ⟨0, rfl, Nat.zero_le _, Lib.hid (fun k u hk => absurd hk (by omega)), Lib.hid (World.grownBy.refl _ _)⟩
            case round =>
              obtain ⟨j, rfl, hj, hJ, hW⟩ := hrel
              obtain ⟨e0, e1⟩ := hBx.out wr hW.out
              by_cases hlt2 : j < ne
              · have hltz2 : (j : Int) < (ne : Int) := by omega
                obtain ⟨u, hu⟩ : ∃ u, x.els[j]? = some u := ⟨_, List.getElem?_eq_getElem (by have := hne.out; omega)⟩
                obtain ⟨cb, co, hya, _, m1, m2, m3, m4⟩ := ec_get ((hEc.out wr hW.out).2) hu
                subst hya
                have hCk := fun w => refCheck_any u w
                unfold elCheck at hCk
                have gE := World.grownBy_alloc wr (.cells #[.int .i64 u.p, .int .i64 u.s, .int .i64 u.t, .bool u.v] 66) none
                cases hs : elOk u with
                | true =>
                  rw [hs] at hCk
                  have hJ2 : Hid (∀ k u, k < j + 1 → x.els[k]? = some u → elOk u = true) := Lib.hid (fun k v hk hv => by
                    by_cases e : k = j
                    · subst e; rw [hu] at hv; cases hv; exact hs
                    · exact hJ.out k v (by omega) hv)
                  clear hu hs hJ
                  obtain ⟨up, us, ut, uv⟩ := u
                  unfold El.agg at hCk
                  dsimp only at hCk m1 m2 m3 m4 gE
                  go_wp2_with (go_at_call 29; refine (hCk _).mono ?_; rintro e w' ⟨rfl, g'⟩; have hW2 := Lib.hid ((hW.out.trans gE).trans g'))
                  exact ⟨⟨j + 1, by go_num, by omega, hJ2, hW2⟩, by simp [RowKit.intOf]; omega⟩
                | false =>
                  rw [hs] at hCk
                  have hallE : x.els.all elOk = false := by
                    rw [List.all_eq_false]
                    exact ⟨u, List.mem_of_getElem? hu, by rw [hs]; simp⟩
                  obtain ⟨rfl, rfl⟩ := res_err hR1.out hlti.out (ae_wrong h0x.out h8x.out hall.out h16x.out hallE) (by decide)
                  clear hu hs hJ hallE
                  obtain ⟨up, us, ut, uv⟩ := u
                  unfold El.agg at hCk
                  dsimp only at hCk m1 m2 m3 m4 gE
                  go_wp2_with (go_at_call 29; refine (hCk _).mono ?_; rintro e w' ⟨rfl, g'⟩; have hW2 := Lib.hid ((hW.out.trans gE).trans g'))
                  go_ret2
                  exact ⟨rfl, hGV.out.trans hW2.out⟩
              · obtain rfl : ne = j := by omega
                have hallE : x.els.all elOk = true := by
                  rw [List.all_eq_true]
                  intro u hu
                  obtain ⟨k, hk, rfl⟩ := List.getElem_of_mem hu
                  exact hJ.out k _ (by have := hne.out; omega) (List.getElem?_eq_getElem hk)
                have hae := ae_fine (L := L.take i) h0x.out h8x.out hall.out h16x.out hallE
                replace hae := Lib.hid hae
                have hcv := conv_codes ((hEc.out wr hW.out).1) hall.out
                obtain ⟨sx, hsx⟩ : ∃ s, s = encB x.codes := ⟨_, rfl⟩
                rw [← hsx, ← hnc.out] at hcv
                replace hsx := Lib.hid hsx
                have hSW := Lib.hid (World.ownsRow.kept hSV.out hW.out (by cases (Value.slice sa i sc).ownBlock <;> simp))
                clear hJ hj hlt2 hallE e0 e1
                obtain ⟨e0, e1⟩ := hBx.out wr hW.out
                go_wp2_with fail
                go_loop [72] (fun vi => ∃ j : Nat, vi = .int .i64 (j : Int) ∧ j ≤ i ∧ Hid (∀ k y, k < j → (L.take i)[k]? = some y → y.codes ≠ x.codes)) (fun vi => i - (RowKit.intOf vi).toNat)
                case atStart => exact ⟨0, rfl, Nat.zero_le _, Lib.hid (fun k u hk => absurd hk (by omega))⟩
                case round =>
                  obtain ⟨j, rfl, hj, hJ⟩ := hrel
                  by_cases hlt2 : j < i
                  · have hltz2 : (j : Int) < (i : Int) := by omega
                    obtain ⟨y, hy⟩ : ∃ y, (L.take i)[j]? = some y := ⟨_, List.getElem?_eq_getElem (by have := hlti.out; omega)⟩
                    have hys : y.codes.all scal = true := hA.out y (List.mem_of_getElem? hy)
                    have hbq := encB_beq hall.out hys
                    obtain ⟨sy, hsy⟩ : ∃ s, s = encB y.codes := ⟨_, rfl⟩
                    rw [← hsx.out, ← hsy] at hbq
                    obtain ⟨gg, hgg, cy⟩ : ∃ gg, sa = some ⟨gg, 0, none⟩ ∧ wr.cell? ⟨gg, j, none⟩ = some (.string sy) := by
                      have hr0 := hSW.out
                      obtain ⟨_, ⟨e, hz⟩ | ⟨g9, cap, cur, e, _⟩⟩ := hSW.out
                      · omega
                      · simp at e
                        obtain ⟨rfl, rfl⟩ := e
                        refine ⟨g9, rfl, ?_⟩
                        rw [World.ownsRow.cellAt hr0 j (by omega)]
                        unfold seenC
                        rw [List.getElem?_map, hy, hsy]
                        rfl
                    replace hsy := Lib.hid hsy
                    subst hgg
                    by_cases hq : x.codes = y.codes
                    · have hb1 : (sx.toList == sy.toList) = true := by rw [hbq]; simp [hq]
                      have hin : x.codes ∈ (L.take i).map (·.codes) := by rw [hq]; exact List.mem_map_of_mem (List.mem_of_getElem? hy)
                      obtain ⟨rfl, rfl⟩ := res_err hR1.out hlti.out (by rw [hae.out, if_pos hin]) (by decide)
                      clear hy hys hbq hq hin
                      go_wp2_with fail
                      go_ret2
                      exact ⟨rfl, hGV.out.trans hW.out⟩
                    · have hb1 : (sx.toList == sy.toList) = false := by rw [hbq]; simp [hq]
                      have hJ2 : Hid (∀ k y, k < j + 1 → (L.take i)[k]? = some y → y.codes ≠ x.codes) := Lib.hid (fun k z hk hz => by
                        by_cases e : k = j
                        · subst e; rw [hy] at hz; cases hz; exact fun e2 => hq e2.symm
                        · exact hJ.out k z (by omega) hz)
                      clear hy hys hbq hq hJ
                      go_wp2_with fail
                      go_round
                      case rel => exact ⟨j + 1, by go_num, by omega, hJ2⟩
                      case measure => simp [RowKit.intOf]; omega
                  · obtain rfl : i = j := by omega
                    have hnin : x.codes ∉ (L.take i).map (·.codes) := by
                      intro hin
                      obtain ⟨y, hy, he⟩ := List.mem_map.1 hin
                      obtain ⟨k, hk, rfl⟩ := List.getElem_of_mem hy
                      exact hJ.out k _ (by have := hlti.out; omega) (List.getElem?_eq_getElem hk) he
                    have hae0 : addErr (L.take i) x = 0 := by rw [hae.out, if_neg hnin]
                    have hR3 := hR2.out
                    rw [if_pos hae0, ← hts.out] at hR3
                    replace hR3 := Lib.hid hR3
                    have hA3 : Hid (∀ x ∈ L.take (i + 1), x.codes.all scal = true) := Lib.hid (fun z hz => by
                      rw [hts.out] at hz
                      rcases List.mem_append.1 hz with h | h
                      · exact hA.out z h
                      · simp at h; subst h; exact hall.out)
                    have hC3 : Hid (seenC (L.take i) ++ [.string sx] = seenC (L.take (i + 1))) := Lib.hid (by rw [hts.out]; simp [seenC, hsx.out])
                    have hGW := Lib.hid (hGV.out.trans hW.out)
                    clear hnin hae0 hJ hj hlt2
                    have gS := World.grownBy_alloc wr (.cells #[.string sx] 9) none
                    have eS := World.alloc_heap_new wr (.cells #[.string sx] 9)
                    have hSX := World.ownsRow.kept hSW.out gS (by cases (Value.slice sa i sc).ownBlock <;> simp)
                    have cS : (wr.alloc (.cells #[.string sx] 9)).cell? ⟨wr.heap.size, 0, none⟩ = some (.string sx) := by simp only [World.cell?, eS]; rfl
                    clear eS
                    go_wp2_with (at_builtin; refine wpList_append_own _ rfl _ _ 70 rfl w.heap.size 9 i0 (.string ⟨#[]⟩) 1 16 Try.underlying70 hi.out hz0.out hz1.out hz2.out rfl (by decide) (.slice sa i sc) i (seenC (L.take i)) rfl hSX ⟨wr.heap.size, 0, none⟩ 1 1 [.string sx] rfl rfl ?q1 ?q2 (by unfold maxLen; omega) (by omega) ?q3 ?q4)
                    case q2 => first | rfl | (intro u hu; simp at hu; subst hu; rfl)
                    case q3 => have h5 := hGW.out.size; have h6 := gS.size; first | omega | (simp; omega)
                    case q4 =>
                      intro v3 w3 ho3 g3 _
                      rw [hC3.out] at ho3
                      have gF := Lib.hid (gnew (hGW.out.trans gS) g3 (fun r e => by left; exact (World.ownsRow.lt hSX r e).1))
                      replace ho3 := Lib.hid ho3
                      clear gS hSX cS g3
                      go_wp2_with fail
                      exact ⟨⟨i + 1, by go_num, by omega, ho3, hA3, hR3, gF⟩, by simp [RowKit.intOf]; omega⟩
      · obtain rfl : n = i := by omega
        have hR1 := hR.out
        rw [hn.out, List.drop_length, newRes] at hR1
        simp at hR1
        obtain ⟨rfl, rfl⟩ := hR1
        clear hR hS hA
        go_wp2
        go_ret2
        exact ⟨rfl, hG.out⟩
end Go.Proofs.Ytnnijcafnhhnoaa
