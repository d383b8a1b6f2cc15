/-
  LAYER 7 (weight): the reference's Check.
-/
import Derived.Test.YtlnplompnabmlaaRA05
import Derived.Test.YtlnplompnabmlaaRA09
import Derived.Test.YtlnplompnabmlaaRA17
import Derived.Test.YtlnplompnabmlaaRA04
import Derived.Laws.MakeOwn
import Derived.Deep.RegionHeld
import Derived.IntWalk
import Derived.Deep.Onto
namespace Go.Proofs.Ytlnplompnabmlaa
set_option maxRecDepth 100000
open Go.RowKit Go.Lib
attribute [local go_sem] Oper.semAt_some

set_option maxHeartbeats 8000000 in
theorem refCheck_any (x : El) (w : World) : Calls Try.prog 29 #[x.agg] w fun e w' => e = .returned (.int .i64 (elCheck x)) ∧ w.grownBy w' none := by
  obtain ⟨p, s, t, v⟩ := x
  obtain ⟨n, hn⟩ : ∃ n, n = elCheck ⟨p, s, t, v⟩ := ⟨_, rfl⟩
  rw [← hn]
  unfold El.agg
  dsimp only
  replace hn := Lib.hid hn
  have key : p < 0 ∨ (0 ≤ p ∧ 65535 < p) ∨ (0 ≤ p ∧ p ≤ 65535 ∧ s < 0) ∨ (0 ≤ p ∧ p ≤ 65535 ∧ 0 ≤ s ∧ 511 < s) ∨ (0 ≤ p ∧ p ≤ 65535 ∧ 0 ≤ s ∧ s ≤ 511 ∧ t < 0) ∨ (0 ≤ p ∧ p ≤ 65535 ∧ 0 ≤ s ∧ s ≤ 511 ∧ 0 ≤ t ∧ 63 < t) ∨ (0 ≤ p ∧ p ≤ 65535 ∧ 0 ≤ s ∧ s ≤ 511 ∧ 0 ≤ t ∧ t ≤ 63) := by omega
  rcases key with h | ⟨h, h1⟩ | ⟨h, h1, h2⟩ | ⟨h, h1, h2, h3⟩ | ⟨h, h1, h2, h3, h4⟩ | ⟨h, h1, h2, h3, h4, h5⟩ | ⟨h, h1, h2, h3, h4, h5⟩
  case inr.inr.inr.inr.inr.inr =>
    have key2 : (p = 0 ∧ ¬ 64256 ≤ p) ∨ (p ≠ 0 ∧ ¬ 64256 ≤ p) ∨ (p ≠ 0 ∧ 64256 ≤ p) := by omega
    obtain ⟨bp, ep⟩ : ∃ b, (p == 0) = b := ⟨_, rfl⟩
    obtain ⟨bs, es⟩ : ∃ b, (s == 0) = b := ⟨_, rfl⟩
    obtain ⟨bt, et⟩ : ∃ b, (t == 0) = b := ⟨_, rfl⟩
    have np : (p != 0) = !bp := by rw [← ep]; rfl
    have ns : (s != 0) = !bs := by rw [← es]; rfl
    have hpq : bp = decide (p = 0) := by rw [← ep]; exact Bool.beq_eq_decide_eq p 0
    have hsq : bs = decide (s = 0) := by rw [← es]; exact Bool.beq_eq_decide_eq s 0
    have htq : bt = decide (t = 0) := by rw [← et]; exact Bool.beq_eq_decide_eq t 0
    replace hpq := Lib.hid hpq
    replace hsq := Lib.hid hsq
    replace htq := Lib.hid htq
    obtain ⟨bq, eq⟩ : ∃ b, decide (64256 ≤ p) = b := ⟨_, rfl⟩
    have hfin : n = if (bp && bs && !v || bp && !bs && !bt && !v || !bp && !bs && !bt && !bq) then 0 else 70 := by
      rw [hn.out, hpq.out, hsq.out, htq.out, ← eq]
      have e1 : decide (p < 64256) = !decide (64256 ≤ p) := by by_cases hh : 64256 ≤ p <;> simp [hh] <;> omega
      simp only [elCheck, elOk, elLim, elDown, h, h2, h3, h4, h5, e1]
      by_cases hp : p = 0
      all_goals by_cases hs : s = 0
      all_goals by_cases ht : t = 0
      all_goals by_cases hq : 64256 ≤ p
      all_goals cases v
      all_goals simp [hp, hs, ht, hq]
      all_goals omega
    replace hfin := Lib.hid hfin
    have hno : ¬ (bp = true ∧ bq = true) := by
      rintro ⟨rfl, rfl⟩
      simp at ep eq
      omega
    clear hpq hsq htq key2 hn
    have key3 : ∀ bp bs bt v bq : Bool, ¬ (bp = true ∧ bq = true) → (bp = false ∧ bs = true) ∨ (bp = false ∧ bs = false ∧ bt = true) ∨ (bp = false ∧ bs = false ∧ bt = false ∧ v = false ∧ bq = false) ∨ (bp = false ∧ bs = false ∧ bt = false ∧ v = false ∧ bq = true) ∨
        (bp = false ∧ bs = false ∧ bt = false ∧ v = true ∧ bq = false) ∨ (bp = false ∧ bs = false ∧ bt = false ∧ v = true ∧ bq = true) ∨ (bp = true ∧ bs = false ∧ bt = true) ∨ (bp = true ∧ bs = false ∧ bt = false ∧ v = true) ∨ (bp = true ∧ bs = false ∧ bt = false ∧ v = false ∧ bq = false) ∨
        (bp = true ∧ bs = true ∧ v = true) ∨ (bp = true ∧ bs = true ∧ v = false ∧ bq = false) := by
      intro bp bs bt v bq h
      cases bp <;> cases bs <;> cases bt <;> cases v <;> cases bq <;> simp at h ⊢
    have key4 := key3 bp bs bt v bq hno
    clear key3 hno
    rcases key4 with ⟨rfl, rfl⟩ | ⟨rfl, rfl, rfl⟩ | ⟨rfl, rfl, rfl, rfl, rfl⟩ | ⟨rfl, rfl, rfl, rfl, rfl⟩ | ⟨rfl, rfl, rfl, rfl, rfl⟩ | ⟨rfl, rfl, rfl, rfl, rfl⟩ | ⟨rfl, rfl, rfl⟩ | ⟨rfl, rfl, rfl, rfl⟩ | ⟨rfl, rfl, rfl, rfl, rfl⟩ | ⟨rfl, rfl, rfl⟩ | ⟨rfl, rfl, rfl, rfl⟩
    all_goals simp only [Bool.not_false, Bool.not_true] at np ns
    all_goals
      go_enter Try.func29, Try.ntmps29
      go_wp2
      go_ret
      exact ⟨by simp [hfin.out], World.grownBy_alloc w _ none⟩
  all_goals
    go_enter Try.func29, Try.ntmps29
    go_wp2
    go_ret
    refine ⟨?_, World.grownBy_alloc w _ none⟩
    rw [hn.out]
    simp [elCheck, elOk, elLim, *]
    try omega
end Go.Proofs.Ytlnplompnabmlaa

/-
  LAYER 9 (trie): the reference's Check.
-/
namespace Go.Proofs.Ytlnplompnabmlaa
set_option maxRecDepth 100000
open Go.RowKit Go.Lib
attribute [local go_sem] Oper.semAt_some

theorem scal_eq (r : Int) : U.scalar r = scal r := by
  unfold scal U.scalar
  simp only [Bool.decide_or, Bool.decide_and]
def encB (l : List Int) : ByteArray := ⟨(U.enc l).toArray⟩
theorem encB_inj {a b : List Int} (ha : a.all scal = true) (hb : b.all scal = true) (h : encB a = encB b) : a = b := by
  have h2 : U.enc a = U.enc b := by
    have := congrArg (fun s => s.data.toList) h
    simpa [encB] using this
  have hA : U.allSc a := fun r hr => by rw [scal_eq]; exact List.all_eq_true.1 ha r hr
  have hB : U.allSc b := fun r hr => by rw [scal_eq]; exact List.all_eq_true.1 hb r hr
  rw [← (U.enc_back a hA).1, h2, (U.enc_back b hB).1]
theorem encB_beq {a b : List Int} (ha : a.all scal = true) (hb : b.all scal = true) : ((encB a).toList == (encB b).toList) = decide (a = b) := by
  by_cases h : a = b
  · subst h; simp
  · have : encB a ≠ encB b := fun e => h (encB_inj ha hb e)
    have h3 : (encB a).toList ≠ (encB b).toList := fun e => this (by
      rw [ByteArray.toList_eq, ByteArray.toList_eq] at e
      unfold encB at e ⊢
      simp at e
      rw [e])
    simp [h, h3]
theorem conv_codes {P : Nat → Prop} {w : World} {v : Value} {l : List Int} (h : SR P 1 w v l.length (rc l)) (hs : l.all scal = true) : (convert 32 9 v).run Try.prog w = .ok (.string (encB l)) w := by
  have hA : U.allSc l := fun r hr => by rw [scal_eq]; exact List.all_eq_true.1 hs r hr
  obtain ⟨a, c, rfl, _⟩ := h.form
  cases a with
  | none =>
    have hl : l = [] := by
      cases l with
      | nil => rfl
      | cons x t =>
        obtain ⟨b, off, e, _⟩ := rc_get h (i := 0) rfl
        cases e
    subst hl
    rw [run_convert_runes_nil w 32 9 21 _ _ Try.underlying32 Try.underlying21 Try.underlying9]
    rfl
  | some ad =>
    rw [run_convert_runes w 32 9 21 ad l.length c l (Nat.le_refl _) Try.underlying32 Try.underlying21 Try.underlying9 ?_, List.take_length, U.runesBytes_enc l hA]
    · rfl
    intro j hj
    obtain ⟨b, off, e, _, hc⟩ := rc_get h (List.getElem?_eq_getElem hj)
    simp only [Option.some.injEq] at e
    subst e
    rw [addr_add, hc]
    simp [List.getD_eq_getElem?_getD, List.getElem?_eq_getElem hj]
theorem infoStr : (Try.prog.info? 9).map (fun i => (i.zero, i.size, i.bytes)) = some (some (.string ⟨#[]⟩), 1, 16) := by kernel_rfl
theorem infoStr_parts : ∃ i0 : TypeInfo, Try.prog.info? 9 = some i0 ∧ i0.zero = some (.string ⟨#[]⟩) ∧ i0.size = 1 ∧ i0.bytes = 16 := by
  have h := infoStr
  cases hi : Try.prog.info? 9 with
  | none => rw [hi] at h; cases h
  | some i =>
    rw [hi] at h
    simp only [Option.map_some, Option.some.injEq, Prod.mk.injEq] at h
    exact ⟨i, rfl, h.1, h.2.1, h.2.2⟩
def seenC (L : List Ent) : List Value := L.map fun x => .string (encB x.codes)

theorem res_err {L : List Ent} {i ra : Nat} {re e : Int} {x : Ent} {rest : List Ent} (h : (ra, re) = newRes (L.take i) (x :: rest)) (hl : (L.take i).length = i) (ha : addErr (L.take i) x = e) (he : e ≠ 0) : ra = i ∧ re = e := by
  rw [newRes, ha, if_neg he, hl] at h
  simpa using h
theorem ae_len {L : List Ent} {x : Ent} (h : x.codes.length = 0 ∨ 8 < x.codes.length) : addErr L x = 90 := by
  have e : entErr x = 90 := by unfold entErr; rw [if_pos (by rcases h with h | h; exact .inl h; exact .inr (.inl h))]
  unfold addErr
  rw [e, if_pos (by decide)]
theorem ae_scal {L : List Ent} {x : Ent} (h : x.codes.all scal = false) : addErr L x = 90 := by
  have e : entErr x = 90 := by unfold entErr; rw [if_pos (.inr (.inr h))]
  unfold addErr
  rw [e, if_pos (by decide)]
theorem ae_els {L : List Ent} {x : Ent} (h0 : x.codes.length ≠ 0) (h8 : ¬ 8 < x.codes.length) (hs : x.codes.all scal = true) (h : 16 < x.els.length) : addErr L x = 2 := by
  have e : entErr x = 2 := by unfold entErr; rw [if_neg (by rintro (e | e | e); exact h0 e; exact h8 e; rw [hs] at e; cases e), if_pos h]
  unfold addErr
  rw [e, if_pos (by decide)]
theorem ae_wrong {L : List Ent} {x : Ent} (h0 : x.codes.length ≠ 0) (h8 : ¬ 8 < x.codes.length) (hs : x.codes.all scal = true) (h : ¬ 16 < x.els.length) (he : x.els.all elOk = false) : addErr L x = 70 := by
  have e : entErr x = 70 := by unfold entErr; rw [if_neg (by rintro (e | e | e); exact h0 e; exact h8 e; rw [hs] at e; cases e), if_neg h, if_pos he]
  unfold addErr
  rw [e, if_pos (by decide)]
theorem ae_fine {L : List Ent} {x : Ent} (h0 : x.codes.length ≠ 0) (h8 : ¬ 8 < x.codes.length) (hs : x.codes.all scal = true) (h : ¬ 16 < x.els.length) (he : x.els.all elOk = true) : addErr L x = if x.codes ∈ L.map (·.codes) then 91 else 0 := by
  have e : entErr x = 0 := by unfold entErr; rw [if_neg (by rintro (e | e | e); exact h0 e; exact h8 e; rw [hs] at e; cases e), if_neg h, if_neg (by rw [he]; simp)]
  unfold addErr
  rw [e, if_neg (by simp)]

set_option maxHeartbeats 16000000 in
theorem refTrie_check (P : Nat → Prop) (v : Value) (L : List Ent) (w : World) (h : EntsR P w v L) :
    Calls Try.prog 10 #[v] w fun e w' => e = .returned (.tuple #[.int .i64 ((newAll L).1 : Int), .int .i64 (newAll L).2]) ∧ w.grownBy w' none := by
  obtain ⟨a, c, rfl, hc, hm⟩ : ∃ a c, v = .slice a L.length c ∧ L.length ≤ c ∧ c ≤ maxLen := by obtain ⟨vs, _, h2, _⟩ := h; exact h2.form
  unfold maxLen at hm
  obtain ⟨ra, hra⟩ : ∃ r, r = (newAll L).1 := ⟨_, rfl⟩
  obtain ⟨re, hre⟩ : ∃ r, r = (newAll L).2 := ⟨_, rfl⟩
  rw [← hra, ← hre]
  replace h := Lib.hid h
  obtain ⟨n, hn⟩ : ∃ n, n = L.length := ⟨_, rfl⟩
  rw [← hn] at hc ⊢
  replace hn := Lib.hid hn
  by_cases hbig : 4000 < n
  · have e : newAll L = (0, 2) := by unfold newAll; rw [if_pos (by rw [← hn.out]; exact hbig)]
    rw [e] at hra hre
    dsimp only at hra hre
    subst hra hre
    clear e
    go_enter Try.func10, Try.ntmps10
    go_wp2
    go_ret2
    exact ⟨rfl, World.grownBy.refl _ _⟩
  · have e : newAll L = newRes [] L := by unfold newAll; rw [if_neg (by rw [← hn.out]; exact hbig)]
    rw [e] at hra hre
    replace hra := Lib.hid hra
    replace hre := Lib.hid hre
    clear e
    obtain ⟨i0, hi, hz0, hz1, hz2⟩ := infoStr_parts
    obtain ⟨w1, hmk, ho1, g1⟩ := run_make_own (P := Try.prog) w w.heap.size 70 9 i0 _ 1 Try.underlying70 hi hz0 hz1 .i64 .i64 n (by rw [hz2]; omega) (by unfold maxLen; omega) (Nat.le_refl _)
    replace hi := Lib.hid hi
    replace hz0 := Lib.hid hz0
    replace hz1 := Lib.hid hz1
    replace hz2 := Lib.hid hz2
    go_enter Try.func10, Try.ntmps10
    go_wp2_with fail
    clear hmk
    go_loopw [4, 22] (fun sv vi wr => ∃ i : Nat, vi = .int .i64 (i : Int) ∧ i ≤ n ∧ Hid (wr.ownsRow w.heap.size 9 1 sv i (seenC (L.take i))) ∧ Hid (∀ x ∈ L.take i, x.codes.all scal = true) ∧ Hid ((ra, re) = newRes (L.take i) (L.drop i)) ∧ Hid (w.grownBy wr none)) (fun _ vi _ => n - (RowKit.intOf vi).toNat)
    case atStart => exact ⟨0, rfl, Nat.zero_le _, Lib.hid ho1, Lib.hid (by simp), Lib.hid (by rw [hra.out, hre.out]; simp), Lib.hid g1⟩
    case round =>
      obtain ⟨i, rfl, hi1, hS, hA, hR, hG⟩ := hrel
      by_cases hlt : i < n
      · have hltz : (i : Int) < (n : Int) := by omega
        obtain ⟨x, hx⟩ : ∃ x, L[i]? = some x := ⟨_, List.getElem?_eq_getElem (by have := hn.out; omega)⟩
        have hdrop : L.drop i = x :: L.drop (i + 1) := by
          obtain ⟨hl, rfl⟩ := List.getElem?_eq_some_iff.1 hx
          exact List.drop_eq_getElem_cons hl
        have hts := Lib.hid (show L.take (i + 1) = L.take i ++ [x] by rw [List.take_add_one, hx]; rfl)
        have hR1 := hR.out
        rw [hdrop] at hR1
        have hR2 := hR1
        rw [newRes] at hR2
        replace hR1 := Lib.hid hR1
        replace hR2 := Lib.hid hR2
        have hlti : Hid ((L.take i).length = i) := Lib.hid (by rw [List.length_take]; have := hn.out; omega)
        have hrr := h.out.new hG.out
        obtain ⟨b, off, vc, ve0, rfl, _, c0, c1, hE⟩ := ents_get (c := c) hrr hx
        obtain ⟨xa, xc, hvc, hxc1, hxc2⟩ := hE.1.form
        obtain ⟨ya, yc, hve, hyc1, hyc2⟩ := hE.2.form
        have gB := World.grownBy_alloc wr (.cells #[vc, ve0] 35) none
        have eB : Two (wr.alloc (.cells #[vc, ve0] 35)) wr.heap.size vc ve0 := World.alloc_heap_new wr _
        obtain ⟨V, hV⟩ : ∃ V, V = wr.alloc (.cells #[vc, ve0] 35) := ⟨_, rfl⟩
        rw [← hV] at gB eB
        have hEc : ∀ W', V.grownBy W' none → SR P 1 W' vc x.codes.length (rc x.codes) ∧ SR P 4 W' ve0 x.els.length (ec x.els) := fun W' g => ⟨(hE.1.new gB).new g, (hE.2.new gB).new g⟩
        have hBx : ∀ W', V.grownBy W' none → W'.cell? ⟨wr.heap.size, 0, none⟩ = some vc ∧ W'.cell? ⟨wr.heap.size, 1, none⟩ = some ve0 := fun W' g => ⟨(eB.new g).c0, (eB.new g).c1⟩
        have hGV := Lib.hid (hG.out.trans gB)
        have hSV := Lib.hid (World.ownsRow.kept hS.out gB (by cases u4.ownBlock <;> simp))
        rw [hvc, hve] at hV hBx
        rw [hvc] at c0
        rw [hve] at c1
        simp only [hvc, hve] at hEc
        unfold maxLen at hxc2 hyc2
        obtain ⟨nc, hnc⟩ : ∃ nc, nc = x.codes.length := ⟨_, rfl⟩
        obtain ⟨ne, hne⟩ : ∃ ne, ne = x.els.length := ⟨_, rfl⟩
        rw [← hnc] at hV c0 hxc1
        rw [← hne] at hV c1 hyc1
        simp only [← hnc, ← hne] at hBx
        replace hnc := Lib.hid hnc
        replace hne := Lib.hid hne
        replace hEc := Lib.hid hEc
        obtain ⟨d0, d1⟩ := hBx V (World.grownBy.refl _ _)
        replace hBx := Lib.hid hBx
        clear hx hdrop hrr hE gB eB hR hvc hve hS hG
        by_cases k1 : nc = 0
        · subst k1
          obtain ⟨rfl, rfl⟩ := res_err hR1.out hlti.out (ae_len (.inl hnc.out.symm)) (by decide)
          go_wp2_with fail
          rw [← hV]
          go_wp2_with fail
          go_ret2
          exact ⟨rfl, hGV.out⟩
        have k1b : decide ((nc : Int) < 1) = false := by simp; omega
        by_cases k2 : 8 < nc
        · obtain ⟨rfl, rfl⟩ := res_err hR1.out hlti.out (ae_len (.inr (by rw [← hnc.out]; exact k2))) (by decide)
          go_wp2_with fail
          rw [← hV]
          go_wp2_with fail
          go_ret2
          exact ⟨rfl, hGV.out⟩
        have k2b : decide (8 < (nc : Int)) = false := by simp; omega
        go_wp2_with fail
        rw [← hV]
        clear hV c0 c1
        obtain ⟨sa, sc, rfl⟩ := rowForm hSV.out
        go_wp2_with fail
        go_loop [41] (fun vi => ∃ j : Nat, vi = .int .i64 (j : Int) ∧ j ≤ nc ∧ Hid (∀ k u, k < j → x.codes[k]? = some u → scal u = true)) (fun vi => nc - (RowKit.intOf vi).toNat)
        case atStart => exact ⟨0, rfl, Nat.zero_le _, Lib.hid (fun k u hk => absurd hk (by omega))⟩
        case round =>
          obtain ⟨j, rfl, hj, hJ⟩ := hrel
          by_cases hlt2 : j < nc
          · have hltz2 : (j : Int) < (nc : Int) := by omega
            obtain ⟨u, hu⟩ : ∃ u, x.codes[j]? = some u := ⟨_, List.getElem?_eq_getElem (by have := hnc.out; omega)⟩
            obtain ⟨cb, co, hxa, _, cu⟩ := rc_get ((hEc.out V (World.grownBy.refl _ _)).1) hu
            subst hxa
            have hSc := fun w => scal_ref u w
            cases hs : scal u with
            | true =>
              rw [hs] at hSc
              have hJ2 : Hid (∀ k u, k < j + 1 → x.codes[k]? = some u → scal u = true) := Lib.hid (fun k v hk hv => by
                by_cases e : k = j
                · subst e; rw [hu] at hv; cases hv; exact hs
                · exact hJ.out k v (by omega) hv)
              clear hu hs hJ
              go_wp2_with (go_at_call 28; refine (hSc _).mono ?_; rintro e w' ⟨rfl, rfl⟩)
              go_round
              case rel => exact ⟨j + 1, by go_num, by omega, hJ2⟩
              case measure => simp [RowKit.intOf]; omega
            | false =>
              rw [hs] at hSc
              have hall : x.codes.all scal = false := by
                rw [List.all_eq_false]
                exact ⟨u, List.mem_of_getElem? hu, by rw [hs]; simp⟩
              obtain ⟨rfl, rfl⟩ := res_err hR1.out hlti.out (ae_scal hall) (by decide)
              clear hu hs hJ hall
              go_wp2_with (go_at_call 28; refine (hSc _).mono ?_; rintro e w' ⟨rfl, rfl⟩)
              go_ret2
              exact ⟨rfl, hGV.out⟩
          · obtain rfl : nc = j := by omega
            have hall : x.codes.all scal = true := by
              rw [List.all_eq_true]
              intro u hu
              obtain ⟨k, hk, rfl⟩ := List.getElem_of_mem hu
              exact hJ.out k _ (by have := hnc.out; omega) (List.getElem?_eq_getElem hk)
            have h0x : x.codes.length ≠ 0 := by rw [← hnc.out]; exact k1
            have h8x : ¬ 8 < x.codes.length := by rw [← hnc.out]; exact k2
            replace h0x := Lib.hid h0x
            replace h8x := Lib.hid h8x
            replace hall := Lib.hid hall
            clear hJ hj hlt2
            by_cases k3 : 16 < ne
            · obtain ⟨rfl, rfl⟩ := res_err hR1.out hlti.out (ae_els h0x.out h8x.out hall.out (by rw [← hne.out]; exact k3)) (by decide)
              go_wp2_with fail
              go_ret2
              exact ⟨rfl, hGV.out⟩
            have k3b : decide (16 < (ne : Int)) = false := by simp; omega
            have h16x : ¬ 16 < x.els.length := by rw [← hne.out]; exact k3
            replace h16x := Lib.hid h16x
            go_wp2_with fail
            go_loopw [58] (fun vi W => ∃ j : Nat, vi = .int .i64 (j : Int) ∧ j ≤ ne ∧ Hid (∀ k u, k < j → x.els[k]? = some u → elOk u = true) ∧ Hid (V.grownBy W none)) (fun vi _ => ne - (RowKit.intOf vi).toNat)
            case atStart => exact ⟨0, rfl, Nat.zero_le _, Lib.hid (fun k u hk => absurd hk (by omega)), Lib.hid (World.grownBy.refl _ _)⟩
            case round =>
              obtain ⟨j, rfl, hj, hJ, hW⟩ := hrel
              obtain ⟨e0, e1⟩ := hBx.out wr hW.out
              by_cases hlt2 : j < ne
              · have hltz2 : (j : Int) < (ne : Int) := by omega
                obtain ⟨u, hu⟩ : ∃ u, x.els[j]? = some u := ⟨_, List.getElem?_eq_getElem (by have := hne.out; omega)⟩
                obtain ⟨cb, co, hya, _, m1, m2, m3, m4⟩ := ec_get ((hEc.out wr hW.out).2) hu
                subst hya
                have hCk := fun w => refCheck_any u w
                unfold elCheck at hCk
                have gE := World.grownBy_alloc wr (.cells #[.int .i64 u.p, .int .i64 u.s, .int .i64 u.t, .bool u.v] 66) none
                cases hs : elOk u with
                | true =>
                  rw [hs] at hCk
                  have hJ2 : Hid (∀ k u, k < j + 1 → x.els[k]? = some u → elOk u = true) := Lib.hid (fun k v hk hv => by
                    by_cases e : k = j
                    · subst e; rw [hu] at hv; cases hv; exact hs
                    · exact hJ.out k v (by omega) hv)
                  clear hu hs hJ
                  obtain ⟨up, us, ut, uv⟩ := u
                  unfold El.agg at hCk
                  dsimp only at hCk m1 m2 m3 m4 gE
                  go_wp2_with (go_at_call 29; refine (hCk _).mono ?_; rintro e w' ⟨rfl, g'⟩; have hW2 := Lib.hid ((hW.out.trans gE).trans g'))
                  exact ⟨⟨j + 1, by go_num, by omega, hJ2, hW2⟩, by simp [RowKit.intOf]; omega⟩
                | false =>
                  rw [hs] at hCk
                  have hallE : x.els.all elOk = false := by
                    rw [List.all_eq_false]
                    exact ⟨u, List.mem_of_getElem? hu, by rw [hs]; simp⟩
                  obtain ⟨rfl, rfl⟩ := res_err hR1.out hlti.out (ae_wrong h0x.out h8x.out hall.out h16x.out hallE) (by decide)
                  clear hu hs hJ hallE
                  obtain ⟨up, us, ut, uv⟩ := u
                  unfold El.agg at hCk
                  dsimp only at hCk m1 m2 m3 m4 gE
                  go_wp2_with (go_at_call 29; refine (hCk _).mono ?_; rintro e w' ⟨rfl, g'⟩; have hW2 := Lib.hid ((hW.out.trans gE).trans g'))
                  go_ret2
                  exact ⟨rfl, hGV.out.trans hW2.out⟩
              · obtain rfl : ne = j := by omega
                have hallE : x.els.all elOk = true := by
                  rw [List.all_eq_true]
                  intro u hu
                  obtain ⟨k, hk, rfl⟩ := List.getElem_of_mem hu
                  exact hJ.out k _ (by have := hne.out; omega) (List.getElem?_eq_getElem hk)
                have hae := ae_fine (L := L.take i) h0x.out h8x.out hall.out h16x.out hallE
                replace hae := Lib.hid hae
                have hcv := conv_codes ((hEc.out wr hW.out).1) hall.out
                obtain ⟨sx, hsx⟩ : ∃ s, s = encB x.codes := ⟨_, rfl⟩
                rw [← hsx, ← hnc.out] at hcv
                replace hsx := Lib.hid hsx
                have hSW := Lib.hid (World.ownsRow.kept hSV.out hW.out (by cases (Value.slice sa i sc).ownBlock <;> simp))
                clear hJ hj hlt2 hallE e0 e1
                obtain ⟨e0, e1⟩ := hBx.out wr hW.out
                go_wp2_with fail
                go_loop [72] (fun vi => ∃ j : Nat, vi = .int .i64 (j : Int) ∧ j ≤ i ∧ Hid (∀ k y, k < j → (L.take i)[k]? = some y → y.codes ≠ x.codes)) (fun vi => i - (RowKit.intOf vi).toNat)
                case atStart => exact ⟨0, rfl, Nat.zero_le _, Lib.hid (fun k u hk => absurd hk (by omega))⟩
                case round =>
                  obtain ⟨j, rfl, hj, hJ⟩ := hrel
                  by_cases hlt2 : j < i
                  · have hltz2 : (j : Int) < (i : Int) := by omega
                    obtain ⟨y, hy⟩ : ∃ y, (L.take i)[j]? = some y := ⟨_, List.getElem?_eq_getElem (by have := hlti.out; omega)⟩
                    have hys : y.codes.all scal = true := hA.out y (List.mem_of_getElem? hy)
                    have hbq := encB_beq hall.out hys
                    obtain ⟨sy, hsy⟩ : ∃ s, s = encB y.codes := ⟨_, rfl⟩
                    rw [← hsx.out, ← hsy] at hbq
                    obtain ⟨gg, hgg, cy⟩ : ∃ gg, sa = some ⟨gg, 0, none⟩ ∧ wr.cell? ⟨gg, j, none⟩ = some (.string sy) := by
                      have hr0 := hSW.out
                      obtain ⟨_, ⟨e, hz⟩ | ⟨g9, cap, cur, e, _⟩⟩ := hSW.out
                      · omega
                      · simp at e
                        obtain ⟨rfl, rfl⟩ := e
                        refine ⟨g9, rfl, ?_⟩
                        rw [World.ownsRow.cellAt hr0 j (by omega)]
                        unfold seenC
                        rw [List.getElem?_map, hy, hsy]
                        rfl
                    replace hsy := Lib.hid hsy
                    subst hgg
                    by_cases hq : x.codes = y.codes
                    · have hb1 : (sx.toList == sy.toList) = true := by rw [hbq]; simp [hq]
                      have hin : x.codes ∈ (L.take i).map (·.codes) := by rw [hq]; exact List.mem_map_of_mem (List.mem_of_getElem? hy)
                      obtain ⟨rfl, rfl⟩ := res_err hR1.out hlti.out (by rw [hae.out, if_pos hin]) (by decide)
                      clear hy hys hbq hq hin
                      go_wp2_with fail
                      go_ret2
                      exact ⟨rfl, hGV.out.trans hW.out⟩
                    · have hb1 : (sx.toList == sy.toList) = false := by rw [hbq]; simp [hq]
                      have hJ2 : Hid (∀ k y, k < j + 1 → (L.take i)[k]? = some y → y.codes ≠ x.codes) := Lib.hid (fun k z hk hz => by
                        by_cases e : k = j
                        · subst e; rw [hy] at hz; cases hz; exact fun e2 => hq e2.symm
                        · exact hJ.out k z (by omega) hz)
                      clear hy hys hbq hq hJ
                      go_wp2_with fail
                      go_round
                      case rel => exact ⟨j + 1, by go_num, by omega, hJ2⟩
                      case measure => simp [RowKit.intOf]; omega
                  · obtain rfl : i = j := by omega
                    have hnin : x.codes ∉ (L.take i).map (·.codes) := by
                      intro hin
                      obtain ⟨y, hy, he⟩ := List.mem_map.1 hin
                      obtain ⟨k, hk, rfl⟩ := List.getElem_of_mem hy
                      exact hJ.out k _ (by have := hlti.out; omega) (List.getElem?_eq_getElem hk) he
                    have hae0 : addErr (L.take i) x = 0 := by rw [hae.out, if_neg hnin]
                    have hR3 := hR2.out
                    rw [if_pos hae0, ← hts.out] at hR3
                    replace hR3 := Lib.hid hR3
                    have hA3 : Hid (∀ x ∈ L.take (i + 1), x.codes.all scal = true) := Lib.hid (fun z hz => by
                      rw [hts.out] at hz
                      rcases List.mem_append.1 hz with h | h
                      · exact hA.out z h
                      · simp at h; subst h; exact hall.out)
                    have hC3 : Hid (seenC (L.take i) ++ [.string sx] = seenC (L.take (i + 1))) := Lib.hid (by rw [hts.out]; simp [seenC, hsx.out])
                    have hGW := Lib.hid (hGV.out.trans hW.out)
                    clear hnin hae0 hJ hj hlt2
                    have gS := World.grownBy_alloc wr (.cells #[.string sx] 9) none
                    have eS := World.alloc_heap_new wr (.cells #[.string sx] 9)
                    have hSX := World.ownsRow.kept hSW.out gS (by cases (Value.slice sa i sc).ownBlock <;> simp)
                    have cS : (wr.alloc (.cells #[.string sx] 9)).cell? ⟨wr.heap.size, 0, none⟩ = some (.string sx) := by simp only [World.cell?, eS]; rfl
                    clear eS
                    go_wp2_with (at_builtin; refine wpList_append_own _ rfl _ _ 70 rfl w.heap.size 9 i0 (.string ⟨#[]⟩) 1 16 Try.underlying70 hi.out hz0.out hz1.out hz2.out rfl (by decide) (.slice sa i sc) i (seenC (L.take i)) rfl hSX ⟨wr.heap.size, 0, none⟩ 1 1 [.string sx] rfl rfl ?q1 ?q2 (by unfold maxLen; omega) (by omega) ?q3 ?q4)
                    case q2 => first | rfl | (intro u hu; simp at hu; subst hu; rfl)
                    case q3 => have h5 := hGW.out.size; have h6 := gS.size; first | omega | (simp; omega)
                    case q4 =>
                      intro v3 w3 ho3 g3 _
                      rw [hC3.out] at ho3
                      have gF := Lib.hid (gnew (hGW.out.trans gS) g3 (fun r e => by left; exact (World.ownsRow.lt hSX r e).1))
                      replace ho3 := Lib.hid ho3
                      clear gS hSX cS g3
                      go_wp2_with fail
                      exact ⟨⟨i + 1, by go_num, by omega, ho3, hA3, hR3, gF⟩, by simp [RowKit.intOf]; omega⟩
      · obtain rfl : n = i := by omega
        have hR1 := hR.out
        rw [hn.out, List.drop_length, newRes] at hR1
        simp at hR1
        obtain ⟨rfl, rfl⟩ := hR1
        clear hR hS hA
        go_wp2
        go_ret2
        exact ⟨rfl, hG.out⟩
end Go.Proofs.Ytlnplompnabmlaa

/-
  LAYER 9 (trie): the reference's Order: the entries' numbers in order of their code points.
-/
namespace Go.Proofs.Ytlnplompnabmlaa
set_option maxRecDepth 100000
open Go.RowKit Go.Lib
attribute [local go_sem] Oper.semAt_some

theorem infoInt : (Try.prog.info? 3).map (fun i => (i.zero, i.size, i.bytes)) = some (some (.int .i64 0), 1, 8) := by kernel_rfl
theorem infoInt_parts : ∃ i0 : TypeInfo, Try.prog.info? 3 = some i0 ∧ i0.zero = some (.int .i64 0) ∧ i0.size = 1 ∧ i0.bytes = 8 := by
  have h := infoInt
  obtain ⟨i0, h1, h2⟩ := Option.map_eq_some_iff.1 h
  simp at h2
  exact ⟨i0, h1, h2.1, h2.2.1, h2.2.2⟩
/-- The code points' slice of the i-th entry. -/
theorem ents_codes {P : Nat → Prop} {w : World} {a : Option Addr} {n c : Nat} {L : List Ent} (h : EntsR P w (.slice a n c) L) {i : Nat} {x : Ent} (hx : L[i]? = some x) :
    ∃ b off a1 c1, a = some ⟨b, off, none⟩ ∧ w.cell? ⟨b, off + i * 2, none⟩ = some (.slice a1 x.codes.length c1) ∧ SR P 1 w (.slice a1 x.codes.length c1) x.codes.length (rc x.codes) := by
  obtain ⟨vs, h1, h2, h3⟩ := h
  have hi : i < L.length := (List.getElem?_eq_some_iff.1 hx).1
  obtain ⟨b, off, q1, _, q3⟩ := h2.get (i := i) hi
  obtain ⟨pv, hpv⟩ : ∃ pv, vs[i]? = some pv := ⟨_, List.getElem?_eq_getElem (by omega)⟩
  obtain ⟨u, hu, hc⟩ := q3 0 (by omega)
  have he := h3 i x pv hx hpv
  have := (pc_at vs i pv hpv).1
  rw [Nat.add_zero] at hu hc
  rw [this] at hu
  cases hu
  obtain ⟨a1, c1, e, _⟩ := he.1.form
  rw [e] at hc he
  exact ⟨b, off, a1, c1, q1, hc, he.1⟩

set_option maxHeartbeats 8000000 in
theorem rOrder_any (P : Nat → Prop) (v : Value) (L : List Ent) (w : World) (h : EntsR P w v L) (hd : (L.map (·.codes)).Nodup) (hlen : L.length ≤ 4000) :
    Calls Try.prog 22 #[v] w fun e w' => ∃ v' O, e = .returned v' ∧ NumsO w' w.heap.size v' O ∧ Strict (codesAt (L.map (·.codes))) O ∧ (∀ i, i ∈ O ↔ i < L.length) ∧ O.length = L.length ∧ w.grownBy w' none := by
  obtain ⟨a0, c0, rfl, hc0, hm0⟩ : ∃ a c, v = .slice a L.length c ∧ L.length ≤ c ∧ c ≤ maxLen := by obtain ⟨vs, _, h2, _⟩ := h; exact h2.form
  clear hm0 hc0
  obtain ⟨c, hc⟩ : ∃ c, c = codesAt (L.map (·.codes)) := ⟨_, rfl⟩
  have hcx : ∀ i x, L[i]? = some x → c i = x.codes := fun i x hx => by rw [hc]; simp [codesAt, hx]
  have hinj : ∀ i j, i < L.length → j < L.length → c i = c j → i = j := fun i j hi hj e => at_inj hd (by simpa using hi) (by simpa using hj) (by rw [← hc]; exact e)
  rw [← hc]
  clear hc hd
  obtain ⟨n, hn⟩ : ∃ n, n = L.length := ⟨_, rfl⟩
  rw [← hn] at hlen hinj ⊢
  obtain ⟨i0, hi, hz0, hz1, hz2⟩ := infoInt_parts
  replace hi := Lib.hid hi
  replace hz0 := Lib.hid hz0
  replace hz1 := Lib.hid hz1
  replace hz2 := Lib.hid hz2
  have HE : Hid (∀ W, w.grownBy W none → EntsR P W (.slice a0 n c0) L) := Lib.hid fun W g => by rw [hn]; exact h.new g
  replace hcx := Lib.hid hcx
  replace hinj := Lib.hid hinj
  replace hn := Lib.hid hn
  clear h
  go_enter Try.func22, Try.ntmps22
  go_wp2_with fail
  go_loopw [3, 8] (fun v3 v8 wr => ∃ (i : Nat) (O : List Nat), v8 = .int .i64 (i : Int) ∧ i ≤ n ∧ Hid (NumsO wr w.heap.size v3 O) ∧ Hid (Strict c O ∧ (∀ m, m ∈ O ↔ m < i) ∧ O.length = i) ∧ Hid (w.grownBy wr none)) (fun _ v8 _ => n - (RowKit.intOf v8).toNat)
  case atStart => exact ⟨0, [], rfl, Nat.zero_le _, Lib.hid (World.ownsRow_nil _ _ _ _), Lib.hid ⟨List.Pairwise.nil, by simp, rfl⟩, World.grownBy.refl _ _⟩
  case round =>
    obtain ⟨i, O, rfl, hi1, hO, hS, hG⟩ := hrel
    by_cases hlt : i < n
    · have hltz : (i : Int) < (n : Int) := by omega
      obtain ⟨x, hx⟩ : ∃ x, L[i]? = some x := ⟨_, List.getElem?_eq_getElem (by have := hn.out; omega)⟩
      obtain ⟨sa, sc, rfl⟩ := hO.out.form
      have gS := World.grownBy_alloc wr (.cells #[.int .i64 (i : Int)] 3) none
      have eS := World.alloc_heap_new wr (.cells #[.int .i64 (i : Int)] 3)
      have hSX := hO.out.new gS
      unfold NumsO at hSX
      rw [hS.out.2.2] at hSX ⊢
      have cS : (wr.alloc (.cells #[.int .i64 (i : Int)] 3)).cell? ⟨wr.heap.size, 0, none⟩ = some (.int .i64 (i : Int)) := by simp only [World.cell?, eS]; rfl
      have hxo := Lib.hid hx
      clear eS hx
      go_wp2_with (at_builtin; refine wpList_append_own _ rfl _ _ 51 rfl w.heap.size 3 i0 (.int .i64 0) 1 8 Try.underlying51 hi.out hz0.out hz1.out hz2.out rfl (by decide) (.slice sa i sc) i (O.map fun i : Nat => .int .i64 (i : Int)) rfl hSX ⟨wr.heap.size, 0, none⟩ 1 1 [.int .i64 (i : Int)] rfl rfl ?q1 ?q2 (by unfold maxLen; omega) (by omega) ?q3 ?q4)
      case q1 =>
        intro j u hj
        match j, hj with
        | 0, hj => simp at hj; subst hj; exact cS
      case q2 => first | rfl | (intro u hu; simp at hu; subst hu; rfl)
      case q3 => have h5 := hG.out.size; have h6 := gS.size; first | omega | (simp; omega)
      case q4 =>
        intro v3 w3 ho3 g3 _
        have gF := Lib.hid (gnew (hG.out.trans gS) g3 (fun r e => by left; exact (World.ownsRow.lt hSX r e).1))
        have hO3 : NumsO w3 w.heap.size v3 (O ++ [i]) := by
          unfold NumsO
          rw [List.length_append, hS.out.2.2, List.map_append]
          exact ho3
        obtain ⟨sa3, sc3, rfl⟩ := hO3.form
        obtain ⟨m, hm⟩ : ∃ m, m = i + 1 := ⟨_, rfl⟩
        have hl3 : (O ++ [i]).length = m := by rw [hm, List.length_append, hS.out.2.2]; rfl
        rw [hl3] at hO3
        replace hO3 := Lib.hid hO3
        rw [hl3]
        replace hl3 := Lib.hid hl3
        clear gS hSX cS g3 ho3 hO hG
        have hwk0 : IntKind.i64.wrap ((m : Int) - 1) = (i : Int) := by rw [show (m : Int) - 1 = (i : Int) by omega]; exact IntWalk.i64_in _ (by omega)
        replace hm := Lib.hid hm
        go_wp2_with fail
        go_loopw [5] (fun v5 wr => ∃ (k : Nat) (A B : List Nat), v5 = .int .i64 (k : Int) ∧ k ≤ i ∧ Hid (A.length = k) ∧ Hid (A ++ B = O) ∧ Hid (∀ b ∈ B, lessL (c i) (c b) = true) ∧ Hid (NumsO wr w.heap.size (.slice sa3 m sc3) (A ++ i :: B)) ∧ Hid (w.grownBy wr none)) (fun v5 _ => (RowKit.intOf v5).toNat)
        case atStart => exact ⟨i, O, [], rfl, Nat.le_refl _, hS.out.2.2, Lib.hid (by simp), Lib.hid (by simp), hO3, gF⟩
        case round =>
          obtain ⟨k, A, B, rfl, hki, hA, hAB, hB, hR, hG⟩ := hrel
          have FIN : Hid ((∀ y, A.getLast? = some y → lessL (c y) (c i) = true) → Strict c (A ++ i :: B) ∧ (∀ m, m ∈ A ++ i :: B ↔ m < i + 1) ∧ (A ++ i :: B).length = i + 1) := Lib.hid fun hy => by
            obtain ⟨s1, s2, s3⟩ := hS.out
            have hAB' := hAB.out
            refine ⟨strict_put (by rw [hAB']; exact s1) hB.out hy, fun m => ?_, ?_⟩
            · rw [List.mem_append, List.mem_cons]
              have : m ∈ A ∨ m ∈ B ↔ m < i := by rw [← s2, ← hAB', List.mem_append]
              constructor
              · rintro (h | rfl | h)
                · have := this.1 (.inl h); omega
                · omega
                · have := this.1 (.inr h); omega
              · intro h
                by_cases e : m = i
                · exact .inr (.inl e)
                · rcases this.2 (by omega) with h | h
                  · exact .inl h
                  · exact .inr (.inr h)
            · rw [← hAB'] at s3
              simp at s3 ⊢
              omega
          by_cases hk0 : k = 0
          · subst hk0
            have hF := Lib.hid (FIN.out (fun y h => by rw [List.eq_nil_of_length_eq_zero hA.out] at h; cases h))
            have hg5 := Lib.hid (hG.out.trans (gdrew (World.grownBy.refl wr none)))
            have hR5 := Lib.hid (hR.out.new (gdrew (World.grownBy.refl wr none)))
            have hgd := gdrew (World.grownBy.refl wr none)
            have hkb : decide (0 < (0 : Nat)) = false := by simp
            clear FIN hR hG hS hB hAB hA
            go_wp2_with fail
            refine wp_region_held_drew (S := fun V => wr.grownBy V none) (by kernel_rfl) hgd (fun hS0 => ?_)
            refine wpAnyH_take (i := 0) (oi := ⟨some 18, _, _, _, _, _⟩) (v := ?_) rfl (by kernel_rfl) (by kernel_rfl) (by kernel_rfl) (fun _ _ _ h => h) (Or.inl ⟨by rfl, ?_⟩) (by assumption) ?_
            rotate_left
            · (intro w hSw; (try dsimp only at hSw); go_simp; try with_reducible rfl)
            try simp only [Act.put, List.setIfInBounds_toArray, List.set_cons_zero, List.set_cons_succ]
            refine wpAnyH_take (i := 1) (oi := ⟨some 19, _, _, _, _, _⟩) (v := ?_) rfl (by kernel_rfl) (by kernel_rfl) (by kernel_rfl) (fun _ _ _ h => h) (Or.inl ⟨by rfl, ?_⟩) (by assumption) ?_
            rotate_left
            · (intro w hSw; (try dsimp only at hSw); go_simp; try with_reducible rfl)
            try simp only [Act.put, List.setIfInBounds_toArray, List.set_cons_zero, List.set_cons_succ]
            refine wpAnyH_take (i := 2) (oi := ⟨some 20, _, _, _, _, _⟩) (v := ?_) rfl (by kernel_rfl) (by kernel_rfl) (by kernel_rfl) (fun _ _ _ h => h) (Or.inl ⟨by rfl, ?_⟩) (by assumption) ?_
            rotate_left
            · (intro w hSw; (try dsimp only at hSw); go_simp; try with_reducible rfl)
            try simp only [Act.put, List.setIfInBounds_toArray, List.set_cons_zero, List.set_cons_succ]
            refine wpAnyH_take (i := 3) (oi := ⟨some 21, _, _, _, _, _⟩) (v := undef) rfl (by kernel_rfl) (by kernel_rfl) (by kernel_rfl) (fun _ _ _ h => h) (Or.inr ⟨by rfl, rfl⟩) (by assumption) ?_
            try simp only [Act.put, List.setIfInBounds_toArray, List.set_cons_zero, List.set_cons_succ]
            refine wpAnyH_take (i := 4) (oi := ⟨some 22, _, _, _, _, _⟩) (v := undef) rfl (by kernel_rfl) (by kernel_rfl) (by kernel_rfl) (fun _ _ _ h => h) (Or.inr ⟨by rfl, rfl⟩) (by assumption) ?_
            try simp only [Act.put, List.setIfInBounds_toArray, List.set_cons_zero, List.set_cons_succ]
            refine wpAnyH_take (i := 5) (oi := ⟨some 23, _, _, _, _, _⟩) (v := undef) rfl (by kernel_rfl) (by kernel_rfl) (by kernel_rfl) (fun _ _ _ h => h) (Or.inr ⟨by rfl, rfl⟩) (by assumption) ?_
            try simp only [Act.put, List.setIfInBounds_toArray, List.set_cons_zero, List.set_cons_succ]
            refine wpAnyH_take (i := 6) (oi := ⟨some 24, _, _, _, _, _⟩) (v := undef) rfl (by kernel_rfl) (by kernel_rfl) (by kernel_rfl) (fun _ _ _ h => h) (Or.inr ⟨by rfl, rfl⟩) (by assumption) ?_
            try simp only [Act.put, List.setIfInBounds_toArray, List.set_cons_zero, List.set_cons_succ]
            refine wpAnyH_take (i := 7) (oi := ⟨some 25, _, _, _, _, _⟩) (v := undef) rfl (by kernel_rfl) (by kernel_rfl) (by kernel_rfl) (fun _ _ _ h => h) (Or.inr ⟨by rfl, rfl⟩) (by assumption) ?_
            try simp only [Act.put, List.setIfInBounds_toArray, List.set_cons_zero, List.set_cons_succ]
            refine wpAnyH_take (i := 8) (oi := ⟨some 26, _, _, _, _, _⟩) (v := undef) rfl (by kernel_rfl) (by kernel_rfl) (by kernel_rfl) (fun _ _ _ h => h) (Or.inr ⟨by rfl, rfl⟩) (by assumption) ?_
            try simp only [Act.put, List.setIfInBounds_toArray, List.set_cons_zero, List.set_cons_succ]
            refine wpAnyH_take (i := 9) (oi := ⟨some 27, _, _, _, _, _⟩) (v := undef) rfl (by kernel_rfl) (by kernel_rfl) (by kernel_rfl) (fun _ _ _ h => h) (Or.inr ⟨by rfl, rfl⟩) (by assumption) ?_
            try simp only [Act.put, List.setIfInBounds_toArray, List.set_cons_zero, List.set_cons_succ]
            refine wpAnyH_take (i := 10) (oi := ⟨some 28, _, _, _, _, _⟩) (v := undef) rfl (by kernel_rfl) (by kernel_rfl) (by kernel_rfl) (fun _ _ _ h => h) (Or.inr ⟨by rfl, rfl⟩) (by assumption) ?_
            try simp only [Act.put, List.setIfInBounds_toArray, List.set_cons_zero, List.set_cons_succ]
            refine wpAnyH_take (i := 11) (oi := ⟨some 29, _, _, _, _, _⟩) (v := undef) rfl (by kernel_rfl) (by kernel_rfl) (by kernel_rfl) (fun _ _ _ h => h) (Or.inr ⟨by rfl, rfl⟩) (by assumption) ?_
            try simp only [Act.put, List.setIfInBounds_toArray, List.set_cons_zero, List.set_cons_succ]
            refine wpAnyH_take (i := 12) (oi := ⟨some 30, _, _, _, _, _⟩) (v := undef) rfl (by kernel_rfl) (by kernel_rfl) (by kernel_rfl) (fun _ _ _ h => h) (Or.inr ⟨by rfl, rfl⟩) (by assumption) ?_
            try simp only [Act.put, List.setIfInBounds_toArray, List.set_cons_zero, List.set_cons_succ]
            refine wpAnyH_take (i := 13) (oi := ⟨some 31, _, _, _, _, _⟩) (v := undef) rfl (by kernel_rfl) (by kernel_rfl) (by kernel_rfl) (fun _ _ _ h => h) (Or.inr ⟨by rfl, rfl⟩) (by assumption) ?_
            try simp only [Act.put, List.setIfInBounds_toArray, List.set_cons_zero, List.set_cons_succ]
            refine wpAnyH_take (i := 14) (oi := ⟨some 32, _, _, _, _, _⟩) (v := undef) rfl (by kernel_rfl) (by kernel_rfl) (by kernel_rfl) (fun _ _ _ h => h) (Or.inr ⟨by rfl, rfl⟩) (by assumption) ?_
            try simp only [Act.put, List.setIfInBounds_toArray, List.set_cons_zero, List.set_cons_succ]
            refine wpAnyH_take (i := 15) (oi := ⟨some 33, _, _, _, _, _⟩) (v := undef) rfl (by kernel_rfl) (by kernel_rfl) (by kernel_rfl) (fun _ _ _ h => h) (Or.inr ⟨by rfl, rfl⟩) (by assumption) ?_
            try simp only [Act.put, List.setIfInBounds_toArray, List.set_cons_zero, List.set_cons_succ]
            refine wpAnyH_take (i := 16) (oi := ⟨some 34, _, _, _, _, _⟩) (v := undef) rfl (by kernel_rfl) (by kernel_rfl) (by kernel_rfl) (fun _ _ _ h => h) (Or.inr ⟨by rfl, rfl⟩) (by assumption) ?_
            try simp only [Act.put, List.setIfInBounds_toArray, List.set_cons_zero, List.set_cons_succ]
            refine wpAnyH_take (i := 17) (oi := ⟨some 35, _, _, _, _, _⟩) (v := undef) rfl (by kernel_rfl) (by kernel_rfl) (by kernel_rfl) (fun _ _ _ h => h) (Or.inr ⟨by rfl, rfl⟩) (by assumption) ?_
            try simp only [Act.put, List.setIfInBounds_toArray, List.set_cons_zero, List.set_cons_succ]
            refine wpAnyH_take (i := 18) (oi := ⟨some 36, _, _, _, _, _⟩) (v := undef) rfl (by kernel_rfl) (by kernel_rfl) (by kernel_rfl) (fun _ _ _ h => h) (Or.inr ⟨by rfl, rfl⟩) (by assumption) ?_
            try simp only [Act.put, List.setIfInBounds_toArray, List.set_cons_zero, List.set_cons_succ]
            refine wpAnyH_take (i := 19) (oi := ⟨some 37, _, _, _, _, _⟩) (v := undef) rfl (by kernel_rfl) (by kernel_rfl) (by kernel_rfl) (fun _ _ _ h => h) (Or.inr ⟨by rfl, rfl⟩) (by assumption) ?_
            try simp only [Act.put, List.setIfInBounds_toArray, List.set_cons_zero, List.set_cons_succ]
            refine wpAnyH_take (i := 20) (oi := ⟨some 38, _, _, _, _, _⟩) (v := undef) rfl (by kernel_rfl) (by kernel_rfl) (by kernel_rfl) (fun _ _ _ h => h) (Or.inr ⟨by rfl, rfl⟩) (by assumption) ?_
            try simp only [Act.put, List.setIfInBounds_toArray, List.set_cons_zero, List.set_cons_succ]
            refine wpAnyH_take (i := 21) (oi := ⟨some 39, _, _, _, _, _⟩) (v := ?_) rfl (by kernel_rfl) (by kernel_rfl) (by kernel_rfl) (fun _ _ _ h => h) (Or.inl ⟨by rfl, ?_⟩) (by assumption) ?_
            rotate_left
            · (intro w hSw; (try dsimp only at hSw); go_simp; try with_reducible rfl)
            try simp only [Act.put, List.setIfInBounds_toArray, List.set_cons_zero, List.set_cons_succ]
            refine wpAnyH_done (by kernel_rfl) ?_ _
            clear hS0 hgd hkb
            generalize wr.drew = W5 at hg5 hR5 ⊢
            go_wp2_with fail
            go_roundw
            case rel => exact ⟨i + 1, A ++ i :: B, by go_num, by omega, by have := hR5.out; rw [hm.out, ← hF.out.2.2] at this; rw [hm.out, ← hF.out.2.2]; exact Lib.hid this, hF, hg5⟩
            case measure => simp [RowKit.intOf]; omega
          · obtain ⟨j, hkj⟩ : ∃ j, k = j + 1 := ⟨k - 1, by omega⟩
            obtain ⟨A', y, hAy, hAl⟩ : ∃ A' y, A = A' ++ [y] ∧ A'.length = j := by
              have hAk := hA.out
              rcases List.eq_nil_or_concat A with rfl | ⟨A', y, rfl⟩
              · simp at hAk; omega
              · refine ⟨A', y, List.concat_eq_append, ?_⟩
                simp at hAk; omega
            have hyO : y ∈ O := by rw [← hAB.out, hAy]; simp
            have hyi : y < i := (hS.out.2.1 y).1 hyO
            obtain ⟨z, hz⟩ : ∃ z, L[y]? = some z := ⟨_, List.getElem?_eq_getElem (by have := hn.out; omega)⟩
            have gd := gdrew (World.grownBy.refl wr none)
            have hgw := hG.out.trans gd
            obtain ⟨b0, o0, xa, xc, rfl, e1, sx⟩ := ents_codes (HE.out _ hgw) hxo.out
            obtain ⟨b0', o0', za, zc, e', e2, sz⟩ := ents_codes (HE.out _ hgw) hz
            cases e'
            have hRd := hR.out.new gd
            have hk1 : (A ++ i :: B)[k]? = some i := by rw [List.getElem?_append_right (by have := hA.out; omega), hA.out]; simp
            have hk2 : (A ++ i :: B)[j]? = some y := by rw [hAy, List.append_assoc, List.getElem?_append_right (by omega), hAl]; simp
            obtain ⟨g, rfl, hBg, hgs, hln, d1, f1⟩ := hRd.at hk1
            obtain ⟨g', e', -, -, -, d2, f2⟩ := hRd.at hk2
            cases e'
            have hLs := rless_any P P _ _ x.codes z.codes wr.drew sx sz
            obtain ⟨q, hq⟩ : ∃ q, q = lessL x.codes z.codes := ⟨_, rfl⟩
            rw [← hq] at hLs
            rw [← hcx.out i x hxo.out, ← hcx.out y z hz] at hq
            have hgt : q = false → lessL (c y) (c i) = true := fun e => by
              rcases lessL_total (c i) (c y) (fun e2 => by have := hinj.out i y hlt (by omega) e2; omega) with h | h
              · rw [← hq, e] at h; cases h
              · exact h
            have hkb : decide (0 < k) = true := by simp; omega
            have hj1 : j < m := by have := hm.out; omega
            have hk1' : k < m := by have := hm.out; omega
            have hwk : IntKind.i64.wrap ((k : Int) - 1) = (j : Int) := by rw [show (k : Int) - 1 = (j : Int) by omega]; exact IntWalk.i64_in _ (by omega)
            have hyn : y < n := by omega
            generalize hnx : x.codes.length = nx at e1 hLs
            generalize hnz : z.codes.length = nz at e2 hLs
            have RR := Lib.hid (And.intro hAy (And.intro hAl (And.intro hq hgt)))
            have hkj' := Lib.hid hkj
            have hgr := Lib.hid hG.out
            have hrr := Lib.hid hR.out
            have hS0' : wr.drew.cell? ⟨g, k, none⟩ = some (.int .i64 (i : Int)) ∧ wr.drew.cell? ⟨g, j, none⟩ = some (.int .i64 (y : Int)) ∧ wr.drew.cell? ⟨b0, o0 + i * 2, none⟩ = some (.slice xa nx xc) ∧ wr.drew.cell? ⟨b0, o0 + y * 2, none⟩ = some (.slice za nz zc) := ⟨d1, d2, e1, e2⟩
            clear hAy hAl hyO hyi hz gd hgw sx sz hk1 hk2 hRd hBg hgs hln d1 d2 f1 f2 e1 e2 hq hgt hkj hnx hnz hG hR hk0 hO3
            go_wp2_with fail
            refine wp_region_held_drew (S := fun V => V.cell? ⟨g, k, none⟩ = some (.int .i64 (i : Int)) ∧ V.cell? ⟨g, j, none⟩ = some (.int .i64 (y : Int)) ∧ V.cell? ⟨b0, o0 + i * 2, none⟩ = some (.slice xa nx xc) ∧ V.cell? ⟨b0, o0 + y * 2, none⟩ = some (.slice za nz zc)) (by kernel_rfl) hS0' (fun hS0 => ?_)
            refine wpAnyH_take (i := 0) (oi := ⟨some 18, _, _, _, _, _⟩) (v := ?_) rfl (by kernel_rfl) (by kernel_rfl) (by kernel_rfl) (fun _ _ _ h => h) (Or.inl ⟨by rfl, ?_⟩) (by assumption) ?_
            rotate_left
            · (intro w hSw; (try dsimp only at hSw); go_simp; try with_reducible rfl)
            try simp only [Act.put, List.setIfInBounds_toArray, List.set_cons_zero, List.set_cons_succ]
            refine wpAnyH_take (i := 1) (oi := ⟨some 19, _, _, _, _, _⟩) (v := ?_) rfl (by kernel_rfl) (by kernel_rfl) (by kernel_rfl) (fun _ _ _ h => h) (Or.inl ⟨by rfl, ?_⟩) (by assumption) ?_
            rotate_left
            · (intro w hSw; (try dsimp only at hSw); go_simp; try with_reducible rfl)
            try simp only [Act.put, List.setIfInBounds_toArray, List.set_cons_zero, List.set_cons_succ]
            refine wpAnyH_take (i := 2) (oi := ⟨some 20, _, _, _, _, _⟩) (v := ?_) rfl (by kernel_rfl) (by kernel_rfl) (by kernel_rfl) (fun _ _ _ h => h) (Or.inl ⟨by rfl, ?_⟩) (by assumption) ?_
            rotate_left
            · (intro w hSw; (try dsimp only at hSw); go_simp; try with_reducible rfl)
            try simp only [Act.put, List.setIfInBounds_toArray, List.set_cons_zero, List.set_cons_succ]
            refine wpAnyH_take (i := 3) (oi := ⟨some 21, _, _, _, _, _⟩) (v := ?_) rfl (by kernel_rfl) (by kernel_rfl) (by kernel_rfl) (fun _ _ _ h => h) (Or.inl ⟨by rfl, ?_⟩) (by assumption) ?_
            rotate_left
            · (intro w hSw; (try dsimp only at hSw); go_simp; try with_reducible rfl)
            try simp only [Act.put, List.setIfInBounds_toArray, List.set_cons_zero, List.set_cons_succ]
            refine wpAnyH_take (i := 4) (oi := ⟨some 22, _, _, _, _, _⟩) (v := ?_) rfl (by kernel_rfl) (by kernel_rfl) (by kernel_rfl) (fun _ _ _ h => h) (Or.inl ⟨by rfl, ?_⟩) (by assumption) ?_
            rotate_left
            · (intro w hSw; (try dsimp only at hSw); go_simp; try with_reducible rfl)
            try simp only [Act.put, List.setIfInBounds_toArray, List.set_cons_zero, List.set_cons_succ]
            refine wpAnyH_take (i := 5) (oi := ⟨some 23, _, _, _, _, _⟩) (v := ?_) rfl (by kernel_rfl) (by kernel_rfl) (by kernel_rfl) (fun _ _ _ h => h) (Or.inl ⟨by rfl, ?_⟩) (by assumption) ?_
            rotate_left
            · (intro w hSw; (try dsimp only at hSw); go_simp; try with_reducible rfl)
            try simp only [Act.put, List.setIfInBounds_toArray, List.set_cons_zero, List.set_cons_succ]
            refine wpAnyH_take (i := 6) (oi := ⟨some 24, _, _, _, _, _⟩) (v := ?_) rfl (by kernel_rfl) (by kernel_rfl) (by kernel_rfl) (fun _ _ _ h => h) (Or.inl ⟨by rfl, ?_⟩) (by assumption) ?_
            rotate_left
            · (intro w hSw; (try dsimp only at hSw); go_simp; try with_reducible rfl)
            try simp only [Act.put, List.setIfInBounds_toArray, List.set_cons_zero, List.set_cons_succ]
            refine wpAnyH_take (i := 7) (oi := ⟨some 25, _, _, _, _, _⟩) (v := ?_) rfl (by kernel_rfl) (by kernel_rfl) (by kernel_rfl) (fun _ _ _ h => h) (Or.inl ⟨by rfl, ?_⟩) (by assumption) ?_
            rotate_left
            · (intro w hSw; (try dsimp only at hSw); go_simp; try with_reducible rfl)
            try simp only [Act.put, List.setIfInBounds_toArray, List.set_cons_zero, List.set_cons_succ]
            refine wpAnyH_take (i := 8) (oi := ⟨some 26, _, _, _, _, _⟩) (v := ?_) rfl (by kernel_rfl) (by kernel_rfl) (by kernel_rfl) (fun _ _ _ h => h) (Or.inl ⟨by rfl, ?_⟩) (by assumption) ?_
            rotate_left
            · (intro w hSw; (try dsimp only at hSw); go_simp; try with_reducible rfl)
            try simp only [Act.put, List.setIfInBounds_toArray, List.set_cons_zero, List.set_cons_succ]
            refine wpAnyH_take (i := 9) (oi := ⟨some 27, _, _, _, _, _⟩) (v := ?_) rfl (by kernel_rfl) (by kernel_rfl) (by kernel_rfl) (fun _ _ _ h => h) (Or.inl ⟨by rfl, ?_⟩) (by assumption) ?_
            rotate_left
            · (intro w hSw; (try dsimp only at hSw); go_simp; try with_reducible rfl)
            try simp only [Act.put, List.setIfInBounds_toArray, List.set_cons_zero, List.set_cons_succ]
            refine wpAnyH_take (i := 10) (oi := ⟨some 28, _, _, _, _, _⟩) (v := ?_) rfl (by kernel_rfl) (by kernel_rfl) (by kernel_rfl) (fun _ _ _ h => h) (Or.inl ⟨by rfl, ?_⟩) (by assumption) ?_
            rotate_left
            · (intro w hSw; (try dsimp only at hSw); go_simp; try with_reducible rfl)
            try simp only [Act.put, List.setIfInBounds_toArray, List.set_cons_zero, List.set_cons_succ]
            refine wpAnyH_take (i := 11) (oi := ⟨some 29, _, _, _, _, _⟩) (v := ?_) rfl (by kernel_rfl) (by kernel_rfl) (by kernel_rfl) (fun _ _ _ h => h) (Or.inl ⟨by rfl, ?_⟩) (by assumption) ?_
            rotate_left
            · (intro w hSw; (try dsimp only at hSw); go_simp; try with_reducible rfl)
            try simp only [Act.put, List.setIfInBounds_toArray, List.set_cons_zero, List.set_cons_succ]
            refine wpAnyH_take (i := 12) (oi := ⟨some 30, _, _, _, _, _⟩) (v := ?_) rfl (by kernel_rfl) (by kernel_rfl) (by kernel_rfl) (fun _ _ _ h => h) (Or.inl ⟨by rfl, ?_⟩) (by assumption) ?_
            rotate_left
            · (intro w hSw; (try dsimp only at hSw); go_simp; try with_reducible rfl)
            try simp only [Act.put, List.setIfInBounds_toArray, List.set_cons_zero, List.set_cons_succ]
            refine wpAnyH_take (i := 13) (oi := ⟨some 31, _, _, _, _, _⟩) (v := ?_) rfl (by kernel_rfl) (by kernel_rfl) (by kernel_rfl) (fun _ _ _ h => h) (Or.inl ⟨by rfl, ?_⟩) (by assumption) ?_
            rotate_left
            · (intro w hSw; (try dsimp only at hSw); go_simp; try with_reducible rfl)
            try simp only [Act.put, List.setIfInBounds_toArray, List.set_cons_zero, List.set_cons_succ]
            refine wpAnyH_take (i := 14) (oi := ⟨some 32, _, _, _, _, _⟩) (v := ?_) rfl (by kernel_rfl) (by kernel_rfl) (by kernel_rfl) (fun _ _ _ h => h) (Or.inl ⟨by rfl, ?_⟩) (by assumption) ?_
            rotate_left
            · (intro w hSw; (try dsimp only at hSw); go_simp; try with_reducible rfl)
            try simp only [Act.put, List.setIfInBounds_toArray, List.set_cons_zero, List.set_cons_succ]
            refine wpAnyH_take (i := 15) (oi := ⟨some 33, _, _, _, _, _⟩) (v := ?_) rfl (by kernel_rfl) (by kernel_rfl) (by kernel_rfl) (fun _ _ _ h => h) (Or.inl ⟨by rfl, ?_⟩) (by assumption) ?_
            rotate_left
            · (intro w hSw; (try dsimp only at hSw); go_simp; try with_reducible rfl)
            try simp only [Act.put, List.setIfInBounds_toArray, List.set_cons_zero, List.set_cons_succ]
            refine wpAnyH_take (i := 16) (oi := ⟨some 34, _, _, _, _, _⟩) (v := ?_) rfl (by kernel_rfl) (by kernel_rfl) (by kernel_rfl) (fun _ _ _ h => h) (Or.inl ⟨by rfl, ?_⟩) (by assumption) ?_
            rotate_left
            · (intro w hSw; (try dsimp only at hSw); go_simp; try with_reducible rfl)
            try simp only [Act.put, List.setIfInBounds_toArray, List.set_cons_zero, List.set_cons_succ]
            refine wpAnyH_take (i := 17) (oi := ⟨some 35, _, _, _, _, _⟩) (v := ?_) rfl (by kernel_rfl) (by kernel_rfl) (by kernel_rfl) (fun _ _ _ h => h) (Or.inl ⟨by rfl, ?_⟩) (by assumption) ?_
            rotate_left
            · (intro w hSw; (try dsimp only at hSw); go_simp; try with_reducible rfl)
            try simp only [Act.put, List.setIfInBounds_toArray, List.set_cons_zero, List.set_cons_succ]
            refine wpAnyH_take (i := 18) (oi := ⟨some 36, _, _, _, _, _⟩) (v := ?_) rfl (by kernel_rfl) (by kernel_rfl) (by kernel_rfl) (fun _ _ _ h => h) (Or.inl ⟨by rfl, ?_⟩) (by assumption) ?_
            rotate_left
            · (intro w hSw; (try dsimp only at hSw); go_simp; try with_reducible rfl)
            try simp only [Act.put, List.setIfInBounds_toArray, List.set_cons_zero, List.set_cons_succ]
            refine wpAnyH_take (i := 19) (oi := ⟨some 37, _, _, _, _, _⟩) (v := ?_) rfl (by kernel_rfl) (by kernel_rfl) (by kernel_rfl) (fun _ _ _ h => h) (Or.inl ⟨by rfl, ?_⟩) (by assumption) ?_
            rotate_left
            · (intro w hSw; (try dsimp only at hSw); go_simp; try with_reducible rfl)
            try simp only [Act.put, List.setIfInBounds_toArray, List.set_cons_zero, List.set_cons_succ]
            refine wpAnyH_ready (rs := [20]) (by kernel_rfl) (by simp) ?_
            refine AllReadyH.cons rfl (fun K hK => ?_) AllReadyH.nil
            go_simp
            refine hLs.mono ?_
            rintro e W5 ⟨rfl, hg6⟩
            have hS6 := And.intro (hg6.cell hS0.1 (by simp)) (And.intro (hg6.cell hS0.2.1 (by simp)) (And.intro (hg6.cell hS0.2.2.1 (by simp)) (hg6.cell hS0.2.2.2 (by simp))))
            go_wp2_with fail
            refine hK.out _ _ hS6 (fun hS7 => ?_)
            clear hK
            refine wpAnyH_take (i := 21) (oi := ⟨some 39, _, _, _, _, _⟩) (v := ?_) rfl (by kernel_rfl) (by kernel_rfl) (by kernel_rfl) (fun _ _ _ h => h) (Or.inl ⟨by rfl, ?_⟩) (by assumption) ?_
            rotate_left
            · (intro w hSw; (try dsimp only at hSw); go_simp; try with_reducible rfl)
            try simp only [Act.put, List.setIfInBounds_toArray, List.set_cons_zero, List.set_cons_succ]
            refine wpAnyH_done (by kernel_rfl) ?_ _
            have hg5 := Lib.hid (((gdrew (World.grownBy.refl wr none)).trans hg6))
            have hR5 := Lib.hid (hrr.out.new hg5.out)
            have hG5 := Lib.hid (hgr.out.trans hg5.out)
            clear hS0 hS0' hS6 hS7 hg6 hg5 hLs hrr hgr
            cases q with
            | false =>
              have hF := Lib.hid (FIN.out (fun y' h => by
                rw [RR.out.1] at h
                simp at h
                rw [← h]
                exact RR.out.2.2.2 rfl))
              clear hwk hj1 hk1' hkb hyn
              go_wp2_with fail
              go_roundw
              case rel => exact ⟨i + 1, A ++ i :: B, by go_num, by omega, by have := hR5.out; rw [hm.out, ← hF.out.2.2] at this; rw [hm.out, ← hF.out.2.2]; exact Lib.hid this, hF, hG5⟩
              case measure => simp [RowKit.intOf]; omega
            | true =>
              obtain ⟨r1, r2, r3, r4⟩ := RR.out
              have hRe : A ++ i :: B = A' ++ y :: i :: B := by rw [r1]; simp
              have hR6 := hR5.out
              rw [hRe] at hR6
              have hk1 : (A' ++ y :: i :: B)[k]? = some i := by rw [List.getElem?_append_right (by have := hkj'.out; omega), hkj'.out, ← r2]; simp
              have hk2 : (A' ++ y :: i :: B)[j]? = some y := by rw [List.getElem?_append_right (by omega), r2]; simp
              have hR6d := hR6.new (gdrew (World.grownBy.refl W5 none))
              obtain ⟨g1, e', hBg, hgs, hln, d1, f1⟩ := hR6d.at hk1
              obtain ⟨g2, e'', -, -, -, d2, f2⟩ := hR6d.at hk2
              cases e'
              cases e''
              obtain ⟨g3, e', -, -, -, d3, f3⟩ := hR6.at hk1
              obtain ⟨g4, e'', -, -, -, d4, f4⟩ := hR6.at hk2
              cases e'
              cases e''
              have hsw : Hid (∀ W, NumsO W w.heap.size (.slice (some ⟨g, 0, none⟩) m sc3) (A' ++ y :: i :: B) → NumsO ((W.setCell ⟨g, j, none⟩ (.int .i64 (i : Int))).setCell ⟨g, k, none⟩ (.int .i64 (y : Int))) w.heap.size (.slice (some ⟨g, 0, none⟩) m sc3) (A' ++ i :: y :: B)) := Lib.hid fun W hW => by
                have hl : m = (A' ++ y :: i :: B).length := hln
                rw [hl] at hW ⊢
                have := hW.swap
                rw [r2] at this
                rw [hkj'.out]
                exact this
              have hB2 : Hid (∀ b ∈ y :: B, lessL (c i) (c b) = true) := Lib.hid (by
                intro b hb
                rcases List.mem_cons.1 hb with rfl | hb
                · exact r3.symm
                · exact hB.out b hb)
              have hAB2 : Hid (A' ++ y :: B = O) := Lib.hid (by rw [← hAB.out, r1]; simp)
              have hA2 : Hid (A'.length = j) := Lib.hid r2
              replace hR6 := Lib.hid hR6
              have hBg' := Lib.hid hBg
              clear r1 r2 r3 r4 hRe hk1 hk2 hR6d hln hgs hBg FIN RR hAB hB hA hR5
              have hGF : Hid (∀ W : World, NumsO W w.heap.size (.slice (some ⟨g, 0, none⟩) m sc3) (A' ++ y :: i :: B) → w.grownBy W none → w.grownBy ((W.setCell ⟨g, j, none⟩ (.int .i64 (i : Int))).setCell ⟨g, k, none⟩ (.int .i64 (y : Int))) none) := Lib.hid fun W hW hg => by
                have h1 := World.ownsRow.lt hW g rfl
                exact gnew hg (gset (gset (World.grownBy.refl W (some g)) j _) k _) (fun r e => by cases e; left; exact h1.1)
              have hne1 : k ≠ j := by have := hkj'.out; omega
              have hne2 : j ≠ k := fun e => hne1 e.symm
              go_wp2_with fail
              go_region
              all_goals go_wp2_with fail
              go_roundw
              case rel => exact ⟨j, A', y :: B, by go_num, by have := hkj'.out; omega, hA2, hAB2, hB2, hsw.out W5 hR6.out, Lib.hid ((hGF.out W5 hR6.out hG5.out).trans (gdrew (World.grownBy.refl _ none)))⟩
              case measure => simp [RowKit.intOf]; have := hkj'.out; omega
    · obtain rfl : n = i := by omega
      obtain ⟨sa, sc, rfl⟩ := hO.out.form
      have Q := Lib.hid (And.intro hO.out (And.intro hS.out hG.out))
      clear hO hS hG
      go_wp2_with fail
      go_ret
      obtain ⟨q1, q2, q3⟩ := Q.out
      exact ⟨_, O, rfl, q1, q2.1, q2.2.1, q2.2.2, q3⟩
end Go.Proofs.Ytlnplompnabmlaa

/-
  LAYER 9 (trie): the reference's Under: the numbers of the entries that begin with a list, in order.
-/
namespace Go.Proofs.Ytlnplompnabmlaa
set_option maxRecDepth 100000
open Go.RowKit Go.Lib
attribute [local go_sem] Oper.semAt_some

theorem under_snoc (c : Nat → List Int) (O : List Nat) (i : Nat) (p : List Int) : underL c (O ++ [i]) p = underL c O p ++ if p.isPrefixOf (c i) then [i] else [] := by
  unfold underL
  rw [List.filter_append]
  congr 1
  by_cases h : p.isPrefixOf (c i) = true
  · simp [h]
  · simp [h]

set_option maxHeartbeats 8000000 in
theorem rUnder_any (P P' : Nat → Prop) (v vp : Value) (L : List Ent) (p : List Int) (w : World) (h : EntsR P w v L) (hp : SR P' 1 w vp p.length (rc p)) (hd : (L.map (·.codes)).Nodup) (hlen : L.length ≤ 4000) :
    Calls Try.prog 24 #[v, vp] w fun e w' => ∃ v' O, e = .returned v' ∧ Strict (codesAt (L.map (·.codes))) O ∧ (∀ i, i ∈ O ↔ i < L.length) ∧ NumsO w' w.heap.size v' (underL (codesAt (L.map (·.codes))) O p) ∧ w.grownBy w' none := by
  have hOr := rOrder_any P v L w h hd hlen
  obtain ⟨a0, c0, rfl, hc0, hm0⟩ : ∃ a c, v = .slice a L.length c ∧ L.length ≤ c ∧ c ≤ maxLen := by obtain ⟨vs, _, h2, _⟩ := h; exact h2.form
  obtain ⟨a1, c1, rfl, _⟩ := hp.form
  clear hm0 hc0
  obtain ⟨c, hc⟩ : ∃ c, c = codesAt (L.map (·.codes)) := ⟨_, rfl⟩
  have hcx : ∀ i x, L[i]? = some x → c i = x.codes := fun i x hx => by rw [hc]; simp [codesAt, hx]
  rw [← hc] at hOr ⊢
  clear hc hd
  obtain ⟨n, hn⟩ : ∃ n, n = L.length := ⟨_, rfl⟩
  rw [← hn] at hlen hOr ⊢
  obtain ⟨np, hnp⟩ : ∃ n, n = p.length := ⟨_, rfl⟩
  obtain ⟨i0, hi, hz0, hz1, hz2⟩ := infoInt_parts
  replace hi := Lib.hid hi
  replace hz0 := Lib.hid hz0
  replace hz1 := Lib.hid hz1
  replace hz2 := Lib.hid hz2
  have HE : Hid (∀ W, w.grownBy W none → EntsR P W (.slice a0 n c0) L) := Lib.hid fun W g => by rw [hn]; exact h.new g
  have HP : Hid (∀ W, w.grownBy W none → SR P' 1 W (.slice a1 np c1) p.length (rc p)) := Lib.hid fun W g => by rw [hnp]; exact hp.new g
  rw [← hnp]
  replace hcx := Lib.hid hcx
  replace hn := Lib.hid hn
  replace hnp := Lib.hid hnp
  clear h hp
  go_enter Try.func24, Try.ntmps24
  go_wp2_with (go_at_call 22; refine hOr.mono ?_; clear hOr; rintro e w1 ⟨vo, O, rfl, hO, hs, hm, hl, g1⟩; obtain ⟨ao, co, rfl⟩ := hO.form; rw [hl] at hO ⊢)
  have HO : Hid (∀ W, w1.grownBy W none → NumsO W w.heap.size (.slice ao n co) O) := Lib.hid fun W g => hO.new g
  have HS := Lib.hid (And.intro hs (And.intro hm hl))
  replace g1 := Lib.hid g1
  clear hO hs hm hl
  go_loopw [5, 11] (fun v5 v11 wr => ∃ (k : Nat), v11 = .int .i64 (k : Int) ∧ k ≤ n ∧ Hid (NumsO wr w1.heap.size v5 (underL c (O.take k) p)) ∧ Hid (w1.grownBy wr none)) (fun _ v11 _ => n - (RowKit.intOf v11).toNat)
  case atStart => exact ⟨0, rfl, Nat.zero_le _, Lib.hid (World.ownsRow_nil _ _ _ _), World.grownBy.refl _ _⟩
  case round =>
    obtain ⟨k, rfl, hk1, hU, hG⟩ := hrel
    by_cases hlt : k < n
    · have hltz : (k : Int) < (n : Int) := by omega
      obtain ⟨i, hi'⟩ : ∃ i, O[k]? = some i := ⟨_, List.getElem?_eq_getElem (by have := HS.out.2.2; omega)⟩
      have hin : i < n := (HS.out.2.1 i).1 (List.mem_of_getElem? hi')
      obtain ⟨x, hx⟩ : ∃ x, L[i]? = some x := ⟨_, List.getElem?_eq_getElem (by have := hn.out; omega)⟩
      obtain ⟨g, rfl, -, -, -, d1, -⟩ := (HO.out _ hG.out).at hi'
      obtain ⟨b0, o0, xa, xc, rfl, e1, sx⟩ := ents_codes (HE.out _ (g1.out.trans hG.out)) hx
      have hBg := begins2_any P P' _ _ x.codes p wr sx (HP.out _ (g1.out.trans hG.out))
      rw [← hcx.out i x hx] at hBg
      have hst : Hid (underL c (O.take (k + 1)) p = underL c (O.take k) p ++ if p.isPrefixOf (c i) then [i] else []) := Lib.hid (by
        obtain ⟨h1, h2⟩ := List.getElem?_eq_some_iff.1 hi'
        rw [List.take_succ_eq_append_getElem h1, h2, under_snoc])
      obtain ⟨q, hq⟩ : ∃ q, q = decide (p <+: c i) := ⟨_, rfl⟩
      rw [← hq] at hBg
      have hq2 : p.isPrefixOf (c i) = q := by
        rw [hq]
        cases h2 : p.isPrefixOf (c i) with
        | true => exact (decide_eq_true (List.isPrefixOf_iff_prefix.1 h2)).symm
        | false => exact (decide_eq_false (fun h3 => by rw [List.isPrefixOf_iff_prefix.2 h3] at h2; cases h2)).symm
      rw [hq2] at hst
      rw [← hcx.out i x hx] at e1
      generalize hnx : (c i).length = nx at e1 hBg
      clear hnx hq hq2 hx sx hi'
      obtain ⟨u1, u2, hv5⟩ := hU.out.form
      subst hv5
      generalize hul : (underL c (O.take k) p).length = ul at *
      replace hul := Lib.hid hul
      have hul2 : ul ≤ n := by rw [← hul.out]; unfold underL; exact Nat.le_trans (List.length_filter_le _ _) (by rw [List.length_take]; omega)
      have hG2 : Hid (∀ w2, wr.grownBy w2 none → w1.grownBy w2 none) := Lib.hid fun w2 g => hG.out.trans g
      cases q with
      | false =>
        have hU2 : Hid (∀ w2, wr.grownBy w2 none → NumsO w2 w1.heap.size (.slice u1 ul u2) (underL c (O.take (k + 1)) p)) := Lib.hid fun w2 g => by rw [hst.out]; simpa using hU.out.new g
        clear hU hG hst
        go_wp2_with (go_at_call 38; refine hBg.mono ?_; clear hBg; rintro e w2 ⟨rfl, g2⟩)
        go_roundw
        case rel => exact ⟨k + 1, by go_num, by omega, Lib.hid (hU2.out _ g2), Lib.hid (hG2.out _ g2)⟩
        case measure => simp [RowKit.intOf]; omega
      | true =>
        have hK : Hid (∀ w2, wr.grownBy w2 none → (w2.alloc (.cells #[.int .i64 (i : Int)] 3)).ownsRow w1.heap.size 3 1 (.slice u1 ul u2) ul ((underL c (O.take k) p).map fun i : Nat => .int .i64 (i : Int))) := Lib.hid fun w2 g => by
          have h1 := hU.out.new (g.trans (World.grownBy_alloc w2 (.cells #[.int .i64 (i : Int)] 3) none))
          unfold NumsO at h1
          rw [hul.out] at h1
          exact h1
        have cS : ∀ w2 : World, (w2.alloc (.cells #[.int .i64 (i : Int)] 3)).cell? ⟨w2.heap.size, 0, none⟩ = some (.int .i64 (i : Int)) := fun w2 => by
          have eS := World.alloc_heap_new w2 (.cells #[.int .i64 (i : Int)] 3)
          simp only [World.cell?, eS]
          rfl
        replace cS := Lib.hid cS
        clear hU hG
        go_wp2_with first
          | (go_at_call 38; refine hBg.mono ?_; clear hBg; rintro e w2 ⟨rfl, g2⟩)
          | (at_builtin; refine wpList_append_own _ rfl _ _ 51 rfl w1.heap.size 3 i0 (.int .i64 0) 1 8 Try.underlying51 hi.out hz0.out hz1.out hz2.out rfl (by decide) (.slice u1 ul u2) ul ((underL c (O.take k) p).map fun i : Nat => .int .i64 (i : Int)) rfl (hK.out w2 g2) ⟨w2.heap.size, 0, none⟩ 1 1 [.int .i64 (i : Int)] rfl rfl ?q1 ?q2 (by unfold maxLen; omega) (by omega) ?q3 ?q4)
        case q1 =>
          intro j u hj
          match j, hj with
          | 0, hj => simp at hj; subst hj; exact cS.out w2
        case q2 => first | rfl | (intro u hu; simp at hu; subst hu; rfl)
        case q3 => have h5 := (hG2.out _ g2).size; simp; omega
        case q4 =>
          intro v3 w3 ho3 g3 _
          have gS := World.grownBy_alloc w2 (.cells #[.int .i64 (i : Int)] 3) none
          have hO3 : NumsO w3 w1.heap.size v3 (underL c (O.take (k + 1)) p) := by
            rw [hst.out]
            unfold NumsO
            rw [if_pos trivial, List.length_append, hul.out, List.map_append]
            exact ho3
          have gF := Lib.hid (gnew ((hG2.out _ g2).trans gS) g3 (fun r e => by left; exact (World.ownsRow.lt (hK.out w2 g2) r e).1))
          replace hO3 := Lib.hid hO3
          clear g3 ho3 gS
          go_wp2_with fail
          exact ⟨⟨k + 1, by go_num, by omega, hO3, gF⟩, by simp [RowKit.intOf]; omega⟩
    · obtain rfl : n = k := by omega
      obtain ⟨u1, u2, hv5⟩ := hU.out.form
      subst hv5
      have Q : Hid (NumsO wr w.heap.size (.slice u1 (underL c (O.take n) p).length u2) (underL c O p)) := Lib.hid (by
        have h1 := hU.out
        rw [← HS.out.2.2, List.take_length] at h1 ⊢
        exact World.ownsRow.mono h1 g1.out.size)
      have hg := Lib.hid (g1.out.trans hG.out)
      have hS2 := HS
      clear hU hG HO HE HP HS
      go_wp2_with fail
      go_ret
      exact ⟨_, O, rfl, hS2.out.1, hS2.out.2.1, Q.out, hg.out⟩
end Go.Proofs.Ytlnplompnabmlaa
