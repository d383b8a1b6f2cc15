/-
  LAYER 6 (norm): the stable sort's merge in place, where the second list has one element only.
-/
import Derived.Test.YtpdacbiiaglodaaGreatQG19
namespace Go.Proofs.YtpdacbiiaglodaaGreat
set_option maxRecDepth 100000
open Go.Shelf Go.RowKit Go.Lib Go.Sort

set_option maxHeartbeats 8000000 in
theorem sym_last {Pg : Program} {α : Type} [Inhabited α] {enc : α → List Value} {k : Nat} (Lt : SlLaysF0.n20 Pg ins_ren) (aE : ∀ w, (isAgg 170).run Pg w = .ok true w) (zE : ∀ w, (Go.sizeOf 170).run Pg w = .ok k w) (Lu : UintAt Pg) (FY : Pg.funcs[169]? = some Tryz.f169) {key : α → Int} (cf : α → α → Int) (hkey : ∀ x y, cf x y < 0 ↔ key x < key y) (g : Nat) (cb : Array Value) (eg : ∀ args w, (callFunc g args).run Pg w = .ok (.enter g args) w) (w0 w : World) (blk off cap : Nat) (d0 d : Array α) (X U Y : List α) (v : α) (hcmp : CmpLays Pg g cb enc k cf blk off d0.size w0) (R : RowK enc k w0 blk off d0) (hs : d0.size = d.size) (S : SWK enc k w0 blk off d w) (hd : d.toList = X ++ (U ++ ([v] ++ Y))) (hU : Srt key U) (hsz : d.size < 4611686018427387904)
    (a m b : Nat) (ha : a = X.length) (hm : m = a + U.length) (hb : b = m + 1) (hn1 : U.length ≠ 1) :
    Calls Pg 169 #[.slice (some ⟨blk, off, none⟩) d.size cap, .int .i64 a, .int .i64 m, .int .i64 b, .func (.func g) #[] cb] w fun e w' =>
      e = .returned (.tuple #[]) ∧ ∃ d' M, d'.toList = X ++ (M ++ Y) ∧ StM key (U ++ [v]) M ∧ d'.size = d.size ∧ SWK enc k w0 blk off d' w' := by
  have hl : d.size = X.length + U.length + 1 + Y.length := by rw [size_list d _ hd]; simp; omega
  have S0 : Aside (SWK enc k w0 blk off d w) := S
  have HC : Aside _ := hcmp
  have HKEY : Hid (∀ x y, cf x y < 0 ↔ key x < key y) := hkey
  clear S hcmp hkey
  have mixed := Lt.mixed; have t0 : Pg.underlying 0 = _ := Lt.t0; have a0 : ∀ w, (isAgg 0).run Pg w = _ := Lt.a0; have z0 : ∀ w, (Go.sizeOf 0).run Pg w = _ := Lt.z0; have v0 : ∀ w, (zeroValue 0).run Pg w = _ := Lt.v0; have t3 : Pg.underlying 3 = _ := Lt.t3; have a3 : ∀ w, (isAgg 3).run Pg w = _ := Lt.a3; have z3 : ∀ w, (Go.sizeOf 3).run Pg w = _ := Lt.z3; have v3 : ∀ w, (zeroValue 3).run Pg w = _ := Lt.v3; have t4 : Pg.underlying 4 = _ := Lt.t4; have a4 : ∀ w, (isAgg 4).run Pg w = _ := Lt.a4; have z4 : ∀ w, (Go.sizeOf 4).run Pg w = _ := Lt.z4; have v4 : ∀ w, (zeroValue 4).run Pg w = _ := Lt.v4; have t22 : Pg.underlying 168 = some (TypeDesc.slice 170) := Lt.t22; have a22 : ∀ w, (isAgg 168).run Pg w = _ := Lt.a22; have z22 : ∀ w, (Go.sizeOf 168).run Pg w = _ := Lt.z22; have v22 : ∀ w, (zeroValue 168).run Pg w = _ := Lt.v22
  have t144 := Lu.t; have a144 := Lu.a; have z144 := Lu.z; have v144 := Lu.v
  have hnone : ¬ ((m : Int) - (a : Int) = 1) := by omega
  have hnb : ((m : Int) - (a : Int) == 1) = false := beq_eq_false_iff_ne.2 hnone
  have hone : (b : Int) - (m : Int) = 1 := by omega
  have HM : Hid (Mono (fun h => key d[h]! ≤ key d[m]!) a m) := by have := mono_last hd hU; rw [← ha, ← hm] at this; exact this
  have HF : Hid (∀ i, Srch (fun h => key d[h]! ≤ key d[m]!) a m i i → (∀ u ∈ U.take (i - a), key u ≤ key v) ∧ (∀ u ∈ U.drop (i - a), key v < key u)) := fun i hi => by
    have := found_last (key := key) hd i (by rw [← ha, ← hm]; exact hi)
    rw [← ha] at this
    exact this
  have HD0 : Hid (d.toList = X ++ (U ++ ([v] ++ Y))) := hd
  have HV : Hid (Srt key U ∧ a = X.length ∧ m = a + U.length) := ⟨hU, ha, hm⟩
  have hbd : m < d.size := by omega
  have ham : a ≤ m := by omega
  clear hd hU hl ha hm hn1 hb
  go_enter FY, Tryz.ntmps169
  go_wp2
  go_loopg [14, 15] (m - a) (fun kx s10 s11 wr => ∃ (i j : Nat), s10 = .int .i64 i ∧ s11 = .int .i64 j ∧ a ≤ i ∧ i ≤ j ∧ j ≤ m ∧ j - i ≤ kx ∧ Aside (SWK enc k w0 blk off d wr) ∧ Hid (Srch (fun h => key d[h]! ≤ key d[m]!) a m i j))
  case atStart => exact ⟨a, m, rfl, rfl, Nat.le_refl _, ham, Nat.le_refl _, Nat.le_refl _, S0, Srch.start ham⟩
  case round =>
    clear S0
    obtain ⟨i, j, rfl, rfl, h1, h2, h3, hkx, S1, HS⟩ := hrel
    by_cases hlt : i < j
    · have hltz : (i : Int) < (j : Int) := by omega
      obtain ⟨h, hh⟩ : ∃ h, h = (i + j) / 2 := ⟨_, rfl⟩
      go_wp2_with fail
      have eh : ((i : Int) + (j : Int)) / 2 = (h : Int) := by omega
      have hhm : a ≤ h ∧ i ≤ h ∧ h < j := by omega
      rw [eh]
      clear eh
      replace hh : Hid (h = (i + j) / 2) := hh
      have ea : ((h : Int)).toNat = h := by omega
      have pa : (0 : Int) ≤ (h : Int) := by omega
      have ba : (h : Int) < (d.size : Int) := by omega
      have ra : IntKind.i64.wrap (h : Int) = (h : Int) := by rw [IntKind.wrap_i64]; omega
      have ec : ((m : Int)).toNat = m := by omega
      have pc : (0 : Int) ≤ (m : Int) := by omega
      have bc : (m : Int) < (d.size : Int) := by omega
      have rc : IntKind.i64.wrap (m : Int) = (m : Int) := by rw [IntKind.wrap_i64]; omega
      obtain ⟨x, hx⟩ : ∃ x, x = d[m]! := ⟨_, rfl⟩
      obtain ⟨y, hy⟩ : ∃ x, x = d[h]! := ⟨_, rfl⟩
      have la := S1.out.ld R hs.symm Pg m (by omega)
      have lb := S1.out.ld R hs.symm Pg h (by omega)
      rw [← hx] at la
      rw [← hy] at lb
      have hc := S1.out.cmp HC.out hs.symm x y
      by_cases hv : cf x y < 0
      · have HS2 : Hid (Srch (fun h => key d[h]! ≤ key d[m]!) a m i h) := by
          have : ¬ key d[h]! ≤ key d[m]! := by rw [← hx, ← hy]; exact Int.not_le.2 ((HKEY.out x y).1 hv)
          rw [hh.out] at this ⊢
          exact HS.out.down HM.out hlt this
        have hd2 : decide (cf x y < 0) = true := decide_eq_true hv
        clear hx hy HS
        go_quiet_grown (first | (go_at_fn g; refine Calls.grown_of (hc _ _)))
        have S2 : Aside (SWK enc k w0 blk off d (grow (wr.drewN nq) osq)) := S1.out.grown nq osq
        clear la lb hc S1
        generalize grow (wr.drewN nq) osq = w2 at S2 ⊢
        clear nq osq
        go_wp2
        go_roundg (h - i)
        case measure => omega
        case rel => exact ⟨i, h, rfl, rfl, h1, by omega, by omega, Nat.le_refl _, S2, HS2⟩
      · have HS2 : Hid (Srch (fun h => key d[h]! ≤ key d[m]!) a m (h + 1) j) := by
          have : key d[h]! ≤ key d[m]! := by rw [← hx, ← hy]; exact Int.not_lt.1 fun e => hv ((HKEY.out x y).2 e)
          rw [hh.out] at this ⊢
          exact HS.out.up HM.out hlt this
        have hd2 : decide (cf x y < 0) = false := decide_eq_false hv
        clear hx hy HS
        go_quiet_grown (first | (go_at_fn g; refine Calls.grown_of (hc _ _)))
        have S2 : Aside (SWK enc k w0 blk off d (grow (wr.drewN nq) osq)) := S1.out.grown nq osq
        clear la lb hc S1
        generalize grow (wr.drewN nq) osq = w2 at S2 ⊢
        clear nq osq
        go_wp2
        go_roundg (j - (h + 1))
        case measure => omega
        case rel => exact ⟨h + 1, j, by go_num, rfl, by omega, by omega, h3, Nat.le_refl _, S2, HS2⟩
    · obtain rfl : i = j := by omega
      obtain ⟨f1, f2⟩ := HF.out i HS.out
      have HP : Hid (∀ (d' : Array α) (t : Nat), t < m - i → d'.toList = (X ++ U.take (i - a)) ++ ((U.drop (i - a)).take (t + 1) ++ v :: ((U.drop (i - a)).drop (t + 1) ++ Y)) → (swp d' (i + t + 1) (i + t)).toList = (X ++ U.take (i - a)) ++ ((U.drop (i - a)).take t ++ v :: ((U.drop (i - a)).drop t ++ Y))) := fun d' t ht h => by
        have q := HV.out.2.2
        have := last_step (X ++ U.take (i - a)) (U.drop (i - a)) Y v d' t (by rw [List.length_drop]; omega) h
        rw [show (X ++ U.take (i - a)).length = i by rw [List.length_append, List.length_take, ← HV.out.2.1]; omega] at this
        exact this
      have HFin : Hid (∀ d' : Array α, d'.toList = (X ++ U.take (i - a)) ++ ((U.drop (i - a)).take 0 ++ v :: ((U.drop (i - a)).drop 0 ++ Y)) → ∃ M, d'.toList = X ++ (M ++ Y) ∧ StM key (U ++ [v]) M) := fun d' h => by
        refine ⟨U.take (i - a) ++ v :: U.drop (i - a), ?_, stm_last HV.out.1 (List.take_append_drop _ _).symm f1 f2⟩
        rw [h, List.take_zero, List.drop_zero]
        simp
      have HD1 : Hid (d.toList = (X ++ U.take (i - a)) ++ ((U.drop (i - a)).take (m - i) ++ v :: ((U.drop (i - a)).drop (m - i) ++ Y))) := by
        have q := HV.out.2.2
        show _ = _
        have e1 : (U.drop (i - a)).take (m - i) = U.drop (i - a) := List.take_of_length_le (by rw [List.length_drop]; omega)
        have e2 : (U.drop (i - a)).drop (m - i) = [] := List.drop_eq_nil_of_le (by rw [List.length_drop]; omega)
        rw [HD0.out, e1, e2, List.append_assoc, ← List.append_assoc (U.take (i - a)), List.take_append_drop]
        simp
      obtain ⟨L, hL⟩ : ∃ L : Nat → List α, L = fun t => (X ++ U.take (i - a)) ++ ((U.drop (i - a)).take t ++ v :: ((U.drop (i - a)).drop t ++ Y)) := ⟨_, rfl⟩
      have HP' : Hid (∀ (d' : Array α) (t : Nat), t < m - i → d'.toList = L (t + 1) → (swp d' (i + t + 1) (i + t)).toList = L t) := by rw [hL]; exact HP.out
      have HFin' : Hid (∀ d' : Array α, d'.toList = L 0 → ∃ M, d'.toList = X ++ (M ++ Y) ∧ StM key (U ++ [v]) M) := by rw [hL]; exact HFin.out
      have HD' : Hid (d.toList = L (m - i)) := by rw [hL]; exact HD1.out
      clear HP HFin HD1 hL f1 f2 HF HM HS HD0 HV
      obtain ⟨n, hn⟩ : ∃ n, n = m - i := ⟨_, rfl⟩
      rw [← hn] at HP' HD'
      go_wp2
      go_loopg [17] n (fun kx s17 wr => ∃ (q : Nat) (dk : Array α), s17 = .int .i64 (q : Int) ∧ q = i + kx ∧ kx ≤ n ∧ dk.size = d.size ∧ Aside (SWK enc k w0 blk off dk wr) ∧ Hid (dk.toList = L kx))
      case atStart => exact ⟨m, d, rfl, by omega, Nat.le_refl _, rfl, S1, HD'⟩
      case round =>
        clear S1 HD'
        obtain ⟨q, dk, rfl, hq, htn, hds, S1, HL⟩ := hrel
        cases gk with
        | succ t =>
          obtain ⟨p, rfl⟩ : ∃ p, q = p + 1 := ⟨q - 1, by omega⟩
          have hpe : p = i + t := by omega
          have HPE : Hid (p = i + t) := hpe
          have hltz : (i : Int) < (p : Int) + 1 := by omega
          have hpd : p + 1 < d.size := by omega
          clear hq hpe
          go_wp2_with fail
          have ea : ((p : Int) + 1).toNat = p + 1 := by omega
          have pa : (0 : Int) ≤ (p : Int) + 1 := by omega
          have ba : (p : Int) + 1 < (d.size : Int) := by omega
          have ra : IntKind.i64.wrap ((p : Int) + 1) = (p : Int) + 1 := by rw [IntKind.wrap_i64]; omega
          have ec : ((p : Int)).toNat = p := by omega
          have pc : (0 : Int) ≤ (p : Int) := by omega
          have bc : (p : Int) < (d.size : Int) := by omega
          have rc : IntKind.i64.wrap (p : Int) = (p : Int) := by rw [IntKind.wrap_i64]; omega
          have S2 : Aside (SWK enc k w0 blk off (swp dk (p + 1) p) ((wr.drew.setCells blk (off + (p + 1) * k) (enc dk[p]!)).setCells blk (off + p * k) (enc dk[p + 1]!))) := S1.out.swapped R (p + 1) p (by omega) (by omega)
          have la := S1.out.ld1 R (by omega) Pg (p + 1) (by omega)
          have lb := S1.out.ld1 R (by omega) Pg p (by omega)
          have sa := S1.out.st1 R (by omega) Pg (p + 1) (by omega) dk[p]!
          have sb := S1.out.st2 R (by omega) Pg (p + 1) p (by omega) (by omega) dk[p]! dk[p + 1]!
          have na : (enc dk[p + 1]!).length = k := R.hk _
          have nb : (enc dk[p]!).length = k := R.hk _
          have HN : Hid ((swp dk (p + 1) p).toList = L t) := by rw [HPE.out]; exact HP'.out dk t (by omega) HL.out
          clear HL
          generalize enc dk[p + 1]! = cI at S2 la sb na
          generalize enc dk[p]! = cJ at S2 lb sa sb nb
          clear S1
          go_wp2_with fail
          go_big_region_o
          clear la lb sa sb
          generalize (wr.drew.setCells blk (off + (p + 1) * k) cJ).setCells blk (off + p * k) cI = w2 at S2 ⊢
          go_wp2
          go_roundg t
          case measure => omega
          case rel => exact ⟨p, swp dk (p + 1) p, by first | rfl | go_num, HPE.out, by omega, by rw [size_swp]; exact hds, S2, HN⟩
        | zero =>
          have hqi : q = i := by omega
          clear hq
          subst hqi
          obtain ⟨M, m1, m2⟩ := HFin'.out dk HL.out
          clear HL HFin'
          go_wp2
          (try simp only [Exit.inBlock, Exit.then])
          refine bodyPost_ret (results_none rfl _ _ _) rfl ?_
          exact ⟨rfl, dk, M, m1, m2, hds, S1.out⟩
end Go.Proofs.YtpdacbiiaglodaaGreat
