/-
  LAYER 6 (norm): the stable sort's merge in place, where one list has one element only.
-/
import Derived.Test.YtpdacbiiaglodaaGreatQG04
import Derived.Test.YtpdacbiiaglodaaGreatQG18
namespace Go.Proofs.YtpdacbiiaglodaaGreat
set_option maxRecDepth 100000
open Go.Shelf Go.RowKit Go.Lib Go.Sort

/-- What is asked of the type uint. -/
structure UintAt (P : Program) : Prop where
  t : P.underlying 144 = some (TypeDesc.int IntKind.u64)
  a : ∀ w, (isAgg 144).run P w = .ok false w
  z : ∀ w, (Go.sizeOf 144).run P w = .ok 1 w
  v : ∀ w, (zeroValue 144).run P w = .ok (Value.int IntKind.u64 0) w

set_option maxHeartbeats 8000000 in
theorem sym_one {Pg : Program} {α : Type} [Inhabited α] {enc : α → List Value} {k : Nat} (Lt : SlLaysF0.n20 Pg ins_ren) (aE : ∀ w, (isAgg 170).run Pg w = .ok true w) (zE : ∀ w, (Go.sizeOf 170).run Pg w = .ok k w) (Lu : UintAt Pg) (FY : Pg.funcs[169]? = some Tryz.f169) {key : α → Int} (cf : α → α → Int) (hkey : ∀ x y, cf x y < 0 ↔ key x < key y) (g : Nat) (cb : Array Value) (eg : ∀ args w, (callFunc g args).run Pg w = .ok (.enter g args) w) (w0 w : World) (blk off cap : Nat) (d0 d : Array α) (X V Y : List α) (u : α) (hcmp : CmpLays Pg g cb enc k cf blk off d0.size w0) (R : RowK enc k w0 blk off d0) (hs : d0.size = d.size) (S : SWK enc k w0 blk off d w) (hd : d.toList = X ++ ([u] ++ (V ++ Y))) (hV : Srt key V) (hsz : d.size < 4611686018427387904)
    (a m b : Nat) (ha : a = X.length) (hm : m = a + 1) (hb : b = m + V.length) :
    Calls Pg 169 #[.slice (some ⟨blk, off, none⟩) d.size cap, .int .i64 a, .int .i64 m, .int .i64 b, .func (.func g) #[] cb] w fun e w' =>
      e = .returned (.tuple #[]) ∧ ∃ d' M, d'.toList = X ++ (M ++ Y) ∧ StM key ([u] ++ V) M ∧ d'.size = d.size ∧ SWK enc k w0 blk off d' w' := by
  have hl : d.size = X.length + 1 + V.length + Y.length := by rw [size_list d _ hd]; simp; omega
  have S0 : Aside (SWK enc k w0 blk off d w) := S
  have HC : Aside _ := hcmp
  have HKEY : Hid (∀ x y, cf x y < 0 ↔ key x < key y) := hkey
  clear S hcmp hkey
  have mixed := Lt.mixed; have t0 : Pg.underlying 0 = _ := Lt.t0; have a0 : ∀ w, (isAgg 0).run Pg w = _ := Lt.a0; have z0 : ∀ w, (Go.sizeOf 0).run Pg w = _ := Lt.z0; have v0 : ∀ w, (zeroValue 0).run Pg w = _ := Lt.v0; have t3 : Pg.underlying 3 = _ := Lt.t3; have a3 : ∀ w, (isAgg 3).run Pg w = _ := Lt.a3; have z3 : ∀ w, (Go.sizeOf 3).run Pg w = _ := Lt.z3; have v3 : ∀ w, (zeroValue 3).run Pg w = _ := Lt.v3; have t4 : Pg.underlying 4 = _ := Lt.t4; have a4 : ∀ w, (isAgg 4).run Pg w = _ := Lt.a4; have z4 : ∀ w, (Go.sizeOf 4).run Pg w = _ := Lt.z4; have v4 : ∀ w, (zeroValue 4).run Pg w = _ := Lt.v4; have t22 : Pg.underlying 168 = some (TypeDesc.slice 170) := Lt.t22; have a22 : ∀ w, (isAgg 168).run Pg w = _ := Lt.a22; have z22 : ∀ w, (Go.sizeOf 168).run Pg w = _ := Lt.z22; have v22 : ∀ w, (zeroValue 168).run Pg w = _ := Lt.v22
  have t144 := Lu.t; have a144 := Lu.a; have z144 := Lu.z; have v144 := Lu.v
  have hone : (m : Int) - (a : Int) = 1 := by omega
  have HM : Hid (Mono (fun h => key d[h]! < key d[a]!) m b) := by have := mono_one hd hV; rw [← ha, ← hm, ← hb] at this; exact this
  have HF : Hid (∀ i, Srch (fun h => key d[h]! < key d[a]!) m b i i → (∀ v ∈ V.take (i - m), key v < key u) ∧ (∀ v ∈ V.drop (i - m), key u ≤ key v)) := fun i hi => by
    have := found_one (key := key) hd i (by rw [← ha, ← hm, ← hb]; exact hi)
    rw [← ha, ← hm] at this
    exact this
  have HD0 : Hid (d.toList = X ++ ([] ++ u :: (V ++ Y))) := by show _ = _; rw [hd]; simp
  have HV : Hid (Srt key V ∧ a = X.length ∧ m = a + 1 ∧ b = m + V.length) := ⟨hV, ha, hm, hb⟩
  have hbd : b ≤ d.size := by omega
  have hmb : m ≤ b := by omega
  have ham : a < m := by omega
  clear hd hV hl ha hm hb
  go_enter FY, Tryz.ntmps169
  go_wp2
  go_loopg [10, 11] (b - m) (fun kx s10 s11 wr => ∃ (i j : Nat), s10 = .int .i64 i ∧ s11 = .int .i64 j ∧ m ≤ i ∧ i ≤ j ∧ j ≤ b ∧ j - i ≤ kx ∧ Aside (SWK enc k w0 blk off d wr) ∧ Hid (Srch (fun h => key d[h]! < key d[a]!) m b i j))
  case atStart => exact ⟨m, b, rfl, rfl, Nat.le_refl _, hmb, Nat.le_refl _, Nat.le_refl _, S0, Srch.start hmb⟩
  case round =>
    clear S0
    obtain ⟨i, j, rfl, rfl, h1, h2, h3, hkx, S1, HS⟩ := hrel
    by_cases hlt : i < j
    · have hltz : (i : Int) < (j : Int) := by omega
      obtain ⟨h, hh⟩ : ∃ h, h = (i + j) / 2 := ⟨_, rfl⟩
      go_wp2_with fail
      have eh : ((i : Int) + (j : Int)) / 2 = (h : Int) := by omega
      have hhm : m ≤ h ∧ i ≤ h ∧ h < j := by omega
      rw [eh]
      clear eh
      replace hh : Hid (h = (i + j) / 2) := hh
      have ea : ((h : Int)).toNat = h := by omega
      have pa : (0 : Int) ≤ (h : Int) := by omega
      have ba : (h : Int) < (d.size : Int) := by omega
      have ra : IntKind.i64.wrap (h : Int) = (h : Int) := by rw [IntKind.wrap_i64]; omega
      have ec : ((a : Int)).toNat = a := by omega
      have pc : (0 : Int) ≤ (a : Int) := by omega
      have bc : (a : Int) < (d.size : Int) := by omega
      have rc : IntKind.i64.wrap (a : Int) = (a : Int) := by rw [IntKind.wrap_i64]; omega
      obtain ⟨x, hx⟩ : ∃ x, x = d[h]! := ⟨_, rfl⟩
      obtain ⟨y, hy⟩ : ∃ x, x = d[a]! := ⟨_, rfl⟩
      have la := S1.out.ld R hs.symm Pg h (by omega)
      have lb := S1.out.ld R hs.symm Pg a (by omega)
      rw [← hx] at la
      rw [← hy] at lb
      have hc := S1.out.cmp HC.out hs.symm x y
      by_cases hv : cf x y < 0
      · have HS2 : Hid (Srch (fun h => key d[h]! < key d[a]!) m b (h + 1) j) := by
          have : key d[h]! < key d[a]! := by rw [← hx, ← hy]; exact (HKEY.out x y).1 hv
          rw [hh.out] at this ⊢
          exact HS.out.up HM.out hlt this
        have hd2 : decide (cf x y < 0) = true := decide_eq_true hv
        clear hx hy HS
        go_quiet_grown (first | (go_at_fn g; refine Calls.grown_of (hc _ _)))
        have S2 : Aside (SWK enc k w0 blk off d (grow (wr.drewN nq) osq)) := S1.out.grown nq osq
        clear la lb hc S1
        generalize grow (wr.drewN nq) osq = w2 at S2 ⊢
        clear nq osq
        go_wp2
        go_roundg (j - (h + 1))
        case measure => omega
        case rel => exact ⟨h + 1, j, by go_num, rfl, by omega, by omega, h3, Nat.le_refl _, S2, HS2⟩
      · have HS2 : Hid (Srch (fun h => key d[h]! < key d[a]!) m b i h) := by
          have : ¬ key d[h]! < key d[a]! := by rw [← hx, ← hy]; exact fun e => hv ((HKEY.out x y).2 e)
          rw [hh.out] at this ⊢
          exact HS.out.down HM.out hlt this
        have hd2 : decide (cf x y < 0) = false := decide_eq_false hv
        clear hx hy HS
        go_quiet_grown (first | (go_at_fn g; refine Calls.grown_of (hc _ _)))
        have S2 : Aside (SWK enc k w0 blk off d (grow (wr.drewN nq) osq)) := S1.out.grown nq osq
        clear la lb hc S1
        generalize grow (wr.drewN nq) osq = w2 at S2 ⊢
        clear nq osq
        go_wp2
        go_roundg (h - i)
        case measure => omega
        case rel => exact ⟨i, h, rfl, rfl, h1, by omega, by omega, Nat.le_refl _, S2, HS2⟩
    · obtain rfl : i = j := by omega
      obtain ⟨f1, f2⟩ := HF.out i HS.out
      have HP : Hid (∀ (d' : Array α) (t : Nat), t < i - m → d'.toList = X ++ ((V.take (i - m)).take t ++ u :: ((V.take (i - m)).drop t ++ (V.drop (i - m) ++ Y))) → (swp d' (a + t) (a + t + 1)).toList = X ++ ((V.take (i - m)).take (t + 1) ++ u :: ((V.take (i - m)).drop (t + 1) ++ (V.drop (i - m) ++ Y)))) := fun d' t ht h => by
        have q := HV.out.2.2.2
        have := one_step X (V.take (i - m)) (V.drop (i - m) ++ Y) u d' t (by rw [List.length_take]; omega) h
        rw [← HV.out.2.1] at this
        exact this
      have HFin : Hid (∀ d' : Array α, d'.toList = X ++ ((V.take (i - m)).take (i - m) ++ u :: ((V.take (i - m)).drop (i - m) ++ (V.drop (i - m) ++ Y))) → ∃ M, d'.toList = X ++ (M ++ Y) ∧ StM key ([u] ++ V) M) := fun d' h => by
        refine ⟨V.take (i - m) ++ u :: V.drop (i - m), ?_, stm_one HV.out.1 (List.take_append_drop _ _).symm f1 f2⟩
        rw [h, List.take_take, Nat.min_self, List.drop_eq_nil_of_le (by rw [List.length_take]; omega)]
        simp
      have HD1 : Hid (d.toList = X ++ ((V.take (i - m)).take 0 ++ u :: ((V.take (i - m)).drop 0 ++ (V.drop (i - m) ++ Y)))) := by
        show _ = _
        rw [HD0.out, List.take_zero, List.drop_zero, ← List.append_assoc (V.take (i - m)), List.take_append_drop]
      obtain ⟨L, hL⟩ : ∃ L : Nat → List α, L = fun t => X ++ ((V.take (i - m)).take t ++ u :: ((V.take (i - m)).drop t ++ (V.drop (i - m) ++ Y))) := ⟨_, rfl⟩
      have HP' : Hid (∀ (d' : Array α) (t : Nat), t < i - m → d'.toList = L t → (swp d' (a + t) (a + t + 1)).toList = L (t + 1)) := by rw [hL]; exact HP.out
      have HFin' : Hid (∀ d' : Array α, d'.toList = L (i - m) → ∃ M, d'.toList = X ++ (M ++ Y) ∧ StM key ([u] ++ V) M) := by rw [hL]; exact HFin.out
      have HD' : Hid (d.toList = L 0) := by rw [hL]; exact HD1.out
      clear HP HFin HD1 hL f1 f2 HF HM HS HD0 HV
      obtain ⟨n, hn⟩ : ∃ n, n = i - m := ⟨_, rfl⟩
      rw [← hn] at HP' HFin'
      go_wp2
      go_loopg [13] n (fun kx s13 wr => ∃ (t : Nat) (dk : Array α), s13 = .int .i64 ((a : Int) + (t : Int)) ∧ t ≤ n ∧ n - t ≤ kx ∧ dk.size = d.size ∧ Aside (SWK enc k w0 blk off dk wr) ∧ Hid (dk.toList = L t))
      case atStart => exact ⟨0, d, by simp, Nat.zero_le _, Nat.le_refl _, rfl, S1, HD'⟩
      case round =>
        clear S1 HD'
        obtain ⟨t, dk, rfl, htn, hkx, hds, S1, HL⟩ := hrel
        by_cases hlt : t < n
        · have hltz : (a : Int) + (t : Int) < (i : Int) - 1 := by omega
          go_wp2_with fail
          have ea : ((a : Int) + (t : Int)).toNat = a + t := by omega
          have pa : (0 : Int) ≤ (a : Int) + (t : Int) := by omega
          have ba : (a : Int) + (t : Int) < (d.size : Int) := by omega
          have ra : IntKind.i64.wrap ((a : Int) + (t : Int)) = (a : Int) + (t : Int) := by rw [IntKind.wrap_i64]; omega
          have ec : ((a : Int) + (t : Int) + 1).toNat = a + t + 1 := by omega
          have pc : (0 : Int) ≤ (a : Int) + (t : Int) + 1 := by omega
          have bc : (a : Int) + (t : Int) + 1 < (d.size : Int) := by omega
          have rc : IntKind.i64.wrap ((a : Int) + (t : Int) + 1) = (a : Int) + (t : Int) + 1 := by rw [IntKind.wrap_i64]; omega
          have S2 : Aside (SWK enc k w0 blk off (swp dk (a + t) (a + t + 1)) ((wr.drew.setCells blk (off + (a + t) * k) (enc dk[a + t + 1]!)).setCells blk (off + (a + t + 1) * k) (enc dk[a + t]!))) := S1.out.swapped R (a + t) (a + t + 1) (by omega) (by omega)
          have la := S1.out.ld1 R (by omega) Pg (a + t) (by omega)
          have lb := S1.out.ld1 R (by omega) Pg (a + t + 1) (by omega)
          have sa := S1.out.st1 R (by omega) Pg (a + t) (by omega) dk[a + t + 1]!
          have sb := S1.out.st2 R (by omega) Pg (a + t) (a + t + 1) (by omega) (by omega) dk[a + t + 1]! dk[a + t]!
          have na : (enc dk[a + t]!).length = k := R.hk _
          have nb : (enc dk[a + t + 1]!).length = k := R.hk _
          have HN : Hid ((swp dk (a + t) (a + t + 1)).toList = L (t + 1)) := HP'.out dk t hlt HL.out
          clear HL
          generalize enc dk[a + t]! = cI at S2 la sb na
          generalize enc dk[a + t + 1]! = cJ at S2 lb sa sb nb
          clear S1
          go_wp2_with fail
          go_big_region_o
          clear la lb sa sb
          generalize (wr.drew.setCells blk (off + (a + t) * k) cJ).setCells blk (off + (a + t + 1) * k) cI = w2 at S2 ⊢
          go_wp2
          go_roundg (n - (t + 1))
          case measure => omega
          case rel => exact ⟨t + 1, swp dk (a + t) (a + t + 1), by simp [Int.add_assoc], by omega, Nat.le_refl _, by rw [size_swp]; exact hds, S2, HN⟩
        · obtain rfl : t = n := by omega
          have hltz : ¬ ((a : Int) + (t : Int) < (i : Int) - 1) := by omega
          obtain ⟨M, m1, m2⟩ := HFin'.out dk HL.out
          clear HL HFin'
          go_wp2
          (try simp only [Exit.inBlock, Exit.then])
          refine bodyPost_ret (results_none rfl _ _ _) rfl ?_
          exact ⟨rfl, dk, M, m1, m2, hds, S1.out⟩
end Go.Proofs.YtpdacbiiaglodaaGreat
