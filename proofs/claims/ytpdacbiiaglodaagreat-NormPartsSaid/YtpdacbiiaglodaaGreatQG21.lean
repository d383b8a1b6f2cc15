/-
  LAYER 6 (norm): the stable sort's merge in place, whole.
-/
import Derived.Test.YtpdacbiiaglodaaGreatQG20
import Derived.Deep.DeepCutAuto
namespace Go.Proofs.YtpdacbiiaglodaaGreat
set_option maxRecDepth 100000
open Go.Shelf Go.RowKit Go.Lib Go.Sort


theorem lo_up {a m b mid : Nat} (hmid : mid = (a + b) / 2) (ham : a < m) (hmb : m < b) : a ≤ lo0 a m b mid ∧ lo0 a m b mid ≤ up0 m mid ∧ up0 m mid ≤ m ∧ up0 m mid ≤ mid ∧ mid + m ≤ b + lo0 a m b mid ∧ ((mid < m → lo0 a m b mid + b = mid + m ∧ up0 m mid = mid) ∧ (¬ mid < m → lo0 a m b mid = a ∧ up0 m mid = m)) := by
  unfold lo0 up0
  split <;> (refine ⟨?_, ?_, ?_, ?_, ?_, ?_, ?_⟩ <;> (try intro h) <;> omega)

/-- What is left behind the third search, step by step: words on the world that each step hands to the next. -/
theorem sym_steps {Pg : Program} {α : Type} [Inhabited α] {enc : α → List Value} {k : Nat} (Lt : SlLaysF0.n20 Pg ins_ren) (aE : ∀ w, (isAgg 170).run Pg w = .ok true w) (zE : ∀ w, (Go.sizeOf 170).run Pg w = .ok k w) (FS : Pg.funcs[207]? = some Tryz.f207) (FR : Pg.funcs[194]? = some Tryz.f194) {key : α → Int} (g : Nat) (cb : Array Value) (w0 : World) (blk off cap : Nat) (d0 : Array α) (R : RowK enc k w0 blk off d0) (N : Nat)
    (ih : ∀ (X U V Y : List α) (d : Array α) (w : World), U.length + V.length ≤ N → d0.size = d.size → SWK enc k w0 blk off d w → d.toList = X ++ (U ++ (V ++ Y)) → Srt key U → Srt key V → U ≠ [] → V ≠ [] → d.size < 4611686018427387904 → ∀ (a m b : Nat), a = X.length → m = a + U.length → b = m + V.length →
      Calls Pg 169 #[.slice (some ⟨blk, off, none⟩) d.size cap, .int .i64 a, .int .i64 m, .int .i64 b, .func (.func g) #[] cb] w fun e w' => e = .returned (.tuple #[]) ∧ ∃ d' M, d'.toList = X ++ (M ++ Y) ∧ StM key (U ++ V) M ∧ d'.size = d.size ∧ SWK enc k w0 blk off d' w')
    (X U V Y : List α) (d : Array α) (hN : U.length + V.length ≤ N + 1) (h2 : 2 ≤ U.length + V.length) (hs : d0.size = d.size) (hd : d.toList = X ++ (U ++ (V ++ Y))) (hU : Srt key U) (hV : Srt key V) (hsz : d.size < 4611686018427387904)
    (a m b mid s : Nat) (ha : a = X.length) (hm : m = a + U.length) (hb : b = m + V.length) (hmid : mid = (a + b) / 2) (x1 : a ≤ s) (x2 : s ≤ m) (x3 : s ≤ mid) (x4 : mid + m - s ≤ b)
    (hx : ∀ v, (V.take (mid - s)).getLast? = some v → ∀ u, (U.drop (s - a)).head? = some u → key v < key u)
    (hy : ∀ u, (U.take (s - a)).getLast? = some u → ∀ v, (V.drop (mid - s)).head? = some v → key u ≤ key v) :
    ∃ C1 C2 : World → Prop,
      (∀ W, SWK enc k w0 blk off d W → s < m ∧ m < mid + m - s → Calls Pg 194 #[.slice (some ⟨blk, off, none⟩) d.size cap, .int .i64 s, .int .i64 m, .int .i64 (mid + m - s : Nat), .func (.func g) #[] cb] W fun e w' => e = .returned (.tuple #[]) ∧ C1 w') ∧
      (∀ W, SWK enc k w0 blk off d W → ¬ (s < m ∧ m < mid + m - s) → C1 W) ∧
      (∀ W, C1 W → a < s ∧ s < mid → Calls Pg 169 #[.slice (some ⟨blk, off, none⟩) d.size cap, .int .i64 a, .int .i64 s, .int .i64 mid, .func (.func g) #[] cb] W fun e w' => e = .returned (.tuple #[]) ∧ C2 w') ∧
      (∀ W, C1 W → ¬ (a < s ∧ s < mid) → C2 W) ∧
      (∀ W, C2 W → mid < mid + m - s ∧ mid + m - s < b → Calls Pg 169 #[.slice (some ⟨blk, off, none⟩) d.size cap, .int .i64 mid, .int .i64 (mid + m - s : Nat), .int .i64 b, .func (.func g) #[] cb] W fun e w' => e = .returned (.tuple #[]) ∧ ∃ d' M, d'.toList = X ++ (M ++ Y) ∧ StM key (U ++ V) M ∧ d'.size = d.size ∧ SWK enc k w0 blk off d' w') ∧
      (∀ W, C2 W → ¬ (mid < mid + m - s ∧ mid + m - s < b) → ∃ d' M, d'.toList = X ++ (M ++ Y) ∧ StM key (U ++ V) M ∧ d'.size = d.size ∧ SWK enc k w0 blk off d' W) := by
  obtain ⟨U1, hU1⟩ : ∃ L, L = U.take (s - a) := ⟨_, rfl⟩
  obtain ⟨U2, hU2⟩ : ∃ L, L = U.drop (s - a) := ⟨_, rfl⟩
  obtain ⟨V1, hV1⟩ : ∃ L, L = V.take (mid - s) := ⟨_, rfl⟩
  obtain ⟨V2, hV2⟩ : ∃ L, L = V.drop (mid - s) := ⟨_, rfl⟩
  rw [← hV1, ← hU2] at hx
  rw [← hU1, ← hV2] at hy
  have eU : U = U1 ++ U2 := by rw [hU1, hU2, List.take_append_drop]
  have eV : V = V1 ++ V2 := by rw [hV1, hV2, List.take_append_drop]
  have l1 : U1.length = s - a := by rw [hU1, List.length_take]; omega
  have l2 : U2.length = m - s := by rw [hU2, List.length_drop]; omega
  have l3 : V1.length = mid - s := by rw [hV1, List.length_take]; omega
  have l4 : V2.length = b - (mid + m - s) := by rw [hV2, List.length_drop]; omega
  clear hU1 hU2 hV1 hV2
  subst eU eV
  have hsU := srt_append.1 hU
  have hsV := srt_append.1 hV
  refine ⟨fun W => ∃ d1 : Array α, d1.size = d.size ∧ d1.toList = X ++ (U1 ++ (V1 ++ (U2 ++ (V2 ++ Y)))) ∧ SWK enc k w0 blk off d1 W,
    fun W => ∃ (d2 : Array α) (M1 : List α), d2.size = d.size ∧ d2.toList = (X ++ M1) ++ (U2 ++ (V2 ++ Y)) ∧ StM key (U1 ++ V1) M1 ∧ SWK enc k w0 blk off d2 W, ?_, ?_, ?_, ?_, ?_, ?_⟩
  · rintro W hS ⟨c1, c2⟩
    refine (rotate_gen Lt aE zE FS FR (.func (.func g) #[] cb) w0 W blk off cap d0 d (X ++ U1) U2 V1 (V2 ++ Y) R hs hS (by rw [hd]; simp) (List.ne_nil_of_length_pos (by omega)) (List.ne_nil_of_length_pos (by omega)) hsz s m (mid + m - s) (by rw [List.length_append]; omega) (by rw [List.length_append]; omega) (by rw [List.length_append]; omega)).mono ?_
    rintro e w' ⟨rfl, d1, q1, q2, q3⟩
    exact ⟨rfl, d1, q2, by rw [q1]; simp, q3⟩
  · rintro W hS hc
    refine ⟨d, rfl, ?_, hS⟩
    rw [hd]
    rcases Nat.lt_or_ge s m with h1 | h1
    · have : V1 = [] := List.length_eq_zero_iff.1 (by omega)
      rw [this]; simp
    · have : U2 = [] := List.length_eq_zero_iff.1 (by omega)
      rw [this]; simp
  · rintro W ⟨d1, q1, q2, q3⟩ ⟨c1, c2⟩
    have := ih X U1 V1 (U2 ++ (V2 ++ Y)) d1 W (by simp only [List.length_append] at hN; omega) (by omega) q3 q2 hsU.1 hsV.1 (List.ne_nil_of_length_pos (by omega)) (List.ne_nil_of_length_pos (by omega)) (by omega) a s mid ha (by omega) (by omega)
    rw [q1] at this
    refine this.mono ?_
    rintro e w' ⟨rfl, d2, M1, y1, y2, y3, y4⟩
    exact ⟨rfl, d2, M1, y3, by rw [y1]; simp, y2, y4⟩
  · rintro W ⟨d1, q1, q2, q3⟩ hc
    refine ⟨d1, U1 ++ V1, q1, by rw [q2]; simp, StM.self ?_, q3⟩
    rcases Nat.lt_or_ge a s with h1 | h1
    · have : V1 = [] := List.length_eq_zero_iff.1 (by omega)
      rw [this, List.append_nil]; exact hsU.1
    · have : U1 = [] := List.length_eq_zero_iff.1 (by omega)
      rw [this, List.nil_append]; exact hsV.1
  · rintro W ⟨d2, M1, q1, q2, q3, q4⟩ ⟨c1, c2⟩
    have lM : M1.length = mid - a := by rw [q3.2.2, List.length_append]; omega
    have := ih (X ++ M1) U2 V2 Y d2 W (by simp only [List.length_append] at hN; omega) (by omega) q4 q2 hsU.2.1 hsV.2.1 (List.ne_nil_of_length_pos (by omega)) (List.ne_nil_of_length_pos (by omega)) (by omega) mid (mid + m - s) b (by rw [List.length_append]; omega) (by omega) (by omega)
    rw [q1] at this
    refine this.mono ?_
    rintro e w' ⟨rfl, d3, M2, y1, y2, y3, y4⟩
    exact ⟨rfl, d3, M1 ++ M2, by rw [y1]; simp, merge_halves hU hV q3 y2 hx hy, y3, y4⟩
  · rintro W ⟨d2, M1, q1, q2, q3, q4⟩ hc
    refine ⟨d2, M1 ++ (U2 ++ V2), by rw [q2]; simp, merge_halves hU hV q3 (StM.self ?_) hx hy, q1, q4⟩
    rcases Nat.lt_or_ge mid (mid + m - s) with h1 | h1
    · have : V2 = [] := List.length_eq_zero_iff.1 (by omega)
      rw [this, List.append_nil]; exact hsU.2.1
    · have : U2 = [] := List.length_eq_zero_iff.1 (by omega)
      rw [this, List.nil_append]; exact hsV.2.1

set_option maxHeartbeats 8000000 in
/-- Both lists have two elements and more. -/
theorem sym_walk {Pg : Program} {α : Type} [Inhabited α] {enc : α → List Value} {k : Nat} (Lt : SlLaysF0.n20 Pg ins_ren) (aE : ∀ w, (isAgg 170).run Pg w = .ok true w) (zE : ∀ w, (Go.sizeOf 170).run Pg w = .ok k w) (Lu : UintAt Pg) (FR : Pg.funcs[194]? = some Tryz.f194) (FY : Pg.funcs[169]? = some Tryz.f169) {key : α → Int} (cf : α → α → Int) (hkey : ∀ x y, cf x y < 0 ↔ key x < key y) (g : Nat) (cb : Array Value) (eg : ∀ args w, (callFunc g args).run Pg w = .ok (.enter g args) w) (w0 w : World) (blk off cap : Nat) (d0 d : Array α) (hcmp : CmpLays Pg g cb enc k cf blk off d0.size w0) (R : RowK enc k w0 blk off d0) (hs : d0.size = d.size) (S : SWK enc k w0 blk off d w) (hsz : d.size < 4611686018427387904)
    (a m b mid : Nat) (hma : a + 1 < m) (hmb : m + 1 < b) (hbd : b ≤ d.size) (hmid : mid = (a + b) / 2) (HM : Hid (Mono (fun c => key d[c]! ≤ key d[mid + m - 1 - c]!) (lo0 a m b mid) (up0 m mid))) (Fin : World → Prop)
    (HST : Hid (∀ s, Srch (fun c => key d[c]! ≤ key d[mid + m - 1 - c]!) (lo0 a m b mid) (up0 m mid) s s → ∃ C1 C2 : World → Prop,
      (∀ W, SWK enc k w0 blk off d W → s < m ∧ m < mid + m - s → Calls Pg 194 #[.slice (some ⟨blk, off, none⟩) d.size cap, .int .i64 s, .int .i64 m, .int .i64 (mid + m - s : Nat), .func (.func g) #[] cb] W fun e w' => e = .returned (.tuple #[]) ∧ C1 w') ∧
      (∀ W, SWK enc k w0 blk off d W → ¬ (s < m ∧ m < mid + m - s) → C1 W) ∧
      (∀ W, C1 W → a < s ∧ s < mid → Calls Pg 169 #[.slice (some ⟨blk, off, none⟩) d.size cap, .int .i64 a, .int .i64 s, .int .i64 mid, .func (.func g) #[] cb] W fun e w' => e = .returned (.tuple #[]) ∧ C2 w') ∧
      (∀ W, C1 W → ¬ (a < s ∧ s < mid) → C2 W) ∧
      (∀ W, C2 W → mid < mid + m - s ∧ mid + m - s < b → Calls Pg 169 #[.slice (some ⟨blk, off, none⟩) d.size cap, .int .i64 mid, .int .i64 (mid + m - s : Nat), .int .i64 b, .func (.func g) #[] cb] W fun e w' => e = .returned (.tuple #[]) ∧ Fin w') ∧
      (∀ W, C2 W → ¬ (mid < mid + m - s ∧ mid + m - s < b) → Fin W))) :
    Calls Pg 169 #[.slice (some ⟨blk, off, none⟩) d.size cap, .int .i64 a, .int .i64 m, .int .i64 b, .func (.func g) #[] cb] w fun e w' => e = .returned (.tuple #[]) ∧ Fin w' := by
  have S0 : Aside (SWK enc k w0 blk off d w) := S
  have HC : Aside _ := hcmp
  have HKEY : Hid (∀ x y, cf x y < 0 ↔ key x < key y) := hkey
  clear S hcmp hkey
  have mixed := Lt.mixed; have t0 : Pg.underlying 0 = _ := Lt.t0; have a0 : ∀ w, (isAgg 0).run Pg w = _ := Lt.a0; have z0 : ∀ w, (Go.sizeOf 0).run Pg w = _ := Lt.z0; have v0 : ∀ w, (zeroValue 0).run Pg w = _ := Lt.v0; have t3 : Pg.underlying 3 = _ := Lt.t3; have a3 : ∀ w, (isAgg 3).run Pg w = _ := Lt.a3; have z3 : ∀ w, (Go.sizeOf 3).run Pg w = _ := Lt.z3; have v3 : ∀ w, (zeroValue 3).run Pg w = _ := Lt.v3; have t4 : Pg.underlying 4 = _ := Lt.t4; have a4 : ∀ w, (isAgg 4).run Pg w = _ := Lt.a4; have z4 : ∀ w, (Go.sizeOf 4).run Pg w = _ := Lt.z4; have v4 : ∀ w, (zeroValue 4).run Pg w = _ := Lt.v4; have t22 : Pg.underlying 168 = some (TypeDesc.slice 170) := Lt.t22; have a22 : ∀ w, (isAgg 168).run Pg w = _ := Lt.a22; have z22 : ∀ w, (Go.sizeOf 168).run Pg w = _ := Lt.z22; have v22 : ∀ w, (zeroValue 168).run Pg w = _ := Lt.v22
  have t144 := Lu.t; have a144 := Lu.a; have z144 := Lu.z; have v144 := Lu.v
  have e194 : ∀ args w, (callFunc 194 args).run Pg w = .ok (.enter 194 args) w := enters_of FR (by kernel_rfl) rfl
  have e169 : ∀ args w, (callFunc 169 args).run Pg w = .ok (.enter 169 args) w := enters_of FY (by kernel_rfl) rfl
  have hnb : ((m : Int) - (a : Int) == 1) = false := beq_eq_false_iff_ne.2 (by omega)
  have hnc : ((b : Int) - (m : Int) == 1) = false := beq_eq_false_iff_ne.2 (by omega)
  obtain ⟨l1, l2, l3, l4, l5, l6⟩ := lo_up hmid (by omega : a < m) (by omega : m < b)
  generalize lo0 a m b mid = lo at *
  generalize up0 m mid = up at *
  have HLU : Hid ((mid < m → lo + b = mid + m ∧ up = mid) ∧ (¬ mid < m → lo = a ∧ up = m)) := l6
  clear l6
  have hb1 : a ≤ mid ∧ mid < b := by omega
  have HMID : Hid (mid = (a + b) / 2) := hmid
  clear hmid
  go_enter FY, Tryz.ntmps169
  go_upto_if 140 with fail
  have eh : ((a : Int) + (b : Int)) / 2 = (mid : Int) := by have := HMID.out; omega
  rw [eh]
  clear eh
  go_cut [20, 21] (fun s r wx => s = .int .i64 (lo : Int) ∧ r = .int .i64 (up : Int) ∧ wx = w)
  case first =>
    by_cases hgt : mid < m
    · have hgtz : (mid : Int) < (m : Int) := by omega
      have q1 : (mid : Int) + (m : Int) - (b : Int) = (lo : Int) := by have := HLU.out.1 hgt; omega
      have q2 : (up : Int) = (mid : Int) := by have := HLU.out.1 hgt; omega
      go_wp2_with fail
      go_meet
      case rel => exact ⟨by first | rfl | rw [q1], by first | rfl | rw [q2], rfl⟩
    · have hgtz : ¬ ((mid : Int) < (m : Int)) := by omega
      have q1 : (lo : Int) = (a : Int) := by have := HLU.out.2 hgt; omega
      have q2 : (up : Int) = (m : Int) := by have := HLU.out.2 hgt; omega
      go_wp2_with fail
      go_meet
      case rel => exact ⟨by first | rfl | rw [q1], by first | rfl | rw [q2], rfl⟩
  case rest =>
    obtain ⟨rfl, rfl, rfl⟩ := hcut
    clear HLU HMID
    go_wp2_with fail
    go_loopg [20, 21] (up - lo) (fun kx s10 s11 wr => ∃ (i j : Nat), s10 = .int .i64 i ∧ s11 = .int .i64 j ∧ lo ≤ i ∧ i ≤ j ∧ j ≤ up ∧ j - i ≤ kx ∧ Aside (SWK enc k w0 blk off d wr) ∧ Hid (Srch (fun c => key d[c]! ≤ key d[mid + m - 1 - c]!) lo up i j))
    case atStart => exact ⟨lo, up, rfl, rfl, Nat.le_refl _, l2, Nat.le_refl _, Nat.le_refl _, S0, Srch.start l2⟩
    case round =>
      clear S0
      obtain ⟨i, j, rfl, rfl, h1, h2, h3, hkx, S1, HS⟩ := hrel
      by_cases hlt : i < j
      · have hltz : (i : Int) < (j : Int) := by omega
        obtain ⟨h, hh⟩ : ∃ h, h = (i + j) / 2 := ⟨_, rfl⟩
        go_wp2_with fail
        have eh : ((i : Int) + (j : Int)) / 2 = (h : Int) := by omega
        have hhm : lo ≤ h ∧ i ≤ h ∧ h < j := by omega
        rw [eh]
        clear eh
        replace hh : Hid (h = (i + j) / 2) := hh
        obtain ⟨c, hcc⟩ : ∃ c, c = mid + m - 1 - h := ⟨_, rfl⟩
        have hcz : (mid : Int) + (m : Int) - 1 - (h : Int) = (c : Int) := by omega
        have hcd : c < d.size := by omega
        have ea : ((c : Int)).toNat = c := by omega
        have pa : (0 : Int) ≤ (c : Int) := by omega
        have ba : (c : Int) < (d.size : Int) := by omega
        have ra : IntKind.i64.wrap (c : Int) = (c : Int) := by rw [IntKind.wrap_i64]; omega
        have HCC : Hid (c = mid + m - 1 - h) := hcc
        clear hcc
        have ec : ((h : Int)).toNat = h := by omega
        have pc : (0 : Int) ≤ (h : Int) := by omega
        have bc : (h : Int) < (d.size : Int) := by omega
        have rc : IntKind.i64.wrap (h : Int) = (h : Int) := by rw [IntKind.wrap_i64]; omega
        obtain ⟨x, hx⟩ : ∃ x, x = d[c]! := ⟨_, rfl⟩
        obtain ⟨y, hy⟩ : ∃ x, x = d[h]! := ⟨_, rfl⟩
        have la := S1.out.ld R hs.symm Pg c hcd
        have lb := S1.out.ld R hs.symm Pg h (by omega)
        rw [← hx] at la
        rw [← hy] at lb
        have hc := S1.out.cmp HC.out hs.symm x y
        by_cases hv : cf x y < 0
        · have HS2 : Hid (Srch (fun c => key d[c]! ≤ key d[mid + m - 1 - c]!) lo up i h) := by
            have : ¬ key d[h]! ≤ key d[mid + m - 1 - h]! := by rw [← HCC.out, ← hx, ← hy]; exact Int.not_le.2 ((HKEY.out x y).1 hv)
            rw [hh.out] at this ⊢
            exact HS.out.down HM.out hlt this
          have hd2 : decide (cf x y < 0) = true := decide_eq_true hv
          clear hx hy HS
          go_quiet_grown (first | (go_at_fn g; refine Calls.grown_of (hc _ _)))
          have S2 : Aside (SWK enc k w0 blk off d (grow (wr.drewN nq) osq)) := S1.out.grown nq osq
          clear la lb hc S1
          generalize grow (wr.drewN nq) osq = w2 at S2 ⊢
          clear nq osq
          go_wp2
          go_roundg (h - i)
          case measure => omega
          case rel => exact ⟨i, h, rfl, rfl, h1, by omega, by omega, Nat.le_refl _, S2, HS2⟩
        · have HS2 : Hid (Srch (fun c => key d[c]! ≤ key d[mid + m - 1 - c]!) lo up (h + 1) j) := by
            have : key d[h]! ≤ key d[mid + m - 1 - h]! := by rw [← HCC.out, ← hx, ← hy]; exact Int.not_lt.1 fun e => hv ((HKEY.out x y).2 e)
            rw [hh.out] at this ⊢
            exact HS.out.up HM.out hlt this
          have hd2 : decide (cf x y < 0) = false := decide_eq_false hv
          clear hx hy HS
          go_quiet_grown (first | (go_at_fn g; refine Calls.grown_of (hc _ _)))
          have S2 : Aside (SWK enc k w0 blk off d (grow (wr.drewN nq) osq)) := S1.out.grown nq osq
          clear la lb hc S1
          generalize grow (wr.drewN nq) osq = w2 at S2 ⊢
          clear nq osq
          go_wp2
          go_roundg (j - (h + 1))
          case measure => omega
          case rel => exact ⟨h + 1, j, by go_num, rfl, by omega, by omega, h3, Nat.le_refl _, S2, HS2⟩
      · obtain rfl : i = j := by omega
        obtain ⟨C1, C2, s1, s2, s3, s4, s5, s6⟩ := HST.out i HS.out
        clear HST HS HM HC
        have S1' := S1.out
        clear S1
        have r1 := s1 wr S1'
        have r2 := s2 wr S1'
        clear s1 s2 S1'
        obtain ⟨e, he⟩ : ∃ e, e = mid + m - i := ⟨_, rfl⟩
        have hez : (mid : Int) + (m : Int) - (i : Int) = (e : Int) := by omega
        rw [← he] at r1 r2 s5 s6
        clear he
        go_upto_region 39 with fail
        (try rw [hez])
        clear hez
        have f1 : Hid (∀ W, C1 W → (a < i ∧ i < mid) ∨ (a < i ∧ ¬ i < mid ∧ C2 W) ∨ (¬ a < i ∧ C2 W)) := fun W h => Classical.byCases (fun c => Classical.byCases (fun c' => .inl ⟨c, c'⟩) (fun c' => .inr (.inl ⟨c, c', s4 W h fun x => c' x.2⟩))) (fun c => .inr (.inr ⟨c, s4 W h fun x => c x.1⟩))
        have f2 : Hid (∀ W, C2 W → (mid < e ∧ e < b) ∨ (mid < e ∧ ¬ e < b ∧ Fin W) ∨ (¬ mid < e ∧ Fin W)) := fun W h => Classical.byCases (fun c => Classical.byCases (fun c' => .inl ⟨c, c'⟩) (fun c' => .inr (.inl ⟨c, c', s6 W h fun x => c' x.2⟩))) (fun c => .inr (.inr ⟨c, s6 W h fun x => c x.1⟩))
        clear s4 s6
        go_cut [185] (fun c wx => c = .bool (decide (i < m ∧ m < e)) ∧ wx = wr)
        case first =>
          by_cases c1 : i < m
          · by_cases c2 : m < e
            · go_wp2_with fail
              go_meet
              case rel => exact ⟨by simp [c1, c2], rfl⟩
            · go_wp2_with fail
              go_meet
              case rel => exact ⟨by simp [c2], rfl⟩
          · go_wp2_with fail
            go_meet
            case rel => exact ⟨by simp [c1], rfl⟩
        case rest =>
          obtain ⟨rfl, rfl⟩ := hcut
          go_upto_if 185 with fail
          go_cut [] (fun wx => C1 wx)
          case first =>
            by_cases c0 : i < m ∧ m < e
            · have hc := r1 c0
              have hd0 : decide (i < m ∧ m < e) = true := decide_eq_true c0
              generalize decide (i < m ∧ m < e) = q at hd0 ⊢
              subst hd0
              clear r1 r2 c0
              go_wp2_with (go_at_fn 194; refine hc.mono ?_; rintro e w1 ⟨rfl, hr⟩)
              go_meet
              case rel => exact hr
            · have hr := r2 c0
              have hd0 : decide (i < m ∧ m < e) = false := decide_eq_false c0
              generalize decide (i < m ∧ m < e) = q at hd0 ⊢
              subst hd0
              clear r1 r2 c0
              go_wp2_with fail
              go_meet
              case rel => exact hr
          case rest =>
            clear r1 r2
            have s5' : Hid _ := s5
            rcases f1.out _ hcut with ⟨c1a, c1b⟩ | ⟨c1a, c1b, k2⟩ | ⟨c1a, k2⟩
            · have hc := s3 _ hcut ⟨c1a, c1b⟩
              clear hcut s3 s5
              go_wp2_with (first
                | (go_at_fn 169; refine hc.mono ?_; rintro e' w1 ⟨rfl, k2⟩; clear hc; rcases f2.out _ k2 with ⟨c2a, c2b⟩ | ⟨c2a, c2b, k3⟩ | ⟨c2a, k3⟩)
                | (go_at_fn 169; refine (s5'.out _ k2 ⟨c2a, c2b⟩).mono ?_; rintro e' w2 ⟨rfl, k3⟩))
              all_goals
                go_end0
                exact ⟨rfl, k3⟩
            all_goals
              clear hcut s3 s5
              rcases f2.out _ k2 with ⟨c2a, c2b⟩ | ⟨c2a, c2b, k3⟩ | ⟨c2a, k3⟩
            all_goals
              go_wp2_with (go_at_fn 169; refine (s5'.out _ k2 ⟨c2a, c2b⟩).mono ?_; rintro e' w2 ⟨rfl, k3⟩)
              go_end0
              exact ⟨rfl, k3⟩

/-- slices.symMergeCmpFunc: two sorted lists, one behind the other, become one, sorted stably. -/
theorem sym_gen {Pg : Program} {α : Type} [Inhabited α] {enc : α → List Value} {k : Nat} (Lt : SlLaysF0.n20 Pg ins_ren) (aE : ∀ w, (isAgg 170).run Pg w = .ok true w) (zE : ∀ w, (Go.sizeOf 170).run Pg w = .ok k w) (Lu : UintAt Pg) (FS : Pg.funcs[207]? = some Tryz.f207) (FR : Pg.funcs[194]? = some Tryz.f194) (FY : Pg.funcs[169]? = some Tryz.f169) {key : α → Int} (cf : α → α → Int) (hkey : ∀ x y, cf x y < 0 ↔ key x < key y) (g : Nat) (cb : Array Value) (eg : ∀ args w, (callFunc g args).run Pg w = .ok (.enter g args) w) (w0 : World) (blk off cap : Nat) (d0 : Array α) (hcmp : CmpLays Pg g cb enc k cf blk off d0.size w0) (R : RowK enc k w0 blk off d0) :
    ∀ (N : Nat) (X U V Y : List α) (d : Array α) (w : World), U.length + V.length ≤ N → d0.size = d.size → SWK enc k w0 blk off d w → d.toList = X ++ (U ++ (V ++ Y)) → Srt key U → Srt key V → U ≠ [] → V ≠ [] → d.size < 4611686018427387904 → ∀ (a m b : Nat), a = X.length → m = a + U.length → b = m + V.length →
      Calls Pg 169 #[.slice (some ⟨blk, off, none⟩) d.size cap, .int .i64 a, .int .i64 m, .int .i64 b, .func (.func g) #[] cb] w fun e w' => e = .returned (.tuple #[]) ∧ ∃ d' M, d'.toList = X ++ (M ++ Y) ∧ StM key (U ++ V) M ∧ d'.size = d.size ∧ SWK enc k w0 blk off d' w' := by
  intro N
  induction N with
  | zero =>
    intro X U V Y d w hN _ _ _ _ _ hU0
    exact absurd (List.length_eq_zero_iff.1 (by omega)) hU0
  | succ N ih =>
    intro X U V Y d w hN hs S hd hU hV hU0 hV0 hsz a m b ha hm hb
    have lU := List.length_pos_iff.2 hU0
    have lV := List.length_pos_iff.2 hV0
    have hl : d.size = X.length + U.length + V.length + Y.length := by rw [size_list d _ hd]; simp; omega
    by_cases h1 : U.length = 1
    · obtain ⟨u, rfl⟩ := List.length_eq_one_iff.1 h1
      exact sym_one Lt aE zE Lu FY cf hkey g cb eg w0 w blk off cap d0 d X V Y u hcmp R hs S hd hV hsz a m b ha (by simpa using hm) hb
    · by_cases h2 : V.length = 1
      · obtain ⟨v, rfl⟩ := List.length_eq_one_iff.1 h2
        exact sym_last Lt aE zE Lu FY cf hkey g cb eg w0 w blk off cap d0 d X U Y v hcmp R hs S hd hU hsz a m b ha (by omega) (by simpa using hb) h1
      · have hd' := hd
        refine sym_walk Lt aE zE Lu FR FY cf hkey g cb eg w0 w blk off cap d0 d hcmp R hs S hsz a m b ((a + b) / 2) (by omega) (by omega) (by omega) rfl (mono_mid hd hU hV a m b _ ha hm hb rfl) _ ?_
        intro s hS
        obtain ⟨x1, x2, x3, _, x4, hx, hy⟩ := found_mid hd a m b _ s ha hm hb rfl hS
        exact sym_steps Lt aE zE FS FR g cb w0 blk off cap d0 R N ih X U V Y d hN (by omega) hs hd hU hV hsz a m b _ s ha hm hb rfl x1 x2 x3 x4 hx hy
end Go.Proofs.YtpdacbiiaglodaaGreat
