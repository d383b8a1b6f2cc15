/-
  LAYER 6 (norm): the stable sort.
-/
import Derived.Test.YtpdacbiiaglodaaGreatQG21
import Derived.Test.YtpdacbiiaglodaaGreatQG05
import Derived.Test.YtpdacbiiaglodaaGreatQG17
import Derived.LoopTactic
import Derived.Test.YtpdacbiiaglodaaGreatQG01
import Derived.Test.YtpdacbiiaglodaaGreatQG04
import Derived.Sort.QuietTacIn
namespace Go.Proofs.YtpdacbiiaglodaaGreat
set_option maxRecDepth 100000
open Go.Shelf Go.RowKit Go.Lib Go.Sort


theorem insertion_gen {Pg : Program} {α : Type} [Inhabited α] {enc : α → List Value} {k : Nat} (Lt : SlLaysF0.n20 Pg ins_ren) (aE : ∀ w, (isAgg 170).run Pg w = .ok true w) (zE : ∀ w, (Go.sizeOf 170).run Pg w = .ok k w) {key : α → Int} (cf : α → α → Int) (hkey : ∀ x y, cf x y < 0 ↔ key x < key y) (g : Nat) (cb : Array Value) (eg : ∀ args w, (callFunc g args).run Pg w = .ok (.enter g args) w) (w0 w : World) (blk off cap : Nat) (d0 d : Array α) (hcmp : CmpLays Pg g cb enc k cf blk off d0.size w0) (X T Y : List α) (R : RowK enc k w0 blk off d0) (hs : d0.size = d.size) (S : SWK enc k w0 blk off d w) (hd : d.toList = X ++ (T ++ Y)) (hsz : d.size < 4611686018427387904) (a b : Nat) (ha : a = X.length) (hb : b = X.length + T.length) :
    Calls Pg 168 #[.slice (some ⟨blk, off, none⟩) d.size cap, .int .i64 a, .int .i64 b, .func (.func g) #[] cb] w fun e w' =>
      e = .returned (.tuple #[]) ∧ ∃ d' M, d'.toList = X ++ (M ++ Y) ∧ StM key T M ∧ d'.size = d.size ∧ SWK enc k w0 blk off d' w' := by
  subst ha hb
  have hl : d.size = X.length + T.length + Y.length := by rw [size_list d _ hd]; simp; omega
  have hC : CmpLays Pg g cb enc k cf blk off d.size w := fun m os dk hdk x y => by
    obtain ⟨n0, os0, rfl⟩ := S
    rw [sortWorldK_on enc k w0 blk off n0 m d dk os0 os R.hblk hdk]
    exact hcmp _ _ dk (by omega) x y
  have hlt : ∀ x y, ltOf cf x y = true ↔ key x < key y := fun x y => by
    unfold ltOf
    rw [decide_eq_true_eq]
    exact hkey x y
  refine (AnyQ.insertionSortCmpFunc Lt k aE zE enc R.hk R.h1 cf g cb blk off cap X.length (X.length + T.length) d w eg hC (S.holds R.hblk R.hH hs.symm) (S.lt R.hblk) (by omega) (by omega) hsz).mono ?_
  rintro e w' ⟨rfl, n, os, rfl⟩
  obtain ⟨M, m1, m2⟩ := insertion_list (key := key) hlt X T Y d hd
  have hsz' : (Sort.insertionSort (ltOf cf) d X.length (X.length + T.length)).size = d.size := by
    rw [size_list _ _ m2, hl]
    have := m1.2.2
    simp
    omega
  exact ⟨rfl, _, M, m2, m1, hsz', S.on R.hblk n _ os hsz'⟩

set_option maxHeartbeats 8000000 in
/-- slices.stableCmpFunc: the row, sorted stably. -/
theorem stable_gen {Pg : Program} {α : Type} [Inhabited α] {enc : α → List Value} {k : Nat} (Lt : SlLaysF0.n20 Pg ins_ren) (aE : ∀ w, (isAgg 170).run Pg w = .ok true w) (zE : ∀ w, (Go.sizeOf 170).run Pg w = .ok k w) (Lu : UintAt Pg) (FS : Pg.funcs[207]? = some Tryz.f207) (FR : Pg.funcs[194]? = some Tryz.f194) (FY : Pg.funcs[169]? = some Tryz.f169) (FB : Pg.funcs[138]? = some Tryz.f138) {key : α → Int} (cf : α → α → Int) (hkey : ∀ x y, cf x y < 0 ↔ key x < key y) (g : Nat) (cb : Array Value) (eg : ∀ args w, (callFunc g args).run Pg w = .ok (.enter g args) w) (w0 w : World) (blk off cap : Nat) (d0 d : Array α) (hcmp : CmpLays Pg g cb enc k cf blk off d0.size w0) (R : RowK enc k w0 blk off d0) (hs : d0.size = d.size) (S : SWK enc k w0 blk off d w) (hsz : d.size < 1152921504606846976) :
    Calls Pg 138 #[.slice (some ⟨blk, off, none⟩) d.size cap, .int .i64 d.size, .func (.func g) #[] cb] w fun e w' =>
      e = .returned (.tuple #[]) ∧ ∃ d' : Array α, StM key d.toList d'.toList ∧ d'.size = d.size ∧ SWK enc k w0 blk off d' w' := by
  have HI : Aside (∀ (dk : Array α) (W : World) (X T Y : List α) (za zb : Int), dk.size = d.size → SWK enc k w0 blk off dk W → dk.toList = X ++ (T ++ Y) → za = X.length → zb = X.length + T.length →
      Calls Pg 168 #[.slice (some ⟨blk, off, none⟩) d.size cap, .int .i64 za, .int .i64 zb, .func (.func g) #[] cb] W fun e w' =>
      e = .returned (.tuple #[]) ∧ ∃ d' M, d'.toList = X ++ (M ++ Y) ∧ StM key T M ∧ d'.size = d.size ∧ SWK enc k w0 blk off d' w') := by
    intro dk W X T Y za zb h1 h2 h3 h4 h5
    have := insertion_gen Lt aE zE cf hkey g cb eg w0 W blk off cap d0 dk hcmp X T Y R (by omega) h2 h3 (by omega) X.length (X.length + T.length) rfl rfl
    rw [h1] at this
    rw [h4, h5]
    exact this
  have HY : Aside (∀ (dk : Array α) (W : World) (X U V Y : List α) (za zm zb : Int), dk.size = d.size → SWK enc k w0 blk off dk W → dk.toList = X ++ (U ++ (V ++ Y)) → Srt key U → Srt key V → U ≠ [] → V ≠ [] → za = X.length → zm = X.length + U.length → zb = X.length + U.length + V.length →
      Calls Pg 169 #[.slice (some ⟨blk, off, none⟩) d.size cap, .int .i64 za, .int .i64 zm, .int .i64 zb, .func (.func g) #[] cb] W fun e w' =>
      e = .returned (.tuple #[]) ∧ ∃ d' M, d'.toList = X ++ (M ++ Y) ∧ StM key (U ++ V) M ∧ d'.size = d.size ∧ SWK enc k w0 blk off d' w') := by
    intro dk W X U V Y za zm zb h1 h2 h3 h4 h5 h6 h7 h8 h9 h10
    have := sym_gen Lt aE zE Lu FS FR FY cf hkey g cb eg w0 blk off cap d0 hcmp R (U.length + V.length) X U V Y dk W (Nat.le_refl _) (by omega) h2 h3 h4 h5 h6 h7 (by omega) X.length (X.length + U.length) (X.length + U.length + V.length) rfl rfl rfl
    rw [h1] at this
    rw [h8, h9, h10]
    exact this
  have S0 : Aside (SWK enc k w0 blk off d w) := S
  have HL0 : Hid (d.toList = d.toList) := rfl
  obtain ⟨L0, hL0⟩ : ∃ L, L = d.toList := ⟨_, rfl⟩
  have hlen : L0.length = d.size := by rw [hL0]; simp
  have HD : Hid (d.toList = L0) := hL0.symm
  rw [← hL0]
  clear hL0 HL0 S hcmp hkey
  have mixed := Lt.mixed; have t0 : Pg.underlying 0 = _ := Lt.t0; have a0 : ∀ w, (isAgg 0).run Pg w = _ := Lt.a0; have z0 : ∀ w, (Go.sizeOf 0).run Pg w = _ := Lt.z0; have v0 : ∀ w, (zeroValue 0).run Pg w = _ := Lt.v0; have t3 : Pg.underlying 3 = _ := Lt.t3; have a3 : ∀ w, (isAgg 3).run Pg w = _ := Lt.a3; have z3 : ∀ w, (Go.sizeOf 3).run Pg w = _ := Lt.z3; have v3 : ∀ w, (zeroValue 3).run Pg w = _ := Lt.v3; have t4 : Pg.underlying 4 = _ := Lt.t4; have a4 : ∀ w, (isAgg 4).run Pg w = _ := Lt.a4; have z4 : ∀ w, (Go.sizeOf 4).run Pg w = _ := Lt.z4; have v4 : ∀ w, (zeroValue 4).run Pg w = _ := Lt.v4; have t22 : Pg.underlying 168 = some (TypeDesc.slice 170) := Lt.t22; have a22 : ∀ w, (isAgg 168).run Pg w = _ := Lt.a22; have z22 : ∀ w, (Go.sizeOf 168).run Pg w = _ := Lt.z22; have v22 : ∀ w, (zeroValue 168).run Pg w = _ := Lt.v22
  have e168 : ∀ args w, (callFunc 168 args).run Pg w = .ok (.enter 168 args) w := Lt.f20.enters rfl
  have e169 : ∀ args w, (callFunc 169 args).run Pg w = .ok (.enter 169 args) w := enters_of FY (by kernel_rfl) rfl
  obtain ⟨n, hn⟩ : ∃ n, n = d.size := ⟨_, rfl⟩
  have HN : Hid (n = d.size ∧ L0.length = n) := ⟨hn, by omega⟩
  rw [← hn] at hsz HI HY ⊢
  clear hn hlen
  go_enter FB, Tryz.ntmps138
  go_wp2
  go_loopg [7, 8] n (fun kx s7 s8 wr => ∃ (a : Nat) (dk : Array α), s7 = .int .i64 (a : Int) ∧ s8 = .int .i64 ((a : Int) + 20) ∧ a ≤ n ∧ n - a ≤ kx ∧ dk.size = n ∧ Aside (SWK enc k w0 blk off dk wr) ∧ Hid (∃ P0 P T : List α, FullB key 20 P0 P ∧ L0 = P0 ++ T ∧ dk.toList = P ++ T ∧ P.length = a))
  case atStart => exact ⟨0, d, rfl, by simp, Nat.zero_le _, by omega, HN.out.1.symm, S0, [], [], L0, .nil, rfl, HD.out, rfl⟩
  case round =>
    clear S0
    obtain ⟨a, dk, rfl, rfl, han, hkx, hds, S1, HX⟩ := hrel
    by_cases hlt : a + 20 ≤ n
    · have hltz : (a : Int) + 20 ≤ (n : Int) := by omega
      have hc : ∀ (za zb : Int), za = a → zb = (a : Int) + 20 → Calls Pg 168 #[.slice (some ⟨blk, off, none⟩) n cap, .int .i64 za, .int .i64 zb, .func (.func g) #[] cb] wr fun e w' => e = .returned (.tuple #[]) ∧ ∃ dj : Array α, dj.size = n ∧ Aside (SWK enc k w0 blk off dj w') ∧ Hid (∃ P0 P T : List α, FullB key 20 P0 P ∧ L0 = P0 ++ T ∧ dj.toList = P ++ T ∧ P.length = a + 20) := by
        intro za zb hza hzb
        obtain ⟨P0, P, T, x1, x2, x3, x4⟩ := HX.out
        have hT : T.length = n - a := by have := x1.length; have := HN.out.2; rw [x2, List.length_append] at this; omega
        refine (HI.out dk wr P (T.take 20) (T.drop 20) za zb (by have := HN.out.1; omega) S1.out (by rw [x3, List.take_append_drop]) (by omega) (by rw [List.length_take]; omega)).mono ?_
        rintro e w' ⟨rfl, d', M, y1, y2, y3, y4⟩
        refine ⟨rfl, d', by have := HN.out.1; omega, y4, P0 ++ T.take 20, P ++ M, T.drop 20, .snoc x1 y2 (by rw [List.length_take]; omega), by rw [List.append_assoc, List.take_append_drop]; exact x2, by rw [y1, List.append_assoc], ?_⟩
        have := y2.2.2
        rw [List.length_take] at this
        rw [List.length_append]
        omega
      clear HX S1
      go_wp2_with (go_at_fn 168; refine (hc _ _ rfl rfl).mono ?_; rintro e w1 ⟨rfl, dj, hdj, S2, HX2⟩)
      go_roundg (n - (a + 20))
      case measure => omega
      case rel => exact ⟨a + 20, dj, by first | rfl | go_num, by first | rfl | go_num, by omega, Nat.le_refl _, hdj, S2, HX2⟩
    · have hltz : ¬ ((a : Int) + 20 ≤ (n : Int)) := by omega
      have hc : ∀ (za zb : Int), za = a → zb = n → Calls Pg 168 #[.slice (some ⟨blk, off, none⟩) n cap, .int .i64 za, .int .i64 zb, .func (.func g) #[] cb] wr fun e w' => e = .returned (.tuple #[]) ∧ ∃ dj : Array α, dj.size = n ∧ Aside (SWK enc k w0 blk off dj w') ∧ Hid (RestB key 20 L0 dj.toList) := by
        intro za zb hza hzb
        obtain ⟨P0, P, T, x1, x2, x3, x4⟩ := HX.out
        have hT : T.length = n - a := by have := x1.length; have := HN.out.2; rw [x2, List.length_append] at this; omega
        refine (HI.out dk wr P T [] za zb (by have := HN.out.1; omega) S1.out (by rw [x3, List.append_nil]) (by omega) (by omega)).mono ?_
        rintro e w' ⟨rfl, d', M, y1, y2, y3, y4⟩
        refine ⟨rfl, d', by have := HN.out.1; omega, y4, ?_⟩
        show RestB key 20 L0 d'.toList
        rw [y1, List.append_nil, x2]
        exact x1.rest (.last y2 (by omega))
      clear HX S1
      go_wp2_with (go_at_fn 168; refine (hc _ _ rfl rfl).mono ?_; rintro e w1 ⟨rfl, dj, hdj, S2, HX2⟩)
      clear hc HI
      go_loopg [6] n (fun kx s6 wr => ∃ (bs : Nat) (dk : Array α), s6 = .int .i64 (bs : Int) ∧ 20 ≤ bs ∧ bs < 4611686018427387904 ∧ n - bs ≤ kx ∧ dk.size = n ∧ Aside (SWK enc k w0 blk off dk wr) ∧ Hid (RestB key bs L0 dk.toList))
      case atStart => exact ⟨20, dj, rfl, Nat.le_refl _, by omega, by omega, hdj, S2, HX2⟩
      case round =>
        clear S2 HX2 hdj hltz hlt hkx han
        obtain ⟨bs, dk, rfl, hb20, hbm, hkx, hds, S1, HX⟩ := hrel
        by_cases hbn : bs < n
        · have hbz : (bs : Int) < (n : Int) := by omega
          go_wp2
          go_loopg [7, 8] n (fun kx s7 s8 wr => ∃ (a b : Nat) (dk : Array α), s7 = .int .i64 (a : Int) ∧ s8 = .int .i64 (b : Int) ∧ b = a + (bs + bs) ∧ a ≤ n ∧ n - a ≤ kx ∧ dk.size = n ∧ Aside (SWK enc k w0 blk off dk wr) ∧ Hid (∃ P0 P T0 T : List α, FullB key (bs + bs) P0 P ∧ RestB key bs T0 T ∧ L0 = P0 ++ T0 ∧ dk.toList = P ++ T ∧ P.length = a))
          case atStart => exact ⟨0, bs + bs, dk, rfl, by congr 1; omega, by omega, Nat.zero_le _, by omega, hds, S1, [], [], L0, dk.toList, .nil, HX.out, rfl, rfl, rfl⟩
          case round =>
            clear S1 HX hds dk
            obtain ⟨a, b, dk, rfl, rfl, hab, han, hkx, hds, S1, HX⟩ := hrel
            have hb3 : b < 4611686018427387904 := by omega
            replace hab : Hid (b = a + (bs + bs)) := hab
            by_cases hlt : b ≤ n
            · have hltz : (b : Int) ≤ (n : Int) := by omega
              have hc : ∀ (za zm zb : Int), za = a → zm = (a : Int) + bs → zb = (b : Int) → Calls Pg 169 #[.slice (some ⟨blk, off, none⟩) n cap, .int .i64 za, .int .i64 zm, .int .i64 zb, .func (.func g) #[] cb] wr fun e w' => e = .returned (.tuple #[]) ∧ ∃ dj : Array α, dj.size = n ∧ Aside (SWK enc k w0 blk off dj w') ∧ Hid (∃ P0 P T0 T : List α, FullB key (bs + bs) P0 P ∧ RestB key bs T0 T ∧ L0 = P0 ++ T0 ∧ dj.toList = P ++ T ∧ P.length = b) := by
                intro za zm zb hza hzm hzb
                have hab := hab.out
                obtain ⟨P0, P, T0, T, x1, x2, x3, x4, x5⟩ := HX.out
                have hT : T0.length = n - a := by have := x1.length; have := HN.out.2; rw [x3, List.length_append] at this; omega
                obtain ⟨A0, A, B0, B, R0, R', z1, z2, z3, z4, z5, z6, z7⟩ := x2.two (by omega) (by omega)
                have lA := z3.2.2
                have lB := z4.2.2
                refine (HY.out dk wr P A B R' za zm zb hds S1.out (by rw [x4, z2]) z3.2.1 z4.2.1 (List.ne_nil_of_length_pos (by omega)) (List.ne_nil_of_length_pos (by omega)) (by omega) (by omega) (by omega)).mono ?_
                rintro e w' ⟨rfl, d', M, y1, y2, y3, y4⟩
                have y2' := StM.two z3 z4 y2
                refine ⟨rfl, d', by have := HN.out.1; omega, y4, P0 ++ (A0 ++ B0), P ++ M, R0, R', .snoc x1 y2' (by rw [List.length_append]; omega), z7, by rw [x3, z1]; simp, by rw [y1, List.append_assoc], ?_⟩
                have := y2'.2.2
                rw [List.length_append] at this
                rw [List.length_append]
                omega
              clear HX S1
              go_wp2_with (go_at_fn 169; refine (hc _ _ _ rfl rfl rfl).mono ?_; rintro e w1 ⟨rfl, dj, hdj, S2, HX2⟩)
              go_roundg (n - b)
              case measure => have := hab.out; omega
              case rel => exact ⟨b, b + (bs + bs), dj, rfl, by congr 1; omega, rfl, hlt, Nat.le_refl _, hdj, S2, HX2⟩
            · have hltz : ¬ ((b : Int) ≤ (n : Int)) := by omega
              by_cases hmn : a + bs < n
              · have hmz : (a : Int) + (bs : Int) < (n : Int) := by omega
                have hc : ∀ (za zm zb : Int), za = a → zm = (a : Int) + bs → zb = (n : Int) → Calls Pg 169 #[.slice (some ⟨blk, off, none⟩) n cap, .int .i64 za, .int .i64 zm, .int .i64 zb, .func (.func g) #[] cb] wr fun e w' => e = .returned (.tuple #[]) ∧ ∃ dj : Array α, dj.size = n ∧ Aside (SWK enc k w0 blk off dj w') ∧ Hid (RestB key (bs + bs) L0 dj.toList) := by
                  intro za zm zb hza hzm hzb
                  have hab := hab.out
                  obtain ⟨P0, P, T0, T, x1, x2, x3, x4, x5⟩ := HX.out
                  have hT : T0.length = n - a := by have := x1.length; have := HN.out.2; rw [x3, List.length_append] at this; omega
                  obtain ⟨A0, A, B0, B, z1, z2, z3, z5, z7⟩ := x2.front (by omega)
                  have lA := z3.2.2
                  have lB := z7.length
                  have lS : A0.length + B0.length = n - a := by rw [z1, List.length_append] at hT; exact hT
                  have z4 := z7.one (by omega)
                  refine (HY.out dk wr P A B [] za zm zb hds S1.out (by rw [x4, z2]; simp) z3.2.1 z4.2.1 (List.ne_nil_of_length_pos (by omega)) (List.ne_nil_of_length_pos (by omega)) (by omega) (by omega) (by omega)).mono ?_
                  rintro e w' ⟨rfl, d', M, y1, y2, y3, y4⟩
                  have y2' := StM.two z3 z4 y2
                  refine ⟨rfl, d', by have := HN.out.1; omega, y4, ?_⟩
                  show RestB key (bs + bs) L0 d'.toList
                  rw [y1, List.append_nil, x3, z1]
                  exact x1.rest (.last y2' (by rw [List.length_append]; omega))
                clear HX S1
                go_wp2_with (go_at_fn 169; refine (hc _ _ _ rfl rfl rfl).mono ?_; rintro e w1 ⟨rfl, dj, hdj, S2, HX2⟩)
                go_roundg (n - (bs + bs))
                case measure => omega
                case rel => exact ⟨bs + bs, dj, by congr 1; omega, by omega, by omega, Nat.le_refl _, hdj, S2, HX2⟩
              · have hmz : ¬ ((a : Int) + (bs : Int) < (n : Int)) := by omega
                have HX2 : Hid (RestB key (bs + bs) L0 dk.toList) := by
                  have hab := hab.out
                  obtain ⟨P0, P, T0, T, x1, x2, x3, x4, x5⟩ := HX.out
                  have hT : T0.length = n - a := by have := x1.length; have := HN.out.2; rw [x3, List.length_append] at this; omega
                  show RestB key (bs + bs) L0 dk.toList
                  rw [x3, x4]
                  exact x1.rest (.last (x2.one (by omega)) (by omega))
                clear HX
                go_wp2
                go_roundg (n - (bs + bs))
                case measure => omega
                case rel => exact ⟨bs + bs, dk, by congr 1; omega, by omega, by omega, Nat.le_refl _, hds, S1, HX2⟩
        · have hbz : ¬ ((bs : Int) < (n : Int)) := by omega
          go_wp2
          go_end0
          exact ⟨rfl, dk, HX.out.one (by have := HN.out.2; omega), hds, S1.out⟩
end Go.Proofs.YtpdacbiiaglodaaGreat

/-
  LAYER 6 (norm): code points sorted in place by their classes.
-/
namespace Go.Proofs.YtpdacbiiaglodaaGreat
set_option maxRecDepth 100000
open Go.Shelf Go.RowKit Go.Lib Go.Sort

theorem uint_at : UintAt Tryz.prog := ⟨Tryz.underlying144, Tryz.isAgg144, Tryz.sizeOf144, Tryz.zeroValue144⟩

theorem swk_grownBy {α : Type} [Inhabited α] {enc : α → List Value} {k : Nat} {w0 W : World} {blk off : Nat} {dk : Array α} (h : SWK enc k w0 blk off dk W) : w0.grownBy W (some blk) := by
  obtain ⟨n, os, rfl⟩ := h
  unfold sortWorldK
  refine ⟨rfl, rfl, rfl, by simp [putRowK, putRow, mapBlock, Sort.ahead, grow], fun j hj hne => ?_⟩
  rw [heap_grow_old _ _ (by simpa [putRowK, putRow, mapBlock, Sort.ahead] using hj)]
  have : blk ≠ j := fun e => hne (by rw [e])
  simp [putRowK, putRow, mapBlock, Sort.ahead, Array.getElem?_modify, this]

/-- A row of code points with their classes, by its cells. -/
def KAt (W : World) (rb : Nat) (dk : Array (Int × Int)) : Prop :=
  ∀ i, i < dk.size → W.cell? ⟨rb, i * 2, none⟩ = some (.int .i32 dk[i]!.1) ∧ W.cell? ⟨rb, i * 2 + 1, none⟩ = some (.int .i64 dk[i]!.2) ∧ W.frozen? ⟨rb, i * 2, none⟩ = false ∧ W.frozen? ⟨rb, i * 2 + 1, none⟩ = false
theorem KAt.holds {W : World} {rb : Nat} {dk : Array (Int × Int)} (h : KAt W rb dk) : HoldsK kEnc 2 W rb 0 dk := by
  intro j hj
  rw [size_flatK] at hj
  obtain ⟨c0, c1, f0, f1⟩ := h (j / 2) (by omega)
  rw [get_flatK _ _ _ _ hj, Nat.zero_add]
  rcases Nat.mod_two_eq_zero_or_one j with e | e
  · have ej : j / 2 * 2 = j := by omega
    rw [ej] at c0 f0
    rw [e]
    exact ⟨c0, f0⟩
  · have ej : j / 2 * 2 + 1 = j := by omega
    rw [ej] at c1 f1
    rw [e]
    exact ⟨c1, f1⟩
theorem KAt.of {W : World} {rb : Nat} {dk : Array (Int × Int)} (h : HoldsK kEnc 2 W rb 0 dk) : KAt W rb dk := by
  intro i hi
  have a := HoldsK.cell h hi (show 0 < 2 by omega)
  have b := HoldsK.cell h hi (show 1 < 2 by omega)
  rw [Nat.zero_add, Nat.add_zero] at a
  rw [Nat.zero_add] at b
  exact ⟨a.1, b.1, a.2, b.2⟩
theorem KAt.kept {W W' : World} {rb : Nat} {dk : Array (Int × Int)} {q : Option Nat} (h : KAt W rb dk) (hrb : rb < W.heap.size) (hg : W.grownBy W' q) (hq : q ≠ some rb) : KAt W' rb dk := by
  intro i hi
  obtain ⟨c0, c1, f0, f1⟩ := h i hi
  have hb := hg.block rb hrb (fun e => hq e.symm)
  refine ⟨?_, ?_, ?_, ?_⟩
  · rw [World.cell?_of_block (a := ⟨rb, i * 2, none⟩) hb]; exact c0
  · rw [World.cell?_of_block (a := ⟨rb, i * 2 + 1, none⟩) hb]; exact c1
  · rw [World.frozen?_of_block (a := ⟨rb, i * 2, none⟩) hb]; exact f0
  · rw [World.frozen?_of_block (a := ⟨rb, i * 2 + 1, none⟩) hb]; exact f1
theorem KAt.set {W : World} {rb : Nat} {dk : Array (Int × Int)} (h : KAt W rb dk) (i : Nat) (x y : Int) :
    KAt ((W.setCell ⟨rb, i * 2, none⟩ (.int .i32 x)).setCell ⟨rb, i * 2 + 1, none⟩ (.int .i64 y)) rb (dk.setIfInBounds i (x, y)) := by
  intro j hj
  rw [Array.size_setIfInBounds] at hj
  obtain ⟨c0, c1, f0, f1⟩ := h j hj
  simp only [World.frozen?_setCell]
  refine ⟨?_, ?_, f0, f1⟩
  · rw [World.cell?_setCell_other _ _ _ _ (by simp <;> omega)]
    by_cases e : i = j
    · subst e
      rw [World.cell?_setCell_same _ _ _ c0, getElem!_set_same _ _ _ hj]
    · rw [World.cell?_setCell_other _ _ _ _ (by simp <;> omega), getElem!_set_other _ _ _ _ (Ne.symm e)]
      exact c0
  · by_cases e : i = j
    · subst e
      rw [World.cell?_setCell_same (u := .int .i64 dk[i]!.2) _ _ _ (by rw [World.cell?_setCell_other _ _ _ _ (by simp)]; exact c1), getElem!_set_same _ _ _ hj]
    · rw [World.cell?_setCell_other _ _ _ _ (by simp <;> omega), World.cell?_setCell_other _ _ _ _ (by simp <;> omega), getElem!_set_other _ _ _ _ (Ne.symm e)]
      exact c1

theorem sortStable_any (w : World) (rb cap : Nat) (d : Array (Int × Int)) (hK : KAt w rb d) (hrb : rb < w.heap.size) (hsz : d.size < 1152921504606846976) :
    Calls Tryz.prog 111 #[.slice (some ⟨rb, 0, none⟩) d.size cap, .func (.func 112) #[] #[]] w fun e w' =>
      e = .returned (.tuple #[]) ∧ ∃ d' : Array (Int × Int), StM (fun x : Int × Int => x.2) d.toList d'.toList ∧ d'.size = d.size ∧ KAt w' rb d' ∧ w.grownBy w' (some rb) := by
  have hR : RowK kEnc 2 w rb 0 d := ⟨kEnc_length, kEnc_one, hK.holds, hrb⟩
  have hc := stable_gen insL Tryz.isAgg170 Tryz.sizeOf170 uint_at Tryz.func207 Tryz.func194 Tryz.func169 Tryz.func138 (key := fun x : Int × Int => x.2) kCmp kCmp_lt 112 #[] enters_kcmp w w rb 0 cap d d (kCmpLays _ _ _ _) hR rfl (SWK.start hK.holds) hsz
  have hh := hK.holds
  clear hK
  go_enter Tryz.func111, Tryz.ntmps111
  go_wp2_with (go_at_call 138; refine hc.mono ?_; rintro e w1 ⟨rfl, d', h1, h2, h3⟩)
  go_end0
  exact ⟨rfl, d', h1, h2, KAt.of (h3.holds hrb hh h2), swk_grownBy h3⟩

/-- Code points in a row, from a place on; none of the cells is frozen. -/
def RAt (W : World) (b off : Nat) (l : List Int) : Prop := ∀ i u, l[i]? = some u → W.cell? ⟨b, off + i, none⟩ = some (.int .i32 u) ∧ W.frozen? ⟨b, off + i, none⟩ = false
theorem RAt.kept {W W' : World} {b off : Nat} {l : List Int} {q : Option Nat} (h : RAt W b off l) (hb : b < W.heap.size) (hg : W.grownBy W' q) (hq : q ≠ some b) : RAt W' b off l := by
  intro i u hu
  obtain ⟨c, f⟩ := h i u hu
  have hk := hg.block b hb (fun e => hq e.symm)
  exact ⟨by rw [World.cell?_of_block (a := ⟨b, off + i, none⟩) hk]; exact c, by rw [World.frozen?_of_block (a := ⟨b, off + i, none⟩) hk]; exact f⟩
theorem infoKeyed : (Tryz.prog.info? 170).map (fun i => (i.zero, i.size, i.bytes)) = some (some (.agg #[.int .i32 0, .int .i64 0]), 2, 16) := by kernel_rfl
theorem infoKeyed_parts : ∃ i0 : TypeInfo, Tryz.prog.info? 170 = some i0 ∧ i0.zero = some (.agg #[.int .i32 0, .int .i64 0]) ∧ i0.size = 2 ∧ i0.bytes = 16 := by
  have h := infoKeyed
  cases hi : Tryz.prog.info? 170 with
  | none => rw [hi] at h; cases h
  | some i =>
    rw [hi] at h
    simp only [Option.map_some, Option.some.injEq, Prod.mk.injEq] at h
    exact ⟨i, rfl, h.1, h.2.1, h.2.2⟩
theorem make_rows (n : Nat) (hn : n < 1099511627776) : ∃ X : Array Value, (∀ w : World, (Instr.makeSlice 168 (.int .i64 (n : Int)) (.int .i64 (n : Int))).run Tryz.prog w = .ok (.slice (some ⟨w.heap.size, 0, none⟩) n n) (w.alloc (.cells X 170))) ∧
    ∀ w : World, KAt (w.alloc (.cells X 170)) w.heap.size (Array.replicate n (0, 0)) := by
  obtain ⟨i0, hi, hz0, hz1, hz2⟩ := infoKeyed_parts
  refine ⟨madeCells (Value.agg #[.int .i32 0, .int .i64 0]).cells (n * 2), fun w => ?_, fun w => ?_⟩
  · have := run_make (P := Tryz.prog) w 168 170 i0 _ Tryz.underlying168 hi hz0 .i64 .i64 (n : Int) (n : Int) (by omega) (by omega) (by rw [hz2]; omega) (by omega)
    rw [this, hz1]
    rfl
  · intro i hi
    rw [Array.size_replicate] at hi
    have hnew := World.alloc_heap_new w (.cells (madeCells (Value.agg #[.int .i32 0, .int .i64 0]).cells (n * 2)) 170)
    have e : (Array.replicate n ((0 : Int), (0 : Int)))[i]! = (0, 0) := by rw [getElem!_pos _ _ (by simpa using hi)]; simp
    rw [e]
    refine ⟨?_, ?_, by simp only [World.frozen?, hnew]; simp, by simp only [World.frozen?, hnew]; simp⟩
    · simp only [World.cell?, hnew]
      have e0 : (madeCells (Value.agg #[.int .i32 0, .int .i64 0]).cells (n * 2))[i * 2]? = some (#[Value.int .i32 0, Value.int .i64 0])[i * 2 % 2]! := by
        unfold madeCells
        rw [Array.getElem?_map, Array.getElem?_range, if_pos (by omega)]
        rfl
      simp only [Option.isSome_none, Bool.false_eq_true, if_false]
      rw [e0, show i * 2 % 2 = 0 by omega]
      rfl
    · simp only [World.cell?, hnew]
      have e0 : (madeCells (Value.agg #[.int .i32 0, .int .i64 0]).cells (n * 2))[i * 2 + 1]? = some (#[Value.int .i32 0, Value.int .i64 0])[(i * 2 + 1) % 2]! := by
        unfold madeCells
        rw [Array.getElem?_map, Array.getElem?_range, if_pos (by omega)]
        rfl
      simp only [Option.isSome_none, Bool.false_eq_true, if_false]
      rw [e0, show (i * 2 + 1) % 2 = 1 by omega]
      rfl

theorem Laid.step0 {cf : Int → Int} {l : List Int} {dk : Array (Int × Int)} {i : Nat} {u : Int} (h : ∀ j u, j < i → l[j]? = some u → dk[j]! = (u, cf u)) (hu : l[i]? = some u) (hi : i < dk.size) : ∀ j v, j < i + 1 → l[j]? = some v → (dk.setIfInBounds i (u, cf u))[j]! = (v, cf v) := by
  intro j v hj hv
  by_cases e : j = i
  · subst e
    rw [hu] at hv
    cases hv
    exact getElem!_set_same _ _ _ hi
  · rw [getElem!_set_other _ _ _ _ e]
    exact h j v (by omega) hv
/-- The first i code points have been laid with their classes. -/
def Laid (cf : Int → Int) (l : List Int) (dk : Array (Int × Int)) (i : Nat) : Prop := ∀ j u, j < i → l[j]? = some u → dk[j]! = (u, cf u)
theorem Laid.all {cf : Int → Int} {l : List Int} {dk : Array (Int × Int)} (h : Laid cf l dk l.length) (hs : dk.size = l.length) : dk.toList = l.map fun u => (u, cf u) := by
  apply List.ext_getElem (by simp [hs])
  intro j h1 h2
  have h3 : j < l.length := by simpa using h2
  have := h j l[j] h3 (List.getElem?_eq_getElem h3)
  rw [getElem!_pos dk j (by omega)] at this
  rw [Array.getElem_toList, this]
  simp
theorem stm_keyed {cf : Int → Int} {l : List Int} {L : List (Int × Int)} (h : StM (fun x : Int × Int => x.2) (l.map fun u => (u, cf u)) L) : StM cf l (L.map (·.1)) := by
  have hm : ∀ x ∈ L, x.2 = cf x.1 := by
    intro x hx
    obtain ⟨u, _, rfl⟩ := List.mem_map.1 ((h.1.mem).1 hx)
    rfl
  refine ⟨fun k => ?_, ?_, by have := h.2.2; simpa using this⟩
  · have h1 := congrArg (List.map (·.1)) (h.1 k)
    rw [List.filter_map, List.map_map] at h1
    have e1 : (List.filter ((fun x : Int × Int => decide (x.2 = k)) ∘ fun u => (u, cf u)) l) = l.filter fun u => decide (cf u = k) := rfl
    rw [e1] at h1
    rw [List.filter_map]
    have e2 : L.filter ((fun x => decide (cf x = k)) ∘ (·.1)) = L.filter fun x => decide (x.2 = k) := by
      apply List.filter_congr
      intro x hx
      simp [hm x hx]
    rw [e2, h1]
    exact (List.map_id _)
  · have h2 := h.2.1
    refine List.pairwise_map.2 (List.Pairwise.imp_of_mem ?_ h2)
    intro a b ha hb hab
    rw [← hm a ha, ← hm b hb]
    exact hab

set_option maxHeartbeats 8000000 in
theorem sortBy_any (p : Value) (cf : Int → Int) (df : Int → List Int) (F : Nat → Prop) (b off cap : Nat) (l : List Int) (w : World) (hN : ND p cf df F w) (hR : RAt w b off l) (hbl : b < w.heap.size) (hlen : l.length < 1099511627776) :
    Calls Tryz.prog 75 #[.slice (some ⟨b, off, none⟩) l.length cap, .func (.func 15) #[p] #[]] w fun e w' => e = .returned (.tuple #[]) ∧ ∃ l', StM cf l l' ∧ RAt w' b off l' ∧ w.grownBy w' (some b) ∧
      (∀ o, o < off ∨ off + l.length ≤ o → w'.cell? ⟨b, o, none⟩ = w.cell? ⟨b, o, none⟩) ∧ ∀ o, w'.frozen? ⟨b, o, none⟩ = w.frozen? ⟨b, o, none⟩ := by
  by_cases h2 : l.length < 2
  · have hs : Srt cf l := by
      match l, h2 with
      | [], _ => exact List.Pairwise.nil
      | [x], _ => exact List.pairwise_singleton _ _
    have h2z : (l.length : Int) < 2 := by omega
    have hRh := Lib.hid hR
    clear hR
    obtain ⟨n, hn⟩ : ∃ n, n = l.length := ⟨_, rfl⟩
    rw [← hn] at h2z ⊢
    have HN := Lib.hid hn
    clear hn h2 hlen
    go_enter Tryz.func75, Tryz.ntmps75
    go_wp2
    (try simp only [Exit.inBlock, Exit.then])
    refine bodyPost_ret (results_none rfl _ _ _) rfl ?_
    exact ⟨rfl, l, StM.self hs, hRh.out, World.grownBy.refl _ _, fun _ _ => rfl, fun _ => rfl⟩
  · have h2z : ¬ ((l.length : Int) < 2) := by omega
    obtain ⟨X, hmk, hk0⟩ := make_rows l.length hlen
    have hN0 : Aside (ND p cf df F w) := hN
    have hRh := Lib.hid hR
    have g0 := World.grownBy_alloc w (.cells X 170) none
    have hs0 : (w.alloc (.cells X 170)).heap.size = w.heap.size + 1 := World.size_alloc _ _
    have k0 : Aside (KAt (w.alloc (.cells X 170)) w.heap.size (Array.replicate l.length (0, 0))) := hk0 w
    obtain ⟨rb, hrb⟩ : ∃ r, r = w.heap.size := ⟨_, rfl⟩
    clear hk0 hN hR
    obtain ⟨n, hn⟩ : ∃ n, n = l.length := ⟨_, rfl⟩
    rw [← hn] at h2z hmk k0 hlen ⊢
    have HN := Lib.hid hn
    clear hn h2
    go_enter Tryz.func75, Tryz.ntmps75
    go_wp2
    generalize w.alloc (.cells X 170) = w1 at g0 hs0 k0 ⊢
    rw [← hrb] at k0 hs0 ⊢
    have hrbl : b < rb := by omega
    have HRB : Hid (rb = w.heap.size) := hrb
    clear hmk hrb
    have HD0 : Hid (Laid cf l (Array.replicate n (0, 0)) 0) := fun j u hj _ => absurd hj (Nat.not_lt_zero _)
    have hz : (Array.replicate n ((0 : Int), (0 : Int))).size = n := by simp
    generalize Array.replicate n ((0 : Int), (0 : Int)) = d0 at k0 HD0 hz
    go_loopg [17] n (fun kx s17 wr => ∃ (i : Nat) (dk : Array (Int × Int)), s17 = .int .i64 (i : Int) ∧ i ≤ n ∧ n - i ≤ kx ∧ dk.size = n ∧ Aside (KAt wr rb dk) ∧ Hid (Laid cf l dk i) ∧ w1.grownBy wr (some rb))
    case atStart => exact ⟨0, d0, rfl, Nat.zero_le _, Nat.le_refl _, hz, k0, HD0, World.grownBy.refl _ _⟩
    case round =>
      clear k0 HD0 hz
      obtain ⟨i, dk, rfl, hin, hkx, hds, k1, HD, g1⟩ := hrel
      have gw : w.grownBy wr (some rb) := (gbut g0 _).trans g1
      have hrbw : rb < wr.heap.size := by have := g1.size; omega
      have hND : Aside (ND p cf df F wr) := hN0.out.grown gw (fun k e => by cases e; exact fun hf => absurd (hN0.out.lt _ hf) (by have := HRB.out; omega))
      by_cases hlt : i < n
      · have hltz : (i : Int) < (n : Int) := by omega
        obtain ⟨u, hu⟩ : ∃ u, l[i]? = some u := ⟨_, List.getElem?_eq_getElem (by have := HN.out; omega)⟩
        obtain ⟨c0, f0⟩ := (hRh.out.kept hbl gw (by simp; omega)) i u hu
        have HU := Lib.hid hu
        clear hu
        have hC := nd_class u hND.out
        have hids : i < dk.size := by omega
        go_wp2_with (go_at_call 15; refine hC.mono ?_; rintro e w2 ⟨rfl, hg2⟩; obtain ⟨kc0, kc1, kf0, kf1⟩ := (k1.out.kept hrbw hg2 (by simp)) i hids)
        have K2 : KAt ((w2.setCell ⟨rb, i * 2, none⟩ (.int .i32 u)).setCell ⟨rb, i * 2 + 1, none⟩ (.int .i64 (cf u))) rb (dk.setIfInBounds i (u, cf u)) := (k1.out.kept hrbw hg2 (by simp)).set i u (cf u)
        have G2 : w1.grownBy ((w2.setCell ⟨rb, i * 2, none⟩ (.int .i32 u)).setCell ⟨rb, i * 2 + 1, none⟩ (.int .i64 (cf u))) (some rb) := gset (gset (g1.trans (gbut hg2 _)) _ _) _ _
        have L2 : Laid cf l (dk.setIfInBounds i (u, cf u)) (i + 1) := Laid.step0 HD.out HU.out hids
        go_roundg (n - (i + 1))
        case measure => omega
        case rel => exact ⟨i + 1, dk.setIfInBounds i (u, cf u), by first | rfl | go_num, by omega, Nat.le_refl _, by simpa using hds, K2, L2, G2⟩
      · obtain rfl : n = i := by omega
        have hltz : ¬ ((n : Int) < (n : Int)) := by omega
        have hL := (show Laid cf l dk l.length by rw [← HN.out]; exact HD.out).all (by rw [hds]; exact HN.out)
        have hS := sortStable_any wr rb n dk k1.out hrbw (by omega)
        rw [hds, hL] at hS
        have HRw := Lib.hid (hRh.out.kept hbl gw (by simp; omega))
        have hblw : b < wr.heap.size := Nat.lt_of_lt_of_le hbl gw.size
        clear k1 HD hL hRh hND hN0 hltz
        go_wp2_with (go_at_call 111; refine hS.mono ?_; rintro e w3 ⟨rfl, d3, s1, s2, s3, s4⟩)
        have gw3 := gw.trans s4
        have HR3 := Lib.hid (HRw.out.kept hblw s4 (by simp; omega))
        have hb3 : b < w3.heap.size := Nat.lt_of_lt_of_le hblw s4.size
        have hr3 : rb < w3.heap.size := Nat.lt_of_lt_of_le hrbw s4.size
        have hM := Lib.hid (stm_keyed s1)
        have k3 : Aside (KAt w3 rb d3) := s3
        clear hS HRw s1 s3 s4 hrbw g1 hin
        have hlL : (d3.toList.map (·.1)).length = n := by simp [s2]
        have hel : ∀ j, j < n → (d3.toList.map (·.1))[j]? = some d3[j]!.1 := fun j hj => by
          rw [List.getElem?_map, Array.getElem?_toList, getElem!_pos d3 j (by omega), Array.getElem?_eq_getElem (by omega)]
          rfl
        have hEL := Lib.hid hel
        clear hel hkx hlt
        go_loopg [35] n (fun kx s35 wr => ∃ (i : Nat), s35 = .int .i64 (i : Int) ∧ i ≤ n ∧ n - i ≤ kx ∧ w3.grownBy wr (some b) ∧ Hid (∀ j, j < i → wr.cell? ⟨b, off + j, none⟩ = some (.int .i32 d3[j]!.1)) ∧ Hid (∀ o, o < off ∨ off + i ≤ o → wr.cell? ⟨b, o, none⟩ = w3.cell? ⟨b, o, none⟩) ∧ Hid (∀ o, wr.frozen? ⟨b, o, none⟩ = w3.frozen? ⟨b, o, none⟩))
        case atStart => exact ⟨0, rfl, Nat.zero_le _, Nat.le_refl _, World.grownBy.refl _ _, fun j hj => absurd hj (Nat.not_lt_zero _), fun _ _ => rfl, fun _ => rfl⟩
        case round =>
          obtain ⟨i, rfl, hin, hkx, g4, HA, HB, HC⟩ := hrel
          have hbw : b < wr.heap.size := Nat.lt_of_lt_of_le hb3 g4.size
          by_cases hlt : i < n
          · have hltz : (i : Int) < (n : Int) := by omega
            obtain ⟨kc0, kc1, _, _⟩ := (k3.out.kept hr3 g4 (by simp; omega)) i (by omega)
            obtain ⟨u, hu⟩ : ∃ u, l[i]? = some u := ⟨_, List.getElem?_eq_getElem (by have := HN.out; omega)⟩
            have c0 : wr.cell? ⟨b, off + i, none⟩ = some (.int .i32 u) := by rw [HB.out _ (.inr (Nat.le_refl _))]; exact (HR3.out i u hu).1
            have f0 : wr.frozen? ⟨b, off + i, none⟩ = false := by rw [HC.out]; exact (HR3.out i u hu).2
            clear hu
            obtain ⟨x, hx⟩ : ∃ x, x = d3[i]!.1 := ⟨_, rfl⟩
            obtain ⟨y, hy⟩ : ∃ x, x = d3[i]!.2 := ⟨_, rfl⟩
            rw [← hx] at kc0
            rw [← hy] at kc1
            have HX := Lib.hid hx
            clear hx hy
            go_wp2_with fail
            have hal : ((wr.setCell ⟨b, off + i, none⟩ (.int .i32 x)).alloc (.cells #[.int .i32 x, .int .i64 y] 170)).heap[b]? = (wr.setCell ⟨b, off + i, none⟩ (.int .i32 x)).heap[b]? := (World.grownBy_alloc _ _ none).block b (by simpa using hbw) (by simp)
            have hac := fun o => World.cell?_of_block (a := ⟨b, o, none⟩) hal
            have haf := fun o => World.frozen?_of_block (a := ⟨b, o, none⟩) hal
            have HA2 : Hid (∀ j, j < i + 1 → ((wr.setCell ⟨b, off + i, none⟩ (.int .i32 x)).alloc (.cells #[.int .i32 x, .int .i64 y] 170)).cell? ⟨b, off + j, none⟩ = some (.int .i32 d3[j]!.1)) := fun j hj => by
              rw [hac]
              by_cases e : j = i
              · rw [e, World.cell?_setCell_same _ _ _ c0, HX.out]
              · rw [World.cell?_setCell_other _ _ _ _ (by simp <;> omega)]
                exact HA.out j (by omega)
            have HB2 : Hid (∀ o, o < off ∨ off + (i + 1) ≤ o → ((wr.setCell ⟨b, off + i, none⟩ (.int .i32 x)).alloc (.cells #[.int .i32 x, .int .i64 y] 170)).cell? ⟨b, o, none⟩ = w3.cell? ⟨b, o, none⟩) := fun o ho => by
              rw [hac, World.cell?_setCell_other _ _ _ _ (by simp <;> omega)]
              exact HB.out o (by omega)
            have HC2 : Hid (∀ o, ((wr.setCell ⟨b, off + i, none⟩ (.int .i32 x)).alloc (.cells #[.int .i32 x, .int .i64 y] 170)).frozen? ⟨b, o, none⟩ = w3.frozen? ⟨b, o, none⟩) := fun o => by
              rw [haf, World.frozen?_setCell]
              exact HC.out o
            have G2 := galloc (gset g4 (off + i) (.int .i32 x)) (.cells #[.int .i32 x, .int .i64 y] 170)
            go_roundg (n - (i + 1))
            case measure => omega
            case rel => exact ⟨i + 1, by first | rfl | go_num, by omega, Nat.le_refl _, G2, HA2, HB2, HC2⟩
          · obtain rfl : n = i := by omega
            have g3 : w.grownBy w3 (some b) := gnew (World.grownBy.refl w (some b)) gw3 (fun r e => by cases e; left; have := HRB.out; omega)
            have hwb := gw3.block b hbl (by simp; omega)
            have hwc := fun o => World.cell?_of_block (a := ⟨b, o, none⟩) hwb
            have hwf := fun o => World.frozen?_of_block (a := ⟨b, o, none⟩) hwb
            clear hkx
            go_wp2
            go_end0
            refine ⟨rfl, _, hM.out, fun j v hv => ?_, g3.trans g4, fun o ho => by rw [HB.out o ho]; exact hwc o, fun o => by rw [HC.out o]; exact hwf o⟩
            have hj : j < n := by have := (List.getElem?_eq_some_iff.1 hv).1; omega
            rw [hEL.out j hj] at hv
            cases hv
            refine ⟨HA.out j hj, ?_⟩
            rw [HC.out]
            exact (HR3.out j l[j] (List.getElem?_eq_getElem (by have := HN.out; omega))).2
end Go.Proofs.YtpdacbiiaglodaaGreat

/-
  LAYER 6 (norm): a list's pieces, told while what was told is turned.
-/
namespace Go.Proofs.YtpdacbiiaglodaaGreat
set_option maxRecDepth 100000
open Go.RowKit Go.Lib
attribute [local go_sem] Oper.semAt_some

/-- Places told so far: pieces that lie one behind the other, up to e. -/
inductive Cut (cf : Int → Int) (l : List Int) : List (Nat × Nat) → Nat → Prop
  | nil : Cut cf l [] 0
  | snoc {pre : List (Nat × Nat)} {e t : Nat} : Cut cf l pre e → e < t → t ≤ l.length → (∀ i u, e < i → i < t → l[i]? = some u → cf u ≠ 0) → (∀ u, l[t]? = some u → cf u = 0) → Cut cf l (pre ++ [(e, t)]) t
def endOf (pre : List (Nat × Nat)) : Nat := (pre.getLast?.map (·.2)).getD 0
theorem Cut.endOf {cf : Int → Int} {l : List Int} {pre : List (Nat × Nat)} {e : Nat} (h : Cut cf l pre e) : endOf pre = e := by
  cases h with
  | nil => rfl
  | snoc _ _ _ _ _ => simp [Proofs.YtpdacbiiaglodaaGreat.endOf]
theorem Cut.le {cf : Int → Int} {l : List Int} {pre : List (Nat × Nat)} {e : Nat} (h : Cut cf l pre e) : e ≤ l.length := by
  cases h with
  | nil => exact Nat.zero_le _
  | snoc _ _ h _ _ => exact h
/-- A further piece. -/
def Piece (cf : Int → Int) (l : List Int) (pre : List (Nat × Nat)) (x : Nat × Nat) : Prop :=
  Cut cf l pre x.1 ∧ x.1 < x.2 ∧ x.2 ≤ l.length ∧ (∀ i u, x.1 < i → i < x.2 → l[i]? = some u → cf u ≠ 0) ∧ ∀ u, l[x.2]? = some u → cf u = 0
theorem Piece.cut {cf : Int → Int} {l : List Int} {pre : List (Nat × Nat)} {x : Nat × Nat} (h : Piece cf l pre x) : Cut cf l (pre ++ [x]) x.2 := .snoc h.1 h.2.1 h.2.2.1 h.2.2.2.1 h.2.2.2.2

def pEnc (b cap : Nat) (x : Nat × Nat) : Array Value := #[.slice (some ⟨b, x.1, none⟩) (x.2 - x.1) (cap - x.1)]
/-- What the iterator finds behind each round. -/
def PView (p : Value) (cf : Int → Int) (df : Int → List Int) (F : Nat → Prop) (bl bn b : Nat) (lv : Value) (l : List Int) (pre : List (Nat × Nat)) (W : World) : Prop :=
  Boxed W bl 50 lv ∧ Boxed W bn 31 p ∧ ND p cf df F W ∧ ∀ i u, endOf pre ≤ i → l[i]? = some u → W.cell? ⟨b, i, none⟩ = some (.int .i32 u)

set_option maxHeartbeats 8000000 in
theorem pieces1_tellsV (k : Nat) (p : Value) (cf : Int → Int) (df : Int → List Int) (F : Nat → Prop) (bl bn b cap : Nat) (a : Option Addr) (l : List Int) (ha : l ≠ [] → a = some ⟨b, 0, none⟩) (hcap : l.length ≤ cap) (hlen : l.length < 1099511627776) :
    TellsV Fence.wide (k + 6) Tryz.prog 108 #[.pointer (some ⟨bl, 0, none⟩), .pointer (some ⟨bn, 0, none⟩)] (pEnc b cap) (fun pre x _ => Piece cf l pre x) (PView p cf df F bl bn b (.slice a l.length cap) l) (fun xs _ => Cut cf l xs l.length) (fun _ _ => True) := by

  intro g J Jx W hJV hJ hJx hY h0
  have HJV := Lib.hid hJV
  have HY := Lib.hid hY
  have HA := Lib.hid ha
  clear hJV hY ha
  refine callsIn_of_wp Tryz.func108 rfl trivial ?_ rfl
  simp only [Tryz.ntmps108, List.size_toArray, List.length_cons, List.length_nil, Nat.reduceAdd, Nat.reduceSub, Array.replicate_succ, Array.replicate_zero, List.push_toArray, List.append_toArray, List.nil_append, List.cons_append]
  obtain ⟨n, hn⟩ : ∃ n, n = l.length := ⟨_, rfl⟩
  rw [← hn] at hcap HJV hlen ⊢
  have HN := Lib.hid hn
  clear hn
  gi_wp2
  gi_loopw [4, 5] (fun vf va wr => ∃ (pre : List (Nat × Nat)) (e t : Nat), vf = .int .i64 (e : Int) ∧ va = .int .i64 (t : Int) ∧ J pre wr ∧ Hid (Cut cf l pre e) ∧ e < t ∧ t ≤ n + 1 ∧ e ≤ n ∧ Hid (t = n + 1 → e = n) ∧ Hid (∀ i u, e < i → i < t → l[i]? = some u → cf u ≠ 0)) (fun _ va _ => n + 1 - (RowKit.intOf va).toNat)
  case atStart =>
    refine ⟨[], 0, 1, rfl, rfl, h0, .nil, by omega, by omega, Nat.zero_le _, fun h => by omega, fun i u h1 h2 => by omega⟩
  case round =>
    clear h0
    obtain ⟨pre, e, t, rfl, rfl, hj, HC, het, htn, hen, HE, HM⟩ := hrel
    obtain ⟨v1, v2, v3, v4⟩ := HJV.out _ _ hj
    rw [HC.out.endOf] at v4
    have c1 := v1.cell
    have c2 := v2.cell
    by_cases hle : t ≤ n
    · have hlez : (t : Int) ≤ (n : Int) := by omega
      by_cases hlt : t < n
      · have hltz : (t : Int) < (n : Int) := by omega
        obtain ⟨u, hu⟩ : ∃ u, l[t]? = some u := ⟨_, List.getElem?_eq_getElem (by have := HN.out; omega)⟩
        have c3 := v4 t u (by omega) hu
        have hSt := fun W h => nd_starter (w := W) u (ND.new v3 h)
        obtain rfl : a = some ⟨b, 0, none⟩ := HA.out (by intro e; rw [e] at hu; simp at hu)
        have HU := Lib.hid hu
        have V3 := Lib.hid v3
        have V4 := Lib.hid v4
        clear hu v1 v2 v3 v4
        gi_wp2_with fail
        have gd := gdrew (World.grownBy.refl wr none)
        apply wpIn_noPanic
        refine wpIn_region_held (S := fun W => wr.grownBy W none ∧ W.cell? ⟨bl, 0, none⟩ = some (.slice (some ⟨b, 0, none⟩) n cap) ∧ W.cell? ⟨bn, 0, none⟩ = some p ∧ W.cell? ⟨b, t, none⟩ = some (.int .i32 u)) (by kernel_rfl) ⟨gd, gd.cell c1 (by simp), gd.cell c2 (by simp), gd.cell c3 (by simp)⟩ (fun hS0 => ?_)
        refine wpAnyHIn_take (i := 0) (oi := ⟨some 12, _, _, _, _, _⟩) (v := ?_) rfl (by kernel_rfl) (by kernel_rfl) (by kernel_rfl) (by kernel_rfl) (fun _ _ _ h => h) (fun _ => rfl) (Or.inl ⟨by rfl, ?_⟩) (by assumption) ?_
        rotate_left
        · (intro w hSw; (try dsimp only at hSw); go_simp; try with_reducible rfl)
        try simp only [Act.put, List.setIfInBounds_toArray, List.set_cons_zero, List.set_cons_succ]
        refine wpAnyHIn_take (i := 1) (oi := ⟨some 13, _, _, _, _, _⟩) (v := ?_) rfl (by kernel_rfl) (by kernel_rfl) (by kernel_rfl) (by kernel_rfl) (fun _ _ _ h => h) (fun _ => rfl) (Or.inl ⟨by rfl, ?_⟩) (by assumption) ?_
        rotate_left
        · (intro w hSw; (try dsimp only at hSw); go_simp; try with_reducible rfl)
        try simp only [Act.put, List.setIfInBounds_toArray, List.set_cons_zero, List.set_cons_succ]
        refine wpAnyHIn_take (i := 2) (oi := ⟨some 14, _, _, _, _, _⟩) (v := ?_) rfl (by kernel_rfl) (by kernel_rfl) (by kernel_rfl) (by kernel_rfl) (fun _ _ _ h => h) (fun _ => rfl) (Or.inl ⟨by rfl, ?_⟩) (by assumption) ?_
        rotate_left
        · (intro w hSw; (try dsimp only at hSw); go_simp; try with_reducible rfl)
        try simp only [Act.put, List.setIfInBounds_toArray, List.set_cons_zero, List.set_cons_succ]
        refine wpAnyHIn_take (i := 3) (oi := ⟨some 15, _, _, _, _, _⟩) (v := ?_) rfl (by kernel_rfl) (by kernel_rfl) (by kernel_rfl) (by kernel_rfl) (fun _ _ _ h => h) (fun _ => rfl) (Or.inl ⟨by rfl, ?_⟩) (by assumption) ?_
        rotate_left
        · (intro w hSw; (try dsimp only at hSw); go_simp; try with_reducible rfl)
        try simp only [Act.put, List.setIfInBounds_toArray, List.set_cons_zero, List.set_cons_succ]
        refine wpAnyHIn_take (i := 4) (oi := ⟨some 16, _, _, _, _, _⟩) (v := ?_) rfl (by kernel_rfl) (by kernel_rfl) (by kernel_rfl) (by kernel_rfl) (fun _ _ _ h => h) (fun _ => rfl) (Or.inl ⟨by rfl, ?_⟩) (by assumption) ?_
        rotate_left
        · (intro w hSw; (try dsimp only at hSw); go_simp; try with_reducible rfl)
        try simp only [Act.put, List.setIfInBounds_toArray, List.set_cons_zero, List.set_cons_succ]
        refine wpAnyHIn_take (i := 5) (oi := ⟨some 17, _, _, _, _, _⟩) (v := ?_) rfl (by kernel_rfl) (by kernel_rfl) (by kernel_rfl) (by kernel_rfl) (fun _ _ _ h => h) (fun _ => rfl) (Or.inl ⟨by rfl, ?_⟩) (by assumption) ?_
        rotate_left
        · (intro w hSw; (try dsimp only at hSw); go_simp; try with_reducible rfl)
        try simp only [Act.put, List.setIfInBounds_toArray, List.set_cons_zero, List.set_cons_succ]
        refine wpAnyHIn_take (i := 6) (oi := ⟨some 18, _, _, _, _, _⟩) (v := ?_) rfl (by kernel_rfl) (by kernel_rfl) (by kernel_rfl) (by kernel_rfl) (fun _ _ _ h => h) (fun _ => rfl) (Or.inl ⟨by rfl, ?_⟩) (by assumption) ?_
        rotate_left
        · (intro w hSw; (try dsimp only at hSw); go_simp; try with_reducible rfl)
        try simp only [Act.put, List.setIfInBounds_toArray, List.set_cons_zero, List.set_cons_succ]
        refine wpAnyHIn_take (i := 7) (oi := ⟨some 19, _, _, _, _, _⟩) (v := ?_) rfl (by kernel_rfl) (by kernel_rfl) (by kernel_rfl) (by kernel_rfl) (fun _ _ _ h => h) (fun _ => rfl) (Or.inl ⟨by rfl, ?_⟩) (by assumption) ?_
        rotate_left
        · (intro w hSw; (try dsimp only at hSw); go_simp; try with_reducible rfl)
        try simp only [Act.put, List.setIfInBounds_toArray, List.set_cons_zero, List.set_cons_succ]
        refine wpAnyHIn_take (i := 8) (oi := ⟨some 20, _, _, _, _, _⟩) (v := ?_) rfl (by kernel_rfl) (by kernel_rfl) (by kernel_rfl) (by kernel_rfl) (fun _ _ _ h => h) (fun _ => rfl) (Or.inl ⟨by rfl, ?_⟩) (by assumption) ?_
        rotate_left
        · (intro w hSw; (try dsimp only at hSw); go_simp; try with_reducible rfl)
        try simp only [Act.put, List.setIfInBounds_toArray, List.set_cons_zero, List.set_cons_succ]
        refine wpAnyHIn_take (i := 9) (oi := ⟨some 21, _, _, _, _, _⟩) (v := ?_) rfl (by kernel_rfl) (by kernel_rfl) (by kernel_rfl) (by kernel_rfl) (fun _ _ _ h => h) (fun _ => rfl) (Or.inl ⟨by rfl, ?_⟩) (by assumption) ?_
        rotate_left
        · (intro w hSw; (try dsimp only at hSw); go_simp; try with_reducible rfl)
        try simp only [Act.put, List.setIfInBounds_toArray, List.set_cons_zero, List.set_cons_succ]
        refine wpAnyHIn_next (i := 10) (by kernel_rfl) rfl (by rfl) (fun K hK => ?_)
        go_simp
        refine ⟨trivial, (callsIn_wide.2 (hSt _ gd)).mono ?_⟩
        rintro e' w2 ⟨rfl, hg2⟩
        have g2 := gd.trans hg2
        refine hK.out _ _ ⟨g2, g2.cell c1 (by simp), g2.cell c2 (by simp), g2.cell c3 (by simp)⟩ (fun hS1 => ?_)
        clear hK
        by_cases hz : cf u = 0
        · have hzb : (cf u == 0) = true := by simp [hz]
          rw [hzb]
          refine wpAnyHIn_take (i := 11) (oi := ⟨some 23, _, _, _, _, _⟩) (v := ?_) rfl (by kernel_rfl) (by kernel_rfl) (by kernel_rfl) (by kernel_rfl) (fun _ _ _ h => h) (fun _ => rfl) (Or.inl ⟨by rfl, ?_⟩) (by assumption) ?_
          rotate_left
          · (intro w hSw; (try dsimp only at hSw); go_simp; try with_reducible rfl)
          try simp only [Act.put, List.setIfInBounds_toArray, List.set_cons_zero, List.set_cons_succ]
          refine wpAnyHIn_take (i := 12) (oi := ⟨some 24, _, _, _, _, _⟩) (v := ?_) rfl (by kernel_rfl) (by kernel_rfl) (by kernel_rfl) (by kernel_rfl) (fun _ _ _ h => h) (fun _ => rfl) (Or.inl ⟨by rfl, ?_⟩) (by assumption) ?_
          rotate_left
          · (intro w hSw; (try dsimp only at hSw); go_simp; try with_reducible rfl)
          try simp only [Act.put, List.setIfInBounds_toArray, List.set_cons_zero, List.set_cons_succ]
          refine wpAnyHIn_done (by kernel_rfl) ?_ _
          refine noPanic_normal ?_
          have hj2 := hJ _ _ _ hj g2
          have hPc : Piece cf l pre (e, t) := ⟨HC.out, het, by have := HN.out; show t ≤ l.length; omega, HM.out, fun v hv => by have e3 := HU.out.symm.trans hv; cases e3; exact hz⟩
          obtain ⟨fn, tmps, assign, body, hy, hRd⟩ := HY.out pre (e, t) w2 hj2 hPc
          unfold pEnc at hy
          dsimp only at hy
          have HP := Lib.hid hPc.cut
          have b1 := hS1.2.1
          clear hS0 hS1 hSt c1 c2 c3 hz hzb hPc g2 hg2 gd hj
          gi_wp2_with fail
          refine hRd.mono ?_
          rintro e3 W5 (⟨rfl, hj3⟩ | ⟨rfl, hj3⟩)
          all_goals gi_wp2
          all_goals first
            | exact ⟨⟨pre ++ [(e, t)], t, t + 1, rfl, by go_num, hj3, HP, by omega, by omega, by omega, fun h => by omega, fun i v h1 h2 => by omega⟩, by simp [RowKit.intOf] <;> omega⟩
            | (refine bodyPost_ret (results_none rfl _ _ _) rfl ?_; exact ⟨⟨_, rfl⟩, .inr ⟨_, trivial, hj3⟩⟩)
            | (go_end0; exact ⟨⟨_, rfl⟩, .inr ⟨_, trivial, hj3⟩⟩)
        · have hzb : (cf u == 0) = false := by simp [hz]
          rw [hzb]
          refine wpAnyHIn_take (i := 11) (oi := ⟨some 23, _, _, _, _, _⟩) (v := ?_) rfl (by kernel_rfl) (by kernel_rfl) (by kernel_rfl) (by kernel_rfl) (fun _ _ _ h => h) (fun _ => rfl) (Or.inl ⟨by rfl, ?_⟩) (by assumption) ?_
          rotate_left
          · (intro w hSw; (try dsimp only at hSw); go_simp; try with_reducible rfl)
          try simp only [Act.put, List.setIfInBounds_toArray, List.set_cons_zero, List.set_cons_succ]
          refine wpAnyHIn_take (i := 12) (oi := ⟨some 24, _, _, _, _, _⟩) (v := ?_) rfl (by kernel_rfl) (by kernel_rfl) (by kernel_rfl) (by kernel_rfl) (fun _ _ _ h => h) (fun _ => rfl) (Or.inl ⟨by rfl, ?_⟩) (by assumption) ?_
          rotate_left
          · (intro w hSw; (try dsimp only at hSw); go_simp; try with_reducible rfl)
          try simp only [Act.put, List.setIfInBounds_toArray, List.set_cons_zero, List.set_cons_succ]
          refine wpAnyHIn_done (by kernel_rfl) ?_ _
          refine noPanic_normal ?_
          have hj2 := hJ _ _ _ hj g2
          have HM2 : Hid (∀ i v, e < i → i < t + 1 → l[i]? = some v → cf v ≠ 0) := fun i v h1 h2 hv => by
            by_cases hi : i = t
            · subst hi
              rw [HU.out] at hv
              cases hv
              exact hz
            · exact HM.out i v h1 (by omega) hv
          clear hS0 hS1 hSt c1 c2 c3 hz hzb
          gi_wp2_with fail
          exact ⟨⟨pre, e, t + 1, rfl, by go_num, hj2, HC, by omega, by omega, hen, fun h => by omega, HM2⟩, by simp [RowKit.intOf] <;> omega⟩
      · obtain rfl : t = n := by omega
        have hltz : ¬ ((t : Int) < (t : Int)) := by omega
        have V3 := Lib.hid v3
        clear v1 v2 v3 v4
        gi_wp2_with fail
        refine wpIn_region_quiet_lit rfl (by kernel_rfl) (by kernel_rfl) ?_
        iterate 10 (quiet_step_in (fail))
        refine wpQuietIn_step (fun _ _ _ _ => trivial) (fun K hK => ?_)
        go_simp
        refine hK _ ?_
        clear hK K
        iterate 2 (quiet_step_in (fail))
        refine wpQuietIn_nil ?_
        intro _ hw'
        obtain ⟨nq, hw''⟩ := hw'
        subst hw''
        have gd : wr.grownBy (wr.drewN nq) none := gdrewN (World.grownBy.refl wr none) nq
        have b1 := gd.cell c1 (by simp)
        have hj2 := hJ _ _ _ hj gd
        have hPc : Piece cf l pre (e, t) := ⟨HC.out, het, by have := HN.out; show t ≤ l.length; omega, HM.out, fun v hv => by have := (List.getElem?_eq_some_iff.1 hv).1; have := HN.out; dsimp only at *; omega⟩
        obtain ⟨fn, tmps, assign, body, hy, hRd⟩ := HY.out pre (e, t) _ hj2 hPc
        obtain rfl : a = some ⟨b, 0, none⟩ := HA.out (by intro e'; have h1 := HN.out; rw [e'] at h1; have h2 : t = 0 := h1; omega)
        unfold pEnc at hy
        dsimp only at hy
        have HP := Lib.hid hPc.cut
        clear c1 c2 hPc hj
        gi_wp2_with fail
        refine hRd.mono ?_
        rintro e3 W5 (⟨rfl, hj3⟩ | ⟨rfl, hj3⟩)
        all_goals gi_wp2
        all_goals first
          | exact ⟨⟨pre ++ [(e, t)], t, t + 1, rfl, by go_num, hj3, HP, by omega, by omega, by omega, fun h => by omega, fun i v h1 h2 => by omega⟩, by simp [RowKit.intOf] <;> omega⟩
          | (refine bodyPost_ret (results_none rfl _ _ _) rfl ?_; exact ⟨⟨_, rfl⟩, .inr ⟨_, trivial, hj3⟩⟩)
          | (go_end0; exact ⟨⟨_, rfl⟩, .inr ⟨_, trivial, hj3⟩⟩)
    · have hlez : ¬ ((t : Int) ≤ (n : Int)) := by omega
      have hte : t = n + 1 := by omega
      have hen2 := HE.out hte
      have hall : Cut cf l pre n := by rw [← hen2]; exact HC.out
      replace hall := Lib.hid hall
      clear HE HC HM v1 v2 v3 v4 hte hen2
      gi_wp2
      all_goals first
        | (refine bodyPost_ret (results_none rfl _ _ _) rfl ?_; exact ⟨⟨_, rfl⟩, .inl ⟨pre, hall.out, hj⟩⟩)
        | (go_end0; exact ⟨⟨_, rfl⟩, .inl ⟨pre, hall.out, hj⟩⟩)
end Go.Proofs.YtpdacbiiaglodaaGreat

/-
  LAYER 6 (norm): lists of code points in memory, and their copies.
-/
namespace Go.Proofs.YtpdacbiiaglodaaGreat
set_option maxRecDepth 100000
open Go.RowKit Go.Lib

/-- A slice that reads as these code points. -/
def RS (w : World) (v : Value) (l : List Int) : Prop :=
  ∃ a c, v = .slice a l.length c ∧ l.length ≤ c ∧ c ≤ maxLen ∧ (a = none → c = 0) ∧ (l ≠ [] → ∃ b off, a = some ⟨b, off, none⟩ ∧ ∀ i u, l[i]? = some u → w.cell? ⟨b, off + i, none⟩ = some (.int .i32 u))
/-- .. and whose cells lie in a block of their own, from block B on. -/
def RO (B : Nat) (w : World) (v : Value) (l : List Int) : Prop :=
  ∃ a c, v = .slice a l.length c ∧ l.length ≤ c ∧ c ≤ maxLen ∧ (a = none → c = 0) ∧ (l ≠ [] → ∃ b, a = some ⟨b, 0, none⟩ ∧ B ≤ b ∧ b < w.heap.size ∧ RAt w b 0 l)
theorem RO.reads {B : Nat} {w : World} {v : Value} {l : List Int} (h : RO B w v l) : RS w v l := by
  obtain ⟨a, c, h1, h2, h3, h3', h4⟩ := h
  refine ⟨a, c, h1, h2, h3, h3', fun hl => ?_⟩
  obtain ⟨b, q1, _, _, q4⟩ := h4 hl
  exact ⟨b, 0, q1, fun i u hu => (q4 i u hu).1⟩
theorem RO.kept {B : Nat} {w w' : World} {v : Value} {l : List Int} {q : Option Nat} (h : RO B w v l) (hg : w.grownBy w' q) (hq : ∀ k, q = some k → k < B ∨ w.heap.size ≤ k) : RO B w' v l := by
  obtain ⟨a, c, h1, h2, h3, h3', h4⟩ := h
  refine ⟨a, c, h1, h2, h3, h3', fun hl => ?_⟩
  obtain ⟨b, q1, q2, q3, q4⟩ := h4 hl
  exact ⟨b, q1, q2, Nat.lt_of_lt_of_le q3 hg.size, q4.kept q3 hg (fun e => by rcases hq b e with h | h <;> omega)⟩
theorem RO.new {B : Nat} {w w' : World} {v : Value} {l : List Int} (h : RO B w v l) (hg : w.grownBy w' none) : RO B w' v l := h.kept hg (by simp)
theorem RO.low {B B' : Nat} {w : World} {v : Value} {l : List Int} (h : RO B w v l) (hB : B' ≤ B) : RO B' w v l := by
  obtain ⟨a, c, h1, h2, h3, h3', h4⟩ := h
  exact ⟨a, c, h1, h2, h3, h3', fun hl => by obtain ⟨b, q1, q2, q3⟩ := h4 hl; exact ⟨b, q1, Nat.le_trans hB q2, q3⟩⟩
theorem RS.heap {w w' : World} {v : Value} {l : List Int} (h : RS w v l) (hk : l ≠ [] → ∀ k, v.ownBlock = some k → w'.heap[k]? = w.heap[k]?) : RS w' v l := by
  obtain ⟨a, c, rfl, h2, h3, h3', h4⟩ := h
  refine ⟨a, c, rfl, h2, h3, h3', fun hl => ?_⟩
  obtain ⟨b, off, rfl, q2⟩ := h4 hl
  exact ⟨b, off, rfl, fun i u hu => by rw [World.cell?_of_block (a := ⟨b, off + i, none⟩) (hk hl b rfl)]; exact q2 i u hu⟩
theorem RS.lt {w : World} {v : Value} {l : List Int} (h : RS w v l) (hl : l ≠ []) : ∀ k, v.ownBlock = some k → k < w.heap.size := by
  obtain ⟨a, c, rfl, h2, h3, h3', h4⟩ := h
  obtain ⟨b, off, rfl, q2⟩ := h4 hl
  intro k e
  simp [Value.ownBlock] at e
  subst e
  obtain ⟨u, t, rfl⟩ := List.exists_cons_of_ne_nil hl
  exact World.block_lt_of_cell? w _ (q2 0 u rfl)
theorem RS.new {w w' : World} {v : Value} {l : List Int} (h : RS w v l) (hg : w.grownBy w' none) : RS w' v l := h.heap fun hl k e => hg.block k (h.lt hl k e) (by simp)
theorem RS.nil (w : World) : RS w (.slice none 0 0) [] := ⟨none, 0, rfl, Nat.le_refl _, Nat.zero_le _, fun _ => rfl, fun h => absurd rfl h⟩
theorem RO.nil (B : Nat) (w : World) : RO B w (.slice none 0 0) [] := ⟨none, 0, rfl, Nat.le_refl _, Nat.zero_le _, fun _ => rfl, fun h => absurd rfl h⟩
theorem ro_of_owns {B : Nat} {w : World} {v : Value} {l : List Int} (h : w.ownsRow B 21 1 v l.length (rCells l)) : RO B w v l := by
  obtain ⟨h0, ⟨rfl, hn⟩ | ⟨g, cap, cur, rfl, hB, hgg, h1, h2, h3, h4⟩⟩ := h
  · obtain rfl := List.length_eq_zero_iff.1 hn
    exact RO.nil _ _
  · refine ⟨_, cap, rfl, h1, h2, (fun e => by cases e), fun _ => ⟨g, rfl, hB, (Array.getElem?_eq_some_iff.1 hgg).1, fun i u hu => ?_⟩⟩
    have hi : i < l.length := (List.getElem?_eq_some_iff.1 hu).1
    have hu2 : (rCells l)[i]? = some (.int .i32 u) := by simp [rCells, hu, i32]
    rw [Nat.mul_one] at h4
    rw [← h4, List.getElem?_take_of_lt hi] at hu2
    have h6 : cur[i]? = some (.int .i32 u) := by simpa using hu2
    rw [Nat.zero_add]
    exact ⟨by simp only [World.cell?, hgg]; exact h6, by simp [World.frozen?, hgg]⟩

set_option maxHeartbeats 1000000 in
theorem clone_any (v : Value) (l : List Int) (w : World) (h : RS w v l) (hlen : l.length < 1099511627776) :
    Calls Tryz.prog 91 #[v] w fun e w' => ∃ v', e = .returned v' ∧ RO w.heap.size w' v' l ∧ w.grownBy w' none := by
  obtain ⟨a, cap, rfl, hc, hm, hnc, hcl⟩ := h
  cases a with
  | none =>
    have hl : l = [] := by
      by_cases hl : l = []
      · exact hl
      · obtain ⟨b, off, e, _⟩ := hcl hl; cases e
    subst hl
    obtain rfl := hnc rfl
    clear hnc
    have q : ∀ (w : World), (binOp .eql 50 (.slice none 0 0) (.slice none 0 0)).run Tryz.prog w = .ok (.bool true) w := fun w => Lib.run_eql_slice_nil w _ _ none 0 0 0 0 Tryz.underlying50
    go_enter Tryz.func91, Tryz.ntmps91
    go_wp2
    go_ret
    exact ⟨_, rfl, RO.nil _ _, World.grownBy.refl _ _⟩
  | some x =>
    clear hnc
    have q : ∀ (w : World), (binOp .eql 50 (.slice (some x) l.length cap) (.slice none 0 0)).run Tryz.prog w = .ok (.bool false) w := fun w => Lib.run_eql_slice_nil w _ _ (some x) l.length cap 0 0 Tryz.underlying50
    by_cases hl : l = []
    · subst hl
      have q0 : ∀ (w : World), (binOp .eql 50 (.slice (some x) 0 cap) (.slice none 0 0)).run Tryz.prog w = .ok (.bool false) w := q
      clear q
      go_enter Tryz.func91, Tryz.ntmps91
      go_wp2
      go_ret
      exact ⟨_, rfl, ⟨_, 0, rfl, Nat.le_refl _, Nat.zero_le _, fun _ => rfl, fun h => absurd rfl h⟩, World.grownBy_alloc w _ none⟩
    · obtain ⟨b, off, e, hcell⟩ := hcl hl
      cases e
      obtain ⟨i0, hi, hz0, hz1, hz2⟩ := infoRune_parts
      obtain ⟨n, hn⟩ : ∃ n, n = l.length := ⟨_, rfl⟩
      have hrl : (rCells l).length = l.length := by simp [rCells]
      have hbl : b < w.heap.size := by
        obtain ⟨u, t, rfl⟩ := List.exists_cons_of_ne_nil hl
        exact World.block_lt_of_cell? w _ (hcell 0 u rfl)
      go_enter Tryz.func91, Tryz.ntmps91
      go_wp2_with (at_builtin; refine wpList_append_grows _ rfl _ _ 50 rfl 21 i0 (.int .i32 0) 1 4 Tryz.underlying50 hi hz0 hz1 hz2 rfl (by decide) (some ⟨w.heap.size, 0, none⟩) 0 0 [] rfl (fun h => by cases h) ?d0 ?d1 ⟨b, off, none⟩ l.length cap (rCells l) rfl ?d7 ?d2 ?d3 ?d4 ?d5 ?d6 ?_)
      case d0 => rfl
      case d1 => intro b hb j u hu; simp at hu
      case d7 => simp [rCells]
      case d2 =>
        intro j u hu
        have hu' : ∃ x, l[j]? = some x ∧ u = .int .i32 x := by
          simp only [rCells, List.getElem?_map, Option.map_eq_some_iff] at hu
          obtain ⟨x, q1, q2⟩ := hu
          exact ⟨x, q1, q2.symm⟩
        obtain ⟨x, q1, rfl⟩ := hu'
        have h4 := (World.grownBy_alloc w (.cells #[] 21) none).cell (hcell j x q1) (by simp)
        rw [show (⟨b, off, none⟩ : Addr).add j = ⟨b, off + j, none⟩ by unfold Addr.add; split <;> simp_all]
        exact h4
      case d3 =>
        intro u hu
        simp only [rCells, List.mem_map] at hu
        obtain ⟨x, _, rfl⟩ := hu
        rfl
      case d4 =>
        have := List.length_pos_iff.2 hl
        omega
      case d5 => unfold maxLen; omega
      case d6 => omega
      intro v' w' hown hg
      clear hi hz0 hz1 hz2 q hcell
      have hg2 := (World.grownBy_alloc w (.cells #[] 21) none).trans hg
      have ho2 : w'.ownsRow w.heap.size 21 1 v' l.length (rCells l) := by simpa using ownLow hown (by simp)
      clear hown hg
      go_wp2
      go_ret
      exact ⟨_, rfl, ro_of_owns ho2, hg2⟩

theorem clip_any (B : Nat) (v : Value) (l : List Int) (w : World) (h : RO B w v l) (hlen : l.length < 1099511627776) :
    Calls Tryz.prog 69 #[v] w fun e w' => ∃ a, e = .returned (.slice a l.length l.length) ∧ RO B w (.slice a l.length l.length) l ∧ w = w' := by
  obtain ⟨a, cap, rfl, hc, hm, hnc, hcl⟩ := h
  have hR : RO B w (.slice a l.length l.length) l := ⟨a, _, rfl, Nat.le_refl _, Nat.le_trans hc hm, fun e => by have := hnc e; omega, hcl⟩
  replace hR := Lib.hid hR
  cases a with
  | none =>
    have hl : l = [] := by
      by_cases hl : l = []
      · exact hl
      · obtain ⟨b, e, _⟩ := hcl hl; cases e
    subst hl
    obtain rfl := hnc rfl
    clear hcl hnc
    go_enter Tryz.func69, Tryz.ntmps69
    go_wp2
    go_ret
    exact ⟨none, rfl, hR.out, rfl⟩
  | some x =>
    clear hcl hnc
    generalize l.length = n at hc hR hlen
    unfold maxLen at hm
    go_enter Tryz.func69, Tryz.ntmps69
    go_wp2
    go_ret
    exact ⟨_, rfl, hR.out, rfl⟩
theorem mcopied_any (v : Value) (l : List Int) (w : World) (h : RS w v l) (hlen : l.length < 1099511627776) :
    Calls Tryz.prog 66 #[v] w fun e w' => ∃ a, e = .returned (.slice a l.length l.length) ∧ RO w.heap.size w' (.slice a l.length l.length) l ∧ w.grownBy w' none := by
  have hC := clone_any v l w h hlen
  have hP := fun v W h => clip_any w.heap.size v l W h hlen
  obtain ⟨a, cap, rfl, _⟩ := h
  generalize l.length = n at hC hP hlen
  go_enter Tryz.func66, Tryz.ntmps66
  go_wp2_with (first
    | (go_at_call 91; refine hC.mono ?_; rintro e w1 ⟨v1, rfl, ho1, hg1⟩)
    | (go_at_call 69; refine (hP _ _ ho1).mono ?_; rintro e w2 ⟨a2, rfl, hF2, rfl⟩))
  go_ret
  exact ⟨_, rfl, hF2, hg1⟩
end Go.Proofs.YtpdacbiiaglodaaGreat
