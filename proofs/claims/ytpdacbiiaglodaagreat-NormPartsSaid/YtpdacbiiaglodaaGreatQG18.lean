/-
  LAYER 6 (norm): the stable sort's exchange of two ranges.
-/
import Derived.Test.YtpdacbiiaglodaaGreatQG04
import Derived.Test.YtpdacbiiaglodaaGreatQG17
namespace Go.Proofs.YtpdacbiiaglodaaGreat
set_option maxRecDepth 100000
open Go.Shelf Go.RowKit Go.Lib Go.Sort

set_option maxHeartbeats 4000000 in
theorem swapRange_gen {Pg : Program} {α : Type} [Inhabited α] {enc : α → List Value} {k : Nat} (Lt : SlLaysF0.n20 Pg ins_ren) (aE : ∀ w, (isAgg 170).run Pg w = .ok true w) (zE : ∀ w, (Go.sizeOf 170).run Pg w = .ok k w)
    (FG : Pg.funcs[207]? = some Tryz.f207) (cf : Value) (w0 w : World) (blk off cap : Nat) (d0 d : Array α) (X P Z Q Y : List α) (R : RowK enc k w0 blk off d0) (hs : d0.size = d.size) (S : SWK enc k w0 blk off d w) (hd : d.toList = X ++ (P ++ (Z ++ (Q ++ Y)))) (he : P.length = Q.length) (hsz : d.size < 4611686018427387904)
    (a b n : Nat) (ha : a = X.length) (hb : b = X.length + P.length + Z.length) (hn : n = P.length) :
    Calls Pg 207 #[.slice (some ⟨blk, off, none⟩) d.size cap, .int .i64 a, .int .i64 b, .int .i64 n, cf] w fun e w' =>
      e = .returned (.tuple #[]) ∧ ∃ d', d'.toList = X ++ (Q ++ (Z ++ (P ++ Y))) ∧ d'.size = d.size ∧ SWK enc k w0 blk off d' w' := by
  have hl : d.size = X.length + P.length + Z.length + Q.length + Y.length := by rw [size_list d _ hd]; simp; omega
  have S0 : Aside (SWK enc k w0 blk off d w) := S
  clear S
  have HP : Hid (∀ (d' : Array α) (i : Nat), i < n → d'.toList = X ++ (Q.take i ++ (P.drop i ++ (Z ++ (P.take i ++ (Q.drop i ++ Y))))) → (swp d' (a + i) (b + i)).toList = X ++ (Q.take (i + 1) ++ (P.drop (i + 1) ++ (Z ++ (P.take (i + 1) ++ (Q.drop (i + 1) ++ Y)))))) := fun d' i hi h => by
    rw [ha, hb]; exact swapRange_step X P Z Q Y d' i (by omega) he h
  have hd0 : d.toList = X ++ (Q.take 0 ++ (P.drop 0 ++ (Z ++ (P.take 0 ++ (Q.drop 0 ++ Y))))) := by rw [hd]; simp
  have hfin : ∀ d' : Array α, d'.toList = X ++ (Q.take n ++ (P.drop n ++ (Z ++ (P.take n ++ (Q.drop n ++ Y))))) → d'.toList = X ++ (Q ++ (Z ++ (P ++ Y))) := fun d' h => by
    rw [h, hn, List.take_length, List.drop_length, he, List.take_length, List.drop_length]; simp
  have HF : Hid _ := hfin
  have hab : a + n ≤ d.size := by omega
  have hbb : b + n ≤ d.size := by omega
  generalize hL : (fun i : Nat => X ++ (Q.take i ++ (P.drop i ++ (Z ++ (P.take i ++ (Q.drop i ++ Y)))))) = L at *
  have HP' : Hid (∀ (d' : Array α) (i : Nat), i < n → d'.toList = L i → (swp d' (a + i) (b + i)).toList = L (i + 1)) := fun d' i hi h => by rw [← hL] at h ⊢; exact HP.out d' i hi h
  have HD0 : Hid (d.toList = L 0) := by show _ = _; rw [← hL]; exact hd0
  have HF' : Hid (∀ d' : Array α, d'.toList = L n → d'.toList = X ++ (Q ++ (Z ++ (P ++ Y)))) := fun d' h => by rw [← hL] at h; exact HF.out d' h
  clear HP HF hfin hd0 hL hl hd ha hb hn he
  have mixed := Lt.mixed; have t0 : Pg.underlying 0 = _ := Lt.t0; have a0 : ∀ w, (isAgg 0).run Pg w = _ := Lt.a0; have z0 : ∀ w, (Go.sizeOf 0).run Pg w = _ := Lt.z0; have v0 : ∀ w, (zeroValue 0).run Pg w = _ := Lt.v0; have t3 : Pg.underlying 3 = _ := Lt.t3; have a3 : ∀ w, (isAgg 3).run Pg w = _ := Lt.a3; have z3 : ∀ w, (Go.sizeOf 3).run Pg w = _ := Lt.z3; have v3 : ∀ w, (zeroValue 3).run Pg w = _ := Lt.v3; have t4 : Pg.underlying 4 = _ := Lt.t4; have a4 : ∀ w, (isAgg 4).run Pg w = _ := Lt.a4; have z4 : ∀ w, (Go.sizeOf 4).run Pg w = _ := Lt.z4; have v4 : ∀ w, (zeroValue 4).run Pg w = _ := Lt.v4; have t22 : Pg.underlying 168 = some (TypeDesc.slice 170) := Lt.t22; have a22 : ∀ w, (isAgg 168).run Pg w = _ := Lt.a22; have z22 : ∀ w, (Go.sizeOf 168).run Pg w = _ := Lt.z22; have v22 : ∀ w, (zeroValue 168).run Pg w = _ := Lt.v22
  go_enter FG, Tryz.ntmps207
  go_wp2
  go_loopg [10] n (fun kx s10 wr => ∃ (i : Nat) (dk : Array α), s10 = .int .i64 i ∧ i ≤ n ∧ n - i ≤ kx ∧ dk.size = d.size ∧ Aside (SWK enc k w0 blk off dk wr) ∧ Hid (dk.toList = L i))
  case atStart => exact ⟨0, d, rfl, by omega, by omega, rfl, S0, HD0⟩
  case round =>
    clear S0
    obtain ⟨i, dk, rfl, hin, hkx, hds, S1, HL⟩ := hrel
    by_cases hlt : i < n
    · have hltz : (i : Int) < (n : Int) := by omega
      go_wp2_with fail
      have ea : ((a : Int) + (i : Int)).toNat = a + i := by omega
      have pa : (0 : Int) ≤ (a : Int) + (i : Int) := by omega
      have ba : (a : Int) + (i : Int) < (d.size : Int) := by omega
      have ra : IntKind.i64.wrap ((a : Int) + (i : Int)) = (a : Int) + (i : Int) := by rw [IntKind.wrap_i64]; omega
      have ec : ((b : Int) + (i : Int)).toNat = b + i := by omega
      have pc : (0 : Int) ≤ (b : Int) + (i : Int) := by omega
      have bc : (b : Int) + (i : Int) < (d.size : Int) := by omega
      have rc : IntKind.i64.wrap ((b : Int) + (i : Int)) = (b : Int) + (i : Int) := by rw [IntKind.wrap_i64]; omega
      have S2 : Aside (SWK enc k w0 blk off (swp dk (a + i) (b + i)) ((wr.drew.setCells blk (off + (a + i) * k) (enc dk[b + i]!)).setCells blk (off + (b + i) * k) (enc dk[a + i]!))) := S1.out.swapped R (a + i) (b + i) (by omega) (by omega)
      have la := S1.out.ld1 R (by omega) Pg (a + i) (by omega)
      have lb := S1.out.ld1 R (by omega) Pg (b + i) (by omega)
      have sa := S1.out.st1 R (by omega) Pg (a + i) (by omega) dk[b + i]!
      have sb := S1.out.st2 R (by omega) Pg (a + i) (b + i) (by omega) (by omega) dk[b + i]! dk[a + i]!
      have na : (enc dk[a + i]!).length = k := R.hk _
      have nb : (enc dk[b + i]!).length = k := R.hk _
      have HN : Hid ((swp dk (a + i) (b + i)).toList = L (i + 1)) := HP'.out dk i hlt HL.out
      clear HL
      generalize enc dk[a + i]! = cI at S2 la sb na
      generalize enc dk[b + i]! = cJ at S2 lb sa sb nb
      clear S1
      go_wp2_with fail
      go_big_region_o
      clear la lb sa sb
      generalize (wr.drew.setCells blk (off + (a + i) * k) cJ).setCells blk (off + (b + i) * k) cI = w2 at S2 ⊢
      go_wp2
      go_roundg (n - (i + 1))
      case measure => omega
      case rel => exact ⟨i + 1, swp dk (a + i) (b + i), by simp, by omega, Nat.le_refl _, by rw [size_swp]; exact hds, S2, HN⟩
    · have hi : i = n := by omega
      subst hi
      go_wp2
      go_end0
      exact ⟨rfl, dk, HF'.out dk HL.out, hds, S1.out⟩

theorem swapRange_z {Pg : Program} {α : Type} [Inhabited α] {enc : α → List Value} {k : Nat} (Lt : SlLaysF0.n20 Pg ins_ren) (aE : ∀ w, (isAgg 170).run Pg w = .ok true w) (zE : ∀ w, (Go.sizeOf 170).run Pg w = .ok k w)
    (FG : Pg.funcs[207]? = some Tryz.f207) (cf : Value) (w0 w : World) (blk off cap : Nat) (d0 d : Array α) (X P Z Q Y : List α) (R : RowK enc k w0 blk off d0) (hs : d0.size = d.size) (S : SWK enc k w0 blk off d w) (hd : d.toList = X ++ (P ++ (Z ++ (Q ++ Y)))) (he : P.length = Q.length) (hsz : d.size < 4611686018427387904)
    (za zb zn : Int) (ha : za = X.length) (hb : zb = X.length + P.length + Z.length) (hn : zn = P.length) :
    Calls Pg 207 #[.slice (some ⟨blk, off, none⟩) d.size cap, .int .i64 za, .int .i64 zb, .int .i64 zn, cf] w fun e w' =>
      e = .returned (.tuple #[]) ∧ ∃ d', d'.toList = X ++ (Q ++ (Z ++ (P ++ Y))) ∧ d'.size = d.size ∧ SWK enc k w0 blk off d' w' := by
  have := swapRange_gen Lt aE zE FG cf w0 w blk off cap d0 d X P Z Q Y R hs S hd he hsz X.length (X.length + P.length + Z.length) P.length rfl rfl rfl
  rwa [← ha, show ((X.length + P.length + Z.length : Nat) : Int) = zb by omega, ← hn] at this
end Go.Proofs.YtpdacbiiaglodaaGreat

/-
  LAYER 6 (norm): the stable sort's rotation.
-/
namespace Go.Proofs.YtpdacbiiaglodaaGreat
set_option maxRecDepth 100000
open Go.Shelf Go.RowKit Go.Lib Go.Sort


set_option maxHeartbeats 4000000 in
theorem rotate_gen {Pg : Program} {α : Type} [Inhabited α] {enc : α → List Value} {k : Nat} (Lt : SlLaysF0.n20 Pg ins_ren) (aE : ∀ w, (isAgg 170).run Pg w = .ok true w) (zE : ∀ w, (Go.sizeOf 170).run Pg w = .ok k w) (FS : Pg.funcs[207]? = some Tryz.f207) (FR : Pg.funcs[194]? = some Tryz.f194) (cf : Value) (w0 w : World) (blk off cap : Nat) (d0 d : Array α) (X U V Y : List α) (R : RowK enc k w0 blk off d0) (hs : d0.size = d.size) (S : SWK enc k w0 blk off d w) (hd : d.toList = X ++ (U ++ (V ++ Y))) (hU : U ≠ []) (hV : V ≠ []) (hsz : d.size < 4611686018427387904)
    (a m b : Nat) (ha : a = X.length) (hm : m = X.length + U.length) (hb : b = X.length + U.length + V.length) :
    Calls Pg 194 #[.slice (some ⟨blk, off, none⟩) d.size cap, .int .i64 a, .int .i64 m, .int .i64 b, cf] w fun e w' =>
      e = .returned (.tuple #[]) ∧ ∃ d', d'.toList = X ++ (V ++ (U ++ Y)) ∧ d'.size = d.size ∧ SWK enc k w0 blk off d' w' := by
  have hl : d.size = X.length + U.length + V.length + Y.length := by rw [size_list d _ hd]; simp; omega
  have hU' := List.length_pos_iff.2 hU
  have hV' := List.length_pos_iff.2 hV
  have S0 : Aside (SWK enc k w0 blk off d w) := S
  clear S
  have mixed := Lt.mixed; have t0 : Pg.underlying 0 = _ := Lt.t0; have a0 : ∀ w, (isAgg 0).run Pg w = _ := Lt.a0; have z0 : ∀ w, (Go.sizeOf 0).run Pg w = _ := Lt.z0; have v0 : ∀ w, (zeroValue 0).run Pg w = _ := Lt.v0; have t3 : Pg.underlying 3 = _ := Lt.t3; have a3 : ∀ w, (isAgg 3).run Pg w = _ := Lt.a3; have z3 : ∀ w, (Go.sizeOf 3).run Pg w = _ := Lt.z3; have v3 : ∀ w, (zeroValue 3).run Pg w = _ := Lt.v3; have t4 : Pg.underlying 4 = _ := Lt.t4; have a4 : ∀ w, (isAgg 4).run Pg w = _ := Lt.a4; have z4 : ∀ w, (Go.sizeOf 4).run Pg w = _ := Lt.z4; have v4 : ∀ w, (zeroValue 4).run Pg w = _ := Lt.v4; have t22 : Pg.underlying 168 = some (TypeDesc.slice 170) := Lt.t22; have a22 : ∀ w, (isAgg 168).run Pg w = _ := Lt.a22; have z22 : ∀ w, (Go.sizeOf 168).run Pg w = _ := Lt.z22; have v22 : ∀ w, (zeroValue 168).run Pg w = _ := Lt.v22
  have e207 : ∀ args w, (callFunc 207 args).run Pg w = .ok (.enter 207 args) w := enters_of FS (by kernel_rfl) rfl
  -- what one exchange makes of a state
  have HG : Hid (∀ (A U1 V1 B : List α) (dk : Array α) (wr : World), dk.size = d.size → SWK enc k w0 blk off dk wr → dk.toList = X ++ (A ++ (U1 ++ (V1 ++ (B ++ Y)))) → V ++ U = A ++ (V1 ++ (U1 ++ B)) → m = X.length + A.length + U1.length → V1.length < U1.length →
      ∀ (za zb zn : Int), za = (m : Int) - U1.length → zb = m → zn = V1.length →
      Calls Pg 207 #[.slice (some ⟨blk, off, none⟩) d.size cap, .int .i64 za, .int .i64 zb, .int .i64 zn, cf] wr fun e w' => e = .returned (.tuple #[]) ∧ ∃ (A2 U2 V2 B2 : List α) (d' : Array α), d'.size = d.size ∧ d'.toList = X ++ (A2 ++ (U2 ++ (V2 ++ (B2 ++ Y)))) ∧ V ++ U = A2 ++ (V2 ++ (U2 ++ B2)) ∧ m = X.length + A2.length + U2.length ∧ U2.length = U1.length - V1.length ∧ V2.length = V1.length ∧ SWK enc k w0 blk off d' w') := by
    intro A U1 V1 B dk wr hds hS hdk ht hm1 hlt za zb zn hza hzb hzn
    have := swapRange_z Lt aE zE FS cf w0 wr blk off cap d0 dk (X ++ A) (U1.take V1.length) (U1.drop V1.length) V1 (B ++ Y) R (by omega) hS (by rw [hdk]; rw [List.append_assoc, ← List.append_assoc (U1.take V1.length), List.take_append_drop]) (by rw [List.length_take]; omega) (by omega) za zb zn (by rw [hza, List.length_append]; omega) (by rw [hzb, List.length_append, List.length_take, List.length_drop]; omega) (by rw [hzn, List.length_take]; omega)
    rw [hds] at this
    refine this.mono ?_
    rintro e w' ⟨rfl, d', q1, q2, q3⟩
    refine ⟨rfl, A ++ V1, U1.drop V1.length, U1.take V1.length, B, d', by omega, by rw [q1]; simp, ?_, ?_, by simp, by simp; omega, q3⟩
    · rw [ht]
      conv => lhs; rw [← List.take_append_drop V1.length U1]
      simp only [List.append_assoc]
    · simp; omega
  have HL : Hid (∀ (A U1 V1 B : List α) (dk : Array α) (wr : World), dk.size = d.size → SWK enc k w0 blk off dk wr → dk.toList = X ++ (A ++ (U1 ++ (V1 ++ (B ++ Y)))) → V ++ U = A ++ (V1 ++ (U1 ++ B)) → m = X.length + A.length + U1.length → U1.length < V1.length →
      ∀ (za zb zn : Int), za = (m : Int) - U1.length → zb = (m : Int) + V1.length - U1.length → zn = U1.length →
      Calls Pg 207 #[.slice (some ⟨blk, off, none⟩) d.size cap, .int .i64 za, .int .i64 zb, .int .i64 zn, cf] wr fun e w' => e = .returned (.tuple #[]) ∧ ∃ (A2 U2 V2 B2 : List α) (d' : Array α), d'.size = d.size ∧ d'.toList = X ++ (A2 ++ (U2 ++ (V2 ++ (B2 ++ Y)))) ∧ V ++ U = A2 ++ (V2 ++ (U2 ++ B2)) ∧ m = X.length + A2.length + U2.length ∧ U2.length = U1.length ∧ V2.length = V1.length - U1.length ∧ SWK enc k w0 blk off d' w') := by
    intro A U1 V1 B dk wr hds hS hdk ht hm1 hlt za zb zn hza hzb hzn
    have := swapRange_z Lt aE zE FS cf w0 wr blk off cap d0 dk (X ++ A) U1 (V1.take (V1.length - U1.length)) (V1.drop (V1.length - U1.length)) (B ++ Y) R (by omega) hS (by rw [hdk]; rw [List.append_assoc, ← List.append_assoc (V1.take _), List.take_append_drop]) (by rw [List.length_drop]; omega) (by omega) za zb zn (by rw [hza, List.length_append]; omega) (by rw [hzb, List.length_append, List.length_take]; omega) hzn
    rw [hds] at this
    refine this.mono ?_
    rintro e w' ⟨rfl, d', q1, q2, q3⟩
    refine ⟨rfl, A, V1.drop (V1.length - U1.length), V1.take (V1.length - U1.length), U1 ++ B, d', by omega, by rw [q1]; simp, ?_, ?_, by simp; omega, by simp, q3⟩
    · rw [ht]
      conv => lhs; rw [← List.take_append_drop (V1.length - U1.length) V1]
      simp only [List.append_assoc]
    · simp; omega
  have HE : Hid (∀ (A U1 V1 B : List α) (dk : Array α) (wr : World), dk.size = d.size → SWK enc k w0 blk off dk wr → dk.toList = X ++ (A ++ (U1 ++ (V1 ++ (B ++ Y)))) → V ++ U = A ++ (V1 ++ (U1 ++ B)) → m = X.length + A.length + U1.length → U1.length = V1.length →
      ∀ (za zb zn : Int), za = (m : Int) - U1.length → zb = m → zn = U1.length →
      Calls Pg 207 #[.slice (some ⟨blk, off, none⟩) d.size cap, .int .i64 za, .int .i64 zb, .int .i64 zn, cf] wr fun e w' => e = .returned (.tuple #[]) ∧ ∃ d', d'.toList = X ++ (V ++ (U ++ Y)) ∧ d'.size = d.size ∧ SWK enc k w0 blk off d' w') := by
    intro A U1 V1 B dk wr hds hS hdk ht hm1 hlt za zb zn hza hzb hzn
    have := swapRange_z Lt aE zE FS cf w0 wr blk off cap d0 dk (X ++ A) U1 [] V1 (B ++ Y) R (by omega) hS (by rw [hdk]; simp) (by omega) (by omega) za zb zn (by rw [hza, List.length_append]; omega) (by rw [hzb, List.length_append]; simp; omega) hzn
    rw [hds] at this
    refine this.mono ?_
    rintro e w' ⟨rfl, d', q1, q2, q3⟩
    refine ⟨rfl, d', ?_, by omega, q3⟩
    rw [q1, ← List.append_assoc V, ht]
    simp
  have HD0 : Hid (d.toList = X ++ ([] ++ (U ++ (V ++ ([] ++ Y)))) ∧ V ++ U = [] ++ (V ++ (U ++ [])) ∧ m = X.length + ([] : List α).length + U.length) := ⟨by rw [hd]; simp, by simp, by simp; omega⟩
  have hd10 : (m : Int) - (a : Int) = (U.length : Int) := by omega
  have hd11 : (b : Int) - (m : Int) = (V.length : Int) := by omega
  have hmb : m + V.length < 4611686018427387904 := by omega
  have hmU : U.length ≤ m := by omega
  clear hd hU hV hl ha hm hb
  obtain ⟨su, hsu⟩ : ∃ x, x = U.length := ⟨_, rfl⟩
  obtain ⟨sv, hsv⟩ : ∃ x, x = V.length := ⟨_, rfl⟩
  rw [← hsu] at hd10 hU' hmU
  rw [← hsv] at hd11 hV' hmb
  have HSU : Hid (su = U.length) := hsu
  have HSV : Hid (sv = V.length) := hsv
  clear hsu hsv
  go_enter FR, Tryz.ntmps194
  go_wp2
  go_loopg [10, 11] (su + sv) (fun kx s10 s11 wr => ∃ (i j : Nat) (dk : Array α), s10 = .int .i64 i ∧ s11 = .int .i64 j ∧ 0 < i ∧ 0 < j ∧ i + j ≤ kx ∧ i ≤ m ∧ m + j < 4611686018427387904 ∧ dk.size = d.size ∧ Aside (SWK enc k w0 blk off dk wr) ∧ Hid (∃ A U1 V1 B : List α, U1.length = i ∧ V1.length = j ∧ dk.toList = X ++ (A ++ (U1 ++ (V1 ++ (B ++ Y)))) ∧ V ++ U = A ++ (V1 ++ (U1 ++ B)) ∧ m = X.length + A.length + U1.length))
  case atStart => exact ⟨su, sv, d, by first | rfl | rw [hd10], by first | rfl | rw [hd11], hU', hV', by omega, hmU, hmb, rfl, S0, [], U, V, [], HSU.out.symm, HSV.out.symm, HD0.out⟩
  case round =>
    clear S0 HD0
    obtain ⟨i, j, dk, rfl, rfl, hi, hj, hkx, him, hjm, hds, S1, HX⟩ := hrel
    by_cases he : i = j
    · subst he
      have hc : ∀ (za zb zn : Int), za = (m : Int) - i → zb = m → zn = i → Calls Pg 207 #[.slice (some ⟨blk, off, none⟩) d.size cap, .int .i64 za, .int .i64 zb, .int .i64 zn, cf] wr fun e w' => e = .returned (.tuple #[]) ∧ ∃ d', d'.toList = X ++ (V ++ (U ++ Y)) ∧ d'.size = d.size ∧ SWK enc k w0 blk off d' w' := by
        intro za zb zn hza hzb hzn
        obtain ⟨A, U1, V1, B, x1, x2, x3, x4, x5⟩ := HX.out
        exact HE.out A U1 V1 B dk wr hds S1.out x3 x4 x5 (by omega) za zb zn (by omega) hzb (by omega)
      clear HG HL HE HX
      go_wp2_with (go_at_fn 207; refine (hc _ _ _ (by first | rfl | omega) (by first | rfl | omega) (by first | rfl | omega)).mono ?_; rintro e w1 ⟨rfl, hr⟩)
      go_end0
      exact ⟨rfl, hr⟩
    · by_cases hlt : j < i
      · have hltz : (j : Int) < (i : Int) := by omega
        have hez : ¬ ((i : Int) = (j : Int)) := by omega
        have hc : ∀ (za zb zn : Int), za = (m : Int) - i → zb = m → zn = j → Calls Pg 207 #[.slice (some ⟨blk, off, none⟩) d.size cap, .int .i64 za, .int .i64 zb, .int .i64 zn, cf] wr fun e w' => e = .returned (.tuple #[]) ∧ ∃ (d' : Array α), d'.size = d.size ∧ Aside (SWK enc k w0 blk off d' w') ∧ Hid (∃ A U1 V1 B : List α, U1.length = i - j ∧ V1.length = j ∧ d'.toList = X ++ (A ++ (U1 ++ (V1 ++ (B ++ Y)))) ∧ V ++ U = A ++ (V1 ++ (U1 ++ B)) ∧ m = X.length + A.length + U1.length) := by
          intro za zb zn hza hzb hzn
          obtain ⟨A, U1, V1, B, x1, x2, x3, x4, x5⟩ := HX.out
          refine (HG.out A U1 V1 B dk wr hds S1.out x3 x4 x5 (by omega) za zb zn (by omega) hzb (by omega)).mono ?_
          rintro e w' ⟨rfl, A2, U2, V2, B2, d', y1, y2, y3, y4, y5, y6, y7⟩
          exact ⟨rfl, d', y1, y7, A2, U2, V2, B2, by omega, by omega, y2, y3, y4⟩
        clear HX S1
        go_wp2_with (go_at_fn 207; refine (hc _ _ _ (by first | rfl | omega) (by first | rfl | omega) (by first | rfl | omega)).mono ?_; rintro e w1 ⟨rfl, d1, hd1, S2, HX2⟩)
        go_roundg (i - j + j)
        case measure => omega
        case rel => exact ⟨i - j, j, d1, by congr 1; omega, rfl, by omega, hj, Nat.le_refl _, by omega, hjm, hd1, S2, HX2⟩
      · have hltz : ¬ ((j : Int) < (i : Int)) := by omega
        have hez : ¬ ((i : Int) = (j : Int)) := by omega
        have hc : ∀ (za zb zn : Int), za = (m : Int) - i → zb = (m : Int) + j - i → zn = i → Calls Pg 207 #[.slice (some ⟨blk, off, none⟩) d.size cap, .int .i64 za, .int .i64 zb, .int .i64 zn, cf] wr fun e w' => e = .returned (.tuple #[]) ∧ ∃ (d' : Array α), d'.size = d.size ∧ Aside (SWK enc k w0 blk off d' w') ∧ Hid (∃ A U1 V1 B : List α, U1.length = i ∧ V1.length = j - i ∧ d'.toList = X ++ (A ++ (U1 ++ (V1 ++ (B ++ Y)))) ∧ V ++ U = A ++ (V1 ++ (U1 ++ B)) ∧ m = X.length + A.length + U1.length) := by
          intro za zb zn hza hzb hzn
          obtain ⟨A, U1, V1, B, x1, x2, x3, x4, x5⟩ := HX.out
          refine (HL.out A U1 V1 B dk wr hds S1.out x3 x4 x5 (by omega) za zb zn (by omega) (by omega) (by omega)).mono ?_
          rintro e w' ⟨rfl, A2, U2, V2, B2, d', y1, y2, y3, y4, y5, y6, y7⟩
          exact ⟨rfl, d', y1, y7, A2, U2, V2, B2, by omega, by omega, y2, y3, y4⟩
        clear HX S1
        go_wp2_with (go_at_fn 207; refine (hc _ _ _ (by first | rfl | omega) (by first | rfl | omega) (by first | rfl | omega)).mono ?_; rintro e w1 ⟨rfl, d1, hd1, S2, HX2⟩)
        go_roundg (i + (j - i))
        case measure => omega
        case rel => exact ⟨i, j - i, d1, rfl, by congr 1; omega, hi, by omega, Nat.le_refl _, him, by omega, hd1, S2, HX2⟩
end Go.Proofs.YtpdacbiiaglodaaGreat
