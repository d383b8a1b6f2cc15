/-
  LAYER 4 (utf): the statements' awake.
-/
import Derived.Test.YtpdacbiiaglodaaGreatQG35
import Derived.Test.YtpdacbiiaglodaaGreatQG37
import Derived.Test.YtpdacbiiaglodaaGreatQG06
import Derived.OwnWalk
import Derived.Test.YtpdacbiiaglodaaGreatQG34
import Derived.Test.YtpdacbiiaglodaaGreatQG31
namespace Go.Proofs.YtpdacbiiaglodaaGreat.U
set_option maxRecDepth 100000
open Go.RowKit Go.Lib

theorem c1 : tot [97, 255] = 1 := by decide
theorem c2 : tot [226, 130, 172] = 3 := by decide
theorem c3 : runes [226, 130, 172] = [8364] := by decide
theorem c4 : lastv [97, 226, 130, 172] = some (8364, 3) := by decide

theorem a1 (w : World) : Calls Tryz.prog 57 #[.string ⟨#[97, 255]⟩] w fun e w' => e = .returned (.tuple #[.int .i64 1, .int .i64 40]) ∧ Below w.heap.size w w' := by
  have h := check_bad ⟨#[97, 255]⟩ w (by decide) (by decide)
  simp only [c1] at h
  exact h
theorem a2 (w : World) : Calls Tryz.prog 58 #[.string ⟨#[226, 130, 172]⟩] w fun e w' => (∃ b off c, e = .returned (.tuple #[.slice (some ⟨b, off, none⟩) 1 c, .int .i64 0, .int .i64 0]) ∧ w'.cell? ⟨b, off, none⟩ = some (.int .i32 8364)) ∧ Below w.heap.size w w' := by
  refine (decode_ok ⟨#[226, 130, 172]⟩ w (by decide) (by decide)).mono ?_
  simp only [c3]
  rintro e w' ⟨v, rfl, hR, hb⟩
  refine ⟨?_, hb⟩
  rcases hR with ⟨_, h⟩ | ⟨b, off, cap, rfl, _, _, hc⟩
  · cases h
  · exact ⟨b, off, cap, rfl, by have := hc 0 _ rfl; simpa using this⟩
end Go.Proofs.YtpdacbiiaglodaaGreat.U

/-
  LAYER 4 (utf): Encode, the reference's Encode; UtfWrites.
-/
namespace Go.Proofs.YtpdacbiiaglodaaGreat.U
set_option maxRecDepth 100000
open Go.RowKit Go.Lib

theorem conv_runes_str {w : World} {a : Option Addr} {n c : Nat} {l : List Int} (h : Runes w (.slice a n c) l) (hn : n = l.length) (hs : allSc l) : (convert 50 9 (.slice a n c)).run Tryz.prog w = .ok (.string ⟨(enc l).toArray⟩) w := by
  subst hn
  cases a with
  | none =>
    rcases h with ⟨e, h⟩ | ⟨b, off, cap, e, _, _, _⟩
    · have : l = [] := by cases l with | nil => rfl | cons a t => simp [runeCells] at h
      subst this
      rw [run_convert_runes_nil w 50 9 21 _ _ Tryz.underlying50 Tryz.underlying21 Tryz.underlying9]
      rfl
    · simp at e
  | some ad =>
    rw [run_convert_runes w 50 9 21 ad l.length c l (Nat.le_refl _) Tryz.underlying50 Tryz.underlying21 Tryz.underlying9 ?_, List.take_length, runesBytes_enc l hs]
    intro j hj
    obtain ⟨b, off, e, hc⟩ := h.cell (List.getElem?_eq_getElem hj)
    simp only [Option.some.injEq] at e
    subst e
    have e2 : (⟨b, off, none⟩ : Addr).add j = ⟨b, off + j, none⟩ := by unfold Addr.add; split <;> simp_all
    rw [e2, hc]
    simp [List.getD_eq_getElem?_getD, List.getElem?_eq_getElem hj]

set_option maxRecDepth 100000 in
set_option maxHeartbeats 2000000 in
theorem encode_ok (v : Value) (l : List Int) (w : World) (hv : Runes w v l) (hl : l.length ≤ 1048576) (h : allSc l) :
    Calls Tryz.prog 59 #[v] w fun e w' => e = .returned (.tuple #[.string ⟨(enc l).toArray⟩, .int .i64 0, .int .i64 0]) ∧ w = w' := by
  obtain ⟨a, c, rfl, _⟩ := hv.form
  have hcv := conv_runes_str hv rfl h
  replace h := Lib.hid h
  go_enter Tryz.func59, Tryz.ntmps59
  go_wp2
  go_loop [9] (fun vi => ∃ i : Nat, vi = .int .i64 (i : Int) ∧ i ≤ l.length) (fun vi => l.length - (RowKit.intOf vi).toNat)
  case atStart => exact ⟨0, rfl, Nat.zero_le _⟩
  case round =>
    obtain ⟨i, rfl, hi⟩ := hrel
    by_cases hlt : i < l.length
    · obtain ⟨r, hr⟩ : ∃ r, l[i]? = some r := ⟨_, List.getElem?_eq_getElem hlt⟩
      obtain ⟨b, off, rfl, hc⟩ := hv.cell hr
      have hS := fun w => scalar_any r w
      rw [h.out r (List.mem_of_getElem? hr)] at hS
      clear hr hv hcv
      go_wp2_with (go_at_call 68; refine (hS _).mono ?_; rintro e w' ⟨rfl, rfl⟩)
      go_round
      case rel => exact ⟨i + 1, by go_num, by omega⟩
      case measure => simp [RowKit.intOf]; omega
    · clear hv
      go_wp2
      go_ret3
      simp

set_option maxRecDepth 100000 in
set_option maxHeartbeats 2000000 in
theorem encode_bad (v : Value) (l : List Int) (k : Nat) (w : World) (hv : Runes w v l) (hl : l.length ≤ 1048576) (h : badAt l = some k) :
    Calls Tryz.prog 59 #[v] w fun e w' => e = .returned (.tuple #[.string ⟨#[]⟩, .int .i64 (k : Int), .int .i64 41]) ∧ w = w' := by
  obtain ⟨a, c, rfl, _⟩ := hv.form
  obtain ⟨r0, hr0, hsc0, hb⟩ := badAt_some h
  have hk := (List.getElem?_eq_some_iff.1 hr0).1
  clear h
  replace hb := Lib.hid hb
  replace hr0 := Lib.hid hr0
  replace hsc0 := Lib.hid hsc0
  go_enter Tryz.func59, Tryz.ntmps59
  go_wp2
  go_loop [9] (fun vi => ∃ i : Nat, vi = .int .i64 (i : Int) ∧ i ≤ k) (fun vi => l.length - (RowKit.intOf vi).toNat)
  case atStart => exact ⟨0, rfl, Nat.zero_le _⟩
  case round =>
    obtain ⟨i, rfl, hi⟩ := hrel
    by_cases hlt : i < k
    · obtain ⟨r, hr⟩ : ∃ r, l[i]? = some r := ⟨_, List.getElem?_eq_getElem (by omega)⟩
      obtain ⟨b, off, rfl, hc⟩ := hv.cell hr
      have hS := fun w => scalar_any r w
      rw [hb.out i r hlt hr] at hS
      clear hr hv
      go_wp2_with (go_at_call 68; refine (hS _).mono ?_; rintro e w' ⟨rfl, rfl⟩)
      go_round
      case rel => exact ⟨i + 1, by go_num, by omega⟩
      case measure => simp [RowKit.intOf]; omega
    · obtain rfl : i = k := by omega
      obtain ⟨b, off, rfl, hc⟩ := hv.cell hr0.out
      have hS := fun w => scalar_any r0 w
      rw [hsc0.out] at hS
      clear hv hlt
      go_wp2_with (go_at_call 68; refine (hS _).mono ?_; rintro e w' ⟨rfl, rfl⟩)
      go_ret3
      simp

set_option maxRecDepth 100000 in
set_option maxHeartbeats 4000000 in
theorem refEncode_ok (v : Value) (l : List Int) (w : World) (hv : Runes w v l) (hl : l.length ≤ 1048576) (h : allSc l) :
    Calls Tryz.prog 61 #[v] w fun e w' => e = .returned (.tuple #[.string ⟨(enc l).toArray⟩, .int .i64 0, .int .i64 0]) ∧ w.grownBy w' none := by
  obtain ⟨a, c, rfl, _⟩ := hv.form
  obtain ⟨i0, hi, hz0, hz1, hz2⟩ := info_parts infoU8
  replace h := Lib.hid h
  go_enter Tryz.func61, Tryz.ntmps61
  go_wp2
  go_loopw [5, 6] (fun vo vi wr => ∃ (v : Value) (i : Nat) (out : List UInt8), vo = v ∧ vi = .int .i64 (i : Int) ∧ i ≤ l.length ∧ out.length ≤ 4 * i ∧ Hid (enc l = out ++ enc (l.drop i)) ∧ Owns wr w.heap.size 5 v out ∧ w.grownBy wr none) (fun _ vi _ => l.length - (RowKit.intOf vi).toNat)
  case atStart => exact ⟨_, 0, [], rfl, rfl, Nat.zero_le _, Nat.le_refl _, Lib.hid rfl, ⟨rfl, .inl ⟨rfl, rfl⟩⟩, World.grownBy.refl w none⟩
  case round =>
    obtain ⟨_, i, out, rfl, rfl, hil, hol, hO, hown, hg⟩ := hrel
    by_cases hlt : i < l.length
    · obtain ⟨r, hr⟩ : ∃ r, l[i]? = some r := ⟨_, List.getElem?_eq_getElem hlt⟩
      have hv2 := hv.all (belowg' hg)
      obtain ⟨b, off, rfl, hc⟩ := hv2.cell hr
      have hsc := h.out r (List.mem_of_getElem? hr)
      have hS := fun w => rscalar_any r w
      rw [hsc] at hS
      obtain ⟨rn, rfl, hrn⟩ := scalar_nat hsc
      have hF := fun w => form_any rn w hrn
      have hO2 := hO.out
      have hfl : (form rn).length ≤ 4 := by rw [form_length]; unfold wideOf; (repeat' split) <;> omega
      rw [List.drop_eq_getElem_cons hlt, (List.getElem?_eq_some_iff.1 hr).2, enc_cons, Int.toNat_natCast, ← List.append_assoc] at hO2
      obtain ⟨F, hFd⟩ : ∃ F, F = form rn := ⟨_, rfl⟩
      rw [← hFd] at hO2 hF hfl
      replace hO2 := Lib.hid hO2
      clear hr hv2 hO hsc hFd hrn
      go_wp2_with (first
        | (go_at_call 33; refine (hS _).mono ?_; rintro e w' ⟨rfl, rfl⟩)
        | (go_at_call 105; refine (hF _).mono ?_; rintro e w5 ⟨v5, rfl, ho5, hg5⟩; obtain ⟨a5, c5, rfl⟩ := ho5.reads.form)
        | (at_builtin; refine wpList_append_bytes _ rfl _ _ 27 rfl w.heap.size 5 i0 Tryz.underlying27 hi hz0 hz1 hz2 u5 out rfl (hown.new hg5) _ F rfl ho5.reads (by omega) (Nat.le_trans hg.size hg5.size) ?_; intro v6 w6 ho6 hg6; have hob := World.ownsRow.lt hown; have hg7 : w.grownBy w6 none := gnew (gnew hg hg5 (by simp)) hg6 (fun k e => .inl (hob k e).1); clear hob))
      have hO3 : Hid (enc l = (out ++ F) ++ enc (l.drop (i + 1))) := hO2
      clear hO2 hown hg
      go_roundw
      case rel => exact ⟨_, i + 1, out ++ F, rfl, by go_num, by omega, by simp; omega, hO3, ho6, hg7⟩
      case measure => simp [RowKit.intOf]; omega
    · have hO2 := hO.out
      rw [List.drop_eq_nil_of_le (by omega), enc_nil, List.append_nil] at hO2
      have hcv := conv_of hown.reads
      replace hO2 := Lib.hid hO2
      clear hO hv
      go_wp2
      go_ret3
      rw [hO2.out]
      exact ⟨rfl, hg⟩

set_option maxRecDepth 100000 in
set_option maxHeartbeats 4000000 in
theorem refEncode_bad (v : Value) (l : List Int) (k : Nat) (w : World) (hv : Runes w v l) (hl : l.length ≤ 1048576) (h : badAt l = some k) :
    Calls Tryz.prog 61 #[v] w fun e w' => e = .returned (.tuple #[.string ⟨#[]⟩, .int .i64 (k : Int), .int .i64 41]) ∧ w.grownBy w' none := by
  obtain ⟨a, c, rfl, _⟩ := hv.form
  obtain ⟨i0, hi, hz0, hz1, hz2⟩ := info_parts infoU8
  obtain ⟨r0, hr0, hsc0, hbs⟩ := badAt_some h
  have hk := (List.getElem?_eq_some_iff.1 hr0).1
  clear h
  replace hbs := Lib.hid hbs
  replace hr0 := Lib.hid hr0
  replace hsc0 := Lib.hid hsc0
  go_enter Tryz.func61, Tryz.ntmps61
  go_wp2
  go_loopw [5, 6] (fun vo vi wr => ∃ (v : Value) (i : Nat) (out : List UInt8), vo = v ∧ vi = .int .i64 (i : Int) ∧ i ≤ k ∧ out.length ≤ 4 * i ∧ Owns wr w.heap.size 5 v out ∧ w.grownBy wr none) (fun _ vi _ => l.length - (RowKit.intOf vi).toNat)
  case atStart => exact ⟨_, 0, [], rfl, rfl, Nat.zero_le _, Nat.le_refl _, ⟨rfl, .inl ⟨rfl, rfl⟩⟩, World.grownBy.refl w none⟩
  case round =>
    obtain ⟨_, i, out, rfl, rfl, hil, hol, hown, hg⟩ := hrel
    have hv2 := hv.all (belowg' hg)
    by_cases hlt : i < k
    · obtain ⟨r, hr⟩ : ∃ r, l[i]? = some r := ⟨_, List.getElem?_eq_getElem (by omega)⟩
      obtain ⟨b, off, rfl, hc⟩ := hv2.cell hr
      have hsc := hbs.out i r hlt hr
      have hS := fun w => rscalar_any r w
      rw [hsc] at hS
      obtain ⟨rn, rfl, hrn⟩ := scalar_nat hsc
      have hF := fun w => form_any rn w hrn
      have hfl : (form rn).length ≤ 4 := by rw [form_length]; unfold wideOf; (repeat' split) <;> omega
      obtain ⟨F, hFd⟩ : ∃ F, F = form rn := ⟨_, rfl⟩
      rw [← hFd] at hF hfl
      clear hr hv2 hsc hFd hrn
      go_wp2_with (first
        | (go_at_call 33; refine (hS _).mono ?_; rintro e w' ⟨rfl, rfl⟩)
        | (go_at_call 105; refine (hF _).mono ?_; rintro e w5 ⟨v5, rfl, ho5, hg5⟩; obtain ⟨a5, c5, rfl⟩ := ho5.reads.form)
        | (at_builtin; refine wpList_append_bytes _ rfl _ _ 27 rfl w.heap.size 5 i0 Tryz.underlying27 hi hz0 hz1 hz2 u5 out rfl (hown.new hg5) _ F rfl ho5.reads (by omega) (Nat.le_trans hg.size hg5.size) ?_; intro v6 w6 ho6 hg6; have hob := World.ownsRow.lt hown; have hg7 : w.grownBy w6 none := gnew (gnew hg hg5 (by simp)) hg6 (fun k e => .inl (hob k e).1); clear hob))
      clear hown hg
      go_roundw
      case rel => exact ⟨_, i + 1, out ++ F, rfl, by go_num, by omega, by simp; omega, ho6, hg7⟩
      case measure => simp [RowKit.intOf]; omega
    · obtain rfl : i = k := by omega
      obtain ⟨b, off, rfl, hc⟩ := hv2.cell hr0.out
      have hS := fun w => rscalar_any r0 w
      rw [hsc0.out] at hS
      clear hv hv2 hlt
      go_wp2_with (go_at_call 33; refine (hS _).mono ?_; rintro e w' ⟨rfl, rfl⟩)
      go_ret3
      exact ⟨rfl, hg⟩
end Go.Proofs.YtpdacbiiaglodaaGreat.U

/-
  LAYER 6 (norm): Text.
-/
namespace Go.Proofs.YtpdacbiiaglodaaGreat
set_option maxRecDepth 100000
open Go.RowKit Go.Lib

theorem gbel {w w' : World} (h : Below w.heap.size w w') : w.grownBy w' none := ⟨h.os, h.tape, h.output, h.size, fun k hk _ => h.block k hk⟩
theorem uruns_cell (l : List Int) (i : Nat) (u : Int) (h : l[i]? = some u) : (U.runeCells l)[i]? = some (.int .i32 u) := by simp [U.runeCells, h]
theorem uruns_len (l : List Int) : (U.runeCells l).length = l.length := by simp [U.runeCells]
theorem rs_of_row {w : World} {v : Value} {l : List Int} (h : U.Runes w v l) : RS w v l := by
  rcases h with ⟨rfl, h⟩ | ⟨b, off, cap, rfl, h1, h2, h3⟩
  · have : l = [] := by cases l with | nil => rfl | cons a t => simp [U.runeCells] at h
    subst this
    exact RS.nil w
  · rw [uruns_len] at h1 ⊢
    exact ⟨_, cap, rfl, h1, h2, (fun e => by cases e), fun _ => ⟨b, off, rfl, fun i u hu => h3 i _ (uruns_cell l i u hu)⟩⟩
theorem row_of_rs {w : World} {v : Value} {l : List Int} (h : RS w v l) (hl : l ≠ []) : U.Runes w v l := by
  obtain ⟨a, c, rfl, h1, h2, h3, h4⟩ := h
  obtain ⟨b, off, rfl, h5⟩ := h4 hl
  refine .inr ⟨b, off, c, by rw [uruns_len], by rw [uruns_len]; exact h1, h2, fun i u hu => ?_⟩
  unfold U.runeCells at hu
  rw [List.getElem?_map] at hu
  cases hx : l[i]? with
  | none => rw [hx] at hu; cases hu
  | some x => rw [hx] at hu; cases hu; exact h5 i x hx

set_option maxHeartbeats 8000000 in
/-- Text of a text that keeps: its scalars, taken apart and laid in order. -/
theorem text_ok (p : Value) (cf : Int → Int) (df : Int → List Int) (F : Nat → Prop) (s : ByteArray) (w : World) (hN : ND p cf df F w) (hs : s.size ≤ 1000) (ht : U.tot s.data.toList = s.data.toList.length)
    (l : List Int) (hl : U.runes s.data.toList = l) (hll : l.length ≤ 4096) (hsc : allSc l = true) (out : List Int) (hout : ord cf (l.flatMap df) = out) (hlen : (l.flatMap df).length ≤ 1048576) (hne : out ≠ []) (hosc : U.allSc out) :
    Calls Tryz.prog 21 #[p, .string s] w fun e w' => e = .returned (.tuple #[.string ⟨(U.enc out).toArray⟩, .int .i64 0]) ∧ ∃ F' : Nat → Prop, ND p cf df F' w' ∧ (∀ k, F k → F' k) ∧ (∀ k, F' k → F k ∨ w.heap.size ≤ k) ∧ GX (fun k => p = .pointer (some ⟨k, 0, none⟩)) w w' := by
  have hC := U.check_ok s w (by unfold maxLen; omega) ht
  have hD := fun W => U.decode_new s W (by omega) ht
  rw [hl] at hD
  have hF := fun v W hN hR hv => nfd_any p v cf df F l W hN hR hsc hll hv (by omega)
  have hol : out.length = (l.flatMap df).length := by rw [← hout]; exact ord_length cf _
  rw [hout, ← hol] at hF
  rw [← hol] at hlen
  have hE := fun v W hv => U.encode_ok v out W hv hlen hosc
  have hlt := hN.lt
  have hpF : ∀ k, p = .pointer (some ⟨k, 0, none⟩) → k < w.heap.size := by
    intro k e
    rcases hN with ⟨rfl, _⟩ | ⟨n, c, d, dn, rfl, hf, _⟩
    · cases e
    · cases e; obtain ⟨_, _, _, _, _, _, h6, _⟩ := hf.nrm; exact h6.lt
  generalize hen : (⟨(U.enc out).toArray⟩ : ByteArray) = es at hE ⊢
  have HNE := Lib.hid hne
  clear hen hosc hol hout hl ht hsc hll hlen hne
  go_enter Tryz.func21, Tryz.ntmps21
  go_wp2_with (first
    | (go_at_call 57; refine hC.mono ?_; rintro e w1 ⟨rfl, hb1⟩; have hg1 := gbel hb1)
    | (go_at_call 58; refine (hD _).mono ?_; rintro e w2 ⟨v2, rfl, hv2, hR2, hb2⟩; have hg2 := hg1.trans (gbel hb2))
    | (go_at_call 38; go_loud (refine (hF _ _ (hN.new hg2) (rs_of_row hR2) (fun hne k e e' => by have := hpF k e'; have := hv2 k e; have := hg1.size; omega)).mono ?_); rintro e w3 ⟨a3, n3, rfl, hn3, ho3, F', hN3, f1, f2, hx3⟩; replace hn3 := Lib.hid hn3)
    | (go_at_call 59; go_loud (refine (hE _ _ (row_of_rs ho3.reads HNE.out)).mono ?_); rintro e w4 ⟨rfl, rfl⟩))
  go_ret2
  exact ⟨rfl, F', hN3, f1, fun k hk => (f2 k hk).imp id (fun h => Nat.le_trans hg2.size h), (GX.of hg2 (by simp)).trans hx3 (fun k hk => .inl hk)⟩
end Go.Proofs.YtpdacbiiaglodaaGreat

/-
  LAYER 6 (norm): awake: the chapter's examples.
-/
namespace Go.Proofs.YtpdacbiiaglodaaGreat
set_option maxRecDepth 100000
open Go.RowKit Go.Lib

def cS : Int → Int := clsOf smallC
def dS : Int → List Int := told' smallD
theorem aw1 : ([7853] : List Int).flatMap dS = [97, 803, 770] := by decide +kernel
theorem aw1' : ord cS [97, 803, 770] = [97, 803, 770] := by decide +kernel
theorem aw2 : ([97, 770, 803] : List Int).flatMap dS = [97, 770, 803] := by decide +kernel
theorem aw2' : ord cS [97, 770, 803] = [97, 803, 770] := by decide +kernel
theorem aw3 : psh cS [] (dS 97) = ([], [97]) := by decide +kernel
theorem aw3' : (dS 97).length = 1 := by decide +kernel
theorem aw4 : U.tot [97, 204, 130, 204, 163] = 5 := by decide +kernel
theorem aw5 : U.runes [97, 204, 130, 204, 163] = [97, 770, 803] := by decide +kernel
theorem aw6 : U.enc [97, 803, 770] = [97, 204, 163, 204, 130] := by decide +kernel
theorem aw7 : U.allSc [97, 803, 770] := (by decide +kernel : ∀ r ∈ ([97, 803, 770] : List Int), U.scalar r = true)

theorem ND.plt {p : Value} {cf : Int → Int} {df : Int → List Int} {F : Nat → Prop} {w : World} (hN : ND p cf df F w) : ∀ k, p = .pointer (some ⟨k, 0, none⟩) → k < w.heap.size := by
  intro k e
  rcases hN with ⟨rfl, _⟩ | ⟨n, c, d, dn, rfl, hf, _⟩
  · cases e
  · cases e; obtain ⟨_, _, _, _, _, _, h6, _⟩ := hf.nrm; exact h6.lt

theorem aw_nfd (p : Value) (F : Nat → Prop) (W : World) (hN : ND p cS dS F W) :
    Calls Tryz.prog 38 #[p, .slice (some ⟨W.heap.size, 0, none⟩) 1 1] (W.alloc (.cells #[.int .i32 7853] 21)) fun e w' => ∃ b, e = .returned (.tuple #[.slice (some ⟨b, 0, none⟩) 3 3, .int .i64 0]) ∧ W.heap.size ≤ b ∧ b < w'.heap.size ∧ w'.cell? ⟨b, 1, none⟩ = some (.int .i32 803) ∧ ∃ F' : Nat → Prop, ND p cS dS F' w' ∧ GX (fun k => p = .pointer (some ⟨k, 0, none⟩)) W w' := by
  have hga := World.grownBy_alloc W (.cells #[.int .i32 7853] 21) none
  have hpl := hN.plt
  refine (nfd_any p _ cS dS F [7853] _ (hN.new hga) (rs_lit 7853 W) (by decide) (by simp) (fun _ k e e' => ?_) (by rw [aw1]; decide)).mono ?_
  · have := hpl k e'
    cases e
    exact absurd this (Nat.lt_irrefl _)
  rintro e w' ⟨a, n, rfl, hn, ho, F', hN', _, _, hx⟩
  rw [aw1] at hn ho
  rw [aw1'] at ho
  obtain rfl : n = 3 := hn
  obtain ⟨a', c', hv, _, _, _, h⟩ := ho
  obtain ⟨b, rfl, hb1, hb2, hb3⟩ := h (by simp)
  simp only [Value.slice.injEq] at hv
  obtain ⟨rfl, _, _⟩ := hv
  refine ⟨b, rfl, Nat.le_trans hga.size hb1, hb2, (hb3 1 803 rfl).1, F', hN', (GX.of hga (by simp)).trans hx (fun k e => .inl e)⟩
theorem aw_text (p : Value) (F : Nat → Prop) (W : World) (hN : ND p cS dS F W) :
    Calls Tryz.prog 21 #[p, .string ⟨#[97, 204, 130, 204, 163]⟩] W fun e w' => e = .returned (.tuple #[.string ⟨#[97, 204, 163, 204, 130]⟩, .int .i64 0]) ∧ ∃ F' : Nat → Prop, ND p cS dS F' w' ∧ GX (fun k => p = .pointer (some ⟨k, 0, none⟩)) W w' := by
  refine (text_ok p cS dS F ⟨#[97, 204, 130, 204, 163]⟩ W hN (by decide) aw4 [97, 770, 803] aw5 (by decide) (by decide) [97, 803, 770] (by rw [aw2]; exact aw2') (by rw [aw2]; decide) (by simp) aw7).mono ?_
  rintro e w' ⟨rfl, F', hN', _, _, hx⟩
  exact ⟨by rw [aw6], F', hN', hx⟩
theorem aw_push (s : Nat) (p : Value) (F : Nat → Prop) (W : World) (hS : Strm W s p cS dS F (.slice none 0 0) []) :
    Calls Tryz.prog 32 #[.pointer (some ⟨s, 0, none⟩), .int .i32 97] W fun e w' => ∃ a, e = .returned (.tuple #[.slice a 0 0, .int .i64 0]) ∧ ∃ hv' F', Strm w' s p cS dS F' hv' [97] ∧ GX (fun k => p = .pointer (some ⟨k, 0, none⟩) ∨ k = s) W w' := by
  refine (push_any s p cS dS F _ [] 97 W hS (by decide) (by rw [aw3']; decide)).mono ?_
  rintro e w' ⟨a, n, rfl, hn, _, hv', F', h1, _, _, _, hx⟩
  rw [aw3] at hn h1
  obtain rfl : n = 0 := hn
  exact ⟨a, rfl, hv', F', h1, (GX.refl _ W).trans hx (fun k e => .inl (by rcases e with h | h | h; exact .inl h; exact .inr h; cases h))⟩
end Go.Proofs.YtpdacbiiaglodaaGreat

/-
  LAYER 6 (norm): awake.
-/
namespace Go.Proofs.YtpdacbiiaglodaaGreat
set_option maxRecDepth 100000
open Go.RowKit Go.Lib

set_option maxHeartbeats 4000000 in
theorem mawake_any (w : World) : Calls Tryz.prog 19 #[] w fun e w' => e = .returned (.bool true) ∧ w.grownBy w' none := by
  have hSm := fun w => small_any w
  rw [show clsOf smallC = cS from rfl, show told' smallD = dS from rfl] at hSm
  generalize smallC = sc at hSm
  generalize smallD = sd at hSm
  have hN1 := fun p F W h => aw_nfd p F W h
  have hN2 := fun p F W h => aw_text p F W h
  have hN3 := fun p F W h => new_strm p cS dS F W h
  have hN4 := fun s p F W h => aw_push s p F W h
  have hN5 := fun s p F hv W h => held_any s p cS dS F hv [97] W h
  generalize cS = cf at *
  generalize dS = df at *
  go_enter Tryz.func19, Tryz.ntmps19
  go_wp2_with fail
  go_at_call 20
  refine (hSm _).mono ?_
  rintro e w1 ⟨n, vc, vd, rfl, hn, hT, ⟨F, hN, _⟩, hg1⟩
  clear hSm
  obtain ⟨x1, y1, rfl, _, _⟩ := hT.1.form
  obtain ⟨x2, y2, rfl, _, _⟩ := hT.2.form
  clear hT
  generalize sc.length = l1
  generalize sd.length = l2
  obtain ⟨A, hA⟩ : ∃ A, A = w1.alloc (.cells #[.slice x1 l1 y1, .slice x2 l2 y2] 59) := ⟨_, rfl⟩
  have hgA : w1.grownBy A none := by rw [hA]; exact World.grownBy_alloc _ _ none
  have hnA := hN.plt n rfl
  have hAs := Lib.hid (show A.heap.size = w1.heap.size + 1 by rw [hA]; exact World.size_alloc _ _)
  replace hN := Lib.hid (hN.new hgA)
  replace hA := Lib.hid hA
  go_wp2_with fail
  rw [← hA.out, ← hAs.out]
  go_at_call 38
  refine (hN1 _ _ _ hN.out).mono ?_
  rintro e w2 ⟨b, rfl, hb1, hb2, hb3, F2, hN2', hx2⟩
  clear hN1 hN
  replace hN2' := Lib.hid hN2'
  replace hb3 := Lib.hid hb3
  go_wp2_with fail
  go_at_call 21
  refine (hN2 _ _ _ hN2'.out).mono ?_
  rintro e w3 ⟨rfl, F3, hN3', hx3⟩
  clear hN2 hN2'
  replace hN3' := Lib.hid hN3'
  go_wp2_with fail
  go_at_call 31
  refine (hN3 _ _ _ hN3'.out).mono ?_
  rintro e w4 ⟨rfl, hS4, hg4⟩
  clear hN3 hN3'
  replace hS4 := Lib.hid hS4
  go_wp2_with fail
  go_at_call 32
  refine (hN4 _ _ _ _ hS4.out).mono ?_
  rintro e w5 ⟨a5, rfl, hv5, F5, hS5, hx5⟩
  clear hN4 hS4
  have hsA := hgA.size
  have hs1 := hg1.size
  have hs3 := hx3.size
  have hs4 := hg4.size
  have hH := hN5 _ _ _ _ _ hS5
  have hc3 : w5.cell? ⟨b, 1, none⟩ = some (.int .i32 803) := by
    have k3 := hx3.block b hb2 (fun e => by cases e; omega)
    have k4 := hg4.block b (by omega) (by simp)
    have k5 := hx5.block b (by omega) (fun e => by rcases e with e | e; cases e; omega; omega)
    rw [World.cell?_of_block (a := ⟨b, 1, none⟩) (k5.trans (k4.trans k3))]
    exact hb3.out
  clear hN5
  have hgx : GX (fun k => w.heap.size ≤ k) w w5 := ((((((GX.of hg1 (by simp)).step hgA (by simp)).trans hx2 (fun k e => by cases e; right; omega)).trans hx3 (fun k e => by cases e; right; omega)).step hg4 (by simp)).trans hx5 (fun k e => by rcases e with e | e; cases e; right; omega; right; have := hx2.size; omega))
  go_wp2_with (go_at_call 34; refine hH.mono ?_; rintro e w6 ⟨rfl, rfl⟩)
  go_ret
  exact ⟨rfl, hgx.one (fun k h => .inr h)⟩
end Go.Proofs.YtpdacbiiaglodaaGreat
