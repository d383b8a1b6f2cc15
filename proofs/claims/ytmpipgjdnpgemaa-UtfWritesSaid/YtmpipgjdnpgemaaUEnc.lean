/-
  LAYER 4 (utf): Encode, the reference's Encode; UtfWrites.
-/
import Derived.Test.YtmpipgjdnpgemaaUEncP
import Derived.Test.YtmpipgjdnpgemaaUOrder
import Derived.Test.YtmpipgjdnpgemaaUAwake
import Derived.OwnWalk
namespace Go.Proofs.Ytmpipgjdnpgemaa
set_option maxRecDepth 100000
open Go.RowKit Go.Lib

theorem conv_runes_str {w : World} {a : Option Addr} {n c : Nat} {l : List Int} (h : Runes w (.slice a n c) l) (hn : n = l.length) (hs : allSc l) : (convert 28 9 (.slice a n c)).run Try.prog w = .ok (.string ⟨(enc l).toArray⟩) w := by
  subst hn
  cases a with
  | none =>
    rcases h with ⟨e, h⟩ | ⟨b, off, cap, e, _, _, _⟩
    · have : l = [] := by cases l with | nil => rfl | cons a t => simp [runeCells] at h
      subst this
      rw [run_convert_runes_nil w 28 9 21 _ _ Try.underlying28 Try.underlying21 Try.underlying9]
      rfl
    · simp at e
  | some ad =>
    rw [run_convert_runes w 28 9 21 ad l.length c l (Nat.le_refl _) Try.underlying28 Try.underlying21 Try.underlying9 ?_, List.take_length, runesBytes_enc l hs]
    intro j hj
    obtain ⟨b, off, e, hc⟩ := h.cell (List.getElem?_eq_getElem hj)
    simp only [Option.some.injEq] at e
    subst e
    have e2 : (⟨b, off, none⟩ : Addr).add j = ⟨b, off + j, none⟩ := by unfold Addr.add; split <;> simp_all
    rw [e2, hc]
    simp [List.getD_eq_getElem?_getD, List.getElem?_eq_getElem hj]

set_option maxRecDepth 100000 in
set_option maxHeartbeats 2000000 in
theorem encode_ok (v : Value) (l : List Int) (w : World) (hv : Runes w v l) (hl : l.length ≤ 1048576) (h : allSc l) :
    Calls Try.prog 21 #[v] w fun e w' => e = .returned (.tuple #[.string ⟨(enc l).toArray⟩, .int .i64 0, .int .i64 0]) ∧ w = w' := by
  obtain ⟨a, c, rfl, _⟩ := hv.form
  have hcv := conv_runes_str hv rfl h
  replace h := Lib.hid h
  go_enter Try.func21, Try.ntmps21
  go_wp2
  go_loop [9] (fun vi => ∃ i : Nat, vi = .int .i64 (i : Int) ∧ i ≤ l.length) (fun vi => l.length - (RowKit.intOf vi).toNat)
  case atStart => exact ⟨0, rfl, Nat.zero_le _⟩
  case round =>
    obtain ⟨i, rfl, hi⟩ := hrel
    by_cases hlt : i < l.length
    · obtain ⟨r, hr⟩ : ∃ r, l[i]? = some r := ⟨_, List.getElem?_eq_getElem hlt⟩
      obtain ⟨b, off, rfl, hc⟩ := hv.cell hr
      have hS := fun w => scalar_any r w
      rw [h.out r (List.mem_of_getElem? hr)] at hS
      clear hr hv hcv
      go_wp2_with (go_at_call 23; refine (hS _).mono ?_; rintro e w' ⟨rfl, rfl⟩)
      go_round
      case rel => exact ⟨i + 1, by go_num, by omega⟩
      case measure => simp [RowKit.intOf]; omega
    · clear hv
      go_wp2
      go_ret3
      simp

set_option maxRecDepth 100000 in
set_option maxHeartbeats 2000000 in
theorem encode_bad (v : Value) (l : List Int) (k : Nat) (w : World) (hv : Runes w v l) (hl : l.length ≤ 1048576) (h : badAt l = some k) :
    Calls Try.prog 21 #[v] w fun e w' => e = .returned (.tuple #[.string ⟨#[]⟩, .int .i64 (k : Int), .int .i64 41]) ∧ w = w' := by
  obtain ⟨a, c, rfl, _⟩ := hv.form
  obtain ⟨r0, hr0, hsc0, hb⟩ := badAt_some h
  have hk := (List.getElem?_eq_some_iff.1 hr0).1
  clear h
  replace hb := Lib.hid hb
  replace hr0 := Lib.hid hr0
  replace hsc0 := Lib.hid hsc0
  go_enter Try.func21, Try.ntmps21
  go_wp2
  go_loop [9] (fun vi => ∃ i : Nat, vi = .int .i64 (i : Int) ∧ i ≤ k) (fun vi => l.length - (RowKit.intOf vi).toNat)
  case atStart => exact ⟨0, rfl, Nat.zero_le _⟩
  case round =>
    obtain ⟨i, rfl, hi⟩ := hrel
    by_cases hlt : i < k
    · obtain ⟨r, hr⟩ : ∃ r, l[i]? = some r := ⟨_, List.getElem?_eq_getElem (by omega)⟩
      obtain ⟨b, off, rfl, hc⟩ := hv.cell hr
      have hS := fun w => scalar_any r w
      rw [hb.out i r hlt hr] at hS
      clear hr hv
      go_wp2_with (go_at_call 23; refine (hS _).mono ?_; rintro e w' ⟨rfl, rfl⟩)
      go_round
      case rel => exact ⟨i + 1, by go_num, by omega⟩
      case measure => simp [RowKit.intOf]; omega
    · obtain rfl : i = k := by omega
      obtain ⟨b, off, rfl, hc⟩ := hv.cell hr0.out
      have hS := fun w => scalar_any r0 w
      rw [hsc0.out] at hS
      clear hv hlt
      go_wp2_with (go_at_call 23; refine (hS _).mono ?_; rintro e w' ⟨rfl, rfl⟩)
      go_ret3
      simp

set_option maxRecDepth 100000 in
set_option maxHeartbeats 4000000 in
theorem refEncode_ok (v : Value) (l : List Int) (w : World) (hv : Runes w v l) (hl : l.length ≤ 1048576) (h : allSc l) :
    Calls Try.prog 22 #[v] w fun e w' => e = .returned (.tuple #[.string ⟨(enc l).toArray⟩, .int .i64 0, .int .i64 0]) ∧ w.grownBy w' none := by
  obtain ⟨a, c, rfl, _⟩ := hv.form
  obtain ⟨i0, hi, hz0, hz1, hz2⟩ := info_parts infoU8
  replace h := Lib.hid h
  go_enter Try.func22, Try.ntmps22
  go_wp2
  go_loopw [5, 6] (fun vo vi wr => ∃ (v : Value) (i : Nat) (out : List UInt8), vo = v ∧ vi = .int .i64 (i : Int) ∧ i ≤ l.length ∧ out.length ≤ 4 * i ∧ Hid (enc l = out ++ enc (l.drop i)) ∧ Owns wr w.heap.size 5 v out ∧ w.grownBy wr none) (fun _ vi _ => l.length - (RowKit.intOf vi).toNat)
  case atStart => exact ⟨_, 0, [], rfl, rfl, Nat.zero_le _, Nat.le_refl _, Lib.hid rfl, ⟨rfl, .inl ⟨rfl, rfl⟩⟩, World.grownBy.refl w none⟩
  case round =>
    obtain ⟨_, i, out, rfl, rfl, hil, hol, hO, hown, hg⟩ := hrel
    by_cases hlt : i < l.length
    · obtain ⟨r, hr⟩ : ∃ r, l[i]? = some r := ⟨_, List.getElem?_eq_getElem hlt⟩
      have hv2 := hv.all (belowg' hg)
      obtain ⟨b, off, rfl, hc⟩ := hv2.cell hr
      have hsc := h.out r (List.mem_of_getElem? hr)
      have hS := fun w => rscalar_any r w
      rw [hsc] at hS
      obtain ⟨rn, rfl, hrn⟩ := scalar_nat hsc
      have hF := fun w => form_any rn w hrn
      have hO2 := hO.out
      have hfl : (form rn).length ≤ 4 := by rw [form_length]; unfold wideOf; (repeat' split) <;> omega
      rw [List.drop_eq_getElem_cons hlt, (List.getElem?_eq_some_iff.1 hr).2, enc_cons, Int.toNat_natCast, ← List.append_assoc] at hO2
      obtain ⟨F, hFd⟩ : ∃ F, F = form rn := ⟨_, rfl⟩
      rw [← hFd] at hO2 hF hfl
      replace hO2 := Lib.hid hO2
      clear hr hv2 hO hsc hFd hrn
      go_wp2_with (first
        | (go_at_call 24; refine (hS _).mono ?_; rintro e w' ⟨rfl, rfl⟩)
        | (go_at_call 41; refine (hF _).mono ?_; rintro e w5 ⟨v5, rfl, ho5, hg5⟩; obtain ⟨a5, c5, rfl⟩ := ho5.reads.form)
        | (at_builtin; refine wpList_append_bytes _ rfl _ _ 64 rfl w.heap.size 5 i0 Try.underlying64 hi hz0 hz1 hz2 u5 out rfl (hown.new hg5) _ F rfl ho5.reads (by omega) (Nat.le_trans hg.size hg5.size) ?_; intro v6 w6 ho6 hg6; have hob := World.ownsRow.lt hown; have hg7 : w.grownBy w6 none := gnew (gnew hg hg5 (by simp)) hg6 (fun k e => .inl (hob k e).1); clear hob))
      have hO3 : Hid (enc l = (out ++ F) ++ enc (l.drop (i + 1))) := hO2
      clear hO2 hown hg
      go_roundw
      case rel => exact ⟨_, i + 1, out ++ F, rfl, by go_num, by omega, by simp; omega, hO3, ho6, hg7⟩
      case measure => simp [RowKit.intOf]; omega
    · have hO2 := hO.out
      rw [List.drop_eq_nil_of_le (by omega), enc_nil, List.append_nil] at hO2
      have hcv := conv_of hown.reads
      replace hO2 := Lib.hid hO2
      clear hO hv
      go_wp2
      go_ret3
      rw [hO2.out]
      exact ⟨rfl, hg⟩

set_option maxRecDepth 100000 in
set_option maxHeartbeats 4000000 in
theorem refEncode_bad (v : Value) (l : List Int) (k : Nat) (w : World) (hv : Runes w v l) (hl : l.length ≤ 1048576) (h : badAt l = some k) :
    Calls Try.prog 22 #[v] w fun e w' => e = .returned (.tuple #[.string ⟨#[]⟩, .int .i64 (k : Int), .int .i64 41]) ∧ w.grownBy w' none := by
  obtain ⟨a, c, rfl, _⟩ := hv.form
  obtain ⟨i0, hi, hz0, hz1, hz2⟩ := info_parts infoU8
  obtain ⟨r0, hr0, hsc0, hbs⟩ := badAt_some h
  have hk := (List.getElem?_eq_some_iff.1 hr0).1
  clear h
  replace hbs := Lib.hid hbs
  replace hr0 := Lib.hid hr0
  replace hsc0 := Lib.hid hsc0
  go_enter Try.func22, Try.ntmps22
  go_wp2
  go_loopw [5, 6] (fun vo vi wr => ∃ (v : Value) (i : Nat) (out : List UInt8), vo = v ∧ vi = .int .i64 (i : Int) ∧ i ≤ k ∧ out.length ≤ 4 * i ∧ Owns wr w.heap.size 5 v out ∧ w.grownBy wr none) (fun _ vi _ => l.length - (RowKit.intOf vi).toNat)
  case atStart => exact ⟨_, 0, [], rfl, rfl, Nat.zero_le _, Nat.le_refl _, ⟨rfl, .inl ⟨rfl, rfl⟩⟩, World.grownBy.refl w none⟩
  case round =>
    obtain ⟨_, i, out, rfl, rfl, hil, hol, hown, hg⟩ := hrel
    have hv2 := hv.all (belowg' hg)
    by_cases hlt : i < k
    · obtain ⟨r, hr⟩ : ∃ r, l[i]? = some r := ⟨_, List.getElem?_eq_getElem (by omega)⟩
      obtain ⟨b, off, rfl, hc⟩ := hv2.cell hr
      have hsc := hbs.out i r hlt hr
      have hS := fun w => rscalar_any r w
      rw [hsc] at hS
      obtain ⟨rn, rfl, hrn⟩ := scalar_nat hsc
      have hF := fun w => form_any rn w hrn
      have hfl : (form rn).length ≤ 4 := by rw [form_length]; unfold wideOf; (repeat' split) <;> omega
      obtain ⟨F, hFd⟩ : ∃ F, F = form rn := ⟨_, rfl⟩
      rw [← hFd] at hF hfl
      clear hr hv2 hsc hFd hrn
      go_wp2_with (first
        | (go_at_call 24; refine (hS _).mono ?_; rintro e w' ⟨rfl, rfl⟩)
        | (go_at_call 41; refine (hF _).mono ?_; rintro e w5 ⟨v5, rfl, ho5, hg5⟩; obtain ⟨a5, c5, rfl⟩ := ho5.reads.form)
        | (at_builtin; refine wpList_append_bytes _ rfl _ _ 64 rfl w.heap.size 5 i0 Try.underlying64 hi hz0 hz1 hz2 u5 out rfl (hown.new hg5) _ F rfl ho5.reads (by omega) (Nat.le_trans hg.size hg5.size) ?_; intro v6 w6 ho6 hg6; have hob := World.ownsRow.lt hown; have hg7 : w.grownBy w6 none := gnew (gnew hg hg5 (by simp)) hg6 (fun k e => .inl (hob k e).1); clear hob))
      clear hown hg
      go_roundw
      case rel => exact ⟨_, i + 1, out ++ F, rfl, by go_num, by omega, by simp; omega, ho6, hg7⟩
      case measure => simp [RowKit.intOf]; omega
    · obtain rfl : i = k := by omega
      obtain ⟨b, off, rfl, hc⟩ := hv2.cell hr0.out
      have hS := fun w => rscalar_any r0 w
      rw [hsc0.out] at hS
      clear hv hv2 hlt
      go_wp2_with (go_at_call 24; refine (hS _).mono ?_; rintro e w' ⟨rfl, rfl⟩)
      go_ret3
      exact ⟨rfl, hg⟩
end Go.Proofs.Ytmpipgjdnpgemaa
