/-
  LAYER 2 (codec): CodecFields.
-/
import Derived.Test.YtilbccjgaaembaaCFieldsA
import Derived.Test.YtilbccjgaaembaaCAny
import Derived.Test.YtilbccjgaaembaaQuietR
import Derived.RangeFuncBound
namespace Go.Proofs.Ytilbccjgaaembaa
set_option maxRecDepth 100000
open Go.RowKit Go.Lib
attribute [local go_sem] Oper.semAt_some

set_option maxHeartbeats 8000000 in
theorem fields_law (a : Option Addr) (l c : Nat) (L : List (List UInt8)) (a2 : Option Addr) (l2 c2 : Nat) (ms : List UInt8) (w : World) (hr : ReadsLX w (.slice a l c) L) (hr2 : Reads w (.slice a2 l2 c2) ms) (hl : L.length ≤ 500) (hs : ms.length + lens L ≤ 5000) :
    CallsIn Fence.wide 8 Try.prog 6 #[.slice a l c, .slice a2 l2 c2] w fun e w' => e = .returned (.bool true) ∧ Below w.heap.size w w' := by
  obtain ⟨rfl, hc, hm⟩ := hr.len
  obtain ⟨rfl, hc2, hm2⟩ := hr2.slice
  unfold maxLen at hm hm2
  obtain ⟨W0, hW0⟩ : ∃ W0, W0 = (w.alloc (.cells #[.slice a L.length c] 47)).alloc (.cells #[.bool false] 4) := ⟨_, rfl⟩
  have hg0 : w.grownBy W0 none := by rw [hW0]; exact galloc (World.grownBy_alloc w _ none) _
  have hS0 : Boxed W0 w.heap.size 47 (.slice a L.length c) := by rw [hW0]; exact (Boxed.new w _ _).alloc _
  have hR0 : Boxed W0 (w.heap.size + 1) 4 (.bool false) := by
    rw [hW0]
    have := Boxed.new (w.alloc (.cells #[.slice a L.length c] 47)) 4 (.bool false)
    rwa [World.size_alloc] at this
  replace hW0 := Lib.hid hW0
  refine callsIn_of_wp_marks Try.func6 rfl trivial ?_ rfl
  simp only [Try.ntmps6, List.size_toArray, List.length_cons, List.length_nil, Nat.reduceAdd, Nat.reduceSub, Array.replicate_succ, Array.replicate_zero, List.push_toArray, List.append_toArray, List.nil_append, List.cons_append]
  gi_wp2_with fail
  rw [← hW0.out]
  gi_wp2_with (refine ⟨trivial, ?_⟩; gi_at_call 13; refine (callsIn_wide.2 (awake_any _)).mono ?_; rintro e w1 ⟨rfl, hg1⟩; have hS1 := hS0.kept hg1 (by simp); have hR1 := hR0.kept hg1 (by simp); have hc1 := hS1.cell; have hgw1 := hg0.trans hg1)
  have hb1 := belowg' hgw1
  have hl1 := hr.all hb1
  have hr1 := hr2.all hb1
  gi_loopw [5, 29] (fun vn vi wr => ∃ (i p : Nat), vi = .int .i64 (i : Int) ∧ i ≤ L.length ∧ vn = .int .i64 ((ms.length + lens (L.take i) : Nat) : Int) ∧ wr = w1.drewN p) (fun _ vi _ => L.length - (RowKit.intOf vi).toNat)
  case atStart => exact ⟨0, 0, rfl, Nat.zero_le _, by simp [lens], rfl⟩
  case round =>
    obtain ⟨i, p, rfl, hi, rfl, rfl⟩ := hrel
    by_cases hlt : i < L.length
    · have hle := lens_take_le L (i + 1)
      rw [lens_take hlt] at hle
      have hlt2 := lens_take hlt
      obtain ⟨b1, o1, v1, rfl, k1, hx1⟩ := hl1.get hlt
      obtain ⟨F, hF⟩ : ∃ F, L[i] = F := ⟨_, rfl⟩
      rw [hF] at hx1 hle hlt2
      obtain ⟨a1, c1, rfl⟩ := hx1.form
      replace hlt2 := Lib.hid hlt2
      clear hF hx1
      gi_wp2
      exact ⟨⟨i + 1, p, by go_num, by omega, by rw [hlt2.out]; go_num, rfl⟩, by simp [RowKit.intOf]; omega⟩
    · obtain rfl : i = L.length := by omega
      rw [List.take_length]
      clear hi hlt hc1 hl1 hr1 hb1
      obtain ⟨w2, hw2⟩ : ∃ w2, w2 = w1.drewN p := ⟨_, rfl⟩
      have hgw2 : w.grownBy w2 none := by rw [hw2]; exact gdrewN hgw1 p
      have hS2 : Boxed w2 w.heap.size 47 (.slice a L.length c) := by rw [hw2]; exact hS1
      have hR2 : Boxed w2 (w.heap.size + 1) 4 (.bool false) := by rw [hw2]; exact hR1
      rw [← hw2]
      clear hw2 hS1 hR1 hgw1 hg1 hS0 hR0 hW0 hg0
      have hl2 := hr.all (belowg' hgw2)
      have hr22 := hr2.all (belowg' hgw2)
      have hc2' := hS2.cell
      have hall : ∀ f ∈ L, f.length ≤ 1048576 := fun f hf => by have := lens_mem hf; omega
      have hcat := lens_fields L hall
      have hbf := back_fields L ms (by omega) hall
      have cF := Fields_okX L a L.length c w2 hl2 (by omega) hall
      have cG := fun wx (hb : Below w2.heap.size w2 wx) => refFields_okX L a L.length c wx (hl2.all hb) (by omega) hall
      have hFl : 1 ≤ (fields L).length ∧ (fields L).length ≤ 10020 := by
        have hul : (Lib.uvarint L.length).length ≤ 10 := ulen_le (by omega)
        have hup := Lib.uvarint_pos L.length
        unfold fields
        rw [List.length_append]
        omega
      obtain ⟨F, hF⟩ : ∃ F, F = fields L := ⟨_, rfl⟩
      rw [← hF] at hbf cF cG hFl
      have hFF : (F != F) = false := by simp
      clear hF
      obtain ⟨M, hM⟩ : ∃ M, M = F ++ ms := ⟨_, rfl⟩
      rw [← hM] at hbf
      have hMl : M.length ≤ 20100 := by rw [hM, List.length_append]; omega
      replace hM := Lib.hid hM
      replace hall := Lib.hid hall
      obtain ⟨i0, hi, hz0, hz1, hz2⟩ := info_parts infoU8
      gi_wp2_with (first
        | (refine ⟨trivial, ?_⟩; gi_at_call 32; refine (callsIn_wide.2 cF).mono ?_; clear cF; rintro e w3 ⟨v3, rfl, ho3, hb3⟩; have hg3 : w2.grownBy w3 none := belowg hb3 _; have hc3 := (hS2.kept hg3 (by simp)).cell; obtain ⟨a3, c3, rfl⟩ := ho3.reads.form)
        | (refine ⟨trivial, ?_⟩; gi_at_call 33; refine (callsIn_wide.2 (cG w3 hb3)).mono ?_; clear cG; rintro e w4 ⟨v4, rfl, ho4, hb4⟩; have hg4 : w3.grownBy w4 none := belowg hb4 _; have hc4 := (hS2.kept (hg3.trans hg4) (by simp)).cell; obtain ⟨a4, c4, rfl⟩ := ho4.reads.form; have ho34 := ho3.new hg4; have q3 := conv_of ho34.reads; have q4 := conv_of ho4.reads)
        | (gi_at_builtin; refine wpListIn_app w4 rfl (.const (.slice none 0 0)) _ 23 rfl w4.heap.size 5 i0 Try.underlying23 hi hz0 hz1 hz2 _ [] rfl (owns_nil _ _ _) _ F rfl ho34.reads (by simp; omega) (Nat.le_refl _) ?_; intro v5 w5 ho5 hg5; replace hg5 : w4.grownBy w5 none := hg5; rw [List.nil_append] at ho5; have hg25 := (hg3.trans hg4).trans hg5)
        | (gi_at_builtin; refine wpListIn_app w5 rfl _ _ 23 rfl w4.heap.size 5 i0 Try.underlying23 hi hz0 hz1 hz2 v5 F rfl ho5 _ ms rfl (hr22.new hg25) (by omega) hg5.size ?_; intro v6 w6 ho6 hg6; rw [← hM.out] at ho6; have hg46 := gnew hg5 hg6 (fun r e => .inl (ho5.lt r e).1); have hg26 := (hg3.trans hg4).trans hg46; obtain ⟨a6, c6, rfl⟩ := ho6.reads.form; have cR := ReadFields_ok a6 _ c6 M L F.length w6 ho6.reads hbf)
        | (refine ⟨trivial, ?_⟩; gi_at_call 28; refine (callsIn_wide.2 cR).mono ?_; clear cR; rintro e w7 ⟨v7, rfl, ho7, hb7⟩; have hg7 : w6.grownBy w7 none := belowg hb7 _; have hg27 := hg26.trans hg7; have hc7 := (hS2.kept hg27 (by simp)).cell; obtain ⟨a7, l7, c7, rfl⟩ := ho7.reads.form))
      have hS7 := refSame_X a7 l7 c7 a _ c L w7 ho7.reads (hl2.all (gbelow hg27 (Nat.le_refl _) (by simp)))
      refine ⟨trivial, ?_⟩
      refine (callsIn_wide.2 hS7).mono ?_
      rintro e w8 ⟨rfl, m8, hw8⟩
      have hg28 : w2.grownBy w8 none := by rw [hw8]; exact gdrewN hg27 m8
      have hS8' := hS2.kept hg28 (by simp)
      have hR8 := hR2.kept hg28 (by simp)
      have hc8 := hS8'.cell
      have hl8 := hl2.all (gbelow hg28 (Nat.le_refl _) (by simp))
      clear hw8 hS7 q3 q4 hg7 hg27 hg26 hg25 hg6 hg46 hg5 hg4 hg3 hb3 hb4 hb7 ho3 ho4 ho5 ho6 ho7 ho34 hc3 hc4 hc7 hFF hbf hc2'
      gi_wp2_with fail
      clear hl2 hr22 hS2 hc8
      have hS8 : Boxed w8 w.heap.size 47 (.slice a L.length c) := hS8'
      clear hS8'
      gi_loopw [14, 90] (fun va vi wr => ∃ (i : Nat), vi = .int .i64 (i : Int) ∧ i ≤ L.length ∧ Owns wr w8.heap.size 5 va ((L.take i).map field).flatten ∧ w8.grownBy wr none) (fun _ vi _ => L.length - (RowKit.intOf vi).toNat)
      case atStart => exact ⟨0, rfl, Nat.zero_le _, owns_nil _ _ _, World.grownBy.refl _ _⟩
      case round =>
        obtain ⟨i, rfl, hi2, hoG, hgr⟩ := hrel
        by_cases hlt : i < L.length
        · have hofl := offL_le L (i + 1)
          have hofs := offL_succ hlt
          have hfl := hall.out L[i] (List.getElem_mem hlt)
          have hS : Hid (((L.take (i + 1)).map field).flatten = ((L.take i).map field).flatten ++ field L[i]) := by
            show _ = _
            rw [List.take_succ_eq_append_getElem hlt]; simp only [List.map_append, List.flatten_append, List.map_cons, List.map_nil, List.flatten_cons, List.flatten_nil, List.append_nil]
          obtain ⟨b1, o1, v1, rfl, k1, hx1⟩ := (hl8.all (belowg' hgr)).get hlt
          obtain ⟨f, hf⟩ : ∃ f, L[i] = f := ⟨_, rfl⟩
          rw [hf] at hx1 hS hfl hofs
          have hGl : ((L.take i).map field).flatten.length + (field f).length ≤ 10000 := by
            have : ((L.take i).map field).flatten.length = offL L i := rfl
            omega
          obtain ⟨G, hG⟩ : ∃ G, G = ((L.take i).map field).flatten := ⟨_, rfl⟩
          rw [← hG] at hS hoG hGl
          obtain ⟨H, hH⟩ : ∃ H, H = field f := ⟨_, rfl⟩
          have cf := fun a' l' c' (h : ReadsX wr (.slice a' l' c') f) => Field_X f a' l' c' wr h hfl
          rw [← hH] at hS hGl cf
          clear hofl hofs hf hG hH hfl
          obtain ⟨a1, c1, rfl⟩ := hx1.form
          have cf1 := cf a1 _ c1 hx1
          clear cf hx1
          gi_wp2_with (first
            | (refine ⟨trivial, ?_⟩; gi_at_call 31; refine (callsIn_wide.2 cf1).mono ?_; clear cf1; rintro e w9 ⟨v9, rfl, ho9, hb9⟩; have hg9 : wr.grownBy w9 none := belowg hb9 _)
            | (gi_at_builtin; refine wpListIn_app w9 rfl _ _ 23 rfl w8.heap.size 5 i0 Try.underlying23 hi hz0 hz1 hz2 _ G rfl (hoG.new hg9) _ H rfl ho9.reads (by omega) (Nat.le_trans hgr.size hg9.size) ?_; intro v10 w10 ho10 hg10; rw [← hS.out] at ho10; have hgX := gnew (hgr.trans hg9) hg10 (fun r e => .inl (hoG.lt r e).1)))
          exact ⟨⟨i + 1, by go_num, by omega, ho10, hgX⟩, by simp [RowKit.intOf]; omega⟩
        · obtain rfl : i = L.length := by omega
          rw [List.take_length] at hoG
          obtain ⟨A, hA⟩ : ∃ A, A = (L.map field).flatten := ⟨_, rfl⟩
          rw [← hA] at hoG hcat
          obtain ⟨aA, cA, rfl⟩ := hoG.reads.form
          have hR9 : Boxed wr (w.heap.size + 1) 4 (.bool false) := (hR8.kept hgr (by simp))
          have hS9 := hS8.kept hgr (by simp)
          have hb9 : Below w.heap.size w wr := belowg' ((hgw2.trans hg28).trans hgr)
          have hl9 := hl8.all (belowg' hgr)
          clear hi2 hlt
          have cN := New_any aA _ cA A wr hoG.reads (by omega)
          replace hA := Lib.hid hA
          gi_wp2_with (refine ⟨trivial, ?_⟩; gi_at_call 34; refine (callsIn_wide.2 cN).mono ?_; clear cN; rintro e w10 ⟨r, vA, rfl, hg10, hrr, hRd10, hoV⟩)
          have hrA := hRd10.apart hoV.reads
          obtain ⟨av, cv, rfl⟩ := hoV.reads.form
          have hvlt := hoV.lt
          have hws := hR9.lt
          have hwr := hg10.size
          have hrl := hRd10.lt
          obtain ⟨W11, hW11⟩ : ∃ W11, W11 = w10.alloc (.cells #[.int .i64 0] 3) := ⟨_, rfl⟩
          have hBi11 : Boxed W11 w10.heap.size 3 (.int .i64 0) := by rw [hW11]; exact Boxed.new w10 _ _
          have g11 : w10.grownBy W11 none := by rw [hW11]; exact World.grownBy_alloc w10 _ none
          have hs11 := hBi11.lt
          rw [← hW11]
          clear hW11
          refine ⟨trivial, ?_⟩
          refine (callsIn_wide.2 (rEach_any r W11)).mono ?_
          rintro e W12 ⟨rfl, hE12, g12⟩
          have hs12 := hE12.lt
          have hBi := hBi11.kept g12 (by simp)
          have hRd12 := (hRd10.new g11).new g12
          have hV12 := (hoV.reads.new g11).new g12
          have gr12 := (hg10.trans g11).trans g12
          have hS12 := hS9.kept gr12 (by simp)
          have hR12 := hR9.kept gr12 (by simp)
          have hb12 := hb9.trans (gbelow gr12 hb9.size (by simp))
          have hnf := eq_nilFuncC
          clear hoG hoV hg10 hRd10 g11 hBi11 g12 gr12 hS9 hR9 hb9 hl9 hgr hS8 hl8 hR8 hg28 hR2 hgw2
          gi_wp2_with fail
          have hTell := rEach1_tells 4 W11.heap.size r W12.heap.size w10.heap.size av cv L A W12 hA.out hall.out (by omega) (by omega) hE12 hRd12 hV12 (by omega) (by omega)
            (fun hne k e => by
              have h1 := hvlt k e
              refine ⟨by omega, by omega, ?_⟩
              rintro rfl
              rcases hrA with h | h
              · exact h e
              · exact hne h)
          refine range_tells (a := _) (w := W12) (α := FTold) rfl (by omega) (gf := 85) (lb := #[.pointer (some ⟨W11.heap.size, 0, none⟩)]) rfl trivial (enters_of Try.func85 (by kernel_rfl) rfl)
            hTell (by omega) (fun _ => rfl) (fOk_kept L) (fun pre W => Boxed W w10.heap.size 3 (.int .i64 (pre.length : Int)) ∧ KeptRI W12.heap.size r w10.heap.size W12 W ∧ Below w.heap.size w W) (fun _ _ _ => False)
            (fun s A B k h hg hk => ⟨h.1.kept hg (by simp; omega), ⟨Nat.le_trans h.2.1.1 hg.size, fun i h1 h2 h3 => (hg.block i (Nat.lt_of_lt_of_le h1 h.2.1.1) (by simp; omega)).trans (h.2.1.2 i h1 h2 h3)⟩, h.2.2.trans (gbelow hg h.2.2.size (fun r e => by cases e; omega))⟩) (fun c s A B k h _ _ => h.elim) ⟨hBi, ⟨Nat.le_refl _, fun _ _ _ _ => rfl⟩, hb12⟩ ?a2 ?assign2 ?body2 ?done2 ?stop2
          case assign2 =>
            intro l x W K hK
            dsimp only [fEnc]
            gi_wp2
            exact hK
          case body2 =>
            rintro l pre ⟨xn, xb, xv⟩ W ⟨hBw, hK2, hbw⟩ ⟨hRx, hxn, hget⟩ hsz
            dsimp only at hRx hget hxn
            subst hxn
            have hSb : Boxed W w.heap.size 47 (.slice a L.length c) := (hK2.2 _ (by omega) (by omega) (by omega)).trans hS12
            have hlt : pre.length < L.length := (List.getElem?_eq_some_iff.1 hget).1
            obtain ⟨b1, o1, v1, rfl, k1, hx1⟩ := (hr.all hbw).get hlt
            have hLg : L[pre.length] = xb := (List.getElem?_eq_some_iff.1 hget).2
            rw [hLg] at hx1
            obtain ⟨ax, cx, rfl⟩ := hRx.form
            obtain ⟨ay, cy, rfl⟩ := hx1.form
            have qx := fun n => conv_of (hRx.new (gdrewN (World.grownBy.refl W none) n))
            have qy := fun n => conv_X (hx1.new (gdrewN (World.grownBy.refl W none) n))
            have hxx : (xb != xb) = false := by simp
            have r2 := hSb.cell
            have r3 := hBw.cell
            have r4 := hBw.frozen
            have hge : decide ((L.length : Int) ≤ (pre.length : Int)) = false := by simp; omega
            have hge2 : decide (L.length ≤ pre.length) = false := by simp; omega
            have hltI : (pre.length : Int) < (L.length : Int) := by omega
            obtain ⟨m, hm⟩ : ∃ m : Nat, m = pre.length + 1 := ⟨_, rfl⟩
            have hwp : IntKind.i64.wrap ((pre.length : Int) + 1) = (m : Int) := by
              rw [hm]
              exact IntWalk.i64_in _ (by omega)
            replace hm := Lib.hid hm
            have hBw' := Lib.hid hBw
            have hK2' := Lib.hid hK2
            have hbw' := Lib.hid hbw
            clear hBw hK2 hbw hTell hb12 hE12 hRd12 hV12 hR12 hBi hget hLg hRx hx1 hr hr2
            generalize hN : L.length = N at *
            replace hN := Lib.hid hN
            gi_wp2_with fail
            refine wpIn_region_quiet_r (by kernel_rfl) (by kernel_rfl) (by kernel_rfl) ?_
            repeat (gi_big_quiet_step (fail))
            refine wpQuietIn_nil ?_
            intro _ hw'
            obtain ⟨nq, hw''⟩ := hw'
            subst hw''
            have gd : W.grownBy (W.drewN nq) (some w10.heap.size) := gdrewN (World.grownBy.refl W _) nq
            have gs := gset gd 0 (.int .i64 (m : Int))
            have hset : Boxed ((W.drewN nq).setCell ⟨w10.heap.size, 0, none⟩ (.int .i64 (m : Int))) w10.heap.size 3 (.int .i64 (m : Int)) := Boxed.set (W := W.drewN nq) _ hBw'.out
            have hko : KeepsOthers W ((W.drewN nq).setCell ⟨w10.heap.size, 0, none⟩ (.int .i64 (m : Int))) := KeepsOthers.trans (B := W.drewN nq) ⟨Nat.le_refl _, fun _ _ h _ => h⟩ (KeepsOthers.setCell (W.drewN nq) _ _)
            replace gs := Lib.hid gs
            replace hset := Lib.hid hset
            replace hko := Lib.hid hko
            clear gd
            gi_wp2_with fail
            refine ⟨hko.out, KeptX.grown gs.out hsz (.inl rfl), ?_, ⟨Nat.le_trans hK2'.out.1 gs.out.size, fun i h1 h2 h3 => (gs.out.block i (by have := hK2'.out.1; omega) (by simp; omega)).trans (hK2'.out.2 i h1 h2 h3)⟩, hbw'.out.trans (gbelow gs.out hbw'.out.size (by simp; omega))⟩
            have e : (((pre ++ [(pre.length, xb, Value.slice ax xb.length cx)]).length : Nat) : Int) = (m : Int) := by
              rw [List.length_append, hm.out]; rfl
            rw [e]
            exact hset.out
          case stop2 =>
            rintro D2 c pre W W' _ _ h _
            exact h.elim
          case done2 =>
            rintro D2 xs W W17 hD2 ⟨hxl, hRdS⟩ ⟨hBi17, hK17, hb17⟩ hg17 hM2
            rw [hxl] at hBi17
            have hRd17 := hRdS.kept hg17 (by simp; omega)
            have hS17 : Boxed W17 w.heap.size 47 (.slice a L.length c) := (hK17.2 _ (by omega) (by omega) (by omega)).trans hS12
            have hR17 : Boxed W17 (w.heap.size + 1) 4 (.bool false) := (hK17.2 _ (by omega) (by omega) (by omega)).trans hR12
            have hDn := Done_all r av A.length cv A.length 0 W17 hRd17 (Nat.le_refl _)
            have hdn : dn A.length A.length 0 = 0 := by unfold dn; rw [if_pos rfl, if_neg (by omega)]
            rw [hdn] at hDn
            have hAt := fun q => at_any r _ A.length 0 (W17.drewN q) (hRd17.drewN q)
            have r1 := hBi17.cell
            have r2 := hS17.cell
            have r3 := hR17.cell
            have r4 := hR17.frozen
            have hwD2 : w.heap.size + 1 ≠ D2 := by omega
            have hbr := fun q => (hb17.trans (gbelow (gdrewN (World.grownBy.refl W17 none) q) hb17.size (by simp))).setCell (p := ⟨w.heap.size + 1, 0, none⟩) (by show _ ≤ w.heap.size + 1; omega) (.bool true)
            have hBr := fun q => Boxed.set (W := W17.drewN q) (.bool true) hR17
            have x2 := fun q => (KeepsOthers.setCell (W17.drewN q) ⟨w.heap.size + 1, 0, none⟩ (.bool true)).same D2 _ hM2 rfl
            replace hbr := Lib.hid hbr
            replace hBr := Lib.hid hBr
            replace x2 := Lib.hid x2
            clear hBi17 hS17 hR17 hM2 hK17 hb17 hg17 hRd17 hRdS hxl hdn hTell hb12 hE12 hRd12 hV12 hR12 hS12 hBi hr hr2
            generalize hN : L.length = N at *
            replace hN := Lib.hid hN
            gi_wp2_with (first
              | (refine ⟨trivial, ?_⟩; gi_at_call 36; refine (callsIn_wide.2 hDn).mono ?_; rintro e W5 ⟨rfl, q, rfl⟩)
              | (refine ⟨trivial, ?_⟩; gi_at_call 37; refine (callsIn_wide.2 (hAt q)).mono ?_; rintro e W5 ⟨rfl, rfl⟩))
            have y2 := x2.out q
            have ybr := hbr.out q
            have yBr := hBr.out q
            clear x2 hbr hBr
            generalize (W17.drewN q).setCell ⟨w.heap.size + 1, 0, none⟩ (.bool true) = W18 at y2 ybr yBr ⊢
            refine ⟨by simp, .inl ⟨_, _, rfl, run_takeDeferred y2, ?_⟩⟩
            have hB19 : Boxed (W18.putObj D2 (.deferred none)) (w.heap.size + 1) 4 (.bool true) := (World.putObj_heap_other hwD2).trans yBr
            have hb19 : Below w.heap.size w (W18.putObj D2 (.deferred none)) := ybr.trans (gbelow (grownBy_putObj' W18 D2 _) ybr.size (by simp; omega))
            have hc19 := hB19.cell
            clear hB19 yBr ybr y2
            generalize W18.putObj D2 (.deferred none) = W19 at hc19 hb19 ⊢
            simp [LeavesInM, LeavesIn, results, Try.results6, go_sem, hc19]
            exact hb19

set_option maxHeartbeats 8000000 in
theorem fields_big (a : Option Addr) (l c : Nat) (L : List (List UInt8)) (a2 : Option Addr) (l2 c2 : Nat) (ms : List UInt8) (w : World) (hr : ReadsLX w (.slice a l c) L) (hr2 : Reads w (.slice a2 l2 c2) ms)
    (hlim : ∀ f ∈ L, f.length ≤ 140737488351232) (hm1 : ms.length ≤ 140737488351232) (hbig : 500 < L.length ∨ 5000 < ms.length + lens L) :
    CallsIn Fence.wide 8 Try.prog 6 #[.slice a l c, .slice a2 l2 c2] w fun e w' => e = .returned (.bool true) ∧ Below w.heap.size w w' := by
  obtain ⟨rfl, hc, hm⟩ := hr.len
  obtain ⟨rfl, hc2, hm2⟩ := hr2.slice
  unfold maxLen at hm hm2
  obtain ⟨W0, hW0⟩ : ∃ W0, W0 = (w.alloc (.cells #[.slice a L.length c] 47)).alloc (.cells #[.bool false] 4) := ⟨_, rfl⟩
  have hg0 : w.grownBy W0 none := by rw [hW0]; exact galloc (World.grownBy_alloc w _ none) _
  have hS0 : Boxed W0 w.heap.size 47 (.slice a L.length c) := by rw [hW0]; exact (Boxed.new w _ _).alloc _
  have hR0 : Boxed W0 (w.heap.size + 1) 4 (.bool false) := by
    rw [hW0]
    have := Boxed.new (w.alloc (.cells #[.slice a L.length c] 47)) 4 (.bool false)
    rwa [World.size_alloc] at this
  replace hW0 := Lib.hid hW0
  refine callsIn_of_wp_marks Try.func6 rfl trivial ?_ rfl
  simp only [Try.ntmps6, List.size_toArray, List.length_cons, List.length_nil, Nat.reduceAdd, Nat.reduceSub, Array.replicate_succ, Array.replicate_zero, List.push_toArray, List.append_toArray, List.nil_append, List.cons_append]
  gi_wp2_with fail
  rw [← hW0.out]
  gi_wp2_with (refine ⟨trivial, ?_⟩; gi_at_call 13; refine (callsIn_wide.2 (awake_any _)).mono ?_; rintro e w1 ⟨rfl, hg1⟩; have hS1 := hS0.kept hg1 (by simp); have hR1 := hR0.kept hg1 (by simp); have hc1 := hS1.cell; have hgw1 := hg0.trans hg1)
  have hb1 := belowg' hgw1
  have hl1 := hr.all hb1
  gi_loopw [5, 29] (fun vn vi wr => ∃ (i p : Nat) (x : Int), vi = .int .i64 (i : Int) ∧ i ≤ L.length ∧ vn = .int .i64 x ∧ (L.length ≤ 500 → x = ((ms.length + lens (L.take i) : Nat) : Int)) ∧ wr = w1.drewN p) (fun _ vi _ => L.length - (RowKit.intOf vi).toNat)
  case atStart => exact ⟨0, 0, _, rfl, Nat.zero_le _, rfl, fun _ => by simp [lens], rfl⟩
  case round =>
    obtain ⟨i, p, x, rfl, hi, rfl, hx, rfl⟩ := hrel
    by_cases hlt : i < L.length
    · have hlt2 := lens_take hlt
      have hli := lens_le (L.take (i + 1)) (fun f hf => hlim f (List.mem_of_mem_take hf))
      obtain ⟨b1, o1, v1, rfl, k1, hx1⟩ := hl1.get hlt
      obtain ⟨F, hF⟩ : ∃ F, L[i] = F := ⟨_, rfl⟩
      rw [hF] at hx1 hlt2
      have hw : L.length ≤ 500 → IntKind.i64.wrap (x + (F.length : Int)) = ((ms.length + lens (L.take (i + 1)) : Nat) : Int) := by
        intro h5
        have h6 : (L.take (i + 1)).length ≤ 500 := by simp; omega
        rw [hx h5, IntWalk.i64_in _ (by have := Nat.mul_le_mul_right 140737488351232 h6; omega), hlt2]
        omega
      obtain ⟨y, hy⟩ : ∃ y, IntKind.i64.wrap (x + (F.length : Int)) = y := ⟨_, rfl⟩
      rw [hy] at hw
      obtain ⟨a1, c1, rfl⟩ := hx1.form
      replace hlt2 := Lib.hid hlt2
      replace hw := Lib.hid hw
      replace hx := Lib.hid hx
      clear hF hx1 hli
      gi_wp2
      exact ⟨⟨i + 1, p, y, by go_num, by omega, rfl, hw.out, rfl⟩, by simp [RowKit.intOf]; omega⟩
    · obtain rfl : i = L.length := by omega
      rw [List.take_length] at hx
      clear hi hlt hl1
      have hdec : decide (5000 < x) = true ∨ (decide (5000 < x) = false ∧ decide (500 < (L.length : Int)) = true) := by
        by_cases hx5 : 5000 < x
        · left; simpa using hx5
        · right
          refine ⟨by simpa using hx5, ?_⟩
          by_cases h5 : L.length ≤ 500
          · rcases hbig with h | h
            · omega
            · have := hx h5
              omega
          · simp; omega
      have rc := hR1.cell
      have rf := hR1.frozen
      have hBr := Boxed.set (W := w1.drewN p) (.bool true) hR1
      have hbr := (hb1.trans (gbelow (gdrewN (World.grownBy.refl w1 none) p) hb1.size (by simp))).setCell (p := ⟨w.heap.size + 1, 0, none⟩) (by show _ ≤ w.heap.size + 1; omega) (.bool true)
      have hc11 := hBr.cell
      clear hBr hx hbig hb1 hgw1 hR1 hS1 hg1 hW0 hR0 hS0 hg0 hlim hr hr2
      generalize hN : L.length = N at *
      replace hN := Lib.hid hN
      replace hbr := Lib.hid hbr
      replace hc11 := Lib.hid hc11
      rcases hdec with h1 | ⟨h1, h2⟩ <;>
      · gi_wp2_with fail
        replace hbr := hbr.out
        replace hc11 := hc11.out
        generalize (w1.drewN p).setCell ⟨w.heap.size + 1, 0, none⟩ (.bool true) = W11 at hc11 hbr ⊢
        simp [bodyPostM, LeavesInM, LeavesIn, results, Try.results6, go_sem, hc11]
        exact hbr

theorem CodecFields_walk (w : World) (a : Option Addr) (l c : Nat) (L : List (List UInt8)) (hr : ReadsLX w (.slice a l c) L) (ln : ∀ f ∈ L, f.length ≤ 140737488351232) (a2 : Option Addr) (l2 c2 : Nat) (ms : List UInt8) (hr2 : Reads w (.slice a2 l2 c2) ms) (ln2 : l2 ≤ 140737488351232) :
    Calls Try.prog 6 #[.slice a l c, .slice a2 l2 c2] w fun e w' => e = .returned (.bool true) ∧ Below w.heap.size w w' := by
  have hs := hr2.slice.1
  by_cases h : L.length ≤ 500 ∧ ms.length + lens L ≤ 5000
  · exact callsIn_wide.1 (fields_law a l c L a2 l2 c2 ms w hr hr2 h.1 h.2)
  · exact callsIn_wide.1 (fields_big a l c L a2 l2 c2 ms w hr hr2 ln (by omega) (by omega))
end Go.Proofs.Ytilbccjgaaembaa
