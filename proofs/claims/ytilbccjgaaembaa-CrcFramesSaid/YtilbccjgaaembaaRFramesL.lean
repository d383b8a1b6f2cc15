/-
  LAYER 3 (crc): CrcFrames: frames are read back, whatever lies behind; any bytes fall into frames up to the first that is none.
-/
import Derived.Test.YtilbccjgaaembaaREachA
import Derived.Test.YtilbccjgaaembaaRRefE
import Derived.Test.YtilbccjgaaembaaRBits
import Derived.Test.YtilbccjgaaembaaQuietR
namespace Go.Proofs.Ytilbccjgaaembaa
set_option maxRecDepth 100000
open Go.RowKit Go.Lib
attribute [local go_sem] Oper.semAt_some

theorem neq_nilFunc2 (w : World) (p q : Option Addr) : (binOp .eql 61 (.func (.func 97) #[] #[.pointer p, .pointer q]) .nilFunc).run Try.prog w = .ok (.bool false) w := by rfl

theorem tOk_kept (bs : List UInt8) (pre : List Told) (x : Told) (A B : World) (k : Nat) (o : Obj) (h : tOk bs pre x A) (hg : A.grownBy B (some k)) (hk : A.heap[k]? = some o) (ho : o.isCells = false) : tOk bs pre x B := by
  refine ⟨?_, h.2⟩
  rcases h.1 with h1 | ⟨b, off, cap, e, h2, h3, hc⟩
  · exact .inl h1
  · refine .inr ⟨b, off, cap, e, h2, h3, fun i u hu => ?_⟩
    have hcell := hc i u hu
    refine hg.cell hcell ?_
    rintro e
    simp only [Option.some.injEq] at e
    subst e
    simp only [World.cell?, hk] at hcell
    cases o <;> simp_all [Obj.isCells]

theorem row_heap {A B : World} {base s n : Nat} {e : TypeId} {v : Value} {xs : List Value} (h : A.ownsRow base e s v n xs) (hb : ∀ k, v.ownBlock = some k → B.heap[k]? = A.heap[k]?) : B.ownsRow base e s v n xs := by
  obtain ⟨h0, ⟨rfl, hn⟩ | ⟨g, cap, cur, rfl, hB, hg, hr⟩⟩ := h
  · exact ⟨h0, .inl ⟨rfl, hn⟩⟩
  · exact ⟨h0, .inr ⟨g, cap, cur, rfl, hB, (hb g rfl).trans hg, hr⟩⟩

theorem row_cell {w : World} {v : Value} {vs : List Value} {i : Nat} {u : Value} (h : Row w v vs) (hu : vs[i]? = some u) : ∃ b off cap, v = .slice (some ⟨b, off, none⟩) vs.length cap ∧ w.cell? ⟨b, off + i, none⟩ = some u := by
  rcases h with ⟨_, rfl⟩ | ⟨b, off, cap, e, _, _, hc⟩
  · simp at hu
  · exact ⟨b, off, cap, e, hc i u hu⟩
theorem frsN_len : ∀ (f n : Nat) (bs : List UInt8), (frsN f n bs).length ≤ f
  | 0, _, _ => Nat.le_refl _
  | f + 1, n, bs => by
    rw [frsN]
    split
    · have := frsN_len f (n + (unf bs).2.1) (bs.drop (unf bs).2.1)
      simp only [List.length_cons]
      omega
    · exact Nat.zero_le _
/-- What a round leaves of the elder blocks: all but two. -/
def Kept2 (n0 r ib : Nat) (A B : World) : Prop := A.heap.size ≤ B.heap.size ∧ ∀ k, k < n0 → k ≠ r → k ≠ ib → B.heap[k]? = A.heap[k]?

theorem row_form {w : World} {B s n : Nat} {e : TypeId} {v : Value} {xs : List Value} (h : w.ownsRow B e s v n xs) : ∃ a c, v = .slice a n c := by
  obtain ⟨_, ⟨rfl, hn⟩ | ⟨g, cap, cur, rfl, _⟩⟩ := h
  · exact ⟨none, 0, by rw [hn]⟩
  · exact ⟨_, _, rfl⟩

set_option maxHeartbeats 8000000 in
theorem frames_law (a : Option Addr) (l c : Nat) (bs : List UInt8) (a2 : Option Addr) (l2 c2 : Nat) (ms : List UInt8) (w : World) (hr : Reads w (.slice a l c) bs) (hr2 : Reads w (.slice a2 l2 c2) ms) (hl : bs.length + ms.length ≤ 5000) :
    CallsIn Fence.wide 8 Try.prog 10 #[.slice a l c, .slice a2 l2 c2] w fun e w' => e = .returned (.bool true) ∧ Below w.heap.size w w' := by
  obtain ⟨rfl, hc, hm⟩ := hr.slice
  obtain ⟨rfl, hc2, hm2⟩ := hr2.slice
  clear hm hm2
  obtain ⟨i0, hi, hz0, hz1, hz2⟩ := info_parts infoU8
  have hfl := frame_length bs
  have hul : (Lib.uvarint bs.length).length ≤ 10 := ulen_le (by omega)
  have huf := unf_frame bs ms (by omega)
  have cF := fun (t : Nat) wx (hT : Tbl wx t false) (hb : Below w.heap.size w wx) (htw : w.heap.size ≤ t) => Frame_ok t false a bs.length c bs wx hT (hr.all hb) (hr.offNew htw) (by omega)
  have cG := fun wx (hb : Below w.heap.size w wx) => refFrame_ok a bs.length c bs wx (hr.all hb) (by omega)
  obtain ⟨F, hF⟩ : ∃ F, F = frame bs := ⟨_, rfl⟩
  rw [← hF] at cF cG hfl huf
  have hFl : 5 ≤ F.length ∧ F.length ≤ 5100 := by have := Lib.uvarint_pos bs.length; omega
  have hFF : (F != F) = false := by simp
  clear hfl hul
  have hGne : frs ((F ++ F) ++ ms) ≠ [] := by
    have h1 := unf_frame bs (F ++ ms) (by omega)
    rw [← hF, ← List.append_assoc] at h1
    unfold frs
    rw [frsN, h1]
    simp
  clear hF
  obtain ⟨M, hM⟩ : ∃ M, M = F ++ ms := ⟨_, rfl⟩
  have hMl : M.length ≤ 10100 := by rw [hM, List.length_append]; omega
  rw [← hM] at huf
  replace hM := Lib.hid hM
  obtain ⟨FF, hFd⟩ : ∃ FF, FF = F ++ F := ⟨_, rfl⟩
  have hFFl : FF.length ≤ 10200 ∧ 5 ≤ FF.length := by rw [hFd, List.length_append]; omega
  obtain ⟨G, hGd⟩ : ∃ G, G = FF ++ ms := ⟨_, rfl⟩
  rw [← hFd, ← hGd] at hGne
  have hGl : G.length ≤ 15200 ∧ 5 ≤ G.length := by rw [hGd, List.length_append]; omega
  replace hGd := Lib.hid hGd
  replace hFd := Lib.hid hFd
  obtain ⟨pm, km, xm, hun⟩ : ∃ p k x, unf ms = (p, k, x) := ⟨_, _, _, rfl⟩
  have hpp : (pm != pm) = false := by simp
  have hbb : (bs != bs) = false := by simp
  have hxm : 0 ≤ xm ∧ xm ≤ 31 := by
    rcases unf_cases ms with ⟨_, hu⟩ | ⟨q, f, k', _, ⟨_, hu⟩ | ⟨_, hu⟩⟩ <;> (rw [hu] at hun; simp only [Prod.mk.injEq] at hun; omega)
  have hwx : IntKind.i64.wrap xm = xm := IntWalk.i64_in _ (by omega)
  refine callsIn_of_wp_marks Try.func10 rfl trivial ?_ rfl
  simp only [Try.ntmps10, List.size_toArray, List.length_cons, List.length_nil, Nat.reduceAdd, Nat.reduceSub, Array.replicate_succ, Array.replicate_zero, List.push_toArray, List.append_toArray, List.nil_append, List.cons_append]
  gi_wp2_with (first
    | (refine ⟨trivial, ?_⟩; gi_at_call 50; refine (callsIn_wide.2 (crcAwake _)).mono ?_; rintro e w1 ⟨rfl, hg1⟩)
    | (refine ⟨trivial, ?_⟩; gi_at_call 51; refine (callsIn_wide.2 (crcNew_any w1)).mono ?_; rintro e w2 ⟨t, rfl, ht, hT2, hg2⟩; replace hT2 : Tbl w2 t false := hT2; have hgw : w.grownBy w2 none := ((World.grownBy_alloc w _ none).trans hg1).trans hg2; have hBx : Boxed w2 w.heap.size 4 (.bool false) := ((Boxed.new w 4 (.bool false)).kept hg1 (by simp)).kept hg2 (by simp); have hb2 := gbelow hgw (Nat.le_refl w.heap.size) (by simp); have htw2 : w.heap.size < t := (by have := hg1.size; simp at this; omega); have htw : w.heap.size ≤ t := Nat.le_of_lt htw2)
    | (refine ⟨trivial, ?_⟩; gi_at_call 59; refine (callsIn_wide.2 (cF _ w2 hT2 hb2 htw)).mono ?_; rintro e w3 ⟨v3, rfl, ho3, hg3, hT3⟩; have hb3 := hb2.trans (gbelow hg3 hb2.size (by simpa using htw)); obtain ⟨a3, c3, rfl⟩ := ho3.reads.form)
    | (refine ⟨trivial, ?_⟩; gi_at_call 60; refine (callsIn_wide.2 (cG w3 hb3)).mono ?_; rintro e w4 ⟨v4, rfl, ho4, hg4⟩; have hb4 := hb3.trans (gbelow hg4 hb3.size (by simp)); obtain ⟨a4, c4, rfl⟩ := ho4.reads.form; have q4 := conv_of ho4.reads; have q3 := conv_of (ho3.new hg4).reads)
    | (gi_at_builtin; refine wpListIn_append_bytes w4 rfl (.const (.slice none 0 0)) _ 23 rfl w4.heap.size 5 i0 Try.underlying23 hi hz0 hz1 hz2 _ [] rfl (owns_nil _ _ _) _ F rfl ((ho3.new hg4).reads) (by simp; omega) (Nat.le_refl _) ?_; intro v5 w5 ho5 hg5; replace hg5 : w4.grownBy w5 none := hg5; rw [List.nil_append] at ho5; have hb5 := hb4.trans (gbelow hg5 hb4.size (by simp)))
    | (gi_at_builtin; refine wpListIn_append_bytes w5 rfl _ _ 23 rfl w4.heap.size 5 i0 Try.underlying23 hi hz0 hz1 hz2 v5 F rfl ho5 _ ms rfl (hr2.all hb5) (by omega) hg5.size ?_; intro v6 w6 ho6 hg6; rw [← hM.out] at ho6; have hg46 := gnew hg5 hg6 (fun r e => .inl (ho5.lt r e).1); have hb6 := hb4.trans (gbelow hg46 hb4.size (by simp)); obtain ⟨a6, c6, rfl⟩ := ho6.reads.form; have hT6 := (hT3.new hg4).new hg46; have ho36 := (ho3.new hg4).new hg46; have htl := hT2.lt; have cU := Unframe_any t _ a6 _ c6 M bs F.length 0 w6 hT6 ho6.reads (ho6.off (by have := hg3.size; have := hg4.size; omega)) (by omega) huf)
    | (refine ⟨trivial, ?_⟩; gi_at_call 61; refine (callsIn_wide.2 cU).mono ?_; clear cU; rintro e w7 ⟨v7, rfl, ho7, hg7, hT7⟩; have hb7 := hb6.trans (gbelow hg7 hb6.size (by simpa using htw)); obtain ⟨a7, c7, rfl⟩ := ho7.reads.form; have ho37 := ho36.kept hg7 (ho36.apartT htl); have q7 := conv_of ho7.reads; have q8 := conv_of (hr.all hb7); have cV := Unframe_any t _ a2 _ c2 ms pm km xm w7 hT7 (hr2.all hb7) (hr2.offNew htw) (by omega) hun)
    | (refine ⟨trivial, ?_⟩; gi_at_call 61; refine (callsIn_wide.2 cV).mono ?_; clear cV; rintro e w8 ⟨v8, rfl, ho8, hg8, hT8⟩; have hb8 := hb7.trans (gbelow hg8 hb7.size (by simpa using htw)); obtain ⟨a8, c8, rfl⟩ := ho8.reads.form; have ho38 := ho37.kept hg8 (ho37.apartT htl))
    | (refine ⟨trivial, ?_⟩; gi_at_call 62; refine (callsIn_wide.2 (refUnframe_any a2 _ c2 ms pm km xm w8 (hr2.all hb8) hun)).mono ?_; rintro e w9 ⟨v9, rfl, ho9, hg9⟩; have hb9 := hb8.trans (gbelow hg9 hb8.size (by simp)); obtain ⟨a9, c9, rfl⟩ := ho9.reads.form; have q9 := conv_of ho9.reads; have q10 := conv_of (ho8.new hg9).reads; have hT9 := hT8.new hg9; have ho39 := ho38.new hg9)
    | (gi_at_builtin; refine wpListIn_append_bytes w9 rfl (.const (.slice none 0 0)) _ 23 rfl w9.heap.size 5 i0 Try.underlying23 hi hz0 hz1 hz2 _ [] rfl (owns_nil _ _ _) _ F rfl ho39.reads (by simp; omega) (Nat.le_refl _) ?_; intro v10 w10 hoA hgA; replace hgA : w9.grownBy w10 none := hgA; rw [List.nil_append] at hoA; have ho310 := ho39.new hgA)
    | (gi_at_builtin; refine wpListIn_append_bytes w10 rfl _ _ 23 rfl w9.heap.size 5 i0 Try.underlying23 hi hz0 hz1 hz2 v10 F rfl hoA _ F rfl ho310.reads (by omega) hgA.size ?_; intro v11 w11 hoB hgB; rw [← hFd.out] at hoB; replace hgB := gnew hgA hgB (fun r e => .inl (hoA.lt r e).1); have hbB := hb9.trans (gbelow hgB hb9.size (by simp)))
    | (gi_at_builtin; refine wpListIn_append_bytes w11 rfl _ _ 23 rfl w9.heap.size 5 i0 Try.underlying23 hi hz0 hz1 hz2 v11 FF rfl hoB _ ms rfl (hr2.all hbB) (by omega) hgB.size ?_; intro v12 w12 hoC hgC; rw [← hGd.out] at hoC; replace hgC := gnew hgB hgC (fun r e => .inl (hoB.lt r e).1); have hbC := hb9.trans (gbelow hgC hb9.size (by simp)); have hTC := hT9.new hgC; obtain ⟨a12, c12, rfl⟩ := hoC.reads.form))
  have hbx : ∀ {A : World}, w2.grownBy A (some t) → Boxed A w.heap.size 4 (.bool false) := fun h => hBx.kept h (by simp; omega)
  refine ⟨trivial, ?_⟩
  refine (callsIn_wide.2 (refEach_any a12 _ c12 G w12 hoC.reads (by omega))).mono ?_
  rintro e w13 ⟨va, vo, rfl, hPl, hOl, hg13⟩
  obtain ⟨aP, cP, rfl⟩ := row_form hPl
  obtain ⟨vs, hvs, hVo, hVall⟩ := hOl
  rw [List.length_map] at hvs
  have hVo' := hVo
  rw [hvs] at hVo'
  obtain ⟨aW, cW, rfl⟩ := row_form hVo'
  have hR13 := hoC.reads.new hg13
  have hT13 := hTC.new hg13
  have hb13 := hbC.trans (gbelow hg13 hbC.size (by simp))
  clear cF cG huf hun hpp hbb hFF hxm hwx q3 q4 q7 q8 q9 q10
  have B0A := (Boxed.new w13 85 (.slice none 0 0)).alloc (.cells #[.slice none 0 0] 47)
  have B0W : Boxed ((w13.alloc (.cells #[.slice none 0 0] 85)).alloc (.cells #[.slice none 0 0] 47)) (w13.heap.size + 1) 47 (.slice none 0 0) := by
    have := Boxed.new (w13.alloc (.cells #[.slice none 0 0] 85)) 47 (.slice none 0 0)
    rwa [World.size_alloc] at this
  have k1 := B0A.cell
  have k2 := B0A.frozen
  have B1W := B0W.other (B' := w13.heap.size) (by omega) (.slice aP (frs G).length cP)
  have k3 := B1W.cell
  have k4 := B1W.frozen
  obtain ⟨X, hX⟩ : ∃ X, X = (w13.alloc (.cells #[.slice aP (frs G).length cP] 85)).alloc (.cells #[.slice aW (frs G).length cW] 47) := ⟨_, rfl⟩
  have B2A : Boxed X w13.heap.size 85 (.slice aP (frs G).length cP) := by rw [hX]; exact (Boxed.new w13 _ _).alloc _
  have B2W : Boxed X (w13.heap.size + 1) 47 (.slice aW (frs G).length cW) := by
    rw [hX]
    have := Boxed.new (w13.alloc (.cells #[.slice aP (frs G).length cP] 85)) 47 (.slice aW (frs G).length cW)
    rwa [World.size_alloc] at this
  have gX : w13.grownBy X none := by rw [hX]; exact galloc (World.grownBy_alloc w13 _ none) _
  gi_wp2_with fail
  rw [← hX]
  clear B0A B0W B1W k1 k2 k3 k4 hX
  have hRX := hR13.new gX
  have hTX := hT13.new gX
  have hbX := hb13.trans (gbelow gX hb13.size (by simp))
  have htX : t < X.heap.size := hTX.lt
  have ht9 : t < w9.heap.size := hT9.lt
  have hg12s := hgC.size
  have hg13s := hg13.size
  have hgXs := gX.size
  have hBX : Boxed X w.heap.size 4 (.bool false) := by
    refine hBx.kept (row := some t) ?_ (by simp; omega)
    exact gnew (gnew (gnew (gnew (gnew (gnew (gnew (gnew hg3 hg4 (by simp)) hg46 (by simp)) hg7 (fun r e => .inr e)) hg8 (fun r e => .inr e)) hg9 (by simp)) hgC (by simp)) hg13 (by simp)) gX (by simp)
  have hws : w.heap.size < w2.heap.size := hBx.lt
  have hPX := World.ownsRow.kept hPl gX ob_new
  have hVX := World.ownsRow.kept hVo gX ob_new
  have hVaX : ∀ (i : Nat) (x : Value) (f : List UInt8), vs[i]? = some x → ((frs G).map (·.2))[i]? = some f → Owns X w12.heap.size 5 x f := fun i y f hy hf => (hVall i y f hy hf).kept gX ob_new
  have cE := Each_any t _ a12 _ c12 G X hTX hRX (.inr fun e => by have := (hoC.lt t e).1; omega) (by omega) (by omega)
  obtain ⟨g, hgb, hg9', hgl⟩ : ∃ g, (Value.slice a12 G.length c12).ownBlock = some g ∧ w9.heap.size ≤ g ∧ g < w12.heap.size := by
    obtain ⟨_, ⟨h1, hn⟩ | ⟨g, cap, cu, h1, hB, hgg, _⟩⟩ := hoC
    · have := hGl.2; omega
    · exact ⟨g, by rw [h1]; rfl, hB, (Array.getElem?_eq_some_iff.1 hgg).1⟩
  clear hPl hVo hVall hVo' hBx hg3 hg4 hg46 hg5 hg6 hg7 hg8 hg9 hgA hgB hgC hg13 gX hoA hoB hoC ho3 ho4 ho5 ho6 ho7 ho8 ho9 ho36 ho37 ho38 ho39 ho310 hT2 hT3 hT6 hT7 hT8 hT9 hTC hT13 hb2 hb3 hb4 hb5 hb6 hb7 hb8 hb9 hbB hbC hb13 hR13 hbx
  refine ⟨trivial, ?_⟩
  refine (callsIn_wide.2 cE).mono ?_
  rintro e w14 ⟨q, a14, c14, rfl, hE, hq1, hq2, ho14, hg14⟩
  have hnf := neq_nilFunc2
  have hpos : w.heap.size < X.heap.size := by omega
  have hb14 := hbX.trans (gbelow hg14 hbX.size (by simpa using htw))
  have hB14 := hBX.kept hg14 (by simp; omega)
  have hA14 := B2A.kept hg14 (by simp; omega)
  have hW14 := B2W.kept hg14 (by simp; omega)
  have hP14 := World.ownsRow.kept hPX hg14 (.inr fun e => by have := World.ownsRow.lt hPX t e; omega)
  have hV14 := World.ownsRow.kept hVX hg14 (.inr fun e => by have := World.ownsRow.lt hVX t e; omega)
  have hVa14 : ∀ (i : Nat) (x : Value) (f : List UInt8), vs[i]? = some x → ((frs G).map (·.2))[i]? = some f → Owns w14 w12.heap.size 5 x f := fun i y f hy hf => (hVaX i y f hy hf).kept hg14 (.inr fun e => by have := (hVaX i y f hy hf).lt t e; omega)
  have hs14 := hg14.size
  clear hBX B2A B2W hPX hVX hVaX hbX hRX hTX hg14
  gi_wp2_with fail
  have hTell := each2_tells 4 X.heap.size q t g w14.heap.size g a14 c14 G w14 hE (by omega) (by omega) (by omega) (fun _ k e => by have := ho14.lt k e; omega) (by omega) (by have := ho14.reads.slice; omega)
  refine range_tells (a := _) (w := w14) (α := Told) rfl (by omega) (gf := 97) (lb := #[.pointer (some ⟨X.heap.size, 0, none⟩), .pointer (some ⟨q, 0, none⟩)]) rfl trivial (enters_of Try.func97 (by kernel_rfl) rfl)
    hTell (by omega) (fun _ => rfl) (tOk_kept G) (fun pre W => pre = [] ∧ KeptX w14.heap.size g w14 W ∧ Below w.heap.size w W) (fun c _ W => c = .exit 0 ∧ KeptX w14.heap.size g w14 W ∧ Below w.heap.size w W)
    (fun s A B k h hg hk => ⟨h.1, h.2.1.trans (KeptX.grown hg h.2.1.1 hk), h.2.2.trans (gbelow hg h.2.2.size (fun r e => by cases e; omega))⟩) (fun c s A B k h hg hk => ⟨h.1, h.2.1.trans (KeptX.grown hg h.2.1.1 hk), h.2.2.trans (gbelow hg h.2.2.size (fun r e => by cases e; omega))⟩) ⟨rfl, KeptX.refl _, hb14⟩ ?a1 ?assign ?body ?done ?stop
  case assign =>
    intro l x W K hK
    gi_wp2
    exact hK
  case body =>
    intro l pre x W hI _ _
    gi_wp2
    exact ⟨KeepsOthers.refl _, KeptX.refl _, rfl, hI.2⟩
  case done =>
    intro D xs W W' hD hS hI
    exact absurd (by have := hS; unfold tAll at this; rw [hI.1] at this; simpa using this.symm) hGne
  case stop =>
    rintro D c pre W W15 hD _ ⟨rfl, hk, hb15⟩ hW hdef
    have hs15 := hk.1
    have hE15 := hE.keptX hk (by omega) (by omega) (by omega) (fun _ k e => by have := ho14.lt k e; omega)
    have hB15 : Boxed W15 w.heap.size 4 (.bool false) := (hk.2 _ (by omega) (by omega)).trans hB14
    have hA15 : Boxed W15 w13.heap.size 85 (.slice aP (frs G).length cP) := (hk.2 _ (by omega) (by omega)).trans hA14
    have hW15 : Boxed W15 (w13.heap.size + 1) 47 (.slice aW (frs G).length cW) := (hk.2 _ hW14.lt (by omega)).trans hW14
    have hP15 := row_heap (B := W15) hP14 (fun k e => hk.2 k (World.ownsRow.lt hP14 k e).2 (by have := (World.ownsRow.lt hP14 k e).1; omega))
    have hV15 := row_heap (B := W15) hV14 (fun k e => hk.2 k (World.ownsRow.lt hV14 k e).2 (by have := (World.ownsRow.lt hV14 k e).1; omega))
    have hVa15 : ∀ (i : Nat) (x : Value) (f : List UInt8), vs[i]? = some x → ((frs G).map (·.2))[i]? = some f → Owns W15 w12.heap.size 5 x f := fun i y f hy hf =>
      row_heap (B := W15) (hVa14 i y f hy hf) (fun k e => hk.2 k (World.ownsRow.lt (hVa14 i y f hy hf) k e).2 (by have := (World.ownsRow.lt (hVa14 i y f hy hf) k e).1; omega))
    have hDl := lt_of_block hdef
    have ho15 : ∀ k, (Value.slice a14 G.length c14).ownBlock = some k → k < w14.heap.size ∧ k ≠ g := fun k e => by have := ho14.lt k e; omega
    have hq15 : q < w14.heap.size := hq2
    clear hE hB14 hA14 hW14 hP14 hV14 hVa14 hk hW hTell ho14 hq2
    obtain ⟨W16, hW16'⟩ : ∃ W16, W16 = W15.alloc (.cells #[.int .i64 0] 3) := ⟨_, rfl⟩
    have hBi : Boxed W16 W15.heap.size 3 (.int .i64 0) := by rw [hW16']; exact Boxed.new W15 _ _
    have g16 : W15.grownBy W16 none := by rw [hW16']; exact World.grownBy_alloc W15 _ none
    have hsi := hBi.lt
    have hE16 := hE15.new g16
    have hB16 := hB15.kept g16 (by simp)
    have hA16 := hA15.kept g16 (by simp)
    have hWa16 := hW15.kept g16 (by simp)
    have hP16 := World.ownsRow.kept hP15 g16 ob_new
    have hV16 := World.ownsRow.kept hV15 g16 ob_new
    have hVa16 : ∀ (i : Nat) (x : Value) (f : List UInt8), vs[i]? = some x → ((frs G).map (·.2))[i]? = some f → Owns W16 w12.heap.size 5 x f := fun i y f hy hf => (hVa15 i y f hy hf).kept g16 ob_new
    have hb16 := hb15.trans (gbelow g16 hb15.size (by simp))
    have hD16 : W16.heap[D]? = some (.deferred (some [])) := (g16.block D hDl (by simp)).trans hdef
    have hfl : (frs G).length ≤ 15201 := Nat.le_trans (frsN_len _ _ _) (by omega)
    have hw13 : w13.heap.size + 1 < W15.heap.size := hW15.lt
    gi_wp2_with fail
    rw [← hW16']
    clear hB15 hA15 hW15 hdef hW16' hE15
    have hTell2 := each2_tells 4 X.heap.size q t g W16.heap.size W15.heap.size a14 c14 G W16 hE16 (by omega) (by omega) (by omega) (fun _ k e => by have := ho15 k e; omega) (by omega) (by have := hE16.2.2.1.slice; omega)
    refine range_tells (a := _) (w := W16) (α := Told) rfl (by omega) (gf := 97) (lb := #[.pointer (some ⟨X.heap.size, 0, none⟩), .pointer (some ⟨q, 0, none⟩)]) rfl trivial (enters_of Try.func97 (by kernel_rfl) rfl)
      hTell2 (by omega) (fun _ => rfl) (tOk_kept G) (fun pre W => Boxed W W15.heap.size 3 (.int .i64 (pre.length : Int)) ∧ Kept2 W16.heap.size g W15.heap.size W16 W ∧ Below w.heap.size w W) (fun _ _ _ => False)
      (fun s A B k h hg hk => ⟨h.1.kept hg (by simp; omega), ⟨Nat.le_trans h.2.1.1 hg.size, fun i h1 h2 h3 => (hg.block i (Nat.lt_of_lt_of_le h1 h.2.1.1) (by simp; omega)).trans (h.2.1.2 i h1 h2 h3)⟩, h.2.2.trans (gbelow hg h.2.2.size (fun r e => by cases e; omega))⟩) (fun c s A B k h _ _ => h.elim) ⟨hBi, ⟨Nat.le_refl _, fun _ _ _ _ => rfl⟩, hb16⟩ ?a2 ?assign2 ?body2 ?done2 ?stop2
    case assign2 =>
      intro l x W K hK
      dsimp only [tEnc]
      gi_wp2
      exact hK
    case body2 =>
      rintro l pre ⟨xn, xb, xv⟩ W ⟨hBw, hK2, hbw⟩ ⟨hRx, hget⟩ hsz
      dsimp only at hRx hget
      have hAb : Boxed W w13.heap.size 85 (.slice aP (frs G).length cP) := (hK2.2 _ (by omega) (by omega) (by omega)).trans hA16
      have hWb : Boxed W (w13.heap.size + 1) 47 (.slice aW (frs G).length cW) := (hK2.2 _ (by omega) (by omega) (by omega)).trans hWa16
      have hlt : pre.length < (frs G).length := (List.getElem?_eq_some_iff.1 hget).1
      have same : ∀ k, w12.heap.size ≤ k → k < W15.heap.size → W.heap[k]? = W16.heap[k]? := fun k h1 h2 => hK2.2 k (by omega) (by omega) (by omega)
      have hPb := row_heap (B := W) hP16 (fun k e => same k (World.ownsRow.lt hP15 k e).1 (World.ownsRow.lt hP15 k e).2)
      have hVb := row_heap (B := W) hV16 (fun k e => same k (World.ownsRow.lt hV15 k e).1 (World.ownsRow.lt hV15 k e).2)
      have hPr := row_of_owns (vs := (frs G).map fun x => Value.int .i64 (x.1 : Int)) (by rw [List.length_map]; exact hPb)
      have hVr := row_of_owns (vs := vs) hVb
      obtain ⟨y, hy⟩ : ∃ y, vs[pre.length]? = some y := ⟨vs[pre.length]'(by omega), List.getElem?_eq_getElem (by omega)⟩
      have hyg : ((frs G).map (·.2))[pre.length]? = some xb := by rw [List.getElem?_map, hget]; rfl
      have hyo := row_heap (B := W) (hVa16 pre.length y xb hy hyg) (fun k e => same k (World.ownsRow.lt (hVa15 pre.length y xb hy hyg) k e).1 (World.ownsRow.lt (hVa15 pre.length y xb hy hyg) k e).2)
      replace hyo : Owns W w12.heap.size 5 y xb := hyo
      obtain ⟨bP, oP, kP, eP, hcP⟩ := row_cell hPr (i := pre.length) (u := .int .i64 (xn : Int)) (by rw [List.getElem?_map, hget]; rfl)
      obtain ⟨bW, oW, kW, eW, hcW⟩ := row_cell hVr hy
      rw [List.length_map] at eP
      simp only [Value.slice.injEq, true_and] at eP
      obtain ⟨rfl, rfl⟩ := eP
      simp only [Value.slice.injEq] at eW
      obtain ⟨rfl, -, rfl⟩ := eW
      obtain ⟨ay, cy, rfl⟩ := hyo.reads.form
      obtain ⟨ax, cx, rfl⟩ := hRx.form
      have qx := fun n => conv_of (hRx.new (gdrewN (World.grownBy.refl W none) n))
      have qy := fun n => conv_of (hyo.reads.new (gdrewN (World.grownBy.refl W none) n))
      have hxx : (xb != xb) = false := by simp
      have r1 := hAb.cell
      have r2 := hWb.cell
      have r3 := hBw.cell
      have r4 := hBw.frozen
      have hge : decide (((frs G).length : Int) ≤ (pre.length : Int)) = false := by simp; omega
      have hge2 : decide ((frs G).length ≤ pre.length) = false := by simp; omega
      have hltI : (pre.length : Int) < ((frs G).length : Int) := by omega
      obtain ⟨m, hm⟩ : ∃ m : Nat, m = pre.length + 1 := ⟨_, rfl⟩
      have hwp : IntKind.i64.wrap ((pre.length : Int) + 1) = (m : Int) := by
        rw [hm]
        exact IntWalk.i64_in _ (by omega)
      replace hm := Lib.hid hm
      have hBw' := Lib.hid hBw
      have hK2' := Lib.hid hK2
      have hbw' := Lib.hid hbw
      clear hBw hK2 hbw same hP15 hV15 hVa15 hP16 hV16 hVa16 hb14 hb15 hb16 hTell2 hE16 hA16 hWa16 hB16
      generalize hN : (frs G).length = N at *
      replace hN := Lib.hid hN
      clear hPb hVb hPr hVr hyo hyg hy hget hRx hAb hWb
      gi_wp2_with fail
      refine wpIn_region_quiet_r (by kernel_rfl) (by kernel_rfl) (by kernel_rfl) ?_
      repeat (gi_big_quiet_step (fail))
      refine wpQuietIn_nil ?_
      intro _ hw'
      obtain ⟨nq, hw''⟩ := hw'
      subst hw''
      have gd : W.grownBy (W.drewN nq) (some W15.heap.size) := gdrewN (World.grownBy.refl W _) nq
      have gs := gset gd 0 (.int .i64 (m : Int))
      have hset : Boxed ((W.drewN nq).setCell ⟨W15.heap.size, 0, none⟩ (.int .i64 (m : Int))) W15.heap.size 3 (.int .i64 (m : Int)) := Boxed.set (W := W.drewN nq) _ hBw'.out
      have hko : KeepsOthers W ((W.drewN nq).setCell ⟨W15.heap.size, 0, none⟩ (.int .i64 (m : Int))) := KeepsOthers.trans (B := W.drewN nq) ⟨Nat.le_refl _, fun _ _ h _ => h⟩ (KeepsOthers.setCell (W.drewN nq) _ _)
      replace gs := Lib.hid gs
      replace hset := Lib.hid hset
      replace hko := Lib.hid hko
      clear gd
      gi_wp2_with fail
      refine ⟨hko.out, KeptX.grown gs.out hsz (.inl rfl), ?_, ⟨Nat.le_trans hK2'.out.1 gs.out.size, fun i h1 h2 h3 => (gs.out.block i (by omega) (by simp; omega)).trans (hK2'.out.2 i h1 h2 h3)⟩, hbw'.out.trans (gbelow gs.out hbw'.out.size (by simp; omega))⟩
      have e : (((pre ++ [(xn, xb, Value.slice ax xb.length cx)]).length : Nat) : Int) = (m : Int) := by
        rw [List.length_append, hm.out]; rfl
      rw [e]
      exact hset.out
    case stop2 =>
      rintro D2 c pre W W' _ _ h _
      exact h.elim
    case done2 =>
      rintro D2 xs W W17 hD2 hS ⟨hBi17, hK17, hb17⟩ hg17 hM2
      have hxl : xs.length = (frs G).length := by have := congrArg List.length hS; simpa using this
      rw [hxl] at hBi17
      have hW17 : Boxed W17 (w13.heap.size + 1) 47 (.slice aW (frs G).length cW) := (hK17.2 _ (by omega) (by omega) (by omega)).trans hWa16
      have hB17 : Boxed W17 w.heap.size 4 (.bool false) := (hK17.2 _ (by omega) (by omega) (by omega)).trans hB16
      have hM1 : W17.heap[D]? = some (.deferred (some [])) := (hK17.2 D (by omega) (by omega) (by omega)).trans hD16
      generalize hN : (frs G).length = N at *
      replace hN := Lib.hid hN
      have r1 := hBi17.cell
      have r2 := hW17.cell
      have r3 := hB17.cell
      have r4 := hB17.frozen
      have hDD : D ≠ D2 := by omega
      have hwD : w.heap.size ≠ D := by omega
      have hwD2 : w.heap.size ≠ D2 := by omega
      have hbr := hb17.setCell (p := ⟨w.heap.size, 0, none⟩) (Nat.le_refl _) (.bool true)
      have hBr := hB17.set (.bool true)
      have x2 := (KeepsOthers.setCell W17 ⟨w.heap.size, 0, none⟩ (.bool true)).same D2 _ hM2 rfl
      have x1 := (KeepsOthers.setCell W17 ⟨w.heap.size, 0, none⟩ (.bool true)).same D _ hM1 rfl
      replace hbr := Lib.hid hbr
      replace hBr := Lib.hid hBr
      replace x1 := Lib.hid x1
      replace x2 := Lib.hid x2
      clear hBi17 hW17 hB17 hM1 hM2 hK17 hb17 hg17 hP15 hV15 hVa15 hP16 hV16 hVa16 hb14 hb15 hb16 hTell2 hE16 hA16 hWa16 hB16 hS
      gi_wp2_with fail
      replace hbr := hbr.out
      replace hBr := hBr.out
      replace x1 := x1.out
      replace x2 := x2.out
      generalize W17.setCell ⟨w.heap.size, 0, none⟩ (.bool true) = W18 at x1 x2 hBr hbr ⊢
      refine ⟨by simp, .inl ⟨_, _, rfl, run_takeDeferred x2, ?_⟩⟩
      have x3 : (W18.putObj D2 (.deferred none)).heap[D]? = some (.deferred (some [])) := (World.putObj_heap_other hDD).trans x1
      refine ⟨by simp, .inl ⟨_, _, rfl, run_takeDeferred x3, ?_⟩⟩
      have hB19 : Boxed ((W18.putObj D2 (.deferred none)).putObj D (.deferred none)) w.heap.size 4 (.bool true) := (World.putObj_heap_other hwD).trans ((World.putObj_heap_other hwD2).trans hBr)
      have hb19 : Below w.heap.size w ((W18.putObj D2 (.deferred none)).putObj D (.deferred none)) :=
        (hbr.trans (gbelow (grownBy_putObj' W18 D2 _) hbr.size (by simp; omega))).trans (gbelow (grownBy_putObj' _ D _) (by simpa [World.putObj] using hbr.size) (by simp; omega))
      have hc19 := hB19.cell
      clear hB19 hBr hbr x1 x2 x3
      generalize (W18.putObj D2 (.deferred none)).putObj D (.deferred none) = W19 at hc19 hb19 ⊢
      simp [LeavesInM, LeavesIn, results, Try.results10, go_sem, hc19]
      exact hb19

set_option maxHeartbeats 4000000 in
theorem frames_big (a : Option Addr) (l c : Nat) (a2 : Option Addr) (l2 c2 : Nat) (w : World) (hl : 5000 < l + l2) (h1 : l ≤ 140737488355328) (h2 : l2 ≤ 140737488355328) :
    CallsIn Fence.wide 8 Try.prog 10 #[.slice a l c, .slice a2 l2 c2] w fun e w' => e = .returned (.bool true) ∧ Below w.heap.size w w' := by
  refine callsIn_of_wp_marks Try.func10 rfl trivial ?_ rfl
  simp only [Try.ntmps10, List.size_toArray, List.length_cons, List.length_nil, Nat.reduceAdd, Nat.reduceSub, Array.replicate_succ, Array.replicate_zero, List.push_toArray, List.append_toArray, List.nil_append, List.cons_append]
  gi_wp2_with (refine ⟨trivial, ?_⟩; gi_at_call 50; refine (callsIn_wide.2 (crcAwake _)).mono ?_; rintro e w1 ⟨rfl, hg1⟩; have hBx : Boxed w1 w.heap.size 4 (.bool false) := (Boxed.new w 4 (.bool false)).kept hg1 (by simp); have rc := hBx.cell; have rf := hBx.frozen)
  have hBr := hBx.set (.bool true)
  have hbr := (gbelow ((World.grownBy_alloc w _ none).trans hg1) (Nat.le_refl w.heap.size) (by simp)).setCell (p := ⟨w.heap.size, 0, none⟩) (Nat.le_refl _) (.bool true)
  have hc11 := hBr.cell
  clear hBr hBx
  generalize w1.setCell ⟨w.heap.size, 0, none⟩ (.bool true) = W11 at hc11 hbr ⊢
  simp [bodyPostM, LeavesInM, LeavesIn, results, Try.results10, go_sem, hc11]
  exact hbr

theorem CrcFrames_walk (w : World) (a : Option Addr) (l c : Nat) (bs : List UInt8) (hr : Reads w (.slice a l c) bs) (ln : l ≤ 140737488351232) (a2 : Option Addr) (l2 c2 : Nat) (ms : List UInt8) (hr2 : Reads w (.slice a2 l2 c2) ms) (ln2 : l2 ≤ 140737488351232) :
    Calls Try.prog 10 #[.slice a l c, .slice a2 l2 c2] w fun e w' => e = .returned (.bool true) ∧ Below w.heap.size w w' := by
  have hs := hr.slice.1
  have hs2 := hr2.slice.1
  by_cases h : l + l2 ≤ 5000
  · exact callsIn_wide.1 (frames_law a l c bs a2 l2 c2 ms w hr hr2 (by omega))
  · exact callsIn_wide.1 (frames_big a l c a2 l2 c2 w (by omega) (by omega) (by omega))
end Go.Proofs.Ytilbccjgaaembaa
