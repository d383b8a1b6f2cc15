/-
  LAYER 6 (norm): what a stream is told of a list.
-/
import Derived.Test.YtpdacbiiaglodaaGreatQG31
namespace Go.Proofs.YtpdacbiiaglodaaGreat
set_option maxRecDepth 100000
open Go.RowKit Go.Lib

theorem isNone_any (r : Int) (w : World) : Calls Tryz.prog 73 #[.int .i32 r] w fun e w' => e = .returned (.bool (!scal r)) ∧ w = w' := by
  have hS := fun w => scal_utf.Scalar r w
  generalize scal r = b at hS ⊢
  go_enter Tryz.func73, Tryz.ntmps73
  go_wp2_with (go_at_call 68; refine (hS _).mono ?_; rintro e w' ⟨rfl, rfl⟩)
  go_ret
  exact ⟨rfl, rfl⟩

/-- Where the first number that is no scalar stands; none: -1. -/
def badIdx (l : List Int) : Int := match l.findIdx? fun r => !scal r with
  | some k => k
  | none => -1
theorem badIdx_of {l : List Int} {i : Nat} (h : ∀ j u, j < i → l[j]? = some u → scal u = true) {u : Int} (hu : l[i]? = some u) (hs : scal u = false) : badIdx l = i := by
  unfold badIdx
  have : l.findIdx? (fun r => !scal r) = some i := by
    rw [List.findIdx?_eq_some_iff_getElem]
    obtain ⟨hi, rfl⟩ := List.getElem?_eq_some_iff.1 hu
    refine ⟨hi, by simp [hs], fun j hj => ?_⟩
    have := h j _ hj (List.getElem?_eq_getElem (by omega))
    simp [this]
  rw [this]
theorem badIdx_none {l : List Int} (h : ∀ j u, j < l.length → l[j]? = some u → scal u = true) : badIdx l = -1 := by
  unfold badIdx
  have : l.findIdx? (fun r => !scal r) = none := by
    rw [List.findIdx?_eq_none_iff]
    intro x hx
    obtain ⟨j, hj, rfl⟩ := List.getElem_of_mem hx
    have := h j _ hj (List.getElem?_eq_getElem hj)
    simp [this]
  rw [this]

set_option maxHeartbeats 2000000 in
theorem indexFunc_any (v : Value) (l : List Int) (w : World) (h : RS w v l) (hlen : l.length < 1099511627776) :
    Calls Tryz.prog 110 #[v, .func (.func 73) #[] #[]] w fun e w' => e = .returned (.int .i64 (badIdx l)) ∧ w = w' := by
  obtain ⟨a, c, rfl, hc, hm, _, hcl⟩ := h
  have HCL := Lib.hid hcl
  obtain ⟨n, hn⟩ : ∃ n, n = l.length := ⟨_, rfl⟩
  rw [← hn] at hc hlen ⊢
  have HN := Lib.hid hn
  clear hn hcl
  go_enter Tryz.func110, Tryz.ntmps110
  go_wp2
  go_loopg [8] n (fun kx s8 wr => ∃ (i : Nat), s8 = .int .i64 (i : Int) ∧ i ≤ n ∧ n - i ≤ kx ∧ Hid (∀ j u, j < i → l[j]? = some u → scal u = true) ∧ w = wr)
  case atStart => exact ⟨0, rfl, Nat.zero_le _, Nat.le_refl _, fun j u hj => absurd hj (Nat.not_lt_zero _), rfl⟩
  case round =>
    obtain ⟨i, rfl, hin, hkx, HB, rfl⟩ := hrel
    by_cases hlt : i < n
    · have hltz : (i : Int) < (n : Int) := by omega
      obtain ⟨u, hu⟩ : ∃ u, l[i]? = some u := ⟨_, List.getElem?_eq_getElem (by have := HN.out; omega)⟩
      obtain ⟨b, off, rfl, hcc⟩ := HCL.out (by rintro rfl; simp at hu)
      have c0 := hcc i u hu
      have HU := Lib.hid hu
      have hI := fun w => isNone_any u w
      clear hcc hu
      cases hs : scal u with
      | true =>
        rw [hs] at hI
        have HB2 : Hid (∀ j u, j < i + 1 → l[j]? = some u → scal u = true) := fun j v hj hv => by
          by_cases e : j = i
          · subst e; rw [HU.out] at hv; cases hv; exact hs
          · exact HB.out j v (by omega) hv
        clear hs
        go_wp2_with (go_at_call 73; refine (hI _).mono ?_; rintro e w' ⟨rfl, rfl⟩)
        go_roundg (n - (i + 1))
        case measure => omega
        case rel => exact ⟨i + 1, by first | rfl | go_num, by omega, Nat.le_refl _, HB2, rfl⟩
      | false =>
        rw [hs] at hI
        have hbi := badIdx_of HB.out HU.out hs
        have HBI := Lib.hid hbi
        clear hs hbi
        go_wp2_with (go_at_call 73; refine (hI _).mono ?_; rintro e w' ⟨rfl, rfl⟩)
        go_ret
        exact ⟨by rw [HBI.out]; rfl, rfl⟩
    · obtain rfl : n = i := by omega
      have hbi : badIdx l = -1 := badIdx_none (fun j u hj => HB.out j u (by have := HN.out; omega))
      have HBI := Lib.hid hbi
      clear hbi
      go_wp2
      go_ret
      exact ⟨by rw [HBI.out]; rfl, rfl⟩
/-- All are scalars. -/
def allSc (l : List Int) : Bool := l.all scal
theorem containsFunc_any (v : Value) (l : List Int) (w : World) (h : RS w v l) (hlen : l.length < 1099511627776) :
    Calls Tryz.prog 72 #[v, .func (.func 73) #[] #[]] w fun e w' => e = .returned (.bool (!allSc l)) ∧ w = w' := by
  have hI := indexFunc_any v l w h hlen
  have hb : (decide (0 ≤ badIdx l)) = !allSc l := by
    unfold badIdx allSc
    cases hf : l.findIdx? (fun r => !scal r) with
    | none =>
      rw [List.findIdx?_eq_none_iff] at hf
      have : l.all scal = true := by rw [List.all_eq_true]; intro x hx; have := hf x hx; simpa using this
      rw [this]; rfl
    | some k =>
      rw [List.findIdx?_eq_some_iff_getElem] at hf
      obtain ⟨hk, h1, _⟩ := hf
      have : l.all scal = false := by
        rw [List.all_eq_false]
        exact ⟨_, List.getElem_mem hk, by simpa using h1⟩
      rw [this]
      simp
  obtain ⟨a, c, rfl, _⟩ := h
  rw [← hb]
  generalize badIdx l = z at hI
  clear hb
  go_enter Tryz.func72, Tryz.ntmps72
  go_wp2_with (go_at_call 110; refine hI.mono ?_; rintro e w' ⟨rfl, rfl⟩)
  go_ret
  exact ⟨by first | rfl | simp, rfl⟩

theorem OwnN.keptX {w w' : World} {B : Nat} {v : Value} {l : List Int} {P : Nat → Prop} (h : OwnN w B v l) (hg : GX P w w') (hne : ∀ k, v.ownBlock = some k → ¬ P k) : OwnN w' B v l := by
  have hl := h.lt
  obtain ⟨h0, h1 | ⟨g, cap, cur, rfl, hB, hgg, h2⟩⟩ := h
  · exact ⟨h0, .inl h1⟩
  · exact ⟨h0, .inr ⟨g, cap, cur, rfl, hB, (hg.block g (hl g rfl).2 (hne g rfl)).trans hgg, h2⟩⟩

theorem nd_pblk {p : Value} {cf : Int → Int} {df : Int → List Int} {F : Nat → Prop} {w : World} (h : ND p cf df F w) (k : Nat) (e : p = .pointer (some ⟨k, 0, none⟩)) : F k := by
  rcases h with ⟨rfl, _⟩ | ⟨n, c, d, dn, rfl, h, _⟩
  · cases e
  · cases e
    obtain ⟨_, _, _, _, _, _, _, h5, _⟩ := h
    exact h5

/-- Between the rounds of told. -/
def TInv (s : Nat) (p : Value) (cf : Int → Int) (df : Int → List Int) (F : Nat → Prop) (w : World) (A : List Int) (ov : Value) (W : World) : Prop :=
  ∃ hv' F', OwnN W w.heap.size ov (psh cf [] A).1 ∧ Strm W s p cf df F' hv' (psh cf [] A).2 ∧ (∀ k, F k → F' k) ∧ (∀ k, F' k → F k ∨ w.heap.size ≤ k) ∧ (∀ k, ov.ownBlock = some k → ¬ F' k ∧ hv'.ownBlock ≠ some k) ∧ (∀ k, hv'.ownBlock = some k → w.heap.size ≤ k) ∧ GX (fun k => p = .pointer (some ⟨k, 0, none⟩) ∨ k = s) w W

theorem TInv.next {s : Nat} {p : Value} {cf : Int → Int} {df : Int → List Int} {F : Nat → Prop} {w W W6 W7 : World} {A xs : List Int} {ov v7 hv1 hv2 : Value} {F1 F2 : Nat → Prop} {o f : List Int} {h1 : List Int} (hsw : s < w.heap.size)
    (o1 : OwnN W w.heap.size ov (psh cf [] A).1) (hF0 : ∀ k, F k → F1 k) (hF1 : ∀ k, F1 k → F k ∨ w.heap.size ≤ k) (hov : ∀ k, ov.ownBlock = some k → ¬ F1 k ∧ hv1.ownBlock ≠ some k) (hh1 : ∀ k, hv1.ownBlock = some k → w.heap.size ≤ k) (hG : GX (fun k => p = .pointer (some ⟨k, 0, none⟩) ∨ k = s) w W)
    (hps : psh cf (psh cf [] A).2 xs = (f, h1)) (ho : o = (psh cf [] A).1)
    (S2 : Strm W6 s p cf df F2 hv2 h1) (f1 : ∀ k, F1 k → F2 k) (f2 : ∀ k, F2 k → F1 k ∨ W.heap.size ≤ k) (b2 : ∀ k, hv2.ownBlock = some k → hv1.ownBlock = some k ∨ W.heap.size ≤ k) (g2 : GX (fun k => p = .pointer (some ⟨k, 0, none⟩) ∨ k = s ∨ hv1.ownBlock = some k) W W6)
    (a7 : OwnN W7 w.heap.size v7 (o ++ f)) (g7 : W6.grownBy W7 ov.ownBlock) (b7 : v7.ownBlock = ov.ownBlock ∨ ∃ k, v7.ownBlock = some k ∧ W6.heap.size ≤ k) : TInv s p cf df F w (A ++ xs) v7 W7 := by
  have hol := o1.lt
  have h2F := S2.nd.lt
  have h2l := S2.own.lt
  have hsz := hG.size
  have hsz2 := g2.size
  have hnF : ∀ k, ov.ownBlock = some k → ¬ F2 k := fun k e hf => by
    rcases f2 k hf with h | h
    · exact (hov k e).1 h
    · have := (hol k e).2; omega
  have hnh : ∀ k, ov.ownBlock = some k → hv2.ownBlock ≠ some k := fun k e e' => by
    rcases b2 k e' with h | h
    · exact (hov k e).2 h
    · have := (hol k e).2; omega
  have hpa : psh cf [] (A ++ xs) = (o ++ f, h1) := by rw [psh_append, hps, ho]
  refine ⟨hv2, F2, by rw [hpa]; exact a7, ?_, fun k h => f1 k (hF0 k h), fun k h => ?_, fun k e => ?_, fun k e => ?_, ?_⟩
  · rw [hpa]
    exact S2.grown g7 (fun e => by have := (hol s e).1; omega) (fun k e => hnF k e) (fun k e e' => hnh k e' e)
  · rcases f2 k h with h | h
    · exact hF1 k h
    · right; omega
  · rcases b7 with h | ⟨k', h, h'⟩
    · rw [h] at e; exact ⟨hnF k e, hnh k e⟩
    · rw [h] at e; cases e
      exact ⟨fun hf => by have := h2F _ hf; omega, fun e' => by have := (h2l _ e').2; omega⟩
  · rcases b2 k e with h | h
    · exact hh1 k h
    · omega
  · refine (hG.trans g2 (fun k hk => ?_)).step g7 (fun k e => .inr (hol k e).1)
    rcases hk with h | h | h
    · exact .inl (.inl h)
    · exact .inl (.inr h)
    · exact .inr (hh1 k h)

set_option maxHeartbeats 8000000 in
theorem told_any (s : Nat) (p v : Value) (cf : Int → Int) (df : Int → List Int) (F : Nat → Prop) (l : List Int) (w : World) (hS : Strm w s p cf df F (.slice none 0 0) []) (hR : RS w v l) (hsc : ∀ r ∈ l, scal r = true) (hv : l ≠ [] → ∀ k, v.ownBlock = some k → k ≠ s ∧ p ≠ .pointer (some ⟨k, 0, none⟩)) (hlen : l.length < 1099511627776) (hfl : (l.flatMap df).length < 549755813888) :
    Calls Tryz.prog 74 #[v, .func (.func 32) #[.pointer (some ⟨s, 0, none⟩)] #[]] w fun e w' => ∃ v', e = .returned v' ∧ TInv s p cf df F w (l.flatMap df) v' w' := by
  obtain ⟨i0, hi, hz0, hz1, hz2⟩ := infoRune_parts
  have HR := Lib.hid hR
  have HV := Lib.hid hv
  have HS := Lib.hid hS
  have HSC := Lib.hid hsc
  have hsw := hS.at_.lt
  have hFw := hS.nd.lt
  obtain ⟨a, c, rfl, hc, hm, _, _⟩ := hR
  obtain ⟨n, hn⟩ : ∃ n, n = l.length := ⟨_, rfl⟩
  rw [← hn] at hc hlen ⊢
  have HN := Lib.hid hn
  have HFL := Lib.hid hfl
  clear hn hv hS hsc hfl
  go_enter Tryz.func74, Tryz.ntmps74
  go_wp2_with (at_make; refine wpList_make_own _ rfl _ _ 50 rfl w.heap.size 21 i0 (.int .i32 0) 1 Tryz.underlying50 hi hz0 hz1 .i64 .i64 _ n rfl rfl (by simp) (by rw [hz2]; omega) (by unfold maxLen; omega) (Nat.le_refl _) ?_; intro w0 hown0 hg0)
  have T0 : Aside (TInv s p cf df F w ((l.take 0).flatMap df) (.slice (some ⟨w.heap.size, 0, none⟩) 0 n) w0) :=
    ⟨.slice none 0 0, F, hown0, HS.out.new hg0, fun _ h => h, fun _ h => .inl h, fun k e => ⟨fun hf => by have := hFw k hf; simp [Value.ownBlock] at e; omega, fun e' => by cases e'⟩, (fun k e => by cases e), GX.of hg0 (by simp)⟩
  clear hown0 hi hz0 hz1 hz2
  go_loopg [5, 15] n (fun kx s5 s15 wr => ∃ (i : Nat), s15 = .int .i64 (i : Int) ∧ i ≤ n ∧ n - i ≤ kx ∧ Aside (TInv s p cf df F w ((l.take i).flatMap df) s5 wr))
  case atStart => exact ⟨0, rfl, Nat.zero_le _, Nat.le_refl _, T0⟩
  case round =>
    clear T0
    obtain ⟨i, rfl, hin, hkx, hT⟩ := hrel
    by_cases hlt : i < n
    · have hltz : (i : Int) < (n : Int) := by omega
      obtain ⟨x, hx⟩ : ∃ x, l[i]? = some x := ⟨_, List.getElem?_eq_getElem (by have := HN.out; omega)⟩
      have ht : (l.take (i + 1)).flatMap df = (l.take i).flatMap df ++ df x := by rw [List.take_add_one, hx]; simp
      have HT := Lib.hid ht
      clear ht
      obtain ⟨hv1, F1, o1, S1, g1, g2, g3, g4, g5⟩ := hT.out
      have hxl := HSC.out x (List.mem_of_getElem? hx)
      have hlne : l ≠ [] := by rintro rfl; simp at hx
      obtain ⟨a', c', e', _, _, _, hcl⟩ := HR.out
      cases e'
      obtain ⟨b, off, rfl, hcc⟩ := hcl hlne
      have hbw := HR.out.lt hlne b rfl
      have hvb := HV.out hlne b rfl
      have c0 : wr.cell? ⟨b, off + i, none⟩ = some (.int .i32 x) := by
        rw [World.cell?_of_block (a := ⟨b, off + i, none⟩) (g5.block b hbw (fun hh => by rcases hh with h | h; exact hvb.2 h; exact hvb.1 h))]
        exact hcc i x hx
      have hdl : ((l.take i).flatMap df).length + (df x).length ≤ (l.flatMap df).length := by
        have := congrArg List.length HT.out
        rw [List.length_append] at this
        have h2 : ((l.take (i + 1)).flatMap df).length ≤ (l.flatMap df).length := by
          conv => rhs; rw [← List.take_append_drop (i + 1) l, List.flatMap_append, List.length_append]
          omega
        omega
      have hpl := psh_len cf ((l.take i).flatMap df) []
      have hfl := HFL.out
      obtain ⟨y, hy⟩ : ∃ y, psh cf (psh cf [] ((l.take i).flatMap df)).2 (df x) = y := ⟨_, rfl⟩
      have hpy := psh_len cf (df x) (psh cf [] ((l.take i).flatMap df)).2
      rw [hy] at hpy
      have hP := push_any s p cf df F1 hv1 _ x wr S1 hxl (by simp only [List.length_nil] at hpl; omega)
      rw [hy] at hP
      obtain ⟨f, h1⟩ := y
      dsimp only at hP hpy
      obtain ⟨ao, no, rfl⟩ := o1.form
      have hob : (psh cf [] ((l.take i).flatMap df)).1.length + f.length ≤ 1099511627776 := by simp only [List.length_nil] at hpl; omega
      have hwr := g5.size
      have HX := Lib.hid (And.intro o1 (And.intro g1 (And.intro g2 (And.intro g3 (And.intro g4 (And.intro g5 hy))))))
      have hpF := nd_pblk S1.nd
      have ho3 : ∀ w3, GX (fun k => p = .pointer (some ⟨k, 0, none⟩) ∨ k = s ∨ hv1.ownBlock = some k) wr w3 → OwnN w3 w.heap.size (.slice ao (psh cf [] ((l.take i).flatMap df)).1.length no) (psh cf [] ((l.take i).flatMap df)).1 := fun w3 hg => o1.keptX hg (fun k e hh => by
        rcases hh with h | h | h
        · exact (g3 k e).1 (hpF k h)
        · have := (o1.lt k e).1; omega
        · exact (g3 k e).2 h)
      obtain ⟨o, ho⟩ : ∃ o, o = (psh cf [] ((l.take i).flatMap df)).1 := ⟨_, rfl⟩
      rw [← ho] at hob ho3 ⊢
      have HO := Lib.hid ho
      clear hcc hcl hpl hpy hfl hdl hxl hx hT o1 S1 g1 g2 g3 g4 g5 hy ho hlne hvb hbw hpF
      go_wp2_with (first
        | (go_at_call 32; refine hP.mono ?_; rintro e w3 ⟨a3, n3, rfl, rfl, hr3, hv2, F2, S2, p1, p2, p3, p4⟩; have o3 := ho3 _ p4; have hsz3 := p4.size)
        | (at_builtin; refine wpList_append_rs _ rfl _ _ 50 rfl w.heap.size Tryz.underlying50 (.slice ao o.length no) o rfl o3 (.slice a3 f.length f.length) f rfl hr3.reads hob (by omega) ?_; intro v7 w7 ho7 hg7 hb7; obtain ⟨a7, m7, rfl⟩ := ho7.form))
      have T2 : Aside (TInv s p cf df F w ((l.take (i + 1)).flatMap df) (.slice a7 (o ++ f).length m7) w7) := by
        show TInv _ _ _ _ _ _ _ _ _
        rw [HT.out]
        obtain ⟨o1, g1, g2, g3, g4, g5, hy⟩ := HX.out
        exact TInv.next hsw o1 g1 g2 g3 g4 g5 hy HO.out S2 p1 p2 p3 p4 ho7 (by rw [← HO.out]; exact hg7) (by rw [← HO.out]; exact hb7)
      go_roundg (n - (i + 1))
      case measure => omega
      case rel => exact ⟨i + 1, by first | rfl | go_num, by omega, Nat.le_refl _, by have := T2; simp only [List.length_append] at this; exact this⟩
    · obtain rfl : n = i := by omega
      have hT2 := hT.out
      rw [HN.out, List.take_length] at hT2
      replace hT2 := Lib.hid hT2
      clear hT
      go_wp2
      go_ret
      exact ⟨_, rfl, hT2.out⟩

end Go.Proofs.YtpdacbiiaglodaaGreat
