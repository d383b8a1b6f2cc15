/-
  LAYER 2 (codec): CodecReader: the law walked.
-/
import Derived.Test.YtgkdbifnngidoaaCRdLaw
import Derived.Deep.QuietTactic
import Derived.BigQuiet
import Derived.Deep.CutBlock
namespace Go.Proofs.Ytgkdbifnngidoaa
set_option maxRecDepth 100000
open Go.RowKit Go.Lib

theorem quiet_eq {P : Program} {f : FuncId} {args : Array Value} {w : World} {n : Nat} {v : Value}
    (h : Calls P f args (w.drewN n) fun e w' => e = .returned v ∧ w.drewN n = w') : Calls P f args (w.drewN n) fun e w'' => e = .returned v ∧ ∃ m, w'' = w.drewN m :=
  h.mono fun _ _ ⟨he, hm⟩ => ⟨he, n, hm.symm⟩

/-- A row that is written over: n cells at the front of block g are there and may be written. -/
def Slate (g n : Nat) (w : World) : Prop := ∃ cur : Array Value, w.heap[g]? = some (.cells cur 5 (0, 0)) ∧ n ≤ cur.size
theorem Slate.cell {g n i : Nat} {w : World} (h : Slate g n w) (hi : i < n) : ∃ v, w.cell? ⟨g, i, none⟩ = some v := by
  obtain ⟨cur, h1, h2⟩ := h
  exact ⟨cur[i], by simp [World.cell?, h1, Array.getElem?_eq_getElem (show i < cur.size by omega)]⟩
theorem Slate.free {g n : Nat} {w : World} (h : Slate g n w) (i : Nat) : w.frozen? ⟨g, i, none⟩ = false := by
  obtain ⟨cur, h1, _⟩ := h
  simp [World.frozen?, h1]
theorem Slate.set {g n : Nat} {w : World} (h : Slate g n w) (i : Nat) (v : Value) : Slate g n (w.setCell ⟨g, i, none⟩ v) := by
  obtain ⟨cur, h1, h2⟩ := h
  exact ⟨cur.setIfInBounds i v, heap_setCell_same w g i _ _ v h1, by simpa using h2⟩
theorem Slate.of {w : World} {B : Nat} {a : Option Addr} {l c : Nat} {bs : List UInt8} (h : Owns w B 5 (.slice a l c) bs) (hne : bs ≠ []) : ∃ g, a = some ⟨g, 0, none⟩ ∧ B ≤ g ∧ Slate g bs.length w := by
  obtain ⟨_, ⟨h1, hn⟩ | ⟨g, cap, cur, h1, hB, hg, hn, hc, hs, ht⟩⟩ := h
  · exact absurd (List.length_eq_zero_iff.1 hn) hne
  · simp only [Value.slice.injEq] at h1
    obtain ⟨rfl, _, _⟩ := h1
    exact ⟨g, rfl, hB, cur, hg, by omega⟩
theorem Slate.new {g n : Nat} {w w' : World} (h : Slate g n w) (hg : w.grownBy w' none) : Slate g n w' := by
  obtain ⟨cur, h1, h2⟩ := h
  exact ⟨cur, (hg.block g (lt_of_block h1) (by simp)).trans h1, h2⟩

set_option maxHeartbeats 8000000 in
theorem rd_law (x : Option Addr) (l n : Nat) (bs : List UInt8) (y : Option Addr) (k m : Nat) (L : List (Int × Int)) (w : World) (hr : Reads w (.slice x l n) bs) (hp : Pairs w (.slice y k m) L) (hl : bs.length ≤ 5000) (hL : L.length ≤ 200) :
    Calls Try.prog 7 #[.slice x l n, .slice y k m] w fun e w' => e = .returned (.bool true) ∧ Below w.heap.size w w' := by
  obtain ⟨rfl, hc, hm⟩ := hr.slice
  obtain ⟨rfl, hc', hm'⟩ := hp.slice
  obtain ⟨i0, hi, hz0, hz1, hz2⟩ := info_parts infoU8
  go_enter Try.func7, Try.ntmps7
  go_wp2_with (first | (go_at_call 13; refine (awake_any _).mono ?_; rintro e w1 ⟨rfl, hg1⟩; have hs1 := hg1.size; have hr1 := hr.new hg1) | (at_builtin; refine wpList_append_bytes _ rfl (.const (.slice none 0 0)) _ 23 rfl w1.heap.size 5 i0 Try.underlying23 hi hz0 hz1 hz2 _ [] rfl (owns_nil _ _ _) _ bs rfl hr1 (by simp; omega) (Nat.le_refl _) ?_; intro v2 w2 ho2 hg2) | (go_at_call 34; obtain ⟨a2, c2, hv2⟩ := ho2.reads.form; rw [List.nil_append] at hv2 ho2; subst hv2; refine (New_any a2 _ c2 bs w2 ho2.reads (by omega)).mono ?_; rintro e w3 ⟨r, v3, rfl, hg3, hr3, hR3, ho3⟩))
  replace hg2 : w1.grownBy w2 none := hg2
  have hg13 : w.grownBy w3 none := (hg1.trans hg2).trans hg3
  have hS0 : ∀ h : bs ≠ [], ∃ g, a2 = some ⟨g, 0, none⟩ ∧ w.heap.size ≤ g ∧ g < w2.heap.size ∧ Slate g bs.length w3 := by
    intro h
    obtain ⟨g, h1, h2, h3⟩ := Slate.of ho2 h
    refine ⟨g, h1, by omega, ?_, h3.new hg3⟩
    obtain ⟨cur, h4, _⟩ := h3
    exact lt_of_block h4
  have hs2 := hg2.size
  have hs3 := hg3.size
  have hrd3 := ho3.reads
  have hv3 : bs = [] ∨ ∀ b, v3.ownBlock = some b → w2.heap.size ≤ b := .inr fun b hb => (ho3.lt b hb).1
  obtain ⟨a3, c3, rfl⟩ := hrd3.form
  clear hr1 hg1 hg2 hg3 ho2 ho3 hi hz0 hz1 hz2
  have hq : ∀ h : bs ≠ [], (Value.slice a3 bs.length c3).ownBlock ≠ none := by
    intro h
    rcases hrd3 with ⟨_, e⟩ | ⟨b, off, cap, e, _⟩
    · exact absurd e h
    · rw [e]; simp [Value.ownBlock]
  go_loopw [30] (fun vi wr => ∃ k : Nat, k ≤ bs.length ∧ vi = .int .i64 (k : Int) ∧ Below w.heap.size w wr ∧ Rd wr r (.slice a3 bs.length c3) 0 0 ∧ Reads wr (.slice a3 bs.length c3) bs ∧ (∀ h : bs ≠ [], ∃ g, a2 = some ⟨g, 0, none⟩ ∧ w.heap.size ≤ g ∧ g < w2.heap.size ∧ Slate g bs.length wr)) (fun vi _ => bs.length - (RowKit.intOf vi).toNat)
  case atStart => exact ⟨0, Nat.zero_le _, rfl, gbelow hg13 (Nat.le_refl _) (by simp), hR3, hrd3, hS0⟩
  case round =>
    clear hS0 hR3 hrd3 hg13
    obtain ⟨k, hk, rfl, hbr, hR, hrd, hS⟩ := hrel
    by_cases hlt : k < bs.length
    · have hne : bs ≠ [] := by rintro rfl; simp at hlt
      obtain ⟨g, rfl, hg0, hg1, hsl⟩ := hS hne
      obtain ⟨v0, hcell⟩ := hsl.cell hlt
      have hfr := hsl.free k
      clear hS
      go_wp2
      have hgs : wr.grownBy (wr.setCell ⟨g, k, none⟩ (.int .u8 255)) (some g) := gset (World.grownBy.refl _ _) _ _
      refine ⟨⟨k + 1, by omega, by go_num, hbr.trans (gbelow hgs hbr.size (by simpa using hg0)), hR.kept hgs (by simp; omega), hrd.kept hgs (.inr ?_), fun _ => ⟨g, rfl, hg0, hg1, hsl.set k _⟩⟩, by simp [RowKit.intOf]; omega⟩
      rcases hv3 with h | h
      · exact absurd h hne
      · intro e
        have := h g e
        omega
    · have hkl : k = bs.length := by omega
      subst hkl
      have hwr : w.heap.size ≤ r := by omega
      clear hS hk hlt hv3 hq hs1 hs2 hs3
      obtain ⟨i0, hi, hz0, hz1, hz2⟩ := info_parts infoU8
      have hr4 := hr.all hbr
      go_wp2_with (at_builtin; refine wpList_append_bytes _ rfl (.const (.slice none 0 0)) _ 23 rfl wr.heap.size 5 i0 Try.underlying23 hi hz0 hz1 hz2 _ [] rfl (owns_nil _ _ _) _ bs rfl hr4 (by simp; omega) (Nat.le_refl _) ?_; intro v4 w4 ho4 hg4; rw [List.nil_append] at ho4; obtain ⟨a4, c4, rfl⟩ := ho4.reads.form)
      replace hg4 : wr.grownBy w4 none := hg4
      have hbo : Both w r w4.heap.size a3 a4 c3 c4 bs 0 0 0 0 (w4.alloc (.cells #[.slice a4 bs.length c4, .int .i64 0, .int .i64 0] 69)) := by
        have hg5 : wr.grownBy (w4.alloc (.cells #[.slice a4 bs.length c4, .int .i64 0, .int .i64 0] 69)) none := galloc hg4 _
        have h1 := hbr.size
        have h2 := hg4.size
        have h3 := hR.lt
        exact ⟨hR.new hg5, by unfold Rq; simpa using heap_alloc_new w4 _, hrd.new hg5, ho4.reads.new (World.grownBy_alloc w4 _ _), hwr, by omega, by omega, hbr.trans (gbelow hg5 h1 (by simp))⟩
      generalize w4.alloc (.cells #[.slice a4 bs.length c4, .int .i64 0, .int .i64 0] 69) = w5 at hbo ⊢
      generalize w4.heap.size = o at hbo ⊢
      clear ho4 hg4 hr4 hrd hR hbr hi hz0 hz1 hz2
      go_loopw [43] (fun vi wx => ∃ (k p : Nat) (e : Int), k ≤ L.length ∧ vi = .int .i64 (k : Int) ∧ p ≤ bs.length ∧ Both w r o a3 a4 c3 c4 bs p e p e wx) (fun vi _ => L.length - (RowKit.intOf vi).toNat)
      case atStart => exact ⟨0, 0, 0, Nat.zero_le _, rfl, Nat.zero_le _, hbo⟩
      case round =>
        clear hbo
        obtain ⟨k, p, e, hk, rfl, hp2, hbo⟩ := hrel
        by_cases hlt : k < L.length
        · have hpx := hp.all hbo.below
          obtain ⟨b, off, rfl, hc0, hc1⟩ := hpx.get hlt
          obtain ⟨⟨kd, nn⟩, hkn⟩ : ∃ q, q = L[k] := ⟨_, rfl⟩
          rw [← hkn] at hc0 hc1
          dsimp only at hc0 hc1
          clear hkn hpx
          go_upto_block 4 with fail
          obtain ⟨xb, hxb⟩ : ∃ xb, xb = wr.heap.size := ⟨_, rfl⟩
          have hbo1 : Both w r o a3 a4 c3 c4 bs p e p e (wr.alloc (.cells #[.int .i64 kd, .int .i64 nn] 71)) := hbo.new (World.grownBy_alloc wr _ none)
          have hx1 : (wr.alloc (.cells #[.int .i64 kd, .int .i64 nn] 71)).cell? ⟨xb, 1, none⟩ = some (.int .i64 nn) := by subst hxb; simp [go_sem]
          have hxr : xb ≠ r := by have := hbo.1.lt; omega
          have hxo : xb ≠ o := by have := hbo.2.1.lt; omega
          rw [← hxb]
          generalize wr.alloc (.cells #[.int .i64 kd, .int .i64 nn] 71) = w6 at hbo1 hx1 ⊢
          clear hxb hbo hc0 hc1
          go_cut [11] (fun s wx => s = .bool true ∧ ∃ (p : Nat) (e : Int), p ≤ bs.length ∧ Both w r o a3 a4 c3 c4 bs p e p e wx)
          case first =>
            obtain ⟨un, um, ux, hu⟩ : ∃ n m x, uRes (bs.drop p) = (n, m, x) := ⟨_, _, _, rfl⟩
            obtain ⟨xn, xm, xx, hx⟩ : ∃ n m x, xRes (bs.drop p) nn = (n, m, x) := ⟨_, _, _, rfl⟩
            obtain ⟨ff, fm, fx, hf⟩ : ∃ f m x, fRes (bs.drop p) = (f, m, x) := ⟨_, _, _, rfl⟩
            obtain ⟨tf, tm, tx, ht⟩ : ∃ f m x, tRes (bs.drop p) nn = (f, m, x) := ⟨_, _, _, rfl⟩
            have lu := (uRes_len hu).1
            have lx := (xRes_len hx).1
            have lf := (fRes_len hf).1
            have lt := tRes_len ht
            rw [List.length_drop] at lu lx lf lt
            have ku := stAt_le (er := e) hp2 lu
            have kx := stAt_le (er := e) hp2 lx
            have kf := stAt_le (er := e) hp2 lf
            have kt := stAt_le (er := e) hp2 lt
            have cU := fun w' q f (h : Both w r o a3 a4 c3 c4 bs p e q f w') => rUint_any r a3 _ c3 bs p e un um ux w' h.1 h.2.2.1 hp2 hu
            have dU := fun w' q f (h : Both w r o a3 a4 c3 c4 bs q f p e w') => qUint_any o a4 _ c4 bs p e un um ux w' h.2.1 h.2.2.2.1 hp2 hu
            have cI := fun w' q f (h : Both w r o a3 a4 c3 c4 bs p e q f w') => rInt_any r a3 _ c3 bs p e un um ux w' h.1 h.2.2.1 hp2 hu
            have dI := fun w' q f (h : Both w r o a3 a4 c3 c4 bs q f p e w') => qInt_any o a4 _ c4 bs p e un um ux w' h.2.1 h.2.2.2.1 hp2 hu
            have cX := fun w' q f (h : Both w r o a3 a4 c3 c4 bs p e q f w') => rFixed_any r a3 _ c3 bs p e nn xn xm xx w' h.1 h.2.2.1 hp2 hx
            have dX := fun w' q f (h : Both w r o a3 a4 c3 c4 bs q f p e w') => qFixed_any o a4 _ c4 bs p e nn xn xm xx w' h.2.1 h.2.2.2.1 hp2 hx
            have cF := fun w' q f (h : Both w r o a3 a4 c3 c4 bs p e q f w') => rField_any r a3 _ c3 bs p e ff fm fx w' h.1 h.2.2.1 hp2 hf
            have dF := fun w' q f (h : Both w r o a3 a4 c3 c4 bs q f p e w') => qField_any o a4 _ c4 bs p e ff fm fx w' h.2.1 h.2.2.2.1 hp2 hf
            have cT := fun w' q f (h : Both w r o a3 a4 c3 c4 bs p e q f w') => rTake_any r a3 _ c3 bs p e nn tf tm tx w' h.1 h.2.2.1 hp2 (by omega) ht
            have dT := fun w' q f (h : Both w r o a3 a4 c3 c4 bs q f p e w') => qTake_any o a4 _ c4 bs p e nn tf tm tx w' h.2.1 h.2.2.2.1 hp2 (by omega) ht
            generalize (if e = 0 then (un : Int) else 0) = zu at cU dU
            generalize (if e = 0 then iOf un ux else 0) = zi at cI dI
            generalize (if e = 0 then (xn : Int) else 0) = zx at cX dX
            generalize (if e = 0 then ff else []) = zf at cF dF
            generalize (if e = 0 then tf else []) = zt at cT dT
            generalize stAt e p um = pu, stErr e ux = eu at cU dU cI dI ku
            generalize stAt e p xm = px, stErr e xx = ex at cX dX kx
            generalize stAt e p fm = pf, stErr e fx = ef at cF dF kf
            generalize stAt e p tm = pt, stErr e tx = et at cT dT kt
            have HU := Lib.hid ku
            have HX := Lib.hid kx
            have HF := Lib.hid kf
            have HT := Lib.hid kt
            clear hu hx hf ht lu lx lf lt ku kx kf kt
            go_wp2_with (first | (go_at_call 38; refine (cU _ _ _ hbo1).mono ?_; rintro e2 w7 ⟨rfl, hg7, hR7⟩; have hbo7 := hbo1.turnR hg7 hR7) | (go_at_call 39; refine (dU _ _ _ hbo7).mono ?_; rintro e2 w8 ⟨rfl, hg8, hR8⟩; have hbo8 := hbo7.turnO hg8 hR8) | (go_at_call 40; refine (cI _ _ _ hbo1).mono ?_; rintro e2 w7 ⟨rfl, hg7, hR7⟩; have hbo7 := hbo1.turnR hg7 hR7) | (go_at_call 41; refine (dI _ _ _ hbo7).mono ?_; rintro e2 w8 ⟨rfl, hg8, hR8⟩; have hbo8 := hbo7.turnO hg8 hR8))
            · go_meet
              exact ⟨by simp, _, _, HU.out, hbo8⟩
            · go_meet
              exact ⟨by simp, _, _, HU.out, hbo8⟩
            · refine wp_region_held_drew (S := fun w' => w'.cell? ⟨xb, 1, none⟩ = some (.int .i64 nn)) (by kernel_rfl) hx1 (fun hS0 => ?_)
              have hbo6 := hbo1.new (gdrew (World.grownBy.refl w6 none))
              refine wpAnyH_take (i := 0) (oi := ⟨some 76, _, _, _, _, _⟩) (v := ?_) rfl (by kernel_rfl) (by kernel_rfl) (by kernel_rfl) (fun _ _ _ h => h) (Or.inl ⟨by rfl, ?_⟩) (by assumption) ?_
              rotate_left
              · (intro w hSw; (try dsimp only at hSw); go_simp; try with_reducible rfl)
              try simp only [Act.put, List.setIfInBounds_toArray, List.set_cons_zero, List.set_cons_succ]
              refine wpAnyH_take (i := 1) (oi := ⟨some 77, _, _, _, _, _⟩) (v := ?_) rfl (by kernel_rfl) (by kernel_rfl) (by kernel_rfl) (fun _ _ _ h => h) (Or.inl ⟨by rfl, ?_⟩) (by assumption) ?_
              rotate_left
              · (intro w hSw; (try dsimp only at hSw); go_simp; try with_reducible rfl)
              try simp only [Act.put, List.setIfInBounds_toArray, List.set_cons_zero, List.set_cons_succ]
              refine wpAnyH_take (i := 2) (oi := ⟨some 78, _, _, _, _, _⟩) (v := ?_) rfl (by kernel_rfl) (by kernel_rfl) (by kernel_rfl) (fun _ _ _ h => h) (Or.inl ⟨by rfl, ?_⟩) (by assumption) ?_
              rotate_left
              · (intro w hSw; (try dsimp only at hSw); go_simp; try with_reducible rfl)
              try simp only [Act.put, List.setIfInBounds_toArray, List.set_cons_zero, List.set_cons_succ]
              refine wpAnyH_take (i := 4) (oi := ⟨some 80, _, _, _, _, _⟩) (v := ?_) rfl (by kernel_rfl) (by kernel_rfl) (by kernel_rfl) (fun _ _ _ h => h) (Or.inl ⟨by rfl, ?_⟩) (by assumption) ?_
              rotate_left
              · (intro w hSw; (try dsimp only at hSw); go_simp; try with_reducible rfl)
              try simp only [Act.put, List.setIfInBounds_toArray, List.set_cons_zero, List.set_cons_succ]
              refine wpAnyH_take (i := 5) (oi := ⟨some 81, _, _, _, _, _⟩) (v := ?_) rfl (by kernel_rfl) (by kernel_rfl) (by kernel_rfl) (fun _ _ _ h => h) (Or.inl ⟨by rfl, ?_⟩) (by assumption) ?_
              rotate_left
              · (intro w hSw; (try dsimp only at hSw); go_simp; try with_reducible rfl)
              try simp only [Act.put, List.setIfInBounds_toArray, List.set_cons_zero, List.set_cons_succ]
              refine wpAnyH_take (i := 6) (oi := ⟨some 82, _, _, _, _, _⟩) (v := ?_) rfl (by kernel_rfl) (by kernel_rfl) (by kernel_rfl) (fun _ _ _ h => h) (Or.inl ⟨by rfl, ?_⟩) (by assumption) ?_
              rotate_left
              · (intro w hSw; (try dsimp only at hSw); go_simp; try with_reducible rfl)
              try simp only [Act.put, List.setIfInBounds_toArray, List.set_cons_zero, List.set_cons_succ]
              refine wpAnyH_ready (rs := [3]) (by kernel_rfl) (by simp) ?_
              refine AllReadyH.cons rfl (fun K hK => ?_) AllReadyH.nil
              go_simp
              refine (cX _ _ _ hbo6).mono ?_
              rintro e2 w7 ⟨rfl, hg7, hR7⟩
              have hbo7 := hbo6.turnR hg7 hR7
              have hx7 := hg7.cell hx1 (by simpa using hxr)
              refine hK.out _ _ hx7 (fun hS3 => ?_)
              clear hK
              refine wpAnyH_ready (rs := [7]) (by kernel_rfl) (by simp) ?_
              refine AllReadyH.cons rfl (fun K hK => ?_) AllReadyH.nil
              go_simp
              refine (dX _ _ _ hbo7).mono ?_
              rintro e3 w8 ⟨rfl, hg8, hR8⟩
              have hbo8 := hbo7.turnO hg8 hR8
              have hx8 := hg8.cell hx7 (by simpa using hxo)
              refine hK.out _ _ hx8 (fun hS7 => ?_)
              clear hK
              refine wpAnyH_take (i := 8) (oi := ⟨some 84, _, _, _, _, _⟩) (v := ?_) rfl (by kernel_rfl) (by kernel_rfl) (by kernel_rfl) (fun _ _ _ h => h) (Or.inl ⟨by rfl, ?_⟩) (by assumption) ?_
              rotate_left
              · (intro w hSw; (try dsimp only at hSw); go_simp; try with_reducible rfl)
              try simp only [Act.put, List.setIfInBounds_toArray, List.set_cons_zero, List.set_cons_succ]
              refine wpAnyH_take (i := 9) (oi := ⟨some 11, _, _, _, _, _⟩) (v := ?_) rfl (by kernel_rfl) (by kernel_rfl) (by kernel_rfl) (fun _ _ _ h => h) (Or.inl ⟨by rfl, ?_⟩) (by assumption) ?_
              rotate_left
              · (intro w hSw; (try dsimp only at hSw); go_simp; try with_reducible rfl)
              try simp only [Act.put, List.setIfInBounds_toArray, List.set_cons_zero, List.set_cons_succ]
              refine wpAnyH_done (by kernel_rfl) ?_ _
              go_wp2_with fail
              go_meet
              exact ⟨by simp, _, _, HX.out, hbo8⟩
            · refine wp_region_held_drew (S := fun w' => True) (by kernel_rfl) trivial (fun hS0 => ?_)
              have hbo6 := hbo1.new (gdrew (World.grownBy.refl w6 none))
              refine wpAnyH_take (i := 0) (oi := ⟨some 87, _, _, _, _, _⟩) (v := ?_) rfl (by kernel_rfl) (by kernel_rfl) (by kernel_rfl) (fun _ _ _ h => h) (Or.inl ⟨by rfl, ?_⟩) (by assumption) ?_
              rotate_left
              · (intro w hSw; (try dsimp only at hSw); go_simp; try with_reducible rfl)
              try simp only [Act.put, List.setIfInBounds_toArray, List.set_cons_zero, List.set_cons_succ]
              refine wpAnyH_take (i := 3) (oi := ⟨some 90, _, _, _, _, _⟩) (v := ?_) rfl (by kernel_rfl) (by kernel_rfl) (by kernel_rfl) (fun _ _ _ h => h) (Or.inl ⟨by rfl, ?_⟩) (by assumption) ?_
              rotate_left
              · (intro w hSw; (try dsimp only at hSw); go_simp; try with_reducible rfl)
              try simp only [Act.put, List.setIfInBounds_toArray, List.set_cons_zero, List.set_cons_succ]
              refine wpAnyH_ready (rs := [1]) (by kernel_rfl) (by simp) ?_
              refine AllReadyH.cons rfl (fun K hK => ?_) AllReadyH.nil
              go_simp
              refine (cF _ _ _ hbo6).mono ?_
              rintro e2 w7 ⟨v7, rfl, ho7, hg7, hR7⟩
              have hbo7 := hbo6.turnR hg7 hR7
              have hx7 := trivial
              have hr7 : Reads w7 v7 zf := ho7.reads
              have hcv7 := conv_of hr7
              obtain ⟨a7, c7, rfl⟩ := hr7.form
              refine hK.out _ _ hx7 (fun hS3 => ?_)
              clear hK
              refine wpAnyH_ready (rs := [2, 4]) (by kernel_rfl) (by simp) ?_
              refine AllReadyH.cons rfl (fun K hK => ?_) (AllReadyH.cons rfl (fun K hK => ?_) AllReadyH.nil)
              · go_simp
                refine hK.out _ _ hx7 (fun hS5 => ?_)
                clear hK
                refine wpAnyH_ready (rs := [4]) (by kernel_rfl) (by simp) ?_
                refine AllReadyH.cons rfl (fun K hK => ?_) AllReadyH.nil
                go_simp
                refine (dF _ _ _ hbo7).mono ?_
                rintro e3 w8 ⟨v8, rfl, ho8, hg8, hR8⟩
                have hbo8 := hbo7.turnO hg8 hR8
                have hx8 := trivial
                have hr7' : Reads w8 (.slice a7 zf.length c7) zf := (ho7.kept hg8 (.inr fun e => by have h1 := (ho7.lt o e).1; have h2 := hbo6.2.1.lt; omega)).reads
                have hr8 : Reads w8 v8 zf := (ho8 : _)
                have hcv7' := conv_of hr7'
                have hcv8 := conv_of hr8
                obtain ⟨a8, c8, rfl⟩ := hr8.form
                refine hK.out _ _ hx8 (fun hS4 => ?_)
                clear hK
                refine wpAnyH_ready (rs := [5]) (by kernel_rfl) (by simp) ?_
                refine AllReadyH.cons rfl (fun K hK => ?_) AllReadyH.nil
                go_simp
                refine hK.out _ _ hx8 (fun hS5 => ?_)
                clear hK
                refine wpAnyH_take (i := 6) (oi := ⟨some 93, _, _, _, _, _⟩) (v := ?_) rfl (by kernel_rfl) (by kernel_rfl) (by kernel_rfl) (fun _ _ _ h => h) (Or.inl ⟨by rfl, ?_⟩) (by assumption) ?_
                rotate_left
                · (intro w hSw; (try dsimp only at hSw); go_simp; try with_reducible rfl)
                try simp only [Act.put, List.setIfInBounds_toArray, List.set_cons_zero, List.set_cons_succ]
                refine wpAnyH_take (i := 7) (oi := ⟨some 11, _, _, _, _, _⟩) (v := ?_) rfl (by kernel_rfl) (by kernel_rfl) (by kernel_rfl) (fun _ _ _ h => h) (Or.inl ⟨by rfl, ?_⟩) (by assumption) ?_
                rotate_left
                · (intro w hSw; (try dsimp only at hSw); go_simp; try with_reducible rfl)
                try simp only [Act.put, List.setIfInBounds_toArray, List.set_cons_zero, List.set_cons_succ]
                refine wpAnyH_done (by kernel_rfl) ?_ _
                go_wp2_with fail
                go_meet
                exact ⟨by simp, _, _, HF.out, hbo8⟩
              · go_simp
                refine (dF _ _ _ hbo7).mono ?_
                rintro e3 w8 ⟨v8, rfl, ho8, hg8, hR8⟩
                have hbo8 := hbo7.turnO hg8 hR8
                have hx8 := trivial
                have hr7' : Reads w8 (.slice a7 zf.length c7) zf := (ho7.kept hg8 (.inr fun e => by have h1 := (ho7.lt o e).1; have h2 := hbo6.2.1.lt; omega)).reads
                have hr8 : Reads w8 v8 zf := (ho8 : _)
                have hcv7' := conv_of hr7'
                have hcv8 := conv_of hr8
                obtain ⟨a8, c8, rfl⟩ := hr8.form
                refine hK.out _ _ hx8 (fun hS4 => ?_)
                clear hK
                refine wpAnyH_ready (rs := [2, 5]) (by kernel_rfl) (by simp) ?_
                refine AllReadyH.cons rfl (fun K hK => ?_) (AllReadyH.cons rfl (fun K hK => ?_) AllReadyH.nil)
                · go_simp
                  refine hK.out _ _ hx8 (fun hS5 => ?_)
                  clear hK
                  refine wpAnyH_ready (rs := [5]) (by kernel_rfl) (by simp) ?_
                  refine AllReadyH.cons rfl (fun K hK => ?_) AllReadyH.nil
                  go_simp
                  refine hK.out _ _ hx8 (fun hS5 => ?_)
                  clear hK
                  refine wpAnyH_take (i := 6) (oi := ⟨some 93, _, _, _, _, _⟩) (v := ?_) rfl (by kernel_rfl) (by kernel_rfl) (by kernel_rfl) (fun _ _ _ h => h) (Or.inl ⟨by rfl, ?_⟩) (by assumption) ?_
                  rotate_left
                  · (intro w hSw; (try dsimp only at hSw); go_simp; try with_reducible rfl)
                  try simp only [Act.put, List.setIfInBounds_toArray, List.set_cons_zero, List.set_cons_succ]
                  refine wpAnyH_take (i := 7) (oi := ⟨some 11, _, _, _, _, _⟩) (v := ?_) rfl (by kernel_rfl) (by kernel_rfl) (by kernel_rfl) (fun _ _ _ h => h) (Or.inl ⟨by rfl, ?_⟩) (by assumption) ?_
                  rotate_left
                  · (intro w hSw; (try dsimp only at hSw); go_simp; try with_reducible rfl)
                  try simp only [Act.put, List.setIfInBounds_toArray, List.set_cons_zero, List.set_cons_succ]
                  refine wpAnyH_done (by kernel_rfl) ?_ _
                  go_wp2_with fail
                  go_meet
                  exact ⟨by simp, _, _, HF.out, hbo8⟩
                · go_simp
                  refine hK.out _ _ hx8 (fun hS5 => ?_)
                  clear hK
                  refine wpAnyH_ready (rs := [2]) (by kernel_rfl) (by simp) ?_
                  refine AllReadyH.cons rfl (fun K hK => ?_) AllReadyH.nil
                  go_simp
                  refine hK.out _ _ hx8 (fun hS5 => ?_)
                  clear hK
                  refine wpAnyH_take (i := 6) (oi := ⟨some 93, _, _, _, _, _⟩) (v := ?_) rfl (by kernel_rfl) (by kernel_rfl) (by kernel_rfl) (fun _ _ _ h => h) (Or.inl ⟨by rfl, ?_⟩) (by assumption) ?_
                  rotate_left
                  · (intro w hSw; (try dsimp only at hSw); go_simp; try with_reducible rfl)
                  try simp only [Act.put, List.setIfInBounds_toArray, List.set_cons_zero, List.set_cons_succ]
                  refine wpAnyH_take (i := 7) (oi := ⟨some 11, _, _, _, _, _⟩) (v := ?_) rfl (by kernel_rfl) (by kernel_rfl) (by kernel_rfl) (fun _ _ _ h => h) (Or.inl ⟨by rfl, ?_⟩) (by assumption) ?_
                  rotate_left
                  · (intro w hSw; (try dsimp only at hSw); go_simp; try with_reducible rfl)
                  try simp only [Act.put, List.setIfInBounds_toArray, List.set_cons_zero, List.set_cons_succ]
                  refine wpAnyH_done (by kernel_rfl) ?_ _
                  go_wp2_with fail
                  go_meet
                  exact ⟨by simp, _, _, HF.out, hbo8⟩
            · refine wp_region_held_drew (S := fun w' => w'.cell? ⟨xb, 1, none⟩ = some (.int .i64 nn)) (by kernel_rfl) hx1 (fun hS0 => ?_)
              have hbo6 := hbo1.new (gdrew (World.grownBy.refl w6 none))
              refine wpAnyH_take (i := 0) (oi := ⟨some 49, _, _, _, _, _⟩) (v := ?_) rfl (by kernel_rfl) (by kernel_rfl) (by kernel_rfl) (fun _ _ _ h => h) (Or.inl ⟨by rfl, ?_⟩) (by assumption) ?_
              rotate_left
              · (intro w hSw; (try dsimp only at hSw); go_simp; try with_reducible rfl)
              try simp only [Act.put, List.setIfInBounds_toArray, List.set_cons_zero, List.set_cons_succ]
              refine wpAnyH_take (i := 1) (oi := ⟨some 50, _, _, _, _, _⟩) (v := ?_) rfl (by kernel_rfl) (by kernel_rfl) (by kernel_rfl) (fun _ _ _ h => h) (Or.inl ⟨by rfl, ?_⟩) (by assumption) ?_
              rotate_left
              · (intro w hSw; (try dsimp only at hSw); go_simp; try with_reducible rfl)
              try simp only [Act.put, List.setIfInBounds_toArray, List.set_cons_zero, List.set_cons_succ]
              refine wpAnyH_take (i := 2) (oi := ⟨some 51, _, _, _, _, _⟩) (v := ?_) rfl (by kernel_rfl) (by kernel_rfl) (by kernel_rfl) (fun _ _ _ h => h) (Or.inl ⟨by rfl, ?_⟩) (by assumption) ?_
              rotate_left
              · (intro w hSw; (try dsimp only at hSw); go_simp; try with_reducible rfl)
              try simp only [Act.put, List.setIfInBounds_toArray, List.set_cons_zero, List.set_cons_succ]
              refine wpAnyH_take (i := 5) (oi := ⟨some 54, _, _, _, _, _⟩) (v := ?_) rfl (by kernel_rfl) (by kernel_rfl) (by kernel_rfl) (fun _ _ _ h => h) (Or.inl ⟨by rfl, ?_⟩) (by assumption) ?_
              rotate_left
              · (intro w hSw; (try dsimp only at hSw); go_simp; try with_reducible rfl)
              try simp only [Act.put, List.setIfInBounds_toArray, List.set_cons_zero, List.set_cons_succ]
              refine wpAnyH_take (i := 6) (oi := ⟨some 55, _, _, _, _, _⟩) (v := ?_) rfl (by kernel_rfl) (by kernel_rfl) (by kernel_rfl) (fun _ _ _ h => h) (Or.inl ⟨by rfl, ?_⟩) (by assumption) ?_
              rotate_left
              · (intro w hSw; (try dsimp only at hSw); go_simp; try with_reducible rfl)
              try simp only [Act.put, List.setIfInBounds_toArray, List.set_cons_zero, List.set_cons_succ]
              refine wpAnyH_take (i := 7) (oi := ⟨some 56, _, _, _, _, _⟩) (v := ?_) rfl (by kernel_rfl) (by kernel_rfl) (by kernel_rfl) (fun _ _ _ h => h) (Or.inl ⟨by rfl, ?_⟩) (by assumption) ?_
              rotate_left
              · (intro w hSw; (try dsimp only at hSw); go_simp; try with_reducible rfl)
              try simp only [Act.put, List.setIfInBounds_toArray, List.set_cons_zero, List.set_cons_succ]
              refine wpAnyH_ready (rs := [3]) (by kernel_rfl) (by simp) ?_
              refine AllReadyH.cons rfl (fun K hK => ?_) AllReadyH.nil
              go_simp
              refine (cT _ _ _ hbo6).mono ?_
              rintro e2 w7 ⟨v7, rfl, ho7, hg7, hR7⟩
              have hbo7 := hbo6.turnR hg7 hR7
              have hx7 := hg7.cell hx1 (by simpa using hxr)
              have hr7 : Reads w7 v7 zt := ho7.reads
              have hcv7 := conv_of hr7
              obtain ⟨a7, c7, rfl⟩ := hr7.form
              refine hK.out _ _ hx7 (fun hS3 => ?_)
              clear hK
              refine wpAnyH_ready (rs := [4, 8]) (by kernel_rfl) (by simp) ?_
              refine AllReadyH.cons rfl (fun K hK => ?_) (AllReadyH.cons rfl (fun K hK => ?_) AllReadyH.nil)
              · go_simp
                refine hK.out _ _ hx7 (fun hS5 => ?_)
                clear hK
                refine wpAnyH_ready (rs := [8]) (by kernel_rfl) (by simp) ?_
                refine AllReadyH.cons rfl (fun K hK => ?_) AllReadyH.nil
                go_simp
                refine (dT _ _ _ hbo7).mono ?_
                rintro e3 w8 ⟨v8, rfl, ho8, hg8, hR8⟩
                have hbo8 := hbo7.turnO hg8 hR8
                have hx8 := hg8.cell hx7 (by simpa using hxo)
                have hr7' : Reads w8 (.slice a7 zt.length c7) zt := (ho7.kept hg8 (.inr fun e => by have h1 := (ho7.lt o e).1; have h2 := hbo6.2.1.lt; omega)).reads
                have hr8 : Reads w8 v8 zt := (ho8 : _).reads
                have hcv7' := conv_of hr7'
                have hcv8 := conv_of hr8
                obtain ⟨a8, c8, rfl⟩ := hr8.form
                refine hK.out _ _ hx8 (fun hS4 => ?_)
                clear hK
                refine wpAnyH_ready (rs := [9]) (by kernel_rfl) (by simp) ?_
                refine AllReadyH.cons rfl (fun K hK => ?_) AllReadyH.nil
                go_simp
                refine hK.out _ _ hx8 (fun hS5 => ?_)
                clear hK
                refine wpAnyH_take (i := 10) (oi := ⟨some 59, _, _, _, _, _⟩) (v := ?_) rfl (by kernel_rfl) (by kernel_rfl) (by kernel_rfl) (fun _ _ _ h => h) (Or.inl ⟨by rfl, ?_⟩) (by assumption) ?_
                rotate_left
                · (intro w hSw; (try dsimp only at hSw); go_simp; try with_reducible rfl)
                try simp only [Act.put, List.setIfInBounds_toArray, List.set_cons_zero, List.set_cons_succ]
                refine wpAnyH_take (i := 11) (oi := ⟨some 11, _, _, _, _, _⟩) (v := ?_) rfl (by kernel_rfl) (by kernel_rfl) (by kernel_rfl) (fun _ _ _ h => h) (Or.inl ⟨by rfl, ?_⟩) (by assumption) ?_
                rotate_left
                · (intro w hSw; (try dsimp only at hSw); go_simp; try with_reducible rfl)
                try simp only [Act.put, List.setIfInBounds_toArray, List.set_cons_zero, List.set_cons_succ]
                refine wpAnyH_done (by kernel_rfl) ?_ _
                go_wp2_with fail
                go_meet
                exact ⟨by simp, _, _, HT.out, hbo8⟩
              · go_simp
                refine (dT _ _ _ hbo7).mono ?_
                rintro e3 w8 ⟨v8, rfl, ho8, hg8, hR8⟩
                have hbo8 := hbo7.turnO hg8 hR8
                have hx8 := hg8.cell hx7 (by simpa using hxo)
                have hr7' : Reads w8 (.slice a7 zt.length c7) zt := (ho7.kept hg8 (.inr fun e => by have h1 := (ho7.lt o e).1; have h2 := hbo6.2.1.lt; omega)).reads
                have hr8 : Reads w8 v8 zt := (ho8 : _).reads
                have hcv7' := conv_of hr7'
                have hcv8 := conv_of hr8
                obtain ⟨a8, c8, rfl⟩ := hr8.form
                refine hK.out _ _ hx8 (fun hS4 => ?_)
                clear hK
                refine wpAnyH_ready (rs := [4, 9]) (by kernel_rfl) (by simp) ?_
                refine AllReadyH.cons rfl (fun K hK => ?_) (AllReadyH.cons rfl (fun K hK => ?_) AllReadyH.nil)
                · go_simp
                  refine hK.out _ _ hx8 (fun hS5 => ?_)
                  clear hK
                  refine wpAnyH_ready (rs := [9]) (by kernel_rfl) (by simp) ?_
                  refine AllReadyH.cons rfl (fun K hK => ?_) AllReadyH.nil
                  go_simp
                  refine hK.out _ _ hx8 (fun hS5 => ?_)
                  clear hK
                  refine wpAnyH_take (i := 10) (oi := ⟨some 59, _, _, _, _, _⟩) (v := ?_) rfl (by kernel_rfl) (by kernel_rfl) (by kernel_rfl) (fun _ _ _ h => h) (Or.inl ⟨by rfl, ?_⟩) (by assumption) ?_
                  rotate_left
                  · (intro w hSw; (try dsimp only at hSw); go_simp; try with_reducible rfl)
                  try simp only [Act.put, List.setIfInBounds_toArray, List.set_cons_zero, List.set_cons_succ]
                  refine wpAnyH_take (i := 11) (oi := ⟨some 11, _, _, _, _, _⟩) (v := ?_) rfl (by kernel_rfl) (by kernel_rfl) (by kernel_rfl) (fun _ _ _ h => h) (Or.inl ⟨by rfl, ?_⟩) (by assumption) ?_
                  rotate_left
                  · (intro w hSw; (try dsimp only at hSw); go_simp; try with_reducible rfl)
                  try simp only [Act.put, List.setIfInBounds_toArray, List.set_cons_zero, List.set_cons_succ]
                  refine wpAnyH_done (by kernel_rfl) ?_ _
                  go_wp2_with fail
                  go_meet
                  exact ⟨by simp, _, _, HT.out, hbo8⟩
                · go_simp
                  refine hK.out _ _ hx8 (fun hS5 => ?_)
                  clear hK
                  refine wpAnyH_ready (rs := [4]) (by kernel_rfl) (by simp) ?_
                  refine AllReadyH.cons rfl (fun K hK => ?_) AllReadyH.nil
                  go_simp
                  refine hK.out _ _ hx8 (fun hS5 => ?_)
                  clear hK
                  refine wpAnyH_take (i := 10) (oi := ⟨some 59, _, _, _, _, _⟩) (v := ?_) rfl (by kernel_rfl) (by kernel_rfl) (by kernel_rfl) (fun _ _ _ h => h) (Or.inl ⟨by rfl, ?_⟩) (by assumption) ?_
                  rotate_left
                  · (intro w hSw; (try dsimp only at hSw); go_simp; try with_reducible rfl)
                  try simp only [Act.put, List.setIfInBounds_toArray, List.set_cons_zero, List.set_cons_succ]
                  refine wpAnyH_take (i := 11) (oi := ⟨some 11, _, _, _, _, _⟩) (v := ?_) rfl (by kernel_rfl) (by kernel_rfl) (by kernel_rfl) (fun _ _ _ h => h) (Or.inl ⟨by rfl, ?_⟩) (by assumption) ?_
                  rotate_left
                  · (intro w hSw; (try dsimp only at hSw); go_simp; try with_reducible rfl)
                  try simp only [Act.put, List.setIfInBounds_toArray, List.set_cons_zero, List.set_cons_succ]
                  refine wpAnyH_done (by kernel_rfl) ?_ _
                  go_wp2_with fail
                  go_meet
                  exact ⟨by simp, _, _, HT.out, hbo8⟩
          case rest =>
            obtain ⟨rfl, p, e, hp3, hbo⟩ := hcut
            have g1 : decide ((bs.length : Int) < (p : Int)) = false := by simpa using hp3
            have g2 : decide (bs.length < p) = false := by simpa using hp3
            have q1 := hbo.2.1.at
            have q2 := hbo.2.1.err
            go_upto_region 29 with fail
            go_quiet ((first | (go_at_call 37; exact quiet_eq (at_any r _ p e _ (hbo.1.drewN _))) | (go_at_call 48; exact quiet_eq (err_rd _ _ _ _ _ (hbo.1.drewN _))) | (go_at_call 36; exact Calls.quiet_of (Done_all r a3 _ c3 p e _ (hbo.1.drewN _) hp3)) | (go_at_call 49; exact Calls.quiet_of (qDone_all o a4 _ c4 p e _ (hbo.2.1.drewN _) hp3))))
            go_wp2
            have hx1' := hbo.drewN
            first
              | exact ⟨⟨k + 1, p, e, by omega, by go_num, hp3, hx1' _⟩, by simp [RowKit.intOf]; omega⟩
              | ((repeat apply Exists.intro); exact ⟨⟨⟨by omega, by go_num, hp3, hx1' _⟩, by simp [RowKit.intOf]; omega⟩, rfl⟩)
              | (trace_state; sorry)
        · have hkl : k = L.length := by omega
          subst hkl
          go_wp2
          go_ret
          exact ⟨rfl, hbo.below⟩
end Go.Proofs.Ytgkdbifnngidoaa
