/-
  LAYER 6 (norm): the law NormStream.
-/
import Derived.Test.YtpdacbiiaglodaaGreatQE48
import Derived.Test.YtpdacbiiaglodaaGreatQE53
import Derived.Test.YtpdacbiiaglodaaGreatQE45
namespace Go.Proofs.YtpdacbiiaglodaaGreat
set_option maxRecDepth 100000
open Go.RowKit Go.Lib

/-- Data that the law may not use, or a list too long: nothing is asked. -/
theorem stream_none (w : World) (vc vd vl : Value) (c : List Cls) (d : List Dec) (l : List Int) (hT : Dat w vc vd c d) (hR : RS w vl l) (h : 200 < c.length ∨ 200 < d.length ∨ good c d = false) :
    Calls Tryz.prog 7 #[vc, vd, vl] w fun e w' => e = .returned (.bool true) ∧ Below w.heap.size w w' := by
  have hA := fun w => mawake_any w
  have hD := fun W (hg : w.grownBy W none) => data_no vc vd c d W (hT.all hg) h
  obtain ⟨a1, c1, rfl, _, _⟩ := hT.1.form
  obtain ⟨a2, c2, rfl, _, _⟩ := hT.2.form
  obtain ⟨a3, c3, rfl, _⟩ := hR
  clear h hT
  generalize c.length = cl at *
  generalize d.length = dl at *
  generalize l.length = n at *
  go_enter Tryz.func7, Tryz.ntmps7
  go_wp2_with fail
  go_at_call 19
  refine (hA _).mono ?_
  rintro e w1 ⟨rfl, hg1⟩
  have hD1 := hD w1 hg1
  clear hD hA
  go_wp2_with (go_at_call 27; refine hD1.mono ?_; rintro e w2 ⟨rfl, hg2⟩)
  go_ret
  exact ⟨rfl, belowg' ((hg1.trans hg2).trans (World.grownBy_alloc w2 _ none))⟩
theorem stream_long (w : World) (vc vd vl : Value) (c : List Cls) (d : List Dec) (l : List Int) (hT : Dat w vc vd c d) (hR : RS w vl l) (h : good c d = true) (hc : c.length ≤ 200) (hd : d.length ≤ 200) (hl : 500 < l.length) :
    Calls Tryz.prog 7 #[vc, vd, vl] w fun e w' => e = .returned (.bool true) ∧ Below w.heap.size w w' := by
  have hA := fun w => mawake_any w
  have hD := fun W (hg : w.grownBy W none) => data_any vc vd c d W (hT.all hg) h hc hd
  obtain ⟨a1, c1, rfl, _, _⟩ := hT.1.form
  obtain ⟨a2, c2, rfl, _, _⟩ := hT.2.form
  obtain ⟨a3, c3, rfl, _⟩ := hR
  clear h hT
  generalize c.length = cl at *
  generalize d.length = dl at *
  generalize l.length = n at *
  go_enter Tryz.func7, Tryz.ntmps7
  go_wp2_with fail
  go_at_call 19
  refine (hA _).mono ?_
  rintro e w1 ⟨rfl, hg1⟩
  have hD1 := hD w1 hg1
  clear hD hA
  go_wp2_with (go_at_call 27; refine hD1.mono ?_; rintro e w2 ⟨m, rfl, _, _, hg2⟩)
  go_ret
  exact ⟨rfl, belowg' ((hg1.trans hg2).trans (World.grownBy_alloc w2 _ none))⟩


/-- A stream under way, all that it told, what it took, what the reference holds. -/
structure NS (p : Value) (cf : Int → Int) (df : Int → List Int) (s : Nat) (W : World) (T all hS hR : List Int) (v11 v13 v12 hv : Value) (F : Nat → Prop) (V : World) : Prop where
  st : Strm V s p cf df F hv hS
  al : OwnN V W.heap.size v11 all
  tk : OwnN V W.heap.size v13 T
  hd : RS V v12 hR
  d1 : ∀ q, v11.ownBlock = some q → ¬ F q ∧ hv.ownBlock ≠ some q ∧ v13.ownBlock ≠ some q ∧ (hR ≠ [] → v12.ownBlock ≠ some q)
  d2 : ∀ q, v13.ownBlock = some q → ¬ F q ∧ hv.ownBlock ≠ some q ∧ (hR ≠ [] → v12.ownBlock ≠ some q)
  d3 : hR ≠ [] → ∀ q, v12.ownBlock = some q → W.heap.size ≤ q ∧ hv.ownBlock ≠ some q
  hb : ∀ q, hv.ownBlock = some q → W.heap.size ≤ q
  pw : ∀ q, p = .pointer (some ⟨q, 0, none⟩) → q < W.heap.size
  sw : s < W.heap.size
  gx : GX (fun k => p = .pointer (some ⟨k, 0, none⟩) ∨ k = s) W V
theorem NS.new {p : Value} {cf : Int → Int} {df : Int → List Int} {s : Nat} {W V V2 : World} {T all hS hR : List Int} {v11 v13 v12 hv : Value} {F : Nat → Prop} (h : NS p cf df s W T all hS hR v11 v13 v12 hv F V) (g : V.grownBy V2 none) : NS p cf df s W T all hS hR v11 v13 v12 hv F V2 :=
  ⟨h.st.new g, h.al.kept g (by simp), h.tk.kept g (by simp), h.hd.new g, h.d1, h.d2, h.d3, h.hb, h.pw, h.sw, h.gx.step g (by simp)⟩
theorem NS.push {p : Value} {cf : Int → Int} {df : Int → List Int} {s : Nat} {W V V2 : World} {T all hS hR hS2 : List Int} {v11 v13 v12 hv hv2 : Value} {F F2 : Nat → Prop} (h : NS p cf df s W T all hS hR v11 v13 v12 hv F V)
    (S2 : Strm V2 s p cf df F2 hv2 hS2) (f2 : ∀ k, F2 k → F k ∨ V.heap.size ≤ k) (b2 : ∀ k, hv2.ownBlock = some k → hv.ownBlock = some k ∨ V.heap.size ≤ k) (g : GX (fun k => p = .pointer (some ⟨k, 0, none⟩) ∨ k = s ∨ hv.ownBlock = some k) V V2) : NS p cf df s W T all hS2 hR v11 v13 v12 hv2 F2 V2 := by
  have hd' : RS V2 v12 hR := h.hd.heap fun hn k e => g.block k (h.hd.lt hn k e) (fun hh => by
    obtain ⟨x1, x2⟩ := h.d3 hn k e
    have hs := h.sw
    rcases hh with h' | h' | h'
    · have := h.pw k h'; omega
    · omega
    · exact x2 h')
  have hz := h.gx.size
  have l1 := h.al.lt
  have l2 := h.tk.lt
  have nf : ∀ k, k < V.heap.size → ¬ F k → ¬ F2 k := fun k hk hn hf => by rcases f2 k hf with h | h; exact hn h; omega
  have nh : ∀ k, k < V.heap.size → hv.ownBlock ≠ some k → hv2.ownBlock ≠ some k := fun k hk hn hf => by rcases b2 k hf with h | h; exact hn h; omega
  have k1 : ∀ q, v11.ownBlock = some q → ¬ (p = .pointer (some ⟨q, 0, none⟩) ∨ q = s ∨ hv.ownBlock = some q) := fun q e hh => by
    have := (l1 q e).1
    have hs := h.sw
    rcases hh with h' | h' | h'
    · have := h.pw q h'; omega
    · omega
    · exact (h.d1 q e).2.1 h'
  have k2 : ∀ q, v13.ownBlock = some q → ¬ (p = .pointer (some ⟨q, 0, none⟩) ∨ q = s ∨ hv.ownBlock = some q) := fun q e hh => by
    have := (l2 q e).1
    have hs := h.sw
    rcases hh with h' | h' | h'
    · have := h.pw q h'; omega
    · omega
    · exact (h.d2 q e).2.1 h'
  refine ⟨S2, h.al.keptX g k1, h.tk.keptX g k2, hd', fun q e => ?_, fun q e => ?_, fun hn q e => ⟨(h.d3 hn q e).1, fun e' => ?_⟩, fun q e => ?_, h.pw, h.sw, h.gx.trans g (fun k hk => ?_)⟩
  · obtain ⟨x1, x2, x3, x4⟩ := h.d1 q e
    exact ⟨nf q (l1 q e).2 x1, nh q (l1 q e).2 x2, x3, x4⟩
  · obtain ⟨x1, x2, x3⟩ := h.d2 q e
    exact ⟨nf q (l2 q e).2 x1, nh q (l2 q e).2 x2, x3⟩
  · rcases b2 q e' with h' | h'
    · exact (h.d3 hn q e).2 h'
    · have := h.hd.lt hn q e
      omega
  · rcases b2 q e with h' | h'
    · exact h.hb q h'
    · omega
  · rcases hk with h' | h' | h'
    · exact .inl (.inl h')
    · exact .inl (.inr h')
    · exact .inr (h.hb k h')
/-- The reference's step: what it holds now. -/
theorem NS.held {p : Value} {cf : Int → Int} {df : Int → List Int} {s : Nat} {W V V2 : World} {T all hS hR hR2 : List Int} {v11 v13 v12 hv v2 : Value} {F : Nat → Prop} (h : NS p cf df s W T all hS hR v11 v13 v12 hv F V) (g : V.grownBy V2 none) (r2 : RS V2 v2 hR2) (b2 : hR2 ≠ [] → ∀ q, v2.ownBlock = some q → V.heap.size ≤ q) : NS p cf df s W T all hS hR2 v11 v13 v2 hv F V2 := by
  have h' := h.new g
  have l1 := h.al.lt
  have l2 := h.tk.lt
  have l3 := h.st.own.lt
  refine ⟨h'.st, h'.al, h'.tk, r2, fun q e => ?_, fun q e => ?_, fun hn q e => ?_, h.hb, h.pw, h.sw, h'.gx⟩
  · obtain ⟨x1, x2, x3, _⟩ := h.d1 q e
    exact ⟨x1, x2, x3, fun hn e' => by have := b2 hn q e'; have := (l1 q e).2; omega⟩
  · obtain ⟨x1, x2, _⟩ := h.d2 q e
    exact ⟨x1, x2, fun hn e' => by have := b2 hn q e'; have := (l2 q e).2; omega⟩
  · have := b2 hn q e
    exact ⟨Nat.le_trans h.gx.size this, fun e' => by have := (l3 q e').2; omega⟩
theorem NS.appA {p : Value} {cf : Int → Int} {df : Int → List Int} {s : Nat} {W V V2 : World} {T all all2 hS hR : List Int} {v11 v13 v12 hv v11' : Value} {F : Nat → Prop} (h : NS p cf df s W T all hS hR v11 v13 v12 hv F V) (o : OwnN V2 W.heap.size v11' all2) (g : V.grownBy V2 v11.ownBlock) (b : v11'.ownBlock = v11.ownBlock ∨ ∃ k, v11'.ownBlock = some k ∧ V.heap.size ≤ k) : NS p cf df s W T all2 hS hR v11' v13 v12 hv F V2 := by
  have l1 := h.al.lt
  have l2 := h.tk.lt
  have l3 := h.st.own.lt
  have lF := h.st.nd.lt
  refine ⟨h.st.grown g (fun e => by have := (l1 s e).1; have := h.sw; omega) (fun k e => (h.d1 k e).1) (fun k e e' => (h.d1 k e').2.1 e), o, h.tk.kept g (fun k e e' => (h.d1 k e').2.2.1 e), h.hd.heap (fun hn k e => g.block k (h.hd.lt hn k e) (fun e' => (h.d1 k e'.symm).2.2.2 hn e)), fun q e => ?_, h.d2, h.d3, h.hb, h.pw, h.sw, h.gx.step g (fun k e => .inr (l1 k e).1)⟩
  rcases b with b | ⟨k, b, hk⟩
  · exact h.d1 q (by rw [← b]; exact e)
  · rw [b] at e
    cases e
    exact ⟨fun hf => by have := lF _ hf; omega, fun e' => by have := (l3 _ e').2; omega, fun e' => by have := (l2 _ e').2; omega, fun hn e' => by have := h.hd.lt hn _ e'; omega⟩
theorem NS.appT {p : Value} {cf : Int → Int} {df : Int → List Int} {s : Nat} {W V V2 : World} {T T2 all hS hR : List Int} {v11 v13 v12 hv v13' : Value} {F : Nat → Prop} (h : NS p cf df s W T all hS hR v11 v13 v12 hv F V) (o : OwnN V2 W.heap.size v13' T2) (g : V.grownBy V2 v13.ownBlock) (b : v13'.ownBlock = v13.ownBlock ∨ ∃ k, v13'.ownBlock = some k ∧ V.heap.size ≤ k) : NS p cf df s W T2 all hS hR v11 v13' v12 hv F V2 := by
  have l1 := h.al.lt
  have l2 := h.tk.lt
  have l3 := h.st.own.lt
  have lF := h.st.nd.lt
  refine ⟨h.st.grown g (fun e => by have := (l2 s e).1; have := h.sw; omega) (fun k e => (h.d2 k e).1) (fun k e e' => (h.d2 k e').2.1 e), h.al.kept g (fun k e e' => (h.d1 k e).2.2.1 e'), o, h.hd.heap (fun hn k e => g.block k (h.hd.lt hn k e) (fun e' => (h.d2 k e'.symm).2.2 hn e)), fun q e => ?_, fun q e => ?_, h.d3, h.hb, h.pw, h.sw, h.gx.step g (fun k e => .inr (l2 k e).1)⟩
  · obtain ⟨x1, x2, x3, x4⟩ := h.d1 q e
    refine ⟨x1, x2, fun e' => ?_, x4⟩
    rcases b with b | ⟨k, b, hk⟩
    · rw [b] at e'; exact x3 e'
    · rw [b] at e'
      cases e'
      have := (l1 _ e).2
      omega
  · rcases b with b | ⟨k, b, hk⟩
    · exact h.d2 q (by rw [← b]; exact e)
    · rw [b] at e
      cases e
      exact ⟨fun hf => by have := lF _ hf; omega, fun e' => by have := (l3 _ e').2; omega, fun hn e' => by have := h.hd.lt hn _ e'; omega⟩
theorem psh_more (f : Int → Int) (df : Int → List Int) (T : List Int) (x : Int) (A H f1 H1 : List Int) (h : psh f [] (T.flatMap df) = (A, H)) (k : psh f H (df x) = (f1, H1)) : psh f [] ((T ++ [x]).flatMap df) = (A ++ f1, H1) := by
  rw [List.flatMap_append, psh_append, h]
  have : ([x] : List Int).flatMap df = df x := by simp
  rw [this, k]
theorem take_fil (l : List Int) (i : Nat) (x : Int) (h : l[i]? = some x) : (l.take (i + 1)).filter scal = (l.take i).filter scal ++ if scal x = true then [x] else [] := by
  rw [List.take_add_one, h, List.filter_append]
  cases hp : scal x <;> simp [hp]
theorem NS.end_ {p : Value} {cf : Int → Int} {df : Int → List Int} {s : Nat} {W V V2 : World} {T all hS hR : List Int} {v11 v13 v12 hv : Value} {F : Nat → Prop} (h : NS p cf df s W T all hS hR v11 v13 v12 hv F V)
    (S2 : Strm V2 s p cf df F (.slice none 0 0) []) (g : V.grownBy V2 (some s)) : NS p cf df s W T all [] hR v11 v13 v12 (.slice none 0 0) F V2 := by
  have hs := h.sw
  refine ⟨S2, h.al.kept g (fun k e e' => by cases e'; have := (h.al.lt s e).1; omega), h.tk.kept g (fun k e e' => by cases e'; have := (h.tk.lt s e).1; omega), h.hd.heap fun hn k e => g.block k (h.hd.lt hn k e) (fun e' => by cases e'; have := (h.d3 hn s e).1; omega), fun q e => ?_, fun q e => ?_, fun hn q e => ⟨(h.d3 hn q e).1, fun e' => by cases e'⟩, (fun q e => by cases e), h.pw, h.sw, h.gx.step g (fun k e => by cases e; exact .inl (.inr rfl))⟩
  · obtain ⟨x1, _, x3, x4⟩ := h.d1 q e
    exact ⟨x1, (fun e' => by cases e'), x3, x4⟩
  · obtain ⟨x1, _, x3⟩ := h.d2 q e
    exact ⟨x1, (fun e' => by cases e'), x3⟩
/-- Between the rounds. -/
def SInv (p : Value) (f : Int → Int) (df : Int → List Int) (s : Nat) (W : World) (l : List Int) (i : Nat) (v11 v12 v13 : Value) (V : World) : Prop :=
  ∃ hv F, NS p f df s W ((l.take i).filter scal) (psh f [] (((l.take i).filter scal).flatMap df)).1 (psh f [] (((l.take i).filter scal).flatMap df)).2 (psh f [] (((l.take i).filter scal).flatMap df)).2 v11 v13 v12 hv F V

set_option maxHeartbeats 8000000 in
theorem stream_walk (w : World) (vc vd vl : Value) (c : List Cls) (d : List Dec) (l : List Int) (hT : Dat w vc vd c d) (hR : RS w vl l) (h : good c d = true) (hc : c.length ≤ 200) (hd : d.length ≤ 200) (hl : l.length ≤ 500) :
    Calls Tryz.prog 7 #[vc, vd, vl] w fun e w' => e = .returned (.bool true) ∧ Below w.heap.size w w' := by
  have hA := fun w => mawake_any w
  have hD := fun W (hg : w.grownBy W none) => data_any vc vd c d W (hT.all hg) h hc hd
  have rP := fun v held r V (hT : Dat V vc vd c d) hr hl => rPush_any vc vd v c d held r V hT h hr hl
  have rN := fun v T V (hT : Dat V vc vd c d) hr hl hsc hll => rNFD_ok vc vd v c d T V hT hr hl h hsc hll
  have hdl7 := told_length d
  have hTw := Lib.hid hT
  have hRw := Lib.hid hR
  have hdn : decide ((500 : Int) < (l.length : Int)) = false := by simp; omega
  obtain ⟨a1, c1, rfl, _, _⟩ := hT.1.form
  obtain ⟨a2, c2, rfl, _, _⟩ := hT.2.form
  obtain ⟨a3, c3, rfl, _⟩ := id hR
  clear h hT hR hc hd
  generalize c.length = cl at *
  generalize d.length = dl at *
  generalize clsOf c = f at *
  generalize told' d = df at *
  have hfl := fun T : List Int => flatMap_len hdl7 T
  have hpo := fun T : List Int => psh_ord f (T.flatMap df) []
  obtain ⟨n, hn⟩ : ∃ n, n = l.length := ⟨_, rfl⟩
  have HN := Lib.hid hn
  rw [← hn] at hl hRw hdn ⊢
  replace rP := Lib.hid rP
  replace rN := Lib.hid rN
  replace hfl := Lib.hid hfl
  replace hpo := Lib.hid hpo
  clear hdl7 hn
  go_enter Tryz.func7, Tryz.ntmps7
  go_wp2_with fail
  go_at_call 19
  refine (hA _).mono ?_
  rintro e w1 ⟨rfl, hg1⟩
  have hD1 := hD w1 hg1
  clear hD hA
  go_wp2_with fail
  go_at_call 27
  refine hD1.mono ?_
  rintro e w2 ⟨pn, rfl, hm, ⟨F, hN2, _⟩, hg2⟩
  clear hD1
  obtain ⟨W0, hW0, hgW0, hX0⟩ := boxed_data w2 (.slice a1 cl c1) (.slice a2 dl c2)
  have hpn := nd_plt hN2 pn rfl
  have hNew := new_strm (.pointer (some ⟨pn, 0, none⟩)) f df F W0 (hN2.new hgW0)
  have hbx : W0.heap.size = w2.heap.size + 1 := by rw [hW0, World.size_alloc]
  replace hW0 := Lib.hid hW0
  replace hbx := Lib.hid hbx
  go_wp2_with fail
  rw [← hW0.out]
  go_at_call 31
  refine hNew.mono ?_
  rintro e W ⟨rfl, hSW, hgW⟩
  clear hNew hW0
  have hwW : w.grownBy W none := (((hg1.trans hg2).trans hgW0).trans hgW)
  have hsW := hSW.at_.lt
  have hz1 := hg1.size
  have hz2 := hg2.size
  have key : ∀ V, GX (fun k => (.pointer (some ⟨pn, 0, none⟩) : Value) = .pointer (some ⟨k, 0, none⟩) ∨ k = W0.heap.size) W V → ∀ k, k < w.heap.size → V.heap[k]? = w.heap[k]? := fun V hg k hk =>
    (hg.block k (Nat.lt_of_lt_of_le hk hwW.size) (fun hh => by
      have := hbx.out
      rcases hh with h | h
      · cases h; omega
      · omega)).trans (hwW.block k hk (by simp))
  have hLV : Hid (∀ V, GX (fun k => (.pointer (some ⟨pn, 0, none⟩) : Value) = .pointer (some ⟨k, 0, none⟩) ∨ k = W0.heap.size) W V → RS V (.slice a3 n c3) l) := Lib.hid fun V hg => hRw.out.heap fun hne k e => key V hg k (hRw.out.lt hne k e)
  have hDV : Hid (∀ V, GX (fun k => (.pointer (some ⟨pn, 0, none⟩) : Value) = .pointer (some ⟨k, 0, none⟩) ∨ k = W0.heap.size) W V → Dat V (.slice a1 cl c1) (.slice a2 dl c2) c d) := Lib.hid fun V hg => ⟨hTw.out.1.heap fun a k e => key V hg k (hTw.out.1.lt a k e), hTw.out.2.heap fun a k e => key V hg k (hTw.out.2.lt a k e)⟩
  have hXV : Hid (∀ V, GX (fun k => (.pointer (some ⟨pn, 0, none⟩) : Value) = .pointer (some ⟨k, 0, none⟩) ∨ k = W0.heap.size) W V → V.cell? ⟨w2.heap.size, 0, none⟩ = some (.slice a1 cl c1) ∧ V.cell? ⟨w2.heap.size, 1, none⟩ = some (.slice a2 dl c2)) := Lib.hid fun V hg => by
    have hb : V.heap[w2.heap.size]? = W.heap[w2.heap.size]? := hg.block _ (by have := hbx.out; omega) (fun hh => by
      have := hbx.out
      rcases hh with h | h
      · cases h; omega
      · omega)
    obtain ⟨k0, k1⟩ := hX0 W hgW
    exact ⟨by rw [World.cell?_of_block (a := ⟨w2.heap.size, 0, none⟩) hb]; exact k0, by rw [World.cell?_of_block (a := ⟨w2.heap.size, 1, none⟩) hb]; exact k1⟩
  have hfin : Hid (∀ V, GX (fun k => (.pointer (some ⟨pn, 0, none⟩) : Value) = .pointer (some ⟨k, 0, none⟩) ∨ k = W0.heap.size) W V → Below w.heap.size w V) := Lib.hid fun V hg => belowg' (((GX.of hwW (by simp)).trans hg (fun k e => .inl e) : GX _ w V).one (fun k e => .inr (by
    have := hbx.out
    rcases e with h | h
    · cases h; omega
    · omega)))
  have P0 : Aside (SInv (.pointer (some ⟨pn, 0, none⟩)) f df W0.heap.size W l 0 (.slice none 0 0) (.slice none 0 0) (.slice none 0 0) W) := by
    refine ⟨.slice none 0 0, F, hSW, OwnN.none _ _, ?_, RS.nil _, (fun q e => by cases e), (fun q e => by cases e), (fun _ q e => by cases e), (fun q e => by cases e), (fun q e => by cases e; have := hbx.out; omega), hsW, GX.refl _ _⟩
    rw [List.take_zero]
    exact OwnN.none _ _
  have hpW : pn < W.heap.size := by have := hbx.out; omega
  clear key hwW hgW hgW0 hX0 hg1 hg2 hN2 hSW hTw hRw hz1 hz2 hm hpn
  go_wp2_with fail
  generalize W0.heap.size = s at *
  generalize w2.heap.size = bx at *
  go_loopw [11, 12, 13, 43] (fun v11 v12 v13 v43 wr => ∃ i : Nat, v43 = .int .i64 (i : Int) ∧ i ≤ n ∧ Aside (SInv (.pointer (some ⟨pn, 0, none⟩)) f df s W l i v11 v12 v13 wr)) (fun _ _ _ v43 _ => n - (RowKit.intOf v43).toNat)
  case atStart => exact ⟨0, rfl, Nat.zero_le _, P0⟩
  case round =>
    clear P0
    obtain ⟨i, rfl, hi, hM⟩ := hrel
    obtain ⟨hv, F, M⟩ := hM.out
    by_cases hlt : i < n
    · obtain ⟨x, hx⟩ : ∃ x, l[i]? = some x := ⟨_, List.getElem?_eq_getElem (by have := HN.out; omega)⟩
      have hti := take_fil l i x hx
      have hTl : ((l.take i).filter scal).length ≤ i := Nat.le_trans (List.length_filter_le _ _) (by rw [List.length_take]; omega)
      have hcx0 := RS.cell (hLV.out _ M.gx) hx
      obtain ⟨T, hT⟩ : ∃ T, T = (l.take i).filter scal := ⟨_, rfl⟩
      rw [← hT] at hti hTl M
      have hft := hfl.out T
      obtain ⟨pp, hpp⟩ : ∃ pp, pp = psh f [] (T.flatMap df) := ⟨_, rfl⟩
      have hpl := psh_len f (T.flatMap df) []
      rw [← hpp] at M hpl
      obtain ⟨A, H⟩ := pp
      dsimp only [List.length_nil] at M hpl
      have hAH : A.length + H.length ≤ 3500 := by omega
      obtain ⟨a11, c11, rfl⟩ := M.al.form
      obtain ⟨a13, c13, rfl⟩ := M.tk.form
      obtain ⟨a12, c12, rfl, _⟩ := id M.hd
      obtain ⟨b3, o3, rfl, hcx⟩ := hcx0
      replace hpp := Lib.hid hpp
      replace hti := Lib.hid hti
      replace M := Lib.hid M
      clear hM hT hx hft hpl
      have hSc := fun w => scal4 x w
      cases hsx : scal x with
      | false =>
        rw [hsx] at hSc
        have hPn := push_none s x wr hsx M.out.st.at_.made
        have hH := held_any s _ f df F hv H wr M.out.st
        generalize H.length = mH at *
        generalize A.length = mA at *
        generalize T.length = mT at *
        have Q : Aside (SInv (.pointer (some ⟨pn, 0, none⟩)) f df s W l (i + 1) (.slice a11 mA c11) (.slice a12 mH c12) (.slice a13 mT c13) wr) := by
          show SInv _ _ _ _ _ _ _ _ _ _ _
          unfold SInv
          rw [hti.out, hsx, if_neg (by simp), List.append_nil, ← hpp.out]
          exact ⟨hv, F, M.out⟩
        clear hsx hti M
        go_wp2_with (first
          | (go_at_call 32; refine hPn.mono ?_; rintro e w' ⟨rfl, rfl⟩)
          | (go_at_call 33; refine (hSc _).mono ?_; rintro e w' ⟨rfl, rfl⟩)
          | (go_at_call 34; refine hH.mono ?_; rintro e w' ⟨rfl, rfl⟩))
        go_roundw
        case rel => exact ⟨i + 1, by go_num, by omega, Q⟩
        case measure => simp [RowKit.intOf]; omega
      | true =>
        rw [hsx] at hSc
        obtain ⟨y, hy⟩ : ∃ y, psh f H (df x) = y := ⟨_, rfl⟩
        have hyl := psh_len f (df x) H
        have hd7 : (df x).length ≤ 7 := by have := hfl.out [x]; simpa using this
        have hP1 := push_any s _ f df F hv H x wr M.out.st hsx (by omega)
        have hRP := fun v V hT hr => rP.out v H x V hT hr (by omega)
        rw [hy] at hyl hP1 hRP
        obtain ⟨f1, H1⟩ := y
        dsimp only at hyl hP1 hRP
        have hmore := psh_more f df T x A H f1 H1 hpp.out.symm hy
        have hbd : f1.length + H1.length ≤ 3507 := by omega
        replace hmore := Lib.hid hmore
        replace hRP := Lib.hid hRP
        obtain ⟨mA, hmA⟩ : ∃ mA, mA = A.length := ⟨_, rfl⟩
        obtain ⟨mT, hmT⟩ : ∃ mT, mT = T.length := ⟨_, rfl⟩
        obtain ⟨mH, hmH⟩ : ∃ mH, mH = H.length := ⟨_, rfl⟩
        rw [← hmA] at M hAH ⊢
        rw [← hmT] at M hTl ⊢
        rw [← hmH] at M hAH ⊢
        have HMA := Lib.hid hmA
        have HMT := Lib.hid hmT
        clear hy hyl hd7 hpp hmA hmT hmH
        go_wp2_with fail
        go_at_call 32
        refine hP1.mono ?_
        rintro e V1 ⟨a16, n16, rfl, hn16, hr16, hv2, F2, S2, _, f2, b2, g2⟩
        have M1 := Lib.hid (M.out.push S2 f2 b2 g2)
        have hrp := hRP.out _ V1 (hDV.out _ M1.out.gx) M1.out.hd
        obtain ⟨k0, k1⟩ := hXV.out _ M1.out.gx
        have hr16' := hr16.reads
        replace hn16 := Lib.hid hn16
        clear hP1 M S2 f2 b2 g2 hr16 hRP hcx
        go_wp2_with (go_at_call 33; refine (hSc _).mono ?_; rintro e w' ⟨rfl, rfl⟩)
        go_at_call 35
        refine hrp.mono ?_
        rintro e V2 ⟨v18, v12, rfl, hr18, hr12, g2, b2⟩
        have M2 := Lib.hid (M1.out.held g2 hr12 (fun _ => b2))
        have hsm := runes_same _ _ f1 V2 (hr16'.new g2) hr18 (by omega)
        have hr16 := Lib.hid (hr16'.new g2)
        obtain ⟨a18, c18, rfl, _⟩ := hr18
        obtain ⟨a12', c12', rfl, _⟩ := hr12
        rw [← hn16.out] at hsm ⊢
        obtain ⟨mH1, hmH1⟩ : ∃ mH1, mH1 = H1.length := ⟨_, rfl⟩
        rw [← hmH1] at M2 ⊢
        replace hmH1 := Lib.hid hmH1
        clear hrp M1 k0 k1 hr16' b2 g2 hSc
        go_wp2_with fail
        go_at_call 30
        refine hsm.mono ?_
        rintro e V3 ⟨rfl, q3, rfl⟩
        have g3 : V2.grownBy (V2.drewN q3) none := gdrewN (World.grownBy.refl _ _) q3
        have M3 := Lib.hid (M2.out.new g3)
        have hr3 := hr16.out.new g3
        have hH := held_any s _ f df F2 hv2 H1 _ M3.out.st
        rw [← hmH1.out] at hH
        generalize V2.drewN q3 = V3 at *
        clear hsm M2 hr16 g3
        have hz3 := M3.out.gx.size
        have hn4 : Hid ((A ++ f1).length = mA + n16) := Lib.hid (by rw [List.length_append, HMA.out, hn16.out])
        have hn5 : Hid ((T ++ [x]).length = mT + 1) := Lib.hid (by rw [List.length_append, HMT.out]; rfl)
        have hl4 : A.length + f1.length ≤ 1099511627776 := by have := HMA.out; omega
        have hl5 : T.length + ([x] : List Int).length ≤ 1099511627776 := by have := HMT.out; simp; omega
        replace hl4 := Lib.hid hl4
        replace hl5 := Lib.hid hl5
        go_wp2_with (first
          | (go_at_call 34; refine hH.mono ?_; rintro e w' ⟨rfl, rfl⟩)
          | (at_builtin; refine wpList_append_rs _ rfl (.tmp 92) (.tmp 93) 50 rfl W.heap.size Tryz.underlying50 (.slice a11 mA c11) A rfl M3.out.al (.slice a16 n16 n16) f1 rfl hr3 hl4.out hz3 ?_; intro v4 w4 ho4 hg4 hb4; have M4 := Lib.hid (M3.out.appA ho4 hg4 hb4); obtain ⟨a4, c4, rfl⟩ := ho4.form; rw [hn4.out] at M4 ⊢; have hz4 := M4.out.gx.size; clear ho4 hg4 hb4 M3 hr3 hH hz3)
          | (at_builtin; refine wpList_append_rs _ rfl (.tmp 95) (.tmp 97) 50 rfl W.heap.size Tryz.underlying50 (.slice a13 mT c13) T rfl (M4.out.new (World.grownBy_alloc w4 (.cells #[.int .i32 x] 21) none)).tk _ [x] rfl (rs_lit x _) hl5.out (by rw [World.size_alloc]; omega) ?_; intro v5 w5 ho5 hg5 hb5; have M5 := Lib.hid ((M4.out.new (World.grownBy_alloc w4 (.cells #[.int .i32 x] 21) none)).appT ho5 hg5 hb5); obtain ⟨a5, c5, rfl⟩ := ho5.form; rw [hn5.out] at M5 ⊢; clear ho5 hg5 hb5 M4))
        have Q : Aside (SInv (.pointer (some ⟨pn, 0, none⟩)) f df s W l (i + 1) (.slice a4 (mA + n16) c4) (.slice a12' mH1 c12') (.slice a5 (mT + 1) c5) w5) := by
          show SInv _ _ _ _ _ _ _ _ _ _ _
          unfold SInv
          rw [hti.out, hsx, if_pos rfl, hmore.out]
          exact ⟨hv2, F2, M5.out⟩
        clear M5 hsx
        go_roundw
        case rel => exact ⟨i + 1, by go_num, by omega, Q⟩
        case measure => simp [RowKit.intOf]; omega
    · obtain rfl : n = i := by omega
      rw [HN.out, List.take_length] at M
      have hTl : (l.filter scal).length ≤ l.length := List.length_filter_le _ _
      have hsc : ∀ r ∈ l.filter scal, scal r = true := fun r hr => (List.mem_filter.1 hr).2
      obtain ⟨T, hT⟩ : ∃ T, T = l.filter scal := ⟨_, rfl⟩
      rw [← hT] at M hTl hsc
      have hft := hfl.out T
      obtain ⟨pp, hpp⟩ : ∃ pp, pp = psh f [] (T.flatMap df) := ⟨_, rfl⟩
      have hpl := psh_len f (T.flatMap df) []
      have hpo1 := hpo.out T
      rw [← hpp] at M hpl hpo1
      obtain ⟨A, H⟩ := pp
      dsimp only [List.length_nil] at M hpl hpo1
      rw [List.nil_append] at hpo1
      have hAH : A.length + H.length ≤ 3500 := by have := HN.out; omega
      have hnf : A ++ ord f H = nf f df T := hpo1.symm
      have hol := ord_length f H
      obtain ⟨a11, c11, rfl⟩ := M.al.form
      obtain ⟨a13, c13, rfl⟩ := M.tk.form
      obtain ⟨a12, c12, rfl, _⟩ := id M.hd
      have hE := end_any s _ f df F hv H wr M.st (by omega)
      have hl4 : A.length + (ord f H).length ≤ 1099511627776 := by omega
      have hnl : (nf f df T).length ≤ 3500 := by rw [← hnf, List.length_append]; omega
      have hRN := fun v V hT hr => rN.out v T V hT hr (by have := HN.out; omega) hsc (by have := HN.out; omega)
      obtain ⟨mH, hmH⟩ : ∃ mH, mH = H.length := ⟨_, rfl⟩
      obtain ⟨mA, hmA⟩ : ∃ mA, mA = A.length := ⟨_, rfl⟩
      rw [← hmH] at hE ⊢
      rw [← hmA] at M ⊢
      generalize T.length = mT at *
      have hn4 : Hid ((A ++ ord f H).length = mA + mH) := Lib.hid (by rw [List.length_append, hol, hmA, hmH])
      replace hol := Lib.hid hol
      replace hmH := Lib.hid hmH
      replace hl4 := Lib.hid hl4
      replace hnl := Lib.hid hnl
      replace hnf := Lib.hid hnf
      replace hRN := Lib.hid hRN
      replace M := Lib.hid M
      have HMA := Lib.hid hmA
      clear hM hpl hpo1 hft hAH hT hpp hsc hTl hmA
      go_wp2_with (first
        | (go_at_call 36; refine hE.mono ?_; rintro e w4 ⟨a4, rfl, hr4, S4, g4⟩; have M4 := Lib.hid (M.out.end_ S4 g4); have hr4 := hr4.reads; have hz4 := M4.out.gx.size; clear hE M S4 g4)
        | (at_builtin; refine wpList_append_rs _ rfl (.tmp 100) (.tmp 102) 50 rfl W.heap.size Tryz.underlying50 (.slice a11 mA c11) A rfl M4.out.al (.slice a4 mH mH) (ord f H) rfl hr4 hl4.out hz4 ?_; intro v5 w5 ho5 hg5 hb5; have M5 := Lib.hid (M4.out.appA ho5 hg5 hb5); obtain ⟨a5, c5, rfl⟩ := ho5.form; rw [hn4.out] at M5 ⊢; have hN5 := hRN.out _ w5 (hDV.out _ M5.out.gx) M5.out.tk.ro.reads; obtain ⟨k0, k1⟩ := hXV.out _ M5.out.gx; clear ho5 hg5 hb5 M4 hr4 hz4)
        | (go_at_call 37; refine hN5.mono ?_; rintro e w6 ⟨v6, rfl, ho6, g6⟩; have M6 := Lib.hid (M5.out.new g6); have hH6 := held_any s _ f df F _ [] w6 M6.out.st; have hr6 := ho6.ro.reads; have hra := M6.out.al.ro.reads; rw [hnf.out] at hra; have hsm := runes_same _ _ _ w6 hra hr6 (by have := hnl.out; omega); obtain ⟨a6, c6, rfl⟩ := ho6.form; generalize (nf f df T).length = m6 at *; have hfi := hfin.out _ M6.out.gx; clear M5 hN5 ho6 g6 hr6 hra k0 k1)
        | (go_at_call 34; refine hH6.mono ?_; rintro e w' ⟨rfl, rfl⟩)
        | (go_at_call 30; refine hsm.mono ?_; rintro e w7 ⟨rfl, q7, rfl⟩))
      go_ret
      exact ⟨rfl, hfin.out _ ((M6.out.new (gdrewN (World.grownBy.refl _ _) q7)).gx)⟩

theorem NormStream_walk (w : World) (a1 : Option Addr) (l1 c1 : Nat) (c : List Cls) (hc : Tri .i64 w (.slice a1 l1 c1) c) (a2 : Option Addr) (l2 c2 : Nat) (d : List Dec) (hd : Tri .i32 w (.slice a2 l2 c2) d) (a3 : Option Addr) (l3 c3 : Nat) (l : List Int) (hl : RS w (.slice a3 l3 c3) l) :
    Calls Tryz.prog 7 #[.slice a1 l1 c1, .slice a2 l2 c2, .slice a3 l3 c3] w fun e w' => e = .returned (.bool true) ∧ Below w.heap.size w w' := by
  by_cases h1 : 200 < c.length ∨ 200 < d.length ∨ good c d = false
  · exact stream_none w _ _ _ c d l ⟨hc, hd⟩ hl h1
  · have hg : good c d = true := by
      cases h : good c d with
      | true => rfl
      | false => exact absurd (.inr (.inr h)) h1
    have k1 : c.length ≤ 200 := by omega
    have k2 : d.length ≤ 200 := by omega
    by_cases h2 : 500 < l.length
    · exact stream_long w _ _ _ c d l ⟨hc, hd⟩ hl hg k1 k2 h2
    · exact stream_walk w _ _ _ c d l ⟨hc, hd⟩ hl hg k1 k2 (by omega)
end Go.Proofs.YtpdacbiiaglodaaGreat
