/-
  LAYER 6 (norm): Push.
-/
import Derived.Test.YtpdacbiiaglodaaGreatQE35
namespace Go.Proofs.YtpdacbiiaglodaaGreat
set_option maxRecDepth 100000
open Go.RowKit Go.Lib

/-- Grown, and of the elder blocks only those of P turned. -/
structure GX (P : Nat → Prop) (a b : World) : Prop where
  os : b.os = a.os
  tape : b.tape = a.tape
  output : b.output = a.output
  size : a.heap.size ≤ b.heap.size
  block : ∀ k, k < a.heap.size → ¬ P k → b.heap[k]? = a.heap[k]?
theorem GX.of {P : Nat → Prop} {a b : World} {q : Option Nat} (h : a.grownBy b q) (hq : ∀ k, q = some k → P k) : GX P a b := ⟨h.os, h.tape, h.output, h.size, fun k hk hp => h.block k hk (fun e => hp (hq k e.symm))⟩
theorem GX.refl (P : Nat → Prop) (a : World) : GX P a a := GX.of (World.grownBy.refl a none) (by simp)
theorem GX.step {P : Nat → Prop} {a b c : World} {q : Option Nat} (h : GX P a b) (g : b.grownBy c q) (hq : ∀ k, q = some k → P k ∨ a.heap.size ≤ k) : GX P a c :=
  ⟨g.os.trans h.os, g.tape.trans h.tape, g.output.trans h.output, Nat.le_trans h.size g.size, fun k hk hp => (g.block k (Nat.lt_of_lt_of_le hk h.size) (fun e => by rcases hq k e.symm with h | h; exact hp h; omega)).trans (h.block k hk hp)⟩
theorem GX.trans {P Q : Nat → Prop} {a b c : World} (h : GX P a b) (g : GX Q b c) (hq : ∀ k, Q k → P k ∨ a.heap.size ≤ k) : GX P a c :=
  ⟨g.os.trans h.os, g.tape.trans h.tape, g.output.trans h.output, Nat.le_trans h.size g.size, fun k hk hp => (g.block k (Nat.lt_of_lt_of_le hk h.size) (fun hf => by rcases hq k hf with h | h; exact hp h; omega)).trans (h.block k hk hp)⟩
theorem GX.one {P : Nat → Prop} {a b : World} {q : Option Nat} (h : GX P a b) (hq : ∀ k, P k → q = some k ∨ a.heap.size ≤ k) : a.grownBy b q := ⟨h.os, h.tape, h.output, h.size, fun k hk hne => h.block k hk (fun hf => by rcases hq k hf with h | h; exact hne h.symm; omega)⟩

theorem psh_one (cf : Int → Int) (held : List Int) (A : List Int) (x : Int) : psh cf held (A ++ [x]) = if cf x = 0 then ((psh cf held A).1 ++ ord cf (psh cf held A).2, [x]) else ((psh cf held A).1, (psh cf held A).2 ++ [x]) := by
  rw [psh_append]
  simp only [psh]
  split <;> simp
theorem psh_len (cf : Int → Int) : ∀ (xs held : List Int), (psh cf held xs).1.length + (psh cf held xs).2.length = held.length + xs.length
  | [], held => by simp [psh]
  | x :: t, held => by
    rw [psh]
    split
    · have := psh_len cf t [x]
      simp only [List.length_append, ord_length, List.length_cons, List.length_nil] at this ⊢
      omega
    · have := psh_len cf t (held ++ [x])
      simp only [List.length_append, List.length_cons, List.length_nil] at this ⊢
      omega

theorem OwnN.lt {w : World} {B : Nat} {v : Value} {l : List Int} (h : OwnN w B v l) : ∀ k, v.ownBlock = some k → B ≤ k ∧ k < w.heap.size := by
  obtain ⟨_, ⟨rfl, _⟩ | ⟨g, cap, cur, rfl, hB, hgg, _⟩⟩ := h
  · intro k e; cases e
  · intro k e
    simp [Value.ownBlock] at e
    subst e
    exact ⟨hB, (Array.getElem?_eq_some_iff.1 hgg).1⟩
theorem OwnN.kept {w w' : World} {B : Nat} {v : Value} {l : List Int} {q : Option Nat} (h : OwnN w B v l) (hg : w.grownBy w' q) (hne : ∀ k, v.ownBlock = some k → q ≠ some k) : OwnN w' B v l :=
  World.ownsRow.kept h hg (by
    cases hv : v.ownBlock with
    | none => exact .inl rfl
    | some k => exact .inr (fun e => hne k hv e.symm))
theorem Strm.grown {w w' : World} {s : Nat} {p : Value} {cf : Int → Int} {df : Int → List Int} {F : Nat → Prop} {hv : Value} {held : List Int} {q : Option Nat} (h : Strm w s p cf df F hv held) (hg : w.grownBy w' q) (h1 : q ≠ some s) (h2 : ∀ k, q = some k → ¬ F k) (h3 : ∀ k, hv.ownBlock = some k → q ≠ some k) : Strm w' s p cf df F hv held :=
  ⟨h.at_.kept hg h1, h.own.kept hg h3, h.nd.grown hg h2, h.notS, h.notB⟩
theorem Strm.new {w w' : World} {s : Nat} {p : Value} {cf : Int → Int} {df : Int → List Int} {F : Nat → Prop} {hv : Value} {held : List Int} (h : Strm w s p cf df F hv held) (hg : w.grownBy w' none) : Strm w' s p cf df F hv held := h.grown hg (by simp) (by simp) (by simp)

/-- A code point laid behind what is held. -/
theorem held_push {w2 W W6 W7 : World} {s B : Nat} {p : Value} {cf : Int → Int} {df : Int → List Int} {F : Nat → Prop} {hv hv1 ov v7 : Value} {o h1 : List Int} {x : Int} (hB : B = w2.heap.size)
    (o1 : OwnN W B ov o) (o2 : Strm W s p cf df F hv1 h1) (o3 : ∀ k, hv1.ownBlock = some k → hv.ownBlock = some k ∨ B ≤ k) (o4 : ∀ k, ov.ownBlock = some k → hv1.ownBlock ≠ some k) (o5 : GX (fun k => k = s ∨ hv.ownBlock = some k) w2 W)
    (hsB : s < B) (hF : ∀ k, F k → k < B) (g6 : W.grownBy W6 none) (g7 : W6.grownBy W7 hv1.ownBlock) (a7 : OwnN W7 (s + 1) v7 (h1 ++ [x])) (b7 : v7.ownBlock = hv1.ownBlock ∨ ∃ k, v7.ownBlock = some k ∧ W6.heap.size ≤ k) :
    OwnN (W7.setCell ⟨s, 2, none⟩ v7) B ov o ∧ Strm (W7.setCell ⟨s, 2, none⟩ v7) s p cf df F v7 (h1 ++ [x]) ∧ (∀ k, v7.ownBlock = some k → hv.ownBlock = some k ∨ B ≤ k) ∧ (∀ k, ov.ownBlock = some k → v7.ownBlock ≠ some k) ∧ GX (fun k => k = s ∨ hv.ownBlock = some k) w2 (W7.setCell ⟨s, 2, none⟩ v7) := by
  have gs := grownBy_setCell' W7 s v7
  have gs2 : W7.grownBy (W7.setCell ⟨s, 2, none⟩ v7) (some s) := gset (World.grownBy.refl W7 _) 2 v7
  have hl1 := o2.own.lt
  have hl0 := o1.lt
  have hs1 : hv1.ownBlock ≠ some s := fun e => by have := (hl1 s e).1; omega
  have hsz := o5.size
  have hB7 : ∀ k, v7.ownBlock = some k → hv1.ownBlock = some k ∨ W.heap.size ≤ k := fun k e => by
    rcases b7 with h | ⟨k', h, h'⟩
    · exact .inl (h ▸ e)
    · rw [h] at e; cases e; exact .inr (Nat.le_trans g6.size h')
  refine ⟨((o1.kept g6 (by simp)).kept g7 (fun k e => o4 k e)).kept gs2 (fun k e e' => by cases e'; have := (hl0 s e).1; omega), ⟨(((o2.at_.kept g6 (by simp)).kept g7 hs1).setHeld v7), a7.kept gs2 (fun k e e' => by cases e'; have := (a7.lt s e).1; omega), ((o2.nd.new g6).grown g7 (fun k e => o2.notB k e)).grown gs2 (fun k e => by cases e; exact o2.notS), o2.notS, fun k e hf => ?_⟩, fun k e => ?_, fun k e e' => ?_, (o5.step g6 (by simp)).step g7 (fun k e => ?_) |>.step gs2 (fun k e => by cases e; exact .inl (.inl rfl))⟩
  · rcases hB7 k e with h | h
    · exact o2.notB k h hf
    · have := hF k hf; omega
  · rcases hB7 k e with h | h
    · exact o3 k h
    · right; omega
  · rcases hB7 k e' with h | h
    · exact o4 k e h
    · have := (hl0 k e).2; omega
  · rcases o3 k e with h | h
    · exact .inl (.inr h)
    · right; omega

theorem rs_lit (x : Int) (w : World) : RS (w.alloc (.cells #[.int .i32 x] 21)) (.slice (some ⟨w.heap.size, 0, none⟩) 1 1) [x] := by
  refine ⟨_, 1, rfl, Nat.le_refl _, by unfold maxLen; omega, (fun e => by cases e), fun _ => ⟨_, 0, rfl, fun i u hu => ?_⟩⟩
  have hn := World.alloc_heap_new w (.cells #[.int .i32 x] 21)
  cases i with
  | zero => simp at hu; subst hu; simp only [World.cell?, hn]; rfl
  | succ i => simp at hu
theorem Strm.noS {w : World} {s : Nat} {p : Value} {cf : Int → Int} {df : Int → List Int} {F : Nat → Prop} {hv : Value} {held : List Int} (h : Strm w s p cf df F hv held) : hv.ownBlock ≠ some s := fun e => by have := (h.own.lt s e).1; omega

/-- Between the rounds of Push. -/
def PInv (s : Nat) (p : Value) (cf : Int → Int) (df : Int → List Int) (F : Nat → Prop) (hv : Value) (held : List Int) (w2 : World) (A : List Int) (ov : Value) (W : World) : Prop :=
  ∃ hv', OwnN W w2.heap.size ov (psh cf held A).1 ∧ Strm W s p cf df F hv' (psh cf held A).2 ∧ (∀ k, hv'.ownBlock = some k → hv.ownBlock = some k ∨ w2.heap.size ≤ k) ∧ (∀ k, ov.ownBlock = some k → hv'.ownBlock ≠ some k) ∧ GX (fun k => k = s ∨ hv.ownBlock = some k) w2 W

set_option maxHeartbeats 8000000 in
theorem push_walk (s : Nat) (p : Value) (cf : Int → Int) (df : Int → List Int) (F : Nat → Prop) (hv : Value) (held : List Int) (r : Int) (w : World) (h : Strm w s p cf df F hv held) (hsc : scal r = true) (hlen : held.length + (df r).length < 1099511627776) (xs : List Int) (hxs : xs = df r) :
    Calls Tryz.prog 32 #[.pointer (some ⟨s, 0, none⟩), .int .i32 r] w fun e w' => ∃ a n, e = .returned (.tuple #[.slice a n n, .int .i64 0]) ∧ n = (psh cf held xs).1.length ∧ RO w.heap.size w' (.slice a n n) (psh cf held xs).1 ∧ ∃ hv' F', Strm w' s p cf df F' hv' (psh cf held xs).2 ∧ (∀ k, F k → F' k) ∧ (∀ k, F' k → F k ∨ w.heap.size ≤ k) ∧
      (∀ k, hv'.ownBlock = some k → hv.ownBlock = some k ∨ w.heap.size ≤ k) ∧ GX (fun k => p = .pointer (some ⟨k, 0, none⟩) ∨ k = s ∨ hv.ownBlock = some k) w w' := by
  have hm := sMade s true w h.at_.made
  have hS := fun w => scal_utf.Scalar r w
  rw [hsc] at hS
  have hD := nd_decomp r h.nd
  rw [← hxs] at hD hlen
  have c1 := h.at_.data
  have hlt := h.at_.lt
  have hFl := h.nd.lt
  obtain ⟨hx1, hx2⟩ : True ∧ True := ⟨trivial, trivial⟩
  have H := Lib.hid h
  clear h hsc hxs hx1 hx2
  go_enter Tryz.func32, Tryz.ntmps32
  go_wp2_with (first
    | (go_at_call 67; refine hm.mono ?_; rintro e w' ⟨rfl, rfl⟩)
    | (go_at_call 68; refine (hS _).mono ?_; rintro e w' ⟨rfl, rfl⟩)
    | (go_at_call 14; refine hD.mono ?_; rintro e w2 ⟨v2, rfl, hR2, ⟨q2, hg2, hq2⟩, F', f1, f2, hN2⟩; obtain ⟨db, dc, rfl, hdb, hdne, hdl, hdm, hdc⟩ := hR2))
  have hsz2 := hg2.size
  have hhl := H.out.own.lt
  have hdb2 : db < w2.heap.size := by
    obtain ⟨u, t, rfl⟩ := List.exists_cons_of_ne_nil hdne
    exact World.block_lt_of_cell? w2 _ (hdc 0 u rfl)
  have HDC := Lib.hid hdc
  have hF2 := hN2.lt
  have P0 : PInv s p cf df F' hv held w2 [] (.slice none 0 0) w2 := by
    refine ⟨hv, OwnN.none _ _, ⟨H.out.at_.kept hg2 (fun e => H.out.notS (hq2 s e).1), H.out.own.kept hg2 (fun k e e' => H.out.notB k e (hq2 k e').1), hN2, fun hf => ?_, fun k e hf => ?_⟩, fun k e => .inl e, (fun k e => by cases e), GX.refl _ _⟩
    · rcases f2 s hf with h | h
      · exact H.out.notS h
      · omega
    · rcases f2 k hf with h | h
      · exact H.out.notB k e h
      · have := (hhl k e).2; omega
  have HF := Lib.hid (And.intro f1 f2)
  have HG := Lib.hid (And.intro hg2 hq2)
  obtain ⟨N, hN⟩ : ∃ N, N = xs.length := ⟨_, rfl⟩
  rw [← hN] at hdl hlen ⊢
  have HN := Lib.hid hN
  replace P0 : Aside (PInv s p cf df F' hv held w2 (xs.take 0) (.slice none 0 0) w2) := P0
  clear hN hdc f1 f2 hg2 hq2 hm hS hD c1 hN2
  go_loopg [6, 22] N (fun kx s6 s22 wr => ∃ (i : Nat), s22 = .int .i64 (i : Int) ∧ i ≤ N ∧ N - i ≤ kx ∧ Aside (PInv s p cf df F' hv held w2 (xs.take i) s6 wr))
  case atStart => exact ⟨0, rfl, Nat.zero_le _, Nat.le_refl _, P0⟩
  case round =>
    clear P0
    obtain ⟨i, rfl, hin, hkx, hP⟩ := hrel
    by_cases hlt2 : i < N
    · have hltz : (i : Int) < (N : Int) := by omega
      obtain ⟨x, hx⟩ : ∃ x, xs[i]? = some x := ⟨_, List.getElem?_eq_getElem (by have := HN.out; omega)⟩
      have ht : xs.take (i + 1) = xs.take i ++ [x] := by rw [List.take_add_one, hx]; rfl
      have HT := Lib.hid ht
      clear ht
      obtain ⟨hv1, o1, o2, o3, o4, o5⟩ := hP.out
      have hln := psh_len cf (xs.take i) held
      rw [List.length_take] at hln
      have hpe := psh_one cf held (xs.take i) x
      rw [← HT.out] at hpe
      generalize hpo : psh cf held (xs.take i) = po at o1 o2 hln hpe
      obtain ⟨o, h1⟩ := po
      dsimp only at o1 o2 hln hpe
      have HPE := Lib.hid hpe
      have dc : wr.cell? ⟨db, i, none⟩ = some (.int .i32 x) := by
        rw [World.cell?_of_block (a := ⟨db, i, none⟩) (o5.block db hdb2 (fun hh => by rcases hh with h | h; omega; have := (hhl db h).2; omega))]
        exact HDC.out i x hx
      have c1 := o2.at_.data
      have hlN := HN.out
      have hSt := nd_starter x o2.nd
      have hsW := o2.at_.lt
      have hbo : o.length + h1.length ≤ held.length + N := by omega
      clear hpe hpo hx hP hln hlN
      by_cases hz : cf x = 0
      · have hzb : (cf x == 0) = true := by simp [hz]
        rw [hzb] at hSt
        rw [if_pos hz] at HPE
        obtain ⟨a1, n1, rfl⟩ := o2.own.form
        obtain ⟨ao, no, rfl⟩ := o1.form
        obtain ⟨O1, O2, O3, O4, O5⟩ : Hid _ ∧ Hid _ ∧ Hid _ ∧ Hid _ ∧ Hid _ := ⟨Lib.hid o1, Lib.hid o2, Lib.hid o3, Lib.hid o4, Lib.hid o5⟩
        have hE := fun W (hg : wr.grownBy W none) => end_any s p cf df F' _ h1 W (o2.new hg) (by omega)
        have hsz5 := o5.size
        clear o1 o2 o3 o4 o5 hz hzb
        go_wp2_with (first
          | (go_at_call 16; refine hSt.mono ?_; rintro e w3 ⟨rfl, hg3⟩)
          | (go_at_call 36; refine (hE _ hg3).mono ?_; rintro e w4 ⟨a4, rfl, hr4, S4, hg4⟩; have oo4 := (O1.out.kept hg3 (by simp)).kept hg4 (fun k e e' => by cases e'; have := (O1.out.lt s e).1; omega))
          | (at_builtin; refine wpList_append_rs _ rfl _ _ 50 rfl w2.heap.size Tryz.underlying50 (.slice ao o.length no) o rfl oo4 (.slice a4 h1.length h1.length) (ord cf h1) rfl hr4.reads (by rw [ord_length]; omega) (by have := hg3.size; have := hg4.size; omega) ?_; intro v5 w5 ho5 hg5 hb5; obtain ⟨a5, m5, rfl⟩ := ho5.form; have S5 := S4.grown hg5 (fun e => by have := (oo4.lt s e).1; omega) (fun k e hf => by have := (oo4.lt k e).1; have := hF2 k hf; omega) (fun k e => by cases e); have k2 := S5.at_.held)
          | (at_builtin; refine wpList_append_rs _ rfl _ _ 50 rfl (s + 1) Tryz.underlying50 (.slice none 0 0) [] rfl ((S5.new (World.grownBy_alloc _ (.cells #[.int .i32 x] 21) none)).own) _ [x] rfl (rs_lit x _) (by simp; try omega) (by have := S5.at_.lt; rw [World.size_alloc]; omega) ?_; intro v7 w7 ho7 hg7 hb7; obtain ⟨a7, m7, rfl⟩ := ho7.form; have A7 := (S5.at_.kept (World.grownBy_alloc _ (.cells #[.int .i32 x] 21) none) (by simp)).kept hg7 S5.noS; have c7 := A7.held; have f7 := A7.free 2))
        have X5 : GX (fun k => k = s ∨ hv.ownBlock = some k) w2 w5 := ((O5.out.step hg3 (by simp)).step hg4 (fun k e => by cases e; exact .inl (.inl rfl))).step hg5 (fun k e => .inr (O1.out.lt k e).1)
        have Q := held_push (x := x) (hv := hv) (hv1 := .slice none 0 0) rfl ho5 S5 (fun k e => by cases e) (fun k e e' => by cases e') X5 (by omega) hF2 (World.grownBy_alloc w5 (.cells #[.int .i32 x] 21) none) hg7 ho7 hb7
        rw [List.nil_append] at Q
        have QP : Aside (PInv s p cf df F' hv held w2 (xs.take (i + 1)) (.slice a5 (o ++ ord cf h1).length m5) (w7.setCell ⟨s, 2, none⟩ (.slice a7 ([] ++ [x] : List Int).length m7))) := by
          show PInv _ _ _ _ _ _ _ _ _ _ _
          unfold PInv
          rw [HPE.out]
          exact ⟨_, Q⟩
        clear Q X5
        go_roundg (N - (i + 1))
        case measure => omega
        case rel => exact ⟨i + 1, by first | rfl | go_num, by omega, Nat.le_refl _, by have := QP; simp only [List.length_append, List.length_cons, List.length_nil, Nat.zero_add] at this; exact this⟩
      · have hzb : (cf x == 0) = false := by simp [hz]
        rw [hzb] at hSt
        rw [if_neg hz] at HPE
        obtain ⟨a1, n1, rfl⟩ := o2.own.form
        obtain ⟨ao, no, rfl⟩ := o1.form
        obtain ⟨O1, O2, O3, O4, O5⟩ : Hid _ ∧ Hid _ ∧ Hid _ ∧ Hid _ ∧ Hid _ := ⟨Lib.hid o1, Lib.hid o2, Lib.hid o3, Lib.hid o4, Lib.hid o5⟩
        clear o1 o2 o3 o4 o5 hz hzb
        have hsz5 := O5.out.size
        go_wp2_with (first
          | (go_at_call 16; refine hSt.mono ?_; rintro e w3 ⟨rfl, hg3⟩; have S3 := O2.out.new hg3; have k2 := S3.at_.held)
          | (at_builtin; refine wpList_append_rs _ rfl _ _ 50 rfl (s + 1) Tryz.underlying50 (.slice a1 h1.length n1) h1 rfl ((S3.new (World.grownBy_alloc _ (.cells #[.int .i32 x] 21) none)).own) _ [x] rfl (rs_lit x _) (by simp; try omega) (by have := S3.at_.lt; rw [World.size_alloc]; omega) ?_; intro v7 w7 ho7 hg7 hb7; obtain ⟨a7, m7, rfl⟩ := ho7.form; have A7 := (S3.at_.kept (World.grownBy_alloc _ (.cells #[.int .i32 x] 21) none) (by simp)).kept hg7 S3.noS; have c7 := A7.held; have f7 := A7.free 2))
        have X3 : GX (fun k => k = s ∨ hv.ownBlock = some k) w2 w3 := O5.out.step hg3 (by simp)
        have Q := held_push (x := x) (hv := hv) rfl (O1.out.kept hg3 (by simp)) S3 O3.out O4.out X3 (by omega) hF2 (World.grownBy_alloc w3 (.cells #[.int .i32 x] 21) none) hg7 ho7 hb7
        have QP : Aside (PInv s p cf df F' hv held w2 (xs.take (i + 1)) (.slice ao o.length no) (w7.setCell ⟨s, 2, none⟩ (.slice a7 (h1 ++ [x]).length m7))) := by
          show PInv _ _ _ _ _ _ _ _ _ _ _
          unfold PInv
          rw [HPE.out]
          exact ⟨_, Q⟩
        clear Q X3
        go_roundg (N - (i + 1))
        case measure => omega
        case rel => exact ⟨i + 1, by first | rfl | go_num, by omega, Nat.le_refl _, by have := QP; simp only [List.length_append, List.length_cons, List.length_nil, Nat.zero_add] at this; exact this⟩
    · obtain rfl : N = i := by omega
      obtain ⟨hv1, o1, o2, o3, o4, o5⟩ := hP.out
      have htk : xs.take N = xs := by rw [HN.out, List.take_length]
      rw [htk] at o1 o2
      have hcl := fun W => clip_any w2.heap.size u6 (psh cf held xs).1 W
      obtain ⟨ao, no, rfl⟩ := o1.form
      have hln := psh_len cf xs held
      have hlN := HN.out
      have hC := clip_any w2.heap.size _ (psh cf held xs).1 wr o1.ro (by omega)
      have HH := Lib.hid (And.intro o2 (And.intro o3 o5))
      obtain ⟨m, hm⟩ : ∃ m, m = (psh cf held xs).1.length := ⟨_, rfl⟩
      rw [← hm] at hC ⊢
      have HM := Lib.hid hm
      clear hm hcl hP o1 o2 o3 o4 o5 htk hln hlN
      go_wp2_with (go_at_call 69; refine hC.mono ?_; rintro e w3 ⟨a3, rfl, hr3, rfl⟩)
      go_ret2
      obtain ⟨o2, o3, o5⟩ := HH.out
      refine ⟨a3, m, rfl, HM.out, hr3.low hsz2, hv1, F', o2, HF.out.1, HF.out.2, fun k e => ?_, ?_⟩
      · rcases o3 k e with h | h
        · exact .inl h
        · right; omega
      · refine GX.trans (GX.of HG.out.1 (fun k e => .inl (HG.out.2 k e).2)) o5 (fun k hk => .inl (.inr hk))

theorem push_any (s : Nat) (p : Value) (cf : Int → Int) (df : Int → List Int) (F : Nat → Prop) (hv : Value) (held : List Int) (r : Int) (w : World) (h : Strm w s p cf df F hv held) (hsc : scal r = true) (hlen : held.length + (df r).length < 1099511627776) :
    Calls Tryz.prog 32 #[.pointer (some ⟨s, 0, none⟩), .int .i32 r] w fun e w' => ∃ a n, e = .returned (.tuple #[.slice a n n, .int .i64 0]) ∧ n = (psh cf held (df r)).1.length ∧ RO w.heap.size w' (.slice a n n) (psh cf held (df r)).1 ∧ ∃ hv' F', Strm w' s p cf df F' hv' (psh cf held (df r)).2 ∧ (∀ k, F k → F' k) ∧ (∀ k, F' k → F k ∨ w.heap.size ≤ k) ∧
      (∀ k, hv'.ownBlock = some k → hv.ownBlock = some k ∨ w.heap.size ≤ k) ∧ GX (fun k => p = .pointer (some ⟨k, 0, none⟩) ∨ k = s ∨ hv.ownBlock = some k) w w' := push_walk s p cf df F hv held r w h hsc hlen _ rfl
theorem push_none (s : Nat) (r : Int) (w : World) (h : scal r = false) (hm : w.cell? ⟨s, 0, none⟩ = some (.bool true)) :
    Calls Tryz.prog 32 #[.pointer (some ⟨s, 0, none⟩), .int .i32 r] w fun e w' => e = .returned (.tuple #[.slice none 0 0, .int .i64 41]) ∧ w = w' := by
  have hm := sMade s true w hm
  have hS := fun w => scal_utf.Scalar r w
  rw [h] at hS
  go_enter Tryz.func32, Tryz.ntmps32
  go_wp2_with (first
    | (go_at_call 67; refine hm.mono ?_; rintro e w' ⟨rfl, rfl⟩)
    | (go_at_call 68; refine (hS _).mono ?_; rintro e w' ⟨rfl, rfl⟩))
  go_ret2
  exact ⟨rfl, rfl⟩
theorem push_unmade (p : Value) (r : Int) (w : World) (hm : Calls Tryz.prog 67 #[p] w fun e w' => e = .returned (.bool false) ∧ w = w') :
    Calls Tryz.prog 32 #[p, .int .i32 r] w fun e w' => e = .returned (.tuple #[.slice none 0 0, .int .i64 60]) ∧ w = w' := by
  go_enter Tryz.func32, Tryz.ntmps32
  go_wp2_with (go_at_call 67; refine hm.mono ?_; rintro e w' ⟨rfl, rfl⟩)
  go_ret2
  exact ⟨rfl, rfl⟩
theorem end_unmade (p : Value) (w : World) (hm : Calls Tryz.prog 67 #[p] w fun e w' => e = .returned (.bool false) ∧ w = w') :
    Calls Tryz.prog 36 #[p] w fun e w' => e = .returned (.slice none 0 0) ∧ w = w' := by
  go_enter Tryz.func36, Tryz.ntmps36
  go_wp2_with (go_at_call 67; refine hm.mono ?_; rintro e w' ⟨rfl, rfl⟩)
  go_ret
  exact ⟨rfl, rfl⟩
theorem held_unmade (p : Value) (w : World) (hm : Calls Tryz.prog 67 #[p] w fun e w' => e = .returned (.bool false) ∧ w = w') :
    Calls Tryz.prog 34 #[p] w fun e w' => e = .returned (.int .i64 0) ∧ w = w' := by
  go_enter Tryz.func34, Tryz.ntmps34
  go_wp2_with (go_at_call 67; refine hm.mono ?_; rintro e w' ⟨rfl, rfl⟩)
  go_ret
  exact ⟨rfl, rfl⟩
end Go.Proofs.YtpdacbiiaglodaaGreat
