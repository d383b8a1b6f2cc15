/-
  LAYER 1 (fs): slices.Values, Collect, Sorted at ints.
-/
import Derived.Test.YtfgmaeaojkfakaaGreatCBase
import Derived.Test.YtfgmaeaojkfakaaGreatShelf
import Derived.Test.YtfgmaeaojkfakaaGreatRange
import Derived.Test.YtfgmaeaojkfakaaGreatQuietR
import Derived.RangeFuncBound
import Derived.TacticsInMore
import Derived.BigRegionIn
import Derived.LoopIn
import Derived.LoopNIn
import Derived.OwnWalkIn
import Derived.Sort.OwnSortedInts
namespace Go.Proofs.YtfgmaeaojkfakaaGreat
set_option maxRecDepth 100000
open Go.RowKit Go.Lib
attribute [local go_sem] Oper.semAt_some

def intV (x : Int) : Value := .int .i64 x
/-- A slice of ints reads as zs; or it is empty with an address that need lead nowhere. -/
def Ints (w : World) (v : Value) (zs : List Int) : Prop := Row w v (zs.map intV) ∨ ∃ ad : Addr, v = .slice (some ad) 0 0 ∧ zs = []

theorem Row.form {w : World} {v : Value} {vs : List Value} (h : Row w v vs) : ∃ a c, v = .slice a vs.length c := by
  rcases h with ⟨rfl, rfl⟩ | ⟨b, off, cap, rfl, _⟩
  · exact ⟨none, 0, rfl⟩
  · exact ⟨_, _, rfl⟩
theorem Row.len {w : World} {a : Option Addr} {l c : Nat} {vs : List Value} (h : Row w (.slice a l c) vs) : l = vs.length ∧ l ≤ c ∧ c ≤ maxLen := by
  rcases h with ⟨h, rfl⟩ | ⟨b, off, cap, h, h1, h2, _⟩
  · simp at h
    obtain ⟨rfl, rfl, rfl⟩ := h
    simp
  · simp at h
    obtain ⟨rfl, rfl, rfl⟩ := h
    exact ⟨rfl, h1, h2⟩
theorem Row.get {w : World} {a : Option Addr} {l c : Nat} {vs : List Value} (h : Row w (.slice a l c) vs) {i : Nat} (hi : i < vs.length) : ∃ b off, a = some ⟨b, off, none⟩ ∧ w.cell? ⟨b, off + i, none⟩ = some vs[i] := by
  rcases h with ⟨_, rfl⟩ | ⟨b, off, cap, h, _, _, hc⟩
  · simp at hi
  · simp at h
    obtain ⟨rfl, _, _⟩ := h
    exact ⟨b, off, rfl, hc i _ (List.getElem?_eq_getElem hi)⟩
theorem Row.heap {A B : World} {v : Value} {vs : List Value} (h : Row A v vs) (hb : vs ≠ [] → ∀ k, v.ownBlock = some k → B.heap[k]? = A.heap[k]?) : Row B v vs := by
  rcases h with h | ⟨b, off, cap, rfl, h1, h2, hc⟩
  · exact .inl h
  · refine .inr ⟨b, off, cap, rfl, h1, h2, fun i u hu => ?_⟩
    have hn : vs ≠ [] := by rintro rfl; simp at hu
    have := hb hn b rfl
    have h3 := hc i u hu
    simp only [World.cell?] at h3 ⊢
    rw [this]; exact h3

theorem Ints.len {w : World} {a : Option Addr} {l c : Nat} {zs : List Int} (h : Ints w (.slice a l c) zs) : l = zs.length ∧ l ≤ c ∧ c ≤ maxLen := by
  rcases h with h | ⟨ad, h, rfl⟩
  · simpa using h.len
  · simp at h
    obtain ⟨rfl, rfl, rfl⟩ := h
    simp
theorem Ints.form {w : World} {v : Value} {zs : List Int} (h : Ints w v zs) : ∃ a c, v = .slice a zs.length c := by
  rcases h with h | ⟨ad, rfl, rfl⟩
  · simpa using h.form
  · exact ⟨some ad, 0, rfl⟩
theorem Ints.get {w : World} {a : Option Addr} {l c : Nat} {zs : List Int} (h : Ints w (.slice a l c) zs) {i : Nat} (hi : i < zs.length) : ∃ b off, a = some ⟨b, off, none⟩ ∧ w.cell? ⟨b, off + i, none⟩ = some (intV zs[i]) := by
  rcases h with h | ⟨ad, h, rfl⟩
  · obtain ⟨b, off, h1, h2⟩ := Row.get h (i := i) (by simpa using hi)
    exact ⟨b, off, h1, by simpa using h2⟩
  · simp at hi
theorem Ints.heap {A B : World} {v : Value} {zs : List Int} (h : Ints A v zs) (hb : zs ≠ [] → ∀ k, v.ownBlock = some k → B.heap[k]? = A.heap[k]?) : Ints B v zs :=
  h.imp (fun h => Row.heap h (fun hne => hb (by simpa using hne))) id
theorem Ints.lt {w : World} {v : Value} {zs : List Int} (h : Ints w v zs) (hn : zs ≠ []) : ∀ k, v.ownBlock = some k → k < w.heap.size := by
  rcases h with (⟨rfl, h⟩ | ⟨b, off, cap, rfl, _, _, hc⟩) | ⟨ad, rfl, rfl⟩
  · simp at h; exact absurd h hn
  · intro k hk
    simp [Value.ownBlock] at hk
    subst hk
    obtain ⟨u, l, rfl⟩ := List.exists_cons_of_ne_nil hn
    exact World.block_lt_of_cell? w _ (hc 0 _ rfl)
  · exact absurd rfl hn
/-- What was there is read on as it was. -/
theorem Ints.all {w w' : World} {v : Value} {zs : List Int} (h : Ints w v zs) (hg : w.grownBy w' none) : Ints w' v zs :=
  h.heap fun hne k e => hg.block k (h.lt hne k e) (by simp)

abbrev ITold := Int
def iEnc (x : ITold) : Array Value := #[.int .i64 x]
def iOk (zs : List Int) (pre : List ITold) (x : ITold) (_W : World) : Prop := zs[pre.length]? = some x
def iAll (zs : List Int) (xs : List ITold) (_W : World) : Prop := xs = zs

set_option maxHeartbeats 8000000 in
theorem values1_tells (n p n0 ib : Nat) (a : Option Addr) (l c : Nat) (zs : List Int) (w : World) (hw : Boxed w p 22 (.slice a l c)) (hr : Ints w (.slice a l c) zs)
    (hp : p < n0 ∧ p ≠ ib) (hv : zs ≠ [] → ∀ k, (Value.slice a l c).ownBlock = some k → k < n0 ∧ k ≠ ib) :
    TellsO Fence.wide (n + 3) Tryz.prog 95 #[.pointer (some ⟨p, 0, none⟩)] iEnc (iOk zs) none n0 ib (iAll zs) (fun _ _ => True) w := by
  obtain ⟨rfl, hc, hm⟩ := hr.len
  unfold maxLen at hm
  intro l J Jx W hkx hn0 hJ hJx hY h0
  have hst : Boxed W p 22 (.slice a zs.length c) := (hkx.2 p hp.1 hp.2).trans hw
  have hrW : Ints W (.slice a zs.length c) zs := hr.heap (fun hne k e => hkx.2 k (hv hne k e).1 (hv hne k e).2)
  clear hw hr hkx
  have hc1 := hst.cell
  refine callsIn_of_wp Tryz.func95 rfl trivial ?_ rfl
  simp only [Tryz.ntmps95, List.size_toArray, List.length_cons, List.length_nil, Nat.reduceAdd, Nat.reduceSub, Array.replicate_succ, Array.replicate_zero, List.push_toArray, List.append_toArray, List.nil_append, List.cons_append]
  gi_wp2
  gi_loopw [7] (fun va wr => ∃ (pre : List ITold) (k : Nat), va = .int .i64 (k : Int) ∧ Hid (pre = zs.take k) ∧ k ≤ zs.length ∧ J pre wr ∧ Ints wr (.slice a zs.length c) zs ∧ n0 ≤ wr.heap.size) (fun va _ => zs.length - (RowKit.intOf va).toNat)
  case atStart => exact ⟨[], 0, rfl, Lib.hid rfl, Nat.zero_le _, h0, hrW, hn0⟩
  case round =>
    clear h0 hst hrW hn0 hc1
    obtain ⟨pre, k, rfl, hpl, hk, hj, hR, hn0⟩ := hrel
    have hpk : pre.length = k := by rw [hpl.out]; simp; omega
    by_cases hlt : k < zs.length
    · obtain ⟨b, off, rfl, hcell⟩ := hR.get (i := k) hlt
      unfold intV at hcell
      have hget : zs[pre.length]? = some zs[k] := by rw [hpk]; exact List.getElem?_eq_getElem hlt
      have hnx : Hid (pre ++ [zs[k]] = zs.take (k + 1)) := Lib.hid (by rw [hpl.out, List.take_succ_eq_append_getElem hlt])
      obtain ⟨x, hx⟩ : ∃ x, zs[k] = x := ⟨_, rfl⟩
      rw [hx] at hcell hget hnx
      obtain ⟨fn, tmps, assign, body, hy, hRd⟩ := hY pre x wr hj hget hn0
      dsimp only [iEnc] at hy
      have hRH := Lib.hid hR
      clear hR hget hx hpl
      gi_wp2
      refine hRd.mono ?_
      rintro e3 W5 (⟨rfl, hj3, hk3⟩ | ⟨rfl, hj3, hk3⟩)
      all_goals gi_wp2
      all_goals first
        | exact ⟨⟨pre ++ [x], k + 1, by go_num, hnx, by omega, hj3, hRH.out.heap (fun hne q e => hk3.2 q (hv hne q e).1 (hv hne q e).2), Nat.le_trans hn0 hk3.1⟩, by simp [RowKit.intOf]; omega⟩
        | (refine bodyPost_ret (results_none rfl _ _ _) rfl ?_; exact ⟨⟨_, rfl⟩, .inr ⟨_, trivial, hj3⟩⟩)
        | (go_end0; exact ⟨⟨_, rfl⟩, .inr ⟨_, trivial, hj3⟩⟩)
    · obtain rfl : k = zs.length := by omega
      have hall : iAll zs pre wr := by unfold iAll; rw [hpl.out, List.take_length]
      clear hR
      gi_wp2
      all_goals first
        | (refine bodyPost_ret (results_none rfl _ _ _) rfl ?_; exact ⟨⟨_, rfl⟩, .inl ⟨pre, hall, hj⟩⟩)
        | (go_end0; exact ⟨⟨_, rfl⟩, .inl ⟨pre, hall, hj⟩⟩)

theorem neq_nilSeqI (w : World) (p : Option Addr) : (binOp .eql 120 (.func (.func 95) #[] #[.pointer p]) .nilFunc).run Tryz.prog w = .ok (.bool false) w := by rfl

theorem rowForm {w : World} {B s n : Nat} {e : TypeId} {v : Value} {xs : List Value} (h : w.ownsRow B e s v n xs) : ∃ a c, v = .slice a n c := by
  obtain ⟨_, ⟨rfl, hn⟩ | ⟨g, cap, cur, rfl, _⟩⟩ := h
  · exact ⟨none, 0, by rw [hn]⟩
  · exact ⟨_, _, rfl⟩
theorem infoInt : (Tryz.prog.info? 3).map (fun i => (i.zero, i.size, i.bytes)) = some (some (.int .i64 0), 1, 8) := by kernel_rfl
theorem infoInt_parts : ∃ i0 : TypeInfo, Tryz.prog.info? 3 = some i0 ∧ i0.zero = some (.int .i64 0) ∧ i0.size = 1 ∧ i0.bytes = 8 := by
  have h := infoInt
  cases hi : Tryz.prog.info? 3 with
  | none => rw [hi] at h; cases h
  | some i =>
    rw [hi] at h
    simp only [Option.map_some, Option.some.injEq, Prod.mk.injEq] at h
    exact ⟨i, rfl, h.1, h.2.1, h.2.2⟩

set_option maxHeartbeats 8000000 in
theorem appendSeq_ints (p : Nat) (a : Option Addr) (l c : Nat) (zs : List Int) (w : World) (hw : Boxed w p 22 (.slice a l c)) (hr : Ints w (.slice a l c) zs)
    (hv : zs ≠ [] → ∀ k, (Value.slice a l c).ownBlock = some k → k < w.heap.size) (hlim : zs.length * 8 ≤ 140737488351232) :
    CallsIn Fence.wide 8 Tryz.prog 107 #[.slice none 0 0, .func (.func 95) #[] #[.pointer (some ⟨p, 0, none⟩)]] w fun e w' => ∃ v, e = .returned v ∧ w'.ownsRow w.heap.size 3 1 v zs.length (zs.map intV) ∧ w.grownBy w' none := by
  have hpl := hw.lt
  obtain ⟨i0, hi, hz0, hz1, hz2⟩ := infoInt_parts
  obtain ⟨W0, hW0⟩ : ∃ W0, W0 = w.alloc (.cells #[.slice none 0 0] 22) := ⟨_, rfl⟩
  have hB0 : Boxed W0 w.heap.size 22 (.slice none 0 0) := by rw [hW0]; exact Boxed.new w _ _
  have hg0 : w.grownBy W0 none := by rw [hW0]; exact World.grownBy_alloc w _ none
  have hs0 : W0.heap.size = w.heap.size + 1 := by rw [hW0]; simp
  have hw0 := hw.kept hg0 (by simp)
  have hr0 : Ints W0 (.slice a l c) zs := hr.heap (fun hne k e => hg0.block k (hv hne k e) (by simp))
  refine callsIn_of_wp_marks Tryz.func107 rfl trivial ?_ rfl
  simp only [Tryz.ntmps107, List.size_toArray, List.length_cons, List.length_nil, Nat.reduceAdd, Nat.reduceSub, Array.replicate_succ, Array.replicate_zero, List.push_toArray, List.append_toArray, List.nil_append, List.cons_append]
  gi_wp2_with fail
  rw [← hW0]
  clear hW0
  have hTell := values1_tells 4 p W0.heap.size w.heap.size a l c zs W0 hw0 hr0 (by omega) (fun hne k e => by have := hv hne k e; omega)
  refine range_tells3 (a := _) (w := W0) (α := ITold) rfl (by omega) (gf := 95) (lb := #[.pointer (some ⟨p, 0, none⟩)]) rfl trivial (enters_of Tryz.func95 (by kernel_rfl) rfl)
    hTell (by simp) (fun _ => rfl) (fun _ _ _ _ _ _ h _ _ _ => h)
    (fun pre W => ∃ v, Boxed W w.heap.size 22 v ∧ W.ownsRow (w.heap.size + 1) 3 1 v pre.length (pre.map intV) ∧ KeptX W0.heap.size w.heap.size W0 W ∧ Below w.heap.size w W) (fun _ _ _ => False)
    ?hI (fun _ _ _ _ _ h _ _ => h.elim) ⟨_, hB0, World.ownsRow_nil _ _ _ _, KeptX.refl _, gbelow hg0 (Nat.le_refl _) (by simp)⟩ ?a1 ?assign ?body ?done ?stop
  case hI =>
    rintro pre A B k ⟨v, h1, h2, h3, h4⟩ hg hk
    rcases hk with rfl | ⟨q, rfl, hq, ho⟩
    · exact ⟨v, h1.kept hg (by simp), h2.kept hg (by cases v.ownBlock <;> simp), h3.trans ⟨hg.size, fun i hi _ => hg.block i (Nat.lt_of_lt_of_le hi h3.1) (by simp)⟩, h4.trans (gbelow hg h4.size (by simp))⟩
    · refine ⟨v, h1.kept hg (by simp; omega), h2.kept hg ?_, h3.trans (KeptX.grown hg h3.1 (.inr hq)), h4.trans (gbelow hg h4.size (by simp; omega))⟩
      obtain ⟨_, ⟨rfl, _⟩ | ⟨g, cap, cur, rfl, _, hgg, _⟩⟩ := h2
      · exact .inl rfl
      · right
        intro e
        simp only [Value.ownBlock, Option.some.injEq] at e
        subst e
        have := ho _ hgg
        cases this
  case assign =>
    intro l x W K hK
    dsimp only [iEnc]
    gi_wp2
    exact hK
  case body =>
    rintro l2 pre x W ⟨v, h1, h2, h3, h4⟩ hget hsz
    have hpz : pre.length < zs.length := (List.getElem?_eq_some_iff.1 hget).1
    have r1 := h1.cell
    have r2 := h1.frozen
    clear hTell hw hr hv hw0 hr0 hB0
    gi_wp2_with (gi_at_builtin; refine wpListIn_append_own _ rfl _ _ 22 rfl (w.heap.size + 1) 3 i0 (.int .i64 0) 1 8 Tryz.underlying22 hi hz0 hz1 hz2 rfl (by decide) _ _ _ rfl (h2.alloc _) ⟨W.heap.size, 0, none⟩ 1 1 [intV x] rfl rfl ?c1 ?c2 ?c3 ?c4 ?c5 ?_)
    case c1 =>
      intro j u hj
      match j, hj with
      | 0, hj => simp at hj; subst hj; simp [Addr.add, intV]
    case c2 => intro u hu; simp at hu; subst hu; rfl
    case c3 => unfold maxLen; omega
    case c4 => omega
    case c5 => simp; omega
    intro v' W1 hown' hgrow _
    obtain ⟨a', c', rfl⟩ := rowForm hown'
    have hvb : ∀ q, v.ownBlock = some q → W0.heap.size ≤ q ∧ q < W.heap.size := fun q e => by have := World.ownsRow.lt h2 q e; omega
    have gW : W.grownBy W1 v.ownBlock := (gbut (World.grownBy_alloc W _ none) _).trans hgrow
    have hne : v.ownBlock ≠ some w.heap.size := fun e => by have := hvb _ e; omega
    have h1' := h1.kept gW (Ne.symm hne)
    have r3 := h1'.cell
    have r4 := h1'.frozen
    have hko : KeepsOthers W W1 := KeepsOthers.of_grownBy gW (by
      rintro j o hj ho
      obtain ⟨_, ⟨rfl, _⟩ | ⟨g, cap, cur, rfl, _, hgg, _⟩⟩ := h2
      · cases hj
      · simp only [Value.ownBlock, Option.some.injEq] at hj
        subst hj
        rw [hgg] at ho
        cases ho
        rfl)
    have hkx : KeptX W0.heap.size w.heap.size W W1 := ⟨gW.size, fun k hk _ => gW.block k (by omega) (fun e => by have := hvb k e.symm; omega)⟩
    have hbw : Below w.heap.size W W1 := gbelow gW h4.size (fun q e => by have := hvb q e; omega)
    have hown2 : W1.ownsRow (w.heap.size + 1) 3 1 (.slice a' (pre.length + 1) c') (pre ++ [x]).length ((pre ++ [x]).map intV) := by
      simpa using hown'
    have hvb2 := World.ownsRow.lt hown2
    replace hown2 := Lib.hid hown2
    replace h1' := Lib.hid h1'
    replace hko := Lib.hid hko
    replace hkx := Lib.hid hkx
    replace hbw := Lib.hid hbw
    replace h3 := Lib.hid h3
    replace h4 := Lib.hid h4
    clear hown' hgrow h2 h1 r1 r2
    gi_wp2_with fail
    have gs := gset (World.grownBy.refl W1 (some w.heap.size)) 0 (.slice a' (pre.length + 1) c')
    refine ⟨hko.out.trans (KeepsOthers.setCell W1 _ _), hkx.out.trans (KeptX.grown gs (Nat.le_trans hsz hkx.out.1) (.inl rfl)), _, h1'.out.set _, hown2.out.kept gs ?_, (h3.out.trans hkx.out).trans (KeptX.grown gs (Nat.le_trans hsz hkx.out.1) (.inl rfl)), (h4.out.trans hbw.out).trans (gbelow gs (Nat.le_trans h4.out.size hbw.out.size) (by simp))⟩
    right
    intro e
    have := hvb2 _ e
    omega
  case stop =>
    rintro D c pre Wd W15 hD _ h _ _
    exact h.elim
  case done =>
    rintro D xs Wd W15 hD hS ⟨v, h1, h2, h3, h4⟩ hg hM
    obtain rfl : xs = zs := hS
    obtain ⟨a', c', rfl⟩ := rowForm h2
    have r1 := h1.cell
    have hDD : w.heap.size ≠ D := by omega
    clear hTell hw hr hv hw0 hr0 hB0
    gi_wp2_with fail
    refine ⟨by simp, .inl ⟨_, _, rfl, run_takeDeferred hM, ?_⟩⟩
    have gp := grownBy_putObj' W15 D (.deferred none)
    have hown : (W15.putObj D (.deferred none)).ownsRow w.heap.size 3 1 (.slice a' xs.length c') xs.length (xs.map intV) := by
      have h2' : W15.ownsRow w.heap.size 3 1 (.slice a' xs.length c') xs.length (xs.map intV) := by
        obtain ⟨q1, q2 | ⟨g, cap, cur, q3, q4, q5⟩⟩ := h2
        · exact ⟨q1, .inl q2⟩
        · exact ⟨q1, .inr ⟨g, cap, cur, q3, by omega, q5⟩⟩
      refine h2'.kept gp ?_
      obtain ⟨_, ⟨q2, _⟩ | ⟨g, cap, cur, q3, _, hgg, _⟩⟩ := h2
      · left; rw [q2]; rfl
      · right
        rw [q3]
        intro e
        simp only [Value.ownBlock, Option.some.injEq] at e
        subst e
        rw [hM] at hgg
        cases hgg
    have hb19 : Below w.heap.size w (W15.putObj D (.deferred none)) := h4.trans (gbelow gp h4.size (by simp; omega))
    have hgw := belowg hb19 none
    clear gp hb19 h1 h2 h3 h4 hg hM r1
    generalize W15.putObj D (.deferred none) = W19 at hown hgw ⊢
    simp [LeavesInM, LeavesIn, results, Tryz.results107, go_sem]
    exact ⟨hown, hgw⟩

theorem appendSeq_calls (p : Nat) (a : Option Addr) (l c : Nat) (zs : List Int) (w : World) (hw : Boxed w p 22 (.slice a l c)) (hr : Ints w (.slice a l c) zs)
    (hv : zs ≠ [] → ∀ k, (Value.slice a l c).ownBlock = some k → k < w.heap.size) (hlim : zs.length * 8 ≤ 140737488351232) :
    Calls Tryz.prog 107 #[.slice none 0 0, .func (.func 95) #[] #[.pointer (some ⟨p, 0, none⟩)]] w fun e w' => ∃ v, e = .returned v ∧ w'.ownsRow w.heap.size 3 1 v zs.length (zs.map intV) ∧ w.grownBy w' none :=
  callsIn_wide.1 (appendSeq_ints p a l c zs w hw hr hv hlim)

set_option maxHeartbeats 1000000 in
theorem collect_ints (p : Nat) (a : Option Addr) (l c : Nat) (zs : List Int) (w : World) (hw : Boxed w p 22 (.slice a l c)) (hr : Ints w (.slice a l c) zs)
    (hv : zs ≠ [] → ∀ k, (Value.slice a l c).ownBlock = some k → k < w.heap.size) (hlim : zs.length * 8 ≤ 140737488351232) :
    Calls Tryz.prog 93 #[.func (.func 95) #[] #[.pointer (some ⟨p, 0, none⟩)]] w fun e w' => ∃ v, e = .returned v ∧ w'.ownsRow w.heap.size 3 1 v zs.length (zs.map intV) ∧ w.grownBy w' none := by
  have hA := appendSeq_calls p a l c zs w hw hr hv hlim
  go_enter Tryz.func93, Tryz.ntmps93
  go_wp2_with (go_at_call 107; refine hA.mono ?_; rintro e w1 ⟨v, rfl, ho, hg⟩)
  go_ret
  exact ⟨_, rfl, ho, hg⟩

set_option maxHeartbeats 1000000 in
theorem values_ints (a : Option Addr) (l c : Nat) (w : World) :
    Calls Tryz.prog 73 #[.slice a l c] w fun e w' => e = .returned (.func (.func 95) #[] #[.pointer (some ⟨w.heap.size, 0, none⟩)]) ∧ Boxed w' w.heap.size 22 (.slice a l c) ∧ w.grownBy w' none := by
  have hmf : ∀ (fn : Fn) (first cap : Array Value) (w : World), (Instr.makeFunc fn first cap).run Tryz.prog w = .ok (.func fn first cap) w := fun _ _ _ _ => rfl
  go_enter Tryz.func73, Tryz.ntmps73
  go_wp2
  go_ret
  exact ⟨rfl, Boxed.new w _ _, World.grownBy_alloc w _ none⟩

/-- A list of ints in order. -/
def inOrd (zs : List Int) : List Int := zs.mergeSort fun x y => decide (x ≤ y)
theorem inOrd_length (zs : List Int) : (inOrd zs).length = zs.length := by unfold inOrd; exact List.length_mergeSort ..

theorem sort_own (B : Nat) (v : Value) (zs : List Int) (w : World) (ho : w.ownsRow B 3 1 v zs.length (zs.map intV)) (hsz : zs.length < 4611686018427387904) :
    Calls Tryz.prog 94 #[v] w fun e w' => e = .returned (.tuple #[]) ∧ w'.ownsRow B 3 1 v zs.length ((inOrd zs).map intV) ∧ w.grownBy w' v.ownBlock := by
  obtain ⟨h0, ⟨rfl, hn⟩ | ⟨g, cap, cur, rfl, hB, hgg, h1, h2, h3, h4⟩⟩ := ho
  · obtain rfl := List.length_eq_zero_iff.1 hn
    refine (Tryz.slices_Sort_int_none none 0 w).mono ?_
    rintro e w' ⟨rfl, rfl⟩
    exact ⟨rfl, ⟨by simp [inOrd], .inl ⟨rfl, rfl⟩⟩, World.grownBy.refl _ _⟩
  · have hb : cur.toList.take zs.length = zs.map (Value.int .i64) := by rw [Nat.mul_one] at h4; exact h4
    refine (Tryz.slices_Sort_int g 0 cap zs w (holds_of_blockI hgg hb) (Array.getElem?_eq_some_iff.1 hgg).1 hsz).mono ?_
    rintro e w' ⟨rfl, n, os, rfl⟩
    exact ⟨rfl, ownsRow_sortedI (inOrd_length zs) hB hgg h1 h2 (by simpa using h3), grownBy_sortedI _⟩

set_option maxHeartbeats 1000000 in
theorem sorted_ints (p : Nat) (a : Option Addr) (l c : Nat) (zs : List Int) (w : World) (hw : Boxed w p 22 (.slice a l c)) (hr : Ints w (.slice a l c) zs)
    (hv : zs ≠ [] → ∀ k, (Value.slice a l c).ownBlock = some k → k < w.heap.size) (hlim : zs.length * 8 ≤ 140737488351232) :
    Calls Tryz.prog 72 #[.func (.func 95) #[] #[.pointer (some ⟨p, 0, none⟩)]] w fun e w' => ∃ v, e = .returned v ∧ w'.ownsRow w.heap.size 3 1 v zs.length ((inOrd zs).map intV) ∧ w.grownBy w' none := by
  have hA := collect_ints p a l c zs w hw hr hv hlim
  go_enter Tryz.func72, Tryz.ntmps72
  go_wp2_with (first
    | (go_at_call 93; refine hA.mono ?_; rintro e w1 ⟨v, rfl, ho, hg⟩; have hvb := World.ownsRow.lt ho; have hS := sort_own _ v zs w1 ho (by omega))
    | (go_at_call 94; refine hS.mono ?_; rintro e w2 ⟨rfl, ho2, hg2⟩))
  go_ret
  exact ⟨_, rfl, ho2, gnew hg hg2 (fun q e => .inl (hvb q e).1)⟩
end Go.Proofs.YtfgmaeaojkfakaaGreat
