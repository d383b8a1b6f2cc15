/-
  LAYER 9 (trie): a frame that has ranged over functions several times (each range leaves a mark) is left. No program is named here.
-/
import Derived.Test.YtlnplompnabmlaaRA09
import Derived.Test.YtlnplompnabmlaaRA14
import Derived.Test.YtlnplompnabmlaaRA02
import Derived.RangeFuncNested
namespace Go.Proofs.Ytlnplompnabmlaa
set_option maxRecDepth 100000
open Go.RowKit

/-- The marks that ranges leave in their frame. -/
def marks (Ds : List Nat) : List Deferred := Ds.map fun D => { target := .collected D, args := #[] }
/-- Each mark's block holds no deferred call. -/
def Marked (Ds : List Nat) (w : World) : Prop := Ds.Nodup ∧ ∀ D ∈ Ds, w.heap[D]? = some (.deferred (some []))
theorem Marked.nil (w : World) : Marked [] w := ⟨List.nodup_nil, fun _ h => by cases h⟩
theorem Marked.more {Ds : List Nat} {w w' : World} {D : Nat} (h : Marked Ds w) (hw : ∀ k ∈ Ds, w'.heap[k]? = w.heap[k]?) (hD : w'.heap[D]? = some (.deferred (some []))) (hn : D ∉ Ds) : Marked (D :: Ds) w' :=
  ⟨List.nodup_cons.2 ⟨hn, h.1⟩, fun k hk => by
    rcases List.mem_cons.1 hk with rfl | hk
    · exact hD
    · exact (hw k hk).trans (h.2 k hk)⟩
theorem Marked.kept {Ds : List Nat} {w w' : World} (h : Marked Ds w) (hw : ∀ k ∈ Ds, w'.heap[k]? = w.heap[k]?) : Marked Ds w' := ⟨h.1, fun k hk => (hw k hk).trans (h.2 k hk)⟩

/-- Leaving: whatever is left behind in the marks' blocks. -/
theorem leaves_marks {F : Fence} {n : Nat} {P : Program} {fn : Func} {tmps : Array Value} {R : Ending → World → Prop} : ∀ (Ds : List Nat) (w : World), Marked Ds w →
    (∀ w', w'.os = w.os → w'.tape = w.tape → w'.output = w.output → w'.heap.size = w.heap.size → (∀ k, k ∉ Ds → w'.heap[k]? = w.heap[k]?) → ∃ v, (results fn tmps).run P w' = .ok v w' ∧ R (.returned v) w') →
    LeavesInM F n P fn tmps R (marks Ds) .returning w
  | [], w, _, h => by
    unfold marks
    simp only [List.map_nil, LeavesInM, LeavesIn]
    exact h w rfl rfl rfl rfl (fun _ _ => rfl)
  | D :: Ds, w, hM, h => by
    have hD := hM.2 D (by simp)
    have hn := List.nodup_cons.1 hM.1
    show LeavesInM F n P fn tmps R (_ :: marks Ds) .returning w
    unfold LeavesInM
    refine ⟨by simp, .inl ⟨D, _, rfl, run_takeDeferred hD, ?_⟩⟩
    have gp := grownBy_putObj' w D (.deferred none)
    have hother : ∀ k, k ≠ D → (w.putObj D (.deferred none)).heap[k]? = w.heap[k]? := fun k hk => World.putObj_heap_other hk
    refine leaves_marks Ds _ ⟨hn.2, fun k hk => (hother k (fun e => hn.1 (e ▸ hk))).trans (hM.2 k (by simp [hk]))⟩ (fun w' h1 h2 h3 h4 h5 => ?_)
    refine h w' (h1.trans gp.os) (h2.trans gp.tape) (h3.trans gp.output) (h4.trans (by simp [World.putObj])) (fun k hk => ?_)
    rw [List.mem_cons, not_or] at hk
    exact (h5 k hk.2).trans (hother k hk.1)

/-- Leaving, with a state that outlives each mark's taking. -/
theorem leaves_with {F : Fence} {n : Nat} {P : Program} {fn : Func} {tmps : Array Value} {R : Ending → World → Prop} (St : World → Prop) : ∀ (Ds : List Nat) (w : World), Marked Ds w → St w →
    (∀ D ∈ Ds, ∀ w, St w → w.heap[D]? = some (.deferred (some [])) → St (w.putObj D (.deferred none))) →
    (∀ w', St w' → ∃ v, (results fn tmps).run P w' = .ok v w' ∧ R (.returned v) w') →
    LeavesInM F n P fn tmps R (marks Ds) .returning w
  | [], w, _, h0, _, h => by
    unfold marks
    simp only [List.map_nil, LeavesInM, LeavesIn]
    exact h w h0
  | D :: Ds, w, hM, h0, hs, h => by
    have hD := hM.2 D (by simp)
    have hn := List.nodup_cons.1 hM.1
    show LeavesInM F n P fn tmps R (_ :: marks Ds) .returning w
    unfold LeavesInM
    refine ⟨by simp, .inl ⟨D, _, rfl, run_takeDeferred hD, ?_⟩⟩
    have hother : ∀ k, k ≠ D → (w.putObj D (.deferred none)).heap[k]? = w.heap[k]? := fun k hk => World.putObj_heap_other hk
    exact leaves_with St Ds _ ⟨hn.2, fun k hk => (hother k (fun e => hn.1 (e ▸ hk))).trans (hM.2 k (by simp [hk]))⟩ (hs D (by simp) w h0 hD) (fun k hk => hs k (by simp [hk])) h
end Go.Proofs.Ytlnplompnabmlaa

/-
  LAYER 9 (trie): what the numbers' iterator leans on.
-/
namespace Go.Proofs.Ytlnplompnabmlaa
set_option maxRecDepth 100000
open Go.RowKit
attribute [local go_sem] Oper.semAt_some

def NoPanicT (Q : Exit → Act → World → Prop) : Exit → Act → World → Prop
  | .panic _, _, _ => False
  | e, a, w => Q e a w
theorem noPanicT {Q : Exit → Act → World → Prop} {a : Act} {w : World} (h : Q .normal a w) : NoPanicT Q .normal a w := h
theorem wpIn_noPanicT {F : Fence} {n : Nat} {P : Program} {c : Code} {Q : Exit → Act → World → Prop} {a : Act} {w : World} (h : c.wpIn F n P (NoPanicT Q) a w) : c.wpIn F n P Q a w :=
  wpIn_mono h fun e a w hq => by cases e <;> first | exact hq | exact hq.elim
theorem roundIn_wideT {n m l l' : Nat} {P : Program} {f : FuncId} {tmps : Array Value} {assign body : Code} {w : World} {R : Ending → World → Prop} (h : RoundIn Fence.wide n P l f tmps assign body w R) : RoundIn (Fence.wide.inRound l') m P l f tmps assign body w R :=
  ⟨h.1, fun c cs _ => h.2 c cs (room_wide _)⟩

def mEnc (x : Int) : Array Value := #[.int .i64 x]
def mOk (l : List Int) (pre : List Int) (x : Int) (_W : World) : Prop := pre = l.take pre.length ∧ l[pre.length]? = some x
def headN (m : Int) : List Int := if m = -1 then [] else [m]


theorem numbers_any (po : Option Addr) (w : World) : Calls Try.prog 50 #[.pointer po] w fun e w' => e = .returned (.func (.func 59) #[] #[.pointer (some ⟨w.heap.size, 0, none⟩)]) ∧
    Box w' w.heap.size 55 (.pointer po) ∧ w.grownBy w' none := by
  have hmf : ∀ (fn : Fn) (first cap : Array Value) (w : World), (Instr.makeFunc fn first cap).run Try.prog w = .ok (.func fn first cap) w := fun _ _ _ _ => rfl
  go_enter Try.func50, Try.ntmps50
  go_wp2
  go_ret
  exact ⟨rfl, World.alloc_heap_new w _, World.grownBy_alloc w _ none⟩
end Go.Proofs.Ytlnplompnabmlaa

/-
  LAYER 9 (trie): the numbers from a node on, told in order. Printed by wip/tools/trie-nums.py.
-/
namespace Go.Proofs.Ytlnplompnabmlaa
set_option maxRecDepth 100000
open Go.RowKit
attribute [local go_sem] Oper.semAt_some

set_option maxHeartbeats 8000000 in
theorem numbers1_step (n : Nat) (nd mp : List Int → Option Nat) (nm : List Int → Int) (U : List Int → List Int) (p : List Int) (b : Nat) (kl : Kl) (hlim : kl.length ≤ 1048576)
    (hkm : ∀ r c, (r, c) ∈ kl → nd (p ++ [r]) = some c) (hU : U p = headN (nm p) ++ (Go.Proofs.Ytlnplompnabmlaa.inOrder (kl.map (·.1))).flatMap (fun r => U (p ++ [r]))) 
    (hIH : ∀ (r : Int) (c nb' : Nat) (w' : World) (Z0' : Nat → Prop), nd (p ++ [r]) = some c → Box w' nb' 55 (.pointer (some ⟨c, 0, none⟩)) → TreeM (fun _ => True) w' nd mp nm → Z0' nb' → (∀ j, InT nd mp j → Z0' j) →
      TellsZ Fence.wide (n + 2) Try.prog 59 #[.pointer (some ⟨nb', 0, none⟩)] mEnc (mOk (U (p ++ [r]))) Z0' (fun xs _ => xs = U (p ++ [r])) (fun _ _ => True) w')
    (Z0 : Nat → Prop) (nb : Nat) (w : World) (hp : nd p = some b) (hbox : Box w nb 55 (.pointer (some ⟨b, 0, none⟩)))
    (hT : TreeM (fun _ => True) w nd mp nm) (hKM : KidsM w (mp p) (klV kl)) (hzb : Z0 nb) (hzt : ∀ j, InT nd mp j → Z0 j) :
    TellsZ Fence.wide (n + 3) Try.prog 59 #[.pointer (some ⟨nb, 0, none⟩)] mEnc (mOk (U p)) Z0 (fun xs _ => xs = U p) (fun _ _ => True) w := by
  intro ll J Jx W Z hzk hz0 hzl hzn hll hJ hJx hY h0
  replace hU := Lib.hid hU
  replace hkm := Lib.hid hkm
  replace hIH := Lib.hid hIH
  replace hJ := Lib.hid hJ
  replace hJx := Lib.hid hJx
  replace hY := Lib.hid hY
  have hbW := hbox.zk hzk hzb
  have hTW := hT.heap (w' := W) (fun k hk => hzk.2 k (hT.lt hk) (hzt k hk))
  have hmq : ∀ m, mp p = some m → InT nd mp m := fun m e => ⟨p, .inr e⟩
  have hKW : KidsM W (mp p) (klV kl) := hKM.heap (fun m e => hzk.2 m (hKM.lt m e) (hzt m (hmq m e)))
  clear hbox hT hKM hzk
  obtain ⟨V, hV⟩ : ∃ V, V = W.alloc (.cells #[.func (.yield ll) #[] #[]] 98) := ⟨_, rfl⟩
  have g1 : W.grownBy V none := by rw [hV]; exact World.grownBy_alloc W _ none
  have hyV : Box V W.heap.size 98 (.func (.yield ll) #[] #[]) := by rw [hV]; exact World.alloc_heap_new W _
  have hsV : V.heap.size = W.heap.size + 1 := by rw [hV]; simp
  have hbV := hbW.new g1
  have hTV := hTW.heap (w' := V) (fun k hk => g1.block k (hTW.lt hk) (by simp))
  have hKV : KidsM V (mp p) (klV kl) := hKW.heap (fun m e => g1.block m (hKW.lt m e) (by simp))
  have hJV : J (fun k => Z k ∨ k = W.heap.size) [] V := hJ.out.more _ _ _ _ _ h0 g1 (fun _ h => .inl h) (fun k h => by
    rcases h with h | rfl
    · exact .inl h
    · right; omega)
  have hz1 : ∀ k, (Z k ∨ k = W.heap.size) → k < V.heap.size := fun k h => by
    rcases h with h | rfl
    · have := hzl k h; omega
    · omega
  have hbl : nb ≠ ll := hzn nb hzb
  have hyl : W.heap.size ≠ ll := Nat.ne_of_gt hll
  have htl : ∀ j, InT nd mp j → j ≠ ll := fun j hj => hzn j (hzt j hj)
  -- what stands behind the first region
  have FAR : ∀ W3, ZK (fun k => (Z k ∨ k = W.heap.size) ∧ k ≠ ll) V W3 → Box W3 nb 55 (.pointer (some ⟨b, 0, none⟩)) ∧ Box W3 W.heap.size 98 (.func (.yield ll) #[] #[]) ∧ TreeM (fun _ => True) W3 nd mp nm ∧ KidsM W3 (mp p) (klV kl) := fun W3 hz =>
    ⟨hbV.zk hz ⟨.inl (hz0 nb hzb), hbl⟩, hyV.zk hz ⟨.inr rfl, hyl⟩, hTV.heap (fun k hk => hz.2 k (hTV.lt hk) ⟨.inl (hz0 k (hzt k hk)), htl k hk⟩), hKV.heap (fun m e => hz.2 m (hKV.lt m e) ⟨.inl (hz0 m (hzt m (hmq m e))), htl m (hmq m e)⟩)⟩
  have FARH := Lib.hid FAR
  clear FAR
  refine callsIn_of_wp_marks Try.func59 rfl trivial ?_ rfl
  simp only [Try.ntmps59, List.size_toArray, List.length_cons, List.length_nil, Nat.reduceAdd, Nat.reduceSub, Array.replicate_succ, Array.replicate_zero, List.push_toArray, List.append_toArray, List.nil_append, List.cons_append]
  gi_wp2_with fail
  rw [← hV]
  clear hV
  have gd := gdrew (World.grownBy.refl V none)
  have hzd : ZK (fun k => (Z k ∨ k = W.heap.size) ∧ k ≠ ll) V V.drew := ZK.of gd (by simp)
  obtain ⟨hbd, hyd, hTd, _⟩ := FARH.out V.drew hzd
  have hJd : J (fun k => Z k ∨ k = W.heap.size) [] V.drew := hJ.out.more _ _ _ _ _ hJV gd (fun _ h => h) (fun _ h => .inl h)
  obtain ⟨_, hN⟩ := hTd.node p b hp
  have hEnd := ends_any b (nm p) (mp p) V.drew hN
  refine wpIn_noPanicT ?_
  refine wpIn_region_held (S := fun V' => V'.cell? ⟨nb, 0, none⟩ = some (.pointer (some ⟨b, 0, none⟩)) ∧ V'.cell? ⟨W.heap.size, 0, none⟩ = some (.func (.yield ll) #[] #[]) ∧ V'.cell? ⟨b, 0, none⟩ = some (.int .i64 (nm p))) (by kernel_rfl) ⟨hbd.c0, hyd.c0, hN.c0⟩ (fun hS0 => ?_)
  refine wpAnyHIn_take (i := 0) (oi := ⟨some 6, _, _, _, _, _⟩) (v := ?_) rfl (by kernel_rfl) (by kernel_rfl) (by kernel_rfl) (by kernel_rfl) (fun _ _ _ h => h) (fun _ => rfl) (Or.inl ⟨by rfl, ?_⟩) (by assumption) ?_
  rotate_left
  · (intro w hSw; (try dsimp only at hSw); go_simp; try with_reducible rfl)
  try simp only [Act.put, List.setIfInBounds_toArray, List.set_cons_zero, List.set_cons_succ]
  refine wpAnyHIn_next (i := 1) (by kernel_rfl) rfl (by rfl) (fun K hK => ?_)
  go_simp
  refine ⟨trivial, (callsIn_wide.2 hEnd).mono ?_⟩
  rintro e' V2 ⟨rfl, rfl⟩
  refine hK.out _ _ hS0 (fun hS1 => ?_)
  clear hK
  have mid : ∀ W3, J (fun k => Z k ∨ k = W.heap.size) (headN (nm p)) W3 → ZK (fun k => (Z k ∨ k = W.heap.size) ∧ k ≠ ll) V W3 → True := fun _ _ _ => trivial
  clear mid
  by_cases hm : nm p = -1
  · have hb1 : (nm p != -1) = false := by simp [hm]
    rw [hb1]
    refine wpAnyHIn_take (i := 2) (oi := ⟨some 8, _, _, _, _, _⟩) (v := ?_) rfl (by kernel_rfl) (by kernel_rfl) (by kernel_rfl) (by kernel_rfl) (fun _ _ _ h => h) (fun _ => rfl) (Or.inl ⟨by rfl, ?_⟩) (by assumption) ?_
    rotate_left
    · (intro w hSw; (try dsimp only at hSw); go_simp; try with_reducible rfl)
    try simp only [Act.put, List.setIfInBounds_toArray, List.set_cons_zero, List.set_cons_succ]
    refine wpAnyHIn_take (i := 3) (oi := ⟨some 9, _, _, _, _, _⟩) (v := undef) rfl (by kernel_rfl) (by kernel_rfl) (by kernel_rfl) (by kernel_rfl) (fun _ _ _ h => h) (fun _ => rfl) (Or.inr ⟨by rfl, rfl⟩) (by assumption) ?_
    try simp only [Act.put, List.setIfInBounds_toArray, List.set_cons_zero, List.set_cons_succ]
    refine wpAnyHIn_take (i := 4) (oi := ⟨some 10, _, _, _, _, _⟩) (v := undef) rfl (by kernel_rfl) (by kernel_rfl) (by kernel_rfl) (by kernel_rfl) (fun _ _ _ h => h) (fun _ => rfl) (Or.inr ⟨by rfl, rfl⟩) (by assumption) ?_
    try simp only [Act.put, List.setIfInBounds_toArray, List.set_cons_zero, List.set_cons_succ]
    refine wpAnyHIn_take (i := 5) (oi := ⟨some 11, _, _, _, _, _⟩) (v := undef) rfl (by kernel_rfl) (by kernel_rfl) (by kernel_rfl) (by kernel_rfl) (fun _ _ _ h => h) (fun _ => rfl) (Or.inr ⟨by rfl, rfl⟩) (by assumption) ?_
    try simp only [Act.put, List.setIfInBounds_toArray, List.set_cons_zero, List.set_cons_succ]
    refine wpAnyHIn_take (i := 6) (oi := ⟨some 12, _, _, _, _, _⟩) (v := undef) rfl (by kernel_rfl) (by kernel_rfl) (by kernel_rfl) (by kernel_rfl) (fun _ _ _ h => h) (fun _ => rfl) (Or.inr ⟨by rfl, rfl⟩) (by assumption) ?_
    try simp only [Act.put, List.setIfInBounds_toArray, List.set_cons_zero, List.set_cons_succ]
    refine wpAnyHIn_take (i := 7) (oi := ⟨some 13, _, _, _, _, _⟩) (v := undef) rfl (by kernel_rfl) (by kernel_rfl) (by kernel_rfl) (by kernel_rfl) (fun _ _ _ h => h) (fun _ => rfl) (Or.inr ⟨by rfl, rfl⟩) (by assumption) ?_
    try simp only [Act.put, List.setIfInBounds_toArray, List.set_cons_zero, List.set_cons_succ]
    refine wpAnyHIn_take (i := 8) (oi := ⟨some 14, _, _, _, _, _⟩) (v := undef) rfl (by kernel_rfl) (by kernel_rfl) (by kernel_rfl) (by kernel_rfl) (fun _ _ _ h => h) (fun _ => rfl) (Or.inr ⟨by rfl, rfl⟩) (by assumption) ?_
    try simp only [Act.put, List.setIfInBounds_toArray, List.set_cons_zero, List.set_cons_succ]
    refine wpAnyHIn_take (i := 9) (oi := ⟨some 15, _, _, _, _, _⟩) (v := undef) rfl (by kernel_rfl) (by kernel_rfl) (by kernel_rfl) (by kernel_rfl) (fun _ _ _ h => h) (fun _ => rfl) (Or.inr ⟨by rfl, rfl⟩) (by assumption) ?_
    try simp only [Act.put, List.setIfInBounds_toArray, List.set_cons_zero, List.set_cons_succ]
    refine wpAnyHIn_take (i := 10) (oi := ⟨some 16, _, _, _, _, _⟩) (v := ?_) rfl (by kernel_rfl) (by kernel_rfl) (by kernel_rfl) (by kernel_rfl) (fun _ _ _ h => h) (fun _ => rfl) (Or.inl ⟨by rfl, ?_⟩) (by assumption) ?_
    rotate_left
    · (intro w hSw; (try dsimp only at hSw); go_simp; try with_reducible rfl)
    try simp only [Act.put, List.setIfInBounds_toArray, List.set_cons_zero, List.set_cons_succ]
    refine wpAnyHIn_done (by kernel_rfl) ?_ _
    refine noPanicT ?_
    have hJ3 : J (fun k => Z k ∨ k = W.heap.size) (headN (nm p)) V.drew := by unfold headN; rw [if_pos hm]; exact hJd
    clear hS0 hS1 hN hEnd hTd hyd hbd hJd
    generalize V.drew = W3 at hzd hJ3 ⊢
    have hz3 := hzd
    clear hzd gd
    obtain ⟨hb3, hy3, hT3, hK3⟩ := FARH.out W3 hz3
    have KM := Lib.hid (fun W4 (g4 : W3.grownBy W4 none) => hK3.heap (fun m e => g4.block m (hK3.lt m e) (by simp)) : ∀ W4, W3.grownBy W4 none → KidsM W4 (mp p) (klV kl))
    have c1 := hb3.c0
    have c2 := (hT3.node p b hp).2.c1
    replace hT3 := Lib.hid hT3
    replace hK3 := Lib.hid hK3
    replace hz0 := Lib.hid hz0
    replace hzl := Lib.hid hzl
    replace hzn := Lib.hid hzn
    replace hzt := Lib.hid hzt
    replace htl := Lib.hid htl
    replace hz1 := Lib.hid hz1
    replace hmq := Lib.hid hmq
    replace hz3 := Lib.hid hz3
    replace hJ3 := Lib.hid hJ3
    clear hbW hTW hKW hbV hTV hKV hJV hyV g1 h0
    gi_wp2_with first
      | (refine ⟨trivial, ?_⟩; gi_at_call 61; refine (callsIn_wide.2 (keys_any (mp p) W3)).mono ?_; rintro e4 W4 ⟨rfl, hx4, g4⟩; have hS := sorted_any W3.heap.size (mp p) (klV kl) W4 hx4 (KM.out W4 g4) (by simpa [klV] using hlim))
      | (refine ⟨trivial, ?_⟩; gi_at_call 60; refine (callsIn_wide.2 hS).mono ?_; rintro e5 W5 ⟨v5, rfl, hsr, g5⟩; have hkll : (klV kl).length = kl.length := by simp [klV]
         rw [hkll] at hsr
         obtain ⟨xa, xc, rfl, hxc1, hxc2⟩ := hsr.form)

    have g35 := g4.trans g5
    obtain ⟨R, hR⟩ : ∃ R, R = inOrder (kl.map (·.1)) := ⟨_, rfl⟩
    have hke : (klV kl).map (·.1) = kl.map (·.1) := by simp [klV, Function.comp_def]
    rw [hke, ← hR] at hsr
    have hRl : R.length = kl.length := by rw [hR]; exact ((List.mergeSort_perm _ _).length_eq).trans (by simp)
    have hUR : U p = headN (nm p) ++ R.flatMap (fun r => U (p ++ [r])) := by rw [hR]; exact hU.out
    have hRm : ∀ r ∈ R, ∃ c, nd (p ++ [r]) = some c := fun r hr => by
      rw [hR] at hr
      obtain ⟨x, hx, rfl⟩ := List.mem_map.1 (((List.mergeSort_perm _ _).mem_iff).1 hr)
      exact ⟨x.2, hkm.out x.1 x.2 hx⟩
    obtain ⟨Z5, hZ5⟩ : ∃ Z5 : Nat → Prop, Z5 = fun k => (Z k ∨ k = W.heap.size) ∨ W3.heap.size ≤ k ∧ k < W5.heap.size := ⟨_, rfl⟩
    have hZ15 : ∀ k, (Z k ∨ k = W.heap.size) → Z5 k := fun k h => by rw [hZ5]; exact .inl h
    have hJ5 : J Z5 (headN (nm p)) W5 := hJ.out.more _ _ _ _ _ hJ3.out g35 hZ15 (fun k h => by rw [hZ5] at h; exact h)
    have hz5l : ∀ k, Z5 k → k < W5.heap.size := fun k h => by
      rw [hZ5] at h
      rcases h with h | h
      · exact Nat.lt_of_lt_of_le (hz1.out k h) (Nat.le_trans hz3.out.1 g35.size)
      · exact h.2
    have hz35 : ZK (fun k => (Z k ∨ k = W.heap.size) ∧ k ≠ ll) V W5 := hz3.out.trans (ZK.of g35 (by simp))
    have hrow5 : ∀ j r, R[j]? = some r → ∃ g off, xa = some ⟨g, off, none⟩ ∧ Z5 g ∧ g ≠ ll ∧ W5.cell? ⟨g, off + j, none⟩ = some (.int .i32 r) := fun j r hj => by
      obtain ⟨g, off, q1, q2, q3⟩ := hsr.get (i := j) (by rw [← hRl]; exact (List.getElem?_eq_some_iff.1 hj).1)
      obtain ⟨u, hu, hc⟩ := q3 0 (by omega)
      simp [hj, i32] at hu
      subst hu
      have hgl : g < W5.heap.size := World.block_lt_of_cell? _ _ hc
      have hs4 := g4.size
      have hs3 := hz3.out.1
      exact ⟨g, off, q1, by rw [hZ5]; exact .inr ⟨by omega, hgl⟩, by omega, by simpa using hc⟩
    have LI := Lib.hid (And.intro hJ5 (And.intro hz5l (And.intro hz35 (And.intro hrow5 (And.intro hUR (And.intro hRm hRl))))))
    clear hJ5 hz5l hz35 hrow5 hUR hRm hsr hU hJ3 hz3 hb3 hy3 hT3 hK3 KM c1 c2 hS hx4 g4 g5 g35 hxc1
    refine wpIn_loop (fun a' w' => ∃ (i : Nat) (Ds : List Nat) (Zr : Nat → Prop) (u3 u4 u5 u6 u7 u8 u9 u10 u11 u12 u13 u14 u15 u16 u17 u18 u19 u20 u21 u25 u26 u27 u28 u29 u30 u31 u32 u33 u34 u35 u36 u37 u38 u39 u40 : Value), a' = { tmps := #[.func (.yield ll) #[] #[], .pointer (some ⟨nb, 0, none⟩), .pointer (some ⟨W.heap.size, 0, none⟩), u3, u4, u5, u6, u7, u8, u9, u10, u11, u12, u13, u14, u15, u16, u17, u18, u19, u20, u21, .slice xa kl.length xc, .int .i64 (kl.length : Int), .int .i64 (i : Int), u25, u26, u27, u28, u29, u30, u31, u32, u33, u34, u35, u36, u37, u38, u39, u40], defers := marks Ds } ∧ i ≤ kl.length ∧ (∀ k, Z5 k → Zr k) ∧ (∀ k, Zr k → k < w'.heap.size) ∧
      J Zr (headN (nm p) ++ (R.take i).flatMap (fun r => U (p ++ [r]))) w' ∧ ZK (fun k => Z5 k ∧ k ≠ ll) W5 w' ∧ Marked Ds w' ∧ (∀ D ∈ Ds, Zr D ∧ D ≠ ll ∧ W.heap.size ≤ D)) (fun a' _ => kl.length - (RowKit.intOf (a'.tmps.getD 24 undef)).toNat) ?_ ?_
    · exact ⟨0, [], Z5, _, _, _, _, _, _, _, _, _, _, _, _, _, _, _, _, _, _, _, _, _, _, _, _, _, _, _, _, _, _, _, _, _, _, _, rfl, Nat.zero_le _, fun _ h => h, LI.out.2.1, by simpa using LI.out.1, ZK.refl _ _, Marked.nil _, fun _ h => by cases h⟩
    · rintro a' wr ⟨i, Ds, Zr, u3, u4, u5, u6, u7, u8, u9, u10, u11, u12, u13, u14, u15, u16, u17, u18, u19, u20, u21, u25, u26, u27, u28, u29, u30, u31, u32, u33, u34, u35, u36, u37, u38, u39, u40, rfl, hi, q1, q2, q3, q4, q5, q6⟩
      dsimp only
      by_cases hlt : i < kl.length
      · obtain ⟨r, hr⟩ : ∃ r, R[i]? = some r := ⟨_, List.getElem?_eq_getElem (by rw [LI.out.2.2.2.2.2.2]; exact hlt)⟩
        obtain ⟨c, hc⟩ := LI.out.2.2.2.2.2.1 r (List.mem_of_getElem? hr)
        obtain ⟨hbr, hyr, hTr, _⟩ := FARH.out wr (LI.out.2.2.1.trans (q4.less (fun k h => ⟨hZ15 k h.1, h.2⟩)))
        obtain ⟨g, off, rfl, hg1, hg2, hg3⟩ := LI.out.2.2.2.1 i r hr
        have hcell : wr.cell? ⟨g, off + i, none⟩ = some (.int .i32 r) := (World.cell?_of_block (a := ⟨g, off + i, none⟩) (q4.2 g (LI.out.2.1 g hg1) ⟨hg1, hg2⟩)).trans hg3
        have hlook := hTr.lookup p r
        rw [hc] at hlook
        unfold ptrV at hlook
        dsimp only at hlook
        have d1 := hbr.c0
        have d2 := (hTr.node p b hp).2.c1
        have RD := Lib.hid (And.intro q1 (And.intro q2 (And.intro q3 (And.intro q4 (And.intro q5 (And.intro q6 (And.intro hr (And.intro hyr hTr))))))))
        clear q1 q2 q3 q4 q5 q6 hr hbr hyr hTr hg1 hg2 hg3
        have hZ5o := Lib.hid hZ15
        clear hZ15
        gi_wp2_with (refine ⟨trivial, ?_⟩; gi_at_call 50; refine (callsIn_wide.2 (numbers_any _ _)).mono ?_; rintro e6 W6 ⟨rfl, hb6, g6⟩)
        obtain ⟨q1, q2, q3, q4, q5, q6, hr, hyr, hTr⟩ := RD.out
        have hll6 : ll < wr.heap.size := by have := q4.1; have := LI.out.2.2.1.1; omega
        have hsr6 := g6.size
        have hW6 : W.heap.size ≤ W6.heap.size := by have := q4.1; have := LI.out.2.2.1.1; omega
        have hl6 := hb6.lt
        have hT6 := hTr.heap (w' := W6) (fun k hk => g6.block k (hTr.lt hk) (by simp))
        have hy6 := hyr.new g6
        obtain ⟨P0, hP0⟩ : ∃ P0, P0 = headN (nm p) ++ (R.take i).flatMap (fun r => U (p ++ [r])) := ⟨_, rfl⟩
        obtain ⟨rest, hrest⟩ : ∃ rest, U p = P0 ++ (U (p ++ [r]) ++ rest) := by
          refine ⟨(R.drop (i + 1)).flatMap (fun r => U (p ++ [r])), ?_⟩
          rw [LI.out.2.2.2.2.1, hP0, List.append_assoc]
          congr 1
          have e1 : R = R.take i ++ (r :: R.drop (i + 1)) := by
            obtain ⟨h1, rfl⟩ := List.getElem?_eq_some_iff.1 hr
            rw [← List.drop_eq_getElem_cons h1, List.take_append_drop]
          rw [congrArg (fun l => List.flatMap (fun r => U (p ++ [r])) l) e1, List.flatMap_append, List.flatMap_cons]
        have hnext : headN (nm p) ++ (R.take (i + 1)).flatMap (fun r => U (p ++ [r])) = P0 ++ U (p ++ [r]) := by
          rw [hP0, List.take_add_one, hr, List.flatMap_append, ← List.append_assoc]
          simp
        rw [← hP0] at q3
        obtain ⟨Zi, hZi⟩ : ∃ Zi : Nat → Prop, Zi = fun k => (Zr k ∨ k = wr.heap.size) ∧ k ≠ ll := ⟨_, rfl⟩
        have hZib : Zi wr.heap.size := by rw [hZi]; exact ⟨.inr rfl, by omega⟩
        have hZir : ∀ k, Zr k → k ≠ ll → Zi k := fun k h h' => by rw [hZi]; exact ⟨.inl h, h'⟩
        have hZil : ∀ k, Zi k → k < W6.heap.size := fun k h => by
          rw [hZi] at h
          rcases h.1 with h | rfl
          · have := q2 k h; omega
          · exact hl6
        have hZin : ¬ Zi ll := fun h => by rw [hZi] at h; exact h.2 rfl
        have J6 : J (fun k => Zi k ∨ (k = ll ∧ Zr ll)) P0 W6 := hJ.out.more _ _ _ _ _ q3 g6 (fun k h => by
          by_cases e : k = ll
          · exact .inr ⟨e, e ▸ h⟩
          · exact .inl (hZir k h e)) (fun k h => by
          rcases h with h | ⟨rfl, h⟩
          · rw [hZi] at h
            rcases h.1 with h | rfl
            · exact .inl h
            · exact .inr ⟨Nat.le_refl _, hl6⟩
          · exact .inl h)
        have IH := hIH.out r c wr.heap.size W6 Zi hc hb6 hT6 hZib (fun j hj => hZir j (q1 j (hZ5o.out j (.inl (hz0.out j (hzt.out j hj))))) (htl.out j hj))
        have hmk : ∀ D B, ZK Zi W6 B → W6.heap.size ≤ D → B.heap[D]? = some (.deferred (some [])) → Marked (D :: Ds) B := fun D B hz hD hM =>
          (q5.kept (w' := W6) (fun k hk => g6.block k (q2 k (q6 k hk).1) (by simp))).more (fun k hk => hz.2 k (by have := q2 k (q6 k hk).1; omega) (hZir k (q6 k hk).1 (q6 k hk).2.1)) hM (fun h => by have := q2 D (q6 D h).1; omega)
        have MK := Lib.hid hmk
        have HH := Lib.hid (And.intro q1 (And.intro q2 (And.intro q4 (And.intro q6 (And.intro hy6 (And.intro hZir (And.intro hZin (And.intro hrest hnext))))))))
        have IHH := Lib.hid IH
        have J6H := Lib.hid J6
        clear q1 q2 q3 q4 q5 q6 hr hyr hTr hT6 hy6 hrest hnext hZir hZin hmk IH J6 hlook hcell d1 d2 hP0
        refine range_tellsZ1 (a := _) (w := W6) (α := Int) rfl (by omega) (gf := 59) (lb := #[.pointer (some ⟨wr.heap.size, 0, none⟩)]) rfl trivial (enters_of Try.func59 (by kernel_rfl) rfl)
          IHH.out hZil (fun _ => rfl) (fun _ _ _ _ _ _ h _ _ _ => h)
          (fun Z' pre' A => ¬ Z' ll ∧ J (fun k => Z' k ∨ (k = ll ∧ Zr ll)) (P0 ++ pre') A ∧ ZK Zi W6 A) (fun c' Z' _ A => c' = .ret ∧ ¬ Z' ll ∧ (∃ pre, Jx (fun k => Z' k ∨ (k = ll ∧ Zr ll)) pre A) ∧ ZK Zi W6 A)
          (fun Z' s A h => h.2.2.1) ?hI ?hIx ⟨HH.out.2.2.2.2.2.2.1, by simpa using J6H.out, ZK.refl _ _⟩ ?a1 (fun _ _ _ _ h _ => h) ?assign ?body ?done ?stop
        case hI =>
          refine ⟨fun Z' Z'' s A B h g h1 h2 => ⟨fun e => ?_, hJ.out.more _ _ _ _ _ h.2.1 g (fun k hk => hk.imp (h1 k) id) (fun k hk => ?_), h.2.2.trans (ZK.of g (by simp))⟩, fun Z' s A B q h hq hn g => ⟨h.1, hJ.out.own _ _ _ _ q h.2.1 (.inl hq) (by omega) g, ?_⟩⟩
          · rcases h2 _ e with e | e
            · exact h.1 e
            · have := h.2.2.1; omega
          · rcases hk with hk | hk
            · exact (h2 k hk).imp .inl id
            · exact .inl (.inr hk)
          · exact h.2.2.trans (ZK.new g (fun k e => by cases e; exact hn) hZil)
        case hIx =>
          intro c'
          refine ⟨fun Z' Z'' s A B h g h1 h2 => ⟨h.1, fun e => ?_, ?_, h.2.2.2.trans (ZK.of g (by simp))⟩, fun Z' s A B q h hq hn g => ⟨h.1, h.2.1, ?_, ?_⟩⟩
          · rcases h2 _ e with e | e
            · exact h.2.1 e
            · have := h.2.2.2.1; omega
          · obtain ⟨pre, hj⟩ := h.2.2.1
            exact ⟨pre, hJx.out.more _ _ _ _ _ hj g (fun k hk => hk.imp (h1 k) id) (fun k hk => by
              rcases hk with hk | hk
              · exact (h2 k hk).imp .inl id
              · exact .inl (.inr hk))⟩
          · obtain ⟨pre, hj⟩ := h.2.2.1
            exact ⟨pre, hJx.out.own _ _ _ _ q hj (.inl hq) (by omega) g⟩
          · exact h.2.2.2.trans (ZK.new g (fun k e => by cases e; exact hn) hZil)
        case assign =>
          intro l' x A K hK
          unfold mEnc
          gi_wp2
          exact hK
        case body =>
          rintro l2 Z' pre' x A hZ0 hZl ⟨i1, i2, i3⟩ hok hsz
          obtain ⟨q1, q2, q4, q6, hy6, hZir, hZin, hrest, hnext⟩ := HH.out
          have hyA := (hy6.zk i3 (hZir _ (q1 _ (hZ5o.out _ (.inr rfl))) hyl)).c0
          have hOk : mOk (U p) (P0 ++ pre') x A := by
            obtain ⟨o1, o2⟩ := hok
            have ol := (List.getElem?_eq_some_iff.1 o2).1
            rw [hrest]
            refine ⟨?_, ?_⟩
            · rw [List.length_append, List.take_length_add_append, List.take_append_of_le_length (Nat.le_of_lt ol), ← o1]
            · rw [List.length_append, List.getElem?_append_right (by omega), Nat.add_sub_cancel_left, List.getElem?_append_left ol]
              exact o2
          have hllA : ll < A.heap.size := by omega
          obtain ⟨fn, tmps, assign, body, hy, hRd⟩ := hY.out (fun k => Z' k ∨ (k = ll ∧ Zr ll)) (P0 ++ pre') x A (fun k h => .inl (hZ0 k (hZir k (q1 k (hZ5o.out k (.inl (hz0.out k h)))) (hzn.out k h)))) (fun k h => by
            rcases h with h | ⟨rfl, _⟩
            · exact hZl k h
            · exact hllA) i2 hOk
          unfold mEnc at hy
          have I1 := Lib.hid (And.intro i1 i3)
          have hZI : Hid (∀ k, Zi k → Z' k) := hZ0
          have hZIn : Hid (¬ Zi ll) := hZin
          clear hok hOk hrest hnext hZin hZir q1 q2 q4 q6 hy6 i1 i2 i3 hZ0
          gi_wp2_with fail
          refine (roundIn_wideT hRd).mono ?_
          rintro e7 A3 (⟨rfl, hj7, hk7⟩ | ⟨rfl, hj7, hk7⟩)
          · have F7 := Lib.hid (show ZK Z' A A3 ∧ ¬ Z' ll ∧ J (fun k => Z' k ∨ (k = ll ∧ Zr ll)) (P0 ++ (pre' ++ [x])) A3 ∧ ZK Zi W6 A3 from ⟨hk7.less (fun k h => ⟨.inl h, fun e => I1.out.1 (e ▸ h)⟩), I1.out.1, by rw [← List.append_assoc]; exact hj7, I1.out.2.trans (hk7.less (fun k h => ⟨.inl (hZI.out k h), fun e => hZIn.out (e ▸ h)⟩))⟩)
            clear hj7 hk7 hRd hy
            gi_wp2_with fail
            exact F7.out
          · have F7 := Lib.hid (show ZK Z' A A3 ∧ Code.ret = .ret ∧ ¬ Z' ll ∧ (∃ pre, Jx (fun k => Z' k ∨ (k = ll ∧ Zr ll)) pre A3) ∧ ZK Zi W6 A3 from ⟨hk7.less (fun k h => ⟨.inl h, fun e => I1.out.1 (e ▸ h)⟩), rfl, I1.out.1, ⟨_, hj7⟩, I1.out.2.trans (hk7.less (fun k h => ⟨.inl (hZI.out k h), fun e => hZIn.out (e ▸ h)⟩))⟩)
            clear hj7 hk7 hRd hy
            gi_wp2_with fail
            exact ⟨F7.out.1, rfl, F7.out.2.2⟩
        case stop =>
          rintro D c7 Z' pre' A B hD hZD hz' hzl' _ ⟨rfl, i1, i2, i3⟩ hg hM
          obtain ⟨q1, q2, q4, q6, hy6, hZir, hZin, hrest, hnext⟩ := HH.out
          have hMk := MK.out D B i3 hD hM
          have hZs : ∀ k, Z5 k → (Z' k ∨ (k = ll ∧ Zr ll)) := fun k h => by
            by_cases e : k = ll
            · exact .inr ⟨e, e ▸ q1 k h⟩
            · exact .inl (hz' k (hZir k (q1 k h) e))
          have hZl : ∀ k, (Z' k ∨ (k = ll ∧ Zr ll)) → k < B.heap.size := fun k h => by
            rcases h with h | ⟨rfl, _⟩
            · exact hzl' k h
            · have := i3.1; omega
          have hDs : ∀ k ∈ D :: Ds, (Z' k ∨ (k = ll ∧ Zr ll)) ∧ k ≠ ll ∧ W.heap.size ≤ k := fun k hk => by
            rcases List.mem_cons.1 hk with rfl | hk
            · exact ⟨.inl hZD, by omega, by omega⟩
            · obtain ⟨e1, e2, e3⟩ := q6 k hk
              exact ⟨.inl (hz' k (hZir k e1 e2)), e2, e3⟩
          have F := Lib.hid (And.intro (fun k (h : Z k) => hZs k (hZ5o.out k (.inl h)) : ∀ k, Z k → (Z' k ∨ (k = ll ∧ Zr ll))) (And.intro hZl (And.intro hDs (And.intro hMk i2))))
          clear q1 q2 q4 q6 hy6 hZir hZin hrest hnext hMk hZs hZl hDs hz' hzl' i1 i2 i3 hg hM
          gi_wp2_with fail
          obtain ⟨f1, f2, f3, f4, f5⟩ := F.out
          refine leaves_with (fun w => (∃ pre, Jx (fun k => Z' k ∨ (k = ll ∧ Zr ll)) pre w) ∧ ∀ k, (Z' k ∨ (k = ll ∧ Zr ll)) → k < w.heap.size) (D :: Ds) B f4 ⟨f5, f2⟩
            (fun D' hD' w h hb => ⟨by obtain ⟨pre, hj⟩ := h.1; exact ⟨pre, hJx.out.own _ _ _ _ D' hj (f3 D' hD').1 (f3 D' hD').2.2 (grownBy_putObj' w D' (.deferred none))⟩, fun k hk => by simpa [World.putObj] using h.2 k hk⟩)
            (fun w' h => ⟨.tuple #[], results_none rfl _ _ _, ⟨_, rfl⟩, _, f1, h.2, .inr (by simpa using h.1)⟩)
        case done =>
          rintro D Z' xs A B hD hZD hz' hzl' hxs ⟨i1, i2, i3⟩ hg hM
          obtain ⟨q1, q2, q4, q6, hy6, hZir, hZin, hrest, hnext⟩ := HH.out
          have hMk := MK.out D B i3 hD hM
          have hxs' : xs = U (p ++ [r]) := hxs
          rw [hxs', ← hnext] at i2
          have hZs : ∀ k, Z5 k → (Z' k ∨ (k = ll ∧ Zr ll)) := fun k h => by
            by_cases e : k = ll
            · exact .inr ⟨e, e ▸ q1 k h⟩
            · exact .inl (hz' k (hZir k (q1 k h) e))
          have hZl : ∀ k, (Z' k ∨ (k = ll ∧ Zr ll)) → k < B.heap.size := fun k h => by
            rcases h with h | ⟨rfl, _⟩
            · exact hzl' k h
            · have := i3.1; omega
          have hDs : ∀ k ∈ D :: Ds, (Z' k ∨ (k = ll ∧ Zr ll)) ∧ k ≠ ll ∧ W.heap.size ≤ k := fun k hk => by
            rcases List.mem_cons.1 hk with rfl | hk
            · exact ⟨.inl hZD, by omega, by omega⟩
            · obtain ⟨e1, e2, e3⟩ := q6 k hk
              exact ⟨.inl (hz' k (hZir k e1 e2)), e2, e3⟩
          have F := Lib.hid (And.intro hZs (And.intro hZl (And.intro i2 (And.intro (q4.trans ((ZK.of g6 (by simp)).trans (i3.less (fun k h => hZir k (q1 k h.1) h.2)))) (And.intro hMk hDs)))))
          clear q1 q2 q4 q6 hy6 hZir hZin hrest hnext hMk hZs hZl hDs hz' hzl' i1 i2 i3 hg hM hxs hxs'
          gi_wp2_with fail
          obtain ⟨f1, f2, f3, f4, f5, f6⟩ := F.out
          exact ⟨⟨i + 1, D :: Ds, fun k => Z' k ∨ (k = ll ∧ Zr ll), _, _, _, _, _, _, _, _, _, _, _, _, _, _, _, _, _, _, _, _, _, _, _, _, _, _, _, _, _, _, _, _, _, _, _, rfl, hlt, f1, f2, f3, f4, f5, f6⟩, by simp [RowKit.intOf]; omega⟩
      · obtain rfl : kl.length = i := by omega
        have hfull : headN (nm p) ++ (R.take kl.length).flatMap (fun r => U (p ++ [r])) = U p := by rw [← LI.out.2.2.2.2.2.2, List.take_length]; exact LI.out.2.2.2.2.1.symm
        rw [hfull] at q3
        have RD := Lib.hid (And.intro (fun k (h : Z k) => q1 k (hZ15 k (.inl h)) : ∀ k, Z k → Zr k) (And.intro q2 (And.intro q3 (And.intro q5 q6))))
        clear q1 q2 q3 q4 q5 q6 hfull hZ15
        gi_wp2_with fail
        obtain ⟨q1, q2, q3, q5, q6⟩ := RD.out
        refine leaves_with (fun w => J Zr (U p) w ∧ ∀ k, Zr k → k < w.heap.size) Ds wr q5 ⟨q3, q2⟩ (fun D hD w h hb => ⟨hJ.out.own _ _ _ _ D h.1 (q6 D hD).1 (q6 D hD).2.2 (grownBy_putObj' w D (.deferred none)), fun k hk => by simpa [World.putObj] using h.2 k hk⟩)
          (fun w' h => ⟨.tuple #[], results_none rfl _ _ _, ⟨_, rfl⟩, Zr, q1, h.2, .inl (by simpa using h.1)⟩)
  · have hb1 : (nm p != -1) = true := by simp [hm]
    rw [hb1]
    refine wpAnyHIn_take (i := 2) (oi := ⟨some 8, _, _, _, _, _⟩) (v := ?_) rfl (by kernel_rfl) (by kernel_rfl) (by kernel_rfl) (by kernel_rfl) (fun _ _ _ h => h) (fun _ => rfl) (Or.inl ⟨by rfl, ?_⟩) (by assumption) ?_
    rotate_left
    · (intro w hSw; (try dsimp only at hSw); go_simp; try with_reducible rfl)
    try simp only [Act.put, List.setIfInBounds_toArray, List.set_cons_zero, List.set_cons_succ]
    refine wpAnyHIn_take (i := 3) (oi := ⟨some 9, _, _, _, _, _⟩) (v := ?_) rfl (by kernel_rfl) (by kernel_rfl) (by kernel_rfl) (by kernel_rfl) (fun _ _ _ h => h) (fun _ => rfl) (Or.inl ⟨by rfl, ?_⟩) (by assumption) ?_
    rotate_left
    · (intro w hSw; (try dsimp only at hSw); go_simp; try with_reducible rfl)
    try simp only [Act.put, List.setIfInBounds_toArray, List.set_cons_zero, List.set_cons_succ]
    refine wpAnyHIn_take (i := 4) (oi := ⟨some 10, _, _, _, _, _⟩) (v := ?_) rfl (by kernel_rfl) (by kernel_rfl) (by kernel_rfl) (by kernel_rfl) (fun _ _ _ h => h) (fun _ => rfl) (Or.inl ⟨by rfl, ?_⟩) (by assumption) ?_
    rotate_left
    · (intro w hSw; (try dsimp only at hSw); go_simp; try with_reducible rfl)
    try simp only [Act.put, List.setIfInBounds_toArray, List.set_cons_zero, List.set_cons_succ]
    refine wpAnyHIn_take (i := 5) (oi := ⟨some 11, _, _, _, _, _⟩) (v := ?_) rfl (by kernel_rfl) (by kernel_rfl) (by kernel_rfl) (by kernel_rfl) (fun _ _ _ h => h) (fun _ => rfl) (Or.inl ⟨by rfl, ?_⟩) (by assumption) ?_
    rotate_left
    · (intro w hSw; (try dsimp only at hSw); go_simp; try with_reducible rfl)
    try simp only [Act.put, List.setIfInBounds_toArray, List.set_cons_zero, List.set_cons_succ]
    refine wpAnyHIn_take (i := 6) (oi := ⟨some 12, _, _, _, _, _⟩) (v := ?_) rfl (by kernel_rfl) (by kernel_rfl) (by kernel_rfl) (by kernel_rfl) (fun _ _ _ h => h) (fun _ => rfl) (Or.inl ⟨by rfl, ?_⟩) (by assumption) ?_
    rotate_left
    · (intro w hSw; (try dsimp only at hSw); go_simp; try with_reducible rfl)
    try simp only [Act.put, List.setIfInBounds_toArray, List.set_cons_zero, List.set_cons_succ]
    refine wpAnyHIn_take (i := 7) (oi := ⟨some 13, _, _, _, _, _⟩) (v := ?_) rfl (by kernel_rfl) (by kernel_rfl) (by kernel_rfl) (by kernel_rfl) (fun _ _ _ h => h) (fun _ => rfl) (Or.inl ⟨by rfl, ?_⟩) (by assumption) ?_
    rotate_left
    · (intro w hSw; (try dsimp only at hSw); go_simp; try with_reducible rfl)
    try simp only [Act.put, List.setIfInBounds_toArray, List.set_cons_zero, List.set_cons_succ]
    obtain ⟨fn, tmps, assign, body, hy, hRd⟩ := hY.out (fun k => Z k ∨ k = W.heap.size) [] (nm p) V.drew (fun k h => .inl (hz0 k h)) (fun k h => Nat.lt_of_lt_of_le (hz1 k h) gd.size) hJd ⟨rfl, by rw [hU.out]; simp [headN, hm]⟩
    unfold mEnc at hy
    refine wpAnyHIn_next (i := 8) (by kernel_rfl) rfl (by rfl) (fun K hK => ?_)
    go_simp
    refine hRd.mono ?_
    rintro e3 W3 (⟨rfl, hj3, hk3⟩ | ⟨rfl, hj3, hk3⟩)
    · have hz3 := hzd.trans hk3
      obtain ⟨hb3, hy3, hT3, hK3⟩ := FARH.out W3 hz3
      refine hK.out _ _ ⟨hb3.c0, hy3.c0, (hT3.node p b hp).2.c0⟩ (fun hS2 => ?_)
      clear hK
      refine wpAnyHIn_take (i := 9) (oi := ⟨some 15, _, _, _, _, _⟩) (v := ?_) rfl (by kernel_rfl) (by kernel_rfl) (by kernel_rfl) (by kernel_rfl) (fun _ _ _ h => h) (fun _ => rfl) (Or.inl ⟨by rfl, ?_⟩) (by assumption) ?_
      rotate_left
      · (intro w hSw; (try dsimp only at hSw); go_simp; try with_reducible rfl)
      try simp only [Act.put, List.setIfInBounds_toArray, List.set_cons_zero, List.set_cons_succ]
      refine wpAnyHIn_take (i := 10) (oi := ⟨some 16, _, _, _, _, _⟩) (v := ?_) rfl (by kernel_rfl) (by kernel_rfl) (by kernel_rfl) (by kernel_rfl) (fun _ _ _ h => h) (fun _ => rfl) (Or.inl ⟨by rfl, ?_⟩) (by assumption) ?_
      rotate_left
      · (intro w hSw; (try dsimp only at hSw); go_simp; try with_reducible rfl)
      try simp only [Act.put, List.setIfInBounds_toArray, List.set_cons_zero, List.set_cons_succ]
      refine wpAnyHIn_done (by kernel_rfl) ?_ _
      refine noPanicT ?_
      have hJ3 : J (fun k => Z k ∨ k = W.heap.size) (headN (nm p)) W3 := by unfold headN; rw [if_neg hm]; exact hj3
      have KM := Lib.hid (fun W4 (g4 : W3.grownBy W4 none) => hK3.heap (fun m e => g4.block m (hK3.lt m e) (by simp)) : ∀ W4, W3.grownBy W4 none → KidsM W4 (mp p) (klV kl))
      clear hS0 hS1 hS2 hN hEnd hTd hyd hbd hJd hy hRd hj3 hk3
      have c1 := hb3.c0
      have c2 := (hT3.node p b hp).2.c1
      replace hT3 := Lib.hid hT3
      replace hK3 := Lib.hid hK3
      replace hz0 := Lib.hid hz0
      replace hzl := Lib.hid hzl
      replace hzn := Lib.hid hzn
      replace hzt := Lib.hid hzt
      replace htl := Lib.hid htl
      replace hz1 := Lib.hid hz1
      replace hmq := Lib.hid hmq
      replace hz3 := Lib.hid hz3
      replace hJ3 := Lib.hid hJ3
      clear hbW hTW hKW hbV hTV hKV hJV hyV g1 h0
      gi_wp2_with first
        | (refine ⟨trivial, ?_⟩; gi_at_call 61; refine (callsIn_wide.2 (keys_any (mp p) W3)).mono ?_; rintro e4 W4 ⟨rfl, hx4, g4⟩; have hS := sorted_any W3.heap.size (mp p) (klV kl) W4 hx4 (KM.out W4 g4) (by simpa [klV] using hlim))
        | (refine ⟨trivial, ?_⟩; gi_at_call 60; refine (callsIn_wide.2 hS).mono ?_; rintro e5 W5 ⟨v5, rfl, hsr, g5⟩; have hkll : (klV kl).length = kl.length := by simp [klV]
           rw [hkll] at hsr
           obtain ⟨xa, xc, rfl, hxc1, hxc2⟩ := hsr.form)

      have g35 := g4.trans g5
      obtain ⟨R, hR⟩ : ∃ R, R = inOrder (kl.map (·.1)) := ⟨_, rfl⟩
      have hke : (klV kl).map (·.1) = kl.map (·.1) := by simp [klV, Function.comp_def]
      rw [hke, ← hR] at hsr
      have hRl : R.length = kl.length := by rw [hR]; exact ((List.mergeSort_perm _ _).length_eq).trans (by simp)
      have hUR : U p = headN (nm p) ++ R.flatMap (fun r => U (p ++ [r])) := by rw [hR]; exact hU.out
      have hRm : ∀ r ∈ R, ∃ c, nd (p ++ [r]) = some c := fun r hr => by
        rw [hR] at hr
        obtain ⟨x, hx, rfl⟩ := List.mem_map.1 (((List.mergeSort_perm _ _).mem_iff).1 hr)
        exact ⟨x.2, hkm.out x.1 x.2 hx⟩
      obtain ⟨Z5, hZ5⟩ : ∃ Z5 : Nat → Prop, Z5 = fun k => (Z k ∨ k = W.heap.size) ∨ W3.heap.size ≤ k ∧ k < W5.heap.size := ⟨_, rfl⟩
      have hZ15 : ∀ k, (Z k ∨ k = W.heap.size) → Z5 k := fun k h => by rw [hZ5]; exact .inl h
      have hJ5 : J Z5 (headN (nm p)) W5 := hJ.out.more _ _ _ _ _ hJ3.out g35 hZ15 (fun k h => by rw [hZ5] at h; exact h)
      have hz5l : ∀ k, Z5 k → k < W5.heap.size := fun k h => by
        rw [hZ5] at h
        rcases h with h | h
        · exact Nat.lt_of_lt_of_le (hz1.out k h) (Nat.le_trans hz3.out.1 g35.size)
        · exact h.2
      have hz35 : ZK (fun k => (Z k ∨ k = W.heap.size) ∧ k ≠ ll) V W5 := hz3.out.trans (ZK.of g35 (by simp))
      have hrow5 : ∀ j r, R[j]? = some r → ∃ g off, xa = some ⟨g, off, none⟩ ∧ Z5 g ∧ g ≠ ll ∧ W5.cell? ⟨g, off + j, none⟩ = some (.int .i32 r) := fun j r hj => by
        obtain ⟨g, off, q1, q2, q3⟩ := hsr.get (i := j) (by rw [← hRl]; exact (List.getElem?_eq_some_iff.1 hj).1)
        obtain ⟨u, hu, hc⟩ := q3 0 (by omega)
        simp [hj, i32] at hu
        subst hu
        have hgl : g < W5.heap.size := World.block_lt_of_cell? _ _ hc
        have hs4 := g4.size
        have hs3 := hz3.out.1
        exact ⟨g, off, q1, by rw [hZ5]; exact .inr ⟨by omega, hgl⟩, by omega, by simpa using hc⟩
      have LI := Lib.hid (And.intro hJ5 (And.intro hz5l (And.intro hz35 (And.intro hrow5 (And.intro hUR (And.intro hRm hRl))))))
      clear hJ5 hz5l hz35 hrow5 hUR hRm hsr hU hJ3 hz3 hb3 hy3 hT3 hK3 KM c1 c2 hS hx4 g4 g5 g35 hxc1
      refine wpIn_loop (fun a' w' => ∃ (i : Nat) (Ds : List Nat) (Zr : Nat → Prop) (u3 u4 u5 u6 u7 u8 u9 u10 u11 u12 u13 u14 u15 u16 u17 u18 u19 u20 u21 u25 u26 u27 u28 u29 u30 u31 u32 u33 u34 u35 u36 u37 u38 u39 u40 : Value), a' = { tmps := #[.func (.yield ll) #[] #[], .pointer (some ⟨nb, 0, none⟩), .pointer (some ⟨W.heap.size, 0, none⟩), u3, u4, u5, u6, u7, u8, u9, u10, u11, u12, u13, u14, u15, u16, u17, u18, u19, u20, u21, .slice xa kl.length xc, .int .i64 (kl.length : Int), .int .i64 (i : Int), u25, u26, u27, u28, u29, u30, u31, u32, u33, u34, u35, u36, u37, u38, u39, u40], defers := marks Ds } ∧ i ≤ kl.length ∧ (∀ k, Z5 k → Zr k) ∧ (∀ k, Zr k → k < w'.heap.size) ∧
        J Zr (headN (nm p) ++ (R.take i).flatMap (fun r => U (p ++ [r]))) w' ∧ ZK (fun k => Z5 k ∧ k ≠ ll) W5 w' ∧ Marked Ds w' ∧ (∀ D ∈ Ds, Zr D ∧ D ≠ ll ∧ W.heap.size ≤ D)) (fun a' _ => kl.length - (RowKit.intOf (a'.tmps.getD 24 undef)).toNat) ?_ ?_
      · exact ⟨0, [], Z5, _, _, _, _, _, _, _, _, _, _, _, _, _, _, _, _, _, _, _, _, _, _, _, _, _, _, _, _, _, _, _, _, _, _, _, rfl, Nat.zero_le _, fun _ h => h, LI.out.2.1, by simpa using LI.out.1, ZK.refl _ _, Marked.nil _, fun _ h => by cases h⟩
      · rintro a' wr ⟨i, Ds, Zr, u3, u4, u5, u6, u7, u8, u9, u10, u11, u12, u13, u14, u15, u16, u17, u18, u19, u20, u21, u25, u26, u27, u28, u29, u30, u31, u32, u33, u34, u35, u36, u37, u38, u39, u40, rfl, hi, q1, q2, q3, q4, q5, q6⟩
        dsimp only
        by_cases hlt : i < kl.length
        · obtain ⟨r, hr⟩ : ∃ r, R[i]? = some r := ⟨_, List.getElem?_eq_getElem (by rw [LI.out.2.2.2.2.2.2]; exact hlt)⟩
          obtain ⟨c, hc⟩ := LI.out.2.2.2.2.2.1 r (List.mem_of_getElem? hr)
          obtain ⟨hbr, hyr, hTr, _⟩ := FARH.out wr (LI.out.2.2.1.trans (q4.less (fun k h => ⟨hZ15 k h.1, h.2⟩)))
          obtain ⟨g, off, rfl, hg1, hg2, hg3⟩ := LI.out.2.2.2.1 i r hr
          have hcell : wr.cell? ⟨g, off + i, none⟩ = some (.int .i32 r) := (World.cell?_of_block (a := ⟨g, off + i, none⟩) (q4.2 g (LI.out.2.1 g hg1) ⟨hg1, hg2⟩)).trans hg3
          have hlook := hTr.lookup p r
          rw [hc] at hlook
          unfold ptrV at hlook
          dsimp only at hlook
          have d1 := hbr.c0
          have d2 := (hTr.node p b hp).2.c1
          have RD := Lib.hid (And.intro q1 (And.intro q2 (And.intro q3 (And.intro q4 (And.intro q5 (And.intro q6 (And.intro hr (And.intro hyr hTr))))))))
          clear q1 q2 q3 q4 q5 q6 hr hbr hyr hTr hg1 hg2 hg3
          have hZ5o := Lib.hid hZ15
          clear hZ15
          gi_wp2_with (refine ⟨trivial, ?_⟩; gi_at_call 50; refine (callsIn_wide.2 (numbers_any _ _)).mono ?_; rintro e6 W6 ⟨rfl, hb6, g6⟩)
          obtain ⟨q1, q2, q3, q4, q5, q6, hr, hyr, hTr⟩ := RD.out
          have hll6 : ll < wr.heap.size := by have := q4.1; have := LI.out.2.2.1.1; omega
          have hsr6 := g6.size
          have hW6 : W.heap.size ≤ W6.heap.size := by have := q4.1; have := LI.out.2.2.1.1; omega
          have hl6 := hb6.lt
          have hT6 := hTr.heap (w' := W6) (fun k hk => g6.block k (hTr.lt hk) (by simp))
          have hy6 := hyr.new g6
          obtain ⟨P0, hP0⟩ : ∃ P0, P0 = headN (nm p) ++ (R.take i).flatMap (fun r => U (p ++ [r])) := ⟨_, rfl⟩
          obtain ⟨rest, hrest⟩ : ∃ rest, U p = P0 ++ (U (p ++ [r]) ++ rest) := by
            refine ⟨(R.drop (i + 1)).flatMap (fun r => U (p ++ [r])), ?_⟩
            rw [LI.out.2.2.2.2.1, hP0, List.append_assoc]
            congr 1
            have e1 : R = R.take i ++ (r :: R.drop (i + 1)) := by
              obtain ⟨h1, rfl⟩ := List.getElem?_eq_some_iff.1 hr
              rw [← List.drop_eq_getElem_cons h1, List.take_append_drop]
            rw [congrArg (fun l => List.flatMap (fun r => U (p ++ [r])) l) e1, List.flatMap_append, List.flatMap_cons]
          have hnext : headN (nm p) ++ (R.take (i + 1)).flatMap (fun r => U (p ++ [r])) = P0 ++ U (p ++ [r]) := by
            rw [hP0, List.take_add_one, hr, List.flatMap_append, ← List.append_assoc]
            simp
          rw [← hP0] at q3
          obtain ⟨Zi, hZi⟩ : ∃ Zi : Nat → Prop, Zi = fun k => (Zr k ∨ k = wr.heap.size) ∧ k ≠ ll := ⟨_, rfl⟩
          have hZib : Zi wr.heap.size := by rw [hZi]; exact ⟨.inr rfl, by omega⟩
          have hZir : ∀ k, Zr k → k ≠ ll → Zi k := fun k h h' => by rw [hZi]; exact ⟨.inl h, h'⟩
          have hZil : ∀ k, Zi k → k < W6.heap.size := fun k h => by
            rw [hZi] at h
            rcases h.1 with h | rfl
            · have := q2 k h; omega
            · exact hl6
          have hZin : ¬ Zi ll := fun h => by rw [hZi] at h; exact h.2 rfl
          have J6 : J (fun k => Zi k ∨ (k = ll ∧ Zr ll)) P0 W6 := hJ.out.more _ _ _ _ _ q3 g6 (fun k h => by
            by_cases e : k = ll
            · exact .inr ⟨e, e ▸ h⟩
            · exact .inl (hZir k h e)) (fun k h => by
            rcases h with h | ⟨rfl, h⟩
            · rw [hZi] at h
              rcases h.1 with h | rfl
              · exact .inl h
              · exact .inr ⟨Nat.le_refl _, hl6⟩
            · exact .inl h)
          have IH := hIH.out r c wr.heap.size W6 Zi hc hb6 hT6 hZib (fun j hj => hZir j (q1 j (hZ5o.out j (.inl (hz0.out j (hzt.out j hj))))) (htl.out j hj))
          have hmk : ∀ D B, ZK Zi W6 B → W6.heap.size ≤ D → B.heap[D]? = some (.deferred (some [])) → Marked (D :: Ds) B := fun D B hz hD hM =>
            (q5.kept (w' := W6) (fun k hk => g6.block k (q2 k (q6 k hk).1) (by simp))).more (fun k hk => hz.2 k (by have := q2 k (q6 k hk).1; omega) (hZir k (q6 k hk).1 (q6 k hk).2.1)) hM (fun h => by have := q2 D (q6 D h).1; omega)
          have MK := Lib.hid hmk
          have HH := Lib.hid (And.intro q1 (And.intro q2 (And.intro q4 (And.intro q6 (And.intro hy6 (And.intro hZir (And.intro hZin (And.intro hrest hnext))))))))
          have IHH := Lib.hid IH
          have J6H := Lib.hid J6
          clear q1 q2 q3 q4 q5 q6 hr hyr hTr hT6 hy6 hrest hnext hZir hZin hmk IH J6 hlook hcell d1 d2 hP0
          refine range_tellsZ1 (a := _) (w := W6) (α := Int) rfl (by omega) (gf := 59) (lb := #[.pointer (some ⟨wr.heap.size, 0, none⟩)]) rfl trivial (enters_of Try.func59 (by kernel_rfl) rfl)
            IHH.out hZil (fun _ => rfl) (fun _ _ _ _ _ _ h _ _ _ => h)
            (fun Z' pre' A => ¬ Z' ll ∧ J (fun k => Z' k ∨ (k = ll ∧ Zr ll)) (P0 ++ pre') A ∧ ZK Zi W6 A) (fun c' Z' _ A => c' = .ret ∧ ¬ Z' ll ∧ (∃ pre, Jx (fun k => Z' k ∨ (k = ll ∧ Zr ll)) pre A) ∧ ZK Zi W6 A)
            (fun Z' s A h => h.2.2.1) ?hI2 ?hIx2 ⟨HH.out.2.2.2.2.2.2.1, by simpa using J6H.out, ZK.refl _ _⟩ ?a12 (fun _ _ _ _ h _ => h) ?assign2 ?body2 ?done2 ?stop2
          case hI2 =>
            refine ⟨fun Z' Z'' s A B h g h1 h2 => ⟨fun e => ?_, hJ.out.more _ _ _ _ _ h.2.1 g (fun k hk => hk.imp (h1 k) id) (fun k hk => ?_), h.2.2.trans (ZK.of g (by simp))⟩, fun Z' s A B q h hq hn g => ⟨h.1, hJ.out.own _ _ _ _ q h.2.1 (.inl hq) (by omega) g, ?_⟩⟩
            · rcases h2 _ e with e | e
              · exact h.1 e
              · have := h.2.2.1; omega
            · rcases hk with hk | hk
              · exact (h2 k hk).imp .inl id
              · exact .inl (.inr hk)
            · exact h.2.2.trans (ZK.new g (fun k e => by cases e; exact hn) hZil)
          case hIx2 =>
            intro c'
            refine ⟨fun Z' Z'' s A B h g h1 h2 => ⟨h.1, fun e => ?_, ?_, h.2.2.2.trans (ZK.of g (by simp))⟩, fun Z' s A B q h hq hn g => ⟨h.1, h.2.1, ?_, ?_⟩⟩
            · rcases h2 _ e with e | e
              · exact h.2.1 e
              · have := h.2.2.2.1; omega
            · obtain ⟨pre, hj⟩ := h.2.2.1
              exact ⟨pre, hJx.out.more _ _ _ _ _ hj g (fun k hk => hk.imp (h1 k) id) (fun k hk => by
                rcases hk with hk | hk
                · exact (h2 k hk).imp .inl id
                · exact .inl (.inr hk))⟩
            · obtain ⟨pre, hj⟩ := h.2.2.1
              exact ⟨pre, hJx.out.own _ _ _ _ q hj (.inl hq) (by omega) g⟩
            · exact h.2.2.2.trans (ZK.new g (fun k e => by cases e; exact hn) hZil)
          case assign2 =>
            intro l' x A K hK
            unfold mEnc
            gi_wp2
            exact hK
          case body2 =>
            rintro l2 Z' pre' x A hZ0 hZl ⟨i1, i2, i3⟩ hok hsz
            obtain ⟨q1, q2, q4, q6, hy6, hZir, hZin, hrest, hnext⟩ := HH.out
            have hyA := (hy6.zk i3 (hZir _ (q1 _ (hZ5o.out _ (.inr rfl))) hyl)).c0
            have hOk : mOk (U p) (P0 ++ pre') x A := by
              obtain ⟨o1, o2⟩ := hok
              have ol := (List.getElem?_eq_some_iff.1 o2).1
              rw [hrest]
              refine ⟨?_, ?_⟩
              · rw [List.length_append, List.take_length_add_append, List.take_append_of_le_length (Nat.le_of_lt ol), ← o1]
              · rw [List.length_append, List.getElem?_append_right (by omega), Nat.add_sub_cancel_left, List.getElem?_append_left ol]
                exact o2
            have hllA : ll < A.heap.size := by omega
            obtain ⟨fn, tmps, assign, body, hy, hRd⟩ := hY.out (fun k => Z' k ∨ (k = ll ∧ Zr ll)) (P0 ++ pre') x A (fun k h => .inl (hZ0 k (hZir k (q1 k (hZ5o.out k (.inl (hz0.out k h)))) (hzn.out k h)))) (fun k h => by
              rcases h with h | ⟨rfl, _⟩
              · exact hZl k h
              · exact hllA) i2 hOk
            unfold mEnc at hy
            have I1 := Lib.hid (And.intro i1 i3)
            have hZI : Hid (∀ k, Zi k → Z' k) := hZ0
            have hZIn : Hid (¬ Zi ll) := hZin
            clear hok hOk hrest hnext hZin hZir q1 q2 q4 q6 hy6 i1 i2 i3 hZ0
            gi_wp2_with fail
            refine (roundIn_wideT hRd).mono ?_
            rintro e7 A3 (⟨rfl, hj7, hk7⟩ | ⟨rfl, hj7, hk7⟩)
            · have F7 := Lib.hid (show ZK Z' A A3 ∧ ¬ Z' ll ∧ J (fun k => Z' k ∨ (k = ll ∧ Zr ll)) (P0 ++ (pre' ++ [x])) A3 ∧ ZK Zi W6 A3 from ⟨hk7.less (fun k h => ⟨.inl h, fun e => I1.out.1 (e ▸ h)⟩), I1.out.1, by rw [← List.append_assoc]; exact hj7, I1.out.2.trans (hk7.less (fun k h => ⟨.inl (hZI.out k h), fun e => hZIn.out (e ▸ h)⟩))⟩)
              clear hj7 hk7 hRd hy
              gi_wp2_with fail
              exact F7.out
            · have F7 := Lib.hid (show ZK Z' A A3 ∧ Code.ret = .ret ∧ ¬ Z' ll ∧ (∃ pre, Jx (fun k => Z' k ∨ (k = ll ∧ Zr ll)) pre A3) ∧ ZK Zi W6 A3 from ⟨hk7.less (fun k h => ⟨.inl h, fun e => I1.out.1 (e ▸ h)⟩), rfl, I1.out.1, ⟨_, hj7⟩, I1.out.2.trans (hk7.less (fun k h => ⟨.inl (hZI.out k h), fun e => hZIn.out (e ▸ h)⟩))⟩)
              clear hj7 hk7 hRd hy
              gi_wp2_with fail
              exact ⟨F7.out.1, rfl, F7.out.2.2⟩
          case stop2 =>
            rintro D c7 Z' pre' A B hD hZD hz' hzl' _ ⟨rfl, i1, i2, i3⟩ hg hM
            obtain ⟨q1, q2, q4, q6, hy6, hZir, hZin, hrest, hnext⟩ := HH.out
            have hMk := MK.out D B i3 hD hM
            have hZs : ∀ k, Z5 k → (Z' k ∨ (k = ll ∧ Zr ll)) := fun k h => by
              by_cases e : k = ll
              · exact .inr ⟨e, e ▸ q1 k h⟩
              · exact .inl (hz' k (hZir k (q1 k h) e))
            have hZl : ∀ k, (Z' k ∨ (k = ll ∧ Zr ll)) → k < B.heap.size := fun k h => by
              rcases h with h | ⟨rfl, _⟩
              · exact hzl' k h
              · have := i3.1; omega
            have hDs : ∀ k ∈ D :: Ds, (Z' k ∨ (k = ll ∧ Zr ll)) ∧ k ≠ ll ∧ W.heap.size ≤ k := fun k hk => by
              rcases List.mem_cons.1 hk with rfl | hk
              · exact ⟨.inl hZD, by omega, by omega⟩
              · obtain ⟨e1, e2, e3⟩ := q6 k hk
                exact ⟨.inl (hz' k (hZir k e1 e2)), e2, e3⟩
            have F := Lib.hid (And.intro (fun k (h : Z k) => hZs k (hZ5o.out k (.inl h)) : ∀ k, Z k → (Z' k ∨ (k = ll ∧ Zr ll))) (And.intro hZl (And.intro hDs (And.intro hMk i2))))
            clear q1 q2 q4 q6 hy6 hZir hZin hrest hnext hMk hZs hZl hDs hz' hzl' i1 i2 i3 hg hM
            gi_wp2_with fail
            obtain ⟨f1, f2, f3, f4, f5⟩ := F.out
            refine leaves_with (fun w => (∃ pre, Jx (fun k => Z' k ∨ (k = ll ∧ Zr ll)) pre w) ∧ ∀ k, (Z' k ∨ (k = ll ∧ Zr ll)) → k < w.heap.size) (D :: Ds) B f4 ⟨f5, f2⟩
              (fun D' hD' w h hb => ⟨by obtain ⟨pre, hj⟩ := h.1; exact ⟨pre, hJx.out.own _ _ _ _ D' hj (f3 D' hD').1 (f3 D' hD').2.2 (grownBy_putObj' w D' (.deferred none))⟩, fun k hk => by simpa [World.putObj] using h.2 k hk⟩)
              (fun w' h => ⟨.tuple #[], results_none rfl _ _ _, ⟨_, rfl⟩, _, f1, h.2, .inr (by simpa using h.1)⟩)
          case done2 =>
            rintro D Z' xs A B hD hZD hz' hzl' hxs ⟨i1, i2, i3⟩ hg hM
            obtain ⟨q1, q2, q4, q6, hy6, hZir, hZin, hrest, hnext⟩ := HH.out
            have hMk := MK.out D B i3 hD hM
            have hxs' : xs = U (p ++ [r]) := hxs
            rw [hxs', ← hnext] at i2
            have hZs : ∀ k, Z5 k → (Z' k ∨ (k = ll ∧ Zr ll)) := fun k h => by
              by_cases e : k = ll
              · exact .inr ⟨e, e ▸ q1 k h⟩
              · exact .inl (hz' k (hZir k (q1 k h) e))
            have hZl : ∀ k, (Z' k ∨ (k = ll ∧ Zr ll)) → k < B.heap.size := fun k h => by
              rcases h with h | ⟨rfl, _⟩
              · exact hzl' k h
              · have := i3.1; omega
            have hDs : ∀ k ∈ D :: Ds, (Z' k ∨ (k = ll ∧ Zr ll)) ∧ k ≠ ll ∧ W.heap.size ≤ k := fun k hk => by
              rcases List.mem_cons.1 hk with rfl | hk
              · exact ⟨.inl hZD, by omega, by omega⟩
              · obtain ⟨e1, e2, e3⟩ := q6 k hk
                exact ⟨.inl (hz' k (hZir k e1 e2)), e2, e3⟩
            have F := Lib.hid (And.intro hZs (And.intro hZl (And.intro i2 (And.intro (q4.trans ((ZK.of g6 (by simp)).trans (i3.less (fun k h => hZir k (q1 k h.1) h.2)))) (And.intro hMk hDs)))))
            clear q1 q2 q4 q6 hy6 hZir hZin hrest hnext hMk hZs hZl hDs hz' hzl' i1 i2 i3 hg hM hxs hxs'
            gi_wp2_with fail
            obtain ⟨f1, f2, f3, f4, f5, f6⟩ := F.out
            exact ⟨⟨i + 1, D :: Ds, fun k => Z' k ∨ (k = ll ∧ Zr ll), _, _, _, _, _, _, _, _, _, _, _, _, _, _, _, _, _, _, _, _, _, _, _, _, _, _, _, _, _, _, _, _, _, _, _, rfl, hlt, f1, f2, f3, f4, f5, f6⟩, by simp [RowKit.intOf]; omega⟩
        · obtain rfl : kl.length = i := by omega
          have hfull : headN (nm p) ++ (R.take kl.length).flatMap (fun r => U (p ++ [r])) = U p := by rw [← LI.out.2.2.2.2.2.2, List.take_length]; exact LI.out.2.2.2.2.1.symm
          rw [hfull] at q3
          have RD := Lib.hid (And.intro (fun k (h : Z k) => q1 k (hZ15 k (.inl h)) : ∀ k, Z k → Zr k) (And.intro q2 (And.intro q3 (And.intro q5 q6))))
          clear q1 q2 q3 q4 q5 q6 hfull hZ15
          gi_wp2_with fail
          obtain ⟨q1, q2, q3, q5, q6⟩ := RD.out
          refine leaves_with (fun w => J Zr (U p) w ∧ ∀ k, Zr k → k < w.heap.size) Ds wr q5 ⟨q3, q2⟩ (fun D hD w h hb => ⟨hJ.out.own _ _ _ _ D h.1 (q6 D hD).1 (q6 D hD).2.2 (grownBy_putObj' w D (.deferred none)), fun k hk => by simpa [World.putObj] using h.2 k hk⟩)
            (fun w' h => ⟨.tuple #[], results_none rfl _ _ _, ⟨_, rfl⟩, Zr, q1, h.2, .inl (by simpa using h.1)⟩)
    · have hz3 := hzd.trans hk3
      obtain ⟨hb3, hy3, hT3, hK3⟩ := FARH.out W3 hz3
      refine hK.out _ _ ⟨hb3.c0, hy3.c0, (hT3.node p b hp).2.c0⟩ (fun hS2 => ?_)
      clear hK
      refine wpAnyHIn_take (i := 9) (oi := ⟨some 15, _, _, _, _, _⟩) (v := ?_) rfl (by kernel_rfl) (by kernel_rfl) (by kernel_rfl) (by kernel_rfl) (fun _ _ _ h => h) (fun _ => rfl) (Or.inl ⟨by rfl, ?_⟩) (by assumption) ?_
      rotate_left
      · (intro w hSw; (try dsimp only at hSw); go_simp; try with_reducible rfl)
      try simp only [Act.put, List.setIfInBounds_toArray, List.set_cons_zero, List.set_cons_succ]
      refine wpAnyHIn_take (i := 10) (oi := ⟨some 16, _, _, _, _, _⟩) (v := ?_) rfl (by kernel_rfl) (by kernel_rfl) (by kernel_rfl) (by kernel_rfl) (fun _ _ _ h => h) (fun _ => rfl) (Or.inl ⟨by rfl, ?_⟩) (by assumption) ?_
      rotate_left
      · (intro w hSw; (try dsimp only at hSw); go_simp; try with_reducible rfl)
      try simp only [Act.put, List.setIfInBounds_toArray, List.set_cons_zero, List.set_cons_succ]
      refine wpAnyHIn_done (by kernel_rfl) ?_ _
      refine noPanicT ?_
      have hfin : Hid (∃ pre, Jx (fun k => Z k ∨ k = W.heap.size) pre W3) := ⟨_, hj3⟩
      have hfl : Hid (∀ k, (Z k ∨ k = W.heap.size) → k < W3.heap.size) := fun k h => Nat.lt_of_lt_of_le (hz1 k h) hz3.1
      clear hU
      clear hS0 hS1 hS2 hN hEnd hTd hyd hbd hJd hy hRd hj3 hk3
      gi_wp2_with fail
      refine leaves_with (fun w => w = W3) [] W3 (Marked.nil W3) rfl (fun _ h => by cases h) (fun w' e => ?_)
      subst e
      exact ⟨.tuple #[], results_none rfl _ _ _, ⟨_, rfl⟩, _, fun k h => .inl h, hfl.out, .inr (by simpa using hfin.out)⟩
end Go.Proofs.Ytlnplompnabmlaa

/-
  LAYER 9 (trie): the numbers from a node on, told in order, whatever the node.
-/
namespace Go.Proofs.Ytlnplompnabmlaa
set_option maxRecDepth 100000
open Go.RowKit

/-- kl lists a node's kids. -/
def KidsOf (nd : List Int → Option Nat) (p : List Int) (kl : Kl) : Prop := (kl.map (·.1)).Nodup ∧ ∀ r c, (r, c) ∈ kl ↔ nd (p ++ [r]) = some c

theorem numbers1_all (nd mp : List Int → Option Nat) (nm : List Int → Int) (U : List Int → List Int)
    (hU : ∀ p kl, nd p ≠ none → KidsOf nd p kl → U p = headN (nm p) ++ (inOrder (kl.map (·.1))).flatMap (fun r => U (p ++ [r]))) (hlim : ∀ p kl, nd p ≠ none → KidsOf nd p kl → kl.length ≤ 1048576) :
    ∀ (k : Nat) (p : List Int) (b nb : Nat) (w : World) (Z0 : Nat → Prop), nd p = some b → (∀ q, nd (p ++ q) ≠ none → q.length < k) → Box w nb 55 (.pointer (some ⟨b, 0, none⟩)) → TreeM (fun _ => True) w nd mp nm → Z0 nb → (∀ j, InT nd mp j → Z0 j) →
      TellsZ Fence.wide (k + 2) Try.prog 59 #[.pointer (some ⟨nb, 0, none⟩)] mEnc (mOk (U p)) Z0 (fun xs _ => xs = U p) (fun _ _ => True) w := by
  intro k
  induction k with
  | zero =>
    intro p b nb w Z0 hp hq
    exact absurd (hq [] (by rw [List.append_nil, hp]; simp)) (Nat.not_lt_zero _)
  | succ k ih =>
    intro p b nb w Z0 hp hq hbox hT hzb hzt
    have hne : nd p ≠ none := by rw [hp]; simp
    obtain ⟨kl, hkl, hKM⟩ : ∃ kl, KidsOf nd p kl ∧ KidsM w (mp p) (klV kl) := by
      cases hm : mp p with
      | none => exact ⟨[], ⟨List.nodup_nil, fun r c => by rw [hT.nokid p hm r]; simp⟩, .inl ⟨rfl, rfl⟩⟩
      | some m =>
        obtain ⟨_, kl, h1, h2, h3⟩ := hT.kids p m hm
        exact ⟨kl, ⟨h2, h3⟩, .inr ⟨m, rfl, h1⟩⟩
    exact numbers1_step k nd mp nm U p b kl (hlim p kl hne hkl) (fun r c h => (hkl.2 r c).1 h) (hU p kl hne hkl)
      (fun r c nb' w' Z0' hc hb hT' hz hzt' => ih (p ++ [r]) c nb' w' Z0' hc (fun q hq' => by
        have := hq ([r] ++ q) (by rw [← List.append_assoc]; exact hq')
        simp at this
        omega) hb hT' hz hzt') Z0 nb w hp hbox hT hKM hzb hzt
end Go.Proofs.Ytlnplompnabmlaa
