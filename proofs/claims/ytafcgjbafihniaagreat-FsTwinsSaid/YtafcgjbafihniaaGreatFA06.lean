/-
  LAYER 1 (fs): what tells the numbers: all (Sync), Keep's in turn (die).
-/
import Derived.Test.YtafcgjbafihniaaGreatFA05
import Derived.Deep.QuietTactic
import Derived.Test.YtafcgjbafihniaaGreatFA03
import Derived.Shelf.SlMaps.Clone
import Derived.RangeFuncRecord
import Derived.Test.YtafcgjbafihniaaGreatFA04
namespace Go.Proofs.YtafcgjbafihniaaGreat
set_option maxRecDepth 100000
open Go.RowKit Go.Lib
attribute [local go_sem] Oper.semAt_some

/-- Sync's: everything survives. -/
theorem allNext : NextOk Tryz.prog 59 #[] (fun _ => -1) none [] (fun _ _ => True) where
  enter := fun args W => by kernel_rfl
  call := fun i w _ _ => by
    go_enter Tryz.func59, Tryz.ntmps59
    go_wp2
    go_ret
    exact ⟨rfl, trivial, World.grownBy.refl _ _⟩
  kept := fun _ _ _ _ _ => trivial
  mem := fun _ h => by cases h
  lt := fun _ _ _ k hk => by cases hk

/-- The i-th number of Keep, from its first again behind its last; 0 of none. -/
def keepAt (keep : List Int) (i : Nat) : Int := keep.getD (i % keep.length) 0

/-- The state of a turn through Keep: a counter, a variable that holds the list, the list's row. -/
def TurnAt (ab kb : Nat) (kv : Value) (keep : List Int) (i : Nat) (w : World) : Prop :=
  w.heap[ab]? = some (.cells #[.int .i64 (i : Int)] 3 (0, 0)) ∧ w.heap[kb]? = some (.cells #[kv] 22 (0, 0)) ∧ w.ownsRow 0 3 1 kv keep.length (keep.map (fun x => .int .i64 x))

set_option maxHeartbeats 4000000 in
theorem turn_call (ab kb : Nat) (kv : Value) (keep : List Int) (hne : ab ≠ kb ∧ kv.ownBlock ≠ some ab) (hlen : keep.length < 4611686018427387904) (i : Nat) (w : World) (hi : i < 4611686018427387904) (h : TurnAt ab kb kv keep i w) :
    Calls Tryz.prog 105 #[.pointer (some ⟨kb, 0, none⟩), .pointer (some ⟨ab, 0, none⟩)] w fun e w' => e = .returned (.int .i64 (keepAt keep i)) ∧ (keep ≠ [] ∧ TurnAt ab kb kv keep (i + 1) w' ∨ keep = [] ∧ TurnAt ab kb kv keep i w') ∧ w.grownBy w' (some ab) := by
  obtain ⟨h1, h2, h3⟩ := h
  have l1 : w.cell? ⟨ab, 0, none⟩ = some (.int .i64 (i : Int)) := by simp [World.cell?, h1]
  have l2 : w.cell? ⟨kb, 0, none⟩ = some kv := by simp [World.cell?, h2]
  have fr : w.frozen? ⟨ab, 0, none⟩ = false := by simp [World.frozen?, h1]
  have h30 := h3
  obtain ⟨_, ⟨rfl, hz⟩ | ⟨g, cap, cur, rfl, hB, hg, hn, hm, hs, ht⟩⟩ := h3
  · have hk := List.length_eq_zero_iff.1 hz
    subst hk
    go_enter Tryz.func105, Tryz.ntmps105
    go_wp2
    go_ret
    exact ⟨by first | trivial | rfl, .inr ⟨by first | trivial | rfl, h1, h2, h30⟩, World.grownBy.refl _ _⟩
  · by_cases hk : keep = []
    · subst hk
      go_enter Tryz.func105, Tryz.ntmps105
      go_wp2
      go_ret
      exact ⟨by first | trivial | rfl, .inr ⟨by first | trivial | rfl, h1, h2, h30⟩, World.grownBy.refl _ _⟩
    · have hpos : 0 < keep.length := List.length_pos_iff.2 hk
      obtain ⟨m, hm0⟩ : ∃ m, m = i % keep.length := ⟨_, rfl⟩
      have hml : m < keep.length := by rw [hm0]; exact Nat.mod_lt _ hpos
      have hcell : w.cell? ⟨g, m, none⟩ = some (.int .i64 (keepAt keep i)) := by
        rw [World.ownsRow.cellAt h30 m (by omega)]
        simp [keepAt, ← hm0, hml]
      obtain ⟨L, hL⟩ : ∃ L, L = keep.length := ⟨_, rfl⟩
      have e1 : Int.tmod (i : Int) (L : Int) = (m : Int) := by rw [hm0, hL]; exact (Int.ofNat_tmod i keep.length).symm
      have e2 : (i : Int) % (L : Int) = (m : Int) := by rw [hm0, hL]; exact (Int.natCast_emod i keep.length).symm
      have e3 : ((L : Int) == 0) = false := by simp; omega
      rw [← hL] at l2 hml hpos
      generalize keepAt keep i = K at hcell ⊢
      have hm1 : Hid (m = i % keep.length) := Lib.hid hm0
      have hL1 := Lib.hid hL
      have gF := gset (World.grownBy.refl w (some ab)) 0 (.int .i64 ((i : Int) + 1))
      have hA := heap_setCell_same w ab 0 _ _ (.int .i64 ((i : Int) + 1)) h1
      have hb2 := (gF.block kb (lt_of_block h2) (fun e => hne.1 (by cases e; rfl))).trans h2
      have hc2 := World.ownsRow.kept h30 gF (.inr hne.2)
      have hT : TurnAt ab kb (.slice (some ⟨g, 0, none⟩) keep.length cap) keep (i + 1) (w.setCell ⟨ab, 0, none⟩ (.int .i64 ((i : Int) + 1))) := ⟨hA, hb2, hc2⟩
      clear hm0 hL hA hb2 hc2 h30
      replace hT := Lib.hid hT
      go_enter Tryz.func105, Tryz.ntmps105
      go_wp2_with fail
      go_quiet (fail)
      go_wp2_with fail
      go_ret
      refine ⟨rfl, .inl ⟨hk, ?_⟩, gset (gdrewN (World.grownBy.refl w (some ab)) _) 0 _⟩
      rw [hL1.out] at *
      exact hT.out

/-- Keep's numbers in turn. -/
theorem turnNext (ab kb : Nat) (kv : Value) (keep : List Int) (hne : ab ≠ kb ∧ kv.ownBlock ≠ some ab) (hlen : keep.length < 4611686018427387904) :
    NextOk Tryz.prog 105 #[.pointer (some ⟨kb, 0, none⟩), .pointer (some ⟨ab, 0, none⟩)] (keepAt keep) (some ab) (ab :: kb :: kv.ownBlock.toList) (fun i w => ∃ i', (keep = [] ∧ i' = 0 ∨ keep ≠ [] ∧ i' = i) ∧ TurnAt ab kb kv keep i' w) where
  enter := fun args W => by kernel_rfl
  call := fun i w hi ⟨i', h1, h2⟩ => by
    rcases h1 with ⟨hk, rfl⟩ | ⟨hk, rfl⟩
    · refine (turn_call ab kb kv keep hne hlen 0 w (by decide) h2).mono ?_
      rintro e w' ⟨rfl, ⟨h, _⟩ | ⟨_, h⟩, g⟩
      · exact absurd hk h
      · exact ⟨by simp [keepAt, hk], ⟨_, .inl ⟨hk, rfl⟩, h⟩, g⟩
    · refine (turn_call ab kb kv keep hne hlen i' w hi h2).mono ?_
      rintro e w' ⟨rfl, ⟨_, h⟩ | ⟨h, _⟩, g⟩
      · exact ⟨rfl, ⟨_, .inr ⟨hk, rfl⟩, h⟩, g⟩
      · exact absurd h hk
  kept := fun i A B ⟨i', h1, h2, h4, h5⟩ hb => by
    refine ⟨i', h1, (hb ab (by simp)).trans h2, (hb kb (by simp)).trans h4, ?_⟩
    obtain ⟨q1, q2 | ⟨g, cap, cur, rfl, q4, q5, q6⟩⟩ := h5
    · exact ⟨q1, .inl q2⟩
    · exact ⟨q1, .inr ⟨g, cap, cur, rfl, q4, (hb g (by simp [Value.ownBlock])).trans q5, q6⟩⟩
  mem := fun r h => by cases h; simp
  lt := fun i A ⟨i', h1, h2, h4, h5⟩ k hk => by
    simp only [List.mem_cons, Option.mem_toList] at hk
    rcases hk with rfl | rfl | hk
    · exact lt_of_block h2
    · exact lt_of_block h4
    · exact (World.ownsRow.lt h5 k hk).2
end Go.Proofs.YtafcgjbafihniaaGreat

/-
  LAYER 1 (fs): what a death leaves: the state between two files.
-/
namespace Go.Proofs.YtafcgjbafihniaaGreat
set_option maxRecDepth 100000
open Go.RowKit Go.Lib
open Go.Proofs (encStr)

theorem kept_len (k : Int) (bs : List UInt8) (c : Chg) (h : c.may bs) (hl : bs.length ≤ 140737488355328) : (c.kept k bs).1.length ≤ 140737488355328 := by
  cases c with
  | add a =>
    have := surv_le k a.size
    unfold Chg.may at h
    simp only [Chg.kept, List.length_append, List.length_take]
    omega
  | cut c =>
    simp only [Chg.kept]
    cases cutLives k
    · exact hl
    · simp only [cond_true, List.length_take]; omega
theorem settleP_false (ks : Nat → Int) : ∀ (l : List Chg) (i : Nat) (bs : List UInt8), settleP ks i false bs l = bs
  | [], _, _ => rfl
  | _ :: l, i, bs => settleP_false ks l (i + 1) bs
theorem settleP_len (ks : Nat → Int) : ∀ (l : List Chg) (i : Nat) (bs : List UInt8), okL bs l → bs.length ≤ 140737488355328 → (settleP ks i true bs l).length ≤ 140737488355328
  | [], _, _, _, h => h
  | c :: l, i, bs, ho, h => by
    have h1 := kept_len (ks i) bs c ho.1 h
    rw [settleP]
    cases hw : (c.kept (ks i) bs).2
    · rw [settleP_false]; exact h1
    · refine settleP_len ks l (i + 1) _ ?_ h1
      rw [kept_whole _ _ _ hw]
      exact ho.2

/-- How many numbers the files take. -/
def cnt (F : Nat → FileV) (l : List (List UInt8 × Nat)) : Nat := (l.map (fun x => (F x.2).chg.length)).sum
theorem cnt_append (F : Nat → FileV) (l : List (List UInt8 × Nat)) (x : List UInt8 × Nat) : cnt F (l ++ [x]) = cnt F l + (F x.2).chg.length := by simp [cnt]
theorem cnt_take (F : Nat → FileV) (l : List (List UInt8 × Nat)) (j : Nat) : cnt F (l.take j) ≤ cnt F l := by
  unfold cnt
  conv => rhs; rw [← List.take_append_drop j l]
  rw [List.map_append, List.sum_append]
  omega
def filesOf (F : Nat → FileV) (l : List (List UInt8 × Nat)) : List (Nat × FileV) := l.map (fun x => (x.2, F x.2))
/-- What a file holds behind a death. -/
def diedAs (ks : Nat → Int) (F : Nat → FileV) (i : Nat) (b : Nat) (g : FileV) : Prop :=
  g.safe = settleP ks i true (F b).safe (F b).chg ∧ g.data = g.safe ∧ g.chg = []

/-- Between two files. -/
def DieI (w2 : World) (R : Option Nat) (nb : Nat) (nv : Value) (NS : Nat → World → Prop) (nbl : List Nat) (ks : Nat → Int) (l : List (List UInt8 × Nat)) (F : Nat → FileV) (Foot : Nat → Prop) (pre : List (List UInt8 × Nat)) (W : World) : Prop :=
  w2.heap.size ≤ W.heap.size ∧ Boxed W nb 58 nv ∧ Foot nb ∧ (∀ k ∈ nbl, Foot k) ∧ NS (1 + cnt F pre) W ∧
  ∃ G : Nat → FileV, FilesM W (filesOf G pre ++ filesOf F (l.drop pre.length)) ∧ (∀ k ∈ filesBlocks (filesOf G pre ++ filesOf F (l.drop pre.length)), Foot k) ∧
    (∀ i x, pre[i]? = some x → diedAs ks F (1 + cnt F (pre.take i)) x.2 (G x.2)) ∧ (∀ x ∈ pre, ∀ k ∈ (G x.2).blocks, k ∈ (F x.2).blocks ∨ w2.heap.size ≤ k) ∧
    GP (fun k => R = some k ∨ k ∈ filesBlocks (filesOf F l)) w2 W

theorem DieI.keep {P : Program} {g : Nat} {lb : Array Value} {w2 : World} {R : Option Nat} {nb : Nat} {nv : Value} {NS : Nat → World → Prop} {nbl : List Nat} {ks : Nat → Int} {l : List (List UInt8 × Nat)} {F : Nat → FileV} (N : NextOk P g lb ks R nbl NS) :
    ∀ Foot s A B q, DieI w2 R nb nv NS nbl ks l F Foot s A → A.grownBy B q → (∀ k, q = some k → w2.heap.size ≤ k ∧ ¬ Foot k) → DieI w2 R nb nv NS nbl ks l F Foot s B := by
  rintro Foot s A B q ⟨h1, h2, h3, h4, h5, G, h6, h7, h8, h9, h10⟩ g hq
  have gp : GP (fun k => q = some k) A B := GP.of g (fun _ h => h)
  exact ⟨Nat.le_trans h1 g.size, h2.kept g (fun e => (hq _ e.symm).2 h3), h3, h4, N.kept _ _ _ h5 (fun k hk => g.block k (N.lt _ _ h5 k hk) (fun e => (hq k e.symm).2 (h4 k hk))), G,
    h6.kept gp (fun k hk e => (hq k e).2 (h7 k hk)), h7, h8, h9, h10.step g (fun k e => .inr (hq k e).1)⟩

theorem filesOf_append (F : Nat → FileV) (a b : List (List UInt8 × Nat)) : filesOf F (a ++ b) = filesOf F a ++ filesOf F b := by simp [filesOf]
theorem filesOf_congr {F G : Nat → FileV} {l : List (List UInt8 × Nat)} (h : ∀ x ∈ l, F x.2 = G x.2) : filesOf F l = filesOf G l := by
  unfold filesOf
  exact List.map_congr_left (fun x hx => by rw [h x hx])
theorem mem_filesOf {F : Nat → FileV} {l : List (List UInt8 × Nat)} {p : Nat × FileV} : p ∈ filesOf F l ↔ ∃ x ∈ l, p = (x.2, F x.2) := by
  unfold filesOf
  rw [List.mem_map]
  exact ⟨fun ⟨x, h, e⟩ => ⟨x, h, e.symm⟩, fun ⟨x, h, e⟩ => ⟨x, h, e.symm⟩⟩

/-- One file more. -/
theorem DieI.next {w2 W W5 : World} {R : Option Nat} {nb : Nat} {nv : Value} {NS : Nat → World → Prop} {nbl : List Nat} {ks : Nat → Int} {l : List (List UInt8 × Nat)} {F : Nat → FileV} {Z Foot : Nat → Prop} {pre : List (List UInt8 × Nat)} {nm : List UInt8} {b : Nat} {f' : FileV} {P : Nat → Prop}
    (h : DieI w2 R nb nv NS nbl ks l F Foot pre W) (hFt : ∀ k, Foot k → ¬ Z k ∧ k < W.heap.size) (hZl : ∀ k, Z k → k < W.heap.size) (hpre : pre = l.take pre.length) (hx : l[pre.length]? = some (nm, b)) (hap : ∀ k ∈ filesBlocks (filesOf F l), k ∉ nbl ∧ k < w2.heap.size) (hnb : nb ∉ filesBlocks (filesOf F l) ∧ nb < w2.heap.size ∧ R ≠ some nb) (hR : ∀ r, R = some r → r ∈ nbl) (hnl : ∀ k ∈ nbl, k < w2.heap.size)
    (g : GP P W W5) (hP : ∀ k, P k → k = b ∨ k ∈ (F b).blocks ∨ R = some k) (hf : FileAt W5 b f') (hb : ∀ k ∈ f'.blocks, k ∈ (F b).blocks ∨ W.heap.size ≤ k) (hd : diedAs ks F (1 + cnt F pre) b f') (hN : NS (1 + cnt F (pre ++ [(nm, b)])) W5) :
    ZK Z W W5 ∧ Ft (DieI w2 R nb nv NS nbl ks l F) Z (pre ++ [(nm, b)]) W5 := by
  obtain ⟨h1, h2, h3, h4, h5, G, h6, h7, h8, h9, h10⟩ := h
  have hlen : pre.length < l.length := (List.getElem?_eq_some_iff.1 hx).1
  have hdrop : l.drop pre.length = (nm, b) :: l.drop (pre.length + 1) := by
    rw [List.drop_eq_getElem_cons hlen]
    have := List.getElem?_eq_some_iff.1 hx
    rw [this.2]
  have hin : (nm, b) ∈ l := List.mem_of_getElem? hx
  have hbl : ∀ k, k = b ∨ k ∈ (F b).blocks → k ∈ filesBlocks (filesOf F l) := fun k hk => mem_filesBlocks.2 ⟨(b, F b), mem_filesOf.2 ⟨_, hin, rfl⟩, hk⟩
  rw [hdrop] at h6 h7
  have e1 : filesOf F ((nm, b) :: l.drop (pre.length + 1)) = (b, F b) :: filesOf F (l.drop (pre.length + 1)) := rfl
  rw [e1] at h6 h7
  -- where the blocks of the others lie
  have hoth : ∀ k ∈ filesBlocks (filesOf G pre ++ filesOf F (l.drop (pre.length + 1))), k ∈ filesBlocks (filesOf F l) ∨ w2.heap.size ≤ k := fun k hk => by
    obtain ⟨p, hp, hk⟩ := mem_filesBlocks.1 hk
    rcases List.mem_append.1 hp with hp | hp
    · obtain ⟨x, hx1, rfl⟩ := mem_filesOf.1 hp
      have hxl : x ∈ l := by rw [hpre] at hx1; exact List.mem_of_mem_take hx1
      rcases hk with e | e
      · exact .inl (mem_filesBlocks.2 ⟨_, mem_filesOf.2 ⟨x, hxl, rfl⟩, .inl e⟩)
      · rcases h9 x hx1 k e with h | h
        · exact .inl (mem_filesBlocks.2 ⟨_, mem_filesOf.2 ⟨x, hxl, rfl⟩, .inr h⟩)
        · exact .inr h
    · obtain ⟨x, hx1, rfl⟩ := mem_filesOf.1 hp
      exact .inl (mem_filesBlocks.2 ⟨_, mem_filesOf.2 ⟨x, List.mem_of_mem_drop hx1, rfl⟩, hk⟩)
  have hM : FilesM W5 (filesOf G pre ++ (b, f') :: filesOf F (l.drop (pre.length + 1))) := h6.turn g (fun k hk => by
    rcases hP k hk with e | e | e
    · exact .inl e
    · exact .inr (.inl e)
    · right; right
      intro hk2
      have hn := hR k e
      rcases hoth k hk2 with h | h
      · exact (hap k h).1 hn
      · have := hnl k hn; omega) hf hb
  have hnd := hM.2
  have hbG : ∀ x ∈ pre, x.2 ≠ b := fun x hx1 e => by
    rw [filesBlocks_append, List.nodup_append] at hnd
    exact hnd.2.2 x.2 (mem_filesBlocks.2 ⟨_, mem_filesOf.2 ⟨x, hx1, rfl⟩, .inl rfl⟩) b (by rw [filesBlocks_cons]; simp) e
  have hPZ : ∀ k, P k → ¬ Z k := fun k hk hz => by
    have hF : Foot k := by
      rcases hP k hk with e | e | e
      · exact h7 k (by rw [filesBlocks_append, filesBlocks_cons]; simp [e])
      · exact h7 k (by rw [filesBlocks_append, filesBlocks_cons]; simp [e])
      · exact h4 k (hR k e)
    exact (hFt k hF).1 hz
  have e2 : filesOf (fun k => if k = b then f' else G k) (pre ++ [(nm, b)]) = filesOf G pre ++ [(b, f')] := by
    rw [filesOf_append, filesOf_congr (G := G) (fun x hx1 => by simp [hbG x hx1])]
    simp [filesOf]
  have e3 : filesOf (fun k => if k = b then f' else G k) (pre ++ [(nm, b)]) ++ filesOf F (l.drop (pre ++ [(nm, b)]).length) = filesOf G pre ++ (b, f') :: filesOf F (l.drop (pre.length + 1)) := by
    rw [e2, List.length_append]
    simp
  refine ⟨⟨g.size, fun k hk hz => g.block k hk (fun hp => hPZ k hp hz)⟩, fun k => Foot k ∨ W.heap.size ≤ k ∧ k < W5.heap.size, ⟨Nat.le_trans h1 g.size, ?_, .inl h3, fun k hk => .inl (h4 k hk), hN, fun k => if k = b then f' else G k, ?_, ?_, ?_, ?_, ?_⟩, fun k hk => ?_⟩
  · refine (g.block nb h2.lt (fun hp => ?_)).trans h2
    rcases hP nb hp with e | e | e
    · exact hnb.1 (hbl _ (.inl e))
    · exact hnb.1 (hbl _ (.inr e))
    · exact hnb.2.2 e
  · rw [e3]; exact hM
  · rw [e3]
    intro k hk
    rw [filesBlocks_append, filesBlocks_cons] at hk
    rw [filesBlocks_append, filesBlocks_cons] at h7
    simp only [List.mem_append, List.mem_cons] at hk h7
    rcases hk with h | h | h | h
    · exact .inl (h7 k (.inl h))
    · exact .inl (h7 k (.inr (.inl h)))
    · rcases hb k h with h | h
      · exact .inl (h7 k (.inr (.inr (.inl h))))
      · exact .inr ⟨h, hf.blocks_lt k ‹_›⟩
    · exact .inl (h7 k (.inr (.inr (.inr h))))
  · intro i x hi
    by_cases e : i = pre.length
    · subst e
      rw [List.getElem?_append_right (Nat.le_refl _)] at hi
      simp at hi
      subst hi
      simp only [if_true, List.take_left]
      exact hd
    · have hlt : i < pre.length := by
        have := (List.getElem?_eq_some_iff.1 hi).1
        simp at this
        omega
      rw [List.getElem?_append_left hlt] at hi
      have hx1 : x ∈ pre := List.mem_of_getElem? hi
      dsimp only
      rw [if_neg (hbG x hx1), List.take_append_of_le_length (by omega)]
      exact h8 i x hi
  · intro x hx1 k hk
    rcases List.mem_append.1 hx1 with hx1 | hx1
    · dsimp only at hk
      rw [if_neg (hbG x hx1)] at hk
      exact h9 x hx1 k hk
    · simp at hx1
      subst hx1
      simp only [if_true] at hk
      exact (hb k hk).imp id (fun h => Nat.le_trans h1 h)
  · exact h10.trans g (fun k hk => .inl (by
      rcases hP k hk with e | e | e
      · exact .inr (hbl k (.inl e))
      · exact .inr (hbl k (.inr e))
      · exact .inl e))
  · rcases hk with hk | hk
    · exact ⟨(hFt k hk).1, Nat.lt_of_lt_of_le (hFt k hk).2 g.size⟩
    · exact ⟨fun hz => by have := hZl k hz; omega, hk.2⟩
end Go.Proofs.YtafcgjbafihniaaGreat

/-
  LAYER 1 (fs): maps.Clone at directories.
-/
namespace Go.Proofs.YtafcgjbafihniaaGreat
set_option maxRecDepth 100000
open Go.Shelf Go.RowKit Go.Lib

def mapcl_ren : Go.Shelf.Ren := ⟨fun | 5 => 89 | 7 => 106 | n => n, fun | 4 => 4 | 20 => 20 | 23 => 69 | 25 => 9 | 3 => 97 | n => n, fun | n => n⟩
theorem mapclL : SlLaysW.n5 Tryz.prog mapcl_ren := {
  mixed := by kernel_rfl
  f5 := ⟨Tryz.f89.name, by kernel_rfl, Tryz.func89.trans (congrArg some (by kernel_rfl))⟩
  f7 := Tryz.func106.trans (congrArg some (by kernel_rfl))
  t4 := Tryz.underlying4
  a4 := Tryz.isAgg4
  z4 := Tryz.sizeOf4
  v4 := Tryz.zeroValue4
  t20 := Tryz.underlying20
  a20 := Tryz.isAgg20
  z20 := Tryz.sizeOf20
  v20 := Tryz.zeroValue20
  t23 := Tryz.underlying69
  a23 := Tryz.isAgg69
  z23 := Tryz.sizeOf69
  v23 := Tryz.zeroValue69 }

theorem mapClone_any (d : Nat) (l : DirL) (w : World) (h : DirM w d l) :
    Calls Tryz.prog 89 #[.map (some d)] w fun e w' => e = .returned (.map (some w.heap.size)) ∧ DirM w' w.heap.size l ∧ w.grownBy w' none := by
  obtain ⟨h1, h2, n, D, ⟨es, clock, hb, F, hs, hD⟩, h4⟩ := h
  refine (AnyW.maps_Clone mapclL d es clock w hb).mono ?_
  rintro e w' ⟨rfl, rfl⟩
  exact ⟨rfl, ⟨h1, h2, n, D, ⟨es, clock, World.alloc_heap_new w _, F, hs, hD⟩, h4⟩, World.grownBy_alloc w _ none⟩
end Go.Proofs.YtafcgjbafihniaaGreat

/-
  LAYER 1 (fs): Keep's numbers in turn, handed out.
-/
namespace Go.Proofs.YtafcgjbafihniaaGreat
set_option maxRecDepth 100000
open Go.RowKit Go.Lib
attribute [local go_sem] Oper.semAt_some

set_option maxHeartbeats 4000000 in
theorem inTurn_any (kv : Value) (keep : List Int) (w : World) (h : w.ownsRow 0 3 1 kv keep.length (keep.map (fun x => .int .i64 x))) :
    Calls Tryz.prog 87 #[kv] w fun e w' => ∃ ab kb, e = .returned (.func (.func 105) #[] #[.pointer (some ⟨kb, 0, none⟩), .pointer (some ⟨ab, 0, none⟩)]) ∧ TurnAt ab kb kv keep 0 w' ∧ w.grownBy w' none ∧ w.heap.size ≤ ab ∧ w.heap.size ≤ kb ∧ ab ≠ kb := by
  have hform : ∃ a n c, kv = .slice a n c := by
    obtain ⟨_, ⟨rfl, _⟩ | ⟨g, cap, cur, rfl, _⟩⟩ := h
    · exact ⟨_, _, _, rfl⟩
    · exact ⟨_, _, _, rfl⟩
  obtain ⟨a, n, c, rfl⟩ := hform
  have g1 := World.grownBy_alloc w (.cells #[.slice a n c] 22) none
  have g2 := galloc g1 (.cells #[.int .i64 0] 3)
  have e1 := World.alloc_heap_new w (.cells #[.slice a n c] 22)
  have e2 := World.alloc_heap_new (w.alloc (.cells #[.slice a n c] 22)) (.cells #[.int .i64 0] 3)
  have hs : (w.alloc (.cells #[.slice a n c] 22)).heap.size = w.heap.size + 1 := by simp
  have e3 := ((World.grownBy_alloc (w.alloc (.cells #[.slice a n c] 22)) (.cells #[.int .i64 0] 3) none).block w.heap.size (by omega) (by simp)).trans e1
  rw [hs] at e2
  have h3 := World.ownsRow.kept h g2 (by cases (Value.slice a n c).ownBlock <;> simp)
  go_enter Tryz.func87, Tryz.ntmps87
  go_wp2
  go_ret
  exact ⟨w.heap.size + 1, w.heap.size, rfl, ⟨e2, e3, h3⟩, g2, by omega, by omega, by omega⟩
end Go.Proofs.YtafcgjbafihniaaGreat

/-
  LAYER 1 (fs): a move done to a directory.
-/
namespace Go.Proofs.YtafcgjbafihniaaGreat
set_option maxRecDepth 100000
open Go.RowKit Go.Lib
attribute [local go_sem] Oper.semAt_some

/-- A move: from, to, the file that was made. -/
structure Mv where
  src : ByteArray
  dst : ByteArray
  made : Option Nat
def Mv.v (m : Mv) : Value := .agg #[.string m.src, .string m.dst, ptrV m.made]
/-- Done to a directory. -/
def Mv.done (m : Mv) (l : DirL) : DirL :=
  match m.made with
  | some b => l.put m.dst.data.toList b
  | none => match l.look m.src.data.toList with
    | some b => if m.dst.size = 0 then l.drop m.src.data.toList else (l.drop m.src.data.toList).put m.dst.data.toList b
    | none => l
/-- Which moves may be done to a directory: one that makes, with a name; one whose file is there. -/
def Mv.may (m : Mv) (l : DirL) : Prop := m.src.size ≤ maxLen ∧ m.dst.size ≤ maxLen ∧ (match m.made with | some _ => m.dst.size ≠ 0 | none => (l.look m.src.data.toList).isSome = true)

def MvAt (w : World) (q : Nat) (m : Mv) : Prop := w.heap[q]? = some (.cells #[.string m.src, .string m.dst, ptrV m.made] 110 (0, 0))
theorem MvAt.c0 {w : World} {q : Nat} {m : Mv} (h : MvAt w q m) : w.cell? ⟨q, 0, none⟩ = some (.string m.src) := by simp [World.cell?, show _ = _ from h]
theorem MvAt.c1 {w : World} {q : Nat} {m : Mv} (h : MvAt w q m) : w.cell? ⟨q, 1, none⟩ = some (.string m.dst) := by simp [World.cell?, show _ = _ from h]
theorem MvAt.c2 {w : World} {q : Nat} {m : Mv} (h : MvAt w q m) : w.cell? ⟨q, 2, none⟩ = some (ptrV m.made) := by simp [World.cell?, show _ = _ from h]
theorem MvAt.kept {w w' : World} {q : Nat} {m : Mv} {row : Option Nat} (h : MvAt w q m) (hg : w.grownBy w' row) (hne : row ≠ some q) : MvAt w' q m := (hg.block q (lt_of_block h) (fun e => hne e.symm)).trans h

theorem str_empty (s : ByteArray) : s.toList.isEmpty = decide (s.size = 0) := by
  have hl : s.toList.length = s.size := by rw [ByteArray.toList_eq]; simp
  rw [← hl]
  cases s.toList <;> simp

set_option maxHeartbeats 4000000 in
theorem done_any (m : Mv) (d : Nat) (l : DirL) (w : World) (h : DirM w d l) (hm : m.may l) (hn : l.length < maxLen) :
    Calls Tryz.prog 86 #[m.v, .map (some d)] w fun e w' => e = .returned (.tuple #[]) ∧ DirM w' d (m.done l) ∧ w.grownBy w' (some d) := by
  obtain ⟨a, b, mk⟩ := m
  have hg0 := World.grownBy_alloc w (.cells #[.string a, .string b, ptrV mk] 110) none
  have hM : MvAt (w.alloc (.cells #[.string a, .string b, ptrV mk] 110)) w.heap.size ⟨a, b, mk⟩ := World.alloc_heap_new w _
  have hd0 := h.kept hg0 (by simp)
  obtain ⟨ha, hb, hc⟩ := hm
  dsimp only at ha hb hc
  unfold Mv.v
  dsimp only
  cases mk with
  | some x =>
    dsimp only at hc
    unfold ptrV at *
    have hbe : b.toList.isEmpty = false := by rw [str_empty]; simpa using hc
    obtain ⟨w', hrun, h2, h3, h4⟩ := hd0.store b hb x hn
    go_enter Tryz.func86, Tryz.ntmps86
    go_wp2
    go_end0
    exact ⟨rfl, h2, World.grownBy.trans ⟨hg0.os, hg0.tape, hg0.output, hg0.size, fun i hi _ => hg0.block i hi (by simp)⟩ h3⟩
  | none =>
    dsimp only at hc
    obtain ⟨x, hx⟩ := Option.isSome_iff_exists.1 hc
    have hlk := hd0.lookup a ha
    rw [hx] at hlk
    unfold ptrV at *
    obtain ⟨w1, hdel, h2, h3, h4⟩ := hd0.remove a ha 0
    have hM1 := hM.kept h3 (by simp; have := h.lt; omega)
    have c1 := hM1.c1
    have g1 : w.grownBy w1 (some d) := World.grownBy.trans ⟨hg0.os, hg0.tape, hg0.output, hg0.size, fun i hi _ => hg0.block i hi (by simp)⟩ h3
    by_cases hb0 : b.size = 0
    · have hbe : b.toList.isEmpty = true := by rw [str_empty]; simpa using hb0
      go_enter Tryz.func86, Tryz.ntmps86
      go_wp2
      go_end0
      refine ⟨rfl, ?_, g1⟩
      unfold Mv.done
      simp only [hx, hb0, if_true]
      exact h2
    · have hbe : b.toList.isEmpty = false := by rw [str_empty]; simpa using hb0
      have hln : (l.drop a.data.toList).length < maxLen := Nat.lt_of_le_of_lt (by unfold DirL.drop; exact List.length_filter_le _ _) hn
      obtain ⟨w', hrun, h5, h6, h7⟩ := h2.store b hb x hln
      go_enter Tryz.func86, Tryz.ntmps86
      go_wp2
      go_end0
      refine ⟨rfl, ?_, g1.trans h6⟩
      unfold Mv.done
      simp only [hx, hb0, if_false]
      exact h5
end Go.Proofs.YtafcgjbafihniaaGreat
