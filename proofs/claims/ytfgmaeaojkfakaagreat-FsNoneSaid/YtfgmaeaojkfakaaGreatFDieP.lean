/-
  LAYER 1 (fs): what a death leaves: the state between two files.
-/
import Derived.Test.YtfgmaeaojkfakaaGreatFFiles
import Derived.Test.YtfgmaeaojkfakaaGreatFTurn
namespace Go.Proofs.YtfgmaeaojkfakaaGreat
set_option maxRecDepth 100000
open Go.RowKit Go.Lib
open Go.Proofs (encStr)

theorem kept_len (k : Int) (bs : List UInt8) (c : Chg) (h : c.may bs) (hl : bs.length ≤ 140737488355328) : (c.kept k bs).1.length ≤ 140737488355328 := by
  cases c with
  | add a =>
    have := surv_le k a.size
    unfold Chg.may at h
    simp only [Chg.kept, List.length_append, List.length_take]
    omega
  | cut c =>
    simp only [Chg.kept]
    cases cutLives k
    · exact hl
    · simp only [cond_true, List.length_take]; omega
theorem settleP_false (ks : Nat → Int) : ∀ (l : List Chg) (i : Nat) (bs : List UInt8), settleP ks i false bs l = bs
  | [], _, _ => rfl
  | _ :: l, i, bs => settleP_false ks l (i + 1) bs
theorem settleP_len (ks : Nat → Int) : ∀ (l : List Chg) (i : Nat) (bs : List UInt8), okL bs l → bs.length ≤ 140737488355328 → (settleP ks i true bs l).length ≤ 140737488355328
  | [], _, _, _, h => h
  | c :: l, i, bs, ho, h => by
    have h1 := kept_len (ks i) bs c ho.1 h
    rw [settleP]
    cases hw : (c.kept (ks i) bs).2
    · rw [settleP_false]; exact h1
    · refine settleP_len ks l (i + 1) _ ?_ h1
      rw [kept_whole _ _ _ hw]
      exact ho.2

/-- How many numbers the files take. -/
def cnt (F : Nat → FileV) (l : List (List UInt8 × Nat)) : Nat := (l.map (fun x => (F x.2).chg.length)).sum
theorem cnt_append (F : Nat → FileV) (l : List (List UInt8 × Nat)) (x : List UInt8 × Nat) : cnt F (l ++ [x]) = cnt F l + (F x.2).chg.length := by simp [cnt]
theorem cnt_take (F : Nat → FileV) (l : List (List UInt8 × Nat)) (j : Nat) : cnt F (l.take j) ≤ cnt F l := by
  unfold cnt
  conv => rhs; rw [← List.take_append_drop j l]
  rw [List.map_append, List.sum_append]
  omega
def filesOf (F : Nat → FileV) (l : List (List UInt8 × Nat)) : List (Nat × FileV) := l.map (fun x => (x.2, F x.2))
/-- What a file holds behind a death. -/
def diedAs (ks : Nat → Int) (F : Nat → FileV) (i : Nat) (b : Nat) (g : FileV) : Prop :=
  g.safe = settleP ks i true (F b).safe (F b).chg ∧ g.data = g.safe ∧ g.chg = []

/-- Between two files. -/
def DieI (w2 : World) (R : Option Nat) (nb : Nat) (nv : Value) (NS : Nat → World → Prop) (nbl : List Nat) (ks : Nat → Int) (l : List (List UInt8 × Nat)) (F : Nat → FileV) (Foot : Nat → Prop) (pre : List (List UInt8 × Nat)) (W : World) : Prop :=
  w2.heap.size ≤ W.heap.size ∧ Boxed W nb 58 nv ∧ Foot nb ∧ (∀ k ∈ nbl, Foot k) ∧ NS (1 + cnt F pre) W ∧
  ∃ G : Nat → FileV, FilesM W (filesOf G pre ++ filesOf F (l.drop pre.length)) ∧ (∀ k ∈ filesBlocks (filesOf G pre ++ filesOf F (l.drop pre.length)), Foot k) ∧
    (∀ i x, pre[i]? = some x → diedAs ks F (1 + cnt F (pre.take i)) x.2 (G x.2)) ∧ (∀ x ∈ pre, ∀ k ∈ (G x.2).blocks, k ∈ (F x.2).blocks ∨ w2.heap.size ≤ k) ∧
    GP (fun k => R = some k ∨ k ∈ filesBlocks (filesOf F l)) w2 W

theorem DieI.keep {P : Program} {g : Nat} {lb : Array Value} {w2 : World} {R : Option Nat} {nb : Nat} {nv : Value} {NS : Nat → World → Prop} {nbl : List Nat} {ks : Nat → Int} {l : List (List UInt8 × Nat)} {F : Nat → FileV} (N : NextOk P g lb ks R nbl NS) :
    ∀ Foot s A B q, DieI w2 R nb nv NS nbl ks l F Foot s A → A.grownBy B q → (∀ k, q = some k → w2.heap.size ≤ k ∧ ¬ Foot k) → DieI w2 R nb nv NS nbl ks l F Foot s B := by
  rintro Foot s A B q ⟨h1, h2, h3, h4, h5, G, h6, h7, h8, h9, h10⟩ g hq
  have gp : GP (fun k => q = some k) A B := GP.of g (fun _ h => h)
  exact ⟨Nat.le_trans h1 g.size, h2.kept g (fun e => (hq _ e.symm).2 h3), h3, h4, N.kept _ _ _ h5 (fun k hk => g.block k (N.lt _ _ h5 k hk) (fun e => (hq k e.symm).2 (h4 k hk))), G,
    h6.kept gp (fun k hk e => (hq k e).2 (h7 k hk)), h7, h8, h9, h10.step g (fun k e => .inr (hq k e).1)⟩

theorem filesOf_append (F : Nat → FileV) (a b : List (List UInt8 × Nat)) : filesOf F (a ++ b) = filesOf F a ++ filesOf F b := by simp [filesOf]
theorem filesOf_congr {F G : Nat → FileV} {l : List (List UInt8 × Nat)} (h : ∀ x ∈ l, F x.2 = G x.2) : filesOf F l = filesOf G l := by
  unfold filesOf
  exact List.map_congr_left (fun x hx => by rw [h x hx])
theorem mem_filesOf {F : Nat → FileV} {l : List (List UInt8 × Nat)} {p : Nat × FileV} : p ∈ filesOf F l ↔ ∃ x ∈ l, p = (x.2, F x.2) := by
  unfold filesOf
  rw [List.mem_map]
  exact ⟨fun ⟨x, h, e⟩ => ⟨x, h, e.symm⟩, fun ⟨x, h, e⟩ => ⟨x, h, e.symm⟩⟩

/-- One file more. -/
theorem DieI.next {w2 W W5 : World} {R : Option Nat} {nb : Nat} {nv : Value} {NS : Nat → World → Prop} {nbl : List Nat} {ks : Nat → Int} {l : List (List UInt8 × Nat)} {F : Nat → FileV} {Z Foot : Nat → Prop} {pre : List (List UInt8 × Nat)} {nm : List UInt8} {b : Nat} {f' : FileV} {P : Nat → Prop}
    (h : DieI w2 R nb nv NS nbl ks l F Foot pre W) (hFt : ∀ k, Foot k → ¬ Z k ∧ k < W.heap.size) (hZl : ∀ k, Z k → k < W.heap.size) (hpre : pre = l.take pre.length) (hx : l[pre.length]? = some (nm, b)) (hap : ∀ k ∈ filesBlocks (filesOf F l), k ∉ nbl ∧ k < w2.heap.size) (hnb : nb ∉ filesBlocks (filesOf F l) ∧ nb < w2.heap.size ∧ R ≠ some nb) (hR : ∀ r, R = some r → r ∈ nbl) (hnl : ∀ k ∈ nbl, k < w2.heap.size)
    (g : GP P W W5) (hP : ∀ k, P k → k = b ∨ k ∈ (F b).blocks ∨ R = some k) (hf : FileAt W5 b f') (hb : ∀ k ∈ f'.blocks, k ∈ (F b).blocks ∨ W.heap.size ≤ k) (hd : diedAs ks F (1 + cnt F pre) b f') (hN : NS (1 + cnt F (pre ++ [(nm, b)])) W5) :
    ZK Z W W5 ∧ Ft (DieI w2 R nb nv NS nbl ks l F) Z (pre ++ [(nm, b)]) W5 := by
  obtain ⟨h1, h2, h3, h4, h5, G, h6, h7, h8, h9, h10⟩ := h
  have hlen : pre.length < l.length := (List.getElem?_eq_some_iff.1 hx).1
  have hdrop : l.drop pre.length = (nm, b) :: l.drop (pre.length + 1) := by
    rw [List.drop_eq_getElem_cons hlen]
    have := List.getElem?_eq_some_iff.1 hx
    rw [this.2]
  have hin : (nm, b) ∈ l := List.mem_of_getElem? hx
  have hbl : ∀ k, k = b ∨ k ∈ (F b).blocks → k ∈ filesBlocks (filesOf F l) := fun k hk => mem_filesBlocks.2 ⟨(b, F b), mem_filesOf.2 ⟨_, hin, rfl⟩, hk⟩
  rw [hdrop] at h6 h7
  have e1 : filesOf F ((nm, b) :: l.drop (pre.length + 1)) = (b, F b) :: filesOf F (l.drop (pre.length + 1)) := rfl
  rw [e1] at h6 h7
  -- where the blocks of the others lie
  have hoth : ∀ k ∈ filesBlocks (filesOf G pre ++ filesOf F (l.drop (pre.length + 1))), k ∈ filesBlocks (filesOf F l) ∨ w2.heap.size ≤ k := fun k hk => by
    obtain ⟨p, hp, hk⟩ := mem_filesBlocks.1 hk
    rcases List.mem_append.1 hp with hp | hp
    · obtain ⟨x, hx1, rfl⟩ := mem_filesOf.1 hp
      have hxl : x ∈ l := by rw [hpre] at hx1; exact List.mem_of_mem_take hx1
      rcases hk with e | e
      · exact .inl (mem_filesBlocks.2 ⟨_, mem_filesOf.2 ⟨x, hxl, rfl⟩, .inl e⟩)
      · rcases h9 x hx1 k e with h | h
        · exact .inl (mem_filesBlocks.2 ⟨_, mem_filesOf.2 ⟨x, hxl, rfl⟩, .inr h⟩)
        · exact .inr h
    · obtain ⟨x, hx1, rfl⟩ := mem_filesOf.1 hp
      exact .inl (mem_filesBlocks.2 ⟨_, mem_filesOf.2 ⟨x, List.mem_of_mem_drop hx1, rfl⟩, hk⟩)
  have hM : FilesM W5 (filesOf G pre ++ (b, f') :: filesOf F (l.drop (pre.length + 1))) := h6.turn g (fun k hk => by
    rcases hP k hk with e | e | e
    · exact .inl e
    · exact .inr (.inl e)
    · right; right
      intro hk2
      have hn := hR k e
      rcases hoth k hk2 with h | h
      · exact (hap k h).1 hn
      · have := hnl k hn; omega) hf hb
  have hnd := hM.2
  have hbG : ∀ x ∈ pre, x.2 ≠ b := fun x hx1 e => by
    rw [filesBlocks_append, List.nodup_append] at hnd
    exact hnd.2.2 x.2 (mem_filesBlocks.2 ⟨_, mem_filesOf.2 ⟨x, hx1, rfl⟩, .inl rfl⟩) b (by rw [filesBlocks_cons]; simp) e
  have hPZ : ∀ k, P k → ¬ Z k := fun k hk hz => by
    have hF : Foot k := by
      rcases hP k hk with e | e | e
      · exact h7 k (by rw [filesBlocks_append, filesBlocks_cons]; simp [e])
      · exact h7 k (by rw [filesBlocks_append, filesBlocks_cons]; simp [e])
      · exact h4 k (hR k e)
    exact (hFt k hF).1 hz
  have e2 : filesOf (fun k => if k = b then f' else G k) (pre ++ [(nm, b)]) = filesOf G pre ++ [(b, f')] := by
    rw [filesOf_append, filesOf_congr (G := G) (fun x hx1 => by simp [hbG x hx1])]
    simp [filesOf]
  have e3 : filesOf (fun k => if k = b then f' else G k) (pre ++ [(nm, b)]) ++ filesOf F (l.drop (pre ++ [(nm, b)]).length) = filesOf G pre ++ (b, f') :: filesOf F (l.drop (pre.length + 1)) := by
    rw [e2, List.length_append]
    simp
  refine ⟨⟨g.size, fun k hk hz => g.block k hk (fun hp => hPZ k hp hz)⟩, fun k => Foot k ∨ W.heap.size ≤ k ∧ k < W5.heap.size, ⟨Nat.le_trans h1 g.size, ?_, .inl h3, fun k hk => .inl (h4 k hk), hN, fun k => if k = b then f' else G k, ?_, ?_, ?_, ?_, ?_⟩, fun k hk => ?_⟩
  · refine (g.block nb h2.lt (fun hp => ?_)).trans h2
    rcases hP nb hp with e | e | e
    · exact hnb.1 (hbl _ (.inl e))
    · exact hnb.1 (hbl _ (.inr e))
    · exact hnb.2.2 e
  · rw [e3]; exact hM
  · rw [e3]
    intro k hk
    rw [filesBlocks_append, filesBlocks_cons] at hk
    rw [filesBlocks_append, filesBlocks_cons] at h7
    simp only [List.mem_append, List.mem_cons] at hk h7
    rcases hk with h | h | h | h
    · exact .inl (h7 k (.inl h))
    · exact .inl (h7 k (.inr (.inl h)))
    · rcases hb k h with h | h
      · exact .inl (h7 k (.inr (.inr (.inl h))))
      · exact .inr ⟨h, hf.blocks_lt k ‹_›⟩
    · exact .inl (h7 k (.inr (.inr (.inr h))))
  · intro i x hi
    by_cases e : i = pre.length
    · subst e
      rw [List.getElem?_append_right (Nat.le_refl _)] at hi
      simp at hi
      subst hi
      simp only [if_true, List.take_left]
      exact hd
    · have hlt : i < pre.length := by
        have := (List.getElem?_eq_some_iff.1 hi).1
        simp at this
        omega
      rw [List.getElem?_append_left hlt] at hi
      have hx1 : x ∈ pre := List.mem_of_getElem? hi
      dsimp only
      rw [if_neg (hbG x hx1), List.take_append_of_le_length (by omega)]
      exact h8 i x hi
  · intro x hx1 k hk
    rcases List.mem_append.1 hx1 with hx1 | hx1
    · dsimp only at hk
      rw [if_neg (hbG x hx1)] at hk
      exact h9 x hx1 k hk
    · simp at hx1
      subst hx1
      simp only [if_true] at hk
      exact (hb k hk).imp id (fun h => Nat.le_trans h1 h)
  · exact h10.trans g (fun k hk => .inl (by
      rcases hP k hk with e | e | e
      · exact .inr (hbl k (.inl e))
      · exact .inr (hbl k (.inr e))
      · exact .inl e))
  · rcases hk with hk | hk
    · exact ⟨(hFt k hk).1, Nat.lt_of_lt_of_le (hFt k hk).2 g.size⟩
    · exact ⟨fun hz => by have := hZl k hz; omega, hk.2⟩
end Go.Proofs.YtfgmaeaojkfakaaGreat
