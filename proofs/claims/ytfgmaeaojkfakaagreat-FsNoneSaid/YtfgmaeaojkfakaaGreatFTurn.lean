/-
  LAYER 1 (fs): what tells the numbers: all (Sync), Keep's in turn (die).
-/
import Derived.Test.YtfgmaeaojkfakaaGreatFSettle
import Derived.Deep.QuietTactic
namespace Go.Proofs.YtfgmaeaojkfakaaGreat
set_option maxRecDepth 100000
open Go.RowKit Go.Lib
attribute [local go_sem] Oper.semAt_some

/-- Sync's: everything survives. -/
theorem allNext : NextOk Tryz.prog 59 #[] (fun _ => -1) none [] (fun _ _ => True) where
  enter := fun args W => by kernel_rfl
  call := fun i w _ _ => by
    go_enter Tryz.func59, Tryz.ntmps59
    go_wp2
    go_ret
    exact ⟨rfl, trivial, World.grownBy.refl _ _⟩
  kept := fun _ _ _ _ _ => trivial
  mem := fun _ h => by cases h
  lt := fun _ _ _ k hk => by cases hk

/-- The i-th number of Keep, from its first again behind its last; 0 of none. -/
def keepAt (keep : List Int) (i : Nat) : Int := keep.getD (i % keep.length) 0

/-- The state of a turn through Keep: a counter, a variable that holds the list, the list's row. -/
def TurnAt (ab kb : Nat) (kv : Value) (keep : List Int) (i : Nat) (w : World) : Prop :=
  w.heap[ab]? = some (.cells #[.int .i64 (i : Int)] 3 (0, 0)) ∧ w.heap[kb]? = some (.cells #[kv] 22 (0, 0)) ∧ w.ownsRow 0 3 1 kv keep.length (keep.map (fun x => .int .i64 x))

set_option maxHeartbeats 4000000 in
theorem turn_call (ab kb : Nat) (kv : Value) (keep : List Int) (hne : ab ≠ kb ∧ kv.ownBlock ≠ some ab) (hlen : keep.length < 4611686018427387904) (i : Nat) (w : World) (hi : i < 4611686018427387904) (h : TurnAt ab kb kv keep i w) :
    Calls Tryz.prog 105 #[.pointer (some ⟨kb, 0, none⟩), .pointer (some ⟨ab, 0, none⟩)] w fun e w' => e = .returned (.int .i64 (keepAt keep i)) ∧ (keep ≠ [] ∧ TurnAt ab kb kv keep (i + 1) w' ∨ keep = [] ∧ TurnAt ab kb kv keep i w') ∧ w.grownBy w' (some ab) := by
  obtain ⟨h1, h2, h3⟩ := h
  have l1 : w.cell? ⟨ab, 0, none⟩ = some (.int .i64 (i : Int)) := by simp [World.cell?, h1]
  have l2 : w.cell? ⟨kb, 0, none⟩ = some kv := by simp [World.cell?, h2]
  have fr : w.frozen? ⟨ab, 0, none⟩ = false := by simp [World.frozen?, h1]
  have h30 := h3
  obtain ⟨_, ⟨rfl, hz⟩ | ⟨g, cap, cur, rfl, hB, hg, hn, hm, hs, ht⟩⟩ := h3
  · have hk := List.length_eq_zero_iff.1 hz
    subst hk
    go_enter Tryz.func105, Tryz.ntmps105
    go_wp2
    go_ret
    exact ⟨by first | trivial | rfl, .inr ⟨by first | trivial | rfl, h1, h2, h30⟩, World.grownBy.refl _ _⟩
  · by_cases hk : keep = []
    · subst hk
      go_enter Tryz.func105, Tryz.ntmps105
      go_wp2
      go_ret
      exact ⟨by first | trivial | rfl, .inr ⟨by first | trivial | rfl, h1, h2, h30⟩, World.grownBy.refl _ _⟩
    · have hpos : 0 < keep.length := List.length_pos_iff.2 hk
      obtain ⟨m, hm0⟩ : ∃ m, m = i % keep.length := ⟨_, rfl⟩
      have hml : m < keep.length := by rw [hm0]; exact Nat.mod_lt _ hpos
      have hcell : w.cell? ⟨g, m, none⟩ = some (.int .i64 (keepAt keep i)) := by
        rw [World.ownsRow.cellAt h30 m (by omega)]
        simp [keepAt, ← hm0, hml]
      obtain ⟨L, hL⟩ : ∃ L, L = keep.length := ⟨_, rfl⟩
      have e1 : Int.tmod (i : Int) (L : Int) = (m : Int) := by rw [hm0, hL]; exact (Int.ofNat_tmod i keep.length).symm
      have e2 : (i : Int) % (L : Int) = (m : Int) := by rw [hm0, hL]; exact (Int.natCast_emod i keep.length).symm
      have e3 : ((L : Int) == 0) = false := by simp; omega
      rw [← hL] at l2 hml hpos
      generalize keepAt keep i = K at hcell ⊢
      have hm1 : Hid (m = i % keep.length) := Lib.hid hm0
      have hL1 := Lib.hid hL
      have gF := gset (World.grownBy.refl w (some ab)) 0 (.int .i64 ((i : Int) + 1))
      have hA := heap_setCell_same w ab 0 _ _ (.int .i64 ((i : Int) + 1)) h1
      have hb2 := (gF.block kb (lt_of_block h2) (fun e => hne.1 (by cases e; rfl))).trans h2
      have hc2 := World.ownsRow.kept h30 gF (.inr hne.2)
      have hT : TurnAt ab kb (.slice (some ⟨g, 0, none⟩) keep.length cap) keep (i + 1) (w.setCell ⟨ab, 0, none⟩ (.int .i64 ((i : Int) + 1))) := ⟨hA, hb2, hc2⟩
      clear hm0 hL hA hb2 hc2 h30
      replace hT := Lib.hid hT
      go_enter Tryz.func105, Tryz.ntmps105
      go_wp2_with fail
      go_quiet (fail)
      go_wp2_with fail
      go_ret
      refine ⟨rfl, .inl ⟨hk, ?_⟩, gset (gdrewN (World.grownBy.refl w (some ab)) _) 0 _⟩
      rw [hL1.out] at *
      exact hT.out

/-- Keep's numbers in turn. -/
theorem turnNext (ab kb : Nat) (kv : Value) (keep : List Int) (hne : ab ≠ kb ∧ kv.ownBlock ≠ some ab) (hlen : keep.length < 4611686018427387904) :
    NextOk Tryz.prog 105 #[.pointer (some ⟨kb, 0, none⟩), .pointer (some ⟨ab, 0, none⟩)] (keepAt keep) (some ab) (ab :: kb :: kv.ownBlock.toList) (fun i w => ∃ i', (keep = [] ∧ i' = 0 ∨ keep ≠ [] ∧ i' = i) ∧ TurnAt ab kb kv keep i' w) where
  enter := fun args W => by kernel_rfl
  call := fun i w hi ⟨i', h1, h2⟩ => by
    rcases h1 with ⟨hk, rfl⟩ | ⟨hk, rfl⟩
    · refine (turn_call ab kb kv keep hne hlen 0 w (by decide) h2).mono ?_
      rintro e w' ⟨rfl, ⟨h, _⟩ | ⟨_, h⟩, g⟩
      · exact absurd hk h
      · exact ⟨by simp [keepAt, hk], ⟨_, .inl ⟨hk, rfl⟩, h⟩, g⟩
    · refine (turn_call ab kb kv keep hne hlen i' w hi h2).mono ?_
      rintro e w' ⟨rfl, ⟨_, h⟩ | ⟨h, _⟩, g⟩
      · exact ⟨rfl, ⟨_, .inr ⟨hk, rfl⟩, h⟩, g⟩
      · exact absurd h hk
  kept := fun i A B ⟨i', h1, h2, h4, h5⟩ hb => by
    refine ⟨i', h1, (hb ab (by simp)).trans h2, (hb kb (by simp)).trans h4, ?_⟩
    obtain ⟨q1, q2 | ⟨g, cap, cur, rfl, q4, q5, q6⟩⟩ := h5
    · exact ⟨q1, .inl q2⟩
    · exact ⟨q1, .inr ⟨g, cap, cur, rfl, q4, (hb g (by simp [Value.ownBlock])).trans q5, q6⟩⟩
  mem := fun r h => by cases h; simp
  lt := fun i A ⟨i', h1, h2, h4, h5⟩ k hk => by
    simp only [List.mem_cons, Option.mem_toList, Option.mem_def] at hk
    rcases hk with rfl | rfl | hk
    · exact lt_of_block h2
    · exact lt_of_block h4
    · exact (World.ownsRow.lt h5 k hk).2
end Go.Proofs.YtfgmaeaojkfakaaGreat
