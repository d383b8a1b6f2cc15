/-
  LAYER 4 (utf): Decode.
-/
import Derived.Test.YtahfgdgedneleaaUCheck
import Derived.Test.YtahfgdgedneleaaUDecP
import Derived.Laws.IdiomStrings
namespace Go.Proofs.Ytahfgdgedneleaa
set_option maxRecDepth 100000
open Go.RowKit Go.Lib

set_option maxHeartbeats 1000000 in
theorem clip_any (b n c : Nat) (w : World) (hn : n ≤ c) (_hm : c ≤ maxLen) :
    Calls Try.prog 32 #[.slice (some ⟨b, 0, none⟩) n c] w fun e w' => e = .returned (.slice (some ⟨b, 0, none⟩) n n) ∧ w = w' := by
  go_enter Try.func32, Try.ntmps32
  go_wp2
  go_ret
  simp

theorem tot_runes_le (l : List UInt8) : (runes l).length ≤ l.length := by
  have key : ∀ (k : Nat) (l : List UInt8), l.length ≤ k → (runes l).length ≤ l.length := by
    intro k
    induction k with
    | zero => intro l h; obtain rfl : l = [] := List.length_eq_zero_iff.1 (by omega); simp [runes_nil]
    | succ k ih =>
      intro l h
      cases hd : dec l with
      | none => simp [runes, rs_none hd]
      | some x =>
        obtain ⟨r, n⟩ := x
        have h1 := dec_some hd
        rw [runes_some hd]
        have := ih (l.drop n) (by simp; omega)
        simp at this ⊢
        omega
  exact key _ l (Nat.le_refl _)

theorem conv_runes (s : ByteArray) (w : World) (hs : s.size ≤ 1048576) (h : tot s.data.toList = s.data.toList.length) : ∃ c, (runes s.data.toList).length ≤ c ∧ ∃ cs : Array Value,
    (convert 9 28 (.string s)).run Try.prog w = .ok (.slice (some ⟨w.heap.size, 0, none⟩) (runes s.data.toList).length c) (w.drew.alloc (.cells cs 21)) ∧
    c ≤ maxLen ∧ ∀ (i : Nat) (u : Value), (runeCells (runes s.data.toList))[i]? = some u → cs[i]? = some u := by
  have hR := runesFrom_eq s s.size 0 #[] (Nat.zero_le _) (by omega) (by simpa using h)
  simp only [List.drop_zero] at hR
  have hsz : (Conv.runesFrom s s.size 0 #[]).size = (runes s.data.toList).length := by rw [hR]; simp [runeCells]
  have hl := tot_runes_le s.data.toList
  have hl2 : s.data.toList.length = s.size := by simp
  have h46 : (Conv.runesFrom s s.size 0 #[]).size ≤ 70368744177664 := by rw [hsz]; omega
  have hrun := run_runes_of_string (P := Try.prog) w 9 28 21 s Try.underlying9 Try.underlying28 Try.underlying21 h46
  have hge := grownCap_ge w (Conv.runesFrom s s.size 0 #[]).size 0 21
  rw [hsz] at hrun hge
  refine ⟨_, hge, _, hrun, ?_, ?_⟩
  · exact grownCap_le_maxLen w _ 0 _ (by unfold maxLen; omega)
  · intro i u hu
    rw [hR]
    have hi : i < (runeCells (runes s.data.toList)).length := (List.getElem?_eq_some_iff.1 hu).1
    rw [Array.getElem?_append_left (by simpa using hi)]
    simpa using hu

/-- A slice reads as these runes. -/
def Runes (w : World) (v : Value) (l : List Int) : Prop := Row w v (runeCells l)
theorem Runes.all {w w' : World} {v : Value} {l : List Int} (h : Runes w v l) (hb : Below w.heap.size w w') : Runes w' v l := Row.all h hb

set_option maxHeartbeats 1000000 in
theorem decode_ok (s : ByteArray) (w : World) (hs : s.size ≤ 1048576) (h : tot s.data.toList = s.data.toList.length) :
    Calls Try.prog 11 #[.string s] w fun e w' => ∃ v, e = .returned (.tuple #[v, .int .i64 0, .int .i64 0]) ∧ Runes w' v (runes s.data.toList) ∧ Below w.heap.size w w' := by
  have hm : s.size ≤ maxLen := by unfold maxLen; omega
  have hC := fun w => check_ok s w hm h
  have hV := fun w => conv_runes s w hs h
  generalize runes s.data.toList = R at hV ⊢
  clear h
  go_enter Try.func11, Try.ntmps11
  go_wp2_with (first
    | (go_at_call 9; refine (hC _).mono ?_; rintro e w1 ⟨rfl, hb1⟩; obtain ⟨c, hc, cs, hrun, hcm, hcell⟩ := hV w1)
    | (go_at_call 32; refine (clip_any w1.heap.size R.length c _ hc hcm).mono ?_; rintro e w2 ⟨rfl, rfl⟩))
  go_ret3
  have hl : (runeCells R).length = R.length := by simp [runeCells]
  refine ⟨.slice (some ⟨w1.heap.size, 0, none⟩) R.length R.length, rfl, .inr ⟨w1.heap.size, 0, R.length, by rw [hl], by omega, by omega, fun i u hu => ?_⟩, (hb1.trans ((belowg' (World.grownBy_alloc w1 _ none)).mono hb1.size)).drew⟩
  have := hcell i u hu
  have hi := (Array.getElem?_eq_some_iff.1 this).1
  rw [Nat.zero_add]
  simp [go_sem, hi]
  have h2 := (Array.getElem?_eq_some_iff.1 this).2
  exact h2

set_option maxHeartbeats 1000000 in
theorem decode_bad (s : ByteArray) (w : World) (hs : s.size ≤ 1048576) (h : tot s.data.toList ≠ s.data.toList.length) :
    Calls Try.prog 11 #[.string s] w fun e w' => e = .returned (.tuple #[.slice none 0 0, .int .i64 (tot s.data.toList : Int), .int .i64 40]) ∧ Below w.heap.size w w' := by
  have hm : s.size ≤ maxLen := by unfold maxLen; omega
  have hC := fun w => check_bad s w hm h
  have hl := tot_length s.data.toList
  have hl2 : s.data.toList.length = s.size := by simp
  generalize tot s.data.toList = T at hC hl ⊢
  clear h hl2
  go_enter Try.func11, Try.ntmps11
  go_wp2_with (go_at_call 9; refine (hC _).mono ?_; rintro e w1 ⟨rfl, hb1⟩)
  go_ret3
  exact ⟨rfl, hb1⟩
end Go.Proofs.Ytahfgdgedneleaa
