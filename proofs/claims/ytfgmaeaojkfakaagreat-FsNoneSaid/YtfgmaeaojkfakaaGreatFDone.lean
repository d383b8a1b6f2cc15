/-
  LAYER 1 (fs): a move done to a directory.
-/
import Derived.Test.YtfgmaeaojkfakaaGreatFFile
namespace Go.Proofs.YtfgmaeaojkfakaaGreat
set_option maxRecDepth 100000
open Go.RowKit Go.Lib
attribute [local go_sem] Oper.semAt_some

/-- A move: from, to, the file that was made. -/
structure Mv where
  src : ByteArray
  dst : ByteArray
  made : Option Nat
def Mv.v (m : Mv) : Value := .agg #[.string m.src, .string m.dst, ptrV m.made]
/-- Done to a directory. -/
def Mv.done (m : Mv) (l : DirL) : DirL :=
  match m.made with
  | some b => l.put m.dst.data.toList b
  | none => match l.look m.src.data.toList with
    | some b => if m.dst.size = 0 then l.drop m.src.data.toList else (l.drop m.src.data.toList).put m.dst.data.toList b
    | none => l
/-- Which moves may be done to a directory: one that makes, with a name; one whose file is there. -/
def Mv.may (m : Mv) (l : DirL) : Prop := m.src.size ≤ maxLen ∧ m.dst.size ≤ maxLen ∧ (match m.made with | some _ => m.dst.size ≠ 0 | none => (l.look m.src.data.toList).isSome = true)

def MvAt (w : World) (q : Nat) (m : Mv) : Prop := w.heap[q]? = some (.cells #[.string m.src, .string m.dst, ptrV m.made] 110 (0, 0))
theorem MvAt.c0 {w : World} {q : Nat} {m : Mv} (h : MvAt w q m) : w.cell? ⟨q, 0, none⟩ = some (.string m.src) := by simp [World.cell?, show _ = _ from h]
theorem MvAt.c1 {w : World} {q : Nat} {m : Mv} (h : MvAt w q m) : w.cell? ⟨q, 1, none⟩ = some (.string m.dst) := by simp [World.cell?, show _ = _ from h]
theorem MvAt.c2 {w : World} {q : Nat} {m : Mv} (h : MvAt w q m) : w.cell? ⟨q, 2, none⟩ = some (ptrV m.made) := by simp [World.cell?, show _ = _ from h]
theorem MvAt.kept {w w' : World} {q : Nat} {m : Mv} {row : Option Nat} (h : MvAt w q m) (hg : w.grownBy w' row) (hne : row ≠ some q) : MvAt w' q m := (hg.block q (lt_of_block h) (fun e => hne e.symm)).trans h

theorem str_empty (s : ByteArray) : s.toList.isEmpty = decide (s.size = 0) := by
  have hl : s.toList.length = s.size := by rw [ByteArray.toList_eq]; simp
  rw [← hl]
  cases s.toList <;> simp

set_option maxHeartbeats 4000000 in
theorem done_any (m : Mv) (d : Nat) (l : DirL) (w : World) (h : DirM w d l) (hm : m.may l) (hn : l.length < maxLen) :
    Calls Tryz.prog 86 #[m.v, .map (some d)] w fun e w' => e = .returned (.tuple #[]) ∧ DirM w' d (m.done l) ∧ w.grownBy w' (some d) := by
  obtain ⟨a, b, mk⟩ := m
  have hg0 := World.grownBy_alloc w (.cells #[.string a, .string b, ptrV mk] 110) none
  have hM : MvAt (w.alloc (.cells #[.string a, .string b, ptrV mk] 110)) w.heap.size ⟨a, b, mk⟩ := World.alloc_heap_new w _
  have hd0 := h.kept hg0 (by simp)
  obtain ⟨ha, hb, hc⟩ := hm
  dsimp only at ha hb hc
  unfold Mv.v
  dsimp only
  cases mk with
  | some x =>
    dsimp only at hc
    unfold ptrV at *
    have hbe : b.toList.isEmpty = false := by rw [str_empty]; simpa using hc
    obtain ⟨w', hrun, h2, h3, h4⟩ := hd0.store b hb x hn
    go_enter Tryz.func86, Tryz.ntmps86
    go_wp2
    go_end0
    exact ⟨rfl, h2, World.grownBy.trans ⟨hg0.os, hg0.tape, hg0.output, hg0.size, fun i hi _ => hg0.block i hi (by simp)⟩ h3⟩
  | none =>
    dsimp only at hc
    obtain ⟨x, hx⟩ := Option.isSome_iff_exists.1 hc
    have hlk := hd0.lookup a ha
    rw [hx] at hlk
    unfold ptrV at *
    obtain ⟨w1, hdel, h2, h3, h4⟩ := hd0.remove a ha 0
    have hM1 := hM.kept h3 (by simp; have := h.lt; omega)
    have c1 := hM1.c1
    have g1 : w.grownBy w1 (some d) := World.grownBy.trans ⟨hg0.os, hg0.tape, hg0.output, hg0.size, fun i hi _ => hg0.block i hi (by simp)⟩ h3
    by_cases hb0 : b.size = 0
    · have hbe : b.toList.isEmpty = true := by rw [str_empty]; simpa using hb0
      go_enter Tryz.func86, Tryz.ntmps86
      go_wp2
      go_end0
      refine ⟨rfl, ?_, g1⟩
      unfold Mv.done
      simp only [hx, hb0, if_true]
      exact h2
    · have hbe : b.toList.isEmpty = false := by rw [str_empty]; simpa using hb0
      have hln : (l.drop a.data.toList).length < maxLen := Nat.lt_of_le_of_lt (by unfold DirL.drop; exact List.length_filter_le _ _) hn
      obtain ⟨w', hrun, h5, h6, h7⟩ := h2.store b hb x hln
      go_enter Tryz.func86, Tryz.ntmps86
      go_wp2
      go_end0
      refine ⟨rfl, ?_, g1.trans h6⟩
      unfold Mv.done
      simp only [hx, hb0, if_false]
      exact h5
end Go.Proofs.YtfgmaeaojkfakaaGreat
