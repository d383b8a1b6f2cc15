/-
  LAYER 1 (fs): what Size answers; how inOrder begins.
-/
import Derived.Test.YtfgmaeaojkfakaaGreatFFile
import Derived.Test.YtfgmaeaojkfakaaGreatFNew
namespace Go.Proofs.YtfgmaeaojkfakaaGreat
set_option maxRecDepth 100000
open Go.RowKit Go.Lib
attribute [local go_sem] Oper.semAt_some

section
variable {w : World} {q : Nat} {dead : Bool} {p : PlV} {ops : Int} {d s : Nat} {mv : Value}
/-- What Size answers: of the dead, of a name that nobody has, of a file. -/
def sizeOf (dead : Bool) (x : Option (List UInt8)) : Value := match dead, x with
  | true, _ => .tuple #[.int .i64 0, .int .i64 12]
  | false, none => .tuple #[.int .i64 0, .int .i64 14]
  | false, some bs => .tuple #[.int .i64 (bs.length : Int), .int .i64 0]
set_option maxHeartbeats 4000000 in
theorem size_dead (nm : ByteArray) (w : World) (h : FsAt w q true p ops d s mv) :
    Calls Tryz.prog 19 #[.pointer (some ⟨q, 0, none⟩), .string nm] w fun e w' => e = .returned (sizeOf true none) ∧ w = w' := by
  have hdead := dead_fs w h
  go_enter Tryz.func19, Tryz.ntmps19
  go_wp2_with (refine hdead.mono ?_; rintro e w2 ⟨rfl, rfl⟩)
  go_ret2
  exact ⟨rfl, rfl⟩
set_option maxHeartbeats 4000000 in
theorem size_none (nm : ByteArray) (l : DirL) (w : World) (h : FsAt w q false p ops d s mv) (hd : DirM w d l) (hs : nm.size ≤ maxLen) (hl : l.look nm.data.toList = none) :
    Calls Tryz.prog 19 #[.pointer (some ⟨q, 0, none⟩), .string nm] w fun e w' => e = .returned (sizeOf false none) ∧ w = w' := by
  have hlk := hd.lookup nm hs
  rw [hl] at hlk
  have x8 := h.dir
  have hdead := dead_fs w h
  unfold ptrV at hlk
  go_enter Tryz.func19, Tryz.ntmps19
  go_wp2_with (refine hdead.mono ?_; rintro e w2 ⟨rfl, rfl⟩)
  go_ret2
  exact ⟨rfl, rfl⟩
set_option maxHeartbeats 4000000 in
theorem size_some (nm : ByteArray) (l : DirL) (w : World) (h : FsAt w q false p ops d s mv) (hd : DirM w d l) (hs : nm.size ≤ maxLen) (b : Nat) (hl : l.look nm.data.toList = some b) (f : FileV) (hf : FileAt w b f) :
    Calls Tryz.prog 19 #[.pointer (some ⟨q, 0, none⟩), .string nm] w fun e w' => e = .returned (sizeOf false (some f.data)) ∧ w = w' := by
  have hlk := hd.lookup nm hs
  rw [hl] at hlk
  have x8 := h.dir
  have c1 := hf.c1
  have hdead := dead_fs w h
  obtain ⟨a, c, hdv⟩ : ∃ a c, f.dv = .slice a f.data.length c := by
    obtain ⟨_, ⟨e, hz⟩ | ⟨g, cap, cur, e, _⟩⟩ := hf.2.2.1
    · exact ⟨none, 0, by rw [e, hz]⟩
    · exact ⟨_, _, e⟩
  rw [hdv] at c1
  unfold ptrV at hlk
  go_enter Tryz.func19, Tryz.ntmps19
  go_wp2_with (refine hdead.mono ?_; rintro e w2 ⟨rfl, rfl⟩)
  go_ret2
  exact ⟨rfl, rfl⟩
end

set_option maxHeartbeats 4000000 in
theorem inOrder_any (d : Nat) (w : World) :
    Calls Tryz.prog 82 #[.map (some d)] w fun e w' => ∃ b, e = .returned (.func (.func 99) #[] #[.pointer (some ⟨b, 0, none⟩)]) ∧ w'.heap[b]? = some (.cells #[.map (some d)] 69 (0, 0)) ∧ w.grownBy w' none ∧ w.heap.size ≤ b := by
  have g1 := World.grownBy_alloc w (.cells #[.map (some d)] 69) none
  have e1 := World.alloc_heap_new w (.cells #[.map (some d)] 69)
  go_enter Tryz.func82, Tryz.ntmps82
  go_wp2
  go_ret
  exact ⟨w.heap.size, rfl, e1, g1, by omega⟩
end Go.Proofs.YtfgmaeaojkfakaaGreat
