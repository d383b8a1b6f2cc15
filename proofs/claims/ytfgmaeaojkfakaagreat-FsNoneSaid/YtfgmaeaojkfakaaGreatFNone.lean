/-
  LAYER 1 (fs): a file system that nobody made: nil, or the zero value.
-/
import Derived.Test.YtfgmaeaojkfakaaGreatFNew
import Derived.Test.YtfgmaeaojkfakaaGreatFFull
namespace Go.Proofs.YtfgmaeaojkfakaaGreat
set_option maxRecDepth 100000
open Go.RowKit Go.Lib
attribute [local go_sem] Oper.semAt_some

def NonePtr (W : World) (po : Option Addr) : Prop := po = none ∨ ∃ z, po = some ⟨z, 0, none⟩ ∧ W.cell? ⟨z, 0, none⟩ = some (.bool false)

theorem isMade_nobody (po : Option Addr) (w : World) (h : NonePtr w po) :
    Calls Tryz.prog 54 #[.pointer po] w fun e w' => e = .returned (.bool false) ∧ w = w' := by
  rcases h with rfl | ⟨z, rfl, h0⟩
  · go_enter Tryz.func54, Tryz.ntmps54
    go_wp2
    go_ret
    exact ⟨rfl, rfl⟩
  · go_enter Tryz.func54, Tryz.ntmps54
    go_wp2
    go_ret
    exact ⟨rfl, rfl⟩
theorem dead_nobody (po : Option Addr) (w : World) (h : NonePtr w po) :
    Calls Tryz.prog 21 #[.pointer po] w fun e w' => e = .returned (.bool true) ∧ w = w' := by
  have hm := isMade_nobody po w h
  clear h
  go_enter Tryz.func21, Tryz.ntmps21
  go_wp2_with (go_at_call 54; refine hm.mono ?_; rintro e w' ⟨rfl, rfl⟩)
  go_ret
  exact ⟨rfl, rfl⟩
theorem begin_nobody (po : Option Addr) (w : World) (h : NonePtr w po) :
    Calls Tryz.prog 57 #[.pointer po] w fun e w' => e = .returned (.int .i64 12) ∧ w = w' := by
  have hm := dead_nobody po w h
  clear h
  go_enter Tryz.func57, Tryz.ntmps57
  go_wp2_with (go_at_call 21; refine hm.mono ?_; rintro e w' ⟨rfl, rfl⟩)
  go_ret
  exact ⟨rfl, rfl⟩

theorem create_nobody (nm : ByteArray) (po : Option Addr) (w : World) (h : NonePtr w po) :
    Calls Tryz.prog 31 #[.pointer po, .string nm] w fun e w' => e = .returned (.int .i64 12) ∧ w = w' := by
  have hm := begin_nobody po w h
  clear h
  go_enter Tryz.func31, Tryz.ntmps31
  go_wp2_with (go_at_call 57; refine hm.mono ?_; rintro e w' ⟨rfl, rfl⟩)
  go_ret
  exact ⟨rfl, rfl⟩
theorem append_nobody (nm : ByteArray) (a : Option Addr) (n c : Nat) (po : Option Addr) (w : World) (h : NonePtr w po) :
    Calls Tryz.prog 32 #[.pointer po, .string nm, .slice a n c] w fun e w' => e = .returned (.int .i64 12) ∧ w = w' := by
  have hm := begin_nobody po w h
  clear h
  go_enter Tryz.func32, Tryz.ntmps32
  go_wp2_with (go_at_call 57; refine hm.mono ?_; rintro e w' ⟨rfl, rfl⟩)
  go_ret
  exact ⟨rfl, rfl⟩
theorem cut_nobody (nm : ByteArray) (n : Int) (po : Option Addr) (w : World) (h : NonePtr w po) :
    Calls Tryz.prog 33 #[.pointer po, .string nm, .int .i64 n] w fun e w' => e = .returned (.int .i64 12) ∧ w = w' := by
  have hm := begin_nobody po w h
  clear h
  go_enter Tryz.func33, Tryz.ntmps33
  go_wp2_with (go_at_call 57; refine hm.mono ?_; rintro e w' ⟨rfl, rfl⟩)
  go_ret
  exact ⟨rfl, rfl⟩
theorem sync_nobody (nm : ByteArray) (po : Option Addr) (w : World) (h : NonePtr w po) :
    Calls Tryz.prog 23 #[.pointer po, .string nm] w fun e w' => e = .returned (.int .i64 12) ∧ w = w' := by
  have hm := begin_nobody po w h
  clear h
  go_enter Tryz.func23, Tryz.ntmps23
  go_wp2_with (go_at_call 57; refine hm.mono ?_; rintro e w' ⟨rfl, rfl⟩)
  go_ret
  exact ⟨rfl, rfl⟩
theorem rename_nobody (nm to : ByteArray) (po : Option Addr) (w : World) (h : NonePtr w po) :
    Calls Tryz.prog 34 #[.pointer po, .string nm, .string to] w fun e w' => e = .returned (.int .i64 12) ∧ w = w' := by
  have hm := begin_nobody po w h
  clear h
  go_enter Tryz.func34, Tryz.ntmps34
  go_wp2_with (go_at_call 57; refine hm.mono ?_; rintro e w' ⟨rfl, rfl⟩)
  go_ret
  exact ⟨rfl, rfl⟩
theorem remove_nobody (nm : ByteArray) (po : Option Addr) (w : World) (h : NonePtr w po) :
    Calls Tryz.prog 35 #[.pointer po, .string nm] w fun e w' => e = .returned (.int .i64 12) ∧ w = w' := by
  have hm := begin_nobody po w h
  clear h
  go_enter Tryz.func35, Tryz.ntmps35
  go_wp2_with (go_at_call 57; refine hm.mono ?_; rintro e w' ⟨rfl, rfl⟩)
  go_ret
  exact ⟨rfl, rfl⟩
theorem syncDir_nobody  (po : Option Addr) (w : World) (h : NonePtr w po) :
    Calls Tryz.prog 24 #[.pointer po] w fun e w' => e = .returned (.int .i64 12) ∧ w = w' := by
  have hm := begin_nobody po w h
  clear h
  go_enter Tryz.func24, Tryz.ntmps24
  go_wp2_with (go_at_call 57; refine hm.mono ?_; rintro e w' ⟨rfl, rfl⟩)
  go_ret
  exact ⟨rfl, rfl⟩

theorem start_nobody (c r : Int) (vk vf vu : Value) (po : Option Addr) (w : World) (h : NonePtr w po) :
    Calls Tryz.prog 25 #[.pointer po, .agg #[.int .i64 c, vk, vf, vu, .int .i64 r]] w fun e w' => e = .returned (.int .i64 12) ∧ w.grownBy w' none := by
  have g0 := World.grownBy_alloc w (.cells #[.int .i64 c, vk, vf, vu, .int .i64 r] 24) none
  have hm := fun W (g : w.grownBy W none) => isMade_nobody po W (h.imp id (fun ⟨z, e, hz⟩ => ⟨z, e, g.cell hz (by simp)⟩))
  have hm1 := hm _ g0
  clear hm h
  go_enter Tryz.func25, Tryz.ntmps25
  go_wp2_with (go_at_call 54; refine hm1.mono ?_; rintro e w' ⟨rfl, rfl⟩)
  go_ret
  exact ⟨rfl, g0⟩

theorem size_nobody (nm : ByteArray) (po : Option Addr) (w : World) (h : NonePtr w po) :
    Calls Tryz.prog 19 #[.pointer po, .string nm] w fun e w' => e = .returned (.tuple #[.int .i64 0, .int .i64 12]) ∧ w = w' := by
  have hm := dead_nobody po w h
  clear h
  go_enter Tryz.func19, Tryz.ntmps19
  go_wp2_with (go_at_call 21; refine hm.mono ?_; rintro e w' ⟨rfl, rfl⟩)
  go_ret2
  exact ⟨rfl, rfl⟩
theorem read_nobody (nm : ByteArray) (a n : Int) (po : Option Addr) (w : World) (h : NonePtr w po) :
    Calls Tryz.prog 17 #[.pointer po, .string nm, .int .i64 a, .int .i64 n] w fun e w' => e = .returned (.tuple #[.slice none 0 0, .int .i64 12]) ∧ w = w' := by
  have hm := size_nobody nm po w h
  clear h
  go_enter Tryz.func17, Tryz.ntmps17
  go_wp2_with (go_at_call 19; refine hm.mono ?_; rintro e w' ⟨rfl, rfl⟩)
  go_ret2
  exact ⟨rfl, rfl⟩
theorem files_nobody (po : Option Addr) (w : World) (h : NonePtr w po) :
    Calls Tryz.prog 22 #[.pointer po] w fun e w' => e = .returned (.slice none 0 0) ∧ w = w' := by
  have hm := dead_nobody po w h
  have hm2 := isMade_nobody po w h
  clear h
  go_enter Tryz.func22, Tryz.ntmps22
  go_wp2_with first
    | (go_at_call 21; refine hm.mono ?_; rintro e w' ⟨rfl, rfl⟩)
    | (go_at_call 54; refine hm2.mono ?_; rintro e w' ⟨rfl, rfl⟩)
  go_ret
  exact ⟨rfl, rfl⟩
theorem safe_nobody (po : Option Addr) (w : World) (h : NonePtr w po) :
    Calls Tryz.prog 27 #[.pointer po] w fun e w' => e = .returned (.slice none 0 0) ∧ w = w' := by
  have hm := dead_nobody po w h
  have hm2 := isMade_nobody po w h
  clear h
  go_enter Tryz.func27, Tryz.ntmps27
  go_wp2_with first
    | (go_at_call 21; refine hm.mono ?_; rintro e w' ⟨rfl, rfl⟩)
    | (go_at_call 54; refine hm2.mono ?_; rintro e w' ⟨rfl, rfl⟩)
  go_ret
  exact ⟨rfl, rfl⟩
theorem ops_nobody (po : Option Addr) (w : World) (h : NonePtr w po) :
    Calls Tryz.prog 28 #[.pointer po] w fun e w' => e = .returned (.int .i64 0) ∧ w = w' := by
  have hm := dead_nobody po w h
  have hm2 := isMade_nobody po w h
  clear h
  go_enter Tryz.func28, Tryz.ntmps28
  go_wp2_with first
    | (go_at_call 21; refine hm.mono ?_; rintro e w' ⟨rfl, rfl⟩)
    | (go_at_call 54; refine hm2.mono ?_; rintro e w' ⟨rfl, rfl⟩)
  go_ret
  exact ⟨rfl, rfl⟩
theorem used_nobody (po : Option Addr) (w : World) (h : NonePtr w po) :
    Calls Tryz.prog 36 #[.pointer po] w fun e w' => e = .returned (.int .i64 0) ∧ w = w' := by
  have hm := dead_nobody po w h
  have hm2 := isMade_nobody po w h
  clear h
  go_enter Tryz.func36, Tryz.ntmps36
  go_wp2_with first
    | (go_at_call 21; refine hm.mono ?_; rintro e w' ⟨rfl, rfl⟩)
    | (go_at_call 54; refine hm2.mono ?_; rintro e w' ⟨rfl, rfl⟩)
  go_ret
  exact ⟨rfl, rfl⟩
theorem clone_nobody (po : Option Addr) (w : World) (h : NonePtr w po) :
    Calls Tryz.prog 29 #[.pointer po] w fun e w' => e = .returned (.pointer none) ∧ w = w' := by
  have hm := dead_nobody po w h
  have hm2 := isMade_nobody po w h
  clear h
  go_enter Tryz.func29, Tryz.ntmps29
  go_wp2_with first
    | (go_at_call 21; refine hm.mono ?_; rintro e w' ⟨rfl, rfl⟩)
    | (go_at_call 54; refine hm2.mono ?_; rintro e w' ⟨rfl, rfl⟩)
  go_ret
  exact ⟨rfl, rfl⟩
end Go.Proofs.YtfgmaeaojkfakaaGreat
