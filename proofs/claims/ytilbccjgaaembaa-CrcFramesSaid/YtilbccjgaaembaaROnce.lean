/-
  LAYER 3 (crc): sync.Once over a table: the lock, the loads, doSlow, Do; begin.
-/
import Derived.Test.YtilbccjgaaembaaRReckon
import Derived.Tactics
import Derived.Tactics2
import Derived.Defers
import Derived.Laws.Pointers
import Derived.Laws.LoneSync
import Derived.RegionTactic
import Derived.RegionCalls
import Derived.ChangeAlike
namespace Go.Proofs.Ytilbccjgaaembaa
set_option maxRecDepth 100000
open Go.RowKit Go.Lib

theorem disable (w : World) : (callFunc 120 #[]).run Try.prog w = .ok (.value (.tuple #[])) w := run_call_mark0 Try.func120 (by kernel_rfl) (by kernel_rfl) (by kernel_rfl) .disable (by kernel_rfl) w
theorem enable (w : World) : (callFunc 122 #[]).run Try.prog w = .ok (.value (.tuple #[])) w := run_call_mark0 Try.func122 (by kernel_rfl) (by kernel_rfl) (by kernel_rfl) .enable (by kernel_rfl) w
theorem acquire (a : Addr) (w : World) : (callFunc 123 #[.pointer (some a)]).run Try.prog w = .ok (.value (.tuple #[])) w := run_call_marked Try.func123 (by kernel_rfl) (by kernel_rfl) (by kernel_rfl) .acquire (by kernel_rfl) a w
theorem releaseMerge (a : Addr) (w : World) : (callFunc 125 #[.pointer (some a)]).run Try.prog w = .ok (.value (.tuple #[])) w := run_call_marked Try.func125 (by kernel_rfl) (by kernel_rfl) (by kernel_rfl) .releaseMerge (by kernel_rfl) a w

/-- '(*sync/atomic.Bool).Store(true)', entered as a deferred call: the cell holds 1. -/
theorem store_deferred (a : Addr) (x : Value) (u : FrameMode) (w : World) (hc : w.cell? a = some x) (hz : w.frozen? a = false) :
    CallsD Try.prog 114 #[.pointer (some a), .bool true] u w fun e u' w' => u' = u ∧ (e = .returned (.tuple #[]) ∧ w' = w.drew.setCell a (.int .u32 1)) := by
  have hc' : w.drew.cell? a = some x := by go_simp
  have hz' : w.drew.frozen? a = false := by go_simp
  have hst := run_call_store (P := Try.prog) Try.func118 (by kernel_rfl) (by kernel_rfl) (by kernel_rfl) (by kernel_rfl) (k := .u32) (y := 1) hc' hz'
  go_enter_d Try.func114, Try.ntmps114
  go_wp2
  go_region_calls
  all_goals (go_end0; exact ⟨rfl, rfl⟩)

/-- '(*sync.Mutex).Unlock', entered as a deferred call, the lock held and nobody waiting (state 1): state 0. -/
theorem unlock_deferred (a : Addr) (u : FrameMode) (w : World) (hc : w.cell? a = some (.int .i32 1)) (hz : w.frozen? a = false) :
    CallsD Try.prog 113 #[.pointer (some a)] u w fun e u' w' => u' = u ∧ (e = .returned (.tuple #[]) ∧ w' = w.setCell a (.int .i32 0)) := by
  have hd := disable
  have he := enable
  have hr := releaseMerge
  have hadd := run_call_add (P := Try.prog) Try.func126 (by kernel_rfl) (by kernel_rfl) (by kernel_rfl) .i32 (by kernel_rfl) (y := -1) (s := 0) hc hz (by simp [go_sem]; rfl)
  have hcv := run_convert_to_unsafe (P := Try.prog) (src := 146) (dst := 150) Try.underlying146 Try.underlying150 (by kernel_rfl) hc
  go_enter_d Try.func113, Try.ntmps113
  go_wp2
  go_end0
  go_wp2
  go_end0
  exact ⟨rfl, rfl⟩

/-- '(*sync.Mutex).Lock', the lock free (state 0): state 1. -/
theorem lock_free (a : Addr) (w : World) (hc : w.cell? a = some (.int .i32 0)) (hz : w.frozen? a = false) :
    Calls Try.prog 112 #[.pointer (some a)] w fun e w' => e = .returned (.tuple #[]) ∧ w' = w.setCell a (.int .i32 1) := by
  have hd := disable
  have he := enable
  have ha := acquire
  have hcas := run_call_cas_hit (P := Try.prog) Try.func121 (by kernel_rfl) (by kernel_rfl) (by kernel_rfl) .i32 (by kernel_rfl) (y := 1) hc hz
  have hc' : (w.setCell a (.int .i32 1)).cell? a = some (.int .i32 1) := World.cell?_setCell_same w a _ hc
  have hcv := run_convert_to_unsafe (P := Try.prog) (src := 146) (dst := 150) Try.underlying146 Try.underlying150 (by kernel_rfl) hc'
  go_enter Try.func112, Try.ntmps112
  go_wp2
  first | go_end0 | (simp only [Exit.inBlock, Exit.then]; refine bodyPost_ret (results_none rfl _ _ _) rfl ?_) | refine bodyPost_ret (results_none rfl _ _ _) rfl ?_
  go_wp2
  go_end0
  exact ⟨rfl, rfl⟩

set_option maxHeartbeats 4000000 in
/-- doSlow, not yet done and the lock free: the numbers are reckoned; then 'done' is stored, the lock is let go. -/
theorem slow_any (t : Nat) (f : Nat → Nat) (w : World) (hT : Tab w t true 0 0 0 f) :
    Calls Try.prog 109 #[.pointer (some ⟨t, 1, none⟩), .func (.func 106) #[.pointer (some ⟨t, 0, none⟩)] #[]] w fun e w' => e = .returned (.tuple #[]) ∧ w.grownBy w' (some t) ∧ Tab w' t true 1 0 1 (rnds 8) := by
  have hT1 := hT.setState 1
  have hs := hT.state
  have hf := hT.free 2
  have hl := run_call_load (P := Try.prog) Try.func111 (by kernel_rfl) (by kernel_rfl) (by kernel_rfl) .u32 (by kernel_rfl) hT1.done
  have hg1 : w.grownBy (w.setCell ⟨t, 2, none⟩ (.int .i32 1)) (some t) := gset (World.grownBy.refl _ _) _ _
  have hre := reckon_any t 0 1 0 f _ hT1
  have hnot : ∀ (x : Bool) (w : World), (Op.unary .not (.bool x)).run Try.prog w = .ok (.bool (!x)) w := fun _ _ => rfl
  go_enter_defers Try.func109, Try.ntmps109
  go_wp2_with (first | (go_at_call 112; refine (lock_free ⟨t, 2, none⟩ _ hs hf).mono ?_; rintro e w' ⟨rfl, rfl⟩) | (go_at_call 106; refine hre.mono ?_; rintro e w2 ⟨rfl, hg2, hT2⟩) | (go_at_call 108; go_in))
  -- the door: two deferred calls, the last laid first
  rw [show wrap64 (0 + 1) = 1 by unfold wrap64; rfl] at hT2
  refine leaves_cons (f := 114) (args := #[.pointer (some ⟨t, 1, none⟩), .bool true]) (by simp) (by simp [go_sem]) ?_
  refine (store_deferred ⟨t, 1, none⟩ _ .returning _ hT2.done (hT2.free 1)).mono ?_
  rintro e u' w'' ⟨rfl, rfl, rfl⟩
  have hT3 := (hT2.new (gdrew (World.grownBy.refl w2 none))).setDone 1
  refine leaves_cons (f := 113) (args := #[.pointer (some ⟨t, 2, none⟩)]) (by simp [settle]) (by simp [go_sem]) ?_
  refine (unlock_deferred ⟨t, 2, none⟩ _ _ hT3.state (hT3.free 2)).mono ?_
  rintro e u' w'' ⟨rfl, rfl, rfl⟩
  have hT4 : Tab _ t true 1 0 1 (rnds 8) := hT3.setState 0
  have hg4 := gset (gset (gdrew (hg1.trans hg2)) 1 (.int .u32 1)) 2 (.int .i32 0)
  simp [Leaves, settle, results, Try.results109]
  exact ⟨hg4, hT4⟩

set_option maxHeartbeats 4000000 in
theorem do_first (t : Nat) (f : Nat → Nat) (w : World) (hT : Tab w t true 0 0 0 f) :
    Calls Try.prog 105 #[.pointer (some ⟨t, 1, none⟩), .func (.func 106) #[.pointer (some ⟨t, 0, none⟩)] #[]] w fun e w' => e = .returned (.tuple #[]) ∧ w.grownBy w' (some t) ∧ Tab w' t true 1 0 1 (rnds 8) := by
  have hl := run_call_load (P := Try.prog) Try.func111 (by kernel_rfl) (by kernel_rfl) (by kernel_rfl) .u32 (by kernel_rfl) hT.done
  have hsl := slow_any t f w hT
  have hnot : ∀ (x : Bool) (w : World), (Op.unary .not (.bool x)).run Try.prog w = .ok (.bool (!x)) w := fun _ _ => rfl
  go_enter Try.func105, Try.ntmps105
  go_wp2_with (first | (go_at_call 109; refine hsl.mono ?_; rintro e w2 ⟨rfl, hg2, hT2⟩) | (go_at_call 108; go_in))
  go_end0
  exact ⟨rfl, hg2, hT2⟩

theorem do_done (t : Nat) (m : Bool) (s k : Int) (f : Nat → Nat) (fv : Value) (w : World) (hT : Tab w t m 1 s k f) :
    Calls Try.prog 105 #[.pointer (some ⟨t, 1, none⟩), fv] w fun e w' => e = .returned (.tuple #[]) ∧ w = w' := by
  have hl := run_call_load (P := Try.prog) Try.func111 (by kernel_rfl) (by kernel_rfl) (by kernel_rfl) .u32 (by kernel_rfl) hT.done
  have hnot : ∀ (x : Bool) (w : World), (Op.unary .not (.bool x)).run Try.prog w = .ok (.bool (!x)) w := fun _ _ => rfl
  go_enter Try.func105, Try.ntmps105
  go_wp2_with (go_at_call 108; go_in)
  go_end0
  exact ⟨rfl, rfl⟩

/-- A table, done or not. -/
def Tbl (w : World) (t : Nat) (dn : Bool) : Prop := if dn = true then Tab w t true 1 0 1 (rnds 8) else Tab w t true 0 0 0 (fun _ => 0)
theorem Tbl.made {w : World} {t : Nat} {dn : Bool} (h : Tbl w t dn) : w.cell? ⟨t, 0, none⟩ = some (.bool true) := by
  unfold Tbl at h; split at h <;> exact h.made
theorem Tbl.lt {w : World} {t : Nat} {dn : Bool} (h : Tbl w t dn) : t < w.heap.size := by
  unfold Tbl at h; split at h <;> exact h.lt
theorem Tbl.kept {w w' : World} {t : Nat} {dn : Bool} {row : Option Nat} (h : Tbl w t dn) (hg : w.grownBy w' row) (hne : row ≠ some t) : Tbl w' t dn := by
  unfold Tbl at h ⊢; split at h
  · rename_i e; rw [if_pos e]; exact h.kept hg hne
  · rename_i e; rw [if_neg e]; exact h.kept hg hne
theorem Tbl.new {w w' : World} {t : Nat} {dn : Bool} (h : Tbl w t dn) (hg : w.grownBy w' none) : Tbl w' t dn := h.kept hg (by simp)

theorem Do_any (t : Nat) (dn : Bool) (w : World) (hT : Tbl w t dn) :
    Calls Try.prog 105 #[.pointer (some ⟨t, 1, none⟩), .func (.func 106) #[.pointer (some ⟨t, 0, none⟩)] #[]] w fun e w' => e = .returned (.tuple #[]) ∧ w.grownBy w' (some t) ∧ Tbl w' t true := by
  cases dn
  · exact do_first t _ w hT
  · exact (do_done t true 0 1 _ _ w hT).mono fun e w' ⟨h1, h2⟩ => ⟨h1, h2 ▸ World.grownBy.refl _ _, h2 ▸ hT⟩

/-- begin: whether there is a table; its numbers are there once a byte has come. -/
theorem begin_none (p : Value) (v : Value) (w : World) (hm : Calls Try.prog 98 #[p] w fun e w' => e = .returned (.bool false) ∧ w = w') :
    Calls Try.prog 91 #[p, v] w fun e w' => e = .returned (.bool false) ∧ w = w' := by
  go_enter Try.func91, Try.ntmps91
  go_wp2_with (go_at_call 98; refine hm.mono ?_; rintro e w' ⟨rfl, rfl⟩)
  go_ret
  exact ⟨rfl, rfl⟩

set_option maxHeartbeats 4000000 in
theorem begin_any (t : Nat) (dn : Bool) (a : Option Addr) (l c : Nat) (w : World) (hT : Tbl w t dn) :
    Calls Try.prog 91 #[.pointer (some ⟨t, 0, none⟩), .slice a l c] w fun e w' => e = .returned (.bool true) ∧ w.grownBy w' (some t) ∧ Tbl w' t (dn || decide (0 < l)) := by
  have hmf : ∀ (fn : Fn) (first cap : Array Value) (w : World), (Instr.makeFunc fn first cap).run Try.prog w = .ok (.func fn first cap) w := fun _ _ _ _ => rfl
  have hI := crcIsMade t true w hT.made
  by_cases h : 0 < l
  · have h1 : decide ((0 : Int) < (l : Int)) = true := by simpa using h
    have h2 : decide (0 < l) = true := by simpa using h
    have hD := Do_any t dn w hT
    rw [h2, Bool.or_true]
    clear h
    go_enter Try.func91, Try.ntmps91
    go_wp2_with (first | (go_at_call 98; refine hI.mono ?_; rintro e w' ⟨rfl, rfl⟩) | (go_at_call 105; refine hD.mono ?_; rintro e w2 ⟨rfl, hg2, hT2⟩))
    go_ret
    exact ⟨rfl, hg2, hT2⟩
  · have h1 : decide ((0 : Int) < (l : Int)) = false := by simpa using (by omega : l = 0)
    have h2 : decide (0 < l) = false := by simpa using (by omega : l = 0)
    rw [h2, Bool.or_false]
    clear h
    go_enter Try.func91, Try.ntmps91
    go_wp2_with (go_at_call 98; refine hI.mono ?_; rintro e w' ⟨rfl, rfl⟩)
    go_ret
    exact ⟨rfl, World.grownBy.refl _ _, hT⟩

theorem begin_done (t : Nat) (a : Option Addr) (l c : Nat) (w : World) (hT : Tbl w t true) :
    Calls Try.prog 91 #[.pointer (some ⟨t, 0, none⟩), .slice a l c] w fun e w' => e = .returned (.bool true) ∧ w = w' := by
  have hmf : ∀ (fn : Fn) (first cap : Array Value) (w : World), (Instr.makeFunc fn first cap).run Try.prog w = .ok (.func fn first cap) w := fun _ _ _ _ => rfl
  have hI := crcIsMade t true w hT.made
  by_cases h : 0 < l
  · have h1 : decide ((0 : Int) < (l : Int)) = true := by simpa using h
    have h2 : decide (0 < l) = true := by simpa using h
    have hD := fun fv => do_done t true 0 1 (rnds 8) fv w hT
    clear h
    go_enter Try.func91, Try.ntmps91
    go_wp2_with (first | (go_at_call 98; refine hI.mono ?_; rintro e w' ⟨rfl, rfl⟩) | (go_at_call 105; refine (hD _).mono ?_; rintro e w2 ⟨rfl, rfl⟩))
    go_ret
    exact ⟨rfl, rfl⟩
  · have h1 : decide ((0 : Int) < (l : Int)) = false := by simpa using (by omega : l = 0)
    have h2 : decide (0 < l) = false := by simpa using (by omega : l = 0)
    clear h
    go_enter Try.func91, Try.ntmps91
    go_wp2_with (go_at_call 98; refine hI.mono ?_; rintro e w' ⟨rfl, rfl⟩)
    go_ret
    exact ⟨rfl, rfl⟩

theorem Made_any (t : Nat) (dn : Bool) (w : World) (hT : Tbl w t dn) :
    Calls Try.prog 65 #[.pointer (some ⟨t, 0, none⟩)] w fun e w' => e = .returned (.int .i64 (if dn = true then 1 else 0)) ∧ w = w' := by
  have hI := crcIsMade t true w hT.made
  have hc : w.cell? ⟨t, 4, none⟩ = some (.int .i64 (if dn = true then 1 else 0)) := by
    unfold Tbl at hT
    cases dn
    · exact hT.times
    · exact hT.times
  have hl := run_call_load (P := Try.prog) Try.func107 (by kernel_rfl) (by kernel_rfl) (by kernel_rfl) .i64 (by kernel_rfl) hc
  generalize (if dn = true then (1 : Int) else 0) = z at hl ⊢
  go_enter Try.func65, Try.ntmps65
  go_wp2_with (first | (go_at_call 98; refine hI.mono ?_; rintro e w' ⟨rfl, rfl⟩) | (go_at_call 99; go_in))
  go_ret
  exact ⟨rfl, rfl⟩
theorem Made_none (p : Value) (w : World) (hm : Calls Try.prog 98 #[p] w fun e w' => e = .returned (.bool false) ∧ w = w') :
    Calls Try.prog 65 #[p] w fun e w' => e = .returned (.int .i64 0) ∧ w = w' := by
  go_enter Try.func65, Try.ntmps65
  go_wp2_with (go_at_call 98; refine hm.mono ?_; rintro e w' ⟨rfl, rfl⟩)
  go_ret
  exact ⟨rfl, rfl⟩
end Go.Proofs.Ytilbccjgaaembaa
