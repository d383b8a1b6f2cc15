/-
  LAYER 3 (crc): reckon: the table's numbers.
-/
import Derived.Test.YtpdacbiiaglodaaGreatQG13
import Derived.Laws.BitsAllLaws
import Derived.Laws.LoneSync
import Derived.LoopTactic
import Derived.Lib.Hide
import Derived.Tactics
import Derived.Tactics2
import Derived.Defers
import Derived.Laws.Pointers
import Derived.RegionTactic
import Derived.RegionCalls
import Derived.ChangeAlike
import Derived.Test.YtpdacbiiaglodaaGreatQG11
import Derived.Lib.SlBytesConst
namespace Go.Proofs.YtpdacbiiaglodaaGreat
set_option maxRecDepth 100000
open Go.RowKit Go.Lib

theorem rnds_succ (j c : Nat) : rnds (j + 1) c = rnd (rnds j c) := rnds_add j 1 c
theorem and_one (c : Nat) (h : c < 4294967296) : bits .and .u32 (c : Int) 1 = ((c % 2 : Nat) : Int) := by
  rw [show (1 : Int) = ((1 : Nat) : Int) from rfl, u32_and_nat c 1 h (by decide), Nat.and_one_is_mod]

theorem xor_poly (c : Nat) (h : c < 4294967296) : bits .xor .u32 ((c : Int) / 2) 2197175160 = ((c / 2 ^^^ 0x82F63B78 : Nat) : Int) := by
  rw [show ((c : Int) / 2) = ((c / 2 : Nat) : Int) by omega, show (2197175160 : Int) = ((2197175160 : Nat) : Int) from rfl, u32_xor_nat (c / 2) 2197175160 (by omega) (by decide)]

set_option maxHeartbeats 4000000 in
theorem reckon_any (t : Nat) (d s k : Int) (f : Nat → Nat) (w : World) (hT : Tab w t true d s k f) :
    Calls Tryz.prog 171 #[.pointer (some ⟨t, 0, none⟩)] w fun e w' => e = .returned (.tuple #[]) ∧ w.grownBy w' (some t) ∧ Tab w' t true d s (wrap64 (k + 1)) (rnds 8) := by
  go_enter Tryz.func171, Tryz.ntmps171
  go_wp2
  go_loopw [5] (fun vi wr => ∃ i : Nat, i ≤ 256 ∧ vi = .int .i64 (i : Int) ∧ w.grownBy wr (some t) ∧ Tab wr t true d s k (fun j => if j < i then rnds 8 j else f j)) (fun vi _ => 256 - (RowKit.intOf vi).toNat)
  case atStart => exact ⟨0, by omega, rfl, World.grownBy.refl _ _, hT.same (by intros; rfl)⟩
  case round =>
    clear hT
    obtain ⟨i, hi, rfl, hg, hT⟩ := hrel
    by_cases hlt : i < 256
    · go_wp2
      go_loop [3, 10] (fun n c => ∃ j : Nat, j ≤ 8 ∧ c = .int .i64 (j : Int) ∧ n = .int .u32 ((rnds j i : Nat) : Int)) (fun _ c => 8 - (RowKit.intOf c).toNat)
      case atStart => exact ⟨0, by omega, rfl, by simp [rnds]⟩
      case round =>
        obtain ⟨j, hj, rfl, rfl⟩ := hrel
        by_cases hj8 : j < 8
        · have hs := Lib.hid (rnds_succ j i)
          have hl := rnds_lt j (show i < 4294967296 by omega)
          generalize rnds j i = c at hs hl ⊢
          have ha := and_one c hl
          by_cases ho : c % 2 = 1
          · rw [ho] at ha
            go_wp2
            refine ⟨⟨j + 1, by omega, by go_num, ?_⟩, by simp [RowKit.intOf]; omega⟩
            rw [hs.out, xor_poly c hl]
            unfold rnd
            rw [if_pos ho]
          · have ho' : c % 2 = 0 := by omega
            rw [ho'] at ha
            go_wp2
            refine ⟨⟨j + 1, by omega, by go_num, ?_⟩, by simp [RowKit.intOf]; omega⟩
            rw [hs.out]
            unfold rnd
            rw [if_neg ho]
            simp
        · have hj : j = 8 := by omega
          subst hj
          have hc := hT.num hlt
          have hf := hT.free (5 + i)
          go_wp2
          have hT' := hT.setNum hlt (rnds 8 i)
          refine ⟨⟨i + 1, by omega, by go_num, gset hg _ _, hT'.same fun j hj => ?_⟩, by simp [RowKit.intOf]; omega⟩
          by_cases e : j = i
          · subst e; simp
          · simp [e, show j < i + 1 ↔ j < i by omega]
    · have hi : i = 256 := by omega
      subst hi
      have hc := hT.times
      have hf := hT.free 4
      have hadd := run_call_add (P := Tryz.prog) Tryz.func208 (by kernel_rfl) (by kernel_rfl) (by kernel_rfl) .i64 (by kernel_rfl) (y := 1) (s := IntKind.i64.wrap (k + 1)) hc hf (by simp [go_sem])
      go_wp2
      go_end0
      exact ⟨rfl, gset hg _ _, (hT.setTimes _).same fun j hj => (if_pos hj).symm⟩
end Go.Proofs.YtpdacbiiaglodaaGreat

/-
  LAYER 3 (crc): sync.Once over a table: the lock, the loads, doSlow, Do; begin.
-/
namespace Go.Proofs.YtpdacbiiaglodaaGreat
set_option maxRecDepth 100000
open Go.RowKit Go.Lib

theorem disable (w : World) : (callFunc 185 #[]).run Tryz.prog w = .ok (.value (.tuple #[])) w := run_call_mark0 Tryz.func185 (by kernel_rfl) (by kernel_rfl) (by kernel_rfl) .disable (by kernel_rfl) w
theorem enable (w : World) : (callFunc 187 #[]).run Tryz.prog w = .ok (.value (.tuple #[])) w := run_call_mark0 Tryz.func187 (by kernel_rfl) (by kernel_rfl) (by kernel_rfl) .enable (by kernel_rfl) w
theorem acquire (a : Addr) (w : World) : (callFunc 188 #[.pointer (some a)]).run Tryz.prog w = .ok (.value (.tuple #[])) w := run_call_marked Tryz.func188 (by kernel_rfl) (by kernel_rfl) (by kernel_rfl) .acquire (by kernel_rfl) a w
theorem releaseMerge (a : Addr) (w : World) : (callFunc 190 #[.pointer (some a)]).run Tryz.prog w = .ok (.value (.tuple #[])) w := run_call_marked Tryz.func190 (by kernel_rfl) (by kernel_rfl) (by kernel_rfl) .releaseMerge (by kernel_rfl) a w

/-- '(*sync/atomic.Bool).Store(true)', entered as a deferred call: the cell holds 1. -/
theorem store_deferred (a : Addr) (x : Value) (u : FrameMode) (w : World) (hc : w.cell? a = some x) (hz : w.frozen? a = false) :
    CallsD Tryz.prog 131 #[.pointer (some a), .bool true] u w fun e u' w' => u' = u ∧ (e = .returned (.tuple #[]) ∧ w' = w.drew.setCell a (.int .u32 1)) := by
  have hc' : w.drew.cell? a = some x := by go_simp
  have hz' : w.drew.frozen? a = false := by go_simp
  have hst := run_call_store (P := Tryz.prog) Tryz.func162 (by kernel_rfl) (by kernel_rfl) (by kernel_rfl) (by kernel_rfl) (k := .u32) (y := 1) hc' hz'
  go_enter_d Tryz.func131, Tryz.ntmps131
  go_wp2
  go_region_calls
  all_goals (go_end0; exact ⟨rfl, rfl⟩)

/-- '(*sync.Mutex).Unlock', entered as a deferred call, the lock held and nobody waiting (state 1): state 0. -/
theorem unlock_deferred (a : Addr) (u : FrameMode) (w : World) (hc : w.cell? a = some (.int .i32 1)) (hz : w.frozen? a = false) :
    CallsD Tryz.prog 130 #[.pointer (some a)] u w fun e u' w' => u' = u ∧ (e = .returned (.tuple #[]) ∧ w' = w.setCell a (.int .i32 0)) := by
  have hd := disable
  have he := enable
  have hr := releaseMerge
  have hadd := run_call_add (P := Tryz.prog) Tryz.func191 (by kernel_rfl) (by kernel_rfl) (by kernel_rfl) .i32 (by kernel_rfl) (y := -1) (s := 0) hc hz (by simp [go_sem]; rfl)
  have hcv := run_convert_to_unsafe (P := Tryz.prog) (src := 232) (dst := 236) Tryz.underlying232 Tryz.underlying236 (by kernel_rfl) hc
  go_enter_d Tryz.func130, Tryz.ntmps130
  go_wp2
  go_end0
  go_wp2
  go_end0
  exact ⟨rfl, rfl⟩

/-- '(*sync.Mutex).Lock', the lock free (state 0): state 1. -/
theorem lock_free (a : Addr) (w : World) (hc : w.cell? a = some (.int .i32 0)) (hz : w.frozen? a = false) :
    Calls Tryz.prog 129 #[.pointer (some a)] w fun e w' => e = .returned (.tuple #[]) ∧ w' = w.setCell a (.int .i32 1) := by
  have hd := disable
  have he := enable
  have ha := acquire
  have hcas := run_call_cas_hit (P := Tryz.prog) Tryz.func186 (by kernel_rfl) (by kernel_rfl) (by kernel_rfl) .i32 (by kernel_rfl) (y := 1) hc hz
  have hc' : (w.setCell a (.int .i32 1)).cell? a = some (.int .i32 1) := World.cell?_setCell_same w a _ hc
  have hcv := run_convert_to_unsafe (P := Tryz.prog) (src := 232) (dst := 236) Tryz.underlying232 Tryz.underlying236 (by kernel_rfl) hc'
  go_enter Tryz.func129, Tryz.ntmps129
  go_wp2
  first | go_end0 | (simp only [Exit.inBlock, Exit.then]; refine bodyPost_ret (results_none rfl _ _ _) rfl ?_) | refine bodyPost_ret (results_none rfl _ _ _) rfl ?_
  go_wp2
  go_end0
  exact ⟨rfl, rfl⟩

set_option maxHeartbeats 4000000 in
/-- doSlow, not yet done and the lock free: the numbers are reckoned; then 'done' is stored, the lock is let go. -/
theorem slow_any (t : Nat) (f : Nat → Nat) (w : World) (hT : Tab w t true 0 0 0 f) :
    Calls Tryz.prog 88 #[.pointer (some ⟨t, 1, none⟩), .func (.func 171) #[.pointer (some ⟨t, 0, none⟩)] #[]] w fun e w' => e = .returned (.tuple #[]) ∧ w.grownBy w' (some t) ∧ Tab w' t true 1 0 1 (rnds 8) := by
  have hT1 := hT.setState 1
  have hs := hT.state
  have hf := hT.free 2
  have hl := run_call_load (P := Tryz.prog) Tryz.func128 (by kernel_rfl) (by kernel_rfl) (by kernel_rfl) .u32 (by kernel_rfl) hT1.done
  have hg1 : w.grownBy (w.setCell ⟨t, 2, none⟩ (.int .i32 1)) (some t) := gset (World.grownBy.refl _ _) _ _
  have hre := reckon_any t 0 1 0 f _ hT1
  have hnot : ∀ (x : Bool) (w : World), (Op.unary .not (.bool x)).run Tryz.prog w = .ok (.bool (!x)) w := fun _ _ => rfl
  go_enter_defers Tryz.func88, Tryz.ntmps88
  go_wp2_with (first | (go_at_call 129; refine (lock_free ⟨t, 2, none⟩ _ hs hf).mono ?_; rintro e w' ⟨rfl, rfl⟩) | (go_at_call 171; refine hre.mono ?_; rintro e w2 ⟨rfl, hg2, hT2⟩) | (go_at_call 87; go_in))
  -- the door: two deferred calls, the last laid first
  rw [show wrap64 (0 + 1) = 1 by unfold wrap64; rfl] at hT2
  refine leaves_cons (f := 131) (args := #[.pointer (some ⟨t, 1, none⟩), .bool true]) (by simp) (by simp [go_sem]) ?_
  refine (store_deferred ⟨t, 1, none⟩ _ .returning _ hT2.done (hT2.free 1)).mono ?_
  rintro e u' w'' ⟨rfl, rfl, rfl⟩
  have hT3 := (hT2.new (gdrew (World.grownBy.refl w2 none))).setDone 1
  refine leaves_cons (f := 130) (args := #[.pointer (some ⟨t, 2, none⟩)]) (by simp [settle]) (by simp [go_sem]) ?_
  refine (unlock_deferred ⟨t, 2, none⟩ _ _ hT3.state (hT3.free 2)).mono ?_
  rintro e u' w'' ⟨rfl, rfl, rfl⟩
  have hT4 : Tab _ t true 1 0 1 (rnds 8) := hT3.setState 0
  have hg4 := gset (gset (gdrew (hg1.trans hg2)) 1 (.int .u32 1)) 2 (.int .i32 0)
  simp [Leaves, settle, results, Tryz.results88]
  exact ⟨hg4, hT4⟩

set_option maxHeartbeats 4000000 in
theorem do_first (t : Nat) (f : Nat → Nat) (w : World) (hT : Tab w t true 0 0 0 f) :
    Calls Tryz.prog 49 #[.pointer (some ⟨t, 1, none⟩), .func (.func 171) #[.pointer (some ⟨t, 0, none⟩)] #[]] w fun e w' => e = .returned (.tuple #[]) ∧ w.grownBy w' (some t) ∧ Tab w' t true 1 0 1 (rnds 8) := by
  have hl := run_call_load (P := Tryz.prog) Tryz.func128 (by kernel_rfl) (by kernel_rfl) (by kernel_rfl) .u32 (by kernel_rfl) hT.done
  have hsl := slow_any t f w hT
  have hnot : ∀ (x : Bool) (w : World), (Op.unary .not (.bool x)).run Tryz.prog w = .ok (.bool (!x)) w := fun _ _ => rfl
  go_enter Tryz.func49, Tryz.ntmps49
  go_wp2_with (first | (go_at_call 88; refine hsl.mono ?_; rintro e w2 ⟨rfl, hg2, hT2⟩) | (go_at_call 87; go_in))
  go_end0
  exact ⟨rfl, hg2, hT2⟩

theorem do_done (t : Nat) (m : Bool) (s k : Int) (f : Nat → Nat) (fv : Value) (w : World) (hT : Tab w t m 1 s k f) :
    Calls Tryz.prog 49 #[.pointer (some ⟨t, 1, none⟩), fv] w fun e w' => e = .returned (.tuple #[]) ∧ w = w' := by
  have hl := run_call_load (P := Tryz.prog) Tryz.func128 (by kernel_rfl) (by kernel_rfl) (by kernel_rfl) .u32 (by kernel_rfl) hT.done
  have hnot : ∀ (x : Bool) (w : World), (Op.unary .not (.bool x)).run Tryz.prog w = .ok (.bool (!x)) w := fun _ _ => rfl
  go_enter Tryz.func49, Tryz.ntmps49
  go_wp2_with (go_at_call 87; go_in)
  go_end0
  exact ⟨rfl, rfl⟩

/-- A table, done or not. -/
def Tbl (w : World) (t : Nat) (dn : Bool) : Prop := if dn = true then Tab w t true 1 0 1 (rnds 8) else Tab w t true 0 0 0 (fun _ => 0)
theorem Tbl.made {w : World} {t : Nat} {dn : Bool} (h : Tbl w t dn) : w.cell? ⟨t, 0, none⟩ = some (.bool true) := by
  unfold Tbl at h; split at h <;> exact h.made
theorem Tbl.lt {w : World} {t : Nat} {dn : Bool} (h : Tbl w t dn) : t < w.heap.size := by
  unfold Tbl at h; split at h <;> exact h.lt
theorem Tbl.kept {w w' : World} {t : Nat} {dn : Bool} {row : Option Nat} (h : Tbl w t dn) (hg : w.grownBy w' row) (hne : row ≠ some t) : Tbl w' t dn := by
  unfold Tbl at h ⊢; split at h
  · rename_i e; rw [if_pos e]; exact h.kept hg hne
  · rename_i e; rw [if_neg e]; exact h.kept hg hne
theorem Tbl.new {w w' : World} {t : Nat} {dn : Bool} (h : Tbl w t dn) (hg : w.grownBy w' none) : Tbl w' t dn := h.kept hg (by simp)

theorem Do_any (t : Nat) (dn : Bool) (w : World) (hT : Tbl w t dn) :
    Calls Tryz.prog 49 #[.pointer (some ⟨t, 1, none⟩), .func (.func 171) #[.pointer (some ⟨t, 0, none⟩)] #[]] w fun e w' => e = .returned (.tuple #[]) ∧ w.grownBy w' (some t) ∧ Tbl w' t true := by
  cases dn
  · exact do_first t _ w hT
  · exact (do_done t true 0 1 _ _ w hT).mono fun e w' ⟨h1, h2⟩ => ⟨h1, h2 ▸ World.grownBy.refl _ _, h2 ▸ hT⟩

/-- begin: whether there is a table; its numbers are there once a byte has come. -/
theorem begin_none (p : Value) (v : Value) (w : World) (hm : Calls Tryz.prog 170 #[p] w fun e w' => e = .returned (.bool false) ∧ w = w') :
    Calls Tryz.prog 140 #[p, v] w fun e w' => e = .returned (.bool false) ∧ w = w' := by
  go_enter Tryz.func140, Tryz.ntmps140
  go_wp2_with (go_at_call 170; refine hm.mono ?_; rintro e w' ⟨rfl, rfl⟩)
  go_ret
  exact ⟨rfl, rfl⟩

set_option maxHeartbeats 4000000 in
theorem begin_any (t : Nat) (dn : Bool) (a : Option Addr) (l c : Nat) (w : World) (hT : Tbl w t dn) :
    Calls Tryz.prog 140 #[.pointer (some ⟨t, 0, none⟩), .slice a l c] w fun e w' => e = .returned (.bool true) ∧ w.grownBy w' (some t) ∧ Tbl w' t (dn || decide (0 < l)) := by
  have hmf : ∀ (fn : Fn) (first cap : Array Value) (w : World), (Instr.makeFunc fn first cap).run Tryz.prog w = .ok (.func fn first cap) w := fun _ _ _ _ => rfl
  have hI := crcIsMade t true w hT.made
  by_cases h : 0 < l
  · have h1 : decide ((0 : Int) < (l : Int)) = true := by simpa using h
    have h2 : decide (0 < l) = true := by simpa using h
    have hD := Do_any t dn w hT
    rw [h2, Bool.or_true]
    clear h
    go_enter Tryz.func140, Tryz.ntmps140
    go_wp2_with (first | (go_at_call 170; refine hI.mono ?_; rintro e w' ⟨rfl, rfl⟩) | (go_at_call 49; refine hD.mono ?_; rintro e w2 ⟨rfl, hg2, hT2⟩))
    go_ret
    exact ⟨rfl, hg2, hT2⟩
  · have h1 : decide ((0 : Int) < (l : Int)) = false := by simpa using (by omega : l = 0)
    have h2 : decide (0 < l) = false := by simpa using (by omega : l = 0)
    rw [h2, Bool.or_false]
    clear h
    go_enter Tryz.func140, Tryz.ntmps140
    go_wp2_with (go_at_call 170; refine hI.mono ?_; rintro e w' ⟨rfl, rfl⟩)
    go_ret
    exact ⟨rfl, World.grownBy.refl _ _, hT⟩

theorem begin_done (t : Nat) (a : Option Addr) (l c : Nat) (w : World) (hT : Tbl w t true) :
    Calls Tryz.prog 140 #[.pointer (some ⟨t, 0, none⟩), .slice a l c] w fun e w' => e = .returned (.bool true) ∧ w = w' := by
  have hmf : ∀ (fn : Fn) (first cap : Array Value) (w : World), (Instr.makeFunc fn first cap).run Tryz.prog w = .ok (.func fn first cap) w := fun _ _ _ _ => rfl
  have hI := crcIsMade t true w hT.made
  by_cases h : 0 < l
  · have h1 : decide ((0 : Int) < (l : Int)) = true := by simpa using h
    have h2 : decide (0 < l) = true := by simpa using h
    have hD := fun fv => do_done t true 0 1 (rnds 8) fv w hT
    clear h
    go_enter Tryz.func140, Tryz.ntmps140
    go_wp2_with (first | (go_at_call 170; refine hI.mono ?_; rintro e w' ⟨rfl, rfl⟩) | (go_at_call 49; refine (hD _).mono ?_; rintro e w2 ⟨rfl, rfl⟩))
    go_ret
    exact ⟨rfl, rfl⟩
  · have h1 : decide ((0 : Int) < (l : Int)) = false := by simpa using (by omega : l = 0)
    have h2 : decide (0 < l) = false := by simpa using (by omega : l = 0)
    clear h
    go_enter Tryz.func140, Tryz.ntmps140
    go_wp2_with (go_at_call 170; refine hI.mono ?_; rintro e w' ⟨rfl, rfl⟩)
    go_ret
    exact ⟨rfl, rfl⟩

end Go.Proofs.YtpdacbiiaglodaaGreat

/-
  LAYER 3 (crc): Extend, Sum: the table's road and the reference's; Mask, Unmask.
-/
namespace Go.Proofs.YtpdacbiiaglodaaGreat
set_option maxRecDepth 100000
open Go.RowKit Go.Lib

/-- A slice whose bytes do not lie in block t. -/
def Off (t : Nat) (v : Value) (bs : List UInt8) : Prop := bs = [] ∨ v.ownBlock ≠ some t
theorem Reads.off {w w' : World} {t : Nat} {v : Value} {bs : List UInt8} (h : Reads w v bs) (ho : Off t v bs) (hg : w.grownBy w' (some t)) : Reads w' v bs := by
  rcases ho with rfl | ho
  · rcases h with ⟨hh, _⟩ | ⟨b, off, c, hh, h1, h2, _⟩
    · exact .inl ⟨hh, rfl⟩
    · exact .inr ⟨b, off, c, hh, h1, h2, fun i u hu => by simp at hu⟩
  · exact h.kept hg (.inr ho)
theorem Reads.get {w : World} {a : Option Addr} {l c : Nat} {bs : List UInt8} (h : Reads w (.slice a l c) bs) {i : Nat} (hi : i < bs.length) :
    ∃ b off, a = some ⟨b, off, none⟩ ∧ w.cell? ⟨b, off + i, none⟩ = some (.int .u8 ((bs[i]).toNat : Int)) := by
  rcases h with ⟨_, rfl⟩ | ⟨b, off, cap, h, _, _, hc⟩
  · simp at hi
  · simp at h
    obtain ⟨rfl, _, _⟩ := h
    exact ⟨b, off, rfl, hc i _ (by rw [List.getElem?_eq_getElem hi])⟩

theorem xor_ones (s : Nat) (h : s < 4294967296) : 4294967295 ^^^ s = not32 s := by
  apply Nat.eq_of_testBit_eq
  intro i
  have e : not32 s = 2 ^ 32 - (s + 1) := by unfold not32; omega
  rw [e, Nat.testBit_two_pow_sub_succ (by omega), Nat.testBit_xor, show (4294967295 : Nat) = 2 ^ 32 - 1 from rfl, Nat.testBit_two_pow_sub_one]
  by_cases hi : i < 32
  · simp [hi]
  · have : s.testBit i = false := Nat.testBit_lt_two_pow (Nat.lt_of_lt_of_le h (by rw [show 4294967296 = 2 ^ 32 from rfl]; exact Nat.pow_le_pow_right (by decide) (by omega)))
    simp [hi, this]
theorem not_u32 (c : Nat) (h : c < 4294967296) : bits .xor .u32 IntKind.u32.max (c : Int) = ((not32 c : Nat) : Int) := by
  rw [show IntKind.u32.max = ((4294967295 : Nat) : Int) from rfl, u32_xor_nat 4294967295 c (by decide) h, xor_ones c h]

set_option maxHeartbeats 4000000 in
theorem Extend_with (t : Nat) (dn : Bool) (row : Option Nat) (s : Nat) (a : Option Addr) (l c : Nat) (bs : List UInt8) (w : World) (hs : s < 4294967296) (hr : Reads w (.slice a l c) bs) (hrow : row = none ∨ (row = some t ∧ Off t (.slice a l c) bs))
    (hB : Calls Tryz.prog 140 #[.pointer (some ⟨t, 0, none⟩), .slice a l c] w fun e w' => e = .returned (.bool true) ∧ w.grownBy w' row ∧ Tbl w' t dn) (hd : 0 < bs.length → dn = true) :
    Calls Tryz.prog 175 #[.pointer (some ⟨t, 0, none⟩), .int .u32 (s : Int), .slice a l c] w fun e w' => e = .returned (.int .u32 ((ext s bs : Nat) : Int)) ∧ w.grownBy w' row ∧ Tbl w' t dn := by
  obtain ⟨rfl, hc, hm⟩ := hr.slice
  unfold maxLen at hm
  have hro : ∀ w2, w.grownBy w2 row → Reads w2 (.slice a bs.length c) bs := by
    intro w2 hg
    rcases hrow with rfl | ⟨rfl, ho⟩
    · exact hr.new hg
    · exact hr.off ho hg
  clear hrow
  have hsg : IntKind.u32.signed = false := rfl
  have hn1 := not_u32 s hs
  have hE := Lib.hid (show ext s bs = not32 (bytes (not32 s) bs) from rfl)
  have hlt := not32_lt s
  generalize ext s bs = r at hE ⊢
  generalize not32 s = z at hn1 hE hlt
  go_enter Tryz.func175, Tryz.ntmps175
  go_wp2_with (go_at_call 140; refine hB.mono ?_; rintro e w2 ⟨rfl, hg2, hT2⟩; have hr2 := hro _ hg2)
  clear hn1
  go_loop [1, 17] (fun v i => ∃ k : Nat, k ≤ bs.length ∧ i = .int .i64 (k : Int) ∧ v = .int .u32 ((bytes z (bs.take k) : Nat) : Int)) (fun _ i => bs.length - (RowKit.intOf i).toNat)
  case atStart => exact ⟨0, Nat.zero_le _, rfl, rfl⟩
  case round =>
    obtain ⟨k, hk, rfl, rfl⟩ := hrel
    by_cases hkl : k < bs.length
    · obtain ⟨b, off, rfl, hcell⟩ := hr2.get hkl
      have hstep := Lib.hid (show bytes z (bs.take (k + 1)) = byt (bytes z (bs.take k)) (bs[k]).toNat by rw [List.take_succ_eq_append_getElem hkl, bytes_snoc])
      have hcl := bytes_lt (bs.take k) hlt
      generalize bytes z (bs.take k) = q at hstep hcl ⊢
      have hu := (bs[k]).toNat_lt
      generalize (bs[k]).toNat = u at hcell hstep hu
      have hT3 : Tab w2 t true 1 0 1 (rnds 8) := by
        have := hT2
        rw [hd (by omega)] at this
        exact this
      have hq8 : q % 256 ^^^ u < 256 := Nat.xor_lt_two_pow (n := 8) (by omega) (by omega)
      have hx8 : bits .xor .u8 ((q : Int) % 256) (u : Int) = ((q % 256 ^^^ u : Nat) : Int) := by
        rw [show (q : Int) % 256 = ((q % 256 : Nat) : Int) by omega, u8_xor_nat _ _ (by omega) hu]
      have hx32 : bits .xor .u32 ((q : Int) / 256) ((rnds 8 (q % 256 ^^^ u) : Nat) : Int) = ((byt q u : Nat) : Int) := by
        rw [show (q : Int) / 256 = ((q / 256 : Nat) : Int) by omega, u32_xor_nat _ _ (by omega) (rnds_lt 8 (by omega)), byt_table q u hu]
      generalize byt q u = y at hstep hx32
      generalize q % 256 ^^^ u = j at hx8 hx32 hq8
      have hcT := hT3.num hq8
      generalize rnds 8 j = v at hcT hx32
      clear hT3 hr2 hT2 hg2 hr hro hB hd
      go_wp2
      exact ⟨⟨k + 1, by omega, by go_num, by rw [hstep.out]⟩, by simp [RowKit.intOf]; omega⟩
    · have hkl : k = bs.length := by omega
      subst hkl
      rw [List.take_length]
      have hn2 := not_u32 _ (bytes_lt bs hlt)
      go_wp2
      go_ret
      exact ⟨by rw [hE.out]; rfl, hg2, hT2⟩

theorem Extend_any (t : Nat) (dn : Bool) (s : Nat) (a : Option Addr) (l c : Nat) (bs : List UInt8) (w : World) (hT : Tbl w t dn) (hs : s < 4294967296) (hr : Reads w (.slice a l c) bs) (ho : Off t (.slice a l c) bs) :
    Calls Tryz.prog 175 #[.pointer (some ⟨t, 0, none⟩), .int .u32 (s : Int), .slice a l c] w fun e w' => e = .returned (.int .u32 ((ext s bs : Nat) : Int)) ∧ w.grownBy w' (some t) ∧ Tbl w' t (dn || decide (0 < bs.length)) := by
  obtain ⟨rfl, hc, hm⟩ := hr.slice
  exact Extend_with t _ (some t) s a _ c bs w hs hr (.inr ⟨rfl, ho⟩) (begin_any t dn a bs.length c w hT) (fun h => by simp [h])
/-- Of a table whose numbers are there: nothing is turned. -/
theorem Extend_done (t : Nat) (s : Nat) (a : Option Addr) (l c : Nat) (bs : List UInt8) (w : World) (hT : Tbl w t true) (hs : s < 4294967296) (hr : Reads w (.slice a l c) bs) :
    Calls Tryz.prog 175 #[.pointer (some ⟨t, 0, none⟩), .int .u32 (s : Int), .slice a l c] w fun e w' => e = .returned (.int .u32 ((ext s bs : Nat) : Int)) ∧ w.grownBy w' none ∧ Tbl w' t true :=
  Extend_with t true none s a l c bs w hs hr (.inl rfl) ((begin_done t a l c w hT).mono fun _ _ ⟨h1, h2⟩ => ⟨h1, h2 ▸ World.grownBy.refl _ _, h2 ▸ hT⟩) (fun _ => rfl)

set_option maxHeartbeats 1000000 in
theorem Sum_done (t : Nat) (a : Option Addr) (l c : Nat) (bs : List UInt8) (w : World) (hT : Tbl w t true) (hr : Reads w (.slice a l c) bs) :
    Calls Tryz.prog 142 #[.pointer (some ⟨t, 0, none⟩), .slice a l c] w fun e w' => e = .returned (.int .u32 ((sum bs : Nat) : Int)) ∧ w.grownBy w' none ∧ Tbl w' t true := by
  have hE := Extend_done t 0 a l c bs w hT (by decide) hr
  rw [show ((0 : Nat) : Int) = 0 from rfl] at hE
  go_enter Tryz.func142, Tryz.ntmps142
  go_wp2_with (go_at_call 175; refine hE.mono ?_; rintro e w2 ⟨rfl, hg2, hT2⟩)
  go_ret
  exact ⟨rfl, hg2, hT2⟩

set_option maxHeartbeats 1000000 in
theorem Sum_any (t : Nat) (dn : Bool) (a : Option Addr) (l c : Nat) (bs : List UInt8) (w : World) (hT : Tbl w t dn) (hr : Reads w (.slice a l c) bs) (ho : Off t (.slice a l c) bs) :
    Calls Tryz.prog 142 #[.pointer (some ⟨t, 0, none⟩), .slice a l c] w fun e w' => e = .returned (.int .u32 ((sum bs : Nat) : Int)) ∧ w.grownBy w' (some t) ∧ Tbl w' t (dn || decide (0 < bs.length)) := by
  have hE := Extend_any t dn 0 a l c bs w hT (by decide) hr ho
  rw [show ((0 : Nat) : Int) = 0 from rfl] at hE
  go_enter Tryz.func142, Tryz.ntmps142
  go_wp2_with (go_at_call 175; refine hE.mono ?_; rintro e w2 ⟨rfl, hg2, hT2⟩)
  go_ret
  exact ⟨rfl, hg2, hT2⟩

theorem Extend_none (p : Value) (s : Int) (v : Value) (w : World) (hm : Calls Tryz.prog 170 #[p] w fun e w' => e = .returned (.bool false) ∧ w = w') :
    Calls Tryz.prog 175 #[p, .int .u32 s, v] w fun e w' => e = .returned (.int .u32 0) ∧ w = w' := by
  go_enter Tryz.func175, Tryz.ntmps175
  go_wp2_with (go_at_call 140; refine (begin_none p v w hm).mono ?_; rintro e w' ⟨rfl, rfl⟩)
  go_ret
  exact ⟨rfl, rfl⟩
theorem Sum_none (p : Value) (v : Value) (w : World) (hm : Calls Tryz.prog 170 #[p] w fun e w' => e = .returned (.bool false) ∧ w = w') :
    Calls Tryz.prog 142 #[p, v] w fun e w' => e = .returned (.int .u32 0) ∧ w = w' := by
  go_enter Tryz.func142, Tryz.ntmps142
  go_wp2_with (go_at_call 175; refine (Extend_none p 0 v w hm).mono ?_; rintro e w' ⟨rfl, rfl⟩)
  go_ret
  exact ⟨rfl, rfl⟩

/-! The reference's. -/

set_option maxHeartbeats 4000000 in
theorem refTurn_any (c x : Nat) (w : World) (hc : c < 4294967296) (hx : x < 256) :
    Calls Tryz.prog 156 #[.int .u32 (c : Int), .int .u8 (x : Int)] w fun e w' => e = .returned (.int .u32 ((byt c x : Nat) : Int)) ∧ w = w' := by
  have h0 : bits .xor .u32 (c : Int) (x : Int) = ((c ^^^ x : Nat) : Int) := u32_xor_nat c x hc (by omega)
  have hz := Nat.xor_lt_two_pow (n := 32) hc (show x < 2 ^ 32 by omega)
  have hE := Lib.hid (show byt c x = rnds 8 (c ^^^ x) from rfl)
  generalize byt c x = r at hE ⊢
  generalize c ^^^ x = z at h0 hz hE
  go_enter Tryz.func156, Tryz.ntmps156
  go_wp2
  go_loop [0, 5] (fun v i => ∃ j : Nat, j ≤ 8 ∧ i = .int .i64 (j : Int) ∧ v = .int .u32 ((rnds j z : Nat) : Int)) (fun _ i => 8 - (RowKit.intOf i).toNat)
  case atStart => exact ⟨0, by omega, rfl, rfl⟩
  case round =>
    obtain ⟨j, hj, rfl, rfl⟩ := hrel
    by_cases hj8 : j < 8
    · have hs := Lib.hid (rnds_succ j z)
      have hl := rnds_lt j hz
      generalize rnds j z = q at hs hl ⊢
      have hp := xor_poly q hl
      by_cases ho : q % 2 = 1
      · have h1 : ((q : Int) % 2 == 1) = true := by simp; omega
        go_wp2
        refine ⟨⟨j + 1, by omega, by go_num, ?_⟩, by simp [RowKit.intOf]; omega⟩
        rw [hs.out]
        unfold rnd
        rw [if_pos ho]
      · have h1 : ((q : Int) % 2 == 1) = false := by simp; omega
        go_wp2
        refine ⟨⟨j + 1, by omega, by go_num, ?_⟩, by simp [RowKit.intOf]; omega⟩
        rw [hs.out]
        unfold rnd
        rw [if_neg ho]
        simp
    · have hj : j = 8 := by omega
      subst hj
      go_wp2
      go_ret
      exact ⟨by rw [hE.out]; rfl, rfl⟩

set_option maxHeartbeats 4000000 in
theorem refExtend_any (s : Nat) (a : Option Addr) (l c : Nat) (bs : List UInt8) (w : World) (hs : s < 4294967296) (hr : Reads w (.slice a l c) bs) :
    Calls Tryz.prog 125 #[.int .u32 (s : Int), .slice a l c] w fun e w' => e = .returned (.int .u32 ((ext s bs : Nat) : Int)) ∧ w = w' := by
  obtain ⟨rfl, hc, hm⟩ := hr.slice
  unfold maxLen at hm
  have hsg : IntKind.u32.signed = false := rfl
  have hn1 := not_u32 s hs
  have hE := Lib.hid (show ext s bs = not32 (bytes (not32 s) bs) from rfl)
  have hlt := not32_lt s
  generalize ext s bs = r at hE ⊢
  generalize not32 s = z at hn1 hE hlt
  go_enter Tryz.func125, Tryz.ntmps125
  go_wp2
  clear hn1
  go_loop [5, 12] (fun v i => ∃ k : Nat, k ≤ bs.length ∧ i = .int .i64 (k : Int) ∧ v = .int .u32 ((bytes z (bs.take k) : Nat) : Int)) (fun _ i => bs.length - (RowKit.intOf i).toNat)
  case atStart => exact ⟨0, Nat.zero_le _, rfl, rfl⟩
  case round =>
    obtain ⟨k, hk, rfl, rfl⟩ := hrel
    by_cases hkl : k < bs.length
    · obtain ⟨b, off, rfl, hcell⟩ := hr.get hkl
      have hstep := Lib.hid (show bytes z (bs.take (k + 1)) = byt (bytes z (bs.take k)) (bs[k]).toNat by rw [List.take_succ_eq_append_getElem hkl, bytes_snoc])
      have hcl := bytes_lt (bs.take k) hlt
      generalize bytes z (bs.take k) = q at hstep hcl ⊢
      have hu := (bs[k]).toNat_lt
      generalize (bs[k]).toNat = u at hcell hstep hu
      have hT := refTurn_any q u w hcl hu
      clear hr
      go_wp2_with (go_at_call 156; refine hT.mono ?_; rintro e w' ⟨rfl, rfl⟩)
      exact ⟨⟨k + 1, by omega, by go_num, by rw [hstep.out]⟩, by simp [RowKit.intOf]; omega⟩
    · have hkl : k = bs.length := by omega
      subst hkl
      rw [List.take_length]
      have hn2 := not_u32 _ (bytes_lt bs hlt)
      go_wp2
      go_ret
      exact ⟨by rw [hE.out]; rfl, rfl⟩

theorem refSum_any (a : Option Addr) (l c : Nat) (bs : List UInt8) (w : World) (hr : Reads w (.slice a l c) bs) :
    Calls Tryz.prog 85 #[.slice a l c] w fun e w' => e = .returned (.int .u32 ((sum bs : Nat) : Int)) ∧ w = w' := by
  have hE := refExtend_any 0 a l c bs w (by decide) hr
  rw [show ((0 : Nat) : Int) = 0 from rfl] at hE
  go_enter Tryz.func85, Tryz.ntmps85
  go_wp2_with (go_at_call 125; refine hE.mono ?_; rintro e w2 ⟨rfl, rfl⟩)
  go_ret
  exact ⟨rfl, rfl⟩
end Go.Proofs.YtpdacbiiaglodaaGreat

/-
  LAYER 3 (crc): Mask, Unmask, and the reference's.
-/
namespace Go.Proofs.YtpdacbiiaglodaaGreat
set_option maxRecDepth 100000
open Go.RowKit Go.Lib

theorem rotR_or (c : Nat) (h : c < 4294967296) : bits .or .u32 ((c : Int) * 131072 % 4294967296) ((c : Int) / 32768) = ((rotR c : Nat) : Int) := by
  have e1 : (c : Int) * 131072 % 4294967296 = ((c % 32768 * 131072 : Nat) : Int) := by omega
  have e2 : (c : Int) / 32768 = ((c / 32768 : Nat) : Int) := by omega
  rw [e1, e2, u32_or_nat _ _ (by omega) (by omega)]
  unfold rotR
  rw [Nat.mul_comm (c % 32768) 131072, show (131072 : Nat) = 2 ^ 17 from rfl, ← Nat.two_pow_add_eq_or_of_lt (by omega)]
  congr 1; omega
theorem rotL_or (c : Nat) (h : c < 4294967296) : bits .or .u32 ((c : Int) * 32768 % 4294967296) ((c : Int) / 131072) = ((rotL c : Nat) : Int) := by
  have e1 : (c : Int) * 32768 % 4294967296 = ((c % 131072 * 32768 : Nat) : Int) := by omega
  have e2 : (c : Int) / 131072 = ((c / 131072 : Nat) : Int) := by omega
  rw [e1, e2, u32_or_nat _ _ (by omega) (by omega)]
  unfold rotL
  rw [Nat.mul_comm (c % 131072) 32768, show (32768 : Nat) = 2 ^ 15 from rfl, ← Nat.two_pow_add_eq_or_of_lt (by omega)]

theorem ret_num {k : IntKind} {a b : Int} (h : a = b) : Ending.returned (.int k a) = .returned (.int k b) := by rw [h]

theorem and17 : bits .and .u64 (IntKind.u64.wrap (-15)) 31 = 17 := by
  rw [show IntKind.u64.wrap (-15) = ((18446744073709551601 : Nat) : Int) from rfl, show (31 : Int) = ((31 : Nat) : Int) from rfl, u64_and_nat _ _ (by decide) (by decide)]
  rfl
theorem and15 : bits .and .u64 15 31 = 15 := by
  rw [show (15 : Int) = ((15 : Nat) : Int) from rfl, show (31 : Int) = ((31 : Nat) : Int) from rfl, u64_and_nat _ _ (by decide) (by decide)]
  rfl

set_option maxHeartbeats 4000000 in
theorem rotR_any (c : Nat) (h : c < 4294967296) (w : World) :
    Calls Tryz.prog 184 #[.int .u32 (c : Int), .int .i64 (-15)] w fun e w' => e = .returned (.int .u32 ((rotR c : Nat) : Int)) ∧ w = w' := by
  have h1 := rotR_or c h
  have h2 := and17
  generalize rotR c = r at h1 ⊢
  go_enter Tryz.func184, Tryz.ntmps184
  go_wp2
  go_ret
  exact ⟨rfl, rfl⟩
set_option maxHeartbeats 4000000 in
theorem rotL_any (c : Nat) (h : c < 4294967296) (w : World) :
    Calls Tryz.prog 184 #[.int .u32 (c : Int), .int .i64 15] w fun e w' => e = .returned (.int .u32 ((rotL c : Nat) : Int)) ∧ w = w' := by
  have h1 := rotL_or c h
  have h2 := and15
  generalize rotL c = r at h1 ⊢
  go_enter Tryz.func184, Tryz.ntmps184
  go_wp2
  go_ret
  exact ⟨rfl, rfl⟩

theorem Mask_any (s : Nat) (h : s < 4294967296) (w : World) :
    Calls Tryz.prog 159 #[.int .u32 (s : Int)] w fun e w' => e = .returned (.int .u32 ((mask s : Nat) : Int)) ∧ w = w' := by
  have hR := rotR_any s h w
  have hE := Lib.hid (show mask s = (rotR s + 0xA282EAD8) % 4294967296 from rfl)
  have hl := rotR_lt h
  generalize mask s = m at hE ⊢
  generalize rotR s = r at hE hR hl
  go_enter Tryz.func159, Tryz.ntmps159
  go_wp2_with (go_at_call 184; refine hR.mono ?_; rintro e w2 ⟨rfl, rfl⟩)
  go_ret
  exact ⟨by rw [hE.out]; simp, rfl⟩
theorem Unmask_any (s : Nat) (h : s < 4294967296) (w : World) :
    Calls Tryz.prog 174 #[.int .u32 (s : Int)] w fun e w' => e = .returned (.int .u32 ((unmask s : Nat) : Int)) ∧ w = w' := by
  have hR := rotL_any ((s + 4294967296 - 0xA282EAD8) % 4294967296) (Nat.mod_lt _ (by decide)) w
  have hE := Lib.hid (show unmask s = rotL ((s + 4294967296 - 0xA282EAD8) % 4294967296) from rfl)
  have hz : ((s : Int) - 2726488792) % 4294967296 = (((s + 4294967296 - 0xA282EAD8) % 4294967296 : Nat) : Int) := by omega
  generalize unmask s = m at hE ⊢
  generalize (s + 4294967296 - 0xA282EAD8) % 4294967296 = z at hE hR hz
  generalize rotL z = r at hE hR
  go_enter Tryz.func174, Tryz.ntmps174
  go_wp2_with (go_at_call 184; refine hR.mono ?_; rintro e w2 ⟨rfl, rfl⟩)
  go_ret
  exact ⟨by rw [hE.out]; rfl, rfl⟩
theorem refMask_any (s : Nat) (h : s < 4294967296) (w : World) :
    Calls Tryz.prog 84 #[.int .u32 (s : Int)] w fun e w' => e = .returned (.int .u32 ((mask s : Nat) : Int)) ∧ w = w' := by
  have hE := Lib.hid (show mask s = (rotR s + 0xA282EAD8) % 4294967296 from rfl)
  have hm : ((s : Int) / 32768 + (s : Int) * 131072 % 4294967296 + 2726488792) % 4294967296 = ((mask s : Nat) : Int) := by unfold mask rotR; omega
  generalize mask s = m at hm ⊢
  clear hE
  go_enter Tryz.func84, Tryz.ntmps84
  go_wp2
  go_ret
  exact ⟨ret_num hm, rfl⟩
end Go.Proofs.YtpdacbiiaglodaaGreat

/-
  LAYER 3 (crc): Frame, and the reference's; awake.
-/
namespace Go.Proofs.YtpdacbiiaglodaaGreat
set_option maxRecDepth 100000
open Go.RowKit Go.Lib

/-- What the call owns from B on does not lie in an elder block. -/
theorem Owns.apartT {w : World} {B t : Nat} {e : TypeId} {v : Value} {bs : List UInt8} (h : Owns w B e v bs) (ht : t < B) : v.ownBlock = none ∨ v.ownBlock ≠ some t :=
  .inr fun e => by have := (h.lt t e).1; omega

/-- A frame. -/
def frame (bs : List UInt8) : List UInt8 := Lib.uvarint bs.length ++ leB (mask (sum bs)) 4 ++ bs

theorem Frame_none (p : Value) (v : Value) (w : World) (hm : Calls Tryz.prog 170 #[p] w fun e w' => e = .returned (.bool false) ∧ w = w') :
    Calls Tryz.prog 127 #[p, v] w fun e w' => e = .returned (.tuple #[.slice none 0 0, .int .i64 32]) ∧ w = w' := by
  go_enter Tryz.func127, Tryz.ntmps127
  go_wp2_with (go_at_call 140; refine (begin_none p v w hm).mono ?_; rintro e w' ⟨rfl, rfl⟩)
  go_ret2
  exact ⟨rfl, rfl⟩

set_option maxHeartbeats 4000000 in
theorem Frame_ok (t : Nat) (dn : Bool) (a : Option Addr) (l c : Nat) (bs : List UInt8) (w : World) (hT : Tbl w t dn) (hr : Reads w (.slice a l c) bs) (ho : Off t (.slice a l c) bs) (hl : bs.length ≤ 16777216) :
    Calls Tryz.prog 127 #[.pointer (some ⟨t, 0, none⟩), .slice a l c] w fun e w' => ∃ v, e = .returned (.tuple #[v, .int .i64 0]) ∧ Owns w' w.heap.size 5 v (frame bs) ∧ w.grownBy w' (some t) ∧ Tbl w' t (dn || decide (0 < bs.length)) := by
  obtain ⟨rfl, hc, hm⟩ := hr.slice
  obtain ⟨i0, hi, hz0, hz1, hz2⟩ := info_parts infoU8
  have htl := hT.lt
  have hB := begin_any t dn a bs.length c w hT
  have hU := Uint_any bs.length (by omega)
  have hS := fun w' b (hT : Tbl w' t b) hr => Sum_any t b a bs.length c bs w' hT hr ho
  have hM := Mask_any (sum bs) (ext_lt _ _)
  have hF := fun w' => Fixed_ok (mask (sum bs)) 4 w' (by have := mask_lt (sum bs); omega) (by omega) (by have := mask_lt (sum bs); simpa using this)
  rw [show ((4 : Nat) : Int) = 4 from rfl] at hF
  have hE := Lib.hid (show frame bs = Lib.uvarint bs.length ++ leB (mask (sum bs)) 4 ++ bs from rfl)
  have hfl : (frame bs).length = (Lib.uvarint bs.length).length + (leB (mask (sum bs)) 4).length + bs.length := by unfold frame; simp [Nat.add_assoc]
  have lA : (Lib.uvarint bs.length).length ≤ 10 := ulen_le (by omega)
  have lM : (leB (mask (sum bs)) 4).length ≤ 4 := by rw [leB_length]; omega
  replace hfl := Lib.hid hfl
  generalize frame bs = fr at hE hfl ⊢
  generalize leB (mask (sum bs)) 4 = M at hF hE lM hfl
  have hms := mask_lt (sum bs)
  generalize mask (sum bs) = ms at hM hF hms
  generalize sum bs = sm at hS hM
  generalize Lib.uvarint bs.length = A at hU hE lA hfl
  obtain ⟨G, hG⟩ : ∃ G, G = A ++ M := ⟨_, rfl⟩
  have hL7 : G.length + bs.length ≤ 140737488355328 := by rw [hG, List.length_append]; omega
  replace hG := Lib.hid hG
  go_enter Tryz.func127, Tryz.ntmps127
  go_wp2_with (first
    | (go_at_call 140; refine hB.mono ?_; rintro e w1 ⟨rfl, hg1, hT1⟩; have hr1 := hr.off ho hg1)
    | (go_at_call 157; refine (hU w1).mono ?_; rintro e w2 ⟨v2, rfl, ho2, hg2⟩; have hT2 := hT1.new hg2; have hr2 := hr1.new hg2)
    | (go_at_call 142; refine (hS w2 _ hT2 hr2).mono ?_; rintro e w3 ⟨rfl, hg3, hT3⟩; have ho3 := ho2.kept hg3 (ho2.apartT (Nat.lt_of_lt_of_le htl hg1.size)); have hr3 := hr2.off ho hg3)
    | (go_at_call 159; refine (hM _).mono ?_; rintro e w' ⟨rfl, rfl⟩)
    | (go_at_call 158; refine (hF w3).mono ?_; rintro e w4 ⟨v4, rfl, ho4, hg4⟩; obtain ⟨a2, c2, rfl⟩ := ho3.reads.form; obtain ⟨a4, c4, rfl⟩ := ho4.reads.form)
    | (at_make; refine wpList_make_own _ rfl _ _ 27 rfl w4.heap.size 5 i0 (.int .u8 0) 1 Tryz.underlying27 hi hz0 hz1 .i64 .i64 _ (A.length + M.length + bs.length) rfl rfl (by simp) (by rw [hz2]; omega) (by unfold maxLen; omega) (Nat.le_refl _) ?_; intro w5 ho5 hg5; have hb5 := gbelow hg5 (Nat.le_refl w4.heap.size) (by simp))
    | (at_builtin; refine wpList_append_bytes w5 rfl _ _ 27 rfl w4.heap.size 5 i0 Tryz.underlying27 hi hz0 hz1 hz2 _ [] rfl ho5 (.slice a2 A.length c2) A rfl ((ho3.reads.new hg4).all hb5) (by simp; omega) hg5.size ?_; intro v6 w6 ho6 hg6; rw [List.nil_append] at ho6; have hb6 := hb5.trans (gbelow hg6 hg5.size (fun k e => (ho5.lt k e).1)))
    | (at_builtin; refine wpList_append_bytes w6 rfl _ _ 27 rfl w4.heap.size 5 i0 Tryz.underlying27 hi hz0 hz1 hz2 v6 A rfl ho6 (.slice a4 M.length c4) M rfl (ho4.reads.all hb6) (by omega) hb6.size ?_; intro v7 w7 ho7 hg7; have hb7 := hb6.trans (gbelow hg7 hb6.size (fun k e => (ho6.lt k e).1)); rw [← hG.out] at ho7)
    | (at_builtin; refine wpList_append_bytes w7 rfl _ _ 27 rfl w4.heap.size 5 i0 Tryz.underlying27 hi hz0 hz1 hz2 v7 G rfl ho7 (.slice a bs.length c) bs rfl ((hr3.new hg4).all hb7) hL7 hb7.size ?_; intro v8 w8 ho8 hg8; have hb8 := hb7.trans (gbelow hg8 hb7.size (fun k e => (ho7.lt k e).1))))
  go_ret2
  have hgw : w.grownBy w8 (some t) := gnew (gnew (gnew (gnew hg1 hg2 (by simp)) hg3 (by simp)) hg4 (by simp)) (belowg hb8 none) (by simp)
  refine ⟨v8, rfl, ?_, hgw, ?_⟩
  · rw [hG.out] at ho8
    rw [hE.out]
    exact ho8.mono (Nat.le_trans hg1.size (Nat.le_trans hg2.size (Nat.le_trans hg3.size hg4.size)))
  · have := (hT3.new hg4).new (belowg hb8 none)
    simpa using this

/-! awake -/
def nine : List UInt8 := [49, 50, 51, 52, 53, 54, 55, 56, 57]
theorem sum_nine : sum nine = 3808858755 := by decide +kernel
theorem sum_nil : sum [] = 0 := by decide +kernel
theorem frame_nil : frame [] = [0, 216, 234, 130, 162] := by
  unfold frame
  rw [show ([] : List UInt8).length = 0 from rfl, uvarint_small (by decide)]
  decide +kernel
theorem mask_zero : mask 0 = 2726488792 := by decide +kernel

theorem off_new {t b : Nat} {o l c : Nat} {bs : List UInt8} (h : b ≠ t) : Off t (.slice (some ⟨b, o, none⟩) l c) bs := .inr (by simpa [Value.ownBlock] using h)

theorem reads_marked (w : World) (e : TypeId) (bs : List UInt8) (p q : Nat) (hm : bs.length ≤ maxLen) : Reads (w.alloc (.cells (byteCells bs).toArray e (p, q))) (.slice (some ⟨w.heap.size, 0, none⟩) bs.length bs.length) bs := by
  refine .inr ⟨w.heap.size, 0, bs.length, rfl, Nat.le_refl _, hm, fun i u hu => ?_⟩
  simp only [World.cell?, heap_alloc_new]
  simp [byteCells_get, hu]

end Go.Proofs.YtpdacbiiaglodaaGreat
