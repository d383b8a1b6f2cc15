/-
  LAYER 9 (trie): slices.Sort at runes: the whole.
-/
import Derived.Test.YtlnplompnabmlaaRA13
import Derived.Test.YtlnplompnabmlaaRA10
import Derived.Test.YtlnplompnabmlaaRA09
import Derived.Test.YtlnplompnabmlaaRA12
import Derived.Laws.EntriesVeiled
namespace Go.Proofs.Ytlnplompnabmlaa
set_option maxRecDepth 100000
open Go.RowKit Go.Sort

theorem brk_to {w0 w : World} {blk off N : Nat} {d : Array Int} (h : RowG w0 blk off N d w) (cap a b : Nat) (hab : a ≤ b) (hb : b ≤ N) (hsz : N < 4611686018427387904) :
    Calls Try.prog 79 #[.slice (some ⟨blk, off, none⟩) N cap, .int .i64 a, .int .i64 (b : Int)] w fun e w' => e = .returned (.tuple #[]) ∧ ∃ dk, PermIn a b d dk ∧ RowG w0 blk off N dk w' := by
  obtain ⟨L, rfl⟩ : ∃ L, b = a + L := ⟨b - a, by omega⟩
  exact brk_any h cap a L hb hsz
theorem pivot_to {w0 w : World} {blk off N : Nat} {d : Array Int} (h : RowG w0 blk off N d w) (cap a b : Nat) (hab : a < b) (hb : b ≤ N) (hsz : N < 4611686018427387904) :
    Calls Try.prog 80 #[.slice (some ⟨blk, off, none⟩) N cap, .int .i64 a, .int .i64 (b : Int)] w fun e w' => ∃ (p : Nat) (k : Int), e = .returned (.tuple #[.int .i64 (p : Int), .int .i64 k]) ∧ a ≤ p ∧ p < b ∧ RowG w0 blk off N d w' := by
  obtain ⟨L, rfl⟩ : ∃ L, b = a + L := ⟨b - a, by omega⟩
  refine (pivot_any h cap a L (by omega) hb hsz).mono ?_
  rintro e w' ⟨p, k, rfl, h1, h2, h3⟩
  obtain ⟨p, rfl⟩ := Int.eq_ofNat_of_zero_le (show 0 ≤ p by omega)
  exact ⟨p, k, rfl, by omega, by omega, h3⟩

/-- What is left to do leads to the end. -/
def Leads (a b : Nat) (d : Array Int) (a' b' : Nat) (dk : Array Int) : Prop := ∀ R, PermIn a' b' dk R → SortedIn less a' b' R → PermIn a b d R ∧ SortedIn less a b R

set_option maxHeartbeats 6400000 in
set_option maxRecDepth 1000000 in
theorem pdq_any (w0 : World) (blk off cap N : Nat) (hsz : N < 4611686018427387904) : ∀ (n a b limit : Nat) (d : Array Int) (w : World), b - a < n → RowG w0 blk off N d w → a ≤ b → b ≤ N → limit < 4611686018427387904 → Sort.Below less a b d →
    Calls Try.prog 74 #[.slice (some ⟨blk, off, none⟩) N cap, .int .i64 a, .int .i64 b, .int .i64 limit] w fun e w' => e = .returned (.tuple #[]) ∧ ∃ dk, PermIn a b d dk ∧ SortedIn less a b dk ∧ RowG w0 blk off N dk w' := by
  intro n
  induction n with
  | zero => intro a b _ _ _ h; exact absurd h (Nat.not_lt_zero _)
  | succ n ih =>
    intro a b limit d w hN h hab hb hlimit hB0
    have IH : Hid (∀ (a b limit : Nat) (d : Array Int) (w : World), b - a < n → RowG w0 blk off N d w → a ≤ b → b ≤ N → limit < 4611686018427387904 → Sort.Below less a b d →
      Calls Try.prog 74 #[.slice (some ⟨blk, off, none⟩) N cap, .int .i64 a, .int .i64 b, .int .i64 limit] w fun e w' => e = .returned (.tuple #[]) ∧ ∃ dk, PermIn a b d dk ∧ SortedIn less a b dk ∧ RowG w0 blk off N dk w') := ih
    have H0 : Hid (RowG w0 blk off N d w ∧ Sort.Below less a b d) := ⟨h, hB0⟩
    clear ih h hB0
    go_enter Try.func74, Try.ntmps74
    go_wp2
    go_loopg [1, 2, 3, 8, 9] (b - a) (fun k s1 s2 s3 s8 s9 wr => ∃ (a' b' lim : Nat) (wb wp : Bool) (dk : Array Int), s1 = .int .i64 a' ∧ s2 = .int .i64 b' ∧ s3 = .int .i64 lim ∧ s8 = .bool wb ∧ s9 = .bool wp ∧
      a' ≤ b' ∧ b' ≤ N ∧ b' - a' ≤ k ∧ k ≤ b - a ∧ lim ≤ limit ∧ Hid (Sort.Below less a' b' dk) ∧ Hid (RowG w0 blk off N dk wr) ∧ Hid (Leads a b d a' b' dk))
    case atStart => exact ⟨a, b, limit, true, true, d, rfl, rfl, rfl, rfl, rfl, hab, hb, Nat.le_refl _, Nat.le_refl _, Nat.le_refl _, H0.out.2, H0.out.1, fun _ h1 h2 => ⟨h1, h2⟩⟩
    case round =>
      obtain ⟨a', b', lim, wb, wp, dk, rfl, rfl, rfl, rfl, rfl, hab', hb', hk, hkN, hlim, HB, HR, HL⟩ := hrel
      clear H0
      have hds := HR.out.size
      by_cases h12 : b' - a' ≤ 12
      · have h12z : (b' : Int) - (a' : Int) ≤ 12 := by omega
        have hc := ins_any HR.out.at cap a' b' hab' hb' hsz
        go_wp2_with (go_at_call 77; refine hc.mono ?_; rintro e w1 ⟨rfl, hw1⟩)
        (try simp only [Exit.inBlock, Exit.then]); refine bodyPost_ret (results_none rfl _ _ _) rfl ?_
        obtain ⟨q1, q2⟩ := insertionSort_holds swo_less dk a' b' hab' (by omega)
        obtain ⟨q3, q4⟩ := HL.out _ q1 q2
        exact ⟨rfl, _, q3, q4, HR.out.step hw1⟩
      · have h12z : ¬ ((b' : Int) - (a' : Int) ≤ 12) := by omega
        by_cases hl0 : lim = 0
        · subst hl0
          have hc := heap_any HR.out.at cap a' b' hab' hb' hsz
          go_wp2_with (go_at_call 78; refine hc.mono ?_; rintro e w1 ⟨rfl, hw1⟩)
          (try simp only [Exit.inBlock, Exit.then]); refine bodyPost_ret (results_none rfl _ _ _) rfl ?_
          obtain ⟨q1, q2⟩ := heapSort_holds swo_less dk a' b' hab' (by omega)
          obtain ⟨q3, q4⟩ := HL.out _ q1 q2
          exact ⟨rfl, _, q3, q4, HR.out.step hw1⟩
        · have hl0z : ¬ ((lim : Int) = 0) := by omega
          go_upto_if 35 with fail
          go_cut [3] from 19 (fun s3 wc => ∃ (lim' : Nat) (d1 : Array Int), s3 = .int .i64 lim' ∧ lim' ≤ limit ∧ Hid (PermIn a' b' dk d1) ∧ Hid (RowG w0 blk off N d1 wc))
          case first =>
            cases wb
            · have hc := brk_to HR.out cap a' b' hab' hb' hsz
              go_wp2_with (go_at_call 79; refine hc.mono ?_; rintro e w1 ⟨rfl, d1, hp1, hw1⟩)
              go_meet
              case rel => exact ⟨lim - 1, d1, by congr 1; omega, by omega, hp1, hw1⟩
            · go_wp2_with fail
              go_meet
              case rel => exact ⟨lim, dk, rfl, hlim, permIn_refl _ _ _, HR.out⟩
          case rest =>
            obtain ⟨lim', d1, rfl, hlim', HP1, HR1⟩ := hcut
            clear HR
            have hc := pivot_to HR1.out cap a' b' (by omega) hb' hsz
            go_upto_if 50 with (go_at_call 80; refine hc.mono ?_; rintro e w2 ⟨p, k, rfl, hp1, hp2, hw2⟩)
            have HR2 : Hid (RowG w0 blk off N d1 w2) := hw2
            clear hw2 HR1 hc
            go_cut [11, 12] from 19 (fun s11 s12 wc => ∃ (p : Nat) (k : Int) (d2 : Array Int), s11 = .int .i64 p ∧ s12 = .int .i64 k ∧ a' ≤ p ∧ p < b' ∧ Hid (PermIn a' b' d1 d2) ∧ Hid (RowG w0 blk off N d2 wc))
            case first =>
              by_cases hh : k = 2
              · have hc := turn_any HR2.out.at cap a' b' hab' hb' hsz
                have hp := reverseRange_holds d1 a' b' hab' (by rw [HR2.out.size]; exact hb')
                go_wp2_with (go_at_call 81; refine hc.mono ?_; rintro e w3 ⟨rfl, hw3⟩)
                go_meet
                case rel => exact ⟨(b' - 1) - (p - a'), 1, _, by congr 1; omega, rfl, by omega, by omega, hp, HR2.out.step hw3⟩
              · go_wp2_with fail
                go_meet
                case rel => exact ⟨p, k, d1, rfl, rfl, hp1, hp2, permIn_refl _ _ _, HR2.out⟩
            case rest =>
              clear hp1 hp2 p k HR2
              obtain ⟨p, k, d2, rfl, rfl, hp1, hp2, HP2, HR3⟩ := hcut
              go_upto_region 15 with fail
              go_cut [12, 68] from 19 (fun _ s68 wx => ∃ (t : Bool), s68 = .bool t ∧ wx = wc)
              case first =>
                cases wb <;> cases wp <;> by_cases hh3 : k = 1 <;>
                  (go_wp2_with fail
                   go_meet
                   exact ⟨_, rfl, rfl⟩)
              case rest =>
                obtain ⟨t, rfl, rfl⟩ := hcut
                have HQ : Hid (PermIn a' b' dk d2) := permIn_trans _ _ _ _ _ HP1.out HP2.out
                clear HP1 HP2
                have HB2 : Hid (Sort.Below less a' b' d2) := HB.out.perm (by omega) HQ.out
                clear HB
                go_upto_if 68 with fail
                go_cut [] from 19 (fun wx => ∃ d3, Hid (PermIn a' b' d2 d3) ∧ Hid (RowG w0 blk off N d3 wx))
                case first =>
                  cases t
                  · go_wp2_with fail
                    go_meet
                    case rel => exact ⟨d2, permIn_refl _ _ _, HR3.out⟩
                  · have hc := partial_any HR3.out.at cap a' b' (by omega) hb' hsz
                    obtain ⟨q1, q2⟩ := partialInsertionSort_holds swo_less d2 a' b' (by omega) (by rw [HR3.out.size]; exact hb') HB2.out
                    have Q : Hid (PermIn a' b' d2 (partialInsertionSort less d2 a' b').1 ∧ ((partialInsertionSort less d2 a' b').2 = true → SortedIn less a' b' (partialInsertionSort less d2 a' b').1)) := ⟨q1, q2⟩
                    clear q1 q2
                    generalize (partialInsertionSort less d2 a' b') = r at hc Q
                    obtain ⟨d3, done⟩ := r
                    cases done
                    · go_wp2_with (go_at_call 82; refine hc.mono ?_; rintro e w4 ⟨rfl, hw4⟩)
                      go_meet
                      exact ⟨d3, Q.out.1, HR3.out.step hw4⟩
                    · go_wp2_with (go_at_call 82; refine hc.mono ?_; rintro e w4 ⟨rfl, hw4⟩)
                      (try simp only [Exit.inBlock, Exit.then]); refine bodyPost_ret (results_none rfl _ _ _) rfl ?_
                      obtain ⟨q3, q4⟩ := HL.out d3 (permIn_trans _ _ _ _ _ HQ.out Q.out.1) (Q.out.2 (by trivial))
                      exact ⟨rfl, d3, q3, q4, HR3.out.step hw4⟩
                case rest =>
                  obtain ⟨d3, HP3, HR5⟩ := hcut
                  have HQ3 : Hid (PermIn a' b' dk d3) := permIn_trans _ _ _ _ _ HQ.out HP3.out
                  have HB3 : Hid (Sort.Below less a' b' d3) := HB2.out.perm (by rw [HR3.out.size]; exact hb') HP3.out
                  clear HQ HB2 HP3 HR3
                  have hcw := HR5.out.cells
                  have hfw := HR5.out.softs
                  have hs3 := HR5.out.size
                  go_upto_region 17 with fail
                  go_cut [87] from 19 (fun s87 wx => s87 = .bool (decide (a' > 0) && !less (gt d3 (a' - 1)) (gt d3 p)) ∧ Hid (RowG w0 blk off N d3 wx))
                  case first =>
                    rcases Nat.eq_zero_or_pos a' with ha0 | ha0
                    · have ha0z : decide ((a' : Int) > 0) = false := decide_eq_false (by omega)
                      go_big_quiet (first | (go_at_call 83; refine Calls.quiet_of_same (less_any _ _ _)))
                      go_wp2_with fail
                      go_meet
                      case rel => exact ⟨by simp [ha0], HR5.out.drewN nq⟩
                    · have ha0z : (a' : Int) > 0 := by omega
                      go_big_quiet (first | (go_at_call 83; refine Calls.quiet_of_same (less_any _ _ _)))
                      go_wp2_with fail
                      go_meet
                      case rel => exact ⟨by simp [ha0], HR5.out.drewN nq⟩
                  case rest =>
                    obtain ⟨rfl, HR6⟩ := hcut
                    clear hcw hfw HR5
                    cases h87 : (decide (a' > 0) && !less (gt d3 (a' - 1)) (gt d3 p))
                    · obtain ⟨mid, ap, d4, hx⟩ : ∃ mid ap d4, partition less d3 a' b' p = (mid, ap, d4) := ⟨_, _, _, rfl⟩
                      obtain ⟨r1, r2, r3, r4, r5, r6, r7⟩ := round_part swo_less (partition_holds less) hp1 hp2 (show b' ≤ d3.size by omega) HB3.out hx
                      have hc := part_any HR6.out.at cap a' b' p hp1 hp2 hb' hsz
                      rw [hx] at hc
                      have R4 : Hid (Sort.Below less a' mid d4) := r4
                      have R5 : Hid (Sort.Below less (mid + 1) b' d4) := r5
                      have R6 : Hid (∀ L, PermIn a' mid d4 L → SortedIn less a' mid L → Sort.Below less (mid + 1) b' L ∧ ∀ R, PermIn (mid + 1) b' L R → SortedIn less (mid + 1) b' R → PermIn a' b' d3 R ∧ SortedIn less a' b' R) := r6
                      have R7 : Hid (∀ L, PermIn (mid + 1) b' d4 L → SortedIn less (mid + 1) b' L → Sort.Below less a' mid L ∧ ∀ R, PermIn a' mid L R → SortedIn less a' mid R → PermIn a' b' d3 R ∧ SortedIn less a' b' R) := r7
                      clear r4 r5 r6 r7 hx
                      go_upto_if 113 with (go_at_call 85; refine hc.mono ?_; rintro e w7 ⟨ap7, rfl, hw7⟩)
                      have HR7 : Hid (RowG w0 blk off N d4 w7) := HR6.out.step hw7
                      clear hw7 hc HR6
                      by_cases h4 : mid - a' < b' - mid
                      · have h4z : (mid : Int) - (a' : Int) < (b' : Int) - (mid : Int) := by omega
                        have hih := IH.out a' mid lim' d4 w7 (by omega) HR7.out (by omega) (by omega) (by omega) R4.out
                        go_wp2_with (go_at_call 74; refine hih.mono ?_; rintro e w8 ⟨rfl, L, hL1, hL2, hw8⟩)
                        go_roundg (b' - (mid + 1))
                        case measure => omega
                        case rel =>
                          obtain ⟨q1, q2⟩ := R6.out L hL1 hL2
                          refine ⟨mid + 1, b', lim', _, ap7, L, by simp, rfl, rfl, rfl, rfl, by omega, hb', Nat.le_refl _, by omega, hlim', q1, hw8, fun R hR1 hR2 => ?_⟩
                          obtain ⟨q3, q4⟩ := q2 R hR1 hR2
                          exact HL.out R (permIn_trans _ _ _ _ _ HQ3.out q3) q4
                      · have h4z : ¬ ((mid : Int) - (a' : Int) < (b' : Int) - (mid : Int)) := by omega
                        have hih := IH.out (mid + 1) b' lim' d4 w7 (by omega) HR7.out (by omega) (by omega) (by omega) R5.out
                        go_wp2_with (go_at_call 74; refine hih.mono ?_; rintro e w8 ⟨rfl, L, hL1, hL2, hw8⟩)
                        go_roundg (mid - a')
                        case measure => omega
                        case rel =>
                          obtain ⟨q1, q2⟩ := R7.out L hL1 hL2
                          refine ⟨a', mid, lim', _, ap7, L, rfl, rfl, rfl, rfl, rfl, by omega, by omega, Nat.le_refl _, by omega, hlim', q1, hw8, fun R hR1 hR2 => ?_⟩
                          obtain ⟨q3, q4⟩ := q2 R hR1 hR2
                          exact HL.out R (permIn_trans _ _ _ _ _ HQ3.out q3) q4
                    · have h87' := h87
                      simp only [Bool.and_eq_true, decide_eq_true_eq, Bool.not_eq_true'] at h87'
                      obtain ⟨mid, d4, hx⟩ : ∃ mid d4, partitionEqual less d3 a' b' p = (mid, d4) := ⟨_, _, rfl⟩
                      obtain ⟨r1, r2, r3, r4, r5⟩ := round_eq swo_less (partitionEqual_holds less) h87'.1 hp1 hp2 (show b' ≤ d3.size by omega) HB3.out h87'.2 hx
                      have hc := partEq_any HR6.out.at cap a' b' p hp1 hp2 hb' hsz
                      rw [hx] at hc
                      have R4 : Hid (Sort.Below less mid b' d4) := r4
                      have R5 : Hid (∀ R, PermIn mid b' d4 R → SortedIn less mid b' R → PermIn a' b' d3 R ∧ SortedIn less a' b' R) := r5
                      clear r4 r5 hx
                      go_wp2_with (go_at_call 84; refine hc.mono ?_; rintro e w7 ⟨rfl, hw7⟩)
                      go_roundg (b' - mid)
                      case measure => omega
                      case rel =>
                        refine ⟨mid, b', lim', wb, wp, d4, rfl, rfl, rfl, rfl, rfl, r2, hb', Nat.le_refl _, by omega, hlim', R4.out, HR6.out.step hw7, fun R hR1 hR2 => ?_⟩
                        obtain ⟨q3, q4⟩ := R5.out R hR1 hR2
                        exact HL.out R (permIn_trans _ _ _ _ _ HQ3.out q3) q4
end Go.Proofs.Ytlnplompnabmlaa

/-
  LAYER 9 (trie): slices.Sort at runes.
-/
namespace Go.Proofs.Ytlnplompnabmlaa
set_option maxRecDepth 100000
open Go.RowKit Go.Sort

theorem bit_le' (n : Nat) (h : n < 4611686018427387904) : Lib.bitLen n ≤ 62 := bit_le 62 n (by omega) (by omega)
/-- Runes in order. -/
def inOrder (l : List Int) : List Int := l.mergeSort fun x y => !less y x
theorem less_anti (x y : Int) (h1 : less x y = false) (h2 : less y x = false) : x = y := by
  simp only [less, decide_eq_false_iff_not] at h1 h2
  omega

theorem sort_any {w0 w : World} {blk off : Nat} {l : List Int} (h : RowG w0 blk off l.length l.toArray w) (cap : Nat) (hsz : l.length < 4611686018427387904) :
    Calls Try.prog 69 #[.slice (some ⟨blk, off, none⟩) l.length cap] w fun e w' => e = .returned (.tuple #[]) ∧ RowG w0 blk off l.length (inOrder l).toArray w' := by
  have hLen := fun w => Try.bits_Len (l.length : Int) w (by omega) (by omega)
  simp only [Int.toNat_natCast] at hLen
  have hk := bit_le' l.length hsz
  have hp := pdq_any w0 blk off cap l.length hsz (l.length + 1) 0 l.length (Lib.bitLen l.length) l.toArray w (by omega) h (by omega) (Nat.le_refl _) (by omega) (Or.inl rfl)
  clear h
  generalize hN : Lib.bitLen l.length = k at *
  go_enter Try.func69, Try.ntmps69
  go_wp2_with (first | (go_at_call 75; refine (hLen _).mono ?_; rintro e w' ⟨rfl, rfl⟩) | (go_at_call 74; refine hp.mono ?_; rintro e w1 ⟨rfl, dk, hp1, hp2, hw1⟩))
  go_end0
  refine ⟨rfl, ?_⟩
  have e := sorted_unique_holds swo_less less_anti l.toArray dk (by simpa using hp1) (by simpa using hp2)
  have e2 : dk = (inOrder l).toArray := by
    apply Array.ext'
    rw [e]
    rfl
  rw [← e2]
  exact hw1

theorem ins_none (p : Option Addr) (cap : Nat) (w : World) : Calls Try.prog 77 #[.slice p 0 cap, .int .i64 0, .int .i64 0] w fun e w' => e = .returned (.tuple #[]) ∧ w' = w := by
  go_enter Try.func77, Try.ntmps77
  go_wp2
  go_loopw [6] (fun vi wr => vi = .int .i64 1 ∧ wr = w) (fun _ _ => 0)
  case atStart => exact ⟨rfl, rfl⟩
  case round =>
    obtain ⟨rfl, rfl⟩ := hrel
    go_wp2
    go_end0
    exact ⟨rfl, rfl⟩
theorem pdq_none (p : Option Addr) (cap : Nat) (w : World) : Calls Try.prog 74 #[.slice p 0 cap, .int .i64 0, .int .i64 0, .int .i64 0] w fun e w' => e = .returned (.tuple #[]) ∧ w' = w := by
  go_enter Try.func74, Try.ntmps74
  go_wp2
  go_loopw [1, 2] (fun vi vj wr => vi = .int .i64 0 ∧ vj = .int .i64 0 ∧ wr = w) (fun _ _ _ => 0)
  case atStart => exact ⟨rfl, rfl, rfl⟩
  case round =>
    obtain ⟨rfl, rfl, rfl⟩ := hrel
    go_wp2_with (go_at_call 77; refine (ins_none _ _ _).mono ?_; rintro e w1 ⟨rfl, rfl⟩)
    (try simp only [Exit.inBlock, Exit.then]); refine bodyPost_ret (results_none rfl _ _ _) rfl ?_
    exact ⟨rfl, rfl⟩
theorem sort_none (p : Option Addr) (cap : Nat) (w : World) : Calls Try.prog 69 #[.slice p 0 cap] w fun e w' => e = .returned (.tuple #[]) ∧ w' = w := by
  have hLen : ∀ w, Calls Try.prog 75 #[.int .u64 0] w fun e w' => e = .returned (.int .i64 0) ∧ w' = w := fun w => Try.bits_Len 0 w (by omega) (by omega)
  go_enter Try.func69, Try.ntmps69
  go_wp2_with (first | (go_at_call 75; refine (hLen _).mono ?_; rintro e w' ⟨rfl, rfl⟩) | (go_at_call 74; refine (pdq_none _ _ _).mono ?_; rintro e w1 ⟨rfl, rfl⟩))
  go_end0
  exact ⟨rfl, rfl⟩
end Go.Proofs.Ytlnplompnabmlaa

/-
  LAYER 9 (trie): the keys of a node's kids in order.
-/
namespace Go.Proofs.Ytlnplompnabmlaa
set_option maxRecDepth 100000
open Go.RowKit Go.Sort

/-- A node's kids: the map that a pointer to it leads to. -/
def KidsM (w : World) (mo : Option Nat) (l : List (Int × Value)) : Prop := (mo = none ∧ l = []) ∨ ∃ b, mo = some b ∧ Ents w b l
theorem KidsM.heap {w w' : World} {mo : Option Nat} {l : List (Int × Value)} (h : KidsM w mo l) (hb : ∀ b, mo = some b → w'.heap[b]? = w.heap[b]?) : KidsM w' mo l := by
  rcases h with h | ⟨b, rfl, h⟩
  · exact .inl h
  · exact .inr ⟨b, rfl, h.heap (hb b rfl)⟩
theorem KidsM.lt {w : World} {mo : Option Nat} {l : List (Int × Value)} (h : KidsM w mo l) : ∀ b, mo = some b → b < w.heap.size := by
  rcases h with ⟨rfl, _⟩ | ⟨b, rfl, h⟩
  · intro b e; cases e
  · intro b' e; cases e; exact h.lt

theorem keys_any (mo : Option Nat) (w : World) : Calls Try.prog 61 #[.map mo] w fun e w' => e = .returned (.func (.func 70) #[] #[.pointer (some ⟨w.heap.size, 0, none⟩)]) ∧
    Box w' w.heap.size 78 (.map mo) ∧ w.grownBy w' none := by
  have hmf : ∀ (fn : Fn) (first cap : Array Value) (w : World), (Instr.makeFunc fn first cap).run Try.prog w = .ok (.func fn first cap) w := fun _ _ _ _ => rfl
  go_enter Try.func61, Try.ntmps61
  go_wp2
  go_ret
  exact ⟨rfl, World.alloc_heap_new w _, World.grownBy_alloc w _ none⟩

theorem appended_any (mb : Nat) (mo : Option Nat) (l : List (Int × Value)) (w : World) (hbox : Box w mb 78 (.map mo)) (hK : KidsM w mo l) (hlim : l.length ≤ 1048576) :
    Calls Try.prog 73 #[.slice none 0 0, .func (.func 70) #[] #[.pointer (some ⟨mb, 0, none⟩)]] w fun e w' =>
      ∃ (v : Value) (xs : List Int), e = .returned v ∧ xs.Perm (l.map (·.1)) ∧ w'.ownsRow w.heap.size 21 1 v xs.length (xs.map i32) ∧ w.grownBy w' none := by
  have eg := enters_of Try.func70 (by kernel_rfl) rfl
  rcases hK with ⟨rfl, rfl⟩ | ⟨b, rfl, hE⟩
  · exact callsIn_wide.1 (append_any _ _ eg [] _ w (fun W0 g => keys1_nil 4 mb W0 (hbox.new g)) (fun k h => by subst h; exact hbox.lt) (by simp))
  · exact callsIn_wide.1 (append_any _ _ eg l _ w (fun W0 g => keys1_tells 4 mb b l W0 (hbox.new g) (hE.heap (g.block b hE.lt (by simp)))) (fun k h => by rcases h with rfl | rfl; exact hbox.lt; exact hE.lt) hlim)

theorem collect_any (mb : Nat) (mo : Option Nat) (l : List (Int × Value)) (w : World) (hbox : Box w mb 78 (.map mo)) (hK : KidsM w mo l) (hlim : l.length ≤ 1048576) :
    Calls Try.prog 68 #[.func (.func 70) #[] #[.pointer (some ⟨mb, 0, none⟩)]] w fun e w' =>
      ∃ (v : Value) (xs : List Int), e = .returned v ∧ xs.Perm (l.map (·.1)) ∧ w'.ownsRow w.heap.size 21 1 v xs.length (xs.map i32) ∧ w.grownBy w' none := by
  have hA := appended_any mb mo l w hbox hK hlim
  clear hbox hK
  go_enter Try.func68, Try.ntmps68
  go_wp2_with (go_at_call 73; refine hA.mono ?_; rintro e w1 ⟨v, xs, rfl, hp, ho, hg⟩)
  go_ret
  exact ⟨_, xs, rfl, hp, ho, hg⟩

theorem inOrder_perm {xs ys : List Int} (h : xs.Perm ys) : inOrder xs = inOrder ys := by
  have tr : ∀ a b c : Int, (!less b a) = true → (!less c b) = true → (!less c a) = true := fun a b c h1 h2 => by simp [less] at *; omega
  have tl : ∀ a b : Int, ((!less b a) || (!less a b)) = true := fun a b => by simp [less]; omega
  exact List.Perm.eq_of_pairwise (le := fun x y => (!less y x) = true) (fun a b _ _ h1 h2 => by simp [less] at h1 h2; omega) (List.pairwise_mergeSort tr tl xs) (List.pairwise_mergeSort tr tl ys)
    (((List.mergeSort_perm xs _).trans h).trans (List.mergeSort_perm ys _).symm)

theorem sorted_any (mb : Nat) (mo : Option Nat) (l : List (Int × Value)) (w : World) (hbox : Box w mb 78 (.map mo)) (hK : KidsM w mo l) (hlim : l.length ≤ 1048576) :
    Calls Try.prog 60 #[.func (.func 70) #[] #[.pointer (some ⟨mb, 0, none⟩)]] w fun e w' =>
      ∃ v, e = .returned v ∧ SR (fun k => w.heap.size ≤ k) 1 w' v l.length ((inOrder (l.map (·.1))).map i32) ∧ w.grownBy w' none := by
  have hA := collect_any mb mo l w hbox hK hlim
  clear hbox hK
  go_enter Try.func60, Try.ntmps60
  go_upto_region 2 with (go_at_call 68; refine hA.mono ?_; rintro e w1 ⟨v, xs, rfl, hp, ho, hg⟩)
  have HL : Hid (xs.length = l.length ∧ inOrder xs = inOrder (l.map (·.1)) ∧ (inOrder xs).length = xs.length ∧ xs.length ≤ 1048576) :=
    ⟨by rw [hp.length_eq]; simp, inOrder_perm hp, (List.mergeSort_perm xs _).length_eq, by rw [hp.length_eq]; simpa using hlim⟩
  clear hp
  rcases ho with ⟨hq, ⟨rfl, hn⟩ | ⟨g, cap, cur, rfl, hge, hgb, r1, r2, r3, r4⟩⟩
  · go_wp2_with (go_at_call 69; refine (sort_none _ _ _).mono ?_; rintro e w2 ⟨rfl, rfl⟩)
    go_ret
    obtain ⟨hlen, hio, hil, _⟩ := HL.out
    refine ⟨.slice none 0 0, rfl, ⟨by rw [← hio]; simp; omega, none, 0, by rw [← hlen, hn], by omega, by unfold maxLen; omega, fun _ => rfl, fun hne => by omega⟩, hg⟩
  · have hgl : g < w1.heap.size := (Array.getElem?_eq_some_iff.1 hgb).1
    have hH : Holds (Value.int .i32) w1 g 0 xs.toArray := by
      intro j hj
      have hj' : j < xs.length := by simpa using hj
      refine ⟨?_, by simp [World.frozen?, hgb]⟩
      have h1 : (cur.toList.take (xs.length * 1))[j]? = (xs.map i32)[j]? := by rw [r4]
      rw [List.getElem?_take_of_lt (by omega)] at h1
      simp only [World.cell?, hgb, Nat.zero_add]
      simp only [Option.isSome_none, Bool.false_eq_true, if_false]
      rw [← Array.getElem?_toList, h1]
      simp [hj', i32]
    have hR : RowG w1 g 0 xs.length xs.toArray w1 := ⟨by simp, hH, hgl, World.grownBy.refl w1 _⟩
    have hS := sort_any hR cap (by have := HL.out.2.2.2; omega)
    have HB : Hid (w.heap.size ≤ g ∧ xs.length ≤ cap ∧ cap ≤ maxLen) := ⟨hge, r1, r2⟩
    clear hA hR hH hq hge r1 r2 r3 r4 hgb hgl hlim
    go_wp2_with (go_at_call 69; refine hS.mono ?_; rintro e w2 ⟨rfl, hR2⟩)
    go_ret
    obtain ⟨hlen, hio, hil, _⟩ := HL.out
    obtain ⟨hge, r1, r2⟩ := HB.out
    refine ⟨.slice (some ⟨g, 0, none⟩) xs.length cap, rfl, ⟨by rw [← hio]; simp; omega, some ⟨g, 0, none⟩, cap, by rw [hlen], by omega, r2, (fun h => by cases h), fun hne => ⟨g, 0, rfl, hge, hR2.lt, fun i u hu => ?_⟩⟩, gnew hg hR2.grown (by rintro r ⟨⟩; exact .inl hge)⟩
    rw [← hio] at hu
    have hi : i < xs.length := by
      have := (List.getElem?_eq_some_iff.1 hu).1
      simp at this
      omega
    have hc := hR2.cells i hi
    rw [hc]
    rw [← hu]
    simp [gt, i32, hil, hi]
end Go.Proofs.Ytlnplompnabmlaa

/-
  LAYER 9 (trie): Under of a trie that nobody made; a trie's blocks all lie where they lie.
-/
namespace Go.Proofs.Ytlnplompnabmlaa
set_option maxRecDepth 100000
open Go.RowKit Go.Lib
attribute [local go_sem] Oper.semAt_some

theorem from_any (pt pn : Option Addr) (w : World) : Calls Try.prog 39 #[.pointer pt, .pointer pn] w fun e w' => e = .returned (.func (.func 49) #[] #[.pointer (some ⟨w.heap.size + 1, 0, none⟩), .pointer (some ⟨w.heap.size, 0, none⟩)]) ∧
    Box w' (w.heap.size + 1) 55 (.pointer pn) ∧ Box w' w.heap.size 25 (.pointer pt) ∧ w.grownBy w' none ∧ w'.heap.size = w.heap.size + 2 := by
  have g1 := World.grownBy_alloc w (.cells #[.pointer pt] 25) none
  have e1 : Box (w.alloc (.cells #[.pointer pt] 25)) w.heap.size 25 (.pointer pt) := World.alloc_heap_new w _
  have s1 : (w.alloc (.cells #[.pointer pt] 25)).heap.size = w.heap.size + 1 := by simp
  have g2 := World.grownBy_alloc (w.alloc (.cells #[.pointer pt] 25)) (.cells #[.pointer pn] 55) none
  have e2 : Box ((w.alloc (.cells #[.pointer pt] 25)).alloc (.cells #[.pointer pn] 55)) (w.heap.size + 1) 55 (.pointer pn) := by rw [← s1]; exact World.alloc_heap_new _ _
  have e3 := e1.new g2
  go_enter Try.func39, Try.ntmps39
  go_wp2
  go_ret
  exact ⟨rfl, e2, e3, g1.trans g2, by simp⟩

theorem under_nobody (po : Option Addr) (v : Value) (w : World) (h : NonePtr w po) (hv : ∃ a n c, v = .slice a n c) :
    Calls Try.prog 21 #[.pointer po, v] w fun e w' => ∃ eb q3 q2, e = .returned (.func (.func 40) #[] #[.pointer (some ⟨eb, 0, none⟩)]) ∧
      Box w' eb 46 (.func (.func 49) #[] #[.pointer (some ⟨q3, 0, none⟩), .pointer (some ⟨q2, 0, none⟩)]) ∧ Box w' q3 55 (.pointer none) ∧ w.grownBy w' none := by
  have hF := find_nobody po v w h hv
  obtain ⟨a, n, c, rfl⟩ := hv
  clear h
  go_enter Try.func21, Try.ntmps21
  go_wp2_with first
    | (go_at_call 32; refine hF.mono ?_; clear hF; rintro e w1 ⟨rfl, g1⟩)
    | (go_at_call 39; refine (from_any _ _ _).mono ?_; rintro e w2 ⟨rfl, e3, e2, g2, s2⟩; clear s2)
  have g3 := World.grownBy_alloc w2 (.cells #[.func (.func 49) #[] #[.pointer (some ⟨w1.heap.size + 1, 0, none⟩), .pointer (some ⟨w1.heap.size, 0, none⟩)]] 46) none
  have e4 : Box (w2.alloc (.cells #[.func (.func 49) #[] #[.pointer (some ⟨w1.heap.size + 1, 0, none⟩), .pointer (some ⟨w1.heap.size, 0, none⟩)]] 46)) w2.heap.size 46 _ := World.alloc_heap_new w2 _
  go_ret
  exact ⟨_, _, _, rfl, e4, e3.new g3, (g1.trans g2).trans g3⟩

theorem SO.low {P : Nat → Prop} {e : TypeId} {k n : Nat} {w : World} {v : Value} {cs : List Value} (h : SO P e k w v n cs) : SO (fun b => b < w.heap.size) e k w v n cs := by
  obtain ⟨h0, a, c, h1, h2, h3, h4, h5⟩ := h
  exact ⟨h0, a, c, h1, h2, h3, h4, fun hn => by obtain ⟨b, cur, q1, q2, q3⟩ := h5 hn; exact ⟨b, cur, q1, lt_of_block q3.1, q3⟩⟩
theorem TrieAt.low {Q : Nat → Prop} {w : World} {t : Nat} {L : List Ent} {n : Int} {rt : Nat} {ve : Value} {nd mp : List Int → Option Nat} (h : TrieAt Q w t L n rt ve nd mp) : TrieAt (fun k => k < w.heap.size) w t L n rt ve nd mp :=
  { tr := h.tr
    tq := h.tr.lt
    root := h.root
    tree := { h.tree with
      node := fun p b e => ⟨h.tree.lt ⟨p, .inl e⟩, (h.tree.node p b e).2⟩
      kids := fun p m e => ⟨h.tree.lt ⟨p, .inr e⟩, (h.tree.kids p m e).2⟩ }
    dom := h.dom
    ents := by
      obtain ⟨vs, h1, h2, h3, h4⟩ := h.ents
      exact ⟨vs, h1, h2, fun k e => by obtain ⟨cur, hc⟩ := own_cells h2 e; exact lt_of_block hc, fun i x p q1 q2 => ⟨(h4 i x p q1 q2).1.low, (h4 i x p q1 q2).2.low⟩⟩ }
end Go.Proofs.Ytlnplompnabmlaa
