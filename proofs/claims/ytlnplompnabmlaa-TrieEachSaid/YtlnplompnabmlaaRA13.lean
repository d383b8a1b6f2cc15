/-
  DERIVED: THE SHELF's CONTRACTS AT THIS DUMP, IN PLAIN WORDS (tools/lay-plain.mjs out of 'TryShelf.lean', which tools/lay-shelf.mjs wrote): THE SAME DECLARATIONS UNDER THE SAME NAMES: 'import', 'namespace', 'open', 'def', 'theorem' AND NOTHING ELSE: no command of the shelf's: FOR A HAND-IN. Each laying: the table of numbers ('.._ren') and one theorem, a field a fact of the dump's own or the kernel's comparison; each contract: ONE APPLICATION.
-/
import Derived.Shelf.Small.Bits
import Derived.Shelf.Strconv.Itoa0
import Derived.Test.YtlnplompnabmlaaProg
import Derived.Test.YtlnplompnabmlaaRA11
import Derived.Test.YtlnplompnabmlaaRA12
import Derived.Laws.Bits64
import Derived.Laws.Bits64b
import Derived.Sort.LotD5
namespace Go.Proofs
open Go.Shelf
def Try.lays128_ren : Go.Shelf.Ren := ⟨fun | 128 => 86 | n => n, fun | 51 => 121 | 3 => 3 | 4 => 4 | 46 => 110 | 5 => 5 | 9 => 9 | n => n, fun | n => n⟩
theorem Try.lays128 : Go.Proofs.Lays.n128 Try.prog Try.lays128_ren := {
  mixed := by kernel_rfl
  f128 := Try.func86.trans (congrArg some (by kernel_rfl))
  t3 := Try.underlying3
  a3 := Try.isAgg3
  z3 := Try.sizeOf3
  v3 := Try.zeroValue3
  t4 := Try.underlying4
  a4 := Try.isAgg4
  z4 := Try.sizeOf4
  v4 := Try.zeroValue4
  t5 := Try.underlying5
  a5 := Try.isAgg5
  z5 := Try.sizeOf5
  v5 := Try.zeroValue5
  t9 := Try.underlying9
  a9 := Try.isAgg9
  z9 := Try.sizeOf9
  v9 := Try.zeroValue9
  t46 := Try.underlying110
  a46 := Try.isAgg110
  z46 := Try.sizeOf110
  v46 := Try.zeroValue110
  t51 := Try.underlying121
  a51 := Try.isAgg121
  z51 := Try.sizeOf121
  v51 := Try.zeroValue121 }
/-- bits.Len32: "Len32 returns the minimum number of bits required to represent x; the result is 0 for x == 0.": IT RETURNS 'Lib.bitLen x'; the world is as it was. ('h0', 'h1': x is a uint32.) (LAID: no walk: one application.) -/
theorem Try.bits_Len32 (x : Int) (w : World) (h0 : 0 ≤ x) (h1 : x ≤ 4294967295) :
    Calls Try.prog 86 #[.int .u32 x] w fun e w' => e = .returned (.int .i64 (Lib.bitLen x.toNat)) ∧ w' = w := Any.bits_Len32 Try.lays128 x w h0 h1
def Try.lays125_ren : Go.Shelf.Ren := ⟨fun | 125 => 75 | 128 => 86 | 129 => 87 | n => n, fun | 46 => 110 | 3 => 3 | 51 => 121 | 53 => 123 | 4 => 4 | 5 => 5 | 9 => 9 | n => n, fun | n => n⟩
theorem Try.lays125 : Go.Proofs.Lays.n125 Try.prog Try.lays125_ren := {
  mixed := by kernel_rfl
  f125 := Try.func75.trans (congrArg some (by kernel_rfl))
  f128 := Try.func86.trans (congrArg some (by kernel_rfl))
  f129 := Try.func87.trans (congrArg some (by kernel_rfl))
  t3 := Try.underlying3
  a3 := Try.isAgg3
  z3 := Try.sizeOf3
  v3 := Try.zeroValue3
  t4 := Try.underlying4
  a4 := Try.isAgg4
  z4 := Try.sizeOf4
  v4 := Try.zeroValue4
  t5 := Try.underlying5
  a5 := Try.isAgg5
  z5 := Try.sizeOf5
  v5 := Try.zeroValue5
  t9 := Try.underlying9
  a9 := Try.isAgg9
  z9 := Try.sizeOf9
  v9 := Try.zeroValue9
  t46 := Try.underlying110
  a46 := Try.isAgg110
  z46 := Try.sizeOf110
  v46 := Try.zeroValue110
  t51 := Try.underlying121
  a51 := Try.isAgg121
  z51 := Try.sizeOf121
  v51 := Try.zeroValue121
  t53 := Try.underlying123
  a53 := Try.isAgg123
  z53 := Try.sizeOf123
  v53 := Try.zeroValue123 }
/-- bits.Len: "Len returns the minimum number of bits required to represent x; the result is 0 for x == 0.": IT RETURNS 'Lib.bitLen x'; the world is as it was. (A uint has 64 bits in the model.) ITS CALLEE bits.Len64 IS MET BY ITS OWN CONTRACT OFF THE SHELF (lay that first). (LAID: no walk: one application.) -/
theorem Try.bits_Len (x : Int) (w : World) (h0 : 0 ≤ x) (h1 : x ≤ 18446744073709551615) :
    Calls Try.prog 75 #[.int .u64 x] w fun e w' => e = .returned (.int .i64 (Lib.bitLen x.toNat)) ∧ w' = w := Any.bits_Len Try.lays125 x w h0 h1
def Try.lays129_ren : Go.Shelf.Ren := ⟨fun | 129 => 87 | n => n, fun | 53 => 123 | 3 => 3 | 4 => 4 | 46 => 110 | 5 => 5 | 9 => 9 | n => n, fun | n => n⟩
theorem Try.lays129 : Go.Proofs.Lays.n129 Try.prog Try.lays129_ren := {
  mixed := by kernel_rfl
  f129 := Try.func87.trans (congrArg some (by kernel_rfl))
  t3 := Try.underlying3
  a3 := Try.isAgg3
  z3 := Try.sizeOf3
  v3 := Try.zeroValue3
  t4 := Try.underlying4
  a4 := Try.isAgg4
  z4 := Try.sizeOf4
  v4 := Try.zeroValue4
  t5 := Try.underlying5
  a5 := Try.isAgg5
  z5 := Try.sizeOf5
  v5 := Try.zeroValue5
  t9 := Try.underlying9
  a9 := Try.isAgg9
  z9 := Try.sizeOf9
  v9 := Try.zeroValue9
  t46 := Try.underlying110
  a46 := Try.isAgg110
  z46 := Try.sizeOf110
  v46 := Try.zeroValue110
  t53 := Try.underlying123
  a53 := Try.isAgg123
  z53 := Try.sizeOf123
  v53 := Try.zeroValue123 }
/-- bits.Len64: "Len64 returns the minimum number of bits required to represent x; the result is 0 for x == 0.": IT RETURNS 'Lib.bitLen x'; the world is as it was. ('h0', 'h1': x is a uint64.) (LAID: no walk: one application.) -/
theorem Try.bits_Len64 (x : Int) (w : World) (h0 : 0 ≤ x) (h1 : x ≤ 18446744073709551615) :
    Calls Try.prog 87 #[.int .u64 x] w fun e w' => e = .returned (.int .i64 (Lib.bitLen x.toNat)) ∧ w' = w := Any.bits_Len64 Try.lays129 x w h0 h1
end Go.Proofs

/-
  LAYER 9 (trie): slices.Sort at runes: a row in a world that grows; the generator; patterns broken.
-/
namespace Go.Proofs.Ytlnplompnabmlaa
set_option maxRecDepth 100000
open Go.RowKit Go.Sort

/-- A row of runes in a world that grew out of w0. -/
structure RowG (w0 : World) (blk off N : Nat) (d : Array Int) (w : World) : Prop where
  size : d.size = N
  holds : Holds (Value.int .i32) w blk off d
  lt : blk < w.heap.size
  grown : w0.grownBy w (some blk)
section
variable {w0 w w' : World} {blk off N : Nat} {d d' : Array Int}
theorem RowG.at (h : RowG w0 blk off N d w) : RowAt w blk off N d w := ⟨h.size, d, 0, h.size, h.holds, (putRow_self _ w blk off d h.holds).symm⟩
theorem RowG.step (h : RowG w0 blk off N d w) (k : RowAt w blk off N d' w') : RowG w0 blk off N d' w' := by
  obtain ⟨d0, n, h1, h2, rfl⟩ := k.world
  have hg : w.grownBy (putRow (Value.int .i32) (Sort.ahead w n) blk off d') (some blk) := by
    refine ⟨rfl, rfl, rfl, by simp [putRow, mapBlock, Sort.ahead], fun k hk hne => ?_⟩
    have : blk ≠ k := fun e => hne (by rw [e])
    simp [putRow, mapBlock, Sort.ahead, Array.getElem?_modify, this]
  exact ⟨k.size, holds_putRow _ (Sort.ahead w n) blk off d0 d' (holds_ahead _ _ n _ _ _ h2) (k.size.trans h1.symm), Nat.lt_of_lt_of_le h.lt hg.size, h.grown.trans hg⟩
theorem RowG.cells (h : RowG w0 blk off N d w) : ∀ t, t < N → w.cell? ⟨blk, off + t, none⟩ = some (.int .i32 (gt d t)) := h.at.cells
theorem RowG.softs (h : RowG w0 blk off N d w) : ∀ t, t < N → w.frozen? ⟨blk, off + t, none⟩ = false := h.at.softs
theorem RowG.new (h : RowG w0 blk off N d w) (hg : w.grownBy w' none) : RowG w0 blk off N d w' := by
  have hb := hg.block blk h.lt (by simp)
  refine ⟨h.size, fun j hj => ?_, Nat.lt_of_lt_of_le h.lt hg.size, gnew h.grown hg (by simp)⟩
  obtain ⟨h1, h2⟩ := h.holds j hj
  exact ⟨(World.cell?_of_block (a := ⟨blk, off + j, none⟩) hb).trans h1, by
    unfold World.frozen? at h2 ⊢
    rw [hb]; exact h2⟩
theorem RowG.drewN (h : RowG w0 blk off N d w) (q : Nat) : RowG w0 blk off N d (w.drewN q) := h.step (h.at.drewN q)
/-- A block that is new since w0 is turned. -/
theorem RowG.other (h : RowG w0 blk off N d w) {q : Nat} (hg : w.grownBy w' (some q)) (hq : w0.heap.size ≤ q) (hne : q ≠ blk) : RowG w0 blk off N d w' := by
  have hb := hg.block blk h.lt (fun e => hne (Option.some.inj e).symm)
  refine ⟨h.size, fun j hj => ?_, Nat.lt_of_lt_of_le h.lt hg.size, gnew h.grown hg (by rintro r ⟨⟩; exact .inl hq)⟩
  obtain ⟨h1, h2⟩ := h.holds j hj
  exact ⟨(World.cell?_of_block (a := ⟨blk, off + j, none⟩) hb).trans h1, by
    unfold World.frozen? at h2 ⊢
    rw [hb]; exact h2⟩
theorem RowG.swp (h : RowG w0 blk off N d w) {i j : Nat} (hi : i < N) (hj : j < N) : RowG w0 blk off N (Sort.swp d i j) ((w.setCell ⟨blk, off + i, none⟩ (.int .i32 (gt d j))).setCell ⟨blk, off + j, none⟩ (.int .i32 (gt d i))) := h.step (h.at.swp hi hj)
/-- A new base. -/
theorem RowG.base {w1 : World} (h : RowG w1 blk off N d w) (hb : w0.grownBy w1 none) : RowG w0 blk off N d w := ⟨h.size, h.holds, h.lt, gnew (gbut' hb) h.grown (by rintro r ⟨⟩; exact .inr rfl)⟩
end

theorem set_set (w : World) (blk off : Nat) (v v' : Value) : (w.setCell ⟨blk, off, none⟩ v).setCell ⟨blk, off, none⟩ v' = w.setCell ⟨blk, off, none⟩ v' := by
  rw [setCell_eq, setCell_eq, mapBlock_mapBlock, setCell_eq]
  congr 1
  funext c
  simp

/-- The generator: some number of 64 bits, which its cell then holds. -/
theorem next_any (q X : Nat) (hX : X < 18446744073709551616) (w : World) (hc : w.cell? ⟨q, 0, none⟩ = some (.int .u64 X)) (hf : w.frozen? ⟨q, 0, none⟩ = false) :
    Calls Try.prog 90 #[.pointer (some ⟨q, 0, none⟩)] w fun e w' => ∃ R : Nat, R < 18446744073709551616 ∧ e = .returned (.int .u64 R) ∧ w' = (w.setCell ⟨q, 0, none⟩ (.int .u64 R)).drewN 3 := by
  obtain ⟨A, hA⟩ : ∃ A : Nat, A = X ^^^ (X * 8192 % 18446744073709551616) := ⟨_, rfl⟩
  obtain ⟨B, hB⟩ : ∃ B : Nat, B = A ^^^ (A / 128) := ⟨_, rfl⟩
  obtain ⟨C, hC⟩ : ∃ C : Nat, C = B ^^^ (B * 131072 % 18446744073709551616) := ⟨_, rfl⟩
  have lA : A < 18446744073709551616 := by rw [hA]; exact Nat.xor_lt_two_pow (n := 64) (by omega) (by omega)
  have lB : B < 18446744073709551616 := by rw [hB]; exact Nat.xor_lt_two_pow (n := 64) (by omega) (by omega)
  have lC : C < 18446744073709551616 := by rw [hC]; exact Nat.xor_lt_two_pow (n := 64) (by omega) (by omega)
  have e1 : bits .xor .u64 (X : Int) (IntKind.u64.wrap ((X : Int) * 8192)) = (A : Int) := by
    rw [IntKind.wrap_u64, show ((X : Int) * 8192 % 18446744073709551616) = ((X * 8192 % 18446744073709551616 : Nat) : Int) by omega, bits_xor_u64_nat _ _ hX (by omega), hA]
  have e2 : bits .xor .u64 (A : Int) ((A : Int) / 128) = (B : Int) := by
    rw [show ((A : Int) / 128) = ((A / 128 : Nat) : Int) by omega, bits_xor_u64_nat _ _ lA (by omega), hB]
  have e3 : bits .xor .u64 (B : Int) (IntKind.u64.wrap ((B : Int) * 131072)) = (C : Int) := by
    rw [IntKind.wrap_u64, show ((B : Int) * 131072 % 18446744073709551616) = ((B * 131072 % 18446744073709551616 : Nat) : Int) by omega, bits_xor_u64_nat _ _ lB (by omega), hC]
  clear hA hB hC
  have hss : ∀ v v', (w.setCell ⟨q, 0, none⟩ v).setCell ⟨q, 0, none⟩ v' = w.setCell ⟨q, 0, none⟩ v' := set_set w q 0
  go_enter Try.func90, Try.ntmps90
  go_wp2
  go_region
  all_goals go_wp2
  all_goals go_region
  all_goals go_wp2
  all_goals go_region
  all_goals go_wp2
  go_ret
  exact ⟨C, lC, rfl, rfl⟩

theorem bit_pow : ∀ x : Nat, x ≠ 0 → x < 2 ^ 64 → 2 ^ Lib.bitLen x ≤ 2 * x := by
  intro x
  induction x using Nat.strongRecOn with
  | _ x ih =>
    intro h0 h
    rw [Lib.bitLen_half x h0 h]
    by_cases h1 : x / 2 = 0
    · rw [h1, show Lib.bitLen 0 = 0 from rfl]
      omega
    · have := ih (x / 2) (by omega) h1 (by omega)
      rw [Nat.pow_add]
      omega
theorem bit_le : ∀ (k x : Nat), k ≤ 64 → x < 2 ^ k → Lib.bitLen x ≤ k := by
  intro k
  induction k with
  | zero => intro x _ h; obtain rfl : x = 0 := by omega
            exact Nat.le_of_eq rfl
  | succ k ih =>
    intro x hk h
    by_cases h0 : x = 0
    · subst h0; exact Nat.zero_le _
    · rw [Lib.bitLen_half x h0 (Nat.lt_of_lt_of_le h (Nat.pow_le_pow_right (by decide) hk))]
      have := ih (x / 2) (by omega) (by rw [Nat.pow_succ] at h; omega)
      omega
/-- A power of two that is not more than twice the length. -/
theorem power_any (n : Nat) (h0 : n ≠ 0) (hn : n < 4611686018427387904) (w : World) :
    Calls Try.prog 89 #[.int .i64 n] w fun e w' => ∃ M : Nat, 1 ≤ M ∧ M ≤ 2 * n ∧ e = .returned (.int .u64 M) ∧ w' = w := by
  have hLen := fun w => Try.bits_Len (n : Int) w (by omega) (by omega)
  have hp := bit_pow n h0 (by omega)
  have hk : Lib.bitLen n ≤ 62 := bit_le 62 n (by omega) (by omega)
  have h1 : 1 ≤ 2 ^ Lib.bitLen n := Nat.one_le_two_pow
  have hw : IntKind.u64.wrap ((2 : Int) ^ Lib.bitLen n) = ((2 ^ Lib.bitLen n : Nat) : Int) := by
    rw [IntKind.wrap_u64, show ((2 : Int) ^ Lib.bitLen n) = ((2 ^ Lib.bitLen n : Nat) : Int) by push_cast; rfl]
    generalize (2 : Nat) ^ Lib.bitLen n = p at hp
    omega
  simp only [Int.toNat_natCast] at hLen
  generalize hM : (2 : Nat) ^ Lib.bitLen n = M at hp h1 hw
  generalize Lib.bitLen n = k at hLen hk hw
  clear hM
  go_enter Try.func89, Try.ntmps89
  go_wp2_with (go_at_call 75; refine (hLen _).mono ?_; rintro e w' ⟨rfl, rfl⟩)
  go_ret
  exact ⟨M, h1, hp, rfl, rfl⟩
end Go.Proofs.Ytlnplompnabmlaa

/-
  LAYER 9 (trie): slices.Sort at runes: patterns broken.
-/
namespace Go.Proofs.Ytlnplompnabmlaa
set_option maxRecDepth 100000
open Go.RowKit Go.Sort

theorem and_any (R M : Nat) (hR : R < 18446744073709551616) (h1 : 1 ≤ M) (h2 : M < 18446744073709551616) : ∃ O : Nat, O ≤ M - 1 ∧ bits .and .u64 (R : Int) ((M : Int) - 1) = (O : Int) :=
  ⟨R &&& (M - 1), Nat.and_le_right, by rw [show ((M : Int) - 1) = ((M - 1 : Nat) : Int) by omega, bits_and_u64_nat _ _ hR (by omega)]⟩
/-- A cell of its own that holds v. -/
def CellIs (w : World) (q : Nat) (v : Value) : Prop := w.cell? ⟨q, 0, none⟩ = some v ∧ w.frozen? ⟨q, 0, none⟩ = false
theorem CellIs.set {w : World} {q : Nat} {v : Value} (h : CellIs w q v) (u : Value) (n : Nat) : CellIs ((w.setCell ⟨q, 0, none⟩ u).drewN n) q u :=
  ⟨(World.cell?_setCell_same w _ u h.1 : (w.setCell ⟨q, 0, none⟩ u).cell? ⟨q, 0, none⟩ = some u), by
    show (w.setCell ⟨q, 0, none⟩ u).frozen? ⟨q, 0, none⟩ = false
    rw [World.frozen?_setCell]; exact h.2⟩
theorem CellIs.past {w : World} {q b o : Nat} {v u : Value} (h : CellIs w q v) (hb : q ≠ b) : CellIs (w.setCell ⟨b, o, none⟩ u) q v :=
  ⟨by rw [World.cell?_setCell_other _ _ _ _ (fun e => hb (by cases e; rfl))]; exact h.1, by rw [World.frozen?_setCell]; exact h.2⟩
theorem CellIs.drewN {w : World} {q : Nat} {v : Value} (h : CellIs w q v) (n : Nat) : CellIs (w.drewN n) q v := h
theorem CellIs.alloc (w : World) (v : Value) (t : TypeId) : CellIs (w.alloc (.cells #[v] t)) w.heap.size v :=
  ⟨by rw [World.cell?_alloc_at _ _ _ _ rfl]; rfl, by rw [World.frozen?_alloc_at _ _ _ _ rfl]⟩
theorem g_set (w : World) (q : Nat) (u : Value) (n : Nat) : w.grownBy ((w.setCell ⟨q, 0, none⟩ u).drewN n) (some q) :=
  gdrewN (gset (⟨rfl, rfl, rfl, Nat.le_refl _, fun _ _ _ => rfl⟩ : w.grownBy w (some q)) 0 u) n

set_option maxHeartbeats 1000000 in
set_option maxRecDepth 100000 in
theorem brk_any {w0 w : World} {blk off N : Nat} {d : Array Int} (h : RowG w0 blk off N d w) (cap a L : Nat) (hb : a + L ≤ N) (hsz : N < 4611686018427387904) :
    Calls Try.prog 79 #[.slice (some ⟨blk, off, none⟩) N cap, .int .i64 a, .int .i64 ((a + L : Nat) : Int)] w fun e w' => e = .returned (.tuple #[]) ∧ ∃ dk, PermIn a (a + L) d dk ∧ RowG w0 blk off N dk w' := by
  have hds := h.size
  by_cases h8 : 8 ≤ L
  · have hP := fun W => power_any L (by omega) (by omega) W
    have H0 : Hid (RowG w0 blk off N d (w.alloc (.cells #[.int .u64 (L : Int)] 124))) := h.new (World.grownBy_alloc w _ none)
    have hqb : w.heap.size ≠ blk := Nat.ne_of_gt h.lt
    have hq0 : w0.heap.size ≤ w.heap.size := h.grown.size
    have C0 : Hid (CellIs (w.alloc (.cells #[.int .u64 (L : Int)] 124)) w.heap.size (.int .u64 (L : Int))) := CellIs.alloc w _ _
    generalize hq : w.heap.size = q at hqb hq0 C0
    clear h
    go_enter Try.func79, Try.ntmps79
    go_wp2_with (go_at_call 89; rw [show ((a : Int) + (L : Int) - (a : Int)) = (L : Int) by omega]; refine (hP _).mono ?_; rintro e w' ⟨M, hM1, hM2, rfl, rfl⟩)
    go_loopw [9] (fun vi wr => ∃ (t X : Nat) (dk : Array Int), vi = .int .i64 ((a + L / 4 * 2 - 1 + t : Nat) : Int) ∧ t ≤ 3 ∧ X < 18446744073709551616 ∧ Hid (PermIn a (a + L) d dk) ∧
      Hid (RowG w0 blk off N dk wr) ∧ Hid (CellIs wr q (.int .u64 (X : Int)))) (fun vi _ => a + L / 4 * 2 + 3 - (intOf vi).toNat)
    case atStart => exact ⟨0, L, d, by congr 1; omega, by omega, by omega, permIn_refl _ _ _, H0.out, C0.out⟩
    case round =>
      obtain ⟨t, X, dk, rfl, ht, hX, HP, HR, HC⟩ := hrel
      clear H0 C0 hP
      have hNext := next_any q X hX wr HC.out.1 HC.out.2
      have hK : ∀ (R : Nat) W, W = (wr.setCell ⟨q, 0, none⟩ (.int .u64 (R : Int))).drewN 3 → RowG w0 blk off N dk W ∧ CellIs W q (.int .u64 (R : Int)) := fun R W e => by
        subst e
        exact ⟨HR.out.other (g_set wr q _ 3) hq0 hqb, HC.out.set _ 3⟩
      have hcs : ∀ W, RowG w0 blk off N dk W → (∀ t, t < N → W.cell? ⟨blk, off + t, none⟩ = some (.int .i32 (gt dk t))) ∧ ∀ t, t < N → W.frozen? ⟨blk, off + t, none⟩ = false := fun W h => ⟨h.cells, h.softs⟩
      have HKK : Hid (∀ (R : Nat) W, W = (wr.setCell ⟨q, 0, none⟩ (.int .u64 (R : Int))).drewN 3 → RowG w0 blk off N dk W ∧ CellIs W q (.int .u64 (R : Int))) := hK
      have HCS : Hid (∀ W, RowG w0 blk off N dk W → (∀ t, t < N → W.cell? ⟨blk, off + t, none⟩ = some (.int .i32 (gt dk t))) ∧ ∀ t, t < N → W.frozen? ⟨blk, off + t, none⟩ = false) := hcs
      clear hK hcs HC
      have fin : Hid (∀ (R o : Nat) W nq, o < L → R < 18446744073709551616 → t < 3 → RowG w0 blk off N dk W → CellIs W q (.int .u64 (R : Int)) →
          PermIn a (a + L) d (Sort.swp dk (a + L / 4 * 2 - 1 + t) (a + o)) ∧
          RowG w0 blk off N (Sort.swp dk (a + L / 4 * 2 - 1 + t) (a + o)) (((W.setCell ⟨blk, off + (a + L / 4 * 2 - 1 + t), none⟩ (.int .i32 (gt dk (a + o)))).setCell ⟨blk, off + (a + o), none⟩ (.int .i32 (gt dk (a + L / 4 * 2 - 1 + t)))).drewN nq) ∧
          CellIs (((W.setCell ⟨blk, off + (a + L / 4 * 2 - 1 + t), none⟩ (.int .i32 (gt dk (a + o)))).setCell ⟨blk, off + (a + o), none⟩ (.int .i32 (gt dk (a + L / 4 * 2 - 1 + t)))).drewN nq) q (.int .u64 (R : Int))) := by
        intro R o W nq ho hR ht3 hW hC
        refine ⟨permIn_trans _ _ _ _ _ HP.out (swp_permIn _ _ _ _ _ (by omega) (by omega) (by omega) (by omega) (by rw [hW.size]; exact hb)), (hW.swp (by omega) (by omega)).drewN nq, ((hC.past hqb).past hqb).drewN nq⟩
      by_cases h3 : t < 3
      · go_wp2_with (go_at_call 90; refine hNext.mono ?_; rintro e w1 ⟨R, lR, rfl, hw1⟩; obtain ⟨O, lO, eAnd⟩ := and_any R M lR hM1 (by omega); obtain ⟨hr1, hc1⟩ := HKK.out R w1 hw1; obtain ⟨hcw, hfw⟩ := HCS.out w1 hr1; clear hw1)
        · have hLO : L ≤ O := by omega
          have HR1 : Hid (RowG w0 blk off N dk w1) := hr1
          have HC1 : Hid (CellIs w1 q (.int .u64 (R : Int))) := hc1
          clear hr1 hc1
          obtain ⟨v3, hy3⟩ := cell?_setCell_some (w := w1) (p := ⟨blk, off + (a + L / 4 * 2 - 1 + t), none⟩) (x := .int .i32 (gt dk (a + (O - L)))) (q := ⟨blk, off + (a + (O - L)), none⟩) (hcw _ (by omega))
          go_region
          all_goals go_wp2
          go_roundw
          case rel =>
            obtain ⟨f1, f2, f3⟩ := fin.out R (O - L) w1 1 (by omega) lR h3 HR1.out HC1.out
            exact ⟨t + 1, R, _, by first | rfl | (congr 1 <;> omega), by omega, lR, f1, f2, f3⟩
          case measure => simp [intOf]; omega
        · have hLO : O < L := by omega
          have HR1 : Hid (RowG w0 blk off N dk w1) := hr1
          have HC1 : Hid (CellIs w1 q (.int .u64 (R : Int))) := hc1
          clear hr1 hc1
          obtain ⟨v3, hy3⟩ := cell?_setCell_some (w := w1) (p := ⟨blk, off + (a + L / 4 * 2 - 1 + t), none⟩) (x := .int .i32 (gt dk (a + O))) (q := ⟨blk, off + (a + O), none⟩) (hcw _ (by omega))
          go_region
          all_goals go_wp2
          go_roundw
          case rel =>
            obtain ⟨f1, f2, f3⟩ := fin.out R O w1 1 (by omega) lR h3 HR1.out HC1.out
            exact ⟨t + 1, R, _, by first | rfl | (congr 1 <;> omega), by omega, lR, f1, f2, f3⟩
          case measure => simp [intOf]; omega
      · obtain rfl : t = 3 := by omega
        go_wp2
        go_end0
        exact ⟨rfl, dk, HP.out, HR.out⟩
  · have HW : Hid (RowG w0 blk off N d w) := h
    clear h
    go_enter Try.func79, Try.ntmps79
    go_wp2
    go_end0
    exact ⟨rfl, d, permIn_refl _ _ _, HW.out⟩
end Go.Proofs.Ytlnplompnabmlaa

/-
  LAYER 9 (trie): slices.Sort at runes: the choice of a pivot.
-/
namespace Go.Proofs.Ytlnplompnabmlaa
set_option maxRecDepth 100000
open Go.RowKit Go.Sort

theorem order2_any {w0 w : World} {blk off N q s : Nat} {d : Array Int} (h : RowG w0 blk off N d w) (hc : CellIs w q (.int .i64 (s : Int))) (hqb : q ≠ blk) (hq0 : w0.heap.size ≤ q) (hs : s ≤ 100) (cap : Nat) (_ : N < 4611686018427387904)
    (a b : Int) (ha0 : 0 ≤ a) (ha : a < N) (hb0 : 0 ≤ b) (hb : b < N) :
    Calls Try.prog 94 #[.slice (some ⟨blk, off, none⟩) N cap, .int .i64 a, .int .i64 b, .pointer (some ⟨q, 0, none⟩)] w fun e w' => ∃ (x y : Int) (s' : Nat), e = .returned (.tuple #[.int .i64 x, .int .i64 y]) ∧
      ((x = a ∧ y = b) ∨ (x = b ∧ y = a)) ∧ s' ≤ s + 1 ∧ RowG w0 blk off N d w' ∧ CellIs w' q (.int .i64 (s' : Int)) := by
  obtain ⟨a, rfl⟩ := Int.eq_ofNat_of_zero_le ha0
  obtain ⟨b, rfl⟩ := Int.eq_ofNat_of_zero_le hb0
  have hcw := h.cells
  have hfw := h.softs
  have c1 := hc.1
  have c2 := hc.2
  have HR : Hid (RowG w0 blk off N d w) := h
  have HC : Hid (CellIs w q (.int .i64 (s : Int))) := hc
  clear h hc
  have ha1 : a < N := by omega
  have hb1 : b < N := by omega
  go_enter Try.func94, Try.ntmps94
  go_wp2
  go_quiet (first | (go_at_call 83; refine Calls.quiet_of_same (less_any _ _ _)))
  go_wp2
  · go_ret2
    exact ⟨(b : Int), (a : Int), s + 1, rfl, .inr ⟨rfl, rfl⟩, Nat.le_refl _, ((HR.out.drewN nq).other (g_set _ q _ 0) hq0 hqb), (HC.out.drewN nq).set _ 0⟩
  · go_ret2
    exact ⟨(a : Int), (b : Int), s, rfl, .inl ⟨rfl, rfl⟩, by omega, HR.out.drewN nq, HC.out.drewN nq⟩

theorem median_any {w0 w : World} {blk off N q s : Nat} {d : Array Int} (h : RowG w0 blk off N d w) (hc : CellIs w q (.int .i64 (s : Int))) (hqb : q ≠ blk) (hq0 : w0.heap.size ≤ q) (hs : s ≤ 50) (cap : Nat) (hsz : N < 4611686018427387904)
    (a b c : Int) (ha0 : 0 ≤ a) (ha : a < N) (hb0 : 0 ≤ b) (hb : b < N) (hc0 : 0 ≤ c) (hcN : c < N) :
    Calls Try.prog 92 #[.slice (some ⟨blk, off, none⟩) N cap, .int .i64 a, .int .i64 b, .int .i64 c, .pointer (some ⟨q, 0, none⟩)] w fun e w' => ∃ (m : Int) (s' : Nat), e = .returned (.int .i64 m) ∧
      (m = a ∨ m = b ∨ m = c) ∧ s' ≤ s + 3 ∧ RowG w0 blk off N d w' ∧ CellIs w' q (.int .i64 (s' : Int)) := by
  have c1 := order2_any h hc hqb hq0 (by omega) cap hsz a b ha0 ha hb0 hb
  clear h hc
  go_enter Try.func92, Try.ntmps92
  go_upto_region 2 with (go_at_call 94; refine c1.mono ?_; rintro e w1 ⟨x1, y1, s1, rfl, o1, l1, hr1, hc1⟩)
  have c2 := order2_any hr1 hc1 hqb hq0 (by omega) cap hsz y1 c (by omega) (by omega) hc0 hcN
  clear c1 hr1 hc1
  go_upto_region 3 with (go_at_call 94; refine c2.mono ?_; rintro e w2 ⟨x2, y2, s2, rfl, o2, l2, hr2, hc2⟩)
  have c3 := order2_any hr2 hc2 hqb hq0 (by omega) cap hsz x1 x2 (by omega) (by omega) (by omega) (by omega)
  clear c2 hr2 hc2
  have HO : Hid ((x1 = a ∨ x1 = b) ∧ (x2 = a ∨ x2 = b ∨ x2 = c) ∧ s2 ≤ s + 2) := ⟨by omega, by omega, by omega⟩
  clear o1 o2 l1 l2
  go_wp2_with (go_at_call 94; refine c3.mono ?_; rintro e w3 ⟨x3, y3, s3, rfl, o3, l3, hr3, hc3⟩)
  go_ret
  obtain ⟨p1, p2, p3⟩ := HO.out
  exact ⟨y3, s3, rfl, by omega, by omega, hr3, hc3⟩

theorem median3_any {w0 w : World} {blk off N q s : Nat} {d : Array Int} (h : RowG w0 blk off N d w) (hc : CellIs w q (.int .i64 (s : Int))) (hqb : q ≠ blk) (hq0 : w0.heap.size ≤ q) (hs : s ≤ 50) (cap : Nat) (hsz : N < 4611686018427387904)
    (a : Int) (ha0 : 1 ≤ a) (ha : a + 1 < N) :
    Calls Try.prog 91 #[.slice (some ⟨blk, off, none⟩) N cap, .int .i64 a, .pointer (some ⟨q, 0, none⟩)] w fun e w' => ∃ (m : Int) (s' : Nat), e = .returned (.int .i64 m) ∧
      (a - 1 ≤ m ∧ m ≤ a + 1) ∧ s' ≤ s + 3 ∧ RowG w0 blk off N d w' ∧ CellIs w' q (.int .i64 (s' : Int)) := by
  have c1 := median_any h hc hqb hq0 hs cap hsz (a - 1) a (a + 1) (by omega) (by omega) (by omega) (by omega) (by omega) (by omega)
  clear h hc
  go_enter Try.func91, Try.ntmps91
  go_wp2_with (go_at_call 92; refine c1.mono ?_; rintro e w1 ⟨m, s1, rfl, o1, l1, hr1, hc1⟩)
  go_ret
  exact ⟨m, s1, rfl, by omega, l1, hr1, hc1⟩

set_option maxHeartbeats 1000000 in
theorem pivot_any {w0 w : World} {blk off N : Nat} {d : Array Int} (h : RowG w0 blk off N d w) (cap a L : Nat) (hL : 0 < L) (hb : a + L ≤ N) (hsz : N < 4611686018427387904) :
    Calls Try.prog 80 #[.slice (some ⟨blk, off, none⟩) N cap, .int .i64 a, .int .i64 ((a + L : Nat) : Int)] w fun e w' => ∃ (p k : Int), e = .returned (.tuple #[.int .i64 p, .int .i64 k]) ∧ (a : Int) ≤ p ∧ p < (a : Int) + L ∧ RowG w0 blk off N d w' := by
  have hr0 : RowG w0 blk off N d (w.alloc (.cells #[.int .i64 0] 3)) := h.new (World.grownBy_alloc w _ none)
  have hqb : w.heap.size ≠ blk := Nat.ne_of_gt h.lt
  have hq0 : w0.heap.size ≤ w.heap.size := h.grown.size
  have hc0 : CellIs (w.alloc (.cells #[.int .i64 0] 3)) w.heap.size (.int .i64 ((0 : Nat) : Int)) := CellIs.alloc w _ _
  clear h
  have elen : ((a : Int) + (L : Int) - (a : Int)) = (L : Int) := by omega
  go_enter Try.func80, Try.ntmps80
  go_upto_if 32 with fail
  generalize hq : w.heap.size = q at hqb hq0 hc0
  generalize w.alloc (.cells #[.int .i64 0] 3) = w1 at hr0 hc0 ⊢
  by_cases h8 : 8 ≤ L
  · have h8z : (L : Int) ≥ 8 := by omega
    by_cases h50 : 50 ≤ L
    · have h50z : (L : Int) ≥ 50 := by omega
      have c1 := median3_any hr0 hc0 hqb hq0 (by omega) cap hsz ((a : Int) + (L : Int) / 4) (by omega) (by omega)
      clear hr0 hc0
      go_upto_region 9 with (go_at_call 91; refine c1.mono ?_; rintro e w2 ⟨m1, s1, rfl, o1, l1, hr1, hc1⟩)
      have c2 := median3_any hr1 hc1 hqb hq0 (by omega) cap hsz ((a : Int) + (L : Int) / 4 * 2) (by omega) (by omega)
      clear c1 hr1 hc1
      go_upto_region 10 with (go_at_call 91; refine c2.mono ?_; rintro e w3 ⟨m2, s2, rfl, o2, l2, hr2, hc2⟩)
      have c3 := median3_any hr2 hc2 hqb hq0 (by omega) cap hsz ((a : Int) + (L : Int) / 4 * 3) (by omega) (by omega)
      clear c2 hr2 hc2
      go_upto_region 11 with (go_at_call 91; refine c3.mono ?_; rintro e w4 ⟨m3, s3, rfl, o3, l3, hr3, hc3⟩)
      have c4 := median_any hr3 hc3 hqb hq0 (by omega) cap hsz m1 m2 m3 (by omega) (by omega) (by omega) (by omega) (by omega) (by omega)
      clear c3 hr3 hc3
      go_upto_region 12 with (go_at_call 92; refine c4.mono ?_; rintro e w5 ⟨m, s4, rfl, o4, l4, hr4, hc4⟩)
      have HO : Hid ((a : Int) ≤ m ∧ m < (a : Int) + L) := ⟨by omega, by omega⟩
      have HR : Hid (RowG w0 blk off N d w5) := hr4
      have cc := hc4.1
      clear c4 hr4 hc4 o1 o2 o3 o4 l1 l2 l3 l4
      go_wp2
      all_goals go_ret2
      all_goals exact ⟨_, _, rfl, HO.out.1, HO.out.2, HR.out⟩
    · have h50z : ¬ ((L : Int) ≥ 50) := by omega
      have c1 := median_any hr0 hc0 hqb hq0 (by omega) cap hsz ((a : Int) + (L : Int) / 4) ((a : Int) + (L : Int) / 4 * 2) ((a : Int) + (L : Int) / 4 * 3) (by omega) (by omega) (by omega) (by omega) (by omega) (by omega)
      clear hr0 hc0
      go_upto_region 12 with (go_at_call 92; refine c1.mono ?_; rintro e w5 ⟨m, s4, rfl, o4, l4, hr4, hc4⟩)
      have HO : Hid ((a : Int) ≤ m ∧ m < (a : Int) + L) := ⟨by omega, by omega⟩
      have HR : Hid (RowG w0 blk off N d w5) := hr4
      have cc := hc4.1
      clear c1 hr4 hc4 o4 l4
      go_wp2
      all_goals go_ret2
      all_goals exact ⟨_, _, rfl, HO.out.1, HO.out.2, HR.out⟩
  · have h8z : ¬ ((L : Int) ≥ 8) := by omega
    have HO : Hid ((a : Int) ≤ (a : Int) + (L : Int) / 4 * 2 ∧ (a : Int) + (L : Int) / 4 * 2 < (a : Int) + L) := ⟨by omega, by omega⟩
    have HR : Hid (RowG w0 blk off N d w1) := hr0
    have cc : w1.cell? ⟨q, 0, none⟩ = some (.int .i64 0) := hc0.1
    clear hr0 hc0
    go_wp2
    all_goals go_ret2
    all_goals exact ⟨_, ⟨_, rfl⟩, HO.out.1, HO.out.2, HR.out⟩
end Go.Proofs.Ytlnplompnabmlaa
