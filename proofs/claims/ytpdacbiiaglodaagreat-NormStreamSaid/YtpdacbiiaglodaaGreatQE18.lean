/-
  LAYER 5 (norms): rows that are read.
-/
import Derived.Test.YtpdacbiiaglodaaGreatQE14
import Derived.Test.YtpdacbiiaglodaaGreatQE17
import Derived.Test.YtpdacbiiaglodaaGreatQE12
import Derived.Test.YtpdacbiiaglodaaGreatQE02
import Derived.Test.YtpdacbiiaglodaaGreatQE11
namespace Go.Proofs.YtpdacbiiaglodaaGreat
set_option maxRecDepth 100000
open Go.RowKit Go.Lib

def triCells (k : IntKind) (l : List (Int × Int × Int)) : List Value := l.flatMap fun x => [.int .i32 x.1, .int .i32 x.2.1, .int k x.2.2]
theorem triCells_length (k : IntKind) (l : List (Int × Int × Int)) : (triCells k l).length = l.length * 3 := by
  induction l with
  | nil => rfl
  | cons x t ih => simp only [triCells, List.flatMap_cons, List.length_append, List.length_cons, List.length_nil] at ih ⊢; omega
theorem triCells_get (k : IntKind) : ∀ (l : List (Int × Int × Int)) (i : Nat) (x : Int × Int × Int), l[i]? = some x →
    (triCells k l)[i * 3]? = some (.int .i32 x.1) ∧ (triCells k l)[i * 3 + 1]? = some (.int .i32 x.2.1) ∧ (triCells k l)[i * 3 + 2]? = some (.int k x.2.2)
  | [], i, x, h => by simp at h
  | y :: t, 0, x, h => by
    simp at h
    subst h
    simp [triCells]
  | y :: t, i + 1, x, h => by
    have ih := triCells_get k t i x (by simpa using h)
    rw [show (i + 1) * 3 = i * 3 + 3 by omega, show i * 3 + 3 + 1 = (i * 3 + 1) + 3 by omega, show i * 3 + 3 + 2 = (i * 3 + 2) + 3 by omega]
    simpa [triCells] using ih
theorem tri_own {k : IntKind} {w : World} {B : Nat} {e : TypeId} {v : Value} {l : List (Int × Int × Int)} (h : w.ownsRow B e 3 v l.length (triCells k l)) : Tri k w v l := by
  obtain ⟨h0, ⟨rfl, hn⟩ | ⟨g, cap, cur, rfl, hB, hgg, h1, h2, h3, h4⟩⟩ := h
  · exact .inl ⟨rfl, List.length_eq_zero_iff.1 hn⟩
  · refine .inr ⟨g, 0, cap, rfl, h1, h2, fun i x hx => ?_⟩
    have hil := (List.getElem?_eq_some_iff.1 hx).1
    obtain ⟨q1, q2, q3⟩ := triCells_get k l i x hx
    have cell : ∀ (j : Nat) (u : Value), (triCells k l)[j]? = some u → w.cell? ⟨g, j, none⟩ = some u := by
      intro j u hu
      have hj := (List.getElem?_eq_some_iff.1 hu).1
      rw [triCells_length] at hj
      rw [← h4, List.getElem?_take_of_lt hj] at hu
      have h6 : cur[j]? = some u := by simpa using hu
      simp only [World.cell?, hgg]
      exact h6
    rw [Nat.zero_add]
    exact ⟨cell _ _ q1, cell _ _ q2, cell _ _ q3⟩

theorem St.grown {w w3 W : World} {q r : Nat} {vb : Value} {rest0 rest : List UInt8} {row : Option Nat} (h0 : St w q r vb rest0) (h : St w3 q r vb rest) (hg : w3.grownBy W row) (hx : ∀ x, row = some x → w.heap.size ≤ x) : St W q r vb rest := by
  cases row with
  | none => exact h.new hg
  | some x => exact h0.row h hg (hx x rfl)

theorem info_class : (Tryz.prog.info? 104).map (fun i => (i.zero, i.size, i.bytes)) = some (some (.agg #[.int .i32 0, .int .i32 0, .int .i64 0]), 3, 16) := by kernel_rfl
theorem info_class_parts : ∃ i0 : TypeInfo, Tryz.prog.info? 104 = some i0 ∧ i0.zero = some (.agg #[.int .i32 0, .int .i32 0, .int .i64 0]) ∧ i0.size = 3 ∧ i0.bytes = 16 := by
  have h := info_class
  cases hi : Tryz.prog.info? 104 with
  | none => rw [hi] at h; cases h
  | some i =>
    rw [hi] at h
    simp only [Option.map_some, Option.some.injEq, Prod.mk.injEq] at h
    exact ⟨i, rfl, h.1, h.2.1, h.2.2⟩

set_option maxHeartbeats 4000000 in
theorem rows_class (q r : Nat) (vb : Value) (l : List (Int × Int × Int)) (more : List UInt8) (w : World) (hn : ∀ x ∈ l, ∃ a b k : Nat, x = ((a : Int), (b : Int), (k : Int)) ∧ a ≤ 1114111 ∧ b ≤ 1114111 ∧ k ≤ 1114111) (hl : l.length ≤ 8000)
    (h : St w q r vb (Lib.uvarint l.length ++ (nums (l.flatMap tri3) ++ more))) :
    Calls Tryz.prog 118 #[.pointer (some ⟨q, 0, none⟩), .func (.func 119) #[.pointer (some ⟨q, 0, none⟩)] #[]] w fun e w' => ∃ v, e = .returned v ∧ Tri .i64 w' v l ∧ (∀ k, v.ownBlock = some k → w.heap.size ≤ k) ∧ w.grownBy w' (some r) ∧ St w' q r vb more := by
  have hrl := h.lt
  obtain ⟨i0, hi, hz0, hz1, hz2⟩ := info_class_parts
  have hN := number_ok q r vb l.length _ w h (by omega)
  go_enter Tryz.func118, Tryz.ntmps118
  go_wp2_with (go_at_call 149; refine hN.mono ?_; rintro e w1 ⟨rfl, hg1, hS1⟩)
  go_loopw [5, 9] (fun vo vi wr => ∃ (i : Nat), vi = .int .u64 (i : Int) ∧ i ≤ l.length ∧ Hid (wr.ownsRow w.heap.size 104 3 vo i (triCells .i64 (l.take i))) ∧ Hid (St wr q r vb (nums ((l.drop i).flatMap tri3) ++ more)) ∧ w.grownBy wr (some r)) (fun _ vi _ => l.length - (RowKit.intOf vi).toNat)
  case atStart => exact ⟨0, rfl, Nat.zero_le _, Lib.hid (World.ownsRow_nil _ _ _ _), Lib.hid hS1, hg1⟩
  case round =>
    obtain ⟨i, rfl, hi1, hown, hS, hg⟩ := hrel
    by_cases hlt : i < l.length
    · obtain ⟨x, hx⟩ : ∃ x, l[i] = x := ⟨_, rfl⟩
      obtain ⟨a, b, k, rfl, ha, hb, hk⟩ := hn x (hx ▸ List.getElem_mem hlt)
      have hSo := hS.out
      rw [List.drop_eq_getElem_cons hlt, hx, List.flatMap_cons, nums_append, show nums (tri3 ((a : Int), (b : Int), (k : Int))) = Lib.uvarint a ++ (Lib.uvarint b ++ Lib.uvarint k) by simp [nums, tri3], List.append_assoc, List.append_assoc, List.append_assoc] at hSo
      have C := class_ok q r vb a b k _ wr hSo ha hb hk
      unfold cAgg at C
      dsimp only at C
      have hown0 := hown.out
      have htk : triCells .i64 (l.take (i + 1)) = triCells .i64 (l.take i) ++ [.int .i32 (a : Int), .int .i32 (b : Int), .int .i64 (k : Int)] := by
        rw [List.take_succ_eq_append_getElem hlt, hx]; simp [triCells]
      replace htk := Lib.hid htk
      generalize triCells .i64 (l.take i) = M at hown0 htk
      obtain ⟨R2, hR2⟩ : ∃ R2, R2 = nums ((l.drop (i + 1)).flatMap tri3) ++ more := ⟨_, rfl⟩
      rw [← hR2] at C
      replace hR2 := Lib.hid hR2
      have hvl := World.ownsRow.lt hown0
      clear hown hS hSo hx
      go_wp2_with (first
        | (go_at_call 119; refine C.mono ?_; rintro e w3 ⟨rfl, hg3, hS3⟩)
        | (go_at_call 150; refine (goesOn_ok q r vb _ _ (hS3.new (World.grownBy_alloc w3 _ none))).mono ?_; rintro e w4 ⟨rfl, rfl⟩; have hown3 : ∀ o1 o2, ((w3.alloc o1).alloc o2).ownsRow w.heap.size 104 3 u5 i M := fun o1 o2 => ((hown0.kept hg3 (.inr (fun e => by { have := (hvl _ e).1; omega }))).alloc o1).alloc o2)
        | (at_builtin; refine wpList_append_own _ rfl _ _ 23 rfl w.heap.size 104 i0 (.agg #[.int .i32 0, .int .i32 0, .int .i64 0]) 3 16 Tryz.underlying23 hi hz0 hz1 hz2 rfl (by decide) u5 i M rfl (hown3 _ _) ⟨w3.heap.size + 1, 0, none⟩ 1 1 [.int .i32 (a : Int), .int .i32 (b : Int), .int .i64 (k : Int)] rfl rfl ?c1 ?c2 ?c3 ?c4 ?c5 ?_))
      case c1 =>
        intro j u hj
        have hn := World.alloc_heap_new (w3.alloc (.cells #[.int .i32 (a : Int), .int .i32 (b : Int), .int .i64 (k : Int)] 104)) (.cells #[.int .i32 (a : Int), .int .i32 (b : Int), .int .i64 (k : Int)] 104)
        rw [World.size_alloc] at hn
        match j, hj with
        | 0, hj => simp at hj; subst hj; rw [show (⟨w3.heap.size + 1, 0, none⟩ : Addr).add 0 = ⟨w3.heap.size + 1, 0, none⟩ from rfl]; simp only [World.cell?, hn]; rfl
        | 1, hj => simp at hj; subst hj; rw [show (⟨w3.heap.size + 1, 0, none⟩ : Addr).add 1 = ⟨w3.heap.size + 1, 1, none⟩ from rfl]; simp only [World.cell?, hn]; rfl
        | 2, hj => simp at hj; subst hj; rw [show (⟨w3.heap.size + 1, 0, none⟩ : Addr).add 2 = ⟨w3.heap.size + 1, 2, none⟩ from rfl]; simp only [World.cell?, hn]; rfl
      case c2 => intro u hu; simp at hu; rcases hu with rfl | rfl | rfl <;> rfl
      case c3 => unfold maxLen; omega
      case c4 => omega
      case c5 => have := hg.size; have := hg3.size; simp; omega
      intro v' w5 hown5 hg5 _
      have hS5 : St w5 q r vb R2 := h.grown ((hS3.new (World.grownBy_alloc w3 _ none)).new (World.grownBy_alloc _ _ none)) hg5 (fun x e => (hvl x e).1)
      have hgf : w.grownBy w5 (some r) := gnew ((hg.trans hg3).trans (gbut (galloc (World.grownBy_alloc w3 _ none) _) _)) hg5 (fun x e => .inl (hvl x e).1)
      clear hown0 hown3 hS3 C hN hS1
      go_wp2
      go_roundw
      case rel => exact ⟨i + 1, by go_num, by omega, Lib.hid (by rw [htk.out]; exact hown5), Lib.hid (by rw [← hR2.out]; exact hS5), hgf⟩
      case measure => simp [RowKit.intOf]; omega
    · obtain rfl : i = l.length := by omega
      have hSo := hS.out
      have hown0 := hown.out
      rw [List.drop_length, show nums (List.flatMap tri3 []) ++ more = more from rfl] at hSo
      rw [List.take_length] at hown0
      have hvl := World.ownsRow.lt hown0
      have hT := tri_own hown0
      clear hlt hown hS hown0
      go_wp2
      go_ret
      exact ⟨_, rfl, hT, fun k e => (hvl k e).1, hg, hSo⟩
theorem info_decomp : (Tryz.prog.info? 106).map (fun i => (i.zero, i.size, i.bytes)) = some (some (.agg #[.int .i32 0, .int .i32 0, .int .i32 0]), 3, 12) := by kernel_rfl
theorem info_decomp_parts : ∃ i0 : TypeInfo, Tryz.prog.info? 106 = some i0 ∧ i0.zero = some (.agg #[.int .i32 0, .int .i32 0, .int .i32 0]) ∧ i0.size = 3 ∧ i0.bytes = 12 := by
  have h := info_decomp
  cases hi : Tryz.prog.info? 106 with
  | none => rw [hi] at h; cases h
  | some i =>
    rw [hi] at h
    simp only [Option.map_some, Option.some.injEq, Prod.mk.injEq] at h
    exact ⟨i, rfl, h.1, h.2.1, h.2.2⟩

set_option maxHeartbeats 4000000 in
theorem rows_decomp (q r : Nat) (vb : Value) (l : List (Int × Int × Int)) (more : List UInt8) (w : World) (hn : ∀ x ∈ l, ∃ a b k : Nat, x = ((a : Int), (b : Int), (k : Int)) ∧ a ≤ 1114111 ∧ b ≤ 1114111 ∧ k ≤ 1114111) (hl : l.length ≤ 8000)
    (h : St w q r vb (Lib.uvarint l.length ++ (nums (l.flatMap tri3) ++ more))) :
    Calls Tryz.prog 120 #[.pointer (some ⟨q, 0, none⟩), .func (.func 121) #[.pointer (some ⟨q, 0, none⟩)] #[]] w fun e w' => ∃ v, e = .returned v ∧ Tri .i32 w' v l ∧ (∀ k, v.ownBlock = some k → w.heap.size ≤ k) ∧ w.grownBy w' (some r) ∧ St w' q r vb more := by
  have hrl := h.lt
  obtain ⟨i0, hi, hz0, hz1, hz2⟩ := info_decomp_parts
  have hN := number_ok q r vb l.length _ w h (by omega)
  go_enter Tryz.func120, Tryz.ntmps120
  go_wp2_with (go_at_call 149; refine hN.mono ?_; rintro e w1 ⟨rfl, hg1, hS1⟩)
  go_loopw [5, 9] (fun vo vi wr => ∃ (i : Nat), vi = .int .u64 (i : Int) ∧ i ≤ l.length ∧ Hid (wr.ownsRow w.heap.size 106 3 vo i (triCells .i32 (l.take i))) ∧ Hid (St wr q r vb (nums ((l.drop i).flatMap tri3) ++ more)) ∧ w.grownBy wr (some r)) (fun _ vi _ => l.length - (RowKit.intOf vi).toNat)
  case atStart => exact ⟨0, rfl, Nat.zero_le _, Lib.hid (World.ownsRow_nil _ _ _ _), Lib.hid hS1, hg1⟩
  case round =>
    obtain ⟨i, rfl, hi1, hown, hS, hg⟩ := hrel
    by_cases hlt : i < l.length
    · obtain ⟨x, hx⟩ : ∃ x, l[i] = x := ⟨_, rfl⟩
      obtain ⟨a, b, k, rfl, ha, hb, hk⟩ := hn x (hx ▸ List.getElem_mem hlt)
      have hSo := hS.out
      rw [List.drop_eq_getElem_cons hlt, hx, List.flatMap_cons, nums_append, show nums (tri3 ((a : Int), (b : Int), (k : Int))) = Lib.uvarint a ++ (Lib.uvarint b ++ Lib.uvarint k) by simp [nums, tri3], List.append_assoc, List.append_assoc, List.append_assoc] at hSo
      have C := decomp_ok q r vb a b k _ wr hSo ha hb hk
      unfold dAgg at C
      dsimp only at C
      have hown0 := hown.out
      have htk : triCells .i32 (l.take (i + 1)) = triCells .i32 (l.take i) ++ [.int .i32 (a : Int), .int .i32 (b : Int), .int .i32 (k : Int)] := by
        rw [List.take_succ_eq_append_getElem hlt, hx]; simp [triCells]
      replace htk := Lib.hid htk
      generalize triCells .i32 (l.take i) = M at hown0 htk
      obtain ⟨R2, hR2⟩ : ∃ R2, R2 = nums ((l.drop (i + 1)).flatMap tri3) ++ more := ⟨_, rfl⟩
      rw [← hR2] at C
      replace hR2 := Lib.hid hR2
      have hvl := World.ownsRow.lt hown0
      clear hown hS hSo hx
      go_wp2_with (first
        | (go_at_call 121; refine C.mono ?_; rintro e w3 ⟨rfl, hg3, hS3⟩)
        | (go_at_call 150; refine (goesOn_ok q r vb _ _ (hS3.new (World.grownBy_alloc w3 _ none))).mono ?_; rintro e w4 ⟨rfl, rfl⟩; have hown3 : ∀ o1 o2, ((w3.alloc o1).alloc o2).ownsRow w.heap.size 106 3 u5 i M := fun o1 o2 => ((hown0.kept hg3 (.inr (fun e => by { have := (hvl _ e).1; omega }))).alloc o1).alloc o2)
        | (at_builtin; refine wpList_append_own _ rfl _ _ 24 rfl w.heap.size 106 i0 (.agg #[.int .i32 0, .int .i32 0, .int .i32 0]) 3 12 Tryz.underlying24 hi hz0 hz1 hz2 rfl (by decide) u5 i M rfl (hown3 _ _) ⟨w3.heap.size + 1, 0, none⟩ 1 1 [.int .i32 (a : Int), .int .i32 (b : Int), .int .i32 (k : Int)] rfl rfl ?c1 ?c2 ?c3 ?c4 ?c5 ?_))
      case c1 =>
        intro j u hj
        have hn := World.alloc_heap_new (w3.alloc (.cells #[.int .i32 (a : Int), .int .i32 (b : Int), .int .i32 (k : Int)] 106)) (.cells #[.int .i32 (a : Int), .int .i32 (b : Int), .int .i32 (k : Int)] 106)
        rw [World.size_alloc] at hn
        match j, hj with
        | 0, hj => simp at hj; subst hj; rw [show (⟨w3.heap.size + 1, 0, none⟩ : Addr).add 0 = ⟨w3.heap.size + 1, 0, none⟩ from rfl]; simp only [World.cell?, hn]; rfl
        | 1, hj => simp at hj; subst hj; rw [show (⟨w3.heap.size + 1, 0, none⟩ : Addr).add 1 = ⟨w3.heap.size + 1, 1, none⟩ from rfl]; simp only [World.cell?, hn]; rfl
        | 2, hj => simp at hj; subst hj; rw [show (⟨w3.heap.size + 1, 0, none⟩ : Addr).add 2 = ⟨w3.heap.size + 1, 2, none⟩ from rfl]; simp only [World.cell?, hn]; rfl
      case c2 => intro u hu; simp at hu; rcases hu with rfl | rfl | rfl <;> rfl
      case c3 => unfold maxLen; omega
      case c4 => omega
      case c5 => have := hg.size; have := hg3.size; simp; omega
      intro v' w5 hown5 hg5 _
      have hS5 : St w5 q r vb R2 := h.grown ((hS3.new (World.grownBy_alloc w3 _ none)).new (World.grownBy_alloc _ _ none)) hg5 (fun x e => (hvl x e).1)
      have hgf : w.grownBy w5 (some r) := gnew ((hg.trans hg3).trans (gbut (galloc (World.grownBy_alloc w3 _ none) _) _)) hg5 (fun x e => .inl (hvl x e).1)
      clear hown0 hown3 hS3 C hN hS1
      go_wp2
      go_roundw
      case rel => exact ⟨i + 1, by go_num, by omega, Lib.hid (by rw [htk.out]; exact hown5), Lib.hid (by rw [← hR2.out]; exact hS5), hgf⟩
      case measure => simp [RowKit.intOf]; omega
    · obtain rfl : i = l.length := by omega
      have hSo := hS.out
      have hown0 := hown.out
      rw [List.drop_length, show nums (List.flatMap tri3 []) ++ more = more from rfl] at hSo
      rw [List.take_length] at hown0
      have hvl := World.ownsRow.lt hown0
      have hT := tri_own hown0
      clear hlt hown hS hown0
      go_wp2
      go_ret
      exact ⟨_, rfl, hT, fun k e => (hvl k e).1, hg, hSo⟩
end Go.Proofs.YtpdacbiiaglodaaGreat

/-
  LAYER 3 (crc): what bytes are as a frame: the plain mathematics.
-/
namespace Go.Proofs.YtpdacbiiaglodaaGreat
set_option maxRecDepth 100000
open Go.RowKit Go.Lib

theorem leB_succ (n : Nat) : ∀ k, leB n (k + 1) = (n % 256).toUInt8 :: leB (n / 256) k
  | 0 => by simp [leB]
  | k + 1 => by
    rw [leB, leB_succ n k, leB, List.cons_append]
    congr 3
    rw [Nat.div_div_eq_div_mul, show 8 * (k + 1) = 8 + 8 * k by omega, Nat.pow_add]
theorem leNat_leB : ∀ (k n : Nat), leNat (leB n k) = n % 2 ^ (8 * k)
  | 0, n => by simp [leB, leNat, Nat.mod_one]
  | k + 1, n => by
    rw [leB_succ, leNat, leNat_leB k, toUInt8_toNat (by omega), show 8 * (k + 1) = 8 + 8 * k by omega, Nat.pow_add, show (2 : Nat) ^ 8 = 256 from rfl, Nat.mod_mul]
theorem leB_leNat : ∀ (l : List UInt8), leB (leNat l) l.length = l
  | [] => rfl
  | c :: l => by
    have hc := c.toNat_lt
    rw [List.length_cons, leB_succ, leNat, show (c.toNat + 256 * leNat l) % 256 = c.toNat by omega, show (c.toNat + 256 * leNat l) / 256 = leNat l by omega, leB_leNat l, u8_self]

/-- The payload, the sum that it should have, masked, and where the frame ends. -/
def sp (bs : List UInt8) : Option (List UInt8 × Nat × Nat) :=
  match rd 0 0 bs with
  | .error _ => none
  | .ok (n, m) => if n ≤ 16777216 ∧ m + 4 + n ≤ bs.length then some ((bs.drop (m + 4)).take n, leNat ((bs.drop m).take 4), m + 4 + n) else none
def unf (bs : List UInt8) : List UInt8 × Nat × Int :=
  match sp bs with
  | none => ([], 0, 30)
  | some (p, f, k) => if mask (sum p) = f then (p, k, 0) else ([], 0, 31)

theorem frame_length (p : List UInt8) : (frame p).length = (Lib.uvarint p.length).length + 4 + p.length := by unfold frame; simp [leB_length]; omega
theorem unf_frame (p more : List UInt8) (hp : p.length ≤ 16777216) : unf (frame p ++ more) = (p, (frame p).length, 0) := by
  have hrd : rd 0 0 (frame p ++ more) = .ok (p.length, (Lib.uvarint p.length).length) := by
    unfold frame
    rw [List.append_assoc, List.append_assoc]
    exact back_uint p.length (by omega) _
  have hl := frame_length p
  have e1 : (frame p ++ more).drop (Lib.uvarint p.length).length = leB (mask (sum p)) 4 ++ (p ++ more) := by
    unfold frame
    rw [List.append_assoc, List.append_assoc, List.drop_left, ]
  have e2 : (frame p ++ more).drop ((Lib.uvarint p.length).length + 4) = p ++ more := by
    rw [← List.drop_drop, e1, List.drop_left' (leB_length _ 4)]
  have hsp : sp (frame p ++ more) = some (p, mask (sum p), (frame p).length) := by
    unfold sp
    rw [hrd]
    simp only
    rw [if_pos ⟨hp, by rw [List.length_append, hl]; omega⟩, e1, e2, List.take_left, List.take_left' (leB_length _ 4), leNat_leB, Nat.mod_eq_of_lt (by have := mask_lt (sum p); simpa using this), hl]
  unfold unf
  rw [hsp]
  simp
theorem sp_some {bs p : List UInt8} {f k : Nat} (h : sp bs = some (p, f, k)) : ∃ n m, rd 0 0 bs = .ok (n, m) ∧ n ≤ 16777216 ∧ m + 4 + n ≤ bs.length ∧ p = (bs.drop (m + 4)).take n ∧ f = leNat ((bs.drop m).take 4) ∧ k = m + 4 + n ∧ p.length = n := by
  unfold sp at h
  split at h
  · cases h
  · rename_i n m hrd
    split at h
    · rename_i hc
      simp only [Option.some.injEq, Prod.mk.injEq] at h
      obtain ⟨rfl, rfl, rfl⟩ := h
      exact ⟨n, m, hrd, hc.1, hc.2, rfl, rfl, rfl, by simp; omega⟩
    · cases h
theorem unf_ok {bs p : List UInt8} {k : Nat} (h : unf bs = (p, k, 0)) : frame p = bs.take k ∧ k ≤ bs.length ∧ p.length ≤ 16777216 ∧ k = (frame p).length := by
  unfold unf at h
  split at h
  · simp at h
  · rename_i p' f k' hsp
    split at h
    · rename_i hm
      simp only [Prod.mk.injEq, and_true] at h
      obtain ⟨rfl, rfl⟩ := h
      obtain ⟨n, m, hrd, h1, h2, h3, h4, h5, h6⟩ := sp_some hsp
      obtain ⟨q1, q2, q3⟩ := once_uint hrd
      have e4 : leB f 4 = (bs.drop m).take 4 := by
        have hl : ((bs.drop m).take 4).length = 4 := by simp; omega
        have := leB_leNat ((bs.drop m).take 4)
        rw [hl] at this
        rw [h4, this]
      have hfr : frame p' = bs.take k' := by
        unfold frame
        rw [hm, e4, h6, q1, h5, h3]
        rw [show m + 4 + n = m + (4 + n) by omega, List.take_add, List.take_add, List.append_assoc, List.drop_drop]
      refine ⟨hfr, by omega, by omega, ?_⟩
      rw [hfr, List.length_take]
      omega
    · simp at h
end Go.Proofs.YtpdacbiiaglodaaGreat

/-
  LAYER 2 (codec): the reference's readers.
-/
namespace Go.Proofs.YtpdacbiiaglodaaGreat
set_option maxRecDepth 100000
open Go.RowKit Go.Lib

def uOf : Except Int (Nat × Nat) → Nat × Nat × Int
  | .ok (n, m) => (n, m, 0)
  | .error x => (0, 0, x)
theorem orw {i acc c : Nat} (hi : i ≤ 9) (hacc : acc < 2 ^ (7 * i)) (h9 : i = 9 → c % 128 ≤ 1) :
    bits .or .u64 (acc : Int) (IntKind.u64.wrap ((c : Int) % 128 * 2 ^ (7 * i))) = ((acc + c % 128 * 2 ^ (7 * i) : Nat) : Int) := by
  have hf := (rd_fits hi hacc (Nat.mod_lt c (by decide)) h9).1
  have e0 : (c : Int) % 128 * 2 ^ (7 * i) = ((c % 128 * 2 ^ (7 * i) : Nat) : Int) := by simp
  rw [e0, u64_wrap_id ((c % 128 * 2 ^ (7 * i) : Nat) : Int) (by omega) (by omega)]
  have hacc' : ((acc : Nat) : Int) < 2 ^ (7 * i) := by exact_mod_cast hacc
  have := bits_join_low .u64 64 (by decide) wraps_u64 (7 * i) (acc : Int) ((c % 128 * 2 ^ (7 * i) : Nat) : Int) (by omega) hacc' (by omega) (by omega) (by
    rw [show ((2 : Int) ^ (7 * i)) = ((2 ^ (7 * i) : Nat) : Int) from by simp, ← Int.natCast_emod, Nat.mul_mod_left]; rfl) (by omega)
  rw [this]
  omega
theorem Reads.at {w : World} {a : Option Addr} {l c : Nat} {bs : List UInt8} (h : Reads w (.slice a l c) bs) {i : Nat} (hi : i < bs.length) : ∃ b off, a = some ⟨b, off, none⟩ ∧ w.cell? ⟨b, off + i, none⟩ = some (.int .u8 (bs[i].toNat : Int)) := by
  rcases h with ⟨_, rfl⟩ | ⟨b, off, cap, hv, _, _, hc⟩
  · simp at hi
  · simp only [Value.slice.injEq] at hv
    exact ⟨b, off, hv.1, hc i _ (List.getElem?_eq_getElem hi)⟩
theorem uRes_eq (bs : List UInt8) : uRes bs = uOf (rd 0 0 bs) := by unfold uRes uOf; rfl

theorem uRes_lt {bs : List UInt8} {n m : Nat} {x : Int} (h : uRes bs = (n, m, x)) : n < 18446744073709551616 := by
  rcases uRes_cases h with ⟨_, h⟩ | ⟨_, rfl, _⟩
  · exact (rd_lt bs 0 0 n m (by omega) (by decide) h).1
  · omega

theorem leNat_drop (bs : List UInt8) (k j : Nat) (hk : k ≤ bs.length) (hj : j < k) : leNat ((bs.take k).drop j) = bs[j].toNat + 256 * leNat ((bs.take k).drop (j + 1)) := by
  have hl : j < (bs.take k).length := by simp; omega
  rw [List.drop_eq_getElem_cons hl]
  simp [leNat]
theorem leNat_drop_lt (bs : List UInt8) (k j : Nat) (hk : k ≤ bs.length) (h8 : k ≤ 8) (hj : j < k) : leNat ((bs.take k).drop (j + 1)) < 72057594037927936 := by
  have h := leNat_lt ((bs.take k).drop (j + 1))
  have hl : ((bs.take k).drop (j + 1)).length = k - (j + 1) := by simp; omega
  rw [hl] at h
  have := Nat.pow_le_pow_right (n := 2) (by decide) (show 8 * (k - (j + 1)) ≤ 56 by omega)
  have e : (2 : Nat) ^ 56 = 72057594037927936 := by decide
  omega

end Go.Proofs.YtpdacbiiaglodaaGreat

/-
  LAYER 2 (codec): the reference's readers of fields.
-/
namespace Go.Proofs.YtpdacbiiaglodaaGreat
set_option maxRecDepth 100000
open Go.RowKit Go.Lib

theorem owns_empty (w : World) (e : TypeId) : Owns (w.alloc (.cells #[] e)) w.heap.size e (.slice (some ⟨w.heap.size, 0, none⟩) 0 0) [] :=
  owns_block (bs := []) (Nat.le_refl _) (by unfold World.alloc; simp [byteCells]) (by simp) rfl

/-- b[k:k+n]: what it is, and what it reads as. -/
theorem run_cut_mid (a : Option Addr) (l c k n : Nat) (hl : l ≤ c) (h : k + n ≤ l) : ∃ a' : Option Addr, (∀ w : World, (Instr.slice 27 (.slice a l c) (some (.int .i64 (k : Int))) (some (.int .i64 ((k : Int) + (n : Int)))) none).run Tryz.prog w = .ok (.slice a' n (c - k)) w) ∧
    ∀ (w : World) (bs : List UInt8), Reads w (.slice a l c) bs → Reads w (.slice a' n (c - k)) ((bs.drop k).take n) := by
  have he : Tryz.prog.underlying 27 = some (.slice (Tryz.prog.elem 27)) := by simp [go_sem]
  by_cases hck : c = k
  · subst hck
    obtain rfl : n = 0 := by omega
    refine ⟨a, fun w => ?_, fun w bs hr => ?_⟩
    · rw [run_slice_lh (P := Tryz.prog) w 27 a l c he .i64 .i64 (c : Int) ((c : Int) + ((0 : Nat) : Int)) (by omega) (by omega) (by omega)]
      have hz : (sizeOf (Tryz.prog.elem 27)).run Tryz.prog w = .ok 1 w := by simp [go_sem]
      rw [hz]
      simp [Result.andThen_ok, sliced]
    · simpa using hr.nothing
  · refine ⟨a.map fun x => x.add k, fun w => ?_, fun w bs hr => hr.cut k n (by have := hr.slice.1; omega)⟩
    rw [run_slice_lh (P := Tryz.prog) w 27 a l c he .i64 .i64 (k : Int) ((k : Int) + (n : Int)) (by omega) (by omega) (by omega)]
    have hz : (sizeOf (Tryz.prog.elem 27)).run Tryz.prog w = .ok 1 w := by simp [go_sem]
    rw [hz]
    have e2 : ((k : Int) + (n : Int)).toNat = k + n := by omega
    simp only [Result.andThen_ok, sliced, Int.toNat_natCast, Nat.mul_one, e2]
    rw [if_neg hck]
    congr 2
    omega

end Go.Proofs.YtpdacbiiaglodaaGreat
