/-
  LAYER 5 (norms): Hangul by rule; runes as an own row, or as one that is full.
-/
import Derived.Test.YtpdacbiiaglodaaGreatQA06
import Derived.OwnWalk
import Derived.ArgAppend
import Derived.Maps.RangeWalk
import Derived.Test.YtpdacbiiaglodaaGreatQA03
import Derived.Test.YtpdacbiiaglodaaGreatQA04
import Derived.Test.YtpdacbiiaglodaaGreatQA05
import Derived.Sort.BigQuietIn
import Derived.OwnWalkIn
import Derived.TacticsInMore
import Derived.BigRegionIn
import Derived.LoopIn
import Derived.LoopNIn
namespace Go.Proofs.YtpdacbiiaglodaaGreat
set_option maxRecDepth 100000
open Go.RowKit Go.Lib

theorem infoRune : (Tryz.prog.info? 21).map (fun i => (i.zero, i.size, i.bytes)) = some (some (.int .i32 0), 1, 4) := by kernel_rfl
theorem infoRune_parts : ∃ i0 : TypeInfo, Tryz.prog.info? 21 = some i0 ∧ i0.zero = some (.int .i32 0) ∧ i0.size = 1 ∧ i0.bytes = 4 := by
  have h := infoRune
  cases hi : Tryz.prog.info? 21 with
  | none => rw [hi] at h; cases h
  | some i =>
    rw [hi] at h
    simp only [Option.map_some, Option.some.injEq, Prod.mk.injEq] at h
    exact ⟨i, rfl, h.1, h.2.1, h.2.2⟩

def rCells (l : List Int) : List Value := l.map i32
/-- A full slice of runes, in a block from B on. -/
def Full (w : World) (B : Nat) (v : Value) (l : List Int) : Prop :=
  ∃ b, v = .slice (some ⟨b, 0, none⟩) l.length l.length ∧ B ≤ b ∧ l.length ≤ maxLen ∧ ∀ i u, (rCells l)[i]? = some u → w.cell? ⟨b, i, none⟩ = some u
/-- Runes in memory of their own. -/
def Rn (w : World) (B : Nat) (v : Value) (l : List Int) : Prop := w.ownsRow B 21 1 v l.length (rCells l) ∨ (l ≠ [] ∧ Full w B v l)

theorem clip_own (B : Nat) (v : Value) (l : List Int) (w : World) (h : w.ownsRow B 21 1 v l.length (rCells l)) (hne : l ≠ []) :
    Calls Tryz.prog 69 #[v] w fun e w' => ∃ v', e = .returned v' ∧ Full w' B v' l ∧ w = w' := by
  obtain ⟨h0, ⟨rfl, hn⟩ | ⟨g, cap, cur, rfl, hB, hgg, h1, h2, h3, h4⟩⟩ := h
  · exact absurd (List.length_eq_zero_iff.1 hn) hne
  · have hF : Full w B (.slice (some ⟨g, 0, none⟩) l.length l.length) l := by
      refine ⟨g, rfl, hB, Nat.le_trans h1 h2, fun i u hu => ?_⟩
      have hi : i < l.length := by simpa [rCells] using (List.getElem?_eq_some_iff.1 hu).1
      have hu2 := hu
      rw [Nat.mul_one] at h4
      rw [← h4, List.getElem?_take_of_lt hi] at hu2
      have h6 : cur[i]? = some u := by simpa using hu2
      simp only [World.cell?, hgg]
      exact h6
    have hm : l.length ≤ cap := h1
    clear hgg h4 h3 h0 hne
    generalize l.length = n at hF hm h2
    go_enter Tryz.func69, Tryz.ntmps69
    go_wp2
    go_ret
    exact ⟨_, rfl, hF, rfl⟩

theorem own_lit {w : World} {e : TypeId} (vs : List Value) {cs : Array Value} {n : Nat} (hc : cs = vs.toArray) (hn : vs.length = n) (hm : n ≤ maxLen) :
    (w.alloc (.cells cs e)).ownsRow w.heap.size e 1 (.slice (some ⟨w.heap.size, 0, none⟩) n n) n vs := by
  subst hn
  subst hc
  exact ⟨by simp, .inr ⟨w.heap.size, _, _, rfl, Nat.le_refl _, World.alloc_heap_new w _, Nat.le_refl _, hm, by simp, by simp⟩⟩

theorem Full.mono {w : World} {B B' : Nat} {v : Value} {l : List Int} (h : Full w B v l) (hB : B' ≤ B) : Full w B' v l := by
  obtain ⟨b, h1, h2, h3⟩ := h
  exact ⟨b, h1, by omega, h3⟩
theorem hang_none (r : Int) (h : (r - 44032) % 28 = 0) : hang r = [4352 + (r - 44032) / 588, 4449 + (r - 44032) % 588 / 28] := by
  unfold hang; simp [h]
theorem hang_some (r : Int) (h : ¬ (r - 44032) % 28 = 0) : hang r = [4352 + (r - 44032) / 588, 4449 + (r - 44032) % 588 / 28, 4519 + (r - 44032) % 28] := by
  unfold hang; simp [h]

set_option maxHeartbeats 2000000 in
theorem Hangul_any (r : Int) (w : World) (hr : syl r = true) :
    Calls Tryz.prog 93 #[.int .i32 r] w fun e w' => ∃ v, e = .returned v ∧ Full w' w.heap.size v (hang r) ∧ w.grownBy w' none := by
  have hS := fun w => syl_any r w
  rw [hr] at hS
  simp only [syl, decide_eq_true_eq] at hr
  obtain ⟨i0, hi, hz0, hz1, hz2⟩ := infoRune_parts
  have hl : ∀ w : World, (w.alloc (.cells #[.int .i32 (4352 + (r - 44032) / 588), .int .i32 (4449 + (r - 44032) % 588 / 28)] 21)).ownsRow w.heap.size 21 1 (.slice (some ⟨w.heap.size, 0, none⟩) 2 2) 2 (rCells [4352 + (r - 44032) / 588, 4449 + (r - 44032) % 588 / 28]) :=
    fun w => own_lit (rCells [4352 + (r - 44032) / 588, 4449 + (r - 44032) % 588 / 28]) rfl rfl (by unfold maxLen; omega)
  by_cases ht : (r - 44032) % 28 = 0
  · rw [hang_none r ht]
    have hC := fun w => clip_own _ _ [4352 + (r - 44032) / 588, 4449 + (r - 44032) % 588 / 28] _ (hl w) (by simp)
    go_enter Tryz.func93, Tryz.ntmps93
    go_wp2_with (first
      | (go_at_call 92; refine (hS _).mono ?_; rintro e w' ⟨rfl, rfl⟩)
      | (go_at_call 69; refine (hC _).mono ?_; rintro e w' ⟨v', rfl, hF, rfl⟩))
    go_ret
    exact ⟨_, rfl, hF, World.grownBy_alloc w _ none⟩
  · rw [hang_some r ht]
    go_enter Tryz.func93, Tryz.ntmps93
    go_wp2_with (first
      | (go_at_call 92; refine (hS _).mono ?_; rintro e w' ⟨rfl, rfl⟩)
      | (at_builtin; refine wpList_append_own _ rfl _ _ 50 rfl w.heap.size 21 i0 (.int .i32 0) 1 4 Tryz.underlying50 hi hz0 hz1 hz2 rfl (by decide) _ 2 _ rfl ((hl w).alloc _) ⟨w.heap.size + 1, 0, none⟩ 1 1 [.int .i32 (4519 + (r - 44032) % 28)] rfl rfl ?c1 ?c2 ?c3 ?c4 ?c5 ?_))
    case c1 =>
      intro j u hj
      match j, hj with
      | 0, hj =>
        simp at hj; subst hj
        have hn := World.alloc_heap_new (w.alloc (.cells #[.int .i32 (4352 + (r - 44032) / 588), .int .i32 (4449 + (r - 44032) % 588 / 28)] 21)) (.cells #[.int .i32 (4519 + (r - 44032) % 28)] 21)
        rw [World.size_alloc] at hn
        rw [show (⟨w.heap.size + 1, 0, none⟩ : Addr).add 0 = ⟨w.heap.size + 1, 0, none⟩ from rfl]
        simp only [World.cell?, hn]
        rfl
    case c2 => intro u hu; simp at hu; subst hu; rfl
    case c3 => unfold maxLen; omega
    case c4 => omega
    case c5 => simp; omega
    intro v' w1 hown hgrow _
    have hC := clip_own _ v' [4352 + (r - 44032) / 588, 4449 + (r - 44032) % 588 / 28, 4519 + (r - 44032) % 28] w1 hown (by simp)
    have hg : w.grownBy w1 none := gnew (galloc (galloc (World.grownBy.refl w none) _) _) hgrow (fun q e => .inl (by simp [Value.ownBlock] at e; omega))
    clear hown hgrow
    go_wp2_with (go_at_call 69; refine hC.mono ?_; rintro e w' ⟨v', rfl, hF, rfl⟩)
    go_ret
    exact ⟨_, rfl, hF, hg⟩

set_option maxHeartbeats 1000000 in
theorem byRule_any (r : Int) (w : World) :
    Calls Tryz.prog 52 #[.int .i32 r] w fun e w' => ∃ v, e = .returned v ∧ Rn w' w.heap.size v (byR r) ∧ w.grownBy w' none := by
  have hS := fun w => syl_any r w
  unfold byR
  by_cases hr : syl r = true
  · have hH := fun w => Hangul_any r w hr
    rw [hr] at hS
    rw [if_pos hr]
    go_enter Tryz.func52, Tryz.ntmps52
    go_wp2_with (first
      | (go_at_call 92; refine (hS _).mono ?_; rintro e w' ⟨rfl, rfl⟩)
      | (go_at_call 93; refine (hH _).mono ?_; rintro e w' ⟨v', rfl, hF, hg⟩))
    go_ret
    exact ⟨_, rfl, .inr ⟨by unfold hang; simp, hF⟩, hg⟩
  · rw [if_neg hr]
    rw [Bool.not_eq_true] at hr
    rw [hr] at hS
    go_enter Tryz.func52, Tryz.ntmps52
    go_wp2_with (go_at_call 92; refine (hS _).mono ?_; rintro e w' ⟨rfl, rfl⟩)
    go_ret
    exact ⟨_, rfl, .inl (own_lit (rCells [r]) rfl rfl (by unfold maxLen; omega)), World.grownBy_alloc w _ none⟩
end Go.Proofs.YtpdacbiiaglodaaGreat

/-
  LAYER 5 (norms): reading numbers, code points, rows.
-/
namespace Go.Proofs.YtpdacbiiaglodaaGreat
set_option maxRecDepth 100000
open Go.RowKit Go.Lib

/-- A reader of numbers: its block, the bytes' reader, what is left to read; no error yet. -/
def St (w : World) (q r : Nat) (vb : Value) (rest : List UInt8) : Prop :=
  ∃ bs pos, w.heap[q]? = some (.cells #[.pointer (some ⟨r, 0, none⟩), .bool false] 182) ∧ Rd w r vb pos 0 ∧ Reads w vb bs ∧ pos ≤ bs.length ∧ bs.drop pos = rest ∧ q ≠ r ∧ (∃ a l c, vb = .slice a l c) ∧ (∀ k, vb.ownBlock = some k → k < w.heap.size)
theorem St.new {w w' : World} {q r : Nat} {vb : Value} {rest : List UInt8} (h : St w q r vb rest) (hg : w.grownBy w' none) : St w' q r vb rest := by
  obtain ⟨bs, pos, h1, h2, h3, h4, h5, h6, h7, h8⟩ := h
  exact ⟨bs, pos, (hg.block q (Array.getElem?_eq_some_iff.1 h1).1 (by simp)).trans h1, h2.new hg, h3.new hg, h4, h5, h6, h7, fun k e => Nat.lt_of_lt_of_le (h8 k e) hg.size⟩
theorem St.row {w w3 W : World} {q r x : Nat} {vb : Value} {rest0 rest : List UInt8} (h0 : St w q r vb rest0) (h : St w3 q r vb rest) (hg : w3.grownBy W (some x)) (hx : w.heap.size ≤ x) : St W q r vb rest := by
  obtain ⟨_, _, a1, a2, _, _, _, _, _, a8⟩ := h0
  obtain ⟨bs, pos, h1, h2, h3, h4, h5, h6, h7, h8⟩ := h
  have l1 := (Array.getElem?_eq_some_iff.1 a1).1
  have l2 := a2.lt
  exact ⟨bs, pos, (hg.block q (Array.getElem?_eq_some_iff.1 h1).1 (by simp; omega)).trans h1, h2.kept hg (by simp; omega), h3.kept hg (.inr (fun e => by have := a8 _ e; omega)), h4, h5, h6, h7, fun k e => Nat.lt_of_lt_of_le (h8 k e) hg.size⟩
theorem St.lt {w : World} {q r : Nat} {vb : Value} {rest : List UInt8} (h : St w q r vb rest) : q < w.heap.size ∧ r < w.heap.size := by
  obtain ⟨bs, pos, h1, h2, _⟩ := h
  exact ⟨(Array.getElem?_eq_some_iff.1 h1).1, h2.lt⟩
theorem St.c0 {w : World} {q r : Nat} {vb : Value} {rest : List UInt8} (h : St w q r vb rest) : w.cell? ⟨q, 0, none⟩ = some (.pointer (some ⟨r, 0, none⟩)) ∧ w.cell? ⟨q, 1, none⟩ = some (.bool false) := by
  obtain ⟨bs, pos, h1, _⟩ := h
  exact ⟨by simp [World.cell?, h1], by simp [World.cell?, h1]⟩
theorem ulen_uv (n : Nat) : ulen n = (Lib.uvarint n).length := rfl

theorem St.uint {w : World} {q r : Nat} {vb : Value} {n : Nat} {rest : List UInt8} (h : St w q r vb (Lib.uvarint n ++ rest)) (hn : n < 18446744073709551616) :
    Calls Tryz.prog 177 #[.pointer (some ⟨r, 0, none⟩)] w fun e w' => e = .returned (.int .u64 (n : Int)) ∧ w.grownBy w' (some r) ∧ St w' q r vb rest := by
  obtain ⟨bs, pos, h1, h2, h3, h4, h5, h6, ⟨a, l, c, rfl⟩, h8⟩ := h
  have hu : uRes (bs.drop pos) = (n, ulen n, 0) := by
    rw [h5]; unfold uRes; rw [back_uint n hn]
  refine (rUint_any r a l c bs pos 0 n (ulen n) 0 w h2 h3 h4 hu).mono ?_
  rintro e w' ⟨rfl, hg, hR⟩
  refine ⟨rfl, hg, bs, pos + ulen n, (hg.block q (Array.getElem?_eq_some_iff.1 h1).1 (by simpa using h6)).trans h1, hR, h2.carry h3 hg, ?_, ?_, h6, ⟨_, _, _, rfl⟩, fun k e => Nat.lt_of_lt_of_le (h8 k e) hg.size⟩
  · have := congrArg List.length h5
    simp only [List.length_drop, List.length_append] at this
    rw [ulen_uv]
    omega
  · rw [← List.drop_drop, h5, ulen_uv, List.drop_left]

set_option maxHeartbeats 1000000 in
theorem number_ok (q r : Nat) (vb : Value) (n : Nat) (rest : List UInt8) (w : World) (h : St w q r vb (Lib.uvarint n ++ rest)) (hn : n ≤ 2147483648) :
    Calls Tryz.prog 149 #[.pointer (some ⟨q, 0, none⟩)] w fun e w' => e = .returned (.int .u64 (n : Int)) ∧ w.grownBy w' (some r) ∧ St w' q r vb rest := by
  have hU := h.uint (by omega)
  obtain ⟨c0, c1⟩ := h.c0
  have hng : ¬ ((n : Int) > 2147483648) := by omega
  go_enter Tryz.func149, Tryz.ntmps149
  go_wp2_with (go_at_call 177; refine hU.mono ?_; rintro e w1 ⟨rfl, hg, hS⟩)
  go_ret
  exact ⟨rfl, hg, hS⟩

set_option maxHeartbeats 1000000 in
theorem code_ok (q r : Nat) (vb : Value) (n : Nat) (rest : List UInt8) (w : World) (h : St w q r vb (Lib.uvarint n ++ rest)) (hn : n ≤ 1114111) :
    Calls Tryz.prog 151 #[.pointer (some ⟨q, 0, none⟩)] w fun e w' => e = .returned (.int .i32 (n : Int)) ∧ w.grownBy w' (some r) ∧ St w' q r vb rest := by
  have hU := number_ok q r vb n rest w h (by omega)
  go_enter Tryz.func151, Tryz.ntmps151
  go_wp2_with (go_at_call 149; refine hU.mono ?_; rintro e w1 ⟨rfl, hg, hS⟩)
  go_ret
  exact ⟨rfl, hg, hS⟩

set_option maxHeartbeats 1000000 in
theorem goesOn_ok (q r : Nat) (vb : Value) (rest : List UInt8) (w : World) (h : St w q r vb rest) :
    Calls Tryz.prog 150 #[.pointer (some ⟨q, 0, none⟩)] w fun e w' => e = .returned (.bool true) ∧ w = w' := by
  obtain ⟨c0, c1⟩ := h.c0
  obtain ⟨bs, pos, h1, h2, _⟩ := h
  have hE := err_rd r vb pos 0 w h2
  clear h1 h2
  go_enter Tryz.func150, Tryz.ntmps150
  go_wp2_with (go_at_call 152; refine hE.mono ?_; rintro e w1 ⟨rfl, rfl⟩)
  go_ret
  simp

theorem set3 {w : World} {b : Nat} {T : TypeId} {u1 u2 u3 : Value} (h : w.heap[b]? = some (.cells #[u1, u2, u3] T)) (v1 v2 v3 : Value) :
    (((w.setCell ⟨b, 0, none⟩ v1).setCell ⟨b, 1, none⟩ v2).setCell ⟨b, 2, none⟩ v3).heap[b]? = some (.cells #[v1, v2, v3] T) := by
  have hlt := (Array.getElem?_eq_some_iff.1 h).1
  simp only [World.setCell, Array.getElem?_modify]
  simp [h]

set_option maxHeartbeats 1000000 in
theorem class_ok (q r : Nat) (vb : Value) (a b k : Nat) (rest : List UInt8) (w : World) (h : St w q r vb (Lib.uvarint a ++ (Lib.uvarint b ++ (Lib.uvarint k ++ rest)))) (ha : a ≤ 1114111) (hb : b ≤ 1114111) (hk : k ≤ 1114111) :
    Calls Tryz.prog 119 #[.pointer (some ⟨q, 0, none⟩)] w fun e w' => e = .returned (cAgg ((a : Int), (b : Int), (k : Int))) ∧ w.grownBy w' (some r) ∧ St w' q r vb rest := by
  have hrl := h.lt
  have hg0 := World.grownBy_alloc w (.cells #[.int .i32 0, .int .i32 0, .int .i64 0] 104) none
  have C1 := code_ok q r vb a _ _ (h.new hg0) ha
  have C2 := fun w h => code_ok q r vb b (Lib.uvarint k ++ rest) w h hb
  have C3 := fun w h => number_ok q r vb k rest w h (by omega)
  have fr : ∀ W, (w.alloc (.cells #[.int .i32 0, .int .i32 0, .int .i64 0] 104)).grownBy W (some r) → W.heap[w.heap.size]? = some (.cells #[.int .i32 0, .int .i32 0, .int .i64 0] 104) := fun W hg => (hg.block _ (by simp) (by simp; omega)).trans (World.alloc_heap_new w _)
  unfold cAgg
  go_enter Tryz.func119, Tryz.ntmps119
  go_wp2_with (first
    | (go_at_call 151; refine C1.mono ?_; rintro e w1 ⟨rfl, hg1, hS1⟩; clear C1)
    | (go_at_call 151; refine (C2 _ hS1).mono ?_; rintro e w2 ⟨rfl, hg2, hS2⟩; clear C2)
    | (go_at_call 149; refine (C3 _ hS2).mono ?_; rintro e w3 ⟨rfl, hg3, hS3⟩; have hgg := (hg1.trans hg2).trans hg3; have k3 := fr w3 hgg; have f0 : ∀ o, w3.frozen? ⟨w.heap.size, o, none⟩ = false := by { intro o; simp [World.frozen?, k3] }; have d0 : w3.cell? ⟨w.heap.size, 0, none⟩ = some (.int .i32 0) := by { simp [World.cell?, k3] }; have d1 : w3.cell? ⟨w.heap.size, 1, none⟩ = some (.int .i32 0) := by { simp [World.cell?, k3] }; have d2 : w3.cell? ⟨w.heap.size, 2, none⟩ = some (.int .i64 0) := by { simp [World.cell?, k3] }))
  have gs := gset (gset (gset (World.grownBy.refl w3 (some w.heap.size)) 0 (.int .i32 (a : Int))) 1 (.int .i32 (b : Int))) 2 (.int .i64 (k : Int))
  have kf := set3 k3 (.int .i32 (a : Int)) (.int .i32 (b : Int)) (.int .i64 (k : Int))
  generalize ((w3.setCell ⟨w.heap.size, 0, none⟩ (.int .i32 (a : Int))).setCell ⟨w.heap.size, 1, none⟩ (.int .i32 (b : Int))).setCell ⟨w.heap.size, 2, none⟩ (.int .i64 (k : Int)) = W4 at gs kf ⊢
  have x0 : W4.cell? ⟨w.heap.size, 0, none⟩ = some (.int .i32 (a : Int)) := by simp [World.cell?, kf]
  have x1 : W4.cell? ⟨w.heap.size, 1, none⟩ = some (.int .i32 (b : Int)) := by simp [World.cell?, kf]
  have x2 : W4.cell? ⟨w.heap.size, 2, none⟩ = some (.int .i64 (k : Int)) := by simp [World.cell?, kf]
  refine bodyPost_ret (v := .agg #[.int .i32 (a : Int), .int .i32 (b : Int), .int .i64 (k : Int)]) ?_ rfl ⟨rfl, gnew ((gbut hg0 (some r)).trans hgg) gs (fun x e => by cases e; exact .inl (Nat.le_refl _)), h.row hS3 gs (Nat.le_refl _)⟩
  simp [results, Tryz.results119, go_sem, x0, x1, x2]
set_option maxHeartbeats 1000000 in
theorem decomp_ok (q r : Nat) (vb : Value) (a b k : Nat) (rest : List UInt8) (w : World) (h : St w q r vb (Lib.uvarint a ++ (Lib.uvarint b ++ (Lib.uvarint k ++ rest)))) (ha : a ≤ 1114111) (hb : b ≤ 1114111) (hk : k ≤ 1114111) :
    Calls Tryz.prog 121 #[.pointer (some ⟨q, 0, none⟩)] w fun e w' => e = .returned (dAgg ((a : Int), (b : Int), (k : Int))) ∧ w.grownBy w' (some r) ∧ St w' q r vb rest := by
  have hrl := h.lt
  have hg0 := World.grownBy_alloc w (.cells #[.int .i32 0, .int .i32 0, .int .i32 0] 106) none
  have C1 := code_ok q r vb a _ _ (h.new hg0) ha
  have C2 := fun w h => code_ok q r vb b (Lib.uvarint k ++ rest) w h hb
  have C3 := fun w h => code_ok q r vb k rest w h (by omega)
  have fr : ∀ W, (w.alloc (.cells #[.int .i32 0, .int .i32 0, .int .i32 0] 106)).grownBy W (some r) → W.heap[w.heap.size]? = some (.cells #[.int .i32 0, .int .i32 0, .int .i32 0] 106) := fun W hg => (hg.block _ (by simp) (by simp; omega)).trans (World.alloc_heap_new w _)
  unfold dAgg
  go_enter Tryz.func121, Tryz.ntmps121
  go_wp2_with (first
    | (go_at_call 151; refine C1.mono ?_; rintro e w1 ⟨rfl, hg1, hS1⟩; clear C1)
    | (go_at_call 151; refine (C2 _ hS1).mono ?_; rintro e w2 ⟨rfl, hg2, hS2⟩; clear C2)
    | (go_at_call 151; refine (C3 _ hS2).mono ?_; rintro e w3 ⟨rfl, hg3, hS3⟩; have hgg := (hg1.trans hg2).trans hg3; have k3 := fr w3 hgg; have f0 : ∀ o, w3.frozen? ⟨w.heap.size, o, none⟩ = false := by { intro o; simp [World.frozen?, k3] }; have d0 : w3.cell? ⟨w.heap.size, 0, none⟩ = some (.int .i32 0) := by { simp [World.cell?, k3] }; have d1 : w3.cell? ⟨w.heap.size, 1, none⟩ = some (.int .i32 0) := by { simp [World.cell?, k3] }; have d2 : w3.cell? ⟨w.heap.size, 2, none⟩ = some (.int .i32 0) := by { simp [World.cell?, k3] }))
  have gs := gset (gset (gset (World.grownBy.refl w3 (some w.heap.size)) 0 (.int .i32 (a : Int))) 1 (.int .i32 (b : Int))) 2 (.int .i32 (k : Int))
  have kf := set3 k3 (.int .i32 (a : Int)) (.int .i32 (b : Int)) (.int .i32 (k : Int))
  generalize ((w3.setCell ⟨w.heap.size, 0, none⟩ (.int .i32 (a : Int))).setCell ⟨w.heap.size, 1, none⟩ (.int .i32 (b : Int))).setCell ⟨w.heap.size, 2, none⟩ (.int .i32 (k : Int)) = W4 at gs kf ⊢
  have x0 : W4.cell? ⟨w.heap.size, 0, none⟩ = some (.int .i32 (a : Int)) := by simp [World.cell?, kf]
  have x1 : W4.cell? ⟨w.heap.size, 1, none⟩ = some (.int .i32 (b : Int)) := by simp [World.cell?, kf]
  have x2 : W4.cell? ⟨w.heap.size, 2, none⟩ = some (.int .i32 (k : Int)) := by simp [World.cell?, kf]
  refine bodyPost_ret (v := .agg #[.int .i32 (a : Int), .int .i32 (b : Int), .int .i32 (k : Int)]) ?_ rfl ⟨rfl, gnew ((gbut hg0 (some r)).trans hgg) gs (fun x e => by cases e; exact .inl (Nat.le_refl _)), h.row hS3 gs (Nat.le_refl _)⟩
  simp [results, Tryz.results121, go_sem, x0, x1, x2]
end Go.Proofs.YtpdacbiiaglodaaGreat

/-
  A QUIET REGION INSIDE A ROUND OF A RANGE OVER A FUNCTION: a region that draws its order and only reads is walked once, in the text's order, in any fence (with a round, too), if it defers nothing. No program is named here.
-/
namespace Go.Proofs.YtpdacbiiaglodaaGreat
set_option maxRecDepth 100000
open Go.RowKit

section
variable {F : Fence} {n : Nat} {P : Program} {ops : Array Oper} {md : Region.Mode} {C : World → Prop}

/-- No operation defers. -/
def noDefer (l : List Oper) : Bool := l.all fun o => match o.op with | .defer _ => false | _ => true

theorem noDefer_at {o : Oper} (h : noDefer ops.toList = true) {i : Nat} (hi : ops[i]? = some o) : ∀ c, o.op ≠ .defer c := by
  intro c hc
  have hm : o ∈ ops.toList := by
    rw [Array.mem_toList_iff]
    exact Array.mem_of_getElem? hi
  have := List.all_eq_true.1 h o hm
  rw [hc] at this
  cases this

theorem wpIn_of_quiet_r {o : Oper} {a : Act} {K : Act → Prop} {K' : Act → World → Prop} {Q' : Exit → Act → World → Prop} {w : World} (hnd : ∀ c, o.op ≠ .defer c) (hw : C w) (h : ∀ a w', C w' → K a → K' a w')
    (ha : o.askedIn F P a C) (hh : o.quietIn F n P a C K) : o.wpIn F n P a w K' Q' := by
  obtain ⟨v, h1, h2⟩ := hh
  have h3 := h1 w hw
  unfold Oper.quietAtIn at h3
  unfold Oper.wpIn
  refine ⟨ha w hw, ?_⟩
  rw [Oper.semAt_plain F _ _ hnd]
  generalize (execOp a.eval o).run P w = r at *
  cases r with
  | ok x w' =>
    cases x <;> simp only [Oper.quietUponIn] at h3 <;> simp only [Oper.uponIn]
    case value u =>
      obtain ⟨e1, e2⟩ := h3
      rw [e1, e2]
      exact h _ _ hw h2
    case skip =>
      obtain ⟨e1, e2⟩ := h3
      rw [e1, ← e2]
      exact h _ _ hw h2
    case enter f args =>
      obtain ⟨e1, hd, hc⟩ := h3
      rw [e1]
      exact ⟨hd, hc.mono fun e w'' ⟨he, hw''⟩ => by subst he; exact h _ _ hw'' h2⟩
  | halt x w' => simp only [Oper.quietUponIn] at h3

theorem wpOpIn_of_qOpIn_r {i : Nat} {a : Act} {K : Act → Prop} {K' : Act → World → Prop} {Q' : Exit → Act → World → Prop} {w : World} (hnd : noDefer ops.toList = true) (hC : C w) (h : ∀ a w', C w' → K a → K' a w')
    (hh : qOpIn F n P ops C i K a) : wpOpIn F n P ops Q' i K' a w := by
  unfold qOpIn at hh
  unfold wpOpIn
  split
  · rename_i ho; simp only [ho] at hh; exact h _ _ hC hh
  · rename_i o ho
    simp only [ho] at hh
    obtain ⟨ha, hh⟩ := hh
    split
    · rename_i hw; simp only [hw, if_true] at hh; exact wpIn_of_quiet_r (noDefer_at hnd ho) hC h ha hh
    · rename_i hw; simp only [hw] at hh; exact ⟨ha w hC, h _ _ hC hh⟩

theorem wpAnyIn_of_quiet_r {Q : Act → Prop} {Q' : Exit → Act → World → Prop} (hnd : noDefer ops.toList = true) (hQ : ∀ a w, C w → Q a → Q' .normal a w) : ∀ (fuel : Nat) (listed : Array Bool) (a : Act) (w : World), C w →
    wpAnyQIn F n P md ops C Q fuel listed a → wpAnyIn F n P md ops Q' fuel listed a w
  | 0, _, _, _, hw, h => ⟨h.1, hQ _ _ hw h.2⟩
  | fuel + 1, _, _, _, hw, h => ⟨fun h0 => hQ _ _ hw (h.1 h0), fun i hi => wpOpIn_of_qOpIn_r hnd hw (fun a' w' hw' => wpAnyIn_of_quiet_r hnd hQ fuel _ a' w' hw') (h.2 i hi)⟩

theorem wpIn_region_quiet_r {id : Nat} {Q : Exit → Act → World → Prop} {a : Act} {w : World} {l : List Oper} (hnd : noDefer l = true) (hm : P.follows .mixedOrders = true) (hB : Region.lexB .any l.toArray = true)
    (h : wpQuietIn F n P l.toArray (fun w' => ∃ n, w' = w.drewN n) (fun a' => ∀ w', (∃ n, w' = w.drewN n) → Q .normal a' w') l a) : (Code.region id l.toArray true).wpIn F n P Q a w := by
  simp only [Region.lexB, Bool.and_eq_true] at hB
  refine wpIn_region_any hm (wpAnyIn_of_quiet_r (C := fun w' => ∃ n, w' = w.drewN n) (Q := fun a' => ∀ w', (∃ n, w' = w.drewN n) → Q .normal a' w') (by simpa using hnd) (fun _ w' hw' h => h w' hw') _ _ _ _ ⟨1, rfl⟩ ?_)
  have := wpAnyQIn_lex (F := F) (n := n) (C := fun w' => ∃ n, w' = w.drewN n) (md := .any) hB.1 l 0 (Array.replicate l.length false) a (by simp) (by simpa using hB.2) h
  simpa using this
end
end Go.Proofs.YtpdacbiiaglodaaGreat

/-
  LAYER 5 (norms): the decompositions, told in order: slices.Values at api.Decomp, data.each.
-/
namespace Go.Proofs.YtpdacbiiaglodaaGreat
set_option maxRecDepth 100000
open Go.RowKit Go.Lib
attribute [local go_sem] Oper.semAt_some

def dEnc (x : Dec) : Array Value := #[dAgg x]
def dTold (d : List Dec) (pre : List Dec) (x : Dec) (_W : World) : Prop := d[pre.length]? = some x
def dAll (d : List Dec) (xs : List Dec) (_W : World) : Prop := xs = d

set_option maxHeartbeats 8000000 in
theorem dvals1_tells (n p n0 ib : Nat) (vd : Value) (d : List Dec) (w : World) (hw : Boxed w p 24 vd) (hr : Tri .i32 w vd d)
    (hp : p < n0 ∧ p ≠ ib) (hv : d ≠ [] → ∀ k, vd.ownBlock = some k → k < n0 ∧ k ≠ ib) :
    TellsO Fence.wide (n + 3) Tryz.prog 133 #[.pointer (some ⟨p, 0, none⟩)] dEnc (dTold d) none n0 ib (dAll d) (fun _ _ => True) w := by
  obtain ⟨a, c, rfl, hc, hm⟩ := hr.form
  unfold maxLen at hm
  intro l J Jx W hkx hn0 hJ hJx hY h0
  have hst : Boxed W p 24 (.slice a d.length c) := (hkx.2 p hp.1 hp.2).trans hw
  have hrW : Tri .i32 W (.slice a d.length c) d := hr.heap (fun hne k e => hkx.2 k (hv hne k e).1 (hv hne k e).2)
  clear hw hr hkx
  have hc1 := hst.cell
  refine callsIn_of_wp Tryz.func133 rfl trivial ?_ rfl
  simp only [Tryz.ntmps133, List.size_toArray, List.length_cons, List.length_nil, Nat.reduceAdd, Nat.reduceSub, Array.replicate_succ, Array.replicate_zero, List.push_toArray, List.append_toArray, List.nil_append, List.cons_append]
  gi_wp2
  gi_loopw [7] (fun va wr => ∃ (pre : List Dec) (k : Nat), va = .int .i64 (k : Int) ∧ Hid (pre = d.take k) ∧ k ≤ d.length ∧ J pre wr ∧ Hid (Tri .i32 wr (.slice a d.length c) d) ∧ n0 ≤ wr.heap.size) (fun va _ => d.length - (RowKit.intOf va).toNat)
  case atStart => exact ⟨[], 0, rfl, Lib.hid rfl, Nat.zero_le _, h0, Lib.hid hrW, hn0⟩
  case round =>
    clear h0 hst hrW hn0 hc1
    obtain ⟨pre, k, rfl, hpl, hk, hj, hR, hn0⟩ := hrel
    have hpk : pre.length = k := by rw [hpl.out]; simp; omega
    by_cases hlt : k < d.length
    · obtain ⟨x, hx⟩ : ∃ x, d[k] = x := ⟨_, rfl⟩
      obtain ⟨b, off, rfl, c1, c2, c3⟩ := hR.out.get (i := k) hlt
      rw [hx] at c1 c2 c3
      have hget : d[pre.length]? = some x := by rw [hpk, List.getElem?_eq_getElem hlt, hx]
      have hnx : Hid (pre ++ [x] = d.take (k + 1)) := Lib.hid (by rw [hpl.out, List.take_succ_eq_append_getElem hlt, hx])
      obtain ⟨w2, hw2⟩ : ∃ w2, w2 = wr.alloc (.cells #[.int .i32 x.1, .int .i32 x.2.1, .int .i32 x.2.2] 106) := ⟨_, rfl⟩
      have hg2 : wr.grownBy w2 none := by rw [hw2]; exact World.grownBy_alloc wr _ none
      have hR2 := hR.out.all hg2
      obtain ⟨fn, tmps, assign, body, hy, hRd⟩ := hY pre x w2 (hJ _ _ _ hj hg2) hget (Nat.le_trans hn0 hg2.size)
      unfold dEnc dAgg at hy
      replace hR2 := Lib.hid hR2
      replace hget := Lib.hid hget
      replace hw2 := Lib.hid hw2
      clear hR hx hpl
      gi_wp2_with fail
      rw [← hw2.out, hy]
      gi_wp2
      refine hRd.mono ?_
      rintro e3 W5 (⟨rfl, hj3, hk3⟩ | ⟨rfl, hj3, hk3⟩)
      all_goals gi_wp2
      all_goals first
        | exact ⟨⟨pre ++ [x], k + 1, by go_num, hnx, by omega, hj3, Lib.hid (hR2.out.heap (fun hne q e => hk3.2 q (hv hne q e).1 (hv hne q e).2)), Nat.le_trans (Nat.le_trans hn0 hg2.size) hk3.1⟩, by simp [RowKit.intOf]; omega⟩
        | (refine bodyPost_ret (results_none rfl _ _ _) rfl ?_; exact ⟨⟨_, rfl⟩, .inr ⟨_, trivial, hj3⟩⟩)
        | (go_end0; exact ⟨⟨_, rfl⟩, .inr ⟨_, trivial, hj3⟩⟩)
    · obtain rfl : k = d.length := by omega
      have hall : dAll d pre wr := by unfold dAll; rw [hpl.out, List.take_length]
      clear hR
      gi_wp2
      all_goals first
        | (refine bodyPost_ret (results_none rfl _ _ _) rfl ?_; exact ⟨⟨_, rfl⟩, .inl ⟨pre, hall, hj⟩⟩)
        | (go_end0; exact ⟨⟨_, rfl⟩, .inl ⟨pre, hall, hj⟩⟩)

set_option maxHeartbeats 1000000 in
theorem dvals_any (a : Option Addr) (n c : Nat) (w : World) :
    Calls Tryz.prog 99 #[.slice a n c] w fun e w' => e = .returned (.func (.func 133) #[] #[.pointer (some ⟨w.heap.size, 0, none⟩)]) ∧ Boxed w' w.heap.size 24 (.slice a n c) ∧ w.grownBy w' none := by
  have hmf : ∀ (fn : Fn) (first cap : Array Value) (w : World), (Instr.makeFunc fn first cap).run Tryz.prog w = .ok (.func fn first cap) w := fun _ _ _ _ => rfl
  go_enter Tryz.func99, Tryz.ntmps99
  go_wp2
  go_ret
  exact ⟨rfl, Boxed.new w _ _, World.grownBy_alloc w _ none⟩

set_option maxHeartbeats 1000000 in
theorem each_any (vc vd : Value) (w : World) (hd : ∃ a n c, vd = .slice a n c) :
    Calls Tryz.prog 56 #[datV vc vd] w fun e w' => ∃ p, e = .returned (.func (.func 133) #[] #[.pointer (some ⟨p, 0, none⟩)]) ∧ w.heap.size ≤ p ∧ Boxed w' p 24 vd ∧ w.grownBy w' none := by
  obtain ⟨a, n, c, rfl⟩ := hd
  have hV := fun w => dvals_any a n c w
  have g0 := World.grownBy_alloc w (.cells #[vc, .slice a n c] 33) none
  unfold datV
  go_enter Tryz.func56, Tryz.ntmps56
  go_wp2_with (go_at_call 99; refine (hV _).mono ?_; rintro e w' ⟨rfl, hb, hg⟩)
  go_ret
  rw [World.size_alloc] at hb
  exact ⟨_, rfl, by omega, hb, g0.trans hg⟩
end Go.Proofs.YtpdacbiiaglodaaGreat
