/-
  LAYER 5 (norms): the reference's Build, of data that may be.
-/
import Derived.Test.YtpdacbiiaglodaaGreatQG28
import Derived.Test.YtpdacbiiaglodaaGreatQG15
import Derived.Test.YtpdacbiiaglodaaGreatQG29
import Derived.Test.YtpdacbiiaglodaaGreatQG10
namespace Go.Proofs.YtpdacbiiaglodaaGreat
set_option maxRecDepth 100000
open Go.RowKit Go.Lib

/-- Runes at the beginning of a block. -/
def IntsAt32 (w : World) (lb : Nat) (l : List Nat) : Prop := ∀ (i n : Nat), l[i]? = some n → w.cell? ⟨lb, i, none⟩ = some (.int .i32 (n : Int))
theorem ints32_three (w : World) (a b k : Nat) : IntsAt32 (w.alloc (.cells #[.int .i32 (a : Int), .int .i32 (b : Int), .int .i32 (k : Int)] 21)) w.heap.size [a, b, k] := by
  intro i n h
  have hn := World.alloc_heap_new w (.cells #[.int .i32 (a : Int), .int .i32 (b : Int), .int .i32 (k : Int)] 21)
  match i, h with
  | 0, h => simp at h; subst h; simp only [World.cell?, hn]; rfl
  | 1, h => simp at h; subst h; simp only [World.cell?, hn]; rfl
  | 2, h => simp at h; subst h; simp only [World.cell?, hn]; rfl

theorem uvarint_len (n : Nat) (h : n < 18446744073709551616) : (Lib.uvarint n).length ≤ 10 := ulen_le h

set_option maxHeartbeats 8000000 in
theorem refBuild_P (vc vd : Value) (c : List Cls) (d : List Dec) (P FP : List UInt8) (hP : Hid (P = payload c d)) (hFP : Hid (FP = frame P)) (w : World) (hT : Dat w vc vd c d) (hgd : good c d = true) :
    Calls Tryz.prog 12 #[vc, vd] w fun e w' => ∃ v, e = .returned (.tuple #[v, .int .i64 0]) ∧ Reads w' v FP ∧ w.grownBy w' none := by
  obtain ⟨g1, g2, g3, g4⟩ := good_parts hgd
  have hCk := refCheck_ok vc vd c d w hT hgd
  obtain ⟨hTc, hTd⟩ := hT
  obtain ⟨a, cp, rfl, hc, hm⟩ := hTd.form
  obtain ⟨ac, cc, rfl, hcc, hmc⟩ := hTc.form
  unfold maxLen at hm hmc
  obtain ⟨i0, hinf, hz0, hz1, hz2⟩ := info_parts infoU8
  have hU := fun (n : Nat) (h : n < 18446744073709551616) w => refUint_any n h w
  replace hTc := Lib.hid hTc
  replace hTd := Lib.hid hTd
  replace g3 := Lib.hid g3
  replace g4 := Lib.hid g4
  clear hgd
  have hmk4 : mark.length = 4 := rfl
  go_enter Tryz.func12, Tryz.ntmps12
  go_wp2_with (first
    | (go_at_call 42; refine hCk.mono ?_; rintro e w1 ⟨rfl, hg1⟩; have kc := Lib.run_convert_bytes_const (P := Tryz.prog) w1 27 5 #[.int .u8 78, .int .u8 82, .int .u8 77, .int .u8 49] 4 4 Tryz.underlying27 Tryz.underlying5; have hgb := gb_mark w1 w.heap.size hg1.size; have hg1a := galloc hg1 (.cells #[.int .u8 78, .int .u8 82, .int .u8 77, .int .u8 49] 5 (4, 5)))
    | (go_at_call 43; refine (hU c.length (by omega) _).mono ?_; rintro e w2 ⟨u, rfl, hou, hg2⟩; have hgb2 := hgb.new hg2; have hgw2 := hg1a.trans hg2)
    | (at_builtin; refine wpList_append_gb _ rfl _ _ 27 rfl w.heap.size i0 Tryz.underlying27 hinf hz0 hz1 hz2 _ mark rfl hgb2 u _ rfl hou.reads (uvarint_ne _) ?b1 hgw2.size ?_))
  case b1 =>
    have := uvarint_len c.length (by omega)
    omega
  intro v3 w3 ho3 hg3 hl3
  have hgw3 : w.grownBy w3 none := gnew hgw2 hg3 (fun r e => by simp [Value.ownBlock] at e; left; have := hg1.size; omega)
  rw [show mark ++ Lib.uvarint c.length = mark ++ nums [c.length] by simp [nums]] at ho3
  clear hgb hgb2 kc hou hg2 hg3 hl3 hgw2 hg1a hCk
  go_wp2
  go_loopw [7, 32] (fun v7 vi wr => ∃ (i : Nat), vi = .int .i64 (i : Int) ∧ i ≤ c.length ∧ Owns wr w.heap.size 5 v7 (mark ++ nums [c.length] ++ nums ((c.take i).flatMap tri3)) ∧ w.grownBy wr none) (fun _ vi _ => c.length - (RowKit.intOf vi).toNat)
  case atStart => exact ⟨0, rfl, Nat.zero_le _, by simpa [nums] using ho3, hgw3⟩
  case round =>
    clear ho3 hgw3
    obtain ⟨i, rfl, hi, hO, hg⟩ := hrel
    by_cases hlt : i < c.length
    · obtain ⟨q, hq⟩ : ∃ q, c[i] = q := ⟨_, rfl⟩
      obtain ⟨b, off, rfl, c1, c2, c3⟩ := (hTc.out.all hg).get hlt
      rw [hq] at c1 c2 c3
      obtain ⟨na, nb, nk, rfl, la, lb, lk⟩ := cls_nat g3.out (Int.le_refl 0) (hq ▸ List.getElem_mem hlt)
      dsimp only at c1 c2 c3
      have htk : Hid (mark ++ nums [c.length] ++ nums ((c.take (i + 1)).flatMap tri3) = (mark ++ nums [c.length] ++ nums ((c.take i).flatMap tri3)) ++ nums [na, nb, nk]) := Lib.hid (by
        rw [List.take_succ_eq_append_getElem hlt, hq, List.flatMap_append, nums_append, List.append_assoc, List.append_assoc, List.append_assoc]
        simp [tri3])
      have hml : (mark ++ nums [c.length] ++ nums ((c.take i).flatMap tri3)).length ≤ 200000 := by
        have h1 := nums_length ((c.take i).flatMap tri3) (fun n hn => by
          have := flat_lt (c.take i) (fun x hx => by obtain ⟨a, b, k, h, h1, h2, h3⟩ := cls_nat g3.out (Int.le_refl 0) (List.mem_of_mem_take hx); exact ⟨a, b, k, h, h1, h2, by omega⟩) n hn
          omega)
        have h2 := nums_length [c.length] (by simp; omega)
        rw [flat_length] at h1
        simp only [List.length_append, List.length_take, List.length_cons, List.length_nil, hmk4] at h1 h2 ⊢
        omega
      generalize mark ++ nums [c.length] ++ nums ((c.take i).flatMap tri3) = M at hO htk hml
      have hI3 : ∀ o1, IntsAt ((wr.alloc o1).alloc (.cells #[.int .i64 (na : Int), .int .i64 (nb : Int), .int .i64 (nk : Int)] 3)) (wr.heap.size + 1) [na, nb, nk] := fun o1 => by
        have := ints_three (wr.alloc o1) na nb nk
        rwa [World.size_alloc] at this
      have hvl := hO.lt
      have hla : ∀ n ∈ [na, nb, nk], n ≤ 1114111 := by simp; omega
      clear hq
      obtain ⟨wo, rfl⟩ : ∃ wo, wo = wr := ⟨_, rfl⟩
      go_wp2
      go_loopw [7, 46] (fun v7 vj wi => ∃ (j : Nat), vj = .int .i64 (j : Int) ∧ j ≤ 3 ∧ Owns wi w.heap.size 5 v7 (M ++ nums ([na, nb, nk].take j)) ∧ w.grownBy wi none ∧ IntsAt wi (wo.heap.size + 1) [na, nb, nk] ∧ v7.ownBlock ≠ some (wo.heap.size + 1)) (fun _ vj _ => 3 - (RowKit.intOf vj).toNat)
      case atStart => exact ⟨0, rfl, by omega, by simpa [nums] using hO.new (galloc (World.grownBy_alloc wo _ none) _), galloc (galloc hg _) _, hI3 _, fun e => by have := (hvl _ e).2; omega⟩
      case round =>
        clear hO hg hI3 hvl c1 c2 c3
        obtain ⟨j, rfl, hj, hO, hg, hI, hne⟩ := hrel
        by_cases hlj : j < 3
        · obtain ⟨n, hn⟩ : ∃ n, [na, nb, nk][j]? = some n := ⟨_, List.getElem?_eq_getElem (by simpa using hlj)⟩
          have k1 := hI j n hn
          have hnl := hla n (List.mem_of_getElem? hn)
          have hul := uvarint_len n (by omega)
          have hune := uvarint_ne n
          have hUn := hU n (by omega)
          have hlbl := World.block_lt_of_cell? _ _ (hI 0 na rfl)
          have htj : Hid (M ++ nums ([na, nb, nk].take (j + 1)) = (M ++ nums ([na, nb, nk].take j)) ++ Lib.uvarint n) := Lib.hid (by
            obtain ⟨h, hn'⟩ := List.getElem?_eq_some_iff.1 hn
            rw [List.take_succ_eq_append_getElem h, hn', nums_snoc, List.append_assoc])
          have hol : (M ++ nums ([na, nb, nk].take j)).length ≤ 1000000 := by
            have := nums_length ([na, nb, nk].take j) (fun x hx => by have := hla x (List.mem_of_mem_take hx); omega)
            rw [List.length_append]
            rw [List.length_take] at this
            simp at this
            omega
          generalize M ++ nums ([na, nb, nk].take j) = M2 at hO htj hol
          have hvl := hO.lt
          replace hI := Lib.hid hI
          clear hn
          have hlbl' : wo.heap.size + 1 < wr.heap.size := hlbl
          clear hlbl
          go_wp2_with (first
            | (go_at_call 43; refine (hUn _).mono ?_; rintro e w5 ⟨u5, rfl, hou, hg5⟩; have hO5 := hO.new hg5; have hgw5 := hg.trans hg5)
            | (at_builtin; refine wpList_append_gb _ rfl _ _ 27 rfl w.heap.size i0 Tryz.underlying27 hinf hz0 hz1 hz2 u7 M2 rfl (.inl hO5) u5 _ rfl hou.reads hune (by omega) hgw5.size ?_; intro v6 w6 ho6 hg6 hloc))
          have hgw6 : w.grownBy w6 none := gnew hgw5 hg6 (fun r e => .inl (hvl r e).1)
          have hI6 : IntsAt w6 (wo.heap.size + 1) [na, nb, nk] := fun k m h => hg6.cell (hg5.cell (hI.out k m h) (by simp)) hne.symm
          have hne6 : v6.ownBlock ≠ some (wo.heap.size + 1) := by
            rcases hloc with h | ⟨k, h, hk⟩
            · rw [h]; exact hne
            · rw [h]; intro e; cases e; have := hg5.size; omega
          exact ⟨⟨j + 1, by go_num, by omega, by rw [htj.out]; exact ho6, hgw6, hI6, hne6⟩, by simp [RowKit.intOf]; omega⟩
        · obtain rfl : j = 3 := by omega
          have hO3 : Owns wr w.heap.size 5 u7 (M ++ nums [na, nb, nk]) := hO
          clear hO hI hne
          go_wp2
          exact ⟨⟨i + 1, by go_num, by omega, by rw [htk.out]; exact hO3, hg⟩, by simp [RowKit.intOf]; omega⟩
    · obtain rfl : i = c.length := by omega
      rw [List.take_length, show mark ++ nums [c.length] ++ nums (c.flatMap tri3) = headC c from rfl] at hO
      have hch : (headC c).length ≤ 200000 := by
        have h1 := nums_length (c.flatMap tri3) (fun n hn => by
          have := flat_lt c (fun x hx => by obtain ⟨a, b, k, h, h1, h2, h3⟩ := cls_nat g3.out (Int.le_refl 0) hx; exact ⟨a, b, k, h, h1, h2, by omega⟩) n hn
          omega)
        have h2 := nums_length [c.length] (by simp; omega)
        rw [flat_length] at h1
        unfold headC
        simp only [List.length_append, List.length_cons, List.length_nil, hmk4] at h1 h2 ⊢
        omega
      have hvl := hO.lt
      have hul := uvarint_len d.length (by omega)
      clear hlt hi
      go_wp2_with (first
        | (go_at_call 43; refine (hU d.length (by omega) _).mono ?_; rintro e w4 ⟨u4, rfl, hou, hg4⟩; have hO4 := hO.new hg4; have hgw4 := hg.trans hg4)
        | (at_builtin; refine wpList_append_gb _ rfl _ _ 27 rfl w.heap.size i0 Tryz.underlying27 hinf hz0 hz1 hz2 u7 (headC c) rfl (.inl hO4) u4 _ rfl hou.reads (uvarint_ne _) (by omega) hgw4.size ?_; intro v5 w5 ho5 hg5 hl5))
      have hgw5 : w.grownBy w5 none := gnew hgw4 hg5 (fun r e => .inl (hvl r e).1)
      rw [show headC c ++ Lib.uvarint d.length = headC c ++ nums [d.length] by simp [nums]] at ho5
      clear hO hg hvl hul hO4 hgw4 hou hg5 hl5 hg4
      go_loopw [7, 65] (fun v7 vi wr => ∃ (i : Nat), vi = .int .i64 (i : Int) ∧ i ≤ d.length ∧ Owns wr w.heap.size 5 v7 (headC c ++ nums [d.length] ++ nums ((d.take i).flatMap tri3)) ∧ w.grownBy wr none) (fun _ vi _ => d.length - (RowKit.intOf vi).toNat)
      case atStart => exact ⟨0, rfl, Nat.zero_le _, by simpa [nums] using ho5, hgw5⟩
      case round =>
        clear ho5 hgw5
        obtain ⟨i, rfl, hi, hO, hg⟩ := hrel
        by_cases hlt : i < d.length
        · obtain ⟨q, hq⟩ : ∃ q, d[i] = q := ⟨_, rfl⟩
          obtain ⟨b, off, rfl, c1, c2, c3⟩ := (hTd.out.all hg).get hlt
          rw [hq] at c1 c2 c3
          obtain ⟨na, nb, nk, rfl, la, lb, lk⟩ := dec_nat g4.out (hq ▸ List.getElem_mem hlt)
          dsimp only at c1 c2 c3
          have htk : Hid (headC c ++ nums [d.length] ++ nums ((d.take (i + 1)).flatMap tri3) = (headC c ++ nums [d.length] ++ nums ((d.take i).flatMap tri3)) ++ nums [na, nb, nk]) := Lib.hid (by
            rw [List.take_succ_eq_append_getElem hlt, hq, List.flatMap_append, nums_append, List.append_assoc, List.append_assoc, List.append_assoc]
            simp [tri3])
          have hml : (headC c ++ nums [d.length] ++ nums ((d.take i).flatMap tri3)).length ≤ 600000 := by
            have h1 := nums_length ((d.take i).flatMap tri3) (fun n hn => by
              have := flat_lt (d.take i) (fun x hx => dec_nat g4.out (List.mem_of_mem_take hx)) n hn
              omega)
            have h2 := nums_length [d.length] (by simp; omega)
            rw [flat_length] at h1
            simp only [List.length_append, List.length_take, List.length_cons, List.length_nil] at h1 h2 ⊢
            omega
          generalize headC c ++ nums [d.length] ++ nums ((d.take i).flatMap tri3) = M at hO htk hml
          have hI3 : ∀ o1, IntsAt32 ((wr.alloc o1).alloc (.cells #[.int .i32 (na : Int), .int .i32 (nb : Int), .int .i32 (nk : Int)] 21)) (wr.heap.size + 1) [na, nb, nk] := fun o1 => by
            have := ints32_three (wr.alloc o1) na nb nk
            rwa [World.size_alloc] at this
          have hvl := hO.lt
          have hla : ∀ n ∈ [na, nb, nk], n ≤ 1114111 := by simp; omega
          clear hq
          obtain ⟨wo, rfl⟩ : ∃ wo, wo = wr := ⟨_, rfl⟩
          go_wp2
          go_loopw [7, 77] (fun v7 vj wi => ∃ (j : Nat), vj = .int .i64 (j : Int) ∧ j ≤ 3 ∧ Owns wi w.heap.size 5 v7 (M ++ nums ([na, nb, nk].take j)) ∧ w.grownBy wi none ∧ IntsAt32 wi (wo.heap.size + 1) [na, nb, nk] ∧ v7.ownBlock ≠ some (wo.heap.size + 1)) (fun _ vj _ => 3 - (RowKit.intOf vj).toNat)
          case atStart => exact ⟨0, rfl, by omega, by simpa [nums] using hO.new (galloc (World.grownBy_alloc wo _ none) _), galloc (galloc hg _) _, hI3 _, fun e => by have := (hvl _ e).2; omega⟩
          case round =>
            clear hO hg hI3 hvl c1 c2 c3
            obtain ⟨j, rfl, hj, hO, hg, hI, hne⟩ := hrel
            by_cases hlj : j < 3
            · obtain ⟨n, hn⟩ : ∃ n, [na, nb, nk][j]? = some n := ⟨_, List.getElem?_eq_getElem (by simpa using hlj)⟩
              have k1 := hI j n hn
              have hnl := hla n (List.mem_of_getElem? hn)
              have hul := uvarint_len n (by omega)
              have hune := uvarint_ne n
              have hUn := hU n (by omega)
              have hlbl := World.block_lt_of_cell? _ _ (hI 0 na rfl)
              have htj : Hid (M ++ nums ([na, nb, nk].take (j + 1)) = (M ++ nums ([na, nb, nk].take j)) ++ Lib.uvarint n) := Lib.hid (by
                obtain ⟨h, hn'⟩ := List.getElem?_eq_some_iff.1 hn
                rw [List.take_succ_eq_append_getElem h, hn', nums_snoc, List.append_assoc])
              have hol : (M ++ nums ([na, nb, nk].take j)).length ≤ 1000000 := by
                have := nums_length ([na, nb, nk].take j) (fun x hx => by have := hla x (List.mem_of_mem_take hx); omega)
                rw [List.length_append]
                rw [List.length_take] at this
                simp at this
                omega
              generalize M ++ nums ([na, nb, nk].take j) = M2 at hO htj hol
              have hvl := hO.lt
              replace hI := Lib.hid hI
              clear hn
              have hlbl' : wo.heap.size + 1 < wr.heap.size := hlbl
              clear hlbl
              go_wp2_with (first
                | (go_at_call 43; refine (hUn _).mono ?_; rintro e w5 ⟨u5, rfl, hou, hg5⟩; have hO5 := hO.new hg5; have hgw5 := hg.trans hg5)
                | (at_builtin; refine wpList_append_gb _ rfl _ _ 27 rfl w.heap.size i0 Tryz.underlying27 hinf hz0 hz1 hz2 u7 M2 rfl (.inl hO5) u5 _ rfl hou.reads hune (by omega) hgw5.size ?_; intro v6 w6 ho6 hg6 hloc))
              have hgw6 : w.grownBy w6 none := gnew hgw5 hg6 (fun r e => .inl (hvl r e).1)
              have hI6 : IntsAt32 w6 (wo.heap.size + 1) [na, nb, nk] := fun k m h => hg6.cell (hg5.cell (hI.out k m h) (by simp)) hne.symm
              have hne6 : v6.ownBlock ≠ some (wo.heap.size + 1) := by
                rcases hloc with h | ⟨k, h, hk⟩
                · rw [h]; exact hne
                · rw [h]; intro e; cases e; have := hg5.size; omega
              exact ⟨⟨j + 1, by go_num, by omega, by rw [htj.out]; exact ho6, hgw6, hI6, hne6⟩, by simp [RowKit.intOf]; omega⟩
            · obtain rfl : j = 3 := by omega
              have hO3 : Owns wr w.heap.size 5 u7 (M ++ nums [na, nb, nk]) := hO
              clear hO hI hne
              go_wp2
              exact ⟨⟨i + 1, by go_num, by omega, by rw [htk.out]; exact hO3, hg⟩, by simp [RowKit.intOf]; omega⟩
        · obtain rfl : i = d.length := by omega
          rw [List.take_length, show headC c ++ nums [d.length] ++ nums (d.flatMap tri3) = payload c d from rfl, ← hP.out] at hO
          have hpl : P.length ≤ 16777216 := by
            rw [hP.out]
            have h1 := nums_length (d.flatMap tri3) (fun n hn => by
              have := flat_lt d (fun x hx => dec_nat g4.out hx) n hn
              omega)
            have h2 := nums_length [d.length] (by simp; omega)
            rw [flat_length] at h1
            unfold payload
            simp only [List.length_append, List.length_cons, List.length_nil] at h1 h2 ⊢
            omega
          obtain ⟨xa, xc, rfl⟩ := hO.reads.form
          have hF := refFrame_ok xa _ xc P wr hO.reads hpl
          rw [← hFP.out] at hF
          clear hO hlt hi hU hch hpl hP hFP hTc hTd g3 g4
          generalize P.length = lp at hF ⊢
          go_wp2_with (go_at_call 44; refine hF.mono ?_; rintro e w9 ⟨v9, rfl, ho9, hg9⟩; have hr9 := ho9.reads; clear ho9)
          go_ret2
          exact ⟨v9, rfl, hr9, hg.trans hg9⟩
theorem refBuild_ok (vc vd : Value) (c : List Cls) (d : List Dec) (w : World) (hT : Dat w vc vd c d) (hgd : good c d = true) :
    Calls Tryz.prog 12 #[vc, vd] w fun e w' => ∃ v, e = .returned (.tuple #[v, .int .i64 0]) ∧ Reads w' v (frame (payload c d)) ∧ w.grownBy w' none :=
  refBuild_P vc vd c d _ _ (Lib.hid rfl) (Lib.hid rfl) w hT hgd
end Go.Proofs.YtpdacbiiaglodaaGreat
