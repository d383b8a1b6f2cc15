/-
  LAYER 7 (weight): Read.
-/
import Derived.Test.YtjdpnklnhiigpaaWShowE
import Derived.Test.YtjdpnklnhiigpaaWRd
import Derived.Test.YtjdpnklnhiigpaaWCheck
namespace Go.Proofs.Ytjdpnklnhiigpaa
set_option maxRecDepth 100000
open Go.RowKit Go.Lib
attribute [local go_sem] Oper.semAt_some

def elNone' : Value := .agg #[.int .i64 0, .int .i64 0, .int .i64 0, .bool false]

/-- What Read takes a text for. -/
def rdEl (s : ByteArray) : El := ⟨rdS s 2 4, rdS s 7 4, rdS s 12 4, bAt s 1 == 42⟩
def formOf (s : ByteArray) : Bool := decide (showL (rdS s 2 4) (rdS s 7 4) (rdS s 12 4) (bAt s 1 == 42) = s.data.toList.take 17)

theorem bAt_get (s : ByteArray) (k : Nat) : bAt s k = (s.data.toList[k]?).getD 0 := by
  unfold bAt
  congr 1
  by_cases h : k < s.size
  · rw [ByteArray.getElem?_lt' _ _ h, List.getElem?_eq_getElem (by simpa using h)]
    rfl
  · rw [ByteArray.getElem?_ge' _ _ h, List.getElem?_eq_none (by simpa using h)]
theorem ext_list (s : ByteArray) (i n : Nat) : (s.extract i n).data.toList = (s.data.toList.take n).drop i := by
  rw [ByteArray.data_extract, Array.toList_extract, List.extract_eq_take_drop, List.drop_take]

theorem bAt_extract (s : ByteArray) (i n k : Nat) (h : i + k < n) : bAt (s.extract i n) k = bAt s (i + k) := by
  rw [bAt_get, bAt_get, ext_list, List.getElem?_drop, List.getElem?_take_of_lt h]
theorem rdS_extract (s : ByteArray) (i : Nat) (h : i + 4 ≤ s.size) : rdS (s.extract i s.size) 0 4 = rdS s i 4 := by
  simp only [rdS, Nat.zero_add, Nat.add_zero]
  rw [bAt_extract s i s.size 0 (by omega), bAt_extract s i s.size 1 (by omega), bAt_extract s i s.size 2 (by omega), bAt_extract s i s.size 3 (by omega)]
  rfl
theorem star_any (s : ByteArray) (h : 2 ≤ s.size) : ((s.extract 1 2).toList == [42]) = (bAt s 1 == 42) := by
  rw [ByteArray.toList_eq, ext_list, bAt_get]
  have hl : 2 ≤ s.data.toList.length := by simpa using h
  match s.data.toList, hl with
  | a :: b :: l, _ => simp

theorem ElAt.store {w : World} {q : Nat} {x : El} (h : ElAt w q x) (y : El) : ElAt ((((w.setCell ⟨q, 0, none⟩ (.int .i64 y.p)).setCell ⟨q, 1, none⟩ (.int .i64 y.s)).setCell ⟨q, 2, none⟩ (.int .i64 y.t)).setCell ⟨q, 3, none⟩ (.bool y.v)) q y :=
  heap_setCell_same _ q 3 _ _ _ (heap_setCell_same _ q 2 _ _ _ (heap_setCell_same _ q 1 _ _ _ (heap_setCell_same w q 0 _ _ _ h)))
theorem gstore4 {W V : World} {k : Nat} (h : W.grownBy V none) (hk : W.heap.size ≤ k) (a b c d : Value) : W.grownBy ((((V.setCell ⟨k, 0, none⟩ a).setCell ⟨k, 1, none⟩ b).setCell ⟨k, 2, none⟩ c).setCell ⟨k, 3, none⟩ d) none :=
  gnew h (gset (gset (gset (gset (World.grownBy.refl V (some k)) 0 a) 1 b) 2 c) 3 d) (fun r e => by cases e; exact .inl hk)

theorem read_short (s : ByteArray) (h : s.size < 17) (w : World) : Calls Try.prog 15 #[.string s] w fun e w' => e = .returned (.tuple #[elNone', .int .i64 0, .int .i64 3]) ∧ w.grownBy w' none := by
  have hg := World.grownBy_alloc w (.cells #[.int .i64 0, .int .i64 0, .int .i64 0, .bool false] 23) none
  go_enter Try.func15, Try.ntmps15
  go_wp2
  refine bodyPost_ret (v := .tuple #[elNone', .int .i64 0, .int .i64 3]) (by simp [results, Try.results15, go_sem, elNone']) rfl ?_
  exact ⟨rfl, hg⟩

set_option maxHeartbeats 4000000 in
theorem read_long (s : ByteArray) (h : 17 ≤ s.size) (hs : s.size ≤ 200000000000000) (w : World) : Calls Try.prog 15 #[.string s] w fun e w' => e = .returned (.tuple (if formOf s = true then (if elCheck (rdEl s) = 0 then #[(rdEl s).agg, .int .i64 17, .int .i64 0] else #[elNone', .int .i64 0, .int .i64 (elCheck (rdEl s))]) else #[elNone', .int .i64 0, .int .i64 3])) ∧ w.grownBy w' none := by
  have hg := World.grownBy_alloc w (.cells #[.int .i64 0, .int .i64 0, .int .i64 0, .bool false] 23) none
  have hR := ElAt.new w elNone
  unfold elNone at hR
  dsimp only at hR
  obtain ⟨W, hW⟩ : ∃ W, W = w.alloc (.cells #[.int .i64 0, .int .i64 0, .int .i64 0, .bool false] 23) := ⟨_, rfl⟩
  rw [← hW] at hg hR
  have q2 : 2 ≤ (s.size : Int) := by omega
  have q7 : 7 ≤ (s.size : Int) := by omega
  have q12 : 12 ≤ (s.size : Int) := by omega
  have q17 : 17 ≤ (s.size : Int) := by omega
  have r2 := fun w => read_any (s.extract 2 s.size) (by simp [ByteArray.size_extract]; omega) w
  have r7 := fun w => read_any (s.extract 7 s.size) (by simp [ByteArray.size_extract]; omega) w
  have r12 := fun w => read_any (s.extract 12 s.size) (by simp [ByteArray.size_extract]; omega) w
  rw [rdS_extract s 2 (by omega)] at r2
  rw [rdS_extract s 7 (by omega)] at r7
  rw [rdS_extract s 12 (by omega)] at r12
  have hst := star_any s (by omega)
  have b2 := rdS_4 s 2 4 (Nat.le_refl _)
  have b7 := rdS_4 s 7 4 (Nat.le_refl _)
  have b12 := rdS_4 s 12 4 (Nat.le_refl _)
  unfold rdEl formOf
  obtain ⟨p, hp⟩ : ∃ p, p = rdS s 2 4 := ⟨_, rfl⟩
  obtain ⟨q, hq⟩ : ∃ q, q = rdS s 7 4 := ⟨_, rfl⟩
  obtain ⟨t, ht⟩ : ∃ t, t = rdS s 12 4 := ⟨_, rfl⟩
  obtain ⟨v, hv⟩ : ∃ v, v = (bAt s 1 == 42) := ⟨_, rfl⟩
  rw [← hp] at b2 r2 ⊢
  rw [← hq] at b7 r7 ⊢
  rw [← ht] at b12 r12 ⊢
  rw [← hv] at hst ⊢
  clear hp hq ht hv
  have hSh := fun w => show_ok p q t v w b2 b7 b12
  have hCk := fun w => check_any ⟨p, q, t, v⟩ w
  obtain ⟨s2, e2⟩ : ∃ x, s.extract 2 s.size = x := ⟨_, rfl⟩
  obtain ⟨s7, e7⟩ : ∃ x, s.extract 7 s.size = x := ⟨_, rfl⟩
  obtain ⟨s12, e12⟩ : ∃ x, s.extract 12 s.size = x := ⟨_, rfl⟩
  obtain ⟨s1, e1⟩ : ∃ x, s.extract 1 2 = x := ⟨_, rfl⟩
  obtain ⟨s17, e17⟩ : ∃ x, s.extract 0 17 = x := ⟨_, rfl⟩
  have hne : ((⟨(showL p q t v).toArray⟩ : ByteArray).toList != (s.extract 0 17).toList) = !decide (showL p q t v = s.data.toList.take 17) := by
    rw [ByteArray.toList_mk, ByteArray.toList_eq, ext_list, List.drop_zero]
    rw [Bool.eq_iff_iff]
    simp
  obtain ⟨L, hL⟩ : ∃ x : ByteArray, ⟨(showL p q t v).toArray⟩ = x := ⟨_, rfl⟩
  obtain ⟨f, hf⟩ : ∃ f, decide (showL p q t v = s.data.toList.take 17) = f := ⟨_, rfl⟩
  rw [hL, hf] at hne
  rw [hf]
  clear hf
  rw [e2] at r2
  rw [e7] at r7
  rw [e12] at r12
  rw [e1] at hst
  rw [e17] at hne
  rw [hL] at hSh
  unfold El.agg at hCk ⊢
  dsimp only at hCk ⊢
  obtain ⟨ck, hck⟩ : ∃ x, elCheck ⟨p, q, t, v⟩ = x := ⟨_, rfl⟩
  rw [hck] at hCk ⊢
  clear hck hL
  obtain ⟨T, hT⟩ : ∃ T : Array Value, T = (if f = true then (if ck = 0 then #[.agg #[.int .i64 (p : Int), .int .i64 (q : Int), .int .i64 (t : Int), .bool v], .int .i64 17, .int .i64 0] else #[elNone', .int .i64 0, .int .i64 ck]) else #[elNone', .int .i64 0, .int .i64 3]) := ⟨_, rfl⟩
  rw [← hT]
  replace hT := Lib.hid hT
  go_enter Try.func15, Try.ntmps15
  go_upto_region 3 with fail
  rw [← hW]
  clear hW
  go_cut [5] (fun v5 wc => ∃ k, v5 = .pointer (some ⟨k, 0, none⟩) ∧ ElAt wc k ⟨p, q, t, v⟩ ∧ W.heap.size ≤ k ∧ W.grownBy wc none)
  case first =>
    refine wp_region_held_drew (S := fun w' => W.grownBy w' none) (by kernel_rfl) (gdrew (World.grownBy.refl W none)) (fun hS0 => ?_)
    obtain ⟨V, hV⟩ : ∃ V, V = W.drew := ⟨_, rfl⟩
    rw [← hV] at hS0 ⊢
    clear hV
    refine wpAnyH_take (i := 0) (oi := ⟨some 11, _, _, _, _, _⟩) (v := ?_) rfl (by kernel_rfl) (by kernel_rfl) (by kernel_rfl) (fun _ _ _ h => h) (Or.inl ⟨by rfl, ?_⟩) (by assumption) ?_
    rotate_left
    · (intro w hSw; (try dsimp only at hSw); go_simp; try with_reducible rfl)
    try simp only [Act.put, List.setIfInBounds_toArray, List.set_cons_zero, List.set_cons_succ]
    refine wpAnyH_take (i := 1) (oi := ⟨some 12, _, _, _, _, _⟩) (v := ?_) rfl (by kernel_rfl) (by kernel_rfl) (by kernel_rfl) (fun _ _ _ h => h) (Or.inl ⟨by rfl, ?_⟩) (by assumption) ?_
    rotate_left
    · (intro w hSw; (try dsimp only at hSw); go_simp; try with_reducible rfl)
    try simp only [Act.put, List.setIfInBounds_toArray, List.set_cons_zero, List.set_cons_succ]
    refine wpAnyH_take (i := 3) (oi := ⟨some 14, _, _, _, _, _⟩) (v := ?_) rfl (by kernel_rfl) (by kernel_rfl) (by kernel_rfl) (fun _ _ _ h => h) (Or.inl ⟨by rfl, ?_⟩) (by assumption) ?_
    rotate_left
    · (intro w hSw; (try dsimp only at hSw); go_simp; try with_reducible rfl)
    try simp only [Act.put, List.setIfInBounds_toArray, List.set_cons_zero, List.set_cons_succ]
    refine wpAnyH_take (i := 4) (oi := ⟨some 15, _, _, _, _, _⟩) (v := ?_) rfl (by kernel_rfl) (by kernel_rfl) (by kernel_rfl) (fun _ _ _ h => h) (Or.inl ⟨by rfl, ?_⟩) (by assumption) ?_
    rotate_left
    · (intro w hSw; (try dsimp only at hSw); go_simp; try with_reducible rfl)
    try simp only [Act.put, List.setIfInBounds_toArray, List.set_cons_zero, List.set_cons_succ]
    refine wpAnyH_take (i := 6) (oi := ⟨some 17, _, _, _, _, _⟩) (v := ?_) rfl (by kernel_rfl) (by kernel_rfl) (by kernel_rfl) (fun _ _ _ h => h) (Or.inl ⟨by rfl, ?_⟩) (by assumption) ?_
    rotate_left
    · (intro w hSw; (try dsimp only at hSw); go_simp; try with_reducible rfl)
    try simp only [Act.put, List.setIfInBounds_toArray, List.set_cons_zero, List.set_cons_succ]
    refine wpAnyH_take (i := 7) (oi := ⟨some 18, _, _, _, _, _⟩) (v := ?_) rfl (by kernel_rfl) (by kernel_rfl) (by kernel_rfl) (fun _ _ _ h => h) (Or.inl ⟨by rfl, ?_⟩) (by assumption) ?_
    rotate_left
    · (intro w hSw; (try dsimp only at hSw); go_simp; try with_reducible rfl)
    try simp only [Act.put, List.setIfInBounds_toArray, List.set_cons_zero, List.set_cons_succ]
    refine wpAnyH_take (i := 9) (oi := ⟨some 20, _, _, _, _, _⟩) (v := ?_) rfl (by kernel_rfl) (by kernel_rfl) (by kernel_rfl) (fun _ _ _ h => h) (Or.inl ⟨by rfl, ?_⟩) (by assumption) ?_
    rotate_left
    · (intro w hSw; (try dsimp only at hSw); go_simp; try with_reducible rfl)
    try simp only [Act.put, List.setIfInBounds_toArray, List.set_cons_zero, List.set_cons_succ]
    refine wpAnyH_take (i := 10) (oi := ⟨some 21, _, _, _, _, _⟩) (v := ?_) rfl (by kernel_rfl) (by kernel_rfl) (by kernel_rfl) (fun _ _ _ h => h) (Or.inl ⟨by rfl, ?_⟩) (by assumption) ?_
    rotate_left
    · (intro w hSw; (try dsimp only at hSw); go_simp; try with_reducible rfl)
    try simp only [Act.put, List.setIfInBounds_toArray, List.set_cons_zero, List.set_cons_succ]
    refine wpAnyH_take (i := 11) (oi := ⟨some 22, _, _, _, _, _⟩) (v := ?_) rfl (by kernel_rfl) (by kernel_rfl) (by kernel_rfl) (fun _ _ _ h => h) (Or.inl ⟨by rfl, ?_⟩) (by assumption) ?_
    rotate_left
    · (intro w hSw; (try dsimp only at hSw); go_simp; try with_reducible rfl)
    try simp only [Act.put, List.setIfInBounds_toArray, List.set_cons_zero, List.set_cons_succ]
    have hS := hS0
    clear hS0
    refine wpAnyH_ready (rs := [2, 13]) (by kernel_rfl) (by simp) ?_
    refine AllReadyH.cons rfl (fun K hK => ?_) (AllReadyH.cons rfl (fun K hK => ?_) AllReadyH.nil)
    · skip
      go_simp
      refine (r2 _).mono ?_
      rintro e W1 ⟨rfl, gn⟩
      replace hS := hS.trans gn
      clear gn
      refine hK.out _ _ hS (fun _ => ?_)
      clear hK
      refine wpAnyH_ready (rs := [5, 13]) (by kernel_rfl) (by simp) ?_
      refine AllReadyH.cons rfl (fun K hK => ?_) (AllReadyH.cons rfl (fun K hK => ?_) AllReadyH.nil)
      · skip
        go_simp
        refine (r7 _).mono ?_
        rintro e W2 ⟨rfl, gn⟩
        replace hS := hS.trans gn
        clear gn
        refine hK.out _ _ hS (fun _ => ?_)
        clear hK
        refine wpAnyH_ready (rs := [8, 13]) (by kernel_rfl) (by simp) ?_
        refine AllReadyH.cons rfl (fun K hK => ?_) (AllReadyH.cons rfl (fun K hK => ?_) AllReadyH.nil)
        · skip
          go_simp
          refine (r12 _).mono ?_
          rintro e W3 ⟨rfl, gn⟩
          replace hS := hS.trans gn
          clear gn
          refine hK.out _ _ hS (fun _ => ?_)
          clear hK
          refine wpAnyH_take (i := 12) (oi := ⟨some 23, _, _, _, _, _⟩) (v := ?_) rfl (by kernel_rfl) (by kernel_rfl) (by kernel_rfl) (fun _ _ _ h => h) (Or.inl ⟨by rfl, ?_⟩) (by assumption) ?_
          rotate_left
          · (intro w hSw; (try dsimp only at hSw); go_simp; try with_reducible rfl)
          try simp only [Act.put, List.setIfInBounds_toArray, List.set_cons_zero, List.set_cons_succ]
          refine wpAnyH_ready (rs := [13]) (by kernel_rfl) (by simp) ?_
          refine AllReadyH.cons rfl (fun K hK => ?_) AllReadyH.nil
          go_simp
          have hE := ElAt.new W3 elNone
          have hk : W.heap.size ≤ W3.heap.size := hS.size
          unfold elNone at hE
          dsimp only at hE
          replace hS := galloc hS (.cells #[.int .i64 0, .int .i64 0, .int .i64 0, .bool false] 23)
          refine hK.out _ _ hS (fun _ => ?_)
          clear hK
          generalize W3.heap.size = k0 at *
          generalize W3.alloc (.cells #[.int .i64 0, .int .i64 0, .int .i64 0, .bool false] 23) = W4 at *
          refine wpAnyH_ready (rs := [14]) (by kernel_rfl) (by simp) ?_
          refine AllReadyH.cons rfl (fun K hK => ?_) AllReadyH.nil
          have f0 := hE.free 0
          have f1 := hE.free 1
          have f2 := hE.free 2
          have f3 := hE.free 3
          have c0 := hE.c0
          have c1 := hE.c1
          have c2 := hE.c2
          have c3 := hE.c3
          go_simp
          have hE2 := hE.store ⟨p, q, t, v⟩
          have hS2 := gstore4 hS hk (.int .i64 (p : Int)) (.int .i64 (q : Int)) (.int .i64 (t : Int)) (.bool v)
          refine hK.out _ _ hS2 (fun _ => ?_)
          clear hK
          refine wpAnyH_done (by kernel_rfl) ?_ _
          go_wp2_with fail
          go_meet
          exact ⟨k0, rfl, hE2, hk, hS2⟩
        · skip
          go_simp
          have hE := ElAt.new W2 elNone
          have hk : W.heap.size ≤ W2.heap.size := hS.size
          unfold elNone at hE
          dsimp only at hE
          replace hS := galloc hS (.cells #[.int .i64 0, .int .i64 0, .int .i64 0, .bool false] 23)
          refine hK.out _ _ hS (fun _ => ?_)
          clear hK
          generalize W2.heap.size = k0 at *
          generalize W2.alloc (.cells #[.int .i64 0, .int .i64 0, .int .i64 0, .bool false] 23) = W3 at *
          refine wpAnyH_ready (rs := [8]) (by kernel_rfl) (by simp) ?_
          refine AllReadyH.cons rfl (fun K hK => ?_) AllReadyH.nil
          go_simp
          refine (r12 _).mono ?_
          rintro e W4 ⟨rfl, gn⟩
          replace hS := hS.trans gn
          replace hE := hE.kept gn (by simp)
          clear gn
          refine hK.out _ _ hS (fun _ => ?_)
          clear hK
          refine wpAnyH_take (i := 12) (oi := ⟨some 23, _, _, _, _, _⟩) (v := ?_) rfl (by kernel_rfl) (by kernel_rfl) (by kernel_rfl) (fun _ _ _ h => h) (Or.inl ⟨by rfl, ?_⟩) (by assumption) ?_
          rotate_left
          · (intro w hSw; (try dsimp only at hSw); go_simp; try with_reducible rfl)
          try simp only [Act.put, List.setIfInBounds_toArray, List.set_cons_zero, List.set_cons_succ]
          refine wpAnyH_ready (rs := [14]) (by kernel_rfl) (by simp) ?_
          refine AllReadyH.cons rfl (fun K hK => ?_) AllReadyH.nil
          have f0 := hE.free 0
          have f1 := hE.free 1
          have f2 := hE.free 2
          have f3 := hE.free 3
          have c0 := hE.c0
          have c1 := hE.c1
          have c2 := hE.c2
          have c3 := hE.c3
          go_simp
          have hE2 := hE.store ⟨p, q, t, v⟩
          have hS2 := gstore4 hS hk (.int .i64 (p : Int)) (.int .i64 (q : Int)) (.int .i64 (t : Int)) (.bool v)
          refine hK.out _ _ hS2 (fun _ => ?_)
          clear hK
          refine wpAnyH_done (by kernel_rfl) ?_ _
          go_wp2_with fail
          go_meet
          exact ⟨k0, rfl, hE2, hk, hS2⟩
      · skip
        go_simp
        have hE := ElAt.new W1 elNone
        have hk : W.heap.size ≤ W1.heap.size := hS.size
        unfold elNone at hE
        dsimp only at hE
        replace hS := galloc hS (.cells #[.int .i64 0, .int .i64 0, .int .i64 0, .bool false] 23)
        refine hK.out _ _ hS (fun _ => ?_)
        clear hK
        generalize W1.heap.size = k0 at *
        generalize W1.alloc (.cells #[.int .i64 0, .int .i64 0, .int .i64 0, .bool false] 23) = W2 at *
        refine wpAnyH_ready (rs := [5]) (by kernel_rfl) (by simp) ?_
        refine AllReadyH.cons rfl (fun K hK => ?_) AllReadyH.nil
        go_simp
        refine (r7 _).mono ?_
        rintro e W3 ⟨rfl, gn⟩
        replace hS := hS.trans gn
        replace hE := hE.kept gn (by simp)
        clear gn
        refine hK.out _ _ hS (fun _ => ?_)
        clear hK
        refine wpAnyH_ready (rs := [8]) (by kernel_rfl) (by simp) ?_
        refine AllReadyH.cons rfl (fun K hK => ?_) AllReadyH.nil
        go_simp
        refine (r12 _).mono ?_
        rintro e W4 ⟨rfl, gn⟩
        replace hS := hS.trans gn
        replace hE := hE.kept gn (by simp)
        clear gn
        refine hK.out _ _ hS (fun _ => ?_)
        clear hK
        refine wpAnyH_take (i := 12) (oi := ⟨some 23, _, _, _, _, _⟩) (v := ?_) rfl (by kernel_rfl) (by kernel_rfl) (by kernel_rfl) (fun _ _ _ h => h) (Or.inl ⟨by rfl, ?_⟩) (by assumption) ?_
        rotate_left
        · (intro w hSw; (try dsimp only at hSw); go_simp; try with_reducible rfl)
        try simp only [Act.put, List.setIfInBounds_toArray, List.set_cons_zero, List.set_cons_succ]
        refine wpAnyH_ready (rs := [14]) (by kernel_rfl) (by simp) ?_
        refine AllReadyH.cons rfl (fun K hK => ?_) AllReadyH.nil
        have f0 := hE.free 0
        have f1 := hE.free 1
        have f2 := hE.free 2
        have f3 := hE.free 3
        have c0 := hE.c0
        have c1 := hE.c1
        have c2 := hE.c2
        have c3 := hE.c3
        go_simp
        have hE2 := hE.store ⟨p, q, t, v⟩
        have hS2 := gstore4 hS hk (.int .i64 (p : Int)) (.int .i64 (q : Int)) (.int .i64 (t : Int)) (.bool v)
        refine hK.out _ _ hS2 (fun _ => ?_)
        clear hK
        refine wpAnyH_done (by kernel_rfl) ?_ _
        go_wp2_with fail
        go_meet
        exact ⟨k0, rfl, hE2, hk, hS2⟩
    · skip
      go_simp
      have hE := ElAt.new V elNone
      have hk : W.heap.size ≤ V.heap.size := hS.size
      unfold elNone at hE
      dsimp only at hE
      replace hS := galloc hS (.cells #[.int .i64 0, .int .i64 0, .int .i64 0, .bool false] 23)
      refine hK.out _ _ hS (fun _ => ?_)
      clear hK
      generalize V.heap.size = k0 at *
      generalize V.alloc (.cells #[.int .i64 0, .int .i64 0, .int .i64 0, .bool false] 23) = W1 at *
      refine wpAnyH_ready (rs := [2]) (by kernel_rfl) (by simp) ?_
      refine AllReadyH.cons rfl (fun K hK => ?_) AllReadyH.nil
      go_simp
      refine (r2 _).mono ?_
      rintro e W2 ⟨rfl, gn⟩
      replace hS := hS.trans gn
      replace hE := hE.kept gn (by simp)
      clear gn
      refine hK.out _ _ hS (fun _ => ?_)
      clear hK
      refine wpAnyH_ready (rs := [5]) (by kernel_rfl) (by simp) ?_
      refine AllReadyH.cons rfl (fun K hK => ?_) AllReadyH.nil
      go_simp
      refine (r7 _).mono ?_
      rintro e W3 ⟨rfl, gn⟩
      replace hS := hS.trans gn
      replace hE := hE.kept gn (by simp)
      clear gn
      refine hK.out _ _ hS (fun _ => ?_)
      clear hK
      refine wpAnyH_ready (rs := [8]) (by kernel_rfl) (by simp) ?_
      refine AllReadyH.cons rfl (fun K hK => ?_) AllReadyH.nil
      go_simp
      refine (r12 _).mono ?_
      rintro e W4 ⟨rfl, gn⟩
      replace hS := hS.trans gn
      replace hE := hE.kept gn (by simp)
      clear gn
      refine hK.out _ _ hS (fun _ => ?_)
      clear hK
      refine wpAnyH_take (i := 12) (oi := ⟨some 23, _, _, _, _, _⟩) (v := ?_) rfl (by kernel_rfl) (by kernel_rfl) (by kernel_rfl) (fun _ _ _ h => h) (Or.inl ⟨by rfl, ?_⟩) (by assumption) ?_
      rotate_left
      · (intro w hSw; (try dsimp only at hSw); go_simp; try with_reducible rfl)
      try simp only [Act.put, List.setIfInBounds_toArray, List.set_cons_zero, List.set_cons_succ]
      refine wpAnyH_ready (rs := [14]) (by kernel_rfl) (by simp) ?_
      refine AllReadyH.cons rfl (fun K hK => ?_) AllReadyH.nil
      have f0 := hE.free 0
      have f1 := hE.free 1
      have f2 := hE.free 2
      have f3 := hE.free 3
      have c0 := hE.c0
      have c1 := hE.c1
      have c2 := hE.c2
      have c3 := hE.c3
      go_simp
      have hE2 := hE.store ⟨p, q, t, v⟩
      have hS2 := gstore4 hS hk (.int .i64 (p : Int)) (.int .i64 (q : Int)) (.int .i64 (t : Int)) (.bool v)
      refine hK.out _ _ hS2 (fun _ => ?_)
      clear hK
      refine wpAnyH_done (by kernel_rfl) ?_ _
      go_wp2_with fail
      go_meet
      exact ⟨k0, rfl, hE2, hk, hS2⟩
  case rest =>
    obtain ⟨k, rfl, hE, hk, hg2⟩ := hcut
    have hRw := hR.kept hg2 (by simp)
    have hkn : w.heap.size ≠ k := by have := hR.lt; omega
    have hcell : ∀ w', wc.grownBy w' none → wc.grownBy w' none ∧ w'.cell? ⟨k, 0, none⟩ = some (.int .i64 (p : Int)) ∧ w'.cell? ⟨k, 1, none⟩ = some (.int .i64 (q : Int)) ∧ w'.cell? ⟨k, 2, none⟩ = some (.int .i64 (t : Int)) ∧ w'.cell? ⟨k, 3, none⟩ = some (.bool v) := fun w' h =>
      ⟨h, h.cell hE.c0 (by simp), h.cell hE.c1 (by simp), h.cell hE.c2 (by simp), h.cell hE.c3 (by simp)⟩
    go_upto_region 4 with fail
    refine wp_region_held_drew (S := fun w' => wc.grownBy w' none ∧ w'.cell? ⟨k, 0, none⟩ = some (.int .i64 (p : Int)) ∧ w'.cell? ⟨k, 1, none⟩ = some (.int .i64 (q : Int)) ∧ w'.cell? ⟨k, 2, none⟩ = some (.int .i64 (t : Int)) ∧ w'.cell? ⟨k, 3, none⟩ = some (.bool v)) (by kernel_rfl) (hcell _ (gdrew (World.grownBy.refl wc none))) (fun hS0 => ?_)
    obtain ⟨V, hV⟩ : ∃ V, V = wc.drew := ⟨_, rfl⟩
    rw [← hV] at hS0 ⊢
    clear hV
    have hbe : (L.toList == s17.toList) = f := by rw [bne] at hne; cases hh : (L.toList == s17.toList) <;> rw [hh] at hne <;> simpa using hne
    clear hne
    refine wpAnyH_take (i := 0) (oi := ⟨some 24, _, _, _, _, _⟩) (v := ?_) rfl (by kernel_rfl) (by kernel_rfl) (by kernel_rfl) (fun _ _ _ h => h) (Or.inl ⟨by rfl, ?_⟩) (by assumption) ?_
    rotate_left
    · (intro w hSw; (try dsimp only at hSw); go_simp; try with_reducible rfl)
    try simp only [Act.put, List.setIfInBounds_toArray, List.set_cons_zero, List.set_cons_succ]
    refine wpAnyH_take (i := 2) (oi := ⟨some 26, _, _, _, _, _⟩) (v := ?_) rfl (by kernel_rfl) (by kernel_rfl) (by kernel_rfl) (fun _ _ _ h => h) (Or.inl ⟨by rfl, ?_⟩) (by assumption) ?_
    rotate_left
    · (intro w hSw; (try dsimp only at hSw); go_simp; try with_reducible rfl)
    try simp only [Act.put, List.setIfInBounds_toArray, List.set_cons_zero, List.set_cons_succ]
    refine wpAnyH_take (i := 3) (oi := ⟨some 27, _, _, _, _, _⟩) (v := ?_) rfl (by kernel_rfl) (by kernel_rfl) (by kernel_rfl) (fun _ _ _ h => h) (Or.inl ⟨by rfl, ?_⟩) (by assumption) ?_
    rotate_left
    · (intro w hSw; (try dsimp only at hSw); go_simp; try with_reducible rfl)
    try simp only [Act.put, List.setIfInBounds_toArray, List.set_cons_zero, List.set_cons_succ]
    refine wpAnyH_ready (rs := [1]) (by kernel_rfl) (by simp) ?_
    refine AllReadyH.cons rfl (fun K hK => ?_) AllReadyH.nil
    go_simp
    refine (hSh _).mono ?_
    rintro e w4 ⟨rfl, g4⟩
    have hS4 := hcell _ (hS0.1.trans g4)
    refine hK.out _ _ hS4 (fun _ => ?_)
    clear hK
    refine wpAnyH_take (i := 4) (oi := ⟨some 28, _, _, _, _, _⟩) (v := ?_) rfl (by kernel_rfl) (by kernel_rfl) (by kernel_rfl) (fun _ _ _ h => h) (Or.inl ⟨by rfl, ?_⟩) (by assumption) ?_
    rotate_left
    · (intro w hSw; (try dsimp only at hSw); go_simp; try with_reducible rfl)
    try simp only [Act.put, List.setIfInBounds_toArray, List.set_cons_zero, List.set_cons_succ]
    refine wpAnyH_done (by kernel_rfl) ?_ _
    have hg4 := hS4.1
    have R4 := hRw.kept hg4 (by simp)
    have E4 := hE.kept hg4 (by simp)
    have G4 := hg.trans (hg2.trans hg4)
    clear hS0 hS4 g4 hcell r2 r7 r12 hSh hRw hE
    have f0 := R4.free 0
    have f1 := R4.free 1
    have f2 := R4.free 2
    have f3 := R4.free 3
    have d0 := R4.c0
    have d1 := R4.c1
    have d2 := R4.c2
    have d3 := R4.c3
    have x0 := E4.c0
    have x1 := E4.c1
    have x2 := E4.c2
    have x3 := E4.c3
    dsimp only at d0 d1 d2 d3 x0 x1 x2 x3
    have fin : ∀ (V : World) (y : El), W.grownBy V none → ElAt V w.heap.size ⟨0, 0, 0, false⟩ → ElAt ((((V.setCell ⟨w.heap.size, 0, none⟩ (.int .i64 y.p)).setCell ⟨w.heap.size, 1, none⟩ (.int .i64 y.s)).setCell ⟨w.heap.size, 2, none⟩ (.int .i64 y.t)).setCell ⟨w.heap.size, 3, none⟩ (.bool y.v)) w.heap.size y ∧
        w.grownBy ((((V.setCell ⟨w.heap.size, 0, none⟩ (.int .i64 y.p)).setCell ⟨w.heap.size, 1, none⟩ (.int .i64 y.s)).setCell ⟨w.heap.size, 2, none⟩ (.int .i64 y.t)).setCell ⟨w.heap.size, 3, none⟩ (.bool y.v)) none := fun V y hV hE => ⟨hE.store y, gstore4 (hg.trans hV) (Nat.le_refl _) _ _ _ _⟩
    cases f
    · have F4 := fin w4 ⟨0, 0, 0, false⟩ (hg2.trans hg4) R4
      clear fin
      go_wp2_with fail
      obtain ⟨X, hX⟩ : ∃ X, X = ((((w4.setCell ⟨w.heap.size, 0, none⟩ (.int .i64 0)).setCell ⟨w.heap.size, 1, none⟩ (.int .i64 0)).setCell ⟨w.heap.size, 2, none⟩ (.int .i64 0)).setCell ⟨w.heap.size, 3, none⟩ (.bool false)) := ⟨_, rfl⟩
      rw [← hX] at F4 ⊢
      clear hX
      obtain ⟨F5, F6⟩ := F4
      have b0 := F5.c0
      have b1 := F5.c1
      have b2 := F5.c2
      have b3 := F5.c3
      dsimp only at b0 b1 b2 b3
      refine bodyPost_ret (v := .tuple #[elNone', .int .i64 0, .int .i64 3]) (by simp [results, Try.results15, go_sem, elNone', b0, b1, b2, b3]) rfl ?_
      exact ⟨by rw [hT.out]; rfl, F6⟩
    · simp only [if_true] at hT
      rcases (show ck = 0 ∨ ck ≠ 0 by omega) with rfl | hck
      · have F4 := fun V hV hE => fin V ⟨p, q, t, v⟩ hV hE
        clear fin
        simp only [if_true] at hT
        go_wp2_with (go_at_call 7; refine (hCk _).mono ?_; rintro e w5 ⟨rfl, g5⟩; have R5 := R4.kept g5 (by simp); have E5 := E4.kept g5 (by simp); have f0 := R5.free 0; have f1 := R5.free 1; have f2 := R5.free 2; have f3 := R5.free 3; have d0 := R5.c0; have d1 := R5.c1; have d2 := R5.c2; have d3 := R5.c3; have x0 := E5.c0; have x1 := E5.c1; have x2 := E5.c2; have x3 := E5.c3; dsimp only at d0 d1 d2 d3 x0 x1 x2 x3)
        have F4 := F4 w5 ((hg2.trans hg4).trans g5) R5
        obtain ⟨X, hX⟩ : ∃ X, X = ((((w5.setCell ⟨w.heap.size, 0, none⟩ (.int .i64 p)).setCell ⟨w.heap.size, 1, none⟩ (.int .i64 q)).setCell ⟨w.heap.size, 2, none⟩ (.int .i64 t)).setCell ⟨w.heap.size, 3, none⟩ (.bool v)) := ⟨_, rfl⟩
        rw [← hX] at F4 ⊢
        clear hX
        obtain ⟨F5, F6⟩ := F4
        have b0 := F5.c0
        have b1 := F5.c1
        have b2 := F5.c2
        have b3 := F5.c3
        dsimp only at b0 b1 b2 b3
        refine bodyPost_ret (v := .tuple #[.agg #[.int .i64 p, .int .i64 q, .int .i64 t, .bool v], .int .i64 17, .int .i64 0]) (by simp [results, Try.results15, go_sem, b0, b1, b2, b3]) rfl ?_
        exact ⟨by rw [hT.out], F6⟩
      · have F4 := fun V hV hE => fin V ⟨0, 0, 0, false⟩ hV hE
        clear fin
        rw [if_neg hck] at hT
        go_wp2_with (go_at_call 7; refine (hCk _).mono ?_; rintro e w5 ⟨rfl, g5⟩; have R5 := R4.kept g5 (by simp); have f0 := R5.free 0; have f1 := R5.free 1; have f2 := R5.free 2; have f3 := R5.free 3; have d0 := R5.c0; have d1 := R5.c1; have d2 := R5.c2; have d3 := R5.c3; dsimp only at d0 d1 d2 d3)
        have F4 := F4 w5 ((hg2.trans hg4).trans g5) R5
        obtain ⟨X, hX⟩ : ∃ X, X = ((((w5.setCell ⟨w.heap.size, 0, none⟩ (.int .i64 0)).setCell ⟨w.heap.size, 1, none⟩ (.int .i64 0)).setCell ⟨w.heap.size, 2, none⟩ (.int .i64 0)).setCell ⟨w.heap.size, 3, none⟩ (.bool false)) := ⟨_, rfl⟩
        rw [← hX] at F4 ⊢
        clear hX
        obtain ⟨F5, F6⟩ := F4
        have b0 := F5.c0
        have b1 := F5.c1
        have b2 := F5.c2
        have b3 := F5.c3
        dsimp only at b0 b1 b2 b3
        refine bodyPost_ret (v := .tuple #[elNone', .int .i64 0, .int .i64 ck]) (by simp [results, Try.results15, go_sem, elNone', b0, b1, b2, b3]) rfl ?_
        exact ⟨by rw [hT.out], F6⟩
end Go.Proofs.Ytjdpnklnhiigpaa
