/-
  LAYER 5 (norms): read; Load of what write makes.
-/
import Derived.Test.YtpdacbiiaglodaaGreatQA12
import Derived.Test.YtpdacbiiaglodaaGreatQA13
import Derived.Test.YtpdacbiiaglodaaGreatQA09
import Derived.OrdersIn
import Derived.OrdersHeld
import Derived.OwnWalkIn
import Derived.RegionIn
import Derived.Deep.RegionHeld
import Derived.Test.YtpdacbiiaglodaaGreatQA07
import Derived.Stop.RegionWithIn
namespace Go.Proofs.YtpdacbiiaglodaaGreat
set_option maxRecDepth 100000
open Go.RowKit Go.Lib

/-- What is left behind the mark. -/
def behind (c : List Cls) (d : List Dec) : List UInt8 := Lib.uvarint c.length ++ (nums (c.flatMap tri3) ++ (Lib.uvarint d.length ++ (nums (d.flatMap tri3) ++ [])))
theorem payload_mark (c : List Cls) (d : List Dec) : payload c d = mark ++ behind c d := by
  simp [payload, headC, behind, nums]

theorem Tri.row {k : IntKind} {A B : World} {v : Value} {l : List (Int × Int × Int)} {x : Nat} (h : Tri k A v l) (hg : A.grownBy B (some x)) (hne : v.ownBlock ≠ some x) : Tri k B v l :=
  h.heap fun hn q e => hg.block q (h.lt hn q e) (fun e' => hne (by rw [e, e']))
theorem St.done {w : World} {q r : Nat} {vb : Value} (h : St w q r vb []) :
    Calls Tryz.prog 122 #[.pointer (some ⟨r, 0, none⟩)] w fun e w' => e = .returned (.int .i64 0) ∧ ∃ k, w' = w.drewN k := by
  obtain ⟨bs, pos, h1, h2, h3, h4, h5, h6, ⟨a, l, c, rfl⟩, h8⟩ := h
  have hl := h3.slice.1
  have h7 := congrArg List.length h5
  simp only [List.length_drop, List.length_nil] at h7
  refine (done_any r a l c pos w h2 (by omega)).mono ?_
  rintro e w' ⟨rfl, hk⟩
  exact ⟨by rw [if_neg (by omega)], hk⟩

theorem take_st (w3 : World) (r : Nat) (av : Option Addr) (cv : Nat) (P rest : List UInt8) (hRd : Rd w3 r (.slice av P.length cv) 0 0) (hov : ∃ B, Owns w3 B 5 (.slice av P.length cv) P) (hm : tRes P 4 = (mark, 4, 0)) (hd : P.drop 4 = rest) (hlim : P.length ≤ 500000) :
    Calls Tryz.prog 117 #[.pointer (some ⟨r, 0, none⟩), .int .i64 4] (w3.alloc (.cells #[.pointer (some ⟨r, 0, none⟩), .bool false] 182)) fun e w' => ∃ v, e = .returned v ∧ (convert 27 9 v).run Tryz.prog w' = .ok (.string { data := #[78, 82, 77, 49] }) w' ∧
      (w3.alloc (.cells #[.pointer (some ⟨r, 0, none⟩), .bool false] 182)).grownBy w' (some r) ∧ St w' w3.heap.size r (.slice av P.length cv) rest := by
  obtain ⟨B, hov⟩ := hov
  have ga := World.grownBy_alloc w3 (.cells #[.pointer (some ⟨r, 0, none⟩), .bool false] 182) none
  have hrl := hRd.lt
  have hR := hRd.new ga
  have hr := hov.reads.new ga
  have h4l : 4 ≤ P.length := by
    unfold tRes at hm
    rw [if_neg (by omega)] at hm
    split at hm
    · cases hm
    · omega
  refine (rTake_any r av P.length cv P 0 0 4 mark 4 0 _ hR hr (Nat.zero_le _) (by omega) (by rw [List.drop_zero]; exact hm)).mono ?_
  rintro e w' ⟨v, rfl, ho, hg, hR'⟩
  rw [if_pos rfl] at ho
  refine ⟨v, rfl, conv_of ho.reads, hg, P, 4, (hg.block _ (by simp) (by simp; omega)).trans (World.alloc_heap_new w3 _), hR', hR.carry hr hg, h4l, hd, by omega, ⟨_, _, _, rfl⟩, fun k e => ?_⟩
  have := (hov.lt k e).2
  have := ga.size
  have := hg.size
  omega

theorem set2 {w : World} {b : Nat} {T : TypeId} {u1 u2 : Value} (h : w.heap[b]? = some (.cells #[u1, u2] T)) (v1 v2 : Value) :
    ((w.setCell ⟨b, 0, none⟩ v1).setCell ⟨b, 1, none⟩ v2).heap[b]? = some (.cells #[v1, v2] T) := by
  have hlt := (Array.getElem?_eq_some_iff.1 h).1
  simp only [World.setCell, Array.getElem?_modify]
  simp [h]

set_option maxHeartbeats 4000000 in
theorem read_ok (v : Value) (c : List Cls) (d : List Dec) (w : World) (hr : Reads w v (frame (payload c d))) (hgd : good c d = true) :
    Calls Tryz.prog 77 #[v] w fun e w' => ∃ vc vd, e = .returned (.tuple #[datV vc vd, .int .i64 0]) ∧ Dat w' vc vd c d ∧ w.grownBy w' none := by
  obtain ⟨g1, g2, g3, g4⟩ := good_parts hgd
  obtain ⟨a, cp, rfl⟩ := hr.form
  have hpl : (payload c d).length ≤ 500000 := by
    have h1 := nums_length (c.flatMap tri3) (fun n hn => by
      have := flat_lt c (fun x hx => by obtain ⟨a, b, k, h, h1, h2, h3⟩ := cls_nat g3 (Int.le_refl 0) hx; exact ⟨a, b, k, h, h1, h2, by omega⟩) n hn
      omega)
    have h2 := nums_length (d.flatMap tri3) (fun n hn => by
      have := flat_lt d (fun x hx => dec_nat g4 hx) n hn
      omega)
    have h3 := nums_length [c.length] (by simp; omega)
    have h4 := nums_length [d.length] (by simp; omega)
    rw [flat_length] at h1 h2
    simp only [payload, headC, List.length_append, mark, List.length_cons, List.length_nil] at *
    omega
  have hun : unf (frame (payload c d)) = (payload c d, (frame (payload c d)).length, 0) := by
    have := unf_frame (payload c d) [] (by omega)
    rwa [List.append_nil] at this
  have hfl : (frame (payload c d)).length ≤ 1000000 := by
    have lA : (Lib.uvarint (payload c d).length).length ≤ 10 := ulen_le (by omega)
    have lM : (leB (mask (sum (payload c d))) 4).length ≤ 4 := by rw [leB_length]; omega
    unfold frame
    simp only [List.length_append]
    omega
  have hN := fun w => crcNew_any w
  generalize frame (payload c d) = F at hr hun hfl ⊢
  have hmark : tRes (payload c d) 4 = (mark, 4, 0) := by
    unfold tRes
    rw [if_neg (by omega), if_neg (by rw [payload_mark]; simp [mark]), payload_mark]
    rfl
  have hdrop : (payload c d).drop 4 = behind c d := by rw [payload_mark]; rfl
  have g0 := World.grownBy_alloc w (.cells #[.slice none 0 0, .slice none 0 0] 33) none
  have hU := fun W (hg : (w.alloc (.cells #[.slice none 0 0, .slice none 0 0] 33)).grownBy W none) t (hT : Tbl W t false) ht => Unframe_any t false a F.length cp F (payload c d) F.length 0 W hT ((hr.new g0).new hg) ht (by omega) hun
  have hoff : ∀ t, w.heap.size ≤ t → Off t (.slice a F.length cp) F := by
    intro t ht
    by_cases hF : F = []
    · exact .inl hF
    · exact .inr (fun e => by have := hr.lt hF _ e; omega)
  unfold UnfPost at hU
  generalize payload c d = P at hpl hmark hdrop hU
  go_enter Tryz.func77, Tryz.ntmps77
  have hcn : ∀ x ∈ c, ∃ a b k : Nat, x = ((a : Int), (b : Int), (k : Int)) ∧ a ≤ 1114111 ∧ b ≤ 1114111 ∧ k ≤ 1114111 := fun x hx => by obtain ⟨a, b, k, h, h1, h2, h3⟩ := cls_nat g3 (Int.le_refl 0) hx; exact ⟨a, b, k, h, h1, h2, by omega⟩
  have hdn := fun x hx => dec_nat (x := x) g4 hx
  have hsz0 : (w.alloc (.cells #[.slice none 0 0, .slice none 0 0] 33)).heap.size = w.heap.size + 1 := by simp
  have kB : ∀ W, (w.alloc (.cells #[.slice none 0 0, .slice none 0 0] 33)).grownBy W none → W.heap[w.heap.size]? = some (.cells #[.slice none 0 0, .slice none 0 0] 33) := fun W hg => (hg.block _ (by simp) (by simp)).trans (World.alloc_heap_new w _)
  go_wp2_with (first
    | (go_at_call 114; refine (hN _).mono ?_; rintro e w1 ⟨t, rfl, ht, hTab, hg1⟩)
    | (go_at_call 115; refine (hU _ hg1 t hTab (hoff t (by omega))).mono ?_; rintro e w2 ⟨v2, rfl, ho2, hg2, hT2⟩; obtain ⟨a2, c2, rfl⟩ := ho2.reads.form; have hg12 := gnew hg1 hg2 (fun x e => by { cases e; left; exact ht }); have hgd2 := ho2.reads; have hC := New_any a2 P.length c2 P w2 hgd2 (by omega))
    | (go_at_call 116; refine hC.mono ?_; rintro e w3 ⟨r, vb, rfl, hg3, hr3, hRd, hov⟩; obtain ⟨av, cv, rfl⟩ := hov.reads.form; have hg13 := hg12.trans hg3; have hT4 := take_st w3 r av cv P (behind c d) hRd ⟨_, hov⟩ hmark hdrop (by omega); have hrl3 := hRd.lt)
    | (go_at_call 117; refine hT4.mono ?_; rintro e w4 ⟨v4, rfl, hconv, hg4, hS4⟩; have hg14 := gnew (galloc hg13 _) hg4 (fun x e => by { cases e; left; have := hg12.size; omega }); have hs4 := hg4.size)
    | (go_at_call 118; refine (rows_class w3.heap.size r _ c _ _ hcn (by omega) hS4).mono ?_; rintro e w5 ⟨vc, rfl, hTc, hbc, hg5, hS5⟩; obtain ⟨xc, yc, rfl, _, _⟩ := hTc.form; have hg15 := gnew hg14 hg5 (fun x e => by { cases e; left; have := hg12.size; omega }))
    | (go_at_call 120; refine (rows_decomp w3.heap.size r _ d _ _ hdn (by omega) hS5).mono ?_; rintro e w6 ⟨vd, rfl, hTd, hbd, hg6, hS6⟩; obtain ⟨xd, yd, rfl, _, _⟩ := hTd.form; have hg16 := gnew hg15 hg6 (fun x e => by { cases e; left; have := hg12.size; omega }); obtain ⟨z0, z1⟩ := hS6.c0; have hql := hS6.lt)
    | (go_at_call 122; refine (hS6.new (World.grownBy_alloc w6 _ none)).done.mono ?_; rintro e w7 ⟨rfl, k7, rfl⟩; have hg17 := galloc hg16 (.cells #[.slice xc c.length yc, .slice xd d.length yd] 33); have kb := kB _ hg17; have f0 : ∀ o, (w6.alloc (.cells #[.slice xc c.length yc, .slice xd d.length yd] 33)).frozen? ⟨w.heap.size, o, none⟩ = false := by { intro o; simp [World.frozen?, kb] }; have b0 : (w6.alloc (.cells #[.slice xc c.length yc, .slice xd d.length yd] 33)).cell? ⟨w.heap.size, 0, none⟩ = some (.slice none 0 0) := by { simp only [World.cell?, kb]; rfl }; have b1 : (w6.alloc (.cells #[.slice xc c.length yc, .slice xd d.length yd] 33)).cell? ⟨w.heap.size, 1, none⟩ = some (.slice none 0 0) := by { simp only [World.cell?, kb]; rfl }))
  have hgd7 := gdrewN (World.grownBy.refl (w6.alloc (.cells #[.slice xc c.length yc, .slice xd d.length yd] 33)) none) k7
  have hg07 := (g0.trans hg17).trans hgd7
  have kb7 := kB _ (hg17.trans hgd7)
  have hTc7 : Tri .i64 ((w6.alloc (.cells #[.slice xc c.length yc, .slice xd d.length yd] 33)).drewN k7) (.slice xc c.length yc) c := ((hTc.row hg6 (fun e => by have := hbc _ e; have := hS4.lt; omega)).all (World.grownBy_alloc w6 _ none)).all hgd7
  have hTd7 : Tri .i32 ((w6.alloc (.cells #[.slice xc c.length yc, .slice xd d.length yd] 33)).drewN k7) (.slice xd d.length yd) d := (hTd.all (World.grownBy_alloc w6 _ none)).all hgd7
  have hwl : w.heap.size < w4.heap.size := Nat.lt_of_lt_of_le (by omega) hg14.size
  have hwl5 : w.heap.size < w5.heap.size := Nat.lt_of_lt_of_le hwl hg5.size
  clear hN hU hC hT4 hS4 hS5 hS6 kB
  generalize (w6.alloc (.cells #[.slice xc c.length yc, .slice xd d.length yd] 33)).drewN k7 = W7 at hg07 kb7 hTc7 hTd7 ⊢
  have gs := gset (gset (World.grownBy.refl W7 (some w.heap.size)) 0 (.slice xc c.length yc)) 1 (.slice xd d.length yd)
  have kf := set2 kb7 (.slice xc c.length yc) (.slice xd d.length yd)
  have hTc8 := hTc7.row gs (fun e => by have := hbc _ e; omega)
  have hTd8 := hTd7.row gs (fun e => by have := hbd _ e; omega)
  have hg08 := gnew hg07 gs (fun x e => by cases e; exact .inl (Nat.le_refl _))
  generalize (W7.setCell ⟨w.heap.size, 0, none⟩ (.slice xc c.length yc)).setCell ⟨w.heap.size, 1, none⟩ (.slice xd d.length yd) = W8 at kf hTc8 hTd8 hg08 ⊢
  have y0 : W8.cell? ⟨w.heap.size, 0, none⟩ = some (.slice xc c.length yc) := by simp [World.cell?, kf]
  have y1 : W8.cell? ⟨w.heap.size, 1, none⟩ = some (.slice xd d.length yd) := by simp [World.cell?, kf]
  refine bodyPost_ret (v := .tuple #[.agg #[.slice xc c.length yc, .slice xd d.length yd], .int .i64 0]) ?_ rfl ⟨_, _, rfl, ⟨hTc8, hTd8⟩, hg08⟩
  simp [results, Tryz.results77, go_sem, y0, y1]
end Go.Proofs.YtpdacbiiaglodaaGreat

/-
  LAYER 5 (norms): Norms in memory; the map of full decompositions.
-/
namespace Go.Proofs.YtpdacbiiaglodaaGreat
set_option maxRecDepth 100000
open Go.RowKit Go.Lib
attribute [local go_sem] Oper.semAt_some

/-- The block of normalisation data: made, both lists, the Once's cells, the map of full ones. -/
def NormsAt (w : World) (n : Nat) (dn st : Int) (vc vd : Value) (mv : Option Nat) : Prop :=
  w.heap[n]? = some (.cells #[.bool true, vc, vd, .int .u32 dn, .int .i32 st, .int .u32 0, .map mv] 48 (0, 0))
section
variable {w w' : World} {n : Nat} {dn st : Int} {vc vd : Value} {mv : Option Nat}
theorem NormsAt.made (h : NormsAt w n dn st vc vd mv) : w.cell? ⟨n, 0, none⟩ = some (.bool true) := by simp [World.cell?, show _ = _ from h]
theorem NormsAt.c1 (h : NormsAt w n dn st vc vd mv) : w.cell? ⟨n, 1, none⟩ = some vc := by simp [World.cell?, show _ = _ from h]
theorem NormsAt.c2 (h : NormsAt w n dn st vc vd mv) : w.cell? ⟨n, 2, none⟩ = some vd := by simp [World.cell?, show _ = _ from h]
theorem NormsAt.done (h : NormsAt w n dn st vc vd mv) : w.cell? ⟨n, 3, none⟩ = some (.int .u32 dn) := by simp [World.cell?, show _ = _ from h]
theorem NormsAt.state (h : NormsAt w n dn st vc vd mv) : w.cell? ⟨n, 4, none⟩ = some (.int .i32 st) := by simp [World.cell?, show _ = _ from h]
theorem NormsAt.full (h : NormsAt w n dn st vc vd mv) : w.cell? ⟨n, 6, none⟩ = some (.map mv) := by simp [World.cell?, show _ = _ from h]
theorem NormsAt.free (h : NormsAt w n dn st vc vd mv) (o : Nat) : w.frozen? ⟨n, o, none⟩ = false := by simp [World.frozen?, show _ = _ from h]
theorem NormsAt.lt (h : NormsAt w n dn st vc vd mv) : n < w.heap.size := lt_of_block h
theorem NormsAt.kept {row : Option Nat} (h : NormsAt w n dn st vc vd mv) (hg : w.grownBy w' row) (hne : row ≠ some n) : NormsAt w' n dn st vc vd mv := (hg.block n h.lt (fun e => hne e.symm)).trans h
theorem NormsAt.setDone (h : NormsAt w n dn st vc vd mv) (x : Int) : NormsAt (w.setCell ⟨n, 3, none⟩ (.int .u32 x)) n x st vc vd mv := heap_setCell_same w n 3 _ _ _ h
theorem NormsAt.setState (h : NormsAt w n dn st vc vd mv) (x : Int) : NormsAt (w.setCell ⟨n, 4, none⟩ (.int .i32 x)) n dn x vc vd mv := heap_setCell_same w n 4 _ _ _ h
theorem NormsAt.setFull (h : NormsAt w n dn st vc vd mv) (x : Option Nat) : NormsAt (w.setCell ⟨n, 6, none⟩ (.map x)) n dn st vc vd x := heap_setCell_same w n 6 _ _ _ h
end

/-- A slice of runes, as it is read. -/
def Runes (B : Nat) (w : World) (v : Value) (l : List Int) : Prop :=
  ∃ b cap, v = .slice (some ⟨b, 0, none⟩) l.length cap ∧ B ≤ b ∧ l ≠ [] ∧ l.length ≤ cap ∧ cap ≤ maxLen ∧ ∀ (i : Nat) (u : Int), l[i]? = some u → w.cell? ⟨b, i, none⟩ = some (.int .i32 u)
theorem Rn.runes {w : World} {B : Nat} {v : Value} {l : List Int} (h : Rn w B v l) (hl : l ≠ []) : Runes B w v l := by
  rcases h with ⟨q1, ⟨_, q2⟩ | ⟨g, cap, cur, q3, q4, q5, q6, q7, q8, q9⟩⟩ | ⟨h1, b, h2, h3, h4, h5⟩
  · exact absurd (List.length_eq_zero_iff.1 q2) hl
  · refine ⟨g, cap, q3, q4, hl, q6, q7, fun i u hu => ?_⟩
    have hi := (List.getElem?_eq_some_iff.1 hu).1
    have h0 : cur.toList[i]? = some (.int .i32 u) := by
      have : (cur.toList.take (l.length * 1))[i]? = some (.int .i32 u) := by rw [q9]; simp [rCells, hu, i32]
      rwa [List.getElem?_take_of_lt (by omega)] at this
    have h1 : cur[i]? = some (.int .i32 u) := by simpa using h0
    simp only [World.cell?, q5]
    exact h1
  · exact ⟨b, _, h2, h3, hl, Nat.le_refl _, h4, fun i u hu => h5 i _ (by simp [rCells, hu, i32])⟩
theorem Runes.other {B : Nat} {w w' : World} {v : Value} {l : List Int} {q : Nat} (h : Runes B w v l) (hg : w.grownBy w' (some q)) (hq : (∀ o, w.heap[q]? = some o → o.isCells = false) ∨ q < B) : Runes B w' v l := by
  obtain ⟨b, cap, rfl, hB, hl, h1, h2, h3⟩ := h
  have hbq : q ≠ b := by
    rintro rfl
    rcases hq with hq | hq
    · obtain ⟨u, t, rfl⟩ := List.exists_cons_of_ne_nil hl
      have h4 := h3 0 u rfl
      unfold World.cell? at h4
      cases hh : w.heap[q]? with
      | none => simp [hh] at h4
      | some o =>
        have := hq o hh
        rw [hh] at h4
        cases o <;> first | (cases this; done) | (cases h4; done)
    · omega
  exact ⟨b, cap, rfl, hB, hl, h1, h2, fun i u hu => hg.cell (h3 i u hu) (fun e => hbq (by simpa using e.symm))⟩
theorem Runes.row {B : Nat} {w w' : World} {v : Value} {l : List Int} {q : Nat} (h : Runes B w v l) (hg : w.grownBy w' (some q)) (hq : ∀ o, w.heap[q]? = some o → o.isCells = false) : Runes B w' v l := h.other hg (.inl hq)
theorem Runes.new {B : Nat} {w w' : World} {v : Value} {l : List Int} (h : Runes B w v l) (hg : w.grownBy w' none) : Runes B w' v l := by
  obtain ⟨b, cap, rfl, hB, hl, h1, h2, h3⟩ := h
  exact ⟨b, cap, rfl, hB, hl, h1, h2, fun i u hu => hg.cell (h3 i u hu) (by simp)⟩

/-- Block m is the map of the full decompositions of pre. -/
def FullAt (B : Nat) (d : List Dec) (w : World) (m : Nat) (pre : List Dec) : Prop :=
  ∃ l : List (Dec × Value), l.map (·.1) = pre ∧ Ents w m (l.map fun p => (p.1.1, p.2)) ∧ ∀ p ∈ l, Runes B w p.2 (whl d 4 p.1)
theorem FullAt.new {B : Nat} {d pre : List Dec} {w w' : World} {m : Nat} (h : FullAt B d w m pre) (hg : w.grownBy w' none) : FullAt B d w' m pre := by
  obtain ⟨l, h1, h2, h3⟩ := h
  exact ⟨l, h1, h2.kept hg (by simp), fun p hp => (h3 p hp).new hg⟩
theorem FullAt.row {B : Nat} {d pre : List Dec} {w w' : World} {m q : Nat} (h : FullAt B d w m pre) (hg : w.grownBy w' (some q)) (hq : ∀ o, w.heap[q]? = some o → o.isCells = false) (hm : q ≠ m) : FullAt B d w' m pre := by
  obtain ⟨l, h1, h2, h3⟩ := h
  exact ⟨l, h1, h2.kept hg (by simpa using hm), fun p hp => (h3 p hp).row hg hq⟩
theorem FullAt.cells {B : Nat} {d pre : List Dec} {w w' : World} {m q : Nat} (h : FullAt B d w m pre) (hg : w.grownBy w' (some q)) (hq : q < B) (hm : q ≠ m) : FullAt B d w' m pre := by
  obtain ⟨l, h1, h2, h3⟩ := h
  exact ⟨l, h1, h2.kept hg (by simpa using hm), fun p hp => (h3 p hp).other hg (.inr hq)⟩
theorem FullAt.add {B : Nat} {d pre : List Dec} {w : World} {m : Nat} {x : Dec} {v : Value} (h : FullAt B d w m pre) (hr : Runes B w v (whl d 4 x)) (hrise : (d.map (·.1)).Pairwise (· < ·)) (hp : pre = d.take pre.length) (hx : d[pre.length]? = some x)
    (hm : Tryz.prog.underlying 46 = some (.map 21 50)) :
    ∃ w', (Instr.mapUpdate 46 (.map (some m)) (.int .i32 x.1) v).run Tryz.prog w = .ok () w' ∧ FullAt B d w' m (pre ++ [x]) ∧ w.grownBy w' (some m) ∧ w'.heap.size = w.heap.size := by
  obtain ⟨l, h1, h2, h3⟩ := h
  have hn := ents_new hrise hp hx
  have hmap : ∀ o, w.heap[m]? = some o → o.isCells = false := by
    obtain ⟨es, cl, hb, _⟩ := h2
    intro o ho
    rw [hb] at ho
    cases ho
    rfl
  obtain ⟨w', r1, r2, r3, r4⟩ := run_update_ents (P := Tryz.prog) (t := 46) hm Tryz.underlying21 h2 x.1 v (by
    intro y hy
    obtain ⟨p, hp, rfl⟩ := List.mem_map.1 hy
    exact hn (p.1.1, dAgg p.1) (by rw [← h1]; unfold ents; exact List.mem_map.2 ⟨p.1, List.mem_map.2 ⟨p, hp, rfl⟩, rfl⟩))
  refine ⟨w', r1, ⟨l ++ [(x, v)], by simp [h1], by simpa using r2, fun p hp => ?_⟩, r3, r4⟩
  rcases List.mem_append.1 hp with hp | hp
  · exact (h3 p hp).row r3 hmap
  · simp at hp
    subst hp
    exact hr.row r3 hmap
theorem FullAt.look {B : Nat} {d pre : List Dec} {w : World} {m : Nat} (h : FullAt B d w m pre) : ∃ es, Ents w m es ∧ ∀ k, match stp pre k with
    | none => look es k = none
    | some x => ∃ v, look es k = some v ∧ Runes B w v (whl d 4 x) := by
  obtain ⟨l, rfl, h2, h3⟩ := h
  refine ⟨_, h2, fun k => ?_⟩
  clear h2
  induction l with
  | nil => rfl
  | cons p t ih =>
    rw [List.map_cons, List.map_cons, look_cons, stp]
    by_cases hk : p.1.1 = k
    · rw [List.find?_cons_of_pos (by simpa using hk), if_pos hk]
      exact ⟨_, rfl, h3 p (List.mem_cons_self ..)⟩
    · rw [List.find?_cons_of_neg (by simpa using hk), if_neg hk]
      exact ih (fun q hq => h3 q (List.mem_cons_of_mem _ hq))

end Go.Proofs.YtpdacbiiaglodaaGreat

/-
  A REGION THAT DRAWS ITS ORDER, INSIDE A FENCE AND INSIDE A ROUND OF A RANGE OVER A FUNCTION, WHOSE READS ARE TAKEN FIRST: as 'wpAnyH' (the library's law for the walk without a fence), for 'wpIn', of operations that defer nothing. No program is named here.
-/
namespace Go.Proofs.YtpdacbiiaglodaaGreat
set_option maxRecDepth 100000
open Go.RowKit

section
variable {F : Fence} {n : Nat} {P : Program} {ops : Array Oper} {Q : Exit → Act → World → Prop} {md : Region.Mode} {S : World → Prop}

/-- In every world that meets S the operation leaves v in its slot and turns nothing; it is about to call nothing. -/
def HeldAt (P : Program) (ops : Array Oper) (S : World → Prop) (o : Oper) (v : Value) (a : Act) : Prop := YieldsIf P ops S o v a ∧ ∀ w, o.about P w a.eval = none

theorem HeldAt.step {i : Nat} {o : Oper} {v : Value} {a : Act} (hi : ops[i]? = some o) (hnd : ∀ c, o.op ≠ .defer c) (hy : HeldAt P ops S o v a)
    {K : Act → World → Prop} {w : World} (hS : S w) (h : K (a.put o.dst v) w) : wpOpIn F n P ops Q i K a w := by
  have hab : ∀ f, o.about P w a.eval = some f → F.fn f := fun f hf => by rw [hy.2 w] at hf; cases hf
  unfold wpOpIn
  simp only [hi]
  rcases hy.1 with ⟨h1, h2⟩ | ⟨h1, rfl⟩
  · rw [if_pos h1]
    refine ⟨hab, ?_⟩
    rw [Oper.semAt_plain F _ _ hnd, h2 w hS]
    exact h
  · rw [if_neg (by simp [h1])]
    exact ⟨hab, h⟩

theorem HeldAt.other {o : Oper} {v : Value} {a a' : Act} (hy : HeldAt P ops S o v a) (he : execOp a'.eval o = execOp a.eval o)
    (hw : Region.wanted o (yielded ops a'.tmps) = Region.wanted o (yielded ops a.tmps)) (hb : ∀ w, o.about P w a'.eval = o.about P w a.eval) : HeldAt P ops S o v a' :=
  ⟨hy.1.of_same he hw, fun w => (hb w).trans (hy.2 w)⟩

/-- An operation apart from one that is held: it may come up first. -/
theorem wpOpIn_ahead {j : Nat} {oi oj : Oper} {v : Value} (hj : ops[j]? = some oj) (hnd : ∀ c, oj.op ≠ .defer c) (hap : oi.apart ops oj = true) (hsi : ∀ cs b, oi.op ≠ .select cs b) (hsj : ∀ cs b, oj.op ≠ .select cs b)
    (hQ : ∀ c a w, Q (.panic c) (a.put oi.dst v) w → Q (.panic c) a w) {K : Act → World → Prop} {a : Act} {w : World} (hy : HeldAt P ops S oi v a)
    (h : wpOpIn F n P ops Q j K (a.put oi.dst v) w) : wpOpIn F n P ops Q j (fun a' w' => HeldAt P ops S oi v a' ∧ K (a'.put oi.dst v) w') a w := by
  obtain ⟨k1, k2, k3⟩ := Oper.apart_spec hap
  have stays : ∀ (a : Act), HeldAt P ops S oi v a → ∀ u, HeldAt P ops S oi v (a.put oj.dst u) := fun a hy u => hy.other (execOp_put oi hsi a oj.dst u k3) (wanted_put oi a oj.dst u k3) (fun w => about_put oi w a oj.dst u k3)
  have turn : ∀ (a : Act) u, (a.put oj.dst u).put oi.dst v = (a.put oi.dst v).put oj.dst u := fun a u => (Act.put_comm a v u k2).symm
  have staysD : ∀ d, HeldAt P ops S oi v { a with defers := d :: a.defers } := fun d => hy.other rfl rfl (fun _ => rfl)
  unfold wpOpIn at h ⊢
  simp only [hj] at h ⊢
  rw [wanted_put oj a oi.dst v k1, about_put oj w a oi.dst v k1] at h
  by_cases hw : Region.wanted oj (yielded ops a.tmps) = true
  · rw [if_pos hw] at h ⊢
    obtain ⟨h0, h⟩ := h
    rw [about_put oj w a oi.dst v k1] at h0
    refine ⟨h0, ?_⟩
    rw [Oper.semAt_plain F _ _ hnd, execOp_put oj hsj a oi.dst v k1] at h
    rw [Oper.semAt_plain F _ _ hnd]
    cases hr : (execOp a.eval oj).run P w with
    | ok x w' =>
      rw [hr] at h
      cases x <;> simp only [Oper.uponIn] at h ⊢
      case value u => exact ⟨stays a hy u, by rw [turn]; exact h⟩
      case skip => exact ⟨stays a hy _, by rw [turn]; exact h⟩
      case defer d => exact ⟨(staysD d).other (execOp_put oi hsi _ oj.dst _ k3) (wanted_put oi _ oj.dst _ k3) (fun w => about_put oi w _ oj.dst _ k3), by rw [turn, ← Act.put_defers]; exact h⟩
      case enter f args =>
        refine ⟨h.1, h.2.mono fun e w'' he => ?_⟩
        cases e with
        | returned u => exact ⟨stays a hy u, by rw [turn]; exact he⟩
        | panicked c => exact hQ _ _ _ he
        | outgrown => exact he
      case row row args => exact ⟨h.1, h.2.mono fun u w'' he => ⟨stays a hy u, by rw [turn]; exact he⟩⟩
      case round l f tmps assign body =>
        refine ⟨h.1, h.2.mono fun e w'' he => ?_⟩
        cases e with
        | returned u => exact ⟨stays a hy u, by rw [turn]; exact he⟩
        | panicked c => exact hQ _ _ _ he
        | outgrown => exact he
    | halt x w' =>
      rw [hr] at h
      cases x <;> simp only [Oper.uponIn] at h ⊢
      case panic u => exact hQ _ _ _ h
  · rw [if_neg hw] at h ⊢
    exact ⟨h.1, stays a hy _, by rw [turn]; exact h.2⟩

/-- Whatever order is picked from here on; S is shown behind each operation that is carried out. -/
def wpAnyHIn (F : Fence) (n : Nat) (P : Program) (md : Region.Mode) (ops : Array Oper) (Q : Exit → Act → World → Prop) (S : World → Prop) : Nat → Array Bool → Act → World → Prop
  | 0, listed, a, w => Region.ready md ops listed = [] ∧ Q .normal a w
  | k + 1, listed, a, w => (Region.ready md ops listed = [] → Q .normal a w) ∧
    ∀ i ∈ Region.ready md ops listed, wpOpIn F n P ops Q i (fun a' w' => S w' ∧ wpAnyHIn F n P md ops Q S k (listed.setIfInBounds i true) a' w') a w

theorem wpAnyIn_of_held : ∀ (k : Nat) (listed : Array Bool) (a : Act) (w : World), wpAnyHIn F n P md ops Q S k listed a w → wpAnyIn F n P md ops Q k listed a w
  | 0, _, _, _, h => h
  | k + 1, _, _, _, h => ⟨h.1, fun i hi => wpOpIn_mono (fun a' w' h' => wpAnyIn_of_held k _ a' w' h'.2) (h.2 i hi)⟩

theorem wpAnyHIn_first {i : Nat} {oi : Oper} {v : Value} (hi : ops[i]? = some oi) (hnd : noDefer ops.toList = true) (hsel : ∀ (j : Nat) (o : Oper) cs b, ops[j]? = some o → o.op ≠ .select cs b)
    (hQ : ∀ c a w, Q (.panic c) (a.put oi.dst v) w → Q (.panic c) a w) :
    ∀ (k : Nat) (listed : Array Bool) (a : Act) (w : World),
      (∀ j oj, ops[j]? = some oj → j ≠ i → listed.getD j true = false → (∀ e ∈ oj.after, Region.binds md e = true → e.on ≠ i) → oi.apart ops oj = true) →
      i ∈ Region.ready md ops listed → HeldAt P ops S oi v a → S w →
      wpAnyHIn F n P md ops Q S k (listed.setIfInBounds i true) (a.put oi.dst v) w → wpAnyHIn F n P md ops Q S (k + 1) listed a w
  | k, listed, a, w, hfree, hr, hy, hS, H => by
    refine ⟨fun h => (by rw [h] at hr; cases hr), fun j hj => ?_⟩
    by_cases hji : j = i
    · subst hji
      exact hy.step hi (noDefer_at hnd hi) hS ⟨hS, H⟩
    · have hj2 := ready_mono hj hji
      cases k with
      | zero => rw [H.1] at hj2; cases hj2
      | succ k =>
        obtain ⟨hjun, oj, hoj, hall⟩ := mem_ready.1 hj
        have hnot : ∀ e ∈ oj.after, Region.binds md e = true → e.on ≠ i := fun e he hb heq => by
          have h1 := hall e he hb
          have h0 := (mem_ready.1 hr).1
          rw [heq] at h1
          rw [Array.getD_eq_getD_getElem?] at h0 h1
          cases hl : listed[i]? with
          | none => rw [hl] at h1; cases h1
          | some b => rw [hl] at h0 h1; simp at h0 h1; rw [h0] at h1; cases h1
        refine wpOpIn_mono (fun a' w' h3 => ⟨h3.2.1, ?_⟩) (wpOpIn_ahead hoj (noDefer_at hnd hoj) (hfree j oj hoj hji hjun hnot) (fun cs b => hsel i oi cs b hi) (fun cs b => hsel j oj cs b hoj) hQ hy (H.2 j hj2))
        refine wpAnyHIn_first hi hnd hsel hQ k (listed.setIfInBounds j true) a' w' (fun q oq hq hqi hun hno => hfree q oq hq hqi ?_ hno) (ready_mono hr (Ne.symm hji)) h3.1 h3.2.1 ?_
        · by_cases hjq : j = q
          · subst hjq; exact hjun
          · rwa [getD_set_ne true hjq] at hun
        · rw [Array.setIfInBounds_comm _ _ hji]
          exact h3.2.2

/-- Number i is taken first. -/
theorem wpAnyHIn_take {i : Nat} {oi : Oper} {v : Value} {k : Nat} {listed : Array Bool} {a : Act} {w : World} (hi : ops[i]? = some oi) (hnd : noDefer ops.toList = true) (hs : Region.noSelect ops = true) (hf : Region.free md ops listed i = true)
    (hr : (Region.ready md ops listed).contains i = true) (hQ : ∀ c a w, Q (.panic c) (a.put oi.dst v) w → Q (.panic c) a w) (hb : ∀ w, oi.about P w a.eval = none) (hy : YieldsIf P ops S oi v a) (hS : S w)
    (h : wpAnyHIn F n P md ops Q S k (listed.setIfInBounds i true) (a.put oi.dst v) w) : wpAnyHIn F n P md ops Q S (k + 1) listed a w :=
  wpAnyHIn_first hi hnd (Region.noSelect_spec hs) hQ k listed a w (Region.free_spec hi hf) (by simpa using hr) ⟨hy, hb⟩ hS h

/-- Number i alone may come up. -/
theorem wpAnyHIn_next {i : Nat} {o : Oper} {k : Nat} {listed : Array Bool} {a : Act} {w : World} (hr : Region.ready md ops listed = [i]) (ho : ops[i]? = some o) (hw : Region.wanted o (yielded ops a.tmps) = true)
    (h : ∀ K' : Act → World → Prop, Shut (∀ a w, S w → (S w → wpAnyHIn F n P md ops Q S k (listed.setIfInBounds i true) a w) → K' a w) → Oper.wpIn F n P o a w K' Q) : wpAnyHIn F n P md ops Q S (k + 1) listed a w := by
  refine ⟨fun h0 => (by rw [hr] at h0; cases h0), fun j hj => ?_⟩
  rw [hr] at hj
  obtain rfl : j = i := by simpa using hj
  unfold wpOpIn
  simp only [ho]
  rw [if_pos hw]
  exact h _ (fun a w hS hW => ⟨hS, hW hS⟩)
theorem wpAnyHIn_done {listed : Array Bool} {a : Act} {w : World} (hr : Region.ready md ops listed = []) (h : Q .normal a w) : ∀ k, wpAnyHIn F n P md ops Q S k listed a w
  | 0 => ⟨hr, h⟩
  | _ + 1 => ⟨fun _ => h, by rw [hr]; simp⟩
theorem wpIn_region_held {id : Nat} {a : Act} {w : World} (hm : P.follows .mixedOrders = true) (hS : S w.drew) (h : S w.drew → wpAnyHIn F n P .any ops Q S ops.size (Array.replicate ops.size false) a w.drew) : (Code.region id ops true).wpIn F n P Q a w :=
  wpIn_region_any hm (wpAnyIn_of_held _ _ _ _ (h hS))
end
end Go.Proofs.YtpdacbiiaglodaaGreat

/-
  LAYER 5 (norms): reckon.
-/
namespace Go.Proofs.YtpdacbiiaglodaaGreat
set_option maxRecDepth 100000
open Go.RowKit Go.Lib
attribute [local go_sem] Oper.semAt_some

theorem mapMade2 (k : Nat) (w : World) : (Instr.makeMap 46 (some (.int .i64 (k : Int)))).run Tryz.prog w = .ok (.map (some w.heap.size)) (w.alloc (.map #[] 0)) := by
  have hu : Tryz.prog.underlying 46 = some (.map 21 50) := Tryz.underlying46
  simp [Instr.makeMap, run_underlying hu, asInt, asIntOf, Result.andThen]

set_option maxHeartbeats 8000000 in
theorem reckon_in (n : Nat) (st : Int) (vc vd : Value) (c : List Cls) (d : List Dec) (w : World) (hN : NormsAt w n 0 st vc vd none) (hT : Dat w vc vd c d) (hgd : good c d = true) (hne : d ≠ [] → ∀ k, vd.ownBlock = some k → k ≠ n) :
    CallsIn Fence.wide 8 Tryz.prog 50 #[.pointer (some ⟨n, 0, none⟩)] w fun e w' => e = .returned (.tuple #[]) ∧ w.grownBy w' (some n) ∧ ∃ m, w.heap.size ≤ m ∧ NormsAt w' n 0 st vc vd (some m) ∧ FullAt w.heap.size d w' m d := by
  obtain ⟨g1, g2, g3, g4⟩ := good_parts hgd
  obtain ⟨a, cp, rfl, hc, hm⟩ := hT.2.form
  obtain ⟨ac, cc, rfl, _, _⟩ := hT.1.form
  have hrise := decsOk_rise g4
  have hnl := hN.lt
  have hS := fun W hr => steps_any (.slice ac c.length cc) (.slice a d.length cp) d W hr hrise
  have hE := fun w => each_any (.slice ac c.length cc) (.slice a d.length cp) w ⟨_, _, _, rfl⟩
  have g0 := World.grownBy_alloc w (.cells #[.pointer (some ⟨n, 0, none⟩)] 31) none
  have hS0 := hS _ (hT.2.all g0)
  have c1 := hN.c1
  have c2 := hN.c2
  have hmm := mapMade2
  unfold datV at hS0 hE
  refine callsIn_of_wp_marks Tryz.func50 rfl trivial ?_ rfl
  simp only [Tryz.ntmps50, List.size_toArray, List.length_cons, List.length_nil, Nat.reduceAdd, Nat.reduceSub, Array.replicate_succ, Array.replicate_zero, List.push_toArray, List.append_toArray, List.nil_append, List.cons_append]
  gi_wp2_with (refine ⟨trivial, ?_⟩; gi_at_call 89; refine (callsIn_wide.2 hS0).mono ?_; rintro e w1 ⟨m1, rfl, hm1, hEn, hg1⟩)
  have hN1 : NormsAt w1 n 0 st (.slice ac c.length cc) (.slice a d.length cp) none := (hN.kept g0 (by simp)).kept hg1 (by simp)
  obtain ⟨V, hV⟩ : ∃ V, V = w1.alloc (.cells #[.map (some m1)] 148) := ⟨_, rfl⟩
  have hgV : w1.grownBy V none := by rw [hV]; exact World.grownBy_alloc w1 _ none
  have hNV := hN1.kept hgV (by simp)
  have hEV := hEn.kept hgV (by simp)
  have hb1 : Boxed V w.heap.size 31 (.pointer (some ⟨n, 0, none⟩)) := ((Boxed.new w _ _).kept hg1 (by simp)).kept hgV (by simp)
  have hb2 : Boxed V w1.heap.size 148 (.map (some m1)) := by rw [hV]; exact Boxed.new w1 _ _
  have hgw : w.grownBy V none := (g0.trans hg1).trans hgV
  have hm1V := hEV.lt
  obtain ⟨es, cl, hes, hesl⟩ := hEV
  have k1 := hb1.cell
  have k2 := hb2.cell
  have k3 := hNV.full
  have k4 := hNV.free 6
  have hs1 := hg1.size
  have hsV : V.heap.size = w1.heap.size + 1 := by rw [hV]; simp
  rw [World.size_alloc] at hs1
  rw [← hV]
  replace hV := Lib.hid hV
  have hlm : (Builtin.len_ #[148] 3 #[.map (some m1)]).run Tryz.prog V.drew = .ok (.int .i64 (es.size : Int)) V.drew :=
    run_len_map V.drew 148 3 m1 es cl Tryz.underlying148 hes
  have gm := World.grownBy_alloc V (.map #[] 0) none
  have hNM := hNV.kept gm (by simp)
  have j1 := (hb1.kept gm (by simp)).cell
  have j2 := (hb2.kept gm (by simp)).cell
  have j3 := hNM.full
  have j4 := hNM.free 6
  have l1 := hb1.lt
  have l2 := hb2.lt
  have l3 := hNV.lt
  apply wpIn_noPanic
  clear hS hS0
  gi_region
  refine noPanic_normal ?_
  have hnm : n ≠ w1.heap.size + 1 := by omega
  obtain ⟨X, hX⟩ : ∃ X, X = ((V.alloc (.map #[] 0)).setCell ⟨n, 6, none⟩ (.map (some (w1.heap.size + 1)))).drew := ⟨_, rfl⟩
  have gX : V.grownBy X (some n) := by rw [hX]; exact gdrew (gset (gbut gm (some n)) 6 _)
  have gA : (V.alloc (.map #[] 0)).grownBy X (some n) := by rw [hX]; exact gdrew (gset (World.grownBy.refl _ _) 6 _)
  have hNX : NormsAt X n 0 st (.slice ac c.length cc) (.slice a d.length cp) (some (w1.heap.size + 1)) := by rw [hX]; exact hNM.setFull _
  have hEX : Ents X (w1.heap.size + 1) [] := by
    have : Ents (V.alloc (.map #[] 0)) V.heap.size [] := ⟨#[], 0, World.alloc_heap_new V _, rfl⟩
    rw [hsV] at this
    exact this.kept gA (by simp; omega)
  have hmX : Ents X m1 (ents d) := (Ents.kept ⟨es, cl, hes, hesl⟩ gm (by simp) : Ents (V.alloc (.map #[] 0)) m1 (ents d)).kept gA (by simp; rintro rfl; have := hNV; unfold NormsAt at this; rw [hes] at this; cases this)
  have hb1X : Boxed X w.heap.size 31 (.pointer (some ⟨n, 0, none⟩)) := (hb1.kept gm (by simp)).kept gA (by simp; omega)
  have hb2X : Boxed X w1.heap.size 148 (.map (some m1)) := (hb2.kept gm (by simp)).kept gA (by simp; omega)
  have hgwX : w.grownBy X (some n) := (gbut hgw _).trans gX
  have hdX : d ≠ [] → ∀ k, (Value.slice a d.length cp).ownBlock = some k → k < w.heap.size := fun hn k e => hT.2.lt hn k e
  have hTX : Tri .i32 X (.slice a d.length cp) d := hT.2.heap (fun hn k e => hgwX.block k (hT.2.lt hn k e) (by simp; exact fun h => hne hn k e h))
  rw [← hX]
  replace hX := Lib.hid hX
  clear k1 k2 k3 k4 j1 j2 j3 j4 hNM hb1 hb2 hNV hes hesl hlm c1 c2 hmm g0 hgV hgw gX gA gm hV hN1 hEn hN
  have k1 := hb1X.cell
  have k2 := hNX.c1
  have k3 := hNX.c2
  gi_wp2_with (refine ⟨trivial, ?_⟩; gi_at_call 56; refine (callsIn_wide.2 (hE _)).mono ?_; rintro e w5 ⟨p, rfl, hp, hb, hg5⟩)
  have gX5 := hg5
  have hsX : w1.heap.size + 1 < X.heap.size := hEX.lt
  have hpl := hb.lt
  have hvl : d ≠ [] → ∀ k, (Value.slice a d.length cp).ownBlock = some k → k < X.heap.size ∧ k ≠ w1.heap.size + 1 := fun hn k e => by have := hdX hn k e; omega
  have hN5 := hNX.kept hg5 (by simp)
  have hm5 := hmX.kept hg5 (by simp)
  have b15 := hb1X.kept hg5 (by simp)
  have b25 := hb2X.kept hg5 (by simp)
  have hF5 : FullAt w.heap.size d w5 (w1.heap.size + 1) [] := ⟨[], rfl, hEX.kept hg5 (by simp), by simp⟩
  have hs5 := hg5.size
  have hm1n : m1 ≠ w1.heap.size + 1 := by omega
  have hTell := dvals1_tells 4 p w5.heap.size (w1.heap.size + 1) _ d w5 hb (hTX.all hg5) (by omega) (fun hn k e => by have := hvl hn k e; omega)
  have gw5 := hgwX.trans (gbut hg5 (some n))
  clear hE hb1X hb2X hmX hEX hNX hX hTX hdX k1 k2 k3 hgwX
  refine range_tells4 (a := _) (w := w5) (α := Dec) rfl (by omega) (gf := 133) (lb := #[.pointer (some ⟨p, 0, none⟩)]) rfl trivial (enters_of Tryz.func133 (by kernel_rfl) rfl)
    hTell (by simp) (fun _ => rfl) (fun _ _ _ _ _ _ h _ _ _ => h)
    (fun pre W => Hid (pre = d.take pre.length) ∧ FullAt w.heap.size d W (w1.heap.size + 1) pre ∧ w5.grownBy W (some (w1.heap.size + 1))) (fun _ _ _ => False)
    ?hI (fun _ _ _ _ _ h _ _ => h.elim) ⟨Lib.hid rfl, hF5, World.grownBy.refl _ _⟩
    (fun x a' W => ∃ q, D3 W q x ∧ a' = { tmps := #[.pointer (some ⟨n, 0, none⟩), .pointer (some ⟨w.heap.size, 0, none⟩), .pointer (some ⟨w1.heap.size, 0, none⟩), .pointer (some ⟨q, 0, none⟩), .pointer (some ⟨n, 0, none⟩), .pointer (some ⟨n, 0, none⟩), .pointer (some ⟨n, 1, none⟩), .agg #[.slice ac c.length cc, .slice a d.length cp], .map (some m1), .pointer (some ⟨n, 0, none⟩), .map (some m1), .int .i64 (es.size : Int), .map (some (w1.heap.size + 1)), .pointer (some ⟨n, 0, none⟩), .pointer (some ⟨n, 6, none⟩), .pointer (some ⟨n, 0, none⟩), .pointer (some ⟨n, 0, none⟩), .pointer (some ⟨n, 1, none⟩), .agg #[.slice ac c.length cc, .slice a d.length cp], .func (.func 133) #[] #[.pointer (some ⟨p, 0, none⟩)], dAgg x, undef, undef, undef, undef, undef, undef, undef, undef, undef], defers := [] })
    (fun _ _ _ _ h _ => h) ?hAx ?assign ?body ?done ?stop
  case hI =>
    rintro pre A B k ⟨h0, h1, h2⟩ hg' hk
    rcases hk with rfl | ⟨q, rfl, hq, ho⟩
    · exact ⟨h0, h1.new hg', h2.trans (gbut hg' _)⟩
    · exact ⟨h0, h1.row hg' ho (by omega), gnew h2 hg' (fun r e => by cases e; left; exact hq)⟩
  case hAx =>
    rintro x a' A B k o ⟨q, hc', rfl⟩ hg' hk ho
    refine ⟨q, hc'.kept hg' (fun e => ?_), rfl⟩
    cases e
    cases (hk.symm.trans hc')
    cases ho
  case assign =>
    intro l x W K hK
    unfold dEnc dAgg
    gi_wp2_with fail
    refine hK _ _ (World.grownBy_alloc W _ none) ⟨W.heap.size, D3.new W x, ?_⟩
    rfl
  case body =>
    rintro l2 pre x a' W ⟨h0, h1, h2⟩ hget ⟨q, hx, rfl⟩ hsz
    have hnx := Lib.hid (take_next h0.out hget)
    have hmem : x ∈ d := List.mem_of_getElem? hget
    have hmb : mb d 4 x = true := by
      have := decsOk_mem g4 x hmem
      simp only [decOk, Bool.and_eq_true] at this
      exact this.1.2.2
    have hwne := (mb_whl hmb 0).2
    have hqm : q ≠ w1.heap.size + 1 := by
      rintro rfl
      obtain ⟨l, _, ⟨es', cl', hb', _⟩, _⟩ := h1
      cases (hb'.symm.trans hx)
    have cf : ∀ U, W.grownBy U (some (w1.heap.size + 1)) → U.cell? ⟨w.heap.size, 0, none⟩ = some (.pointer (some ⟨n, 0, none⟩)) ∧ U.cell? ⟨n, 6, none⟩ = some (.map (some (w1.heap.size + 1))) ∧ U.cell? ⟨q, 0, none⟩ = some (.int .i32 x.1) ∧ U.cell? ⟨w1.heap.size, 0, none⟩ = some (.map (some m1)) ∧ (U.cell? ⟨q, 1, none⟩ = some (.int .i32 x.2.1) ∧ U.cell? ⟨q, 2, none⟩ = some (.int .i32 x.2.2)) := by
      intro U hU
      have h3 := h2.trans hU
      have h4 := hx.kept hU (by simp; omega)
      exact ⟨(b15.kept h3 (by simp; omega)).cell, (hN5.kept h3 (by simp; omega)).full, h4.c0, (b25.kept h3 (by simp)).cell, h4.c1, h4.c2⟩
    have C := fun U (hU : W.grownBy U none) => wholly_ok m1 d 4 x U (Nat.le_refl _) ((hm5.kept h2 (by simp; omega)).kept hU (by simp)) hmb
    have hA := fun U (hU : W.grownBy U none) v (hR : Rn U W.heap.size v (whl d 4 x)) => FullAt.add (h1.new hU) ((hR.mono (by have := gw5.size; omega)).runes hwne) hrise h0.out hget Tryz.underlying46
    have gd := gdrew (World.grownBy.refl W none)
    have gdm := gbut gd (some (w1.heap.size + 1))
    obtain ⟨z1, z2, z3, z4, z5, z6⟩ := cf W (World.grownBy.refl W _)
    unfold dAgg at C
    generalize whl d 4 x = L at C hA
    replace h1 := Lib.hid h1
    replace hx := Lib.hid hx
    clear hTell hF5 hN5 hm5 b15 b25 hT hwne hmb hb
    gi_wp2_with fail
    apply wpIn_noPanic
    refine wpIn_region_held (S := fun U => U.cell? ⟨w.heap.size, 0, none⟩ = some (.pointer (some ⟨n, 0, none⟩)) ∧ U.cell? ⟨n, 6, none⟩ = some (.map (some (w1.heap.size + 1))) ∧ U.cell? ⟨q, 0, none⟩ = some (.int .i32 x.1) ∧ U.cell? ⟨w1.heap.size, 0, none⟩ = some (.map (some m1)) ∧ (U.cell? ⟨q, 1, none⟩ = some (.int .i32 x.2.1) ∧ U.cell? ⟨q, 2, none⟩ = some (.int .i32 x.2.2))) (by kernel_rfl) (cf _ gdm) (fun hS0 => ?_)
    refine wpAnyHIn_take (i := 0) (oi := ⟨some 21, _, _, _, _, _⟩) (v := ?_) rfl (by kernel_rfl) (by kernel_rfl) (by kernel_rfl) (by kernel_rfl) (fun _ _ _ h => h) (fun _ => rfl) (Or.inl ⟨by rfl, ?_⟩) (by assumption) ?_
    rotate_left
    · (intro w hSw; (try dsimp only at hSw); go_simp; try with_reducible rfl)
    try simp only [Act.put, List.setIfInBounds_toArray, List.set_cons_zero, List.set_cons_succ]
    refine wpAnyHIn_take (i := 1) (oi := ⟨some 22, _, _, _, _, _⟩) (v := ?_) rfl (by kernel_rfl) (by kernel_rfl) (by kernel_rfl) (by kernel_rfl) (fun _ _ _ h => h) (fun _ => rfl) (Or.inl ⟨by rfl, ?_⟩) (by assumption) ?_
    rotate_left
    · (intro w hSw; (try dsimp only at hSw); go_simp; try with_reducible rfl)
    try simp only [Act.put, List.setIfInBounds_toArray, List.set_cons_zero, List.set_cons_succ]
    refine wpAnyHIn_take (i := 2) (oi := ⟨some 23, _, _, _, _, _⟩) (v := ?_) rfl (by kernel_rfl) (by kernel_rfl) (by kernel_rfl) (by kernel_rfl) (fun _ _ _ h => h) (fun _ => rfl) (Or.inl ⟨by rfl, ?_⟩) (by assumption) ?_
    rotate_left
    · (intro w hSw; (try dsimp only at hSw); go_simp; try with_reducible rfl)
    try simp only [Act.put, List.setIfInBounds_toArray, List.set_cons_zero, List.set_cons_succ]
    refine wpAnyHIn_take (i := 3) (oi := ⟨some 24, _, _, _, _, _⟩) (v := ?_) rfl (by kernel_rfl) (by kernel_rfl) (by kernel_rfl) (by kernel_rfl) (fun _ _ _ h => h) (fun _ => rfl) (Or.inl ⟨by rfl, ?_⟩) (by assumption) ?_
    rotate_left
    · (intro w hSw; (try dsimp only at hSw); go_simp; try with_reducible rfl)
    try simp only [Act.put, List.setIfInBounds_toArray, List.set_cons_zero, List.set_cons_succ]
    refine wpAnyHIn_take (i := 4) (oi := ⟨some 25, _, _, _, _, _⟩) (v := ?_) rfl (by kernel_rfl) (by kernel_rfl) (by kernel_rfl) (by kernel_rfl) (fun _ _ _ h => h) (fun _ => rfl) (Or.inl ⟨by rfl, ?_⟩) (by assumption) ?_
    rotate_left
    · (intro w hSw; (try dsimp only at hSw); go_simp; try with_reducible rfl)
    try simp only [Act.put, List.setIfInBounds_toArray, List.set_cons_zero, List.set_cons_succ]
    refine wpAnyHIn_take (i := 5) (oi := ⟨some 26, _, _, _, _, _⟩) (v := ?_) rfl (by kernel_rfl) (by kernel_rfl) (by kernel_rfl) (by kernel_rfl) (fun _ _ _ h => h) (fun _ => rfl) (Or.inl ⟨by rfl, ?_⟩) (by assumption) ?_
    rotate_left
    · (intro w hSw; (try dsimp only at hSw); go_simp; try with_reducible rfl)
    try simp only [Act.put, List.setIfInBounds_toArray, List.set_cons_zero, List.set_cons_succ]
    refine wpAnyHIn_take (i := 6) (oi := ⟨some 27, _, _, _, _, _⟩) (v := ?_) rfl (by kernel_rfl) (by kernel_rfl) (by kernel_rfl) (by kernel_rfl) (fun _ _ _ h => h) (fun _ => rfl) (Or.inl ⟨by rfl, ?_⟩) (by assumption) ?_
    rotate_left
    · (intro w hSw; (try dsimp only at hSw); go_simp; try with_reducible rfl)
    try simp only [Act.put, List.setIfInBounds_toArray, List.set_cons_zero, List.set_cons_succ]
    refine wpAnyHIn_take (i := 7) (oi := ⟨some 28, _, _, _, _, _⟩) (v := ?_) rfl (by kernel_rfl) (by kernel_rfl) (by kernel_rfl) (by kernel_rfl) (fun _ _ _ h => h) (fun _ => rfl) (Or.inl ⟨by rfl, ?_⟩) (by assumption) ?_
    rotate_left
    · (intro w hSw; (try dsimp only at hSw); go_simp; try with_reducible rfl)
    try simp only [Act.put, List.setIfInBounds_toArray, List.set_cons_zero, List.set_cons_succ]
    refine wpAnyHIn_next (i := 8) (by kernel_rfl) rfl (by rfl) (fun K hK => ?_)
    go_simp
    refine ⟨trivial, (callsIn_wide.2 (C _ gd)).mono ?_⟩
    rintro e w7 ⟨v7, rfl, hR7, hg7⟩
    have hg7' := gd.trans hg7
    obtain ⟨W8, r8, F8, g8, s8⟩ := hA w7 hg7' v7 (hR7.mono (Nat.le_refl _))
    have g78 := (gbut hg7' (some (w1.heap.size + 1))).trans g8
    refine hK.out _ _ (cf _ (gbut hg7' _)) (fun hS1 => ?_)
    clear hK
    refine wpAnyHIn_next (i := 9) (by kernel_rfl) rfl (by rfl) (fun K hK => ?_)
    go_simp
    refine hK.out _ _ (cf _ g78) (fun hS2 => ?_)
    clear hK
    refine wpAnyHIn_done (by kernel_rfl) ?_ _
    refine noPanic_normal ?_
    gi_wp2_with fail
    exact ⟨KeepsFrom.of_grownBy g78 (fun j e => by cases e; omega), KeptX.grown g78 hsz (.inl rfl), hnx, F8, h2.trans g78⟩
  case stop =>
    rintro D c pre Wd W15 hD _ h _ _
    exact h.elim
  case done =>
    rintro D xs Wd W15 hD hS ⟨h0, h1, h2⟩ hg' hM
    obtain rfl : xs = d := hS
    have gp := grownBy_putObj' W15 D (.deferred none)
    have hN15 := (hN5.kept h2 (by simp; omega)).kept gp (by simp; omega)
    have hfin : w.grownBy (W15.putObj D (.deferred none)) (some n) := gnew (gnew gw5 h2 (fun r e => by cases e; left; omega)) gp (fun r e => by cases e; left; omega)
    have hF15 := h1.row gp (fun o ho => by rw [hM] at ho; cases ho; rfl) (by omega)
    clear hTell hN5 hm5 b15 b25 hT h1 gw5 gp
    gi_wp2_with fail
    refine ⟨by simp, .inl ⟨_, _, rfl, run_takeDeferred hM, ?_⟩⟩
    simp [LeavesInM, LeavesIn, results, Tryz.results50, go_sem]
    exact ⟨hfin, w1.heap.size + 1, by omega, hN15, hF15⟩
theorem reckon_full (n : Nat) (st : Int) (vc vd : Value) (c : List Cls) (d : List Dec) (w : World) (hN : NormsAt w n 0 st vc vd none) (hT : Dat w vc vd c d) (hgd : good c d = true) (hne : d ≠ [] → ∀ k, vd.ownBlock = some k → k ≠ n) :
    Calls Tryz.prog 50 #[.pointer (some ⟨n, 0, none⟩)] w fun e w' => e = .returned (.tuple #[]) ∧ w.grownBy w' (some n) ∧ ∃ m, w.heap.size ≤ m ∧ NormsAt w' n 0 st vc vd (some m) ∧ FullAt w.heap.size d w' m d := callsIn_wide.1 (reckon_in n st vc vd c d w hN hT hgd hne)
end Go.Proofs.YtpdacbiiaglodaaGreat
