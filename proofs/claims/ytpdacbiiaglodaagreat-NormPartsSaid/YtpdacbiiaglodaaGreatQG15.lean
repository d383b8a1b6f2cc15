/-
  LAYER 5 (norms): write: the bytes of data that may be.
-/
import Derived.Test.YtpdacbiiaglodaaGreatQG11
import Derived.Test.YtpdacbiiaglodaaGreatQG12
import Derived.Test.YtpdacbiiaglodaaGreatQG13
import Derived.Test.YtpdacbiiaglodaaGreatQG14
import Derived.Stop.RegionWithIn
import Derived.Test.YtpdacbiiaglodaaGreatQG10
import Derived.Test.YtpdacbiiaglodaaGreatQG03
import Derived.Test.YtpdacbiiaglodaaGreatQG09
namespace Go.Proofs.YtpdacbiiaglodaaGreat
set_option maxRecDepth 100000
open Go.RowKit Go.Lib
attribute [local go_sem] Oper.semAt_some

def mark : List UInt8 := [78, 82, 77, 49]
/-- A row's three numbers. -/
def tri3 (x : Int × Int × Int) : List Nat := [x.1.toNat, x.2.1.toNat, x.2.2.toNat]
/-- What lies in the frame. -/
def headC (c : List Cls) : List UInt8 := mark ++ nums [c.length] ++ nums (c.flatMap tri3)
def payload (c : List Cls) (d : List Dec) : List UInt8 := headC c ++ nums [d.length] ++ nums (d.flatMap tri3)

theorem cls_nat {c : List Cls} {least : Int} (h : clsOk least c = true) (h0 : 0 ≤ least) {x : Cls} (hx : x ∈ c) : ∃ a b k : Nat, x = ((a : Int), (b : Int), (k : Int)) ∧ a ≤ 1114111 ∧ b ≤ 1114111 ∧ k ≤ 254 := by
  obtain ⟨i, hi, rfl⟩ := List.getElem_of_mem hx
  obtain ⟨h1, h2, h3, h4⟩ := clsOk_mem h i hi
  have hs : scal (c[i]).2.1 = true := by
    have : ∀ (c : List Cls) (least : Int), clsOk least c = true → ∀ (i : Nat) (hi : i < c.length), scal (c[i]).2.1 = true := by
      intro c
      induction c with
      | nil => intro _ _ i hi; simp at hi
      | cons y t ih =>
        intro least h i hi
        rw [clsOk, Bool.and_eq_true] at h
        cases i with
        | zero =>
          have := h.1
          simp only [clOk, Bool.and_eq_true] at this
          exact this.1.1.1.1.2
        | succ i => simpa using ih _ h.2 i (by simpa using hi)
    exact this c least h i hi
  have := scal_range hs
  refine ⟨(c[i]).1.toNat, (c[i]).2.1.toNat, (c[i]).2.2.toNat, ?_, by omega, by omega, by omega⟩
  rw [Prod.ext_iff, Prod.ext_iff]
  simp only
  omega
theorem dec_nat {c : List Cls} {d : List Dec} (h : decsOk c d 0 d = true) {x : Dec} (hx : x ∈ d) : ∃ a b k : Nat, x = ((a : Int), (b : Int), (k : Int)) ∧ a ≤ 1114111 ∧ b ≤ 1114111 ∧ k ≤ 1114111 := by
  have h1 := decsOk_mem h x hx
  simp only [decOk, codesOk, Bool.and_eq_true] at h1
  obtain ⟨⟨⟨_, ⟨⟨⟨⟨⟨⟨s1, _⟩, _⟩, s2⟩, _⟩, s3⟩, _⟩⟩, _⟩, _⟩ := h1
  have r1 := scal_range s1
  have r2 := scal_range s2
  have r3 := scal_range s3
  refine ⟨x.1.toNat, x.2.1.toNat, x.2.2.toNat, ?_, by omega, by omega, by omega⟩
  rw [Prod.ext_iff, Prod.ext_iff]
  simp only
  omega
theorem flat_length (l : List (Int × Int × Int)) : (l.flatMap tri3).length = 3 * l.length := by
  induction l with
  | nil => rfl
  | cons x t ih => rw [List.flatMap_cons, List.length_append, ih]; simp [tri3]; omega
theorem flat_lt (l : List (Int × Int × Int)) (h : ∀ x ∈ l, ∃ a b k : Nat, x = ((a : Int), (b : Int), (k : Int)) ∧ a ≤ 1114111 ∧ b ≤ 1114111 ∧ k ≤ 1114111) : ∀ n ∈ l.flatMap tri3, n < 2000000 := by
  intro n hn
  obtain ⟨x, hx, hn⟩ := List.mem_flatMap.1 hn
  obtain ⟨a, b, k, rfl, h1, h2, h3⟩ := h x hx
  simp [tri3] at hn
  omega

theorem gb_mark (w : World) (B : Nat) (hB : B ≤ w.heap.size) : GB (w.alloc (.cells #[.int .u8 78, .int .u8 82, .int .u8 77, .int .u8 49] 5 (4, 5))) B (.slice (some ⟨w.heap.size, 0, none⟩) 4 4) mark :=
  .inr ⟨w.heap.size, rfl, hB, reads_marked w 5 mark 4 5 (by decide)⟩
theorem ints_one (w : World) (n : Nat) : IntsAt (w.alloc (.cells #[.int .i64 (n : Int)] 3)) w.heap.size [n] := by
  intro i k h
  match i, h with
  | 0, h => simp at h; subst h; have hn := World.alloc_heap_new w (.cells #[.int .i64 (n : Int)] 3); simp only [World.cell?, hn]; rfl
theorem ints_three (w : World) (a b k : Nat) : IntsAt (w.alloc (.cells #[.int .i64 (a : Int), .int .i64 (b : Int), .int .i64 (k : Int)] 3)) w.heap.size [a, b, k] := by
  intro i n h
  have hn := World.alloc_heap_new w (.cells #[.int .i64 (a : Int), .int .i64 (b : Int), .int .i64 (k : Int)] 3)
  match i, h with
  | 0, h => simp at h; subst h; simp only [World.cell?, hn]; rfl
  | 1, h => simp at h; subst h; simp only [World.cell?, hn]; rfl
  | 2, h => simp at h; subst h; simp only [World.cell?, hn]; rfl

/-- The bytes that grow: their box, the row that they own (in none of these blocks), the data's block. -/
def OutAt (w W : World) (ob : Nat) (D : Obj) (av : Nat → Prop) (v : Value) (M : List UInt8) : Prop :=
  Boxed W ob 27 v ∧ Owns W (w.heap.size + 1) 5 v M ∧ (∀ k, v.ownBlock = some k → ¬ av k) ∧ (∀ k, av k → k < W.heap.size) ∧ av ob ∧ w.grownBy W none ∧ W.heap[w.heap.size]? = some D ∧ w.heap.size < ob
theorem OutAt.new {w W W' : World} {ob : Nat} {D : Obj} {av : Nat → Prop} {v : Value} {M : List UInt8} (h : OutAt w W ob D av v M) (hg : W.grownBy W' none) : OutAt w W' ob D av v M := by
  obtain ⟨h1, h2, h3, h4, h5, h6, h7, h8⟩ := h
  exact ⟨h1.kept hg (by simp), h2.new hg, h3, fun k hk => Nat.lt_of_lt_of_le (h4 k hk) hg.size, h5, h6.trans hg, (hg.block _ (Array.getElem?_eq_some_iff.1 h7).1 (by simp)).trans h7, h8⟩
theorem OutAt.row {w W W' : World} {ob q : Nat} {D : Obj} {av : Nat → Prop} {v : Value} {M : List UInt8} (h : OutAt w W ob D av v M) (hg : W.grownBy W' (some q)) (h1 : q ≠ ob) (h2 : v.ownBlock ≠ some q) (h3 : w.heap.size < q) : OutAt w W' ob D av v M := by
  obtain ⟨q1, q2, q3, q4, q5, q6, q7, q8⟩ := h
  exact ⟨q1.kept hg (by simpa using h1.symm), q2.kept hg (.inr h2), q3, fun k hk => Nat.lt_of_lt_of_le (q4 k hk) hg.size, q5, gnew q6 hg (fun r e => by cases e; left; omega), (hg.block _ (Array.getElem?_eq_some_iff.1 q7).1 (by simp; omega)).trans q7, q8⟩

/-- No panic is let out: the order of what stands ahead of it doesn't matter. -/
def NoPanic (Q : Exit → Act → World → Prop) : Exit → Act → World → Prop
  | .panic _, _, _ => False
  | e, a, w => Q e a w
theorem noPanic_normal {Q : Exit → Act → World → Prop} {a : Act} {w : World} (h : Q .normal a w) : NoPanic Q .normal a w := h
theorem wpIn_noPanic {F : Fence} {n : Nat} {P : Program} {c : Code} {Q : Exit → Act → World → Prop} {a : Act} {w : World} (h : c.wpIn F n P (NoPanic Q) a w) : c.wpIn F n P Q a w :=
  wpIn_mono h fun e a w hq => by cases e <;> first | exact hq | exact hq.elim

theorem out_step (w w2 : World) (ob lb : Nat) (D : Obj) (av : Nat → Prop) (v : Value) (M : List UInt8) (l : List Nat) (ho : OutAt w w2 ob D av v M) (hl : IntsAt w2 lb l) (hne : v.ownBlock ≠ some lb) (hl0 : l ≠ []) (hn : ∀ n ∈ l, n < 2000000) (hlim : M.length + 10 * l.length ≤ 100000000) :
    Calls Tryz.prog 126 #[v, .slice (some ⟨lb, 0, none⟩) l.length l.length] w2 fun e w' => ∃ x n y, e = .returned (.slice x n y) ∧ Boxed w' ob 27 v ∧
      OutAt w (w'.setCell ⟨ob, 0, none⟩ (.slice x n y)) ob D av (.slice x n y) (M ++ nums l) ∧ (w2.heap.size ≤ w'.heap.size ∧ w'.heap[w.heap.size]? = some D) ∧ (∀ k, k < w2.heap.size → k ≠ ob → v.ownBlock ≠ some k → (w'.setCell ⟨ob, 0, none⟩ (.slice x n y)).heap[k]? = w2.heap[k]?) := by
  obtain ⟨h1, h2, h3, h4, h5, h6, h7, h8⟩ := ho
  have hs := h6.size
  refine (addNumbers_any (w.heap.size + 1) lb v M l w2 (.inl h2) hl0 (by have := h4 _ h5; omega) hl hne (fun n hn' => by have := hn n hn'; omega) hlim).mono ?_
  rintro e w' ⟨v', rfl, o1, o2, o3⟩
  have hvl := h2.lt
  obtain ⟨x, y, rfl⟩ := o1.reads.form
  have hob : v.ownBlock ≠ some ob := fun e => h3 _ e h5
  have hB := h1.kept o2 hob.symm
  have gs := grownBy_setCell' w' ob (.slice x (M ++ nums l).length y)
  have hav : ∀ k, (Value.slice x (M ++ nums l).length y).ownBlock = some k → ¬ av k := by
    intro k hk
    rcases o3 with h | ⟨k', h, hk'⟩
    · rw [hk] at h; exact h3 k h.symm
    · rw [hk] at h; cases h; intro h; have := h4 _ h; omega
  have hD7 : w'.heap[w.heap.size]? = some D := (o2.block _ (Array.getElem?_eq_some_iff.1 h7).1 (fun e => by have := (hvl _ e.symm).1; omega)).trans h7
  refine ⟨x, _, y, rfl, hB, ⟨hB.set _, o1.kept gs (.inr (fun e => hav _ e h5)), hav, fun k hk => by have := h4 k hk; have := o2.size; have := gs.size; omega, h5, gnew (gnew h6 o2 (fun r e => .inl (by have := (hvl r e).1; omega))) gs (fun r e => by cases e; left; omega), ?_, h8⟩, ⟨o2.size, hD7⟩, ?_⟩
  · exact (gs.block _ (Array.getElem?_eq_some_iff.1 hD7).1 (by simp; omega)).trans hD7
  · intro k hk hko hkv
    exact (gs.block k (by have := o2.size; omega) (by simpa using hko)).trans (o2.block k hk (fun e => hkv e.symm))

set_option maxHeartbeats 8000000 in
theorem write_in (vc vd : Value) (c : List Cls) (d : List Dec) (w : World) (hT : Dat w vc vd c d) (hgd : good c d = true) :
    CallsIn Fence.wide 8 Tryz.prog 86 #[datV vc vd] w fun e w' => ∃ v, e = .returned (.tuple #[v, .int .i64 0]) ∧ Owns w' w.heap.size 5 v (frame (payload c d)) ∧ w.grownBy w' none := by
  obtain ⟨g1, g2, g3, g4⟩ := good_parts hgd
  obtain ⟨hTc, hTd⟩ := hT
  obtain ⟨a, cp, rfl, hc, hm⟩ := hTd.form
  obtain ⟨ac, cc, rfl, hcc, hmc⟩ := hTc.form
  unfold maxLen at hmc
  have hE := fun w => each_any (.slice ac c.length cc) (.slice a d.length cp) w ⟨_, _, _, rfl⟩
  obtain ⟨W0, hW0⟩ : ∃ W0, W0 = ((w.alloc (.cells #[.slice ac c.length cc, .slice a d.length cp] 33)).alloc (.cells #[.int .u8 78, .int .u8 82, .int .u8 77, .int .u8 49] 5 (4, 5))).alloc (.cells #[.int .i64 (c.length : Int)] 3) := ⟨_, rfl⟩
  have hs0 : W0.heap.size = w.heap.size + 3 := by rw [hW0]; simp
  have hg0 : w.grownBy W0 none := by rw [hW0]; exact galloc (galloc (World.grownBy_alloc w _ none) _) _
  have hd0 : W0.heap[w.heap.size]? = some (.cells #[.slice ac c.length cc, .slice a d.length cp] 33) := by
    rw [hW0]
    exact ((galloc (World.grownBy_alloc (w.alloc (.cells #[.slice ac c.length cc, .slice a d.length cp] 33)) _ none) _).block w.heap.size (by simp) (by simp)).trans (World.alloc_heap_new w _)
  have ho0 : GB W0 (w.heap.size + 1) (.slice (some ⟨w.heap.size + 1, 0, none⟩) 4 4) mark := by
    rw [hW0]
    have := gb_mark (w.alloc (.cells #[.slice ac c.length cc, .slice a d.length cp] 33)) (w.heap.size + 1) (by simp)
    rw [World.size_alloc] at this
    exact this.new (World.grownBy_alloc _ _ none)
  have hi0 : IntsAt W0 (w.heap.size + 2) [c.length] := by
    rw [hW0]
    have := ints_one ((w.alloc (.cells #[.slice ac c.length cc, .slice a d.length cp] 33)).alloc (.cells #[.int .u8 78, .int .u8 82, .int .u8 77, .int .u8 49] 5 (4, 5))) c.length
    simpa using this
  have hA0 := addNumbers_any (w.heap.size + 1) (w.heap.size + 2) _ mark [c.length] W0 ho0 (by simp) (by omega) hi0 (by simp [Value.ownBlock]) (by simp; omega) (by simp [mark])
  rw [show ([c.length] : List Nat).length = 1 from rfl] at hA0
  have dcell : ∀ W row, W0.grownBy W row → row ≠ some w.heap.size → W.heap[w.heap.size]? = some (.cells #[.slice ac c.length cc, .slice a d.length cp] 33) := fun W row hg hr => (hg.block w.heap.size (by omega) (fun e => hr e.symm)).trans hd0
  replace hW0 := Lib.hid hW0
  have kc := Lib.run_convert_bytes_const (P := Tryz.prog) (w.alloc (.cells #[.slice ac c.length cc, .slice a d.length cp] 33)) 27 5 #[.int .u8 78, .int .u8 82, .int .u8 77, .int .u8 49] 4 4 Tryz.underlying27 Tryz.underlying5
  rw [World.size_alloc] at kc
  unfold datV at hE ⊢
  refine callsIn_of_wp_marks Tryz.func86 rfl trivial ?_ rfl
  simp only [Tryz.ntmps86, List.size_toArray, List.length_cons, List.length_nil, Nat.reduceAdd, Nat.reduceSub, Array.replicate_succ, Array.replicate_zero, List.push_toArray, List.append_toArray, List.nil_append, List.cons_append]
  gi_wp2_with (first
    | (refine ⟨trivial, ?_⟩; rw [← hW0.out]; gi_at_call 126; refine (callsIn_wide.2 hA0).mono ?_; rintro e w1 ⟨v1, rfl, ho1, hg1, hk1⟩; obtain ⟨x1, n1, y1, rfl⟩ : ∃ x n y, v1 = .slice x n y := by { obtain ⟨a, c, h⟩ := ho1.reads.form; exact ⟨_, _, _, h⟩ }; have k := dcell _ _ hg1 (by simp [Value.ownBlock]); have k0 : w1.cell? ⟨w.heap.size, 0, none⟩ = some (.slice ac c.length cc) := by { simp [World.cell?, k] }; have k1 : w1.cell? ⟨w.heap.size, 1, none⟩ = some (.slice a d.length cp) := by { simp [World.cell?, k] }; have hlt1 : w.heap.size < w1.heap.size := by { have := hg1.size; omega }))
  have hO1 : OutAt w (w1.alloc (.cells #[.slice x1 n1 y1] 27)) w1.heap.size (.cells #[.slice ac c.length cc, .slice a d.length cp] 33) (fun k => k = w1.heap.size) (.slice x1 n1 y1) (mark ++ nums [c.length]) := by
    have hl1 := ho1.lt
    have ga := World.grownBy_alloc w1 (.cells #[.slice x1 n1 y1] 27) none
    refine ⟨Boxed.new w1 _ _, ho1.new ga, fun q e h => ?_, fun q h => by simp; omega, rfl, (gnew hg0 hg1 (fun r e => by simp [Value.ownBlock] at e; left; omega)).trans ga, (ga.block _ hlt1 (by simp)).trans k, hlt1⟩
    have := (hl1 q e).2
    omega
  clear ho1 hk1 k k0 k1 hA0 hi0 ho0 hd0 dcell
  have hmk : (mark ++ nums [c.length]).length ≤ 20 := by
    have := nums_length [c.length] (by simp; omega)
    simp [mark] at this ⊢
    omega
  gi_loopw [18] (fun vi wr => ∃ (i : Nat) (x : Option Addr) (n y : Nat), vi = .int .i64 (i : Int) ∧ i ≤ c.length ∧ OutAt w wr w1.heap.size (.cells #[.slice ac c.length cc, .slice a d.length cp] 33) (fun k => k = w1.heap.size) (.slice x n y) (mark ++ nums [c.length] ++ nums ((c.take i).flatMap tri3))) (fun vi _ => c.length - (RowKit.intOf vi).toNat)
  case atStart => exact ⟨0, x1, n1, y1, rfl, Nat.zero_le _, by simpa [nums] using hO1⟩
  case round =>
    obtain ⟨i, x, n, y, rfl, hi, hO⟩ := hrel
    by_cases hlt : i < c.length
    · obtain ⟨q, hq⟩ : ∃ q, c[i] = q := ⟨_, rfl⟩
      obtain ⟨b, off, rfl, c1, c2, c3⟩ := (hTc.all hO.2.2.2.2.2.1).get hlt
      rw [hq] at c1 c2 c3
      obtain ⟨na, nb, nk, rfl, la, lb, lk⟩ := cls_nat g3 (Int.le_refl 0) (hq ▸ List.getElem_mem hlt)
      dsimp only at c1 c2 c3
      have e1 := hO.1.cell
      have e2 := hO.1.frozen
      have hobl := hO.1.lt
      have htk : mark ++ nums [c.length] ++ nums ((c.take (i + 1)).flatMap tri3) = (mark ++ nums [c.length] ++ nums ((c.take i).flatMap tri3)) ++ nums [na, nb, nk] := by
        rw [List.take_succ_eq_append_getElem hlt, hq, List.flatMap_append, nums_append, List.append_assoc, List.append_assoc, List.append_assoc]
        simp [tri3]
      have hml : (mark ++ nums [c.length] ++ nums ((c.take i).flatMap tri3)).length ≤ 200000 := by
        have h1 := nums_length ((c.take i).flatMap tri3) (fun n hn => by
          have := flat_lt (c.take i) (fun x hx => by obtain ⟨a, b, k, h, h1, h2, h3⟩ := cls_nat g3 (Int.le_refl 0) (List.mem_of_mem_take hx); exact ⟨a, b, k, h, h1, h2, by omega⟩) n hn
          omega)
        rw [flat_length] at h1
        simp only [List.length_append, List.length_take] at h1 hmk ⊢
        omega
      replace htk := Lib.hid htk
      generalize mark ++ nums [c.length] ++ nums ((c.take i).flatMap tri3) = M at hO htk hml
      have hgA : ∀ o1 o2 : Obj, wr.grownBy ((wr.alloc o1).alloc o2) none := fun o1 o2 => galloc (World.grownBy_alloc wr o1 none) o2
      have hvl := hO.2.1.lt
      have hst := fun o1 o2 hI => out_step w ((wr.alloc o1).alloc o2) w1.heap.size (wr.heap.size + 1) _ _ _ M [na, nb, nk] (hO.new (hgA o1 o2)) hI (fun e => by have := (hvl _ e).2; omega) (by simp) (by simp; omega) (by simp; omega)
      rw [show ([na, nb, nk] : List Nat).length = 3 from rfl] at hst
      have hI3 : ∀ o1, IntsAt ((wr.alloc o1).alloc (.cells #[.int .i64 (na : Int), .int .i64 (nb : Int), .int .i64 (nk : Int)] 3)) (wr.heap.size + 1) [na, nb, nk] := fun o1 => by
        have := ints_three (wr.alloc o1) na nb nk
        rwa [World.size_alloc] at this
      clear hq
      gi_wp2_with (refine ⟨trivial, ?_⟩; gi_at_call 126; refine (callsIn_wide.2 (hst _ _ (hI3 _))).mono ?_; rintro e w3 ⟨x', n', y', rfl, b1, b2, b3, b4⟩; have e3 := b1.cell; have e4 := b1.frozen)
      exact ⟨⟨i + 1, x', n', y', by go_num, by omega, by rw [htk.out]; exact b2⟩, by simp [RowKit.intOf]; omega⟩
    · obtain rfl : i = c.length := by omega
      rw [List.take_length] at hO
      have hCl : (headC c).length ≤ 200000 := by
        have h1 := nums_length (c.flatMap tri3) (fun n hn => by
          have := flat_lt c (fun x hx => by obtain ⟨a, b, k, h, h1, h2, h3⟩ := cls_nat g3 (Int.le_refl 0) hx; exact ⟨a, b, k, h, h1, h2, by omega⟩) n hn
          omega)
        rw [flat_length] at h1
        unfold headC
        simp only [List.length_append] at h1 hmk ⊢
        omega
      rw [show mark ++ nums [c.length] ++ nums (c.flatMap tri3) = headC c from rfl] at hO
      have e1 := hO.1.cell
      have e2 := hO.1.frozen
      have hobl := hO.1.lt
      have hvl := hO.2.1.lt
      have kD := hO.2.2.2.2.2.2.1
      have k0 : wr.cell? ⟨w.heap.size, 0, none⟩ = some (.slice ac c.length cc) := by simp [World.cell?, kD]
      have k1 : wr.cell? ⟨w.heap.size, 1, none⟩ = some (.slice a d.length cp) := by simp [World.cell?, kD]
      have hgA : ∀ o1 : Obj, wr.grownBy (wr.alloc o1) none := fun o1 => World.grownBy_alloc wr o1 none
      have hst := fun o1 hI => out_step w (wr.alloc o1) w1.heap.size wr.heap.size _ _ _ (headC c) [d.length] (hO.new (hgA o1)) hI (fun e => by have := (hvl _ e).2; omega) (by simp) (by simp; omega) (by simp; omega)
      rw [show ([d.length] : List Nat).length = 1 from rfl] at hst
      have hI1 := ints_one wr d.length
      clear hlt hO1
      gi_wp2_with (first
        | (refine ⟨trivial, ?_⟩; gi_at_call 126; refine (callsIn_wide.2 (hst _ hI1)).mono ?_; rintro e w3 ⟨x', n', y', rfl, b1, b2, ⟨b3, b5⟩, b4⟩; have e3 := b1.cell; have e4 := b1.frozen; have k3 : w3.cell? ⟨w.heap.size, 0, none⟩ = some (.slice ac c.length cc) := by { simp [World.cell?, b5] }; have k4 : w3.cell? ⟨w.heap.size, 1, none⟩ = some (.slice a d.length cp) := by { simp [World.cell?, b5] }; have hne5 : w.heap.size ≠ w1.heap.size := by { omega }; have hne6 : w1.heap.size ≠ w.heap.size := by { omega })
        | (refine ⟨trivial, ?_⟩; gi_at_call 56; refine (callsIn_wide.2 (hE _)).mono ?_; rintro e w5 ⟨p, rfl, hp, hb, hg5⟩))
      have hvl2 := b2.2.1.lt
      have hO5 := b2.new hg5
      have hpl := hb.lt
      have hs5 := hg5.size
      have hob5 := hO5.1.lt
      have hgw5 : w.grownBy w5 none := hO5.2.2.2.2.2.1
      have hvb : d ≠ [] → ∀ k, (Value.slice a d.length cp).ownBlock = some k → k < w.heap.size := fun hne k e => hTd.lt hne k e
      have hob4 : w1.heap.size < (w3.setCell ⟨w1.heap.size, 0, none⟩ (.slice x' n' y')).heap.size := b2.1.lt
      have hO6 : OutAt w w5 w1.heap.size (.cells #[.slice ac c.length cc, .slice a d.length cp] 33) (fun k => k = w1.heap.size ∨ k = p) (.slice x' n' y') (headC c ++ nums [d.length]) :=
        ⟨hO5.1, hO5.2.1, fun k e h => by have := (hvl2 k e).2; rcases h with h | h; exact hO5.2.2.1 k e h; omega, fun k h => by rcases h with h | h <;> omega, .inl rfl, hO5.2.2.2.2.2⟩
      have hTell := dvals1_tellsQ 4 p w5.heap.size (fun k => k = p ∨ (Value.slice a d.length cp).ownBlock = some k) _ d w5 hb (hTd.all hgw5) ⟨hpl, .inl rfl⟩ (fun hne k e => ⟨Nat.lt_of_lt_of_le (hvb hne k e) hgw5.size, .inr e⟩)
      have hDl : (headC c ++ nums [d.length]).length ≤ 200020 := by
        have h1 := nums_length [d.length] (by simp; omega)
        simp only [List.length_append, List.length_cons, List.length_nil] at h1 ⊢
        omega
      clear hE hst hI1 hgA b1 b4 e1 e2 e3 e4 k0 k1 k3 k4 kD hW0 kc hO hvl hO5
      refine range_tellsQ (a := _) (w := w5) (α := Dec) rfl (by omega) (gf := 133) (lb := #[.pointer (some ⟨p, 0, none⟩)]) rfl trivial (enters_of Tryz.func133 (by kernel_rfl) rfl)
        hTell (by simp) (fun _ => rfl) (fun _ _ _ _ _ _ h _ _ _ => h)
        (fun pre W => Hid (pre = d.take pre.length) ∧ (∃ x n y, OutAt w W w1.heap.size (.cells #[.slice ac c.length cc, .slice a d.length cp] 33) (fun k => k = w1.heap.size ∨ k = p) (.slice x n y) (headC c ++ nums [d.length] ++ nums (pre.flatMap tri3))) ∧ w5.heap.size ≤ W.heap.size) (fun _ _ _ => False)
        ?hI (fun _ _ _ _ _ h _ _ => h.elim) ⟨Lib.hid rfl, ⟨_, _, _, by simpa [nums] using hO6⟩, Nat.le_refl _⟩
        (fun e a' W => ∃ q, D3 W q e ∧ a' = { tmps := #[.agg #[.slice ac c.length cc, .slice a d.length cp], .pointer (some ⟨w.heap.size, 0, none⟩), .slice none 0 0, .int .i64 0, .pointer (some ⟨w1.heap.size, 0, none⟩), undef, u6, .pointer (some ⟨q, 0, none⟩), .slice (some ⟨w.heap.size + 1, 0, none⟩) 4 4, .slice (some ⟨w.heap.size + 1, 0, none⟩) 4 4, .pointer (some ⟨w.heap.size, 0, none⟩), .slice ac c.length cc, .int .i64 (c.length : Int), .slice (some ⟨w.heap.size + 1 + 1, 0, none⟩) 1 1, .slice x1 n1 y1, .pointer (some ⟨w.heap.size, 0, none⟩), .slice ac c.length cc, .int .i64 (c.length : Int), .int .i64 (c.length : Int), .bool false, u20, u21, u22, u23, u24, u25, u26, u27, u28, u29, u30, u31, u32, u33, .slice x n y, .pointer (some ⟨w.heap.size, 1, none⟩), .slice a d.length cp, .int .i64 (d.length : Int), .slice (some ⟨wr.heap.size, 0, none⟩) 1 1, .slice x' n' y', .agg #[.slice ac c.length cc, .slice a d.length cp], .func (.func 133) #[] #[.pointer (some ⟨p, 0, none⟩)], dAgg e, undef, undef, undef, undef, undef, undef, undef, undef, undef, undef, undef, undef, undef, undef, undef, undef, undef], defers := [] })
        (fun _ _ _ _ h _ => h) ?hAx ?assign ?body ?done ?stop
      case hI =>
        rintro pre A B k ⟨h0, ⟨x, n, y, h1⟩, h2⟩ hg' hk
        rcases hk with rfl | ⟨q, rfl, hq, ho⟩
        · exact ⟨h0, ⟨x, n, y, h1.new hg'⟩, Nat.le_trans h2 hg'.size⟩
        · refine ⟨h0, ⟨x, n, y, h1.row hg' (by omega) ?_ (by omega)⟩, Nat.le_trans h2 hg'.size⟩
          obtain ⟨_, ⟨h3, _⟩ | ⟨g, cap, cur, h3, _, hgg, _⟩⟩ := h1.2.1
          · rw [h3]; intro e; cases e
          · rw [h3]
            intro e
            simp only [Value.ownBlock, Option.some.injEq] at e
            subst e
            have := ho _ hgg
            cases this
      case hAx =>
        rintro x a' A B k o ⟨q, hc', rfl⟩ hg' hk ho
        refine ⟨q, hc'.kept hg' (fun e => ?_), rfl⟩
        cases e
        cases (hk.symm.trans hc')
        cases ho
      case assign =>
        intro l x W K hK
        unfold dEnc dAgg
        gi_wp2_with fail
        refine hK _ _ (World.grownBy_alloc W _ none) ⟨W.heap.size, D3.new W x, ?_⟩
        rfl
      case body =>
        rintro l2 pre e0 a' W ⟨h0, ⟨x4, n4, y4, h1⟩, h2⟩ hget ⟨q, hx, rfl⟩ hsz
        have hnx := Lib.hid (take_next h0.out hget)
        obtain ⟨na, nb, nk, rfl, la, lb, lk⟩ := dec_nat g4 (List.mem_of_getElem? hget)
        have z0 := hx.c0
        have z1 := hx.c1
        have z2 := hx.c2
        dsimp only at z0 z1 z2
        have e1 := h1.1.cell
        have e2 := h1.1.frozen
        have hobl := h1.1.lt
        have hlt : pre.length < d.length := (List.getElem?_eq_some_iff.1 hget).1
        have htk : headC c ++ nums [d.length] ++ nums ((pre ++ [((na : Int), (nb : Int), (nk : Int))]).flatMap tri3) = (headC c ++ nums [d.length] ++ nums (pre.flatMap tri3)) ++ nums [na, nb, nk] := by
          rw [List.flatMap_append, nums_append, List.append_assoc, List.append_assoc, List.append_assoc]
          simp [tri3]
        have hml : (headC c ++ nums [d.length] ++ nums (pre.flatMap tri3)).length ≤ 500000 := by
          have h1 := nums_length (pre.flatMap tri3) (fun n hn => by
            have := flat_lt pre (fun x hx => by rw [h0.out] at hx; exact dec_nat g4 (List.mem_of_mem_take hx)) n hn
            omega)
          rw [flat_length] at h1
          rw [List.length_append]
          omega
        replace htk := Lib.hid htk
        generalize headC c ++ nums [d.length] ++ nums (pre.flatMap tri3) = M at h1 htk hml
        have hvl := h1.2.1.lt
        have hst := fun o1 hI => out_step w (W.alloc o1) w1.heap.size W.heap.size _ _ _ M [na, nb, nk] (h1.new (World.grownBy_alloc W o1 none)) hI (fun e => by have := (hvl _ e).2; omega) (by simp) (by simp; omega) (by simp; omega)
        rw [show ([na, nb, nk] : List Nat).length = 3 from rfl] at hst
        have hI3 := ints_three W na nb nk
        have hvc : ∀ k o, (Value.slice x4 n4 y4).ownBlock = some k → W.heap[k]? = some o → o.isCells = true := by
          intro k o hk ho
          obtain ⟨_, ⟨h3, _⟩ | ⟨g, cap, cur, h3, _, hgg, _⟩⟩ := h1.2.1
          · rw [h3] at hk; cases hk
          · rw [h3] at hk
            simp only [Value.ownBlock, Option.some.injEq] at hk
            subst hk
            rw [hgg] at ho
            cases ho
            rfl
        have hvp : ∀ k, (Value.slice x4 n4 y4).ownBlock = some k → k ≠ w1.heap.size ∧ k ≠ p ∧ w.heap.size < k := fun k hk => ⟨fun h => h1.2.2.1 k hk (.inl h), fun h => h1.2.2.1 k hk (.inr h), (hvl k hk).1⟩
        replace h1 := Lib.hid h1
        replace hx := Lib.hid hx
        clear hTell hO6 hTc hTd hb b2 b5 hvl2
        dsimp only
        gi_wp2_with (refine ⟨trivial, ?_⟩; gi_at_call 126; refine (callsIn_wide.2 (hst _ hI3)).mono ?_; rintro e w7 ⟨x7, n7, y7, rfl, b1, b2, ⟨b3, b5⟩, b4⟩; have e3 := b1.cell; have e4 := b1.frozen)
        have hszW := Nat.le_trans (Nat.le_trans (World.grownBy_alloc W (.cells #[.int .i64 (na : Int), .int .i64 (nb : Int), .int .i64 (nk : Int)] 3) none).size b3) (grownBy_setCell' w7 w1.heap.size (.slice x7 n7 y7)).size
        have hsame : ∀ k, k < W.heap.size → k ≠ w1.heap.size → (Value.slice x4 n4 y4).ownBlock ≠ some k → (w7.setCell ⟨w1.heap.size, 0, none⟩ (.slice x7 n7 y7)).heap[k]? = W.heap[k]? := fun k hk g1 g2 => (b4 k (by simp; omega) g1 g2).trans ((World.grownBy_alloc W _ none).block k hk (by simp))
        have hdne : d ≠ [] := fun h => by rw [h] at hlt; simp at hlt
        refine ⟨⟨hszW, fun k o hk ho hc => ?_⟩, ⟨hszW, fun k hk hp => ?_⟩, hnx, ⟨x7, n7, y7, by rw [htk.out]; exact b2⟩, Nat.le_trans h2 hszW⟩
        · exact (hsame k (Array.getElem?_eq_some_iff.1 ho).1 (by omega) (fun e => by rw [hvc k o e ho] at hc; cases hc)).trans ho
        · rcases hp with rfl | hp
          · exact hsame k (by omega) (by omega) (fun e => (hvp _ e).2.1 rfl)
          · have := hvb hdne k hp
            exact hsame k (by omega) (by omega) (fun e => by have := (hvp _ e).2.2; omega)
      case stop =>
        rintro D c' pre Wd W15 hD _ h _ _
        exact h.elim
      case done =>
        rintro D xs Wd W15 hD hS ⟨h0, ⟨x4, n4, y4, h1⟩, h2⟩ hg' hM
        obtain rfl : xs = d := hS
        have e1 := h1.1.cell
        have hN := fun W => crcNew_any W
        have hlen : (payload c xs).length ≤ 500000 := by
          have h1 := nums_length (xs.flatMap tri3) (fun n hn => by
            have := flat_lt xs (fun x hx => dec_nat g4 hx) n hn
            omega)
          rw [flat_length] at h1
          unfold payload
          rw [List.length_append]
          omega
        rw [show headC c ++ nums [xs.length] ++ nums (xs.flatMap tri3) = payload c xs from rfl] at h1
        have hF := fun W (hg : W15.grownBy W none) t (hT : Tbl W t false) ht => Frame_ok t false x4 n4 y4 (payload c xs) W hT ((h1.new hg).2.1.reads) ht (by omega)
        obtain ⟨P, hP⟩ : ∃ P, P = payload c xs := ⟨_, rfl⟩
        rw [← hP] at h1 hF hlen
        replace hP := Lib.hid hP
        have ec : ∀ W, W15.grownBy W none → W.cell? ⟨w1.heap.size, 0, none⟩ = some (.slice x4 n4 y4) := fun W hg => (h1.new hg).1.cell
        have hvl := h1.2.1.lt
        have hgw15 : w.grownBy W15 none := h1.2.2.2.2.2.1
        clear hTell hO6 hTc hTd hb b2 b5 hvl2 hvb hgd g4
        gi_wp2_with fail
        apply wpIn_noPanic
        gi_region_with (first
          | (refine ⟨trivial, ?_⟩; gi_at_call 114; refine (callsIn_wide.2 (hN _)).mono ?_; rintro e w8 ⟨t, rfl, ht, hTab, hg8⟩; have hg15 : W15.grownBy w8 none := ⟨hg8.os, hg8.tape, hg8.output, hg8.size, hg8.block⟩; have e8 := ec _ hg15)
          | (refine ⟨trivial, ?_⟩; gi_at_call 127; refine (callsIn_wide.2 (hF _ hg15 t hTab (.inr (fun e => by have := (hvl _ e).2; simp at ht; omega)))).mono ?_; rintro e w9 ⟨v9, rfl, ho9, hg9, hT9⟩))
        all_goals
          have hDl : D < W15.heap.size := (Array.getElem?_eq_some_iff.1 hM).1
          have ht15 : W15.heap.size ≤ t := ht
          have hM9 : w9.heap[D]? = some (.deferred (some [])) := (hg9.block D (Nat.lt_of_lt_of_le hDl hg15.size) (by simp; omega)).trans ((hg15.block D hDl (by simp)).trans hM)
          have gp := grownBy_putObj' w9 D (.deferred none)
          have hfin : w.grownBy (w9.putObj D (.deferred none)) none := gnew (gnew (hgw15.trans hg15) hg9 (fun r e => by cases e; left; have := hgw15.size; omega)) gp (fun r e => by cases e; left; omega)
          have hofin : Owns (w9.putObj D (.deferred none)) w.heap.size 5 v9 (frame P) := (ho9.mono (Nat.le_trans hgw15.size hg15.size)).kept gp (.inr (fun e => by have := (ho9.lt _ e).1; have := hg15.size; omega))
          clear hF hN ec h1 hg9 hT9 hTab ho9 hg8 gp
          refine noPanic_normal ?_
          gi_wp2_with fail
          refine ⟨by simp, .inl ⟨_, _, rfl, run_takeDeferred hM9, ?_⟩⟩
          simp [LeavesInM, LeavesIn, results, Tryz.results86, go_sem]
          rw [hP.out] at hofin
          exact ⟨hofin, hfin⟩
theorem write_any (vc vd : Value) (c : List Cls) (d : List Dec) (w : World) (hT : Dat w vc vd c d) (hgd : good c d = true) :
    Calls Tryz.prog 86 #[datV vc vd] w fun e w' => ∃ v, e = .returned (.tuple #[v, .int .i64 0]) ∧ Owns w' w.heap.size 5 v (frame (payload c d)) ∧ w.grownBy w' none := callsIn_wide.1 (write_in vc vd c d w hT hgd)
end Go.Proofs.YtpdacbiiaglodaaGreat

/-
  LAYER 5 (norms): rows that are read.
-/
namespace Go.Proofs.YtpdacbiiaglodaaGreat
set_option maxRecDepth 100000
open Go.RowKit Go.Lib

def triCells (k : IntKind) (l : List (Int × Int × Int)) : List Value := l.flatMap fun x => [.int .i32 x.1, .int .i32 x.2.1, .int k x.2.2]
theorem triCells_length (k : IntKind) (l : List (Int × Int × Int)) : (triCells k l).length = l.length * 3 := by
  induction l with
  | nil => rfl
  | cons x t ih => simp only [triCells, List.flatMap_cons, List.length_append, List.length_cons, List.length_nil] at ih ⊢; omega
theorem triCells_get (k : IntKind) : ∀ (l : List (Int × Int × Int)) (i : Nat) (x : Int × Int × Int), l[i]? = some x →
    (triCells k l)[i * 3]? = some (.int .i32 x.1) ∧ (triCells k l)[i * 3 + 1]? = some (.int .i32 x.2.1) ∧ (triCells k l)[i * 3 + 2]? = some (.int k x.2.2)
  | [], i, x, h => by simp at h
  | y :: t, 0, x, h => by
    simp at h
    subst h
    simp [triCells]
  | y :: t, i + 1, x, h => by
    have ih := triCells_get k t i x (by simpa using h)
    rw [show (i + 1) * 3 = i * 3 + 3 by omega, show i * 3 + 3 + 1 = (i * 3 + 1) + 3 by omega, show i * 3 + 3 + 2 = (i * 3 + 2) + 3 by omega]
    simpa [triCells] using ih
theorem tri_own {k : IntKind} {w : World} {B : Nat} {e : TypeId} {v : Value} {l : List (Int × Int × Int)} (h : w.ownsRow B e 3 v l.length (triCells k l)) : Tri k w v l := by
  obtain ⟨h0, ⟨rfl, hn⟩ | ⟨g, cap, cur, rfl, hB, hgg, h1, h2, h3, h4⟩⟩ := h
  · exact .inl ⟨rfl, List.length_eq_zero_iff.1 hn⟩
  · refine .inr ⟨g, 0, cap, rfl, h1, h2, fun i x hx => ?_⟩
    have hil := (List.getElem?_eq_some_iff.1 hx).1
    obtain ⟨q1, q2, q3⟩ := triCells_get k l i x hx
    have cell : ∀ (j : Nat) (u : Value), (triCells k l)[j]? = some u → w.cell? ⟨g, j, none⟩ = some u := by
      intro j u hu
      have hj := (List.getElem?_eq_some_iff.1 hu).1
      rw [triCells_length] at hj
      rw [← h4, List.getElem?_take_of_lt hj] at hu
      have h6 : cur[j]? = some u := by simpa using hu
      simp only [World.cell?, hgg]
      exact h6
    rw [Nat.zero_add]
    exact ⟨cell _ _ q1, cell _ _ q2, cell _ _ q3⟩

theorem St.grown {w w3 W : World} {q r : Nat} {vb : Value} {rest0 rest : List UInt8} {row : Option Nat} (h0 : St w q r vb rest0) (h : St w3 q r vb rest) (hg : w3.grownBy W row) (hx : ∀ x, row = some x → w.heap.size ≤ x) : St W q r vb rest := by
  cases row with
  | none => exact h.new hg
  | some x => exact h0.row h hg (hx x rfl)

theorem info_class : (Tryz.prog.info? 104).map (fun i => (i.zero, i.size, i.bytes)) = some (some (.agg #[.int .i32 0, .int .i32 0, .int .i64 0]), 3, 16) := by kernel_rfl
theorem info_class_parts : ∃ i0 : TypeInfo, Tryz.prog.info? 104 = some i0 ∧ i0.zero = some (.agg #[.int .i32 0, .int .i32 0, .int .i64 0]) ∧ i0.size = 3 ∧ i0.bytes = 16 := by
  have h := info_class
  cases hi : Tryz.prog.info? 104 with
  | none => rw [hi] at h; cases h
  | some i =>
    rw [hi] at h
    simp only [Option.map_some, Option.some.injEq, Prod.mk.injEq] at h
    exact ⟨i, rfl, h.1, h.2.1, h.2.2⟩

set_option maxHeartbeats 4000000 in
theorem rows_class (q r : Nat) (vb : Value) (l : List (Int × Int × Int)) (more : List UInt8) (w : World) (hn : ∀ x ∈ l, ∃ a b k : Nat, x = ((a : Int), (b : Int), (k : Int)) ∧ a ≤ 1114111 ∧ b ≤ 1114111 ∧ k ≤ 1114111) (hl : l.length ≤ 8000)
    (h : St w q r vb (Lib.uvarint l.length ++ (nums (l.flatMap tri3) ++ more))) :
    Calls Tryz.prog 118 #[.pointer (some ⟨q, 0, none⟩), .func (.func 119) #[.pointer (some ⟨q, 0, none⟩)] #[]] w fun e w' => ∃ v, e = .returned v ∧ Tri .i64 w' v l ∧ (∀ k, v.ownBlock = some k → w.heap.size ≤ k) ∧ w.grownBy w' (some r) ∧ St w' q r vb more := by
  have hrl := h.lt
  obtain ⟨i0, hi, hz0, hz1, hz2⟩ := info_class_parts
  have hN := number_ok q r vb l.length _ w h (by omega)
  go_enter Tryz.func118, Tryz.ntmps118
  go_wp2_with (go_at_call 149; refine hN.mono ?_; rintro e w1 ⟨rfl, hg1, hS1⟩)
  go_loopw [5, 9] (fun vo vi wr => ∃ (i : Nat), vi = .int .u64 (i : Int) ∧ i ≤ l.length ∧ Hid (wr.ownsRow w.heap.size 104 3 vo i (triCells .i64 (l.take i))) ∧ Hid (St wr q r vb (nums ((l.drop i).flatMap tri3) ++ more)) ∧ w.grownBy wr (some r)) (fun _ vi _ => l.length - (RowKit.intOf vi).toNat)
  case atStart => exact ⟨0, rfl, Nat.zero_le _, Lib.hid (World.ownsRow_nil _ _ _ _), Lib.hid hS1, hg1⟩
  case round =>
    obtain ⟨i, rfl, hi1, hown, hS, hg⟩ := hrel
    by_cases hlt : i < l.length
    · obtain ⟨x, hx⟩ : ∃ x, l[i] = x := ⟨_, rfl⟩
      obtain ⟨a, b, k, rfl, ha, hb, hk⟩ := hn x (hx ▸ List.getElem_mem hlt)
      have hSo := hS.out
      rw [List.drop_eq_getElem_cons hlt, hx, List.flatMap_cons, nums_append, show nums (tri3 ((a : Int), (b : Int), (k : Int))) = Lib.uvarint a ++ (Lib.uvarint b ++ Lib.uvarint k) by simp [nums, tri3], List.append_assoc, List.append_assoc, List.append_assoc] at hSo
      have C := class_ok q r vb a b k _ wr hSo ha hb hk
      unfold cAgg at C
      dsimp only at C
      have hown0 := hown.out
      have htk : triCells .i64 (l.take (i + 1)) = triCells .i64 (l.take i) ++ [.int .i32 (a : Int), .int .i32 (b : Int), .int .i64 (k : Int)] := by
        rw [List.take_succ_eq_append_getElem hlt, hx]; simp [triCells]
      replace htk := Lib.hid htk
      generalize triCells .i64 (l.take i) = M at hown0 htk
      obtain ⟨R2, hR2⟩ : ∃ R2, R2 = nums ((l.drop (i + 1)).flatMap tri3) ++ more := ⟨_, rfl⟩
      rw [← hR2] at C
      replace hR2 := Lib.hid hR2
      have hvl := World.ownsRow.lt hown0
      clear hown hS hSo hx
      go_wp2_with (first
        | (go_at_call 119; refine C.mono ?_; rintro e w3 ⟨rfl, hg3, hS3⟩)
        | (go_at_call 150; refine (goesOn_ok q r vb _ _ (hS3.new (World.grownBy_alloc w3 _ none))).mono ?_; rintro e w4 ⟨rfl, rfl⟩; have hown3 : ∀ o1 o2, ((w3.alloc o1).alloc o2).ownsRow w.heap.size 104 3 u5 i M := fun o1 o2 => ((hown0.kept hg3 (.inr (fun e => by { have := (hvl _ e).1; omega }))).alloc o1).alloc o2)
        | (at_builtin; refine wpList_append_own _ rfl _ _ 23 rfl w.heap.size 104 i0 (.agg #[.int .i32 0, .int .i32 0, .int .i64 0]) 3 16 Tryz.underlying23 hi hz0 hz1 hz2 rfl (by decide) u5 i M rfl (hown3 _ _) ⟨w3.heap.size + 1, 0, none⟩ 1 1 [.int .i32 (a : Int), .int .i32 (b : Int), .int .i64 (k : Int)] rfl rfl ?c1 ?c2 ?c3 ?c4 ?c5 ?_))
      case c1 =>
        intro j u hj
        have hn := World.alloc_heap_new (w3.alloc (.cells #[.int .i32 (a : Int), .int .i32 (b : Int), .int .i64 (k : Int)] 104)) (.cells #[.int .i32 (a : Int), .int .i32 (b : Int), .int .i64 (k : Int)] 104)
        rw [World.size_alloc] at hn
        match j, hj with
        | 0, hj => simp at hj; subst hj; rw [show (⟨w3.heap.size + 1, 0, none⟩ : Addr).add 0 = ⟨w3.heap.size + 1, 0, none⟩ from rfl]; simp only [World.cell?, hn]; rfl
        | 1, hj => simp at hj; subst hj; rw [show (⟨w3.heap.size + 1, 0, none⟩ : Addr).add 1 = ⟨w3.heap.size + 1, 1, none⟩ from rfl]; simp only [World.cell?, hn]; rfl
        | 2, hj => simp at hj; subst hj; rw [show (⟨w3.heap.size + 1, 0, none⟩ : Addr).add 2 = ⟨w3.heap.size + 1, 2, none⟩ from rfl]; simp only [World.cell?, hn]; rfl
      case c2 => intro u hu; simp at hu; rcases hu with rfl | rfl | rfl <;> rfl
      case c3 => unfold maxLen; omega
      case c4 => omega
      case c5 => have := hg.size; have := hg3.size; simp; omega
      intro v' w5 hown5 hg5 _
      have hS5 : St w5 q r vb R2 := h.grown ((hS3.new (World.grownBy_alloc w3 _ none)).new (World.grownBy_alloc _ _ none)) hg5 (fun x e => (hvl x e).1)
      have hgf : w.grownBy w5 (some r) := gnew ((hg.trans hg3).trans (gbut (galloc (World.grownBy_alloc w3 _ none) _) _)) hg5 (fun x e => .inl (hvl x e).1)
      clear hown0 hown3 hS3 C hN hS1
      go_wp2
      go_roundw
      case rel => exact ⟨i + 1, by go_num, by omega, Lib.hid (by rw [htk.out]; exact hown5), Lib.hid (by rw [← hR2.out]; exact hS5), hgf⟩
      case measure => simp [RowKit.intOf]; omega
    · obtain rfl : i = l.length := by omega
      have hSo := hS.out
      have hown0 := hown.out
      rw [List.drop_length, show nums (List.flatMap tri3 []) ++ more = more from rfl] at hSo
      rw [List.take_length] at hown0
      have hvl := World.ownsRow.lt hown0
      have hT := tri_own hown0
      clear hlt hown hS hown0
      go_wp2
      go_ret
      exact ⟨_, rfl, hT, fun k e => (hvl k e).1, hg, hSo⟩
theorem info_decomp : (Tryz.prog.info? 106).map (fun i => (i.zero, i.size, i.bytes)) = some (some (.agg #[.int .i32 0, .int .i32 0, .int .i32 0]), 3, 12) := by kernel_rfl
theorem info_decomp_parts : ∃ i0 : TypeInfo, Tryz.prog.info? 106 = some i0 ∧ i0.zero = some (.agg #[.int .i32 0, .int .i32 0, .int .i32 0]) ∧ i0.size = 3 ∧ i0.bytes = 12 := by
  have h := info_decomp
  cases hi : Tryz.prog.info? 106 with
  | none => rw [hi] at h; cases h
  | some i =>
    rw [hi] at h
    simp only [Option.map_some, Option.some.injEq, Prod.mk.injEq] at h
    exact ⟨i, rfl, h.1, h.2.1, h.2.2⟩

set_option maxHeartbeats 4000000 in
theorem rows_decomp (q r : Nat) (vb : Value) (l : List (Int × Int × Int)) (more : List UInt8) (w : World) (hn : ∀ x ∈ l, ∃ a b k : Nat, x = ((a : Int), (b : Int), (k : Int)) ∧ a ≤ 1114111 ∧ b ≤ 1114111 ∧ k ≤ 1114111) (hl : l.length ≤ 8000)
    (h : St w q r vb (Lib.uvarint l.length ++ (nums (l.flatMap tri3) ++ more))) :
    Calls Tryz.prog 120 #[.pointer (some ⟨q, 0, none⟩), .func (.func 121) #[.pointer (some ⟨q, 0, none⟩)] #[]] w fun e w' => ∃ v, e = .returned v ∧ Tri .i32 w' v l ∧ (∀ k, v.ownBlock = some k → w.heap.size ≤ k) ∧ w.grownBy w' (some r) ∧ St w' q r vb more := by
  have hrl := h.lt
  obtain ⟨i0, hi, hz0, hz1, hz2⟩ := info_decomp_parts
  have hN := number_ok q r vb l.length _ w h (by omega)
  go_enter Tryz.func120, Tryz.ntmps120
  go_wp2_with (go_at_call 149; refine hN.mono ?_; rintro e w1 ⟨rfl, hg1, hS1⟩)
  go_loopw [5, 9] (fun vo vi wr => ∃ (i : Nat), vi = .int .u64 (i : Int) ∧ i ≤ l.length ∧ Hid (wr.ownsRow w.heap.size 106 3 vo i (triCells .i32 (l.take i))) ∧ Hid (St wr q r vb (nums ((l.drop i).flatMap tri3) ++ more)) ∧ w.grownBy wr (some r)) (fun _ vi _ => l.length - (RowKit.intOf vi).toNat)
  case atStart => exact ⟨0, rfl, Nat.zero_le _, Lib.hid (World.ownsRow_nil _ _ _ _), Lib.hid hS1, hg1⟩
  case round =>
    obtain ⟨i, rfl, hi1, hown, hS, hg⟩ := hrel
    by_cases hlt : i < l.length
    · obtain ⟨x, hx⟩ : ∃ x, l[i] = x := ⟨_, rfl⟩
      obtain ⟨a, b, k, rfl, ha, hb, hk⟩ := hn x (hx ▸ List.getElem_mem hlt)
      have hSo := hS.out
      rw [List.drop_eq_getElem_cons hlt, hx, List.flatMap_cons, nums_append, show nums (tri3 ((a : Int), (b : Int), (k : Int))) = Lib.uvarint a ++ (Lib.uvarint b ++ Lib.uvarint k) by simp [nums, tri3], List.append_assoc, List.append_assoc, List.append_assoc] at hSo
      have C := decomp_ok q r vb a b k _ wr hSo ha hb hk
      unfold dAgg at C
      dsimp only at C
      have hown0 := hown.out
      have htk : triCells .i32 (l.take (i + 1)) = triCells .i32 (l.take i) ++ [.int .i32 (a : Int), .int .i32 (b : Int), .int .i32 (k : Int)] := by
        rw [List.take_succ_eq_append_getElem hlt, hx]; simp [triCells]
      replace htk := Lib.hid htk
      generalize triCells .i32 (l.take i) = M at hown0 htk
      obtain ⟨R2, hR2⟩ : ∃ R2, R2 = nums ((l.drop (i + 1)).flatMap tri3) ++ more := ⟨_, rfl⟩
      rw [← hR2] at C
      replace hR2 := Lib.hid hR2
      have hvl := World.ownsRow.lt hown0
      clear hown hS hSo hx
      go_wp2_with (first
        | (go_at_call 121; refine C.mono ?_; rintro e w3 ⟨rfl, hg3, hS3⟩)
        | (go_at_call 150; refine (goesOn_ok q r vb _ _ (hS3.new (World.grownBy_alloc w3 _ none))).mono ?_; rintro e w4 ⟨rfl, rfl⟩; have hown3 : ∀ o1 o2, ((w3.alloc o1).alloc o2).ownsRow w.heap.size 106 3 u5 i M := fun o1 o2 => ((hown0.kept hg3 (.inr (fun e => by { have := (hvl _ e).1; omega }))).alloc o1).alloc o2)
        | (at_builtin; refine wpList_append_own _ rfl _ _ 24 rfl w.heap.size 106 i0 (.agg #[.int .i32 0, .int .i32 0, .int .i32 0]) 3 12 Tryz.underlying24 hi hz0 hz1 hz2 rfl (by decide) u5 i M rfl (hown3 _ _) ⟨w3.heap.size + 1, 0, none⟩ 1 1 [.int .i32 (a : Int), .int .i32 (b : Int), .int .i32 (k : Int)] rfl rfl ?c1 ?c2 ?c3 ?c4 ?c5 ?_))
      case c1 =>
        intro j u hj
        have hn := World.alloc_heap_new (w3.alloc (.cells #[.int .i32 (a : Int), .int .i32 (b : Int), .int .i32 (k : Int)] 106)) (.cells #[.int .i32 (a : Int), .int .i32 (b : Int), .int .i32 (k : Int)] 106)
        rw [World.size_alloc] at hn
        match j, hj with
        | 0, hj => simp at hj; subst hj; rw [show (⟨w3.heap.size + 1, 0, none⟩ : Addr).add 0 = ⟨w3.heap.size + 1, 0, none⟩ from rfl]; simp only [World.cell?, hn]; rfl
        | 1, hj => simp at hj; subst hj; rw [show (⟨w3.heap.size + 1, 0, none⟩ : Addr).add 1 = ⟨w3.heap.size + 1, 1, none⟩ from rfl]; simp only [World.cell?, hn]; rfl
        | 2, hj => simp at hj; subst hj; rw [show (⟨w3.heap.size + 1, 0, none⟩ : Addr).add 2 = ⟨w3.heap.size + 1, 2, none⟩ from rfl]; simp only [World.cell?, hn]; rfl
      case c2 => intro u hu; simp at hu; rcases hu with rfl | rfl | rfl <;> rfl
      case c3 => unfold maxLen; omega
      case c4 => omega
      case c5 => have := hg.size; have := hg3.size; simp; omega
      intro v' w5 hown5 hg5 _
      have hS5 : St w5 q r vb R2 := h.grown ((hS3.new (World.grownBy_alloc w3 _ none)).new (World.grownBy_alloc _ _ none)) hg5 (fun x e => (hvl x e).1)
      have hgf : w.grownBy w5 (some r) := gnew ((hg.trans hg3).trans (gbut (galloc (World.grownBy_alloc w3 _ none) _) _)) hg5 (fun x e => .inl (hvl x e).1)
      clear hown0 hown3 hS3 C hN hS1
      go_wp2
      go_roundw
      case rel => exact ⟨i + 1, by go_num, by omega, Lib.hid (by rw [htk.out]; exact hown5), Lib.hid (by rw [← hR2.out]; exact hS5), hgf⟩
      case measure => simp [RowKit.intOf]; omega
    · obtain rfl : i = l.length := by omega
      have hSo := hS.out
      have hown0 := hown.out
      rw [List.drop_length, show nums (List.flatMap tri3 []) ++ more = more from rfl] at hSo
      rw [List.take_length] at hown0
      have hvl := World.ownsRow.lt hown0
      have hT := tri_own hown0
      clear hlt hown hS hown0
      go_wp2
      go_ret
      exact ⟨_, rfl, hT, fun k e => (hvl k e).1, hg, hSo⟩
end Go.Proofs.YtpdacbiiaglodaaGreat

/-
  LAYER 3 (crc): what bytes are as a frame: the plain mathematics.
-/
namespace Go.Proofs.YtpdacbiiaglodaaGreat
set_option maxRecDepth 100000
open Go.RowKit Go.Lib

theorem leB_succ (n : Nat) : ∀ k, leB n (k + 1) = (n % 256).toUInt8 :: leB (n / 256) k
  | 0 => by simp [leB]
  | k + 1 => by
    rw [leB, leB_succ n k, leB, List.cons_append]
    congr 3
    rw [Nat.div_div_eq_div_mul, show 8 * (k + 1) = 8 + 8 * k by omega, Nat.pow_add]
theorem leNat_leB : ∀ (k n : Nat), leNat (leB n k) = n % 2 ^ (8 * k)
  | 0, n => by simp [leB, leNat, Nat.mod_one]
  | k + 1, n => by
    rw [leB_succ, leNat, leNat_leB k, toUInt8_toNat (by omega), show 8 * (k + 1) = 8 + 8 * k by omega, Nat.pow_add, show (2 : Nat) ^ 8 = 256 from rfl, Nat.mod_mul]
theorem leB_leNat : ∀ (l : List UInt8), leB (leNat l) l.length = l
  | [] => rfl
  | c :: l => by
    have hc := c.toNat_lt
    rw [List.length_cons, leB_succ, leNat, show (c.toNat + 256 * leNat l) % 256 = c.toNat by omega, show (c.toNat + 256 * leNat l) / 256 = leNat l by omega, leB_leNat l, u8_self]

/-- The payload, the sum that it should have, masked, and where the frame ends. -/
def sp (bs : List UInt8) : Option (List UInt8 × Nat × Nat) :=
  match rd 0 0 bs with
  | .error _ => none
  | .ok (n, m) => if n ≤ 16777216 ∧ m + 4 + n ≤ bs.length then some ((bs.drop (m + 4)).take n, leNat ((bs.drop m).take 4), m + 4 + n) else none
def unf (bs : List UInt8) : List UInt8 × Nat × Int :=
  match sp bs with
  | none => ([], 0, 30)
  | some (p, f, k) => if mask (sum p) = f then (p, k, 0) else ([], 0, 31)

theorem frame_length (p : List UInt8) : (frame p).length = (Lib.uvarint p.length).length + 4 + p.length := by unfold frame; simp [leB_length]; omega
theorem unf_frame (p more : List UInt8) (hp : p.length ≤ 16777216) : unf (frame p ++ more) = (p, (frame p).length, 0) := by
  have hrd : rd 0 0 (frame p ++ more) = .ok (p.length, (Lib.uvarint p.length).length) := by
    unfold frame
    rw [List.append_assoc, List.append_assoc]
    exact back_uint p.length (by omega) _
  have hl := frame_length p
  have e1 : (frame p ++ more).drop (Lib.uvarint p.length).length = leB (mask (sum p)) 4 ++ (p ++ more) := by
    unfold frame
    rw [List.append_assoc, List.append_assoc, List.drop_left, ]
  have e2 : (frame p ++ more).drop ((Lib.uvarint p.length).length + 4) = p ++ more := by
    rw [← List.drop_drop, e1, List.drop_left' (leB_length _ 4)]
  have hsp : sp (frame p ++ more) = some (p, mask (sum p), (frame p).length) := by
    unfold sp
    rw [hrd]
    simp only
    rw [if_pos ⟨hp, by rw [List.length_append, hl]; omega⟩, e1, e2, List.take_left, List.take_left' (leB_length _ 4), leNat_leB, Nat.mod_eq_of_lt (by have := mask_lt (sum p); simpa using this), hl]
  unfold unf
  rw [hsp]
  simp
theorem sp_some {bs p : List UInt8} {f k : Nat} (h : sp bs = some (p, f, k)) : ∃ n m, rd 0 0 bs = .ok (n, m) ∧ n ≤ 16777216 ∧ m + 4 + n ≤ bs.length ∧ p = (bs.drop (m + 4)).take n ∧ f = leNat ((bs.drop m).take 4) ∧ k = m + 4 + n ∧ p.length = n := by
  unfold sp at h
  split at h
  · cases h
  · rename_i n m hrd
    split at h
    · rename_i hc
      simp only [Option.some.injEq, Prod.mk.injEq] at h
      obtain ⟨rfl, rfl, rfl⟩ := h
      exact ⟨n, m, hrd, hc.1, hc.2, rfl, rfl, rfl, by simp; omega⟩
    · cases h
theorem unf_ok {bs p : List UInt8} {k : Nat} (h : unf bs = (p, k, 0)) : frame p = bs.take k ∧ k ≤ bs.length ∧ p.length ≤ 16777216 ∧ k = (frame p).length := by
  unfold unf at h
  split at h
  · simp at h
  · rename_i p' f k' hsp
    split at h
    · rename_i hm
      simp only [Prod.mk.injEq, and_true] at h
      obtain ⟨rfl, rfl⟩ := h
      obtain ⟨n, m, hrd, h1, h2, h3, h4, h5, h6⟩ := sp_some hsp
      obtain ⟨q1, q2, q3⟩ := once_uint hrd
      have e4 : leB f 4 = (bs.drop m).take 4 := by
        have hl : ((bs.drop m).take 4).length = 4 := by simp; omega
        have := leB_leNat ((bs.drop m).take 4)
        rw [hl] at this
        rw [h4, this]
      have hfr : frame p' = bs.take k' := by
        unfold frame
        rw [hm, e4, h6, q1, h5, h3]
        rw [show m + 4 + n = m + (4 + n) by omega, List.take_add, List.take_add, List.append_assoc, List.drop_drop]
      refine ⟨hfr, by omega, by omega, ?_⟩
      rw [hfr, List.length_take]
      omega
    · simp at h
end Go.Proofs.YtpdacbiiaglodaaGreat

/-
  LAYER 2 (codec): the reference's readers.
-/
namespace Go.Proofs.YtpdacbiiaglodaaGreat
set_option maxRecDepth 100000
open Go.RowKit Go.Lib

def uOf : Except Int (Nat × Nat) → Nat × Nat × Int
  | .ok (n, m) => (n, m, 0)
  | .error x => (0, 0, x)
theorem orw {i acc c : Nat} (hi : i ≤ 9) (hacc : acc < 2 ^ (7 * i)) (h9 : i = 9 → c % 128 ≤ 1) :
    bits .or .u64 (acc : Int) (IntKind.u64.wrap ((c : Int) % 128 * 2 ^ (7 * i))) = ((acc + c % 128 * 2 ^ (7 * i) : Nat) : Int) := by
  have hf := (rd_fits hi hacc (Nat.mod_lt c (by decide)) h9).1
  have e0 : (c : Int) % 128 * 2 ^ (7 * i) = ((c % 128 * 2 ^ (7 * i) : Nat) : Int) := by simp
  rw [e0, u64_wrap_id ((c % 128 * 2 ^ (7 * i) : Nat) : Int) (by omega) (by omega)]
  have hacc' : ((acc : Nat) : Int) < 2 ^ (7 * i) := by exact_mod_cast hacc
  have := bits_join_low .u64 64 (by decide) wraps_u64 (7 * i) (acc : Int) ((c % 128 * 2 ^ (7 * i) : Nat) : Int) (by omega) hacc' (by omega) (by omega) (by
    rw [show ((2 : Int) ^ (7 * i)) = ((2 ^ (7 * i) : Nat) : Int) from by simp, ← Int.natCast_emod, Nat.mul_mod_left]; rfl) (by omega)
  rw [this]
  omega
theorem Reads.at {w : World} {a : Option Addr} {l c : Nat} {bs : List UInt8} (h : Reads w (.slice a l c) bs) {i : Nat} (hi : i < bs.length) : ∃ b off, a = some ⟨b, off, none⟩ ∧ w.cell? ⟨b, off + i, none⟩ = some (.int .u8 (bs[i].toNat : Int)) := by
  rcases h with ⟨_, rfl⟩ | ⟨b, off, cap, hv, _, _, hc⟩
  · simp at hi
  · simp only [Value.slice.injEq] at hv
    exact ⟨b, off, hv.1, hc i _ (List.getElem?_eq_getElem hi)⟩
theorem uRes_eq (bs : List UInt8) : uRes bs = uOf (rd 0 0 bs) := by unfold uRes uOf; rfl

theorem uRes_lt {bs : List UInt8} {n m : Nat} {x : Int} (h : uRes bs = (n, m, x)) : n < 18446744073709551616 := by
  rcases uRes_cases h with ⟨_, h⟩ | ⟨_, rfl, _⟩
  · exact (rd_lt bs 0 0 n m (by omega) (by decide) h).1
  · omega

theorem leNat_drop (bs : List UInt8) (k j : Nat) (hk : k ≤ bs.length) (hj : j < k) : leNat ((bs.take k).drop j) = bs[j].toNat + 256 * leNat ((bs.take k).drop (j + 1)) := by
  have hl : j < (bs.take k).length := by simp; omega
  rw [List.drop_eq_getElem_cons hl]
  simp [leNat]
theorem leNat_drop_lt (bs : List UInt8) (k j : Nat) (hk : k ≤ bs.length) (h8 : k ≤ 8) (hj : j < k) : leNat ((bs.take k).drop (j + 1)) < 72057594037927936 := by
  have h := leNat_lt ((bs.take k).drop (j + 1))
  have hl : ((bs.take k).drop (j + 1)).length = k - (j + 1) := by simp; omega
  rw [hl] at h
  have := Nat.pow_le_pow_right (n := 2) (by decide) (show 8 * (k - (j + 1)) ≤ 56 by omega)
  have e : (2 : Nat) ^ 56 = 72057594037927936 := by decide
  omega

end Go.Proofs.YtpdacbiiaglodaaGreat

/-
  LAYER 2 (codec): the reference's readers of fields.
-/
namespace Go.Proofs.YtpdacbiiaglodaaGreat
set_option maxRecDepth 100000
open Go.RowKit Go.Lib

theorem owns_empty (w : World) (e : TypeId) : Owns (w.alloc (.cells #[] e)) w.heap.size e (.slice (some ⟨w.heap.size, 0, none⟩) 0 0) [] :=
  owns_block (bs := []) (Nat.le_refl _) (by unfold World.alloc; simp [byteCells]) (by simp) rfl

/-- b[k:k+n]: what it is, and what it reads as. -/
theorem run_cut_mid (a : Option Addr) (l c k n : Nat) (hl : l ≤ c) (h : k + n ≤ l) : ∃ a' : Option Addr, (∀ w : World, (Instr.slice 27 (.slice a l c) (some (.int .i64 (k : Int))) (some (.int .i64 ((k : Int) + (n : Int)))) none).run Tryz.prog w = .ok (.slice a' n (c - k)) w) ∧
    ∀ (w : World) (bs : List UInt8), Reads w (.slice a l c) bs → Reads w (.slice a' n (c - k)) ((bs.drop k).take n) := by
  have he : Tryz.prog.underlying 27 = some (.slice (Tryz.prog.elem 27)) := by simp [go_sem]
  by_cases hck : c = k
  · subst hck
    obtain rfl : n = 0 := by omega
    refine ⟨a, fun w => ?_, fun w bs hr => ?_⟩
    · rw [run_slice_lh (P := Tryz.prog) w 27 a l c he .i64 .i64 (c : Int) ((c : Int) + ((0 : Nat) : Int)) (by omega) (by omega) (by omega)]
      have hz : (sizeOf (Tryz.prog.elem 27)).run Tryz.prog w = .ok 1 w := by simp [go_sem]
      rw [hz]
      simp [Result.andThen_ok, sliced]
    · simpa using hr.nothing
  · refine ⟨a.map fun x => x.add k, fun w => ?_, fun w bs hr => hr.cut k n (by have := hr.slice.1; omega)⟩
    rw [run_slice_lh (P := Tryz.prog) w 27 a l c he .i64 .i64 (k : Int) ((k : Int) + (n : Int)) (by omega) (by omega) (by omega)]
    have hz : (sizeOf (Tryz.prog.elem 27)).run Tryz.prog w = .ok 1 w := by simp [go_sem]
    rw [hz]
    have e2 : ((k : Int) + (n : Int)).toNat = k + n := by omega
    simp only [Result.andThen_ok, sliced, Int.toNat_natCast, Nat.mul_one, e2]
    rw [if_neg hck]
    congr 2
    omega

end Go.Proofs.YtpdacbiiaglodaaGreat
