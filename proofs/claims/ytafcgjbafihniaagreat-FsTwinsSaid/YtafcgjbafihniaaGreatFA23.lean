/-
  LAYER 1 (fs): both file systems in memory, apart; a step of the one keeps the other.
-/
import Derived.Test.YtafcgjbafihniaaGreatFA20
import Derived.Test.YtafcgjbafihniaaGreatFA22
namespace Go.Proofs.YtafcgjbafihniaaGreat
set_option maxRecDepth 100000
variable {DX : Nat → Prop}
open Go.RowKit Go.Lib

/-- Both: the program's stands for a in blocks of F, the reference's for b in blocks of R. -/
structure Both (DX F R : Nat → Prop) (w : World) (f q : Nat) (a b : RefP) : Prop where
  fs : FsSim F w f a
  rf : ∃ r vs, RefOk DX R w q b r vs
  fl : ∀ k, F k → k < w.heap.size
  rl : ∀ k, R k → k < w.heap.size
  ap : ∀ k, F k → ¬ R k
  xl : ∀ k, DX k → k < w.heap.size
  xp : ∀ k, F k → ¬ DX k
section
variable {F R P : Nat → Prop} {w w' : World} {f q : Nat} {a b a' b' : RefP} {E : Ending}
theorem Both.kept (H : Both DX F R w f q a b) (g : GP P w w') (hF : ∀ k, P k → ¬ F k) (hR : ∀ k, P k → ¬ R k) (hX : ∀ k, P k → ¬ DX k) : Both DX F R w' f q a b := by
  obtain ⟨r, vs, h⟩ := H.rf
  exact ⟨H.fs.kept g hF, ⟨r, vs, h.kept g (fun k hk hp => hR k hp hk) (fun k hk hp => hX k hp hk)⟩, fun k hk => Nat.lt_of_lt_of_le (H.fl k hk) g.size, fun k hk => Nat.lt_of_lt_of_le (H.rl k hk) g.size, H.ap, fun k hk => Nat.lt_of_lt_of_le (H.xl k hk) g.size, H.xp⟩
theorem Both.rdl (H : Both DX F R w f q a b) : ∀ k, RD R DX k → k < w.heap.size := fun k hk => hk.elim (H.rl k) (H.xl k)
theorem Both.new (H : Both DX F R w f q a b) (g : w.grownBy w' none) : Both DX F R w' f q a b := H.kept (P := fun _ => False) (GP.of g (by simp)) (fun _ h => h.elim) (fun _ h => h.elim) (fun _ h => h.elim)
theorem GP.old (g : GP (fun k => F k ∨ w.heap.size ≤ k) w w') : GP F w w' := ⟨g.os, g.tape, g.output, g.size, fun k hk hp => g.block k hk (fun h => h.elim hp (fun h => by omega))⟩
/-- A step of the program's. -/
theorem Both.fstep {fn : Nat} {args : Array Value} (H : Both DX F R w f q a b) (C : FsSim (fun k => F k ∨ w.heap.size ≤ k) w f a → (∀ k, w.heap.size ≤ k → (F k ∨ w.heap.size ≤ k)) → Calls Tryz.prog fn args w fun e w' => e = E ∧ FsSim (fun k => F k ∨ w.heap.size ≤ k) w' f a' ∧ GP (fun k => F k ∨ w.heap.size ≤ k) w w') :
    Calls Tryz.prog fn args w fun e w' => e = E ∧ Both DX (RU F w w') R w' f q a' b ∧ GP F w w' := by
  refine (C (H.fs.re (fun k _ h => .inl h)) (fun k hk => .inr hk)).mono ?_
  rintro e w' ⟨he, h1, g⟩
  obtain ⟨r, vs, h⟩ := H.rf
  refine ⟨he, ⟨h1.re (fun k hk h => h.elim .inl (fun h => .inr ⟨h, hk⟩)), ⟨r, vs, h.kept g (fun k hk hp => ?_) (fun k hk hp => ?_)⟩, fun k hk => ?_, fun k hk => Nat.lt_of_lt_of_le (H.rl k hk) g.size, fun k hk hr => ?_, fun k hk => Nat.lt_of_lt_of_le (H.xl k hk) g.size, fun k hk hx => ?_⟩, g.old⟩
  · rcases hp with hp | hp
    · exact H.ap k hp hk
    · have := H.rl k hk
      omega
  · rcases hp with hp | hp
    · exact H.xp k hp hk
    · have := H.xl k hk
      omega
  · rcases hk with hk | hk
    · exact Nat.lt_of_lt_of_le (H.fl k hk) g.size
    · exact hk.2
  · rcases hk with hk | hk
    · exact H.ap k hk hr
    · have := H.rl k hr
      omega
  · rcases hk with hk | hk
    · exact H.xp k hk hx
    · have := H.xl k hx
      omega
/-- A step of the reference's. -/
theorem Both.rstep {fn : Nat} {args : Array Value} (H : Both DX F R w f q a b) (C : ∀ r vs, RefOk DX R w q b r vs → Calls Tryz.prog fn args w fun e w' => e = E ∧ RDone DX R w q b' w') :
    Calls Tryz.prog fn args w fun e w' => e = E ∧ Both DX F (RU R w w') w' f q a b' ∧ GP R w w' := by
  obtain ⟨r, vs, h⟩ := H.rf
  refine (C r vs h).mono ?_
  rintro e w' ⟨he, h1, g⟩
  refine ⟨he, ⟨H.fs.kept g (fun k hk hf => H.ap k hf hk), h1, fun k hk => Nat.lt_of_lt_of_le (H.fl k hk) g.size, fun k hk => ?_, fun k hf hk => ?_, fun k hk => Nat.lt_of_lt_of_le (H.xl k hk) g.size, H.xp⟩, g⟩
  · rcases hk with hk | hk
    · exact Nat.lt_of_lt_of_le (H.rl k hk) g.size
    · exact hk.2
  · rcases hk with hk | hk
    · exact H.ap k hf hk
    · have := H.fl k hf
      omega
end

/-- An operation. -/
structure OpP where
  kind : Int
  name : ByteArray
  dest : ByteArray
  data : List UInt8
  n : Int
  plan : Pl
/-- What its arguments keep to. -/
structure OpP.Fits (o : OpP) : Prop where
  name : o.name.size ≤ maxLen
  dest : o.dest.size ≤ maxLen
  data : o.data.length ≤ 140737488351232
  n : o.n < 9223372036854775808
  plan : planFits o.plan
/-- An operation done. -/
def RefP.op (a : RefP) (o : OpP) : RefP :=
  if o.kind = 1 then (a.create o.name).2 else if o.kind = 2 then (a.append o.name o.data).2 else if o.kind = 3 then (a.cut o.name o.n).2 else if o.kind = 4 then (a.sync o.name).2
  else if o.kind = 5 then (a.rename o.name o.dest).2 else if o.kind = 6 then (a.remove o.name).2 else if o.kind = 7 then a.syncDir.2 else a.start o.plan
theorem RInv.op {N : Nat} {a : RefP} (I : RInv N a) (o : OpP) (ho : o.Fits) : RInv (N + 1) (a.op o) := by
  have hw : N + 1 ≤ N + 1 := Nat.le_refl _
  unfold RefP.op
  split
  · exact (I.create _).weak hw
  · split
    · exact I.append _ _
    · split
      · exact (I.cut _ _).weak hw
      · split
        · exact (I.sync _).weak hw
        · split
          · exact (I.rename _ _).weak hw
          · split
            · exact (I.remove _).weak hw
            · split
              · exact I.syncDir.weak hw
              · exact (I.start _ ho.plan).weak (by omega)
/-- What the reference's operations ask of a file system that keeps. -/
theorem RInv.asks {N : Nat} {a : RefP} (I : RInv N a) (hN : N ≤ 2199023255552) : a.Fits ∧ a.dir.length ≤ 65536 ∧ (∀ x j, a.dir.look x = some j → j < a.nodes.length) ∧ a.nodes.length ≤ 2199023255552 ∧ a.count < 4611686018427387903 ∧ (∀ n ∈ a.nodes, n.data.length ≤ 268435456) ∧ chgSum a.nodes ≤ 2199023255552 := by
  refine ⟨I.fits hN, by have := I.dirOk.len; omega, fun x j h => I.dirOk.lookLt h, by have := I.nl; omega, by have := I.c9; omega, fun n hn => ?_, by have := I.sum; omega⟩
  exact (I.good n hn).last

/-- Two file systems behind a step, and what was turned. -/
def Stepped (DX F R : Nat → Prop) (w : World) (f q : Nat) (a : RefP) (w' : World) : Prop :=
  ∃ F' R', Both DX F' R' w' f q a a ∧ GP (fun k => F k ∨ R k) w w' ∧ (∀ k, F' k → F k ∨ w.heap.size ≤ k) ∧ (∀ k, R' k → R k ∨ w.heap.size ≤ k)
section
variable {F R P Q F1 R1 : Nat → Prop} {w w1 w2 w' : World} {f q : Nat} {a a' b b' : RefP}
theorem Stepped.of {F' R' : Nat → Prop} (H : Both DX F' R' w' f q a a) (g : GP (fun k => F k ∨ R k) w w') (hF : ∀ k, F' k → F k ∨ w.heap.size ≤ k) (hR : ∀ k, R' k → R k ∨ w.heap.size ≤ k) : Stepped DX F R w f q a w' := ⟨F', R', H, g, hF, hR⟩
/-- First the program's, then the reference's. -/
theorem Stepped.two (g0 : w.grownBy w1 none) (g1 : GP F w1 w2) (H : Both DX (RU F w1 w2) (RU R w2 w') w' f q a a) (g2 : GP R w2 w') : Stepped DX F R w f q a w' := by
  have s1 := g1.size
  have s0 := g0.size
  refine ⟨_, _, H, (((GP.of (P := fun k => F k ∨ R k) g0 (by simp)).trans g1 (fun k hk => .inl (.inl hk))).trans g2 (fun k hk => .inl (.inr hk))), fun k hk => ?_, fun k hk => ?_⟩
  · rcases hk with hk | hk
    · exact .inl hk
    · right; omega
  · rcases hk with hk | hk
    · exact .inl hk
    · right; omega
end
end Go.Proofs.YtafcgjbafihniaaGreat

/-
  LAYER 1 (fs): lecternlaw01's do: one operation of both, the drawn ones.
-/
namespace Go.Proofs.YtafcgjbafihniaaGreat
set_option maxRecDepth 100000
variable {DX : Nat → Prop}
open Go.RowKit Go.Lib
attribute [local go_sem] Oper.semAt_some

def opCells (k : Int) (nm nt : ByteArray) (dv : Value) (n c : Int) (vk vf vu : Value) (r : Int) : Array Value := #[.int .i64 k, .string nm, .string nt, dv, .int .i64 n, .int .i64 c, vk, vf, vu, .int .i64 r]
theorem cell_gp {P : Nat → Prop} {w w' : World} (g : GP P w w') {b i : Nat} {v : Value} (h : w.cell? ⟨b, i, none⟩ = some v) (hb : b < w.heap.size) (hp : ¬ P b) : w'.cell? ⟨b, i, none⟩ = some v := by
  have e := g.block b hb hp
  simp only [World.cell?] at h ⊢
  rw [e]
  exact h
section
variable {F R : Nat → Prop} {w : World} {f q : Nat} {a : RefP} {N : Nat}
set_option maxHeartbeats 8000000 in
theorem do_create (nm nt : ByteArray) (dv : Value) (n c : Int) (vk vf vu : Value) (r : Int) (H : Both DX F R w f q a a) (I : RInv N a) (hN : N ≤ 2199023255552) (hs : nm.size ≤ maxLen) (ht : nt.size ≤ maxLen) (hn9 : n < 9223372036854775808) :
    Calls Tryz.prog 14 #[.pointer (some ⟨f, 0, none⟩), .pointer (some ⟨q, 0, none⟩), .agg (opCells 1 nm nt dv n c vk vf vu r)] w fun e w' => e = .returned (.bool true) ∧ Stepped DX F R w f q (a.create nm).2 w' := by
  obtain ⟨h1, h2, h3, h4, h5, h6, h7⟩ := I.asks hN
  unfold opCells
  obtain ⟨W0, hW0⟩ : ∃ W0, W0 = w.alloc (.cells #[.int .i64 1, .string nm, .string nt, dv, .int .i64 n, .int .i64 c, vk, vf, vu, .int .i64 r] 34) := ⟨_, rfl⟩
  have gB : w.grownBy W0 none := by rw [hW0]; exact World.grownBy_alloc w _ none
  have eB : W0.heap[w.heap.size]? = some (.cells #[.int .i64 1, .string nm, .string nt, dv, .int .i64 n, .int .i64 c, vk, vf, vu, .int .i64 r] 34 (0, 0)) := by rw [hW0]; exact World.alloc_heap_new w _
  have hbl := lt_of_block eB
  have c0 : W0.cell? ⟨w.heap.size, 0, none⟩ = some (.int .i64 1) := cell_of eB 0
  have c1 : W0.cell? ⟨w.heap.size, 1, none⟩ = some (.string nm) := cell_of eB 1
  have c2 : W0.cell? ⟨w.heap.size, 2, none⟩ = some (.string nt) := cell_of eB 2
  have c4 : W0.cell? ⟨w.heap.size, 4, none⟩ = some (.int .i64 n) := cell_of eB 4
  have gd := gdrew (World.grownBy.refl W0 none)
  have d1 := gd.cell c1 (by simp)
  have d2 := gd.cell c2 (by simp)
  have d4 := gd.cell c4 (by simp)
  have H1 := H.new (gB.trans gd)
  have hf := H1.fstep (a' := (a.create nm).2) (E := .returned (.int .i64 (a.create nm).1)) (fun S hn => S.create I hN hn nm hs)
  have hr : ∀ (F2 : Nat → Prop) (W : World), Both DX F2 R W f q (a.create nm).2 a → Calls Tryz.prog 39 #[.pointer (some ⟨q, 0, none⟩), .string nm] W fun e w' => e = .returned (.int .i64 (a.create nm).1) ∧ Both DX F2 (RU R W w') w' f q (a.create nm).2 (a.create nm).2 ∧ GP R W w' := fun F2 W HB => HB.rstep (fun r vs h => by have HR := HB.rdl; exact rcreate_any nm h HR h1 h2 h4)
  have nF : ¬ F w.heap.size := fun h => by have := H.fl _ h; omega
  have nR : ¬ R w.heap.size := fun h => by have := H.rl _ h; omega
  obtain ⟨res, hres⟩ : ∃ res, res = a.create nm := ⟨_, rfl⟩
  rw [← hres] at hf hr ⊢
  have hee : (res.1 == res.1) = true := by simp
  have gBd := gB.trans gd
  have hbd : w.heap.size < W0.drew.heap.size := Nat.lt_of_lt_of_le hbl gd.size
  replace hres := Lib.hid hres
  replace hr := Lib.hid hr
  replace gBd := Lib.hid gBd
  clear h1 h2 h3 h4 h5 h6 h7 H1 H I eB gB gd hs ht hn9 c1 c2 c4
  go_enter Tryz.func14, Tryz.ntmps14
  go_upto_region 1 with fail
  rw [← hW0]
  replace hW0 := Lib.hid hW0
  go_upto_region 3 with fail
  refine wp_region_held_drew (S := fun V => V.cell? ⟨w.heap.size, 1, none⟩ = some (.string nm) ∧ V.cell? ⟨w.heap.size, 2, none⟩ = some (.string nt) ∧ V.cell? ⟨w.heap.size, 4, none⟩ = some (.int .i64 n)) (by kernel_rfl) ⟨d1, d2, d4⟩ (fun hS0 => ?_)
  refine wpAnyH_take (i := 0) (oi := ⟨some 14, _, _, _, _, _⟩) (v := ?_) rfl (by kernel_rfl) (by kernel_rfl) (by kernel_rfl) (fun _ _ _ h => h) (Or.inl ⟨by rfl, ?_⟩) (by assumption) ?_
  rotate_left
  · (intro w hSw; (try dsimp only at hSw); go_simp; try with_reducible rfl)
  try simp only [Act.put, List.setIfInBounds_toArray, List.set_cons_zero, List.set_cons_succ]
  refine wpAnyH_take (i := 1) (oi := ⟨some 15, _, _, _, _, _⟩) (v := ?_) rfl (by kernel_rfl) (by kernel_rfl) (by kernel_rfl) (fun _ _ _ h => h) (Or.inl ⟨by rfl, ?_⟩) (by assumption) ?_
  rotate_left
  · (intro w hSw; (try dsimp only at hSw); go_simp; try with_reducible rfl)
  try simp only [Act.put, List.setIfInBounds_toArray, List.set_cons_zero, List.set_cons_succ]
  refine wpAnyH_take (i := 2) (oi := ⟨some 16, _, _, _, _, _⟩) (v := ?_) rfl (by kernel_rfl) (by kernel_rfl) (by kernel_rfl) (fun _ _ _ h => h) (Or.inl ⟨by rfl, ?_⟩) (by assumption) ?_
  rotate_left
  · (intro w hSw; (try dsimp only at hSw); go_simp; try with_reducible rfl)
  try simp only [Act.put, List.setIfInBounds_toArray, List.set_cons_zero, List.set_cons_succ]
  refine wpAnyH_take (i := 4) (oi := ⟨some 18, _, _, _, _, _⟩) (v := ?_) rfl (by kernel_rfl) (by kernel_rfl) (by kernel_rfl) (fun _ _ _ h => h) (Or.inl ⟨by rfl, ?_⟩) (by assumption) ?_
  rotate_left
  · (intro w hSw; (try dsimp only at hSw); go_simp; try with_reducible rfl)
  try simp only [Act.put, List.setIfInBounds_toArray, List.set_cons_zero, List.set_cons_succ]
  refine wpAnyH_take (i := 5) (oi := ⟨some 19, _, _, _, _, _⟩) (v := ?_) rfl (by kernel_rfl) (by kernel_rfl) (by kernel_rfl) (fun _ _ _ h => h) (Or.inl ⟨by rfl, ?_⟩) (by assumption) ?_
  rotate_left
  · (intro w hSw; (try dsimp only at hSw); go_simp; try with_reducible rfl)
  try simp only [Act.put, List.setIfInBounds_toArray, List.set_cons_zero, List.set_cons_succ]
  refine wpAnyH_take (i := 6) (oi := ⟨some 20, _, _, _, _, _⟩) (v := ?_) rfl (by kernel_rfl) (by kernel_rfl) (by kernel_rfl) (fun _ _ _ h => h) (Or.inl ⟨by rfl, ?_⟩) (by assumption) ?_
  rotate_left
  · (intro w hSw; (try dsimp only at hSw); go_simp; try with_reducible rfl)
  try simp only [Act.put, List.setIfInBounds_toArray, List.set_cons_zero, List.set_cons_succ]
  refine wpAnyH_ready (rs := [3]) (by kernel_rfl) (by simp) ?_
  refine AllReadyH.cons rfl (fun K hK => ?_) AllReadyH.nil
  go_simp
  refine hf.mono ?_
  clear hf
  rintro e w2 ⟨rfl, H2, g2⟩
  have hr2 := hr.out _ _ H2
  have s2 : w2.cell? ⟨w.heap.size, 1, none⟩ = some (.string nm) ∧ w2.cell? ⟨w.heap.size, 2, none⟩ = some (.string nt) ∧ w2.cell? ⟨w.heap.size, 4, none⟩ = some (.int .i64 n) := ⟨cell_gp g2 d1 hbd nF, cell_gp g2 d2 hbd nF, cell_gp g2 d4 hbd nF⟩
  have hb2 : w.heap.size < w2.heap.size := Nat.lt_of_lt_of_le hbd g2.size
  replace g2 := Lib.hid g2
  clear H2
  refine hK.out _ _ s2 (fun _ => ?_)
  clear hK
  refine wpAnyH_ready (rs := [7]) (by kernel_rfl) (by simp) ?_
  refine AllReadyH.cons rfl (fun K hK => ?_) AllReadyH.nil
  go_simp
  refine hr2.mono ?_
  clear hr2
  rintro e w3 ⟨rfl, H3, g3⟩
  have s3 : w3.cell? ⟨w.heap.size, 1, none⟩ = some (.string nm) ∧ w3.cell? ⟨w.heap.size, 2, none⟩ = some (.string nt) ∧ w3.cell? ⟨w.heap.size, 4, none⟩ = some (.int .i64 n) := ⟨cell_gp g3 s2.1 hb2 nR, cell_gp g3 s2.2.1 hb2 nR, cell_gp g3 s2.2.2 hb2 nR⟩
  have FF := Lib.hid (Stepped.two gBd.out g2.out H3 g3)
  clear H3 g3
  refine hK.out _ _ s3 (fun _ => ?_)
  clear hK
  refine wpAnyH_take (i := 8) (oi := ⟨some 22, _, _, _, _, _⟩) (v := ?_) rfl (by kernel_rfl) (by kernel_rfl) (by kernel_rfl) (fun _ _ _ h => h) (Or.inl ⟨by rfl, ?_⟩) (by assumption) ?_
  rotate_left
  · (intro w hSw; (try dsimp only at hSw); go_simp; try with_reducible rfl)
  try simp only [Act.put, List.setIfInBounds_toArray, List.set_cons_zero, List.set_cons_succ]
  refine wpAnyH_take (i := 9) (oi := ⟨some 6, _, _, _, _, _⟩) (v := ?_) rfl (by kernel_rfl) (by kernel_rfl) (by kernel_rfl) (fun _ _ _ h => h) (Or.inl ⟨by rfl, ?_⟩) (by assumption) ?_
  rotate_left
  · (intro w hSw; (try dsimp only at hSw); go_simp; try with_reducible rfl)
  try simp only [Act.put, List.setIfInBounds_toArray, List.set_cons_zero, List.set_cons_succ]
  refine wpAnyH_done (by kernel_rfl) ?_ _
  go_wp2_with fail
  go_ret
  exact ⟨rfl, FF.out⟩
set_option maxHeartbeats 8000000 in
theorem do_cut (nm nt : ByteArray) (dv : Value) (n c : Int) (vk vf vu : Value) (r : Int) (H : Both DX F R w f q a a) (I : RInv N a) (hN : N ≤ 2199023255552) (hs : nm.size ≤ maxLen) (ht : nt.size ≤ maxLen) (hn9 : n < 9223372036854775808) :
    Calls Tryz.prog 14 #[.pointer (some ⟨f, 0, none⟩), .pointer (some ⟨q, 0, none⟩), .agg (opCells 3 nm nt dv n c vk vf vu r)] w fun e w' => e = .returned (.bool true) ∧ Stepped DX F R w f q (a.cut nm n).2 w' := by
  obtain ⟨h1, h2, h3, h4, h5, h6, h7⟩ := I.asks hN
  unfold opCells
  obtain ⟨W0, hW0⟩ : ∃ W0, W0 = w.alloc (.cells #[.int .i64 3, .string nm, .string nt, dv, .int .i64 n, .int .i64 c, vk, vf, vu, .int .i64 r] 34) := ⟨_, rfl⟩
  have gB : w.grownBy W0 none := by rw [hW0]; exact World.grownBy_alloc w _ none
  have eB : W0.heap[w.heap.size]? = some (.cells #[.int .i64 3, .string nm, .string nt, dv, .int .i64 n, .int .i64 c, vk, vf, vu, .int .i64 r] 34 (0, 0)) := by rw [hW0]; exact World.alloc_heap_new w _
  have hbl := lt_of_block eB
  have c0 : W0.cell? ⟨w.heap.size, 0, none⟩ = some (.int .i64 3) := cell_of eB 0
  have c1 : W0.cell? ⟨w.heap.size, 1, none⟩ = some (.string nm) := cell_of eB 1
  have c2 : W0.cell? ⟨w.heap.size, 2, none⟩ = some (.string nt) := cell_of eB 2
  have c4 : W0.cell? ⟨w.heap.size, 4, none⟩ = some (.int .i64 n) := cell_of eB 4
  have gd := gdrew (World.grownBy.refl W0 none)
  have d1 := gd.cell c1 (by simp)
  have d2 := gd.cell c2 (by simp)
  have d4 := gd.cell c4 (by simp)
  have H1 := H.new (gB.trans gd)
  have hf := H1.fstep (a' := (a.cut nm n).2) (E := .returned (.int .i64 (a.cut nm n).1)) (fun S hn => S.cut I hN hn nm hs n)
  have hr : ∀ (F2 : Nat → Prop) (W : World), Both DX F2 R W f q (a.cut nm n).2 a → Calls Tryz.prog 41 #[.pointer (some ⟨q, 0, none⟩), .string nm, .int .i64 n] W fun e w' => e = .returned (.int .i64 (a.cut nm n).1) ∧ Both DX F2 (RU R W w') w' f q (a.cut nm n).2 (a.cut nm n).2 ∧ GP R W w' := fun F2 W HB => HB.rstep (fun r vs h => by have HR := HB.rdl; exact rcut_any nm n h HR h1 h2 h3 h5 h6 h7 hn9)
  have nF : ¬ F w.heap.size := fun h => by have := H.fl _ h; omega
  have nR : ¬ R w.heap.size := fun h => by have := H.rl _ h; omega
  obtain ⟨res, hres⟩ : ∃ res, res = a.cut nm n := ⟨_, rfl⟩
  rw [← hres] at hf hr ⊢
  have hee : (res.1 == res.1) = true := by simp
  have gBd := gB.trans gd
  have hbd : w.heap.size < W0.drew.heap.size := Nat.lt_of_lt_of_le hbl gd.size
  replace hres := Lib.hid hres
  replace hr := Lib.hid hr
  replace gBd := Lib.hid gBd
  clear h1 h2 h3 h4 h5 h6 h7 H1 H I eB gB gd hs ht hn9 c1 c2 c4
  go_enter Tryz.func14, Tryz.ntmps14
  go_upto_region 1 with fail
  rw [← hW0]
  replace hW0 := Lib.hid hW0
  go_upto_region 14 with fail
  refine wp_region_held_drew (S := fun V => V.cell? ⟨w.heap.size, 1, none⟩ = some (.string nm) ∧ V.cell? ⟨w.heap.size, 2, none⟩ = some (.string nt) ∧ V.cell? ⟨w.heap.size, 4, none⟩ = some (.int .i64 n)) (by kernel_rfl) ⟨d1, d2, d4⟩ (fun hS0 => ?_)
  refine wpAnyH_take (i := 0) (oi := ⟨some 52, _, _, _, _, _⟩) (v := ?_) rfl (by kernel_rfl) (by kernel_rfl) (by kernel_rfl) (fun _ _ _ h => h) (Or.inl ⟨by rfl, ?_⟩) (by assumption) ?_
  rotate_left
  · (intro w hSw; (try dsimp only at hSw); go_simp; try with_reducible rfl)
  try simp only [Act.put, List.setIfInBounds_toArray, List.set_cons_zero, List.set_cons_succ]
  refine wpAnyH_take (i := 1) (oi := ⟨some 53, _, _, _, _, _⟩) (v := ?_) rfl (by kernel_rfl) (by kernel_rfl) (by kernel_rfl) (fun _ _ _ h => h) (Or.inl ⟨by rfl, ?_⟩) (by assumption) ?_
  rotate_left
  · (intro w hSw; (try dsimp only at hSw); go_simp; try with_reducible rfl)
  try simp only [Act.put, List.setIfInBounds_toArray, List.set_cons_zero, List.set_cons_succ]
  refine wpAnyH_take (i := 2) (oi := ⟨some 54, _, _, _, _, _⟩) (v := ?_) rfl (by kernel_rfl) (by kernel_rfl) (by kernel_rfl) (fun _ _ _ h => h) (Or.inl ⟨by rfl, ?_⟩) (by assumption) ?_
  rotate_left
  · (intro w hSw; (try dsimp only at hSw); go_simp; try with_reducible rfl)
  try simp only [Act.put, List.setIfInBounds_toArray, List.set_cons_zero, List.set_cons_succ]
  refine wpAnyH_take (i := 3) (oi := ⟨some 55, _, _, _, _, _⟩) (v := ?_) rfl (by kernel_rfl) (by kernel_rfl) (by kernel_rfl) (fun _ _ _ h => h) (Or.inl ⟨by rfl, ?_⟩) (by assumption) ?_
  rotate_left
  · (intro w hSw; (try dsimp only at hSw); go_simp; try with_reducible rfl)
  try simp only [Act.put, List.setIfInBounds_toArray, List.set_cons_zero, List.set_cons_succ]
  refine wpAnyH_take (i := 4) (oi := ⟨some 56, _, _, _, _, _⟩) (v := ?_) rfl (by kernel_rfl) (by kernel_rfl) (by kernel_rfl) (fun _ _ _ h => h) (Or.inl ⟨by rfl, ?_⟩) (by assumption) ?_
  rotate_left
  · (intro w hSw; (try dsimp only at hSw); go_simp; try with_reducible rfl)
  try simp only [Act.put, List.setIfInBounds_toArray, List.set_cons_zero, List.set_cons_succ]
  refine wpAnyH_take (i := 6) (oi := ⟨some 58, _, _, _, _, _⟩) (v := ?_) rfl (by kernel_rfl) (by kernel_rfl) (by kernel_rfl) (fun _ _ _ h => h) (Or.inl ⟨by rfl, ?_⟩) (by assumption) ?_
  rotate_left
  · (intro w hSw; (try dsimp only at hSw); go_simp; try with_reducible rfl)
  try simp only [Act.put, List.setIfInBounds_toArray, List.set_cons_zero, List.set_cons_succ]
  refine wpAnyH_take (i := 7) (oi := ⟨some 59, _, _, _, _, _⟩) (v := ?_) rfl (by kernel_rfl) (by kernel_rfl) (by kernel_rfl) (fun _ _ _ h => h) (Or.inl ⟨by rfl, ?_⟩) (by assumption) ?_
  rotate_left
  · (intro w hSw; (try dsimp only at hSw); go_simp; try with_reducible rfl)
  try simp only [Act.put, List.setIfInBounds_toArray, List.set_cons_zero, List.set_cons_succ]
  refine wpAnyH_take (i := 8) (oi := ⟨some 60, _, _, _, _, _⟩) (v := ?_) rfl (by kernel_rfl) (by kernel_rfl) (by kernel_rfl) (fun _ _ _ h => h) (Or.inl ⟨by rfl, ?_⟩) (by assumption) ?_
  rotate_left
  · (intro w hSw; (try dsimp only at hSw); go_simp; try with_reducible rfl)
  try simp only [Act.put, List.setIfInBounds_toArray, List.set_cons_zero, List.set_cons_succ]
  refine wpAnyH_take (i := 9) (oi := ⟨some 61, _, _, _, _, _⟩) (v := ?_) rfl (by kernel_rfl) (by kernel_rfl) (by kernel_rfl) (fun _ _ _ h => h) (Or.inl ⟨by rfl, ?_⟩) (by assumption) ?_
  rotate_left
  · (intro w hSw; (try dsimp only at hSw); go_simp; try with_reducible rfl)
  try simp only [Act.put, List.setIfInBounds_toArray, List.set_cons_zero, List.set_cons_succ]
  refine wpAnyH_take (i := 10) (oi := ⟨some 62, _, _, _, _, _⟩) (v := ?_) rfl (by kernel_rfl) (by kernel_rfl) (by kernel_rfl) (fun _ _ _ h => h) (Or.inl ⟨by rfl, ?_⟩) (by assumption) ?_
  rotate_left
  · (intro w hSw; (try dsimp only at hSw); go_simp; try with_reducible rfl)
  try simp only [Act.put, List.setIfInBounds_toArray, List.set_cons_zero, List.set_cons_succ]
  refine wpAnyH_ready (rs := [5]) (by kernel_rfl) (by simp) ?_
  refine AllReadyH.cons rfl (fun K hK => ?_) AllReadyH.nil
  go_simp
  refine hf.mono ?_
  clear hf
  rintro e w2 ⟨rfl, H2, g2⟩
  have hr2 := hr.out _ _ H2
  have s2 : w2.cell? ⟨w.heap.size, 1, none⟩ = some (.string nm) ∧ w2.cell? ⟨w.heap.size, 2, none⟩ = some (.string nt) ∧ w2.cell? ⟨w.heap.size, 4, none⟩ = some (.int .i64 n) := ⟨cell_gp g2 d1 hbd nF, cell_gp g2 d2 hbd nF, cell_gp g2 d4 hbd nF⟩
  have hb2 : w.heap.size < w2.heap.size := Nat.lt_of_lt_of_le hbd g2.size
  replace g2 := Lib.hid g2
  clear H2
  refine hK.out _ _ s2 (fun _ => ?_)
  clear hK
  refine wpAnyH_ready (rs := [11]) (by kernel_rfl) (by simp) ?_
  refine AllReadyH.cons rfl (fun K hK => ?_) AllReadyH.nil
  go_simp
  refine hr2.mono ?_
  clear hr2
  rintro e w3 ⟨rfl, H3, g3⟩
  have s3 : w3.cell? ⟨w.heap.size, 1, none⟩ = some (.string nm) ∧ w3.cell? ⟨w.heap.size, 2, none⟩ = some (.string nt) ∧ w3.cell? ⟨w.heap.size, 4, none⟩ = some (.int .i64 n) := ⟨cell_gp g3 s2.1 hb2 nR, cell_gp g3 s2.2.1 hb2 nR, cell_gp g3 s2.2.2 hb2 nR⟩
  have FF := Lib.hid (Stepped.two gBd.out g2.out H3 g3)
  clear H3 g3
  refine hK.out _ _ s3 (fun _ => ?_)
  clear hK
  refine wpAnyH_take (i := 12) (oi := ⟨some 64, _, _, _, _, _⟩) (v := ?_) rfl (by kernel_rfl) (by kernel_rfl) (by kernel_rfl) (fun _ _ _ h => h) (Or.inl ⟨by rfl, ?_⟩) (by assumption) ?_
  rotate_left
  · (intro w hSw; (try dsimp only at hSw); go_simp; try with_reducible rfl)
  try simp only [Act.put, List.setIfInBounds_toArray, List.set_cons_zero, List.set_cons_succ]
  refine wpAnyH_take (i := 13) (oi := ⟨some 6, _, _, _, _, _⟩) (v := ?_) rfl (by kernel_rfl) (by kernel_rfl) (by kernel_rfl) (fun _ _ _ h => h) (Or.inl ⟨by rfl, ?_⟩) (by assumption) ?_
  rotate_left
  · (intro w hSw; (try dsimp only at hSw); go_simp; try with_reducible rfl)
  try simp only [Act.put, List.setIfInBounds_toArray, List.set_cons_zero, List.set_cons_succ]
  refine wpAnyH_done (by kernel_rfl) ?_ _
  go_wp2_with fail
  go_ret
  exact ⟨rfl, FF.out⟩
set_option maxHeartbeats 8000000 in
theorem do_sync (nm nt : ByteArray) (dv : Value) (n c : Int) (vk vf vu : Value) (r : Int) (H : Both DX F R w f q a a) (I : RInv N a) (hN : N ≤ 2199023255552) (hs : nm.size ≤ maxLen) (ht : nt.size ≤ maxLen) (hn9 : n < 9223372036854775808) :
    Calls Tryz.prog 14 #[.pointer (some ⟨f, 0, none⟩), .pointer (some ⟨q, 0, none⟩), .agg (opCells 4 nm nt dv n c vk vf vu r)] w fun e w' => e = .returned (.bool true) ∧ Stepped DX F R w f q (a.sync nm).2 w' := by
  obtain ⟨h1, h2, h3, h4, h5, h6, h7⟩ := I.asks hN
  unfold opCells
  obtain ⟨W0, hW0⟩ : ∃ W0, W0 = w.alloc (.cells #[.int .i64 4, .string nm, .string nt, dv, .int .i64 n, .int .i64 c, vk, vf, vu, .int .i64 r] 34) := ⟨_, rfl⟩
  have gB : w.grownBy W0 none := by rw [hW0]; exact World.grownBy_alloc w _ none
  have eB : W0.heap[w.heap.size]? = some (.cells #[.int .i64 4, .string nm, .string nt, dv, .int .i64 n, .int .i64 c, vk, vf, vu, .int .i64 r] 34 (0, 0)) := by rw [hW0]; exact World.alloc_heap_new w _
  have hbl := lt_of_block eB
  have c0 : W0.cell? ⟨w.heap.size, 0, none⟩ = some (.int .i64 4) := cell_of eB 0
  have c1 : W0.cell? ⟨w.heap.size, 1, none⟩ = some (.string nm) := cell_of eB 1
  have c2 : W0.cell? ⟨w.heap.size, 2, none⟩ = some (.string nt) := cell_of eB 2
  have c4 : W0.cell? ⟨w.heap.size, 4, none⟩ = some (.int .i64 n) := cell_of eB 4
  have gd := gdrew (World.grownBy.refl W0 none)
  have d1 := gd.cell c1 (by simp)
  have d2 := gd.cell c2 (by simp)
  have d4 := gd.cell c4 (by simp)
  have H1 := H.new (gB.trans gd)
  have hf := H1.fstep (a' := (a.sync nm).2) (E := .returned (.int .i64 (a.sync nm).1)) (fun S hn => S.sync I hN hn nm hs)
  have hr : ∀ (F2 : Nat → Prop) (W : World), Both DX F2 R W f q (a.sync nm).2 a → Calls Tryz.prog 42 #[.pointer (some ⟨q, 0, none⟩), .string nm] W fun e w' => e = .returned (.int .i64 (a.sync nm).1) ∧ Both DX F2 (RU R W w') w' f q (a.sync nm).2 (a.sync nm).2 ∧ GP R W w' := fun F2 W HB => HB.rstep (fun r vs h => by have HR := HB.rdl; exact rsync_any nm h HR h1 h2 h3)
  have nF : ¬ F w.heap.size := fun h => by have := H.fl _ h; omega
  have nR : ¬ R w.heap.size := fun h => by have := H.rl _ h; omega
  obtain ⟨res, hres⟩ : ∃ res, res = a.sync nm := ⟨_, rfl⟩
  rw [← hres] at hf hr ⊢
  have hee : (res.1 == res.1) = true := by simp
  have gBd := gB.trans gd
  have hbd : w.heap.size < W0.drew.heap.size := Nat.lt_of_lt_of_le hbl gd.size
  replace hres := Lib.hid hres
  replace hr := Lib.hid hr
  replace gBd := Lib.hid gBd
  clear h1 h2 h3 h4 h5 h6 h7 H1 H I eB gB gd hs ht hn9 c1 c2 c4
  go_enter Tryz.func14, Tryz.ntmps14
  go_upto_region 1 with fail
  rw [← hW0]
  replace hW0 := Lib.hid hW0
  go_upto_region 16 with fail
  refine wp_region_held_drew (S := fun V => V.cell? ⟨w.heap.size, 1, none⟩ = some (.string nm) ∧ V.cell? ⟨w.heap.size, 2, none⟩ = some (.string nt) ∧ V.cell? ⟨w.heap.size, 4, none⟩ = some (.int .i64 n)) (by kernel_rfl) ⟨d1, d2, d4⟩ (fun hS0 => ?_)
  refine wpAnyH_take (i := 0) (oi := ⟨some 67, _, _, _, _, _⟩) (v := ?_) rfl (by kernel_rfl) (by kernel_rfl) (by kernel_rfl) (fun _ _ _ h => h) (Or.inl ⟨by rfl, ?_⟩) (by assumption) ?_
  rotate_left
  · (intro w hSw; (try dsimp only at hSw); go_simp; try with_reducible rfl)
  try simp only [Act.put, List.setIfInBounds_toArray, List.set_cons_zero, List.set_cons_succ]
  refine wpAnyH_take (i := 1) (oi := ⟨some 68, _, _, _, _, _⟩) (v := ?_) rfl (by kernel_rfl) (by kernel_rfl) (by kernel_rfl) (fun _ _ _ h => h) (Or.inl ⟨by rfl, ?_⟩) (by assumption) ?_
  rotate_left
  · (intro w hSw; (try dsimp only at hSw); go_simp; try with_reducible rfl)
  try simp only [Act.put, List.setIfInBounds_toArray, List.set_cons_zero, List.set_cons_succ]
  refine wpAnyH_take (i := 2) (oi := ⟨some 69, _, _, _, _, _⟩) (v := ?_) rfl (by kernel_rfl) (by kernel_rfl) (by kernel_rfl) (fun _ _ _ h => h) (Or.inl ⟨by rfl, ?_⟩) (by assumption) ?_
  rotate_left
  · (intro w hSw; (try dsimp only at hSw); go_simp; try with_reducible rfl)
  try simp only [Act.put, List.setIfInBounds_toArray, List.set_cons_zero, List.set_cons_succ]
  refine wpAnyH_take (i := 4) (oi := ⟨some 71, _, _, _, _, _⟩) (v := ?_) rfl (by kernel_rfl) (by kernel_rfl) (by kernel_rfl) (fun _ _ _ h => h) (Or.inl ⟨by rfl, ?_⟩) (by assumption) ?_
  rotate_left
  · (intro w hSw; (try dsimp only at hSw); go_simp; try with_reducible rfl)
  try simp only [Act.put, List.setIfInBounds_toArray, List.set_cons_zero, List.set_cons_succ]
  refine wpAnyH_take (i := 5) (oi := ⟨some 72, _, _, _, _, _⟩) (v := ?_) rfl (by kernel_rfl) (by kernel_rfl) (by kernel_rfl) (fun _ _ _ h => h) (Or.inl ⟨by rfl, ?_⟩) (by assumption) ?_
  rotate_left
  · (intro w hSw; (try dsimp only at hSw); go_simp; try with_reducible rfl)
  try simp only [Act.put, List.setIfInBounds_toArray, List.set_cons_zero, List.set_cons_succ]
  refine wpAnyH_take (i := 6) (oi := ⟨some 73, _, _, _, _, _⟩) (v := ?_) rfl (by kernel_rfl) (by kernel_rfl) (by kernel_rfl) (fun _ _ _ h => h) (Or.inl ⟨by rfl, ?_⟩) (by assumption) ?_
  rotate_left
  · (intro w hSw; (try dsimp only at hSw); go_simp; try with_reducible rfl)
  try simp only [Act.put, List.setIfInBounds_toArray, List.set_cons_zero, List.set_cons_succ]
  refine wpAnyH_ready (rs := [3]) (by kernel_rfl) (by simp) ?_
  refine AllReadyH.cons rfl (fun K hK => ?_) AllReadyH.nil
  go_simp
  refine hf.mono ?_
  clear hf
  rintro e w2 ⟨rfl, H2, g2⟩
  have hr2 := hr.out _ _ H2
  have s2 : w2.cell? ⟨w.heap.size, 1, none⟩ = some (.string nm) ∧ w2.cell? ⟨w.heap.size, 2, none⟩ = some (.string nt) ∧ w2.cell? ⟨w.heap.size, 4, none⟩ = some (.int .i64 n) := ⟨cell_gp g2 d1 hbd nF, cell_gp g2 d2 hbd nF, cell_gp g2 d4 hbd nF⟩
  have hb2 : w.heap.size < w2.heap.size := Nat.lt_of_lt_of_le hbd g2.size
  replace g2 := Lib.hid g2
  clear H2
  refine hK.out _ _ s2 (fun _ => ?_)
  clear hK
  refine wpAnyH_ready (rs := [7]) (by kernel_rfl) (by simp) ?_
  refine AllReadyH.cons rfl (fun K hK => ?_) AllReadyH.nil
  go_simp
  refine hr2.mono ?_
  clear hr2
  rintro e w3 ⟨rfl, H3, g3⟩
  have s3 : w3.cell? ⟨w.heap.size, 1, none⟩ = some (.string nm) ∧ w3.cell? ⟨w.heap.size, 2, none⟩ = some (.string nt) ∧ w3.cell? ⟨w.heap.size, 4, none⟩ = some (.int .i64 n) := ⟨cell_gp g3 s2.1 hb2 nR, cell_gp g3 s2.2.1 hb2 nR, cell_gp g3 s2.2.2 hb2 nR⟩
  have FF := Lib.hid (Stepped.two gBd.out g2.out H3 g3)
  clear H3 g3
  refine hK.out _ _ s3 (fun _ => ?_)
  clear hK
  refine wpAnyH_take (i := 8) (oi := ⟨some 75, _, _, _, _, _⟩) (v := ?_) rfl (by kernel_rfl) (by kernel_rfl) (by kernel_rfl) (fun _ _ _ h => h) (Or.inl ⟨by rfl, ?_⟩) (by assumption) ?_
  rotate_left
  · (intro w hSw; (try dsimp only at hSw); go_simp; try with_reducible rfl)
  try simp only [Act.put, List.setIfInBounds_toArray, List.set_cons_zero, List.set_cons_succ]
  refine wpAnyH_take (i := 9) (oi := ⟨some 6, _, _, _, _, _⟩) (v := ?_) rfl (by kernel_rfl) (by kernel_rfl) (by kernel_rfl) (fun _ _ _ h => h) (Or.inl ⟨by rfl, ?_⟩) (by assumption) ?_
  rotate_left
  · (intro w hSw; (try dsimp only at hSw); go_simp; try with_reducible rfl)
  try simp only [Act.put, List.setIfInBounds_toArray, List.set_cons_zero, List.set_cons_succ]
  refine wpAnyH_done (by kernel_rfl) ?_ _
  go_wp2_with fail
  go_ret
  exact ⟨rfl, FF.out⟩
set_option maxHeartbeats 8000000 in
theorem do_rename (nm nt : ByteArray) (dv : Value) (n c : Int) (vk vf vu : Value) (r : Int) (H : Both DX F R w f q a a) (I : RInv N a) (hN : N ≤ 2199023255552) (hs : nm.size ≤ maxLen) (ht : nt.size ≤ maxLen) (hn9 : n < 9223372036854775808) :
    Calls Tryz.prog 14 #[.pointer (some ⟨f, 0, none⟩), .pointer (some ⟨q, 0, none⟩), .agg (opCells 5 nm nt dv n c vk vf vu r)] w fun e w' => e = .returned (.bool true) ∧ Stepped DX F R w f q (a.rename nm nt).2 w' := by
  obtain ⟨h1, h2, h3, h4, h5, h6, h7⟩ := I.asks hN
  unfold opCells
  obtain ⟨W0, hW0⟩ : ∃ W0, W0 = w.alloc (.cells #[.int .i64 5, .string nm, .string nt, dv, .int .i64 n, .int .i64 c, vk, vf, vu, .int .i64 r] 34) := ⟨_, rfl⟩
  have gB : w.grownBy W0 none := by rw [hW0]; exact World.grownBy_alloc w _ none
  have eB : W0.heap[w.heap.size]? = some (.cells #[.int .i64 5, .string nm, .string nt, dv, .int .i64 n, .int .i64 c, vk, vf, vu, .int .i64 r] 34 (0, 0)) := by rw [hW0]; exact World.alloc_heap_new w _
  have hbl := lt_of_block eB
  have c0 : W0.cell? ⟨w.heap.size, 0, none⟩ = some (.int .i64 5) := cell_of eB 0
  have c1 : W0.cell? ⟨w.heap.size, 1, none⟩ = some (.string nm) := cell_of eB 1
  have c2 : W0.cell? ⟨w.heap.size, 2, none⟩ = some (.string nt) := cell_of eB 2
  have c4 : W0.cell? ⟨w.heap.size, 4, none⟩ = some (.int .i64 n) := cell_of eB 4
  have gd := gdrew (World.grownBy.refl W0 none)
  have d1 := gd.cell c1 (by simp)
  have d2 := gd.cell c2 (by simp)
  have d4 := gd.cell c4 (by simp)
  have H1 := H.new (gB.trans gd)
  have hf := H1.fstep (a' := (a.rename nm nt).2) (E := .returned (.int .i64 (a.rename nm nt).1)) (fun S hn => S.rename I hN hn nm nt hs ht)
  have hr : ∀ (F2 : Nat → Prop) (W : World), Both DX F2 R W f q (a.rename nm nt).2 a → Calls Tryz.prog 43 #[.pointer (some ⟨q, 0, none⟩), .string nm, .string nt] W fun e w' => e = .returned (.int .i64 (a.rename nm nt).1) ∧ Both DX F2 (RU R W w') w' f q (a.rename nm nt).2 (a.rename nm nt).2 ∧ GP R W w' := fun F2 W HB => HB.rstep (fun r vs h => by have HR := HB.rdl; exact rrename_any nm nt h HR h1 h2)
  have nF : ¬ F w.heap.size := fun h => by have := H.fl _ h; omega
  have nR : ¬ R w.heap.size := fun h => by have := H.rl _ h; omega
  obtain ⟨res, hres⟩ : ∃ res, res = a.rename nm nt := ⟨_, rfl⟩
  rw [← hres] at hf hr ⊢
  have hee : (res.1 == res.1) = true := by simp
  have gBd := gB.trans gd
  have hbd : w.heap.size < W0.drew.heap.size := Nat.lt_of_lt_of_le hbl gd.size
  replace hres := Lib.hid hres
  replace hr := Lib.hid hr
  replace gBd := Lib.hid gBd
  clear h1 h2 h3 h4 h5 h6 h7 H1 H I eB gB gd hs ht hn9 c1 c2 c4
  go_enter Tryz.func14, Tryz.ntmps14
  go_upto_region 1 with fail
  rw [← hW0]
  replace hW0 := Lib.hid hW0
  go_upto_region 18 with fail
  refine wp_region_held_drew (S := fun V => V.cell? ⟨w.heap.size, 1, none⟩ = some (.string nm) ∧ V.cell? ⟨w.heap.size, 2, none⟩ = some (.string nt) ∧ V.cell? ⟨w.heap.size, 4, none⟩ = some (.int .i64 n)) (by kernel_rfl) ⟨d1, d2, d4⟩ (fun hS0 => ?_)
  refine wpAnyH_take (i := 0) (oi := ⟨some 78, _, _, _, _, _⟩) (v := ?_) rfl (by kernel_rfl) (by kernel_rfl) (by kernel_rfl) (fun _ _ _ h => h) (Or.inl ⟨by rfl, ?_⟩) (by assumption) ?_
  rotate_left
  · (intro w hSw; (try dsimp only at hSw); go_simp; try with_reducible rfl)
  try simp only [Act.put, List.setIfInBounds_toArray, List.set_cons_zero, List.set_cons_succ]
  refine wpAnyH_take (i := 1) (oi := ⟨some 79, _, _, _, _, _⟩) (v := ?_) rfl (by kernel_rfl) (by kernel_rfl) (by kernel_rfl) (fun _ _ _ h => h) (Or.inl ⟨by rfl, ?_⟩) (by assumption) ?_
  rotate_left
  · (intro w hSw; (try dsimp only at hSw); go_simp; try with_reducible rfl)
  try simp only [Act.put, List.setIfInBounds_toArray, List.set_cons_zero, List.set_cons_succ]
  refine wpAnyH_take (i := 2) (oi := ⟨some 80, _, _, _, _, _⟩) (v := ?_) rfl (by kernel_rfl) (by kernel_rfl) (by kernel_rfl) (fun _ _ _ h => h) (Or.inl ⟨by rfl, ?_⟩) (by assumption) ?_
  rotate_left
  · (intro w hSw; (try dsimp only at hSw); go_simp; try with_reducible rfl)
  try simp only [Act.put, List.setIfInBounds_toArray, List.set_cons_zero, List.set_cons_succ]
  refine wpAnyH_take (i := 3) (oi := ⟨some 81, _, _, _, _, _⟩) (v := ?_) rfl (by kernel_rfl) (by kernel_rfl) (by kernel_rfl) (fun _ _ _ h => h) (Or.inl ⟨by rfl, ?_⟩) (by assumption) ?_
  rotate_left
  · (intro w hSw; (try dsimp only at hSw); go_simp; try with_reducible rfl)
  try simp only [Act.put, List.setIfInBounds_toArray, List.set_cons_zero, List.set_cons_succ]
  refine wpAnyH_take (i := 4) (oi := ⟨some 82, _, _, _, _, _⟩) (v := ?_) rfl (by kernel_rfl) (by kernel_rfl) (by kernel_rfl) (fun _ _ _ h => h) (Or.inl ⟨by rfl, ?_⟩) (by assumption) ?_
  rotate_left
  · (intro w hSw; (try dsimp only at hSw); go_simp; try with_reducible rfl)
  try simp only [Act.put, List.setIfInBounds_toArray, List.set_cons_zero, List.set_cons_succ]
  refine wpAnyH_take (i := 6) (oi := ⟨some 84, _, _, _, _, _⟩) (v := ?_) rfl (by kernel_rfl) (by kernel_rfl) (by kernel_rfl) (fun _ _ _ h => h) (Or.inl ⟨by rfl, ?_⟩) (by assumption) ?_
  rotate_left
  · (intro w hSw; (try dsimp only at hSw); go_simp; try with_reducible rfl)
  try simp only [Act.put, List.setIfInBounds_toArray, List.set_cons_zero, List.set_cons_succ]
  refine wpAnyH_take (i := 7) (oi := ⟨some 85, _, _, _, _, _⟩) (v := ?_) rfl (by kernel_rfl) (by kernel_rfl) (by kernel_rfl) (fun _ _ _ h => h) (Or.inl ⟨by rfl, ?_⟩) (by assumption) ?_
  rotate_left
  · (intro w hSw; (try dsimp only at hSw); go_simp; try with_reducible rfl)
  try simp only [Act.put, List.setIfInBounds_toArray, List.set_cons_zero, List.set_cons_succ]
  refine wpAnyH_take (i := 8) (oi := ⟨some 86, _, _, _, _, _⟩) (v := ?_) rfl (by kernel_rfl) (by kernel_rfl) (by kernel_rfl) (fun _ _ _ h => h) (Or.inl ⟨by rfl, ?_⟩) (by assumption) ?_
  rotate_left
  · (intro w hSw; (try dsimp only at hSw); go_simp; try with_reducible rfl)
  try simp only [Act.put, List.setIfInBounds_toArray, List.set_cons_zero, List.set_cons_succ]
  refine wpAnyH_take (i := 9) (oi := ⟨some 87, _, _, _, _, _⟩) (v := ?_) rfl (by kernel_rfl) (by kernel_rfl) (by kernel_rfl) (fun _ _ _ h => h) (Or.inl ⟨by rfl, ?_⟩) (by assumption) ?_
  rotate_left
  · (intro w hSw; (try dsimp only at hSw); go_simp; try with_reducible rfl)
  try simp only [Act.put, List.setIfInBounds_toArray, List.set_cons_zero, List.set_cons_succ]
  refine wpAnyH_take (i := 10) (oi := ⟨some 88, _, _, _, _, _⟩) (v := ?_) rfl (by kernel_rfl) (by kernel_rfl) (by kernel_rfl) (fun _ _ _ h => h) (Or.inl ⟨by rfl, ?_⟩) (by assumption) ?_
  rotate_left
  · (intro w hSw; (try dsimp only at hSw); go_simp; try with_reducible rfl)
  try simp only [Act.put, List.setIfInBounds_toArray, List.set_cons_zero, List.set_cons_succ]
  refine wpAnyH_ready (rs := [5]) (by kernel_rfl) (by simp) ?_
  refine AllReadyH.cons rfl (fun K hK => ?_) AllReadyH.nil
  go_simp
  refine hf.mono ?_
  clear hf
  rintro e w2 ⟨rfl, H2, g2⟩
  have hr2 := hr.out _ _ H2
  have s2 : w2.cell? ⟨w.heap.size, 1, none⟩ = some (.string nm) ∧ w2.cell? ⟨w.heap.size, 2, none⟩ = some (.string nt) ∧ w2.cell? ⟨w.heap.size, 4, none⟩ = some (.int .i64 n) := ⟨cell_gp g2 d1 hbd nF, cell_gp g2 d2 hbd nF, cell_gp g2 d4 hbd nF⟩
  have hb2 : w.heap.size < w2.heap.size := Nat.lt_of_lt_of_le hbd g2.size
  replace g2 := Lib.hid g2
  clear H2
  refine hK.out _ _ s2 (fun _ => ?_)
  clear hK
  refine wpAnyH_ready (rs := [11]) (by kernel_rfl) (by simp) ?_
  refine AllReadyH.cons rfl (fun K hK => ?_) AllReadyH.nil
  go_simp
  refine hr2.mono ?_
  clear hr2
  rintro e w3 ⟨rfl, H3, g3⟩
  have s3 : w3.cell? ⟨w.heap.size, 1, none⟩ = some (.string nm) ∧ w3.cell? ⟨w.heap.size, 2, none⟩ = some (.string nt) ∧ w3.cell? ⟨w.heap.size, 4, none⟩ = some (.int .i64 n) := ⟨cell_gp g3 s2.1 hb2 nR, cell_gp g3 s2.2.1 hb2 nR, cell_gp g3 s2.2.2 hb2 nR⟩
  have FF := Lib.hid (Stepped.two gBd.out g2.out H3 g3)
  clear H3 g3
  refine hK.out _ _ s3 (fun _ => ?_)
  clear hK
  refine wpAnyH_take (i := 12) (oi := ⟨some 90, _, _, _, _, _⟩) (v := ?_) rfl (by kernel_rfl) (by kernel_rfl) (by kernel_rfl) (fun _ _ _ h => h) (Or.inl ⟨by rfl, ?_⟩) (by assumption) ?_
  rotate_left
  · (intro w hSw; (try dsimp only at hSw); go_simp; try with_reducible rfl)
  try simp only [Act.put, List.setIfInBounds_toArray, List.set_cons_zero, List.set_cons_succ]
  refine wpAnyH_take (i := 13) (oi := ⟨some 6, _, _, _, _, _⟩) (v := ?_) rfl (by kernel_rfl) (by kernel_rfl) (by kernel_rfl) (fun _ _ _ h => h) (Or.inl ⟨by rfl, ?_⟩) (by assumption) ?_
  rotate_left
  · (intro w hSw; (try dsimp only at hSw); go_simp; try with_reducible rfl)
  try simp only [Act.put, List.setIfInBounds_toArray, List.set_cons_zero, List.set_cons_succ]
  refine wpAnyH_done (by kernel_rfl) ?_ _
  go_wp2_with fail
  go_ret
  exact ⟨rfl, FF.out⟩
set_option maxHeartbeats 8000000 in
theorem do_remove (nm nt : ByteArray) (dv : Value) (n c : Int) (vk vf vu : Value) (r : Int) (H : Both DX F R w f q a a) (I : RInv N a) (hN : N ≤ 2199023255552) (hs : nm.size ≤ maxLen) (ht : nt.size ≤ maxLen) (hn9 : n < 9223372036854775808) :
    Calls Tryz.prog 14 #[.pointer (some ⟨f, 0, none⟩), .pointer (some ⟨q, 0, none⟩), .agg (opCells 6 nm nt dv n c vk vf vu r)] w fun e w' => e = .returned (.bool true) ∧ Stepped DX F R w f q (a.remove nm).2 w' := by
  obtain ⟨h1, h2, h3, h4, h5, h6, h7⟩ := I.asks hN
  unfold opCells
  obtain ⟨W0, hW0⟩ : ∃ W0, W0 = w.alloc (.cells #[.int .i64 6, .string nm, .string nt, dv, .int .i64 n, .int .i64 c, vk, vf, vu, .int .i64 r] 34) := ⟨_, rfl⟩
  have gB : w.grownBy W0 none := by rw [hW0]; exact World.grownBy_alloc w _ none
  have eB : W0.heap[w.heap.size]? = some (.cells #[.int .i64 6, .string nm, .string nt, dv, .int .i64 n, .int .i64 c, vk, vf, vu, .int .i64 r] 34 (0, 0)) := by rw [hW0]; exact World.alloc_heap_new w _
  have hbl := lt_of_block eB
  have c0 : W0.cell? ⟨w.heap.size, 0, none⟩ = some (.int .i64 6) := cell_of eB 0
  have c1 : W0.cell? ⟨w.heap.size, 1, none⟩ = some (.string nm) := cell_of eB 1
  have c2 : W0.cell? ⟨w.heap.size, 2, none⟩ = some (.string nt) := cell_of eB 2
  have c4 : W0.cell? ⟨w.heap.size, 4, none⟩ = some (.int .i64 n) := cell_of eB 4
  have gd := gdrew (World.grownBy.refl W0 none)
  have d1 := gd.cell c1 (by simp)
  have d2 := gd.cell c2 (by simp)
  have d4 := gd.cell c4 (by simp)
  have H1 := H.new (gB.trans gd)
  have hf := H1.fstep (a' := (a.remove nm).2) (E := .returned (.int .i64 (a.remove nm).1)) (fun S hn => S.remove I hN hn nm hs)
  have hr : ∀ (F2 : Nat → Prop) (W : World), Both DX F2 R W f q (a.remove nm).2 a → Calls Tryz.prog 44 #[.pointer (some ⟨q, 0, none⟩), .string nm] W fun e w' => e = .returned (.int .i64 (a.remove nm).1) ∧ Both DX F2 (RU R W w') w' f q (a.remove nm).2 (a.remove nm).2 ∧ GP R W w' := fun F2 W HB => HB.rstep (fun r vs h => by have HR := HB.rdl; exact rremove_any nm h HR h1 h2)
  have nF : ¬ F w.heap.size := fun h => by have := H.fl _ h; omega
  have nR : ¬ R w.heap.size := fun h => by have := H.rl _ h; omega
  obtain ⟨res, hres⟩ : ∃ res, res = a.remove nm := ⟨_, rfl⟩
  rw [← hres] at hf hr ⊢
  have hee : (res.1 == res.1) = true := by simp
  have gBd := gB.trans gd
  have hbd : w.heap.size < W0.drew.heap.size := Nat.lt_of_lt_of_le hbl gd.size
  replace hres := Lib.hid hres
  replace hr := Lib.hid hr
  replace gBd := Lib.hid gBd
  clear h1 h2 h3 h4 h5 h6 h7 H1 H I eB gB gd hs ht hn9 c1 c2 c4
  go_enter Tryz.func14, Tryz.ntmps14
  go_upto_region 1 with fail
  rw [← hW0]
  replace hW0 := Lib.hid hW0
  go_upto_region 20 with fail
  refine wp_region_held_drew (S := fun V => V.cell? ⟨w.heap.size, 1, none⟩ = some (.string nm) ∧ V.cell? ⟨w.heap.size, 2, none⟩ = some (.string nt) ∧ V.cell? ⟨w.heap.size, 4, none⟩ = some (.int .i64 n)) (by kernel_rfl) ⟨d1, d2, d4⟩ (fun hS0 => ?_)
  refine wpAnyH_take (i := 0) (oi := ⟨some 93, _, _, _, _, _⟩) (v := ?_) rfl (by kernel_rfl) (by kernel_rfl) (by kernel_rfl) (fun _ _ _ h => h) (Or.inl ⟨by rfl, ?_⟩) (by assumption) ?_
  rotate_left
  · (intro w hSw; (try dsimp only at hSw); go_simp; try with_reducible rfl)
  try simp only [Act.put, List.setIfInBounds_toArray, List.set_cons_zero, List.set_cons_succ]
  refine wpAnyH_take (i := 1) (oi := ⟨some 94, _, _, _, _, _⟩) (v := ?_) rfl (by kernel_rfl) (by kernel_rfl) (by kernel_rfl) (fun _ _ _ h => h) (Or.inl ⟨by rfl, ?_⟩) (by assumption) ?_
  rotate_left
  · (intro w hSw; (try dsimp only at hSw); go_simp; try with_reducible rfl)
  try simp only [Act.put, List.setIfInBounds_toArray, List.set_cons_zero, List.set_cons_succ]
  refine wpAnyH_take (i := 2) (oi := ⟨some 95, _, _, _, _, _⟩) (v := ?_) rfl (by kernel_rfl) (by kernel_rfl) (by kernel_rfl) (fun _ _ _ h => h) (Or.inl ⟨by rfl, ?_⟩) (by assumption) ?_
  rotate_left
  · (intro w hSw; (try dsimp only at hSw); go_simp; try with_reducible rfl)
  try simp only [Act.put, List.setIfInBounds_toArray, List.set_cons_zero, List.set_cons_succ]
  refine wpAnyH_take (i := 4) (oi := ⟨some 97, _, _, _, _, _⟩) (v := ?_) rfl (by kernel_rfl) (by kernel_rfl) (by kernel_rfl) (fun _ _ _ h => h) (Or.inl ⟨by rfl, ?_⟩) (by assumption) ?_
  rotate_left
  · (intro w hSw; (try dsimp only at hSw); go_simp; try with_reducible rfl)
  try simp only [Act.put, List.setIfInBounds_toArray, List.set_cons_zero, List.set_cons_succ]
  refine wpAnyH_take (i := 5) (oi := ⟨some 98, _, _, _, _, _⟩) (v := ?_) rfl (by kernel_rfl) (by kernel_rfl) (by kernel_rfl) (fun _ _ _ h => h) (Or.inl ⟨by rfl, ?_⟩) (by assumption) ?_
  rotate_left
  · (intro w hSw; (try dsimp only at hSw); go_simp; try with_reducible rfl)
  try simp only [Act.put, List.setIfInBounds_toArray, List.set_cons_zero, List.set_cons_succ]
  refine wpAnyH_take (i := 6) (oi := ⟨some 99, _, _, _, _, _⟩) (v := ?_) rfl (by kernel_rfl) (by kernel_rfl) (by kernel_rfl) (fun _ _ _ h => h) (Or.inl ⟨by rfl, ?_⟩) (by assumption) ?_
  rotate_left
  · (intro w hSw; (try dsimp only at hSw); go_simp; try with_reducible rfl)
  try simp only [Act.put, List.setIfInBounds_toArray, List.set_cons_zero, List.set_cons_succ]
  refine wpAnyH_ready (rs := [3]) (by kernel_rfl) (by simp) ?_
  refine AllReadyH.cons rfl (fun K hK => ?_) AllReadyH.nil
  go_simp
  refine hf.mono ?_
  clear hf
  rintro e w2 ⟨rfl, H2, g2⟩
  have hr2 := hr.out _ _ H2
  have s2 : w2.cell? ⟨w.heap.size, 1, none⟩ = some (.string nm) ∧ w2.cell? ⟨w.heap.size, 2, none⟩ = some (.string nt) ∧ w2.cell? ⟨w.heap.size, 4, none⟩ = some (.int .i64 n) := ⟨cell_gp g2 d1 hbd nF, cell_gp g2 d2 hbd nF, cell_gp g2 d4 hbd nF⟩
  have hb2 : w.heap.size < w2.heap.size := Nat.lt_of_lt_of_le hbd g2.size
  replace g2 := Lib.hid g2
  clear H2
  refine hK.out _ _ s2 (fun _ => ?_)
  clear hK
  refine wpAnyH_ready (rs := [7]) (by kernel_rfl) (by simp) ?_
  refine AllReadyH.cons rfl (fun K hK => ?_) AllReadyH.nil
  go_simp
  refine hr2.mono ?_
  clear hr2
  rintro e w3 ⟨rfl, H3, g3⟩
  have s3 : w3.cell? ⟨w.heap.size, 1, none⟩ = some (.string nm) ∧ w3.cell? ⟨w.heap.size, 2, none⟩ = some (.string nt) ∧ w3.cell? ⟨w.heap.size, 4, none⟩ = some (.int .i64 n) := ⟨cell_gp g3 s2.1 hb2 nR, cell_gp g3 s2.2.1 hb2 nR, cell_gp g3 s2.2.2 hb2 nR⟩
  have FF := Lib.hid (Stepped.two gBd.out g2.out H3 g3)
  clear H3 g3
  refine hK.out _ _ s3 (fun _ => ?_)
  clear hK
  refine wpAnyH_take (i := 8) (oi := ⟨some 101, _, _, _, _, _⟩) (v := ?_) rfl (by kernel_rfl) (by kernel_rfl) (by kernel_rfl) (fun _ _ _ h => h) (Or.inl ⟨by rfl, ?_⟩) (by assumption) ?_
  rotate_left
  · (intro w hSw; (try dsimp only at hSw); go_simp; try with_reducible rfl)
  try simp only [Act.put, List.setIfInBounds_toArray, List.set_cons_zero, List.set_cons_succ]
  refine wpAnyH_take (i := 9) (oi := ⟨some 6, _, _, _, _, _⟩) (v := ?_) rfl (by kernel_rfl) (by kernel_rfl) (by kernel_rfl) (fun _ _ _ h => h) (Or.inl ⟨by rfl, ?_⟩) (by assumption) ?_
  rotate_left
  · (intro w hSw; (try dsimp only at hSw); go_simp; try with_reducible rfl)
  try simp only [Act.put, List.setIfInBounds_toArray, List.set_cons_zero, List.set_cons_succ]
  refine wpAnyH_done (by kernel_rfl) ?_ _
  go_wp2_with fail
  go_ret
  exact ⟨rfl, FF.out⟩
end
end Go.Proofs.YtafcgjbafihniaaGreat

/-
  LAYER 1 (fs): lecternlaw01's do: SyncDir, Start of both.
-/
namespace Go.Proofs.YtafcgjbafihniaaGreat
set_option maxRecDepth 100000
variable {DX : Nat → Prop}
open Go.RowKit Go.Lib
attribute [local go_sem] Oper.semAt_some

section
variable {F R : Nat → Prop} {w : World} {f q : Nat} {a : RefP} {N : Nat}
set_option maxHeartbeats 8000000 in
theorem do_syncDir (nm nt : ByteArray) (dv : Value) (n c : Int) (vk vf vu : Value) (r : Int) (H : Both DX F R w f q a a) (I : RInv N a) (hN : N ≤ 2199023255552) :
    Calls Tryz.prog 14 #[.pointer (some ⟨f, 0, none⟩), .pointer (some ⟨q, 0, none⟩), .agg (opCells 7 nm nt dv n c vk vf vu r)] w fun e w' => e = .returned (.bool true) ∧ Stepped DX F R w f q a.syncDir.2 w' := by
  obtain ⟨h1, h2, h3, h4, h5, h6, h7⟩ := I.asks hN
  unfold opCells
  obtain ⟨W0, hW0⟩ : ∃ W0, W0 = w.alloc (.cells #[.int .i64 7, .string nm, .string nt, dv, .int .i64 n, .int .i64 c, vk, vf, vu, .int .i64 r] 34) := ⟨_, rfl⟩
  have gB : w.grownBy W0 none := by rw [hW0]; exact World.grownBy_alloc w _ none
  have eB : W0.heap[w.heap.size]? = some (.cells #[.int .i64 7, .string nm, .string nt, dv, .int .i64 n, .int .i64 c, vk, vf, vu, .int .i64 r] 34 (0, 0)) := by rw [hW0]; exact World.alloc_heap_new w _
  have c0 : W0.cell? ⟨w.heap.size, 0, none⟩ = some (.int .i64 7) := cell_of eB 0
  have H1 := H.new gB
  have hf := H1.fstep (a' := a.syncDir.2) (E := .returned (.int .i64 a.syncDir.1)) (fun S hn => S.syncDir I hN hn)
  have hr : ∀ (F2 : Nat → Prop) (W : World), Both DX F2 R W f q a.syncDir.2 a → Calls Tryz.prog 45 #[.pointer (some ⟨q, 0, none⟩)] W fun e w' => e = .returned (.int .i64 a.syncDir.1) ∧ Both DX F2 (RU R W w') w' f q a.syncDir.2 a.syncDir.2 ∧ GP R W w' := fun F2 W HB => HB.rstep (fun r vs h => rsyncDir_any h HB.rdl h1 h2)
  obtain ⟨res, hres⟩ : ∃ res, res = a.syncDir := ⟨_, rfl⟩
  rw [← hres] at hf hr ⊢
  have hee : (res.1 == res.1) = true := by simp
  replace hres := Lib.hid hres
  replace hr := Lib.hid hr
  replace gB := Lib.hid gB
  clear h1 h2 h3 h4 h5 h6 h7 H1 H I eB
  go_enter Tryz.func14, Tryz.ntmps14
  go_upto_region 1 with fail
  rw [← hW0]
  replace hW0 := Lib.hid hW0
  go_wp2_with first
    | (go_at_call 24
       refine hf.mono ?_
       clear hf
       rintro e w2 ⟨rfl, H2, g2⟩
       have hr2 := hr.out _ _ H2
       replace g2 := Lib.hid g2
       clear H2)
    | (go_at_call 45
       refine hr2.mono ?_
       clear hr2
       rintro e w3 ⟨rfl, H3, g3⟩
       have FF := Lib.hid (Stepped.two gB.out g2.out H3 g3)
       clear H3 g3)
  go_ret
  exact ⟨rfl, FF.out⟩

theorem Stepped.three {w0 w1 w2 w3 : World} {F R : Nat → Prop} (g0 : w0.grownBy w1 none) (g1 : GP R w1 w2) (H : Both DX (RU F w2 w3) (RU R w1 w2) w3 f q a a) (g2 : GP F w2 w3) : Stepped DX F R w0 f q a w3 := by
  have s1 := g1.size
  have s0 := g0.size
  refine ⟨_, _, H, (((GP.of (P := fun k => F k ∨ R k) g0 (by simp)).trans g1 (fun k hk => .inl (.inr hk))).trans g2 (fun k hk => .inl (.inl hk))), fun k hk => ?_, fun k hk => ?_⟩
  · rcases hk with hk | hk
    · exact .inl hk
    · right; omega
  · rcases hk with hk | hk
    · exact .inl hk
    · right; omega
set_option maxHeartbeats 8000000 in
theorem do_start (k : Int) (nm nt : ByteArray) (dv : Value) (n : Int) (p : Pl) (vk vf vu : Value) (H : Both DX F R w f q a a) (I : RInv N a) (hN : N ≤ 2199023255552) (hp : planFits p) (hk : k ≠ 1 ∧ k ≠ 2 ∧ k ≠ 3 ∧ k ≠ 4 ∧ k ≠ 5 ∧ k ≠ 6 ∧ k ≠ 7)
    (hA : ∀ W', GP (fun k => F k ∨ R k) w W' → Ints W' vk p.keep ∧ Ints W' vf p.fail ∧ Ints W' vu p.full) :
    Calls Tryz.prog 14 #[.pointer (some ⟨f, 0, none⟩), .pointer (some ⟨q, 0, none⟩), .agg (opCells k nm nt dv n p.crash vk vf vu p.room)] w fun e w' => e = .returned (.bool true) ∧ Stepped DX F R w f q (a.start p) w' := by
  obtain ⟨h1, h2, h3, h4, h5, h6, h7⟩ := I.asks hN
  have hA0 := hA w (GP.refl _ _)
  obtain ⟨ak, ck, rfl⟩ := hA0.1.form
  obtain ⟨af, cf, rfl⟩ := hA0.2.1.form
  obtain ⟨au, cu, rfl⟩ := hA0.2.2.form
  clear hA0
  obtain ⟨nk, hnk⟩ : ∃ n, n = p.keep.length := ⟨_, rfl⟩
  obtain ⟨nf, hnf⟩ : ∃ n, n = p.fail.length := ⟨_, rfl⟩
  obtain ⟨nu, hnu⟩ : ∃ n, n = p.full.length := ⟨_, rfl⟩
  rw [← hnk, ← hnf, ← hnu] at hA ⊢
  unfold opCells
  obtain ⟨W0, hW0⟩ : ∃ W0, W0 = w.alloc (.cells #[.int .i64 k, .string nm, .string nt, dv, .int .i64 n, .int .i64 p.crash, .slice ak nk ck, .slice af nf cf, .slice au nu cu, .int .i64 p.room] 34) := ⟨_, rfl⟩
  have gB : w.grownBy W0 none := by rw [hW0]; exact World.grownBy_alloc w _ none
  have eB : W0.heap[w.heap.size]? = some (.cells #[.int .i64 k, .string nm, .string nt, dv, .int .i64 n, .int .i64 p.crash, .slice ak nk ck, .slice af nf cf, .slice au nu cu, .int .i64 p.room] 34 (0, 0)) := by rw [hW0]; exact World.alloc_heap_new w _
  have hbl := lt_of_block eB
  have c0 : W0.cell? ⟨w.heap.size, 0, none⟩ = some (.int .i64 k) := cell_of eB 0
  have c5 : W0.cell? ⟨w.heap.size, 5, none⟩ = some (.int .i64 p.crash) := cell_of eB 5
  have c6 : W0.cell? ⟨w.heap.size, 6, none⟩ = some (.slice ak nk ck) := cell_of eB 6
  have c7 : W0.cell? ⟨w.heap.size, 7, none⟩ = some (.slice af nf cf) := cell_of eB 7
  have c8 : W0.cell? ⟨w.heap.size, 8, none⟩ = some (.slice au nu cu) := cell_of eB 8
  have c9 : W0.cell? ⟨w.heap.size, 9, none⟩ = some (.int .i64 p.room) := cell_of eB 9
  have H1 := H.new gB
  have hr := H1.rstep (b' := a.start p) (E := .returned (.tuple #[])) (fn := 46) (args := #[.pointer (some ⟨q, 0, none⟩), .agg #[.int .i64 p.crash, .slice ak nk ck, .slice af nf cf, .slice au nu cu, .int .i64 p.room]]) (fun r vs h => by
    have hAR : ∀ W', GP R W0 W' → Ints W' (.slice ak nk ck) p.keep ∧ Ints W' (.slice af nf cf) p.fail ∧ Ints W' (.slice au nu cu) p.full := fun W' g => hA W' ((GP.of (P := fun k => F k ∨ R k) gB (by simp)).trans g (fun k hk => .inl (.inr hk)))
    by_cases hd : a.died = true
    · exact rstart_dead _ _ _ p h H1.rdl h1 hd hAR hp.1 hp.2.1 hp.2.2.1
    · exact rstart_live _ _ _ p h H1.rdl h1 (by simpa using hd) hAR hp.1 hp.2.1 hp.2.2.1)
  have hf : ∀ (R2 : Nat → Prop) (W : World), Both DX F R2 W f q a (a.start p) → GP R W0 W → Calls Tryz.prog 25 #[.pointer (some ⟨f, 0, none⟩), .agg #[.int .i64 p.crash, .slice ak nk ck, .slice af nf cf, .slice au nu cu, .int .i64 p.room]] W fun e w' => e = .returned (.int .i64 0) ∧ Both DX (RU F W w') R2 w' f q (a.start p) (a.start p) ∧ GP F W w' := fun R2 W HB g => HB.fstep (fun S hn => S.start I hN hn _ _ _ p hp (fun W' g' => hA W' (((GP.of (P := fun k => F k ∨ R k) gB (by simp)).trans g (fun k hk => .inl (.inr hk))).trans g'.old (fun k hk => .inl (.inl hk)))))
  have nR : ¬ R w.heap.size := fun h => by have := H.rl _ h; omega
  obtain ⟨st, hst⟩ : ∃ st, st = a.start p := ⟨_, rfl⟩
  rw [← hst] at hf hr ⊢
  obtain ⟨k1, k2, k3, k4, k5, k6, k7⟩ := hk
  have e1 : (k == 1) = false := by simpa using k1
  have e2 : (k == 2) = false := by simpa using k2
  have e3 : (k == 3) = false := by simpa using k3
  have e4 : (k == 4) = false := by simpa using k4
  have e5 : (k == 5) = false := by simpa using k5
  have e6 : (k == 6) = false := by simpa using k6
  have e7 : (k == 7) = false := by simpa using k7
  obtain ⟨cr, hcr⟩ : ∃ cr, cr = p.crash := ⟨_, rfl⟩
  obtain ⟨rm, hrm⟩ : ∃ rm, rm = p.room := ⟨_, rfl⟩
  rw [← hcr] at c5 hW0 hr hf ⊢
  rw [← hrm] at c9 hW0 hr hf ⊢
  replace hcr := Lib.hid hcr
  replace hrm := Lib.hid hrm
  replace hst := Lib.hid hst
  replace hf := Lib.hid hf
  replace gB := Lib.hid gB
  replace hA := Lib.hid hA
  replace hnk := Lib.hid hnk
  replace hnf := Lib.hid hnf
  replace hnu := Lib.hid hnu
  clear h1 h2 h3 h4 h5 h6 h7 H1 H I eB k1 k2 k3 k4 k5 k6 k7 hp
  go_enter Tryz.func14, Tryz.ntmps14
  go_upto_region 1 with fail
  rw [← hW0]
  replace hW0 := Lib.hid hW0
  go_wp2_with first
    | (go_at_call 46
       refine hr.mono ?_
       clear hr
       rintro e w2 ⟨rfl, H2, g2⟩
       have hf2 := hf.out _ _ H2 g2
       have d5 := cell_gp g2 c5 hbl nR
       have d6 := cell_gp g2 c6 hbl nR
       have d7 := cell_gp g2 c7 hbl nR
       have d8 := cell_gp g2 c8 hbl nR
       have d9 := cell_gp g2 c9 hbl nR
       replace g2 := Lib.hid g2
       clear H2)
    | (go_at_call 25
       refine hf2.mono ?_
       clear hf2
       rintro e w3 ⟨rfl, H3, g3⟩
       have FF := Lib.hid (Stepped.three gB.out g2.out H3 g3)
       clear H3 g3)
  go_ret
  exact ⟨rfl, FF.out⟩
end
end Go.Proofs.YtafcgjbafihniaaGreat

/-
  LAYER 1 (fs): lecternlaw01's do: Append of both; any operation.
-/
namespace Go.Proofs.YtafcgjbafihniaaGreat
set_option maxRecDepth 100000
variable {DX : Nat → Prop}
open Go.RowKit Go.Lib
attribute [local go_sem] Oper.semAt_some

/-- It reads as bytes, or it is empty with an address. -/
def ReadsF (w : World) (v : Value) (bs : List UInt8) : Prop := Reads w v bs ∨ ∃ ad : Addr, v = .slice (some ad) 0 0 ∧ bs = []
theorem copy_bytes (v : Value) (bs : List UInt8) (w : World) (hr : ReadsF w v bs) (hl : bs.length ≤ 140737488351232) :
    ∃ v' w', (Builtin.append_ #[32, 32] 32 #[.slice none 0 0, v]).run Tryz.prog w = .ok v' w' ∧ Owns w' w.heap.size 5 v' bs ∧ w.grownBy w' none := by
  obtain ⟨i0, hi, hz0, hz1, hz2⟩ := info_parts infoU8
  have one : ∀ u ∈ byteCells bs, u.oneCell' = true := fun u hu => by
    unfold byteCells at hu
    obtain ⟨x, _, rfl⟩ := List.mem_map.1 hu
    rfl
  have hbl : (byteCells bs).length = bs.length := by simp [byteCells]
  rcases hr with (⟨rfl, h⟩ | ⟨b, off, cap, rfl, h1, h2, h3⟩) | ⟨ad, rfl, rfl⟩
  · subst h
    have hrun := run_append_owned_none (P := Tryz.prog) (w := w) w.heap.size 32 32 5 i0 1 Tryz.underlying32 hi (.slice none 0 0) 0 [] (World.ownsRow_nil _ _ _ _)
    exact ⟨_, _, hrun, World.ownsRow_nil _ _ _ _, World.grownBy.refl _ _⟩
  · obtain ⟨v', w', hrun, h5, h6, _, _⟩ := run_append_own_at (P := Tryz.prog) w w.heap.size 32 32 5 i0 (.int .u8 0) 1 1 Tryz.underlying32 hi hz0 hz1 hz2 rfl (by decide) (.slice none 0 0) 0 [] (World.ownsRow_nil _ _ _ _) ⟨b, off, none⟩ bs.length cap (byteCells bs) (by rw [hbl]; omega)
      (fun j u hj => by
        have e : (⟨b, off, none⟩ : Addr).add j = ⟨b, off + j, none⟩ := by cases j <;> simp [Addr.add]
        rw [e]
        rw [byteCells_get] at hj
        obtain ⟨x, hx, rfl⟩ := Option.map_eq_some_iff.1 hj
        exact h3 j x hx) one (by unfold maxLen; omega) (by omega) (Nat.le_refl _)
    exact ⟨v', w', hrun, by unfold Owns; simpa using h5, h6⟩
  · obtain ⟨v', w', hrun, h5, h6, _, _⟩ := run_append_own_at (P := Tryz.prog) w w.heap.size 32 32 5 i0 (.int .u8 0) 1 1 Tryz.underlying32 hi hz0 hz1 hz2 rfl (by decide) (.slice none 0 0) 0 [] (World.ownsRow_nil _ _ _ _) ad 0 0 [] rfl
      (fun j u hj => by simp at hj) (by simp) (by unfold maxLen; omega) (by omega) (Nat.le_refl _)
    exact ⟨v', w', hrun, by unfold Owns; simpa [byteCells] using h5, h6⟩
theorem ReadsF.more {w w' : World} {v : Value} {bs : List UInt8} (h : ReadsF w v bs) (g : w.grownBy w' none) : ReadsF w' v bs := h.imp (fun h => h.kept g (by cases v.ownBlock <;> simp)) id
theorem ReadsF.some {w : World} {v : Value} {bs : List UInt8} (h : ReadsF w v bs) (hne : bs ≠ []) : Reads w v bs := h.elim id (fun ⟨_, _, e⟩ => (hne e).elim)
section
variable {F R : Nat → Prop} {w : World} {f q : Nat} {a : RefP} {N : Nat}
theorem byteSet (l : List UInt8) (j : Nat) : (byteCells l).set j (.int .u8 122) = byteCells (l.set j 122) := by
  unfold byteCells
  rw [List.map_set]
  rfl
set_option maxHeartbeats 8000000 in
theorem do_append (nm nt : ByteArray) (da : Option Addr) (dc : Nat) (bs : List UInt8) (n c : Int) (vk vf vu : Value) (r : Int) (H : Both DX F R w f q a a) (I : RInv N a) (hN : N ≤ 2199023255552) (hs : nm.size ≤ maxLen) (hbl : bs.length ≤ 140737488351232)
    (hA : ∀ W', GP (fun k => F k ∨ R k) w W' → ReadsF W' (.slice da bs.length dc) bs) :
    Calls Tryz.prog 14 #[.pointer (some ⟨f, 0, none⟩), .pointer (some ⟨q, 0, none⟩), .agg (opCells 2 nm nt (.slice da bs.length dc) n c vk vf vu r)] w fun e w' => e = .returned (.bool true) ∧ Stepped DX F R w f q (a.append nm bs).2 w' := by
  obtain ⟨h1, h2, h3, h4, h5, h6, h7⟩ := I.asks hN
  unfold opCells
  obtain ⟨bl, hbl2⟩ : ∃ bl, bl = bs.length := ⟨_, rfl⟩
  rw [← hbl2] at hA hbl ⊢
  obtain ⟨W0, hW0⟩ : ∃ W0, W0 = w.alloc (.cells #[.int .i64 2, .string nm, .string nt, .slice da bl dc, .int .i64 n, .int .i64 c, vk, vf, vu, .int .i64 r] 34) := ⟨_, rfl⟩
  have gB : w.grownBy W0 none := by rw [hW0]; exact World.grownBy_alloc w _ none
  have eB : W0.heap[w.heap.size]? = some (.cells #[.int .i64 2, .string nm, .string nt, .slice da bl dc, .int .i64 n, .int .i64 c, vk, vf, vu, .int .i64 r] 34 (0, 0)) := by rw [hW0]; exact World.alloc_heap_new w _
  have hbx := lt_of_block eB
  have c0 : W0.cell? ⟨w.heap.size, 0, none⟩ = some (.int .i64 2) := cell_of eB 0
  have c1 : W0.cell? ⟨w.heap.size, 1, none⟩ = some (.string nm) := cell_of eB 1
  have c3 : W0.cell? ⟨w.heap.size, 3, none⟩ = some (.slice da bl dc) := cell_of eB 3
  have H1 := H.new gB
  have hRd : ReadsF W0 (.slice da bl dc) bs := hA W0 (GP.of gB (by simp))
  obtain ⟨v1, w1, run1, ho, hg⟩ := copy_bytes _ bs W0 hRd (by omega)
  obtain ⟨xa, xc, hv1⟩ := rowForm ho
  rw [← hbl2] at hv1
  subst hv1
  have hf : ∀ (W : World) (xa : Option Addr) (xc : Nat), W0.grownBy W none → Owns W W0.heap.size 5 (.slice xa bl xc) bs → Calls Tryz.prog 32 #[.pointer (some ⟨f, 0, none⟩), .string nm, .slice xa bl xc] W fun e w' => e = .returned (.int .i64 (a.append nm bs).1) ∧ Both DX (RU F W w') R w' f q (a.append nm bs).2 a ∧ GP F W w' := fun W xa xc g o => by
    have HW := H1.new g
    refine HW.fstep (fun S hn => ?_)
    have := S.append I hN hn nm hs xa xc bs (by rw [← hbl2]; exact Owns.reads (World.ownsRow.mono o (Nat.zero_le _))) (fun _ e => by
      have h9 := (World.ownsRow.lt o f (by rw [hbl2]; exact e)).1
      have := H1.fs.lt
      omega) (by omega)
    rw [← hbl2] at this
    exact this
  have hr : ∀ (F2 : Nat → Prop) (W : World), Both DX F2 R W f q (a.append nm bs).2 a → GP (fun k => F k ∨ R k) w W → Calls Tryz.prog 40 #[.pointer (some ⟨q, 0, none⟩), .string nm, .slice da bl dc] W fun e w' => e = .returned (.int .i64 (a.append nm bs).1) ∧ Both DX F2 (RU R W w') w' f q (a.append nm bs).2 (a.append nm bs).2 ∧ GP R W w' := fun F2 W HB g => HB.rstep (fun r vs h => by
    have := rappend_any nm da dc bs h HB.rdl h1 h2 h3 h5 h6 h7 (fun hne W' g' => by rw [← hbl2]; exact (hA W' (g.trans g' (fun k hk => .inl (.inr hk)))).some hne) (by omega)
    rw [← hbl2] at this
    exact this)
  have nF : ¬ F w.heap.size := fun h => by have := H.fl _ h; omega
  have nF2 : ∀ k, W0.heap.size ≤ k → ¬ F k ∧ ¬ R k ∧ ¬ DX k := fun k hk => ⟨fun h => by have := H1.fl _ h; omega, fun h => by have := H1.rl _ h; omega, fun h => by have := H1.xl _ h; omega⟩
  obtain ⟨res, hres⟩ : ∃ res, res = a.append nm bs := ⟨_, rfl⟩
  rw [← hres] at hf hr ⊢
  have hee : (res.1 == res.1) = true := by simp
  replace hres := Lib.hid hres
  replace hf := Lib.hid hf
  replace hr := Lib.hid hr
  replace gB := Lib.hid gB
  replace hA := Lib.hid hA
  replace nF2 := Lib.hid nF2
  have hbs : bs.length ≤ 140737488351232 := by omega
  replace hbl2 := Lib.hid hbl2
  clear h1 h2 h3 h4 h5 h6 h7 H1 H I eB
  go_enter Tryz.func14, Tryz.ntmps14
  go_upto_region 1 with fail
  rw [← hW0]
  replace hW0 := Lib.hid hW0
  go_upto_region 6 with (at_builtin; refine wpList_app_run rfl _ _ 32 rfl (.slice none 0 0) _ rfl rfl run1 ?_)
  have hfa := hf.out w1 xa xc hg ho
  have b1 := hg.cell c1 (by simp)
  have b3 := hg.cell c3 (by simp)
  have hb1 : w.heap.size < w1.heap.size := Nat.lt_of_lt_of_le hbx hg.size
  go_upto_region 8 with (go_at_call 32
                         refine hfa.mono ?_
                         clear hfa
                         rintro e w2 ⟨rfl, H2, g2⟩
                         have d1 := cell_gp g2 b1 hb1 nF
                         have d3 := cell_gp g2 b3 hb1 nF
                         have hb2 : w.heap.size < w2.heap.size := Nat.lt_of_lt_of_le hb1 g2.size
                         have o2 : Owns w2 W0.heap.size 5 (.slice xa bl xc) bs := own_gp ho g2 (fun k e hk => (nF2.out k (World.ownsRow.lt ho k e).1).1 hk)
                         have hgp2 := Lib.hid (((GP.of (P := fun k => F k ∨ R k) gB.out (by simp)).more hg).trans g2 (fun k hk => .inl (.inl hk)))
                         have HB2 := Lib.hid H2
                         have g2h := Lib.hid g2
                         have hgh := Lib.hid hg
                         have o2h := Lib.hid o2
                         have hvb : Hid (∀ k, (Value.slice xa bl xc).ownBlock = some k → W0.heap.size ≤ k ∧ k < w1.heap.size) := Lib.hid (fun k e => World.ownsRow.lt ho k e)
                         clear H2 g2 o2 b1 b3 hf ho hg hRd)
  have hW0s : w.heap.size < W0.heap.size := hbx
  go_loopw [9, 35] (fun _ vi wr => ∃ (j : Nat), vi = .int .i64 (j : Int) ∧ j ≤ bl ∧ Hid (∃ bs' : List UInt8, bs'.length = bl ∧ Owns wr W0.heap.size 5 (.slice xa bl xc) bs') ∧ Hid (GP (fun k => (Value.slice xa bl xc).ownBlock = some k) w2 wr)) (fun _ vi _ => bl - (RowKit.intOf vi).toNat)
  case atStart => exact ⟨0, rfl, Nat.zero_le _, Lib.hid ⟨bs, hbl2.out.symm, o2h.out⟩, Lib.hid (GP.refl _ _)⟩
  case round =>
    obtain ⟨j, rfl, hj, hO, hG⟩ := hrel
    by_cases hlt : j < bl
    · have hltz : (j : Int) < (bl : Int) := by omega
      obtain ⟨bs', hl', ho'⟩ := hO.out
      have hoR : OwnR (fun _ => True) wr 5 1 (.slice xa bl xc) bs'.length (byteCells bs') := ⟨World.ownsRow.mono ho' (Nat.zero_le _), fun _ _ => trivial⟩
      rw [hl'] at hoR
      obtain ⟨gb, rfl, _, hgl, rc, hfr⟩ := hoR.cell (by omega)
      obtain ⟨u, hu⟩ : ∃ u, bs'[j]? = some u := ⟨_, List.getElem?_eq_getElem (by omega)⟩
      have z : wr.cell? ⟨gb, j, none⟩ = some (.int .u8 (u.toNat : Int)) := by rw [rc j (by omega), byteCells_get, hu]; rfl
      have zf := hfr j
      have ho2 : wr.ownsRow W0.heap.size 5 1 (.slice (some ⟨gb, 0, none⟩) bl xc) bl (byteCells bs') := by
        have := ho'
        unfold Owns at this
        rwa [hl'] at this
      have st := World.ownsRow.stored ho2 j (.int .u8 122)
      have hO2 : Hid (∃ bs2 : List UInt8, bs2.length = bl ∧ Owns (wr.setCell ⟨gb, j, none⟩ (.int .u8 122)) W0.heap.size 5 (.slice (some ⟨gb, 0, none⟩) bl xc) bs2) := Lib.hid ⟨bs'.set j 122, by rw [List.length_set]; exact hl', by
        unfold Owns
        rw [List.length_set, hl', ← byteSet]
        exact st.1⟩
      have hG2 : Hid (GP (fun k => (Value.slice (some ⟨gb, 0, none⟩) bl xc).ownBlock = some k) w2 (wr.setCell ⟨gb, j, none⟩ (.int .u8 122))) := Lib.hid (hG.out.step (gq wr gb j (.int .u8 122)) (fun k e => by cases e; exact .inl rfl))
      clear hoR rc hfr st ho' ho2 hl' hu hO hG
      go_wp2_with fail
      exact ⟨⟨j + 1, by go_num, by omega, hO2, hG2⟩, by simp [RowKit.intOf]; omega⟩
    · obtain rfl : j = bl := by omega
      have hno : ∀ k, (Value.slice xa j xc).ownBlock = some k → k ≠ w.heap.size := fun k e => by have := (hvb.out k e).1; omega
      have e1 := cell_gp hG.out d1 hb2 (fun e => hno _ e rfl)
      have e3 := cell_gp hG.out d3 hb2 (fun e => hno _ e rfl)
      have HB3 : Both DX (RU F w1 w2) R wr f q res.2 a := HB2.out.kept hG.out (fun k hk hF => by
        have h1 := hvb.out k hk
        rcases hF with hF | hF
        · exact (nF2.out k h1.1).1 hF
        · omega) (fun k hk => (nF2.out k (hvb.out k hk).1).2.1) (fun k hk => (nF2.out k (hvb.out k hk).1).2.2)
      have gp3 := hgp2.out.trans hG.out (fun k hk => .inr (by have := (hvb.out k hk).1; omega))
      have hra := hr.out _ _ HB3 gp3
      have gp3h := Lib.hid gp3
      have hs3 := gp3.size
      have hs1 : w.heap.size ≤ w1.heap.size := Nat.le_of_lt hb1
      clear HB3 gp3 hO hG d1 d3
      go_wp2_with (go_at_call 40
                   refine hra.mono ?_
                   clear hra
                   rintro e w4 ⟨rfl, H4, g4⟩
                   have FF := Lib.hid (Stepped.of (F := F) (R := R) H4 (gp3h.out.trans g4 (fun k hk => .inl (.inr hk))) (fun k hk => hk.elim .inl (fun h => .inr (Nat.le_trans hs1 h.1))) (fun k hk => hk.elim .inl (fun h => .inr (Nat.le_trans hs3 h.1))))
                   clear H4 g4)
      go_ret
      exact ⟨rfl, FF.out⟩
/-- What an operation's value holds. -/
def OpAt (W : World) (v : Value) (o : OpP) : Prop := ∃ da dc vk vf vu, v = .agg (opCells o.kind o.name o.dest (.slice da o.data.length dc) o.n o.plan.crash vk vf vu o.plan.room) ∧ ReadsF W (.slice da o.data.length dc) o.data ∧ Ints W vk o.plan.keep ∧ Ints W vf o.plan.fail ∧ Ints W vu o.plan.full
/-- One operation of both. -/
theorem do_any (o : OpP) (v : Value) (H : Both DX F R w f q a a) (I : RInv N a) (hN : N ≤ 2199023255552) (ho : o.Fits) (hA : ∃ da dc vk vf vu, v = .agg (opCells o.kind o.name o.dest (.slice da o.data.length dc) o.n o.plan.crash vk vf vu o.plan.room) ∧ ∀ W', GP (fun k => F k ∨ R k) w W' → ReadsF W' (.slice da o.data.length dc) o.data ∧ Ints W' vk o.plan.keep ∧ Ints W' vf o.plan.fail ∧ Ints W' vu o.plan.full) :
    Calls Tryz.prog 14 #[.pointer (some ⟨f, 0, none⟩), .pointer (some ⟨q, 0, none⟩), v] w fun e w' => e = .returned (.bool true) ∧ Stepped DX F R w f q (a.op o) w' := by
  obtain ⟨da, dc, vk, vf, vu, rfl, hW⟩ := hA
  obtain ⟨k, nm, nt, bs, n, p⟩ := o
  obtain ⟨o1, o2, o3, o4, o5⟩ := ho
  dsimp only at *
  unfold RefP.op
  dsimp only
  by_cases k1 : k = 1
  · subst k1
    rw [if_pos rfl]
    exact do_create nm nt _ n _ vk vf vu _ H I hN o1 o2 o4
  rw [if_neg k1]
  by_cases k2 : k = 2
  · subst k2
    rw [if_pos rfl]
    exact do_append nm nt da dc bs n _ vk vf vu _ H I hN o1 o3 (fun W' g => (hW W' g).1)
  rw [if_neg k2]
  by_cases k3 : k = 3
  · subst k3
    rw [if_pos rfl]
    exact do_cut nm nt _ n _ vk vf vu _ H I hN o1 o2 o4
  rw [if_neg k3]
  by_cases k4 : k = 4
  · subst k4
    rw [if_pos rfl]
    exact do_sync nm nt _ n _ vk vf vu _ H I hN o1 o2 o4
  rw [if_neg k4]
  by_cases k5 : k = 5
  · subst k5
    rw [if_pos rfl]
    exact do_rename nm nt _ n _ vk vf vu _ H I hN o1 o2 o4
  rw [if_neg k5]
  by_cases k6 : k = 6
  · subst k6
    rw [if_pos rfl]
    exact do_remove nm nt _ n _ vk vf vu _ H I hN o1 o2 o4
  rw [if_neg k6]
  by_cases k7 : k = 7
  · subst k7
    rw [if_pos rfl]
    exact do_syncDir nm nt _ n _ vk vf vu _ H I hN
  rw [if_neg k7]
  exact do_start k nm nt _ n p vk vf vu H I hN o5 ⟨k1, k2, k3, k4, k5, k6, k7⟩ (fun W' g => (hW W' g).2)
end
end Go.Proofs.YtafcgjbafihniaaGreat

/-
  LAYER 1 (fs): lecternlaw01's fits and made: operations that came in.
-/
namespace Go.Proofs.YtafcgjbafihniaaGreat
set_option maxRecDepth 100000
open Go.RowKit Go.Lib
attribute [local go_sem] Oper.semAt_some

/-- Operations that came in, as they lie there. -/
def OpsR (W : World) (v : Value) (L : List OpP) : Prop := ∃ a c, v = .slice a L.length c ∧ L.length ≤ 879609302208 ∧ (∀ o ∈ L, o.Fits) ∧ ∀ (j : Nat) (o : OpP), L[j]? = some o → ∃ b off da dc a1 c1 a2 c2 a3 c3, a = some ⟨b, off, none⟩ ∧
  (∀ i u, (opCells o.kind o.name o.dest (.slice da o.data.length dc) o.n o.plan.crash (.slice a1 o.plan.keep.length c1) (.slice a2 o.plan.fail.length c2) (.slice a3 o.plan.full.length c3) o.plan.room)[i]? = some u → W.cell? ⟨b, off + j * 10 + i, none⟩ = some u) ∧
  ReadsF W (.slice da o.data.length dc) o.data ∧ Ints W (.slice a1 o.plan.keep.length c1) o.plan.keep ∧ Ints W (.slice a2 o.plan.fail.length c2) o.plan.fail ∧ Ints W (.slice a3 o.plan.full.length c3) o.plan.full
theorem Reads.more {w w' : World} {v : Value} {bs : List UInt8} (h : Reads w v bs) (g : w.grownBy w' none) : Reads w' v bs := h.kept g (by cases v.ownBlock <;> simp)
theorem OpsR.new {w w' : World} {v : Value} {L : List OpP} (h : OpsR w v L) (g : w.grownBy w' none) : OpsR w' v L := by
  obtain ⟨a, c, h1, h2, h3, h4⟩ := h
  refine ⟨a, c, h1, h2, h3, fun j o ho => ?_⟩
  obtain ⟨b, off, da, dc, a1, c1, a2, c2, a3, c3, k1, k2, k3, k4, k5, k6⟩ := h4 j o ho
  exact ⟨b, off, da, dc, a1, c1, a2, c2, a3, c3, k1, fun i u hu => g.cell (k2 i u hu) (by simp), k3.more g, k4.all g, k5.all g, k6.all g⟩

def SomeB (w : World) (e : Ending) (w' : World) : Prop := ∃ b : Bool, e = .returned (.bool b) ∧ w.grownBy w' none
set_option maxHeartbeats 8000000 in
theorem fits_any (v : Value) (L : List OpP) (w : World) (h : OpsR w v L) : Calls Tryz.prog 11 #[v] w (SomeB w) := by
  obtain ⟨a, c, rfl, hm, _, h4⟩ := h
  obtain ⟨n, hn⟩ : ∃ n, n = L.length := ⟨_, rfl⟩
  rw [← hn] at hm ⊢
  replace hn := Lib.hid hn
  replace h4 := Lib.hid h4
  go_enter Tryz.func11, Tryz.ntmps11
  go_wp2_with fail
  go_loopw [3, 5, 10] (fun v3 _ vi wr => ∃ (i : Nat) (z : Int), vi = .int .i64 (i : Int) ∧ i ≤ n ∧ v3 = .int .i64 z ∧ Hid (w.grownBy wr none)) (fun _ _ vi _ => n - (RowKit.intOf vi).toNat)
  case atStart => exact ⟨0, _, rfl, Nat.zero_le _, rfl, Lib.hid (World.grownBy.refl _ _)⟩
  case round =>
    obtain ⟨i, z, rfl, hi1, rfl, hG⟩ := hrel
    by_cases hlt : i < n
    · have hltz : (i : Int) < (n : Int) := by omega
      obtain ⟨o, ho⟩ : ∃ o, L[i]? = some o := ⟨_, List.getElem?_eq_getElem (by have := hn.out; omega)⟩
      obtain ⟨b, off, da, dc, a1, c1, a2, c2, a3, c3, rfl, hc, _, _, _, _⟩ := h4.out i o ho
      have d0 : wr.cell? ⟨b, off + i * 10, none⟩ = some (.int .i64 o.kind) := hG.out.cell (hc 0 _ rfl) (by simp)
      have d1 : wr.cell? ⟨b, off + i * 10 + 1, none⟩ = some (.string o.name) := hG.out.cell (hc 1 _ rfl) (by simp)
      have d2 : wr.cell? ⟨b, off + i * 10 + 2, none⟩ = some (.string o.dest) := hG.out.cell (hc 2 _ rfl) (by simp)
      have d3 : wr.cell? ⟨b, off + i * 10 + 3, none⟩ = some (.slice da o.data.length dc) := hG.out.cell (hc 3 _ rfl) (by simp)
      have d4 : wr.cell? ⟨b, off + i * 10 + 4, none⟩ = some (.int .i64 o.n) := hG.out.cell (hc 4 _ rfl) (by simp)
      have d5 : wr.cell? ⟨b, off + i * 10 + 5, none⟩ = some (.int .i64 o.plan.crash) := hG.out.cell (hc 5 _ rfl) (by simp)
      have d6 : wr.cell? ⟨b, off + i * 10 + 6, none⟩ = some (.slice a1 o.plan.keep.length c1) := hG.out.cell (hc 6 _ rfl) (by simp)
      have d7 : wr.cell? ⟨b, off + i * 10 + 7, none⟩ = some (.slice a2 o.plan.fail.length c2) := hG.out.cell (hc 7 _ rfl) (by simp)
      have d8 : wr.cell? ⟨b, off + i * 10 + 8, none⟩ = some (.slice a3 o.plan.full.length c3) := hG.out.cell (hc 8 _ rfl) (by simp)
      have d9 : wr.cell? ⟨b, off + i * 10 + 9, none⟩ = some (.int .i64 o.plan.room) := hG.out.cell (hc 9 _ rfl) (by simp)
      generalize o.data.length = n0 at *
      generalize o.plan.keep.length = n1 at *
      generalize o.plan.fail.length = n2 at *
      generalize o.plan.full.length = n3 at *
      generalize o.name = nm at *
      generalize o.dest = nt at *
      generalize o.kind = kd at *
      generalize o.n = nn at *
      generalize o.plan.crash = cr at *
      generalize o.plan.room = rm at *
      have gB := World.grownBy_alloc wr (.cells #[.int .i64 kd, .string nm, .string nt, .slice da n0 dc, .int .i64 nn, .int .i64 cr, .slice a1 n1 c1, .slice a2 n2 c2, .slice a3 n3 c3, .int .i64 rm] 34) none
      have hG2 := Lib.hid (hG.out.trans gB)
      clear ho hc gB hG
      go_wp2_with fail
      exact ⟨⟨i + 1, _, by go_num, by omega, rfl, hG2⟩, by simp [RowKit.intOf]; omega⟩
    · obtain rfl : n = i := by omega
      go_wp2
      go_ret
      exact ⟨_, rfl, hG.out⟩
end Go.Proofs.YtafcgjbafihniaaGreat
