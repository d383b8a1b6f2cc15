/-
  LAYER 1 (fs): lecternlaw01's made: both, behind operations.
-/
import Derived.Test.YtafcgjbafihniaaGreatFA23
import Derived.Test.YtafcgjbafihniaaGreatFA19
import Derived.Test.YtafcgjbafihniaaGreatFA04
import Derived.Test.YtafcgjbafihniaaGreatFA07
import Derived.Test.YtafcgjbafihniaaGreatFA11
import Derived.Test.YtafcgjbafihniaaGreatFA05
import Derived.Lib.SlBytesConst
namespace Go.Proofs.YtafcgjbafihniaaGreat
set_option maxRecDepth 100000
open Go.RowKit Go.Lib
attribute [local go_sem] Oper.semAt_some

/-- A plan that came in. -/
def PlanR (W : World) (v : Value) (p : Pl) : Prop := ∃ a1 c1 a2 c2 a3 c3, v = .agg #[.int .i64 p.crash, .slice a1 p.keep.length c1, .slice a2 p.fail.length c2, .slice a3 p.full.length c3, .int .i64 p.room] ∧ planFits p ∧
  Ints W (.slice a1 p.keep.length c1) p.keep ∧ Ints W (.slice a2 p.fail.length c2) p.fail ∧ Ints W (.slice a3 p.full.length c3) p.full
/-- What both are behind operations. -/
structure Made (w : World) (L : List OpP) (p : Pl) (W : World) (f q : Nat) (F R : Nat → Prop) : Prop where
  both : Both (fun _ => False) F R W f q (L.foldl RefP.op (RefP.new p)) (L.foldl RefP.op (RefP.new p))
  inv : RInv L.length (L.foldl RefP.op (RefP.new p))
  grown : w.grownBy W none
  fl : ∀ k, F k → w.heap.size ≤ k
  rl : ∀ k, R k → w.heap.size ≤ k
theorem Made.step {w W W' : World} {L : List OpP} {o : OpP} {p : Pl} {f q : Nat} {F R : Nat → Prop} (M : Made w L p W f q F R) (ho : o.Fits) (S : Stepped (fun _ => False) F R W f q ((L.foldl RefP.op (RefP.new p)).op o) W') : ∃ F' R', Made w (L ++ [o]) p W' f q F' R' := by
  obtain ⟨F', R', H, g, h1, h2⟩ := S
  have hs := M.grown.size
  have e : (L ++ [o]).foldl RefP.op (RefP.new p) = (L.foldl RefP.op (RefP.new p)).op o := by rw [List.foldl_append]; rfl
  refine ⟨F', R', ?_, ?_, ?_, fun k hk => ?_, fun k hk => ?_⟩
  · rw [e]
    exact H
  · rw [e, List.length_append]
    exact M.inv.op o ho
  · exact grown_gp M.grown g (fun k hk => hk.elim (M.fl k) (M.rl k))
  · rcases h1 k hk with h | h
    · exact M.fl k h
    · omega
  · rcases h2 k hk with h | h
    · exact M.rl k h
    · omega
theorem Made.new {w W W' : World} {L : List OpP} {p : Pl} {f q : Nat} {F R : Nat → Prop} (M : Made w L p W f q F R) (g : W.grownBy W' none) : Made w L p W' f q F R :=
  ⟨M.both.new g, M.inv, M.grown.trans g, M.fl, M.rl⟩
/-- One operation more. -/
theorem Made.do {w W : World} {L M : List OpP} {o : OpP} {p : Pl} {f q : Nat} {F R : Nat → Prop} {v : Value} {j : Nat} (H : Made w M p W f q F R) (hO : ∃ da dc a1 c1 a2 c2 a3 c3, v = .agg (opCells o.kind o.name o.dest (.slice da o.data.length dc) o.n o.plan.crash (.slice a1 o.plan.keep.length c1) (.slice a2 o.plan.fail.length c2) (.slice a3 o.plan.full.length c3) o.plan.room) ∧ ReadsF w (.slice da o.data.length dc) o.data ∧ Ints w (.slice a1 o.plan.keep.length c1) o.plan.keep ∧ Ints w (.slice a2 o.plan.fail.length c2) o.plan.fail ∧ Ints w (.slice a3 o.plan.full.length c3) o.plan.full) (ho : o.Fits) (hN : M.length ≤ 2199023255552) :
    Calls Tryz.prog 14 #[.pointer (some ⟨f, 0, none⟩), .pointer (some ⟨q, 0, none⟩), v] W fun e w' => e = .returned (.bool true) ∧ ∃ F' R', Made w (M ++ [o]) p w' f q F' R' := by
  obtain ⟨da, dc, a1, c1, a2, c2, a3, c3, rfl, k1, k2, k3, k4⟩ := hO
  refine (do_any o _ H.both H.inv hN ho ⟨da, dc, _, _, _, rfl, fun W' g => ?_⟩).mono ?_
  · have g2 := grown_gp H.grown g (fun k hk => hk.elim (H.fl k) (H.rl k))
    exact ⟨k1.more g2, k2.all g2, k3.all g2, k4.all g2⟩
  · rintro e w' ⟨rfl, S⟩
    exact ⟨rfl, H.step ho S⟩

set_option maxHeartbeats 8000000 in
theorem made_any (pv v : Value) (p : Pl) (L : List OpP) (w : World) (hp : PlanR w pv p) (h : OpsR w v L) :
    Calls Tryz.prog 16 #[pv, v] w fun e w' => ∃ f q F R, e = .returned (.tuple #[.pointer (some ⟨f, 0, none⟩), .pointer (some ⟨q, 0, none⟩), .bool true]) ∧ Made w L p w' f q F R := by
  obtain ⟨a1, c1, a2, c2, a3, c3, rfl, pf, i1, i2, i3⟩ := hp
  obtain ⟨a, c, rfl, hm, hfit, h4⟩ := h
  obtain ⟨n, hn⟩ : ∃ n, n = L.length := ⟨_, rfl⟩
  rw [← hn] at hm ⊢
  obtain ⟨n1, hn1⟩ : ∃ n, n = p.keep.length := ⟨_, rfl⟩
  obtain ⟨n2, hn2⟩ : ∃ n, n = p.fail.length := ⟨_, rfl⟩
  obtain ⟨n3, hn3⟩ : ∃ n, n = p.full.length := ⟨_, rfl⟩
  rw [← hn1] at i1 ⊢
  rw [← hn2] at i2 ⊢
  rw [← hn3] at i3 ⊢
  obtain ⟨W0, hW0⟩ : ∃ W0, W0 = w.alloc (.cells #[.int .i64 p.crash, .slice a1 n1 c1, .slice a2 n2 c2, .slice a3 n3 c3, .int .i64 p.room] 24) := ⟨_, rfl⟩
  have gB : w.grownBy W0 none := by rw [hW0]; exact World.grownBy_alloc w _ none
  have P0 : PlanAt W0 w.heap.size (.int .i64 p.crash) (.slice a1 n1 c1) (.slice a2 n2 c2) (.slice a3 n3 c3) (.int .i64 p.room) := by rw [hW0]; exact World.alloc_heap_new w _
  have gd := gdrew (World.grownBy.refl W0 none)
  have g0d := gB.trans gd
  have P1 := P0.kept gd (by simp)
  have hS : Hid (∀ V, W0.drew.grownBy V none → V.cell? ⟨w.heap.size, 0, none⟩ = some (.int .i64 p.crash) ∧ V.cell? ⟨w.heap.size, 1, none⟩ = some (.slice a1 n1 c1) ∧ V.cell? ⟨w.heap.size, 2, none⟩ = some (.slice a2 n2 c2) ∧ V.cell? ⟨w.heap.size, 3, none⟩ = some (.slice a3 n3 c3) ∧ V.cell? ⟨w.heap.size, 4, none⟩ = some (.int .i64 p.room)) := Lib.hid fun V g => by
    have P2 := P1.kept g (by simp)
    exact ⟨P2.c0, P2.c1, P2.c2, P2.c3, P2.c4⟩
  have hnew := FsSim.new (.slice a1 n1 c1) (.slice a2 n2 c2) (.slice a3 n3 c3) p W0.drew (i1.all g0d) (i2.all g0d) (i3.all g0d) pf
  have hrnew : Hid (∀ V, W0.drew.grownBy V none → Calls Tryz.prog 13 #[.agg #[.int .i64 p.crash, .slice a1 n1 c1, .slice a2 n2 c2, .slice a3 n3 c3, .int .i64 p.room]] V fun e w' => ∃ q r, e = .returned (.pointer (some ⟨q, 0, none⟩)) ∧ RefOk (fun _ => False) (fun k => V.heap.size ≤ k ∧ k < w'.heap.size) w' q (RefP.new p) r [] ∧ V.grownBy w' none) := Lib.hid fun V g => by
    have g2 := g0d.trans g
    exact rnew_any _ _ _ p V (i1.all g2) (i2.all g2) (i3.all g2) pf.1 pf.2.1 pf.2.2.1
  have s0 := hS.out _ (World.grownBy.refl _ none)
  replace g0d := Lib.hid g0d
  have hops : Hid (∀ (j : Nat) (o : OpP), L[j]? = some o → ∃ b off da dc a1 c1 a2 c2 a3 c3, a = some ⟨b, off, none⟩ ∧
    (∀ W, w.grownBy W none → W.cell? ⟨b, off + j * 10, none⟩ = some (.int .i64 o.kind) ∧ W.cell? ⟨b, off + j * 10 + 1, none⟩ = some (.string o.name) ∧ W.cell? ⟨b, off + j * 10 + 2, none⟩ = some (.string o.dest) ∧ W.cell? ⟨b, off + j * 10 + 3, none⟩ = some (.slice da o.data.length dc) ∧ W.cell? ⟨b, off + j * 10 + 4, none⟩ = some (.int .i64 o.n) ∧
      W.cell? ⟨b, off + j * 10 + 5, none⟩ = some (.int .i64 o.plan.crash) ∧ W.cell? ⟨b, off + j * 10 + 6, none⟩ = some (.slice a1 o.plan.keep.length c1) ∧ W.cell? ⟨b, off + j * 10 + 7, none⟩ = some (.slice a2 o.plan.fail.length c2) ∧ W.cell? ⟨b, off + j * 10 + 8, none⟩ = some (.slice a3 o.plan.full.length c3) ∧ W.cell? ⟨b, off + j * 10 + 9, none⟩ = some (.int .i64 o.plan.room)) ∧
    ReadsF w (.slice da o.data.length dc) o.data ∧ Ints w (.slice a1 o.plan.keep.length c1) o.plan.keep ∧ Ints w (.slice a2 o.plan.fail.length c2) o.plan.fail ∧ Ints w (.slice a3 o.plan.full.length c3) o.plan.full) := Lib.hid fun j o ho => by
    obtain ⟨b, off, da, dc, a1, c1, a2, c2, a3, c3, e, hc, k1, k2, k3, k4⟩ := h4 j o ho
    exact ⟨b, off, da, dc, a1, c1, a2, c2, a3, c3, e, fun W g => ⟨g.cell (hc 0 _ rfl) (by simp), g.cell (hc 1 _ rfl) (by simp), g.cell (hc 2 _ rfl) (by simp), g.cell (hc 3 _ rfl) (by simp), g.cell (hc 4 _ rfl) (by simp), g.cell (hc 5 _ rfl) (by simp), g.cell (hc 6 _ rfl) (by simp), g.cell (hc 7 _ rfl) (by simp), g.cell (hc 8 _ rfl) (by simp), g.cell (hc 9 _ rfl) (by simp)⟩, k1, k2, k3, k4⟩
  replace hn := Lib.hid hn
  replace hn1 := Lib.hid hn1
  replace hn2 := Lib.hid hn2
  replace hn3 := Lib.hid hn3
  replace hfit := Lib.hid hfit
  have hpf := Lib.hid pf
  clear gB P0 P1 gd i1 i2 i3 h4 pf
  go_enter Tryz.func16, Tryz.ntmps16
  go_upto_region 1 with fail
  rw [← hW0]
  replace hW0 := Lib.hid hW0
  refine wp_region_held_drew (S := fun V => V.cell? ⟨w.heap.size, 0, none⟩ = some (.int .i64 p.crash) ∧ V.cell? ⟨w.heap.size, 1, none⟩ = some (.slice a1 n1 c1) ∧ V.cell? ⟨w.heap.size, 2, none⟩ = some (.slice a2 n2 c2) ∧ V.cell? ⟨w.heap.size, 3, none⟩ = some (.slice a3 n3 c3) ∧ V.cell? ⟨w.heap.size, 4, none⟩ = some (.int .i64 p.room)) (by kernel_rfl) s0 (fun hS0 => ?_)
  refine wpAnyH_take (i := 0) (oi := ⟨some 11, _, _, _, _, _⟩) (v := ?_) rfl (by kernel_rfl) (by kernel_rfl) (by kernel_rfl) (fun _ _ _ h => h) (Or.inl ⟨by rfl, ?_⟩) (by assumption) ?_
  rotate_left
  · (intro w hSw; (try dsimp only at hSw); go_simp; try with_reducible rfl)
  try simp only [Act.put, List.setIfInBounds_toArray, List.set_cons_zero, List.set_cons_succ]
  refine wpAnyH_take (i := 2) (oi := ⟨some 13, _, _, _, _, _⟩) (v := ?_) rfl (by kernel_rfl) (by kernel_rfl) (by kernel_rfl) (fun _ _ _ h => h) (Or.inl ⟨by rfl, ?_⟩) (by assumption) ?_
  rotate_left
  · (intro w hSw; (try dsimp only at hSw); go_simp; try with_reducible rfl)
  try simp only [Act.put, List.setIfInBounds_toArray, List.set_cons_zero, List.set_cons_succ]
  refine wpAnyH_ready (rs := [1]) (by kernel_rfl) (by simp) ?_
  refine AllReadyH.cons rfl (fun K hK => ?_) AllReadyH.nil
  go_simp
  refine hnew.mono ?_
  clear hnew
  rintro e w1 ⟨f, rfl, S1, g1⟩
  have hr2 := hrnew.out w1 g1
  refine hK.out _ _ (hS.out _ g1) (fun _ => ?_)
  clear hK
  refine wpAnyH_ready (rs := [3]) (by kernel_rfl) (by simp) ?_
  refine AllReadyH.cons rfl (fun K hK => ?_) AllReadyH.nil
  go_simp
  refine hr2.mono ?_
  clear hr2
  rintro e w2 ⟨q, r, rfl, S2, g2⟩
  have g12 := g1.trans g2
  have M0 : Hid (∃ F R, Made w [] p w2 f q F R) := Lib.hid (by
    have hs1 := g1.size
    have hs0 := g0d.out.size
    refine ⟨fun k => W0.drew.heap.size ≤ k ∧ k < w1.heap.size, fun k => w1.heap.size ≤ k ∧ k < w2.heap.size, ⟨?_, ⟨_, _, S2⟩, fun k hk => Nat.lt_of_lt_of_le hk.2 g2.size, fun k hk => hk.2, fun k h1 h2 => by omega, fun _ h => h.elim, fun _ _ h => h⟩, RInv.new p hpf.out, g0d.out.trans g12, fun k hk => by omega, fun k hk => by omega⟩
    exact (S1.re (m0 := fun k => W0.drew.heap.size ≤ k ∧ k < w1.heap.size) (fun k h1 h2 => ⟨h2, h1⟩)).kept (P := fun _ => False) (GP.of g2 (by simp)) (fun _ h => h.elim))
  refine hK.out _ _ (hS.out _ g12) (fun _ => ?_)
  clear hK S1 S2 g1 g2 g12
  refine wpAnyH_take (i := 4) (oi := ⟨some 7, _, _, _, _, _⟩) (v := ?_) rfl (by kernel_rfl) (by kernel_rfl) (by kernel_rfl) (fun _ _ _ h => h) (Or.inl ⟨by rfl, ?_⟩) (by assumption) ?_
  rotate_left
  · (intro w hSw; (try dsimp only at hSw); go_simp; try with_reducible rfl)
  try simp only [Act.put, List.setIfInBounds_toArray, List.set_cons_zero, List.set_cons_succ]
  refine wpAnyH_take (i := 5) (oi := ⟨some 8, _, _, _, _, _⟩) (v := ?_) rfl (by kernel_rfl) (by kernel_rfl) (by kernel_rfl) (fun _ _ _ h => h) (Or.inl ⟨by rfl, ?_⟩) (by assumption) ?_
  rotate_left
  · (intro w hSw; (try dsimp only at hSw); go_simp; try with_reducible rfl)
  try simp only [Act.put, List.setIfInBounds_toArray, List.set_cons_zero, List.set_cons_succ]
  refine wpAnyH_done (by kernel_rfl) ?_ _
  go_wp2_with fail
  go_loopw [10, 19] (fun _ vi wr => ∃ (j : Nat), vi = .int .i64 (j : Int) ∧ j ≤ n ∧ Hid (∃ F R, Made w (L.take j) p wr f q F R)) (fun _ vi _ => n - (RowKit.intOf vi).toNat)
  case atStart => exact ⟨0, rfl, Nat.zero_le _, M0⟩
  case round =>
    obtain ⟨j, rfl, hj, hM⟩ := hrel
    by_cases hlt : j < n
    · have hltz : (j : Int) < (n : Int) := by omega
      obtain ⟨o, ho⟩ : ∃ o, L[j]? = some o := ⟨_, List.getElem?_eq_getElem (by have := hn.out; omega)⟩
      obtain ⟨b, off, da, dc, b1, e1, b2, e2, b3, e3, rfl, hc, k1, k2, k3, k4⟩ := hops.out j o ho
      obtain ⟨F, R, M⟩ := hM.out
      obtain ⟨d0, d1, d2, d3, d4, d5, d6, d7, d8, d9⟩ := hc wr M.grown
      have ht : L.take (j + 1) = L.take j ++ [o] := by
        obtain ⟨q1, q2⟩ := List.getElem?_eq_some_iff.1 ho
        rw [List.take_succ_eq_append_getElem q1, q2]
      have gX := World.grownBy_alloc wr (.cells (opCells o.kind o.name o.dest (.slice da o.data.length dc) o.n o.plan.crash (.slice b1 o.plan.keep.length e1) (.slice b2 o.plan.fail.length e2) (.slice b3 o.plan.full.length e3) o.plan.room) 34) none
      have hdo := (M.new gX).do (L := L) (j := j) (o := o) ⟨da, dc, b1, e1, b2, e2, b3, e3, rfl, k1, k2, k3, k4⟩ (hfit.out o (List.mem_of_getElem? ho)) (by rw [List.length_take]; have := hn.out; omega)
      rw [← ht] at hdo
      unfold opCells at hdo
      have nl := o.data.length
      generalize o.data.length = l0 at *
      generalize o.plan.keep.length = l1 at *
      generalize o.plan.fail.length = l2 at *
      generalize o.plan.full.length = l3 at *
      generalize o.name = nm at *
      generalize o.dest = nt at *
      generalize o.kind = kd at *
      generalize o.n = on at *
      generalize o.plan.crash = cr at *
      generalize o.plan.room = rm at *
      clear ho hc k1 k2 k3 k4 M gX ht hM
      go_wp2_with (go_at_call 14
                   refine hdo.mono ?_
                   clear hdo
                   rintro e w5 ⟨rfl, hM2⟩
                   have HM := Lib.hid hM2
                   clear hM2)
      exact ⟨⟨j + 1, by go_num, by omega, HM⟩, by simp [RowKit.intOf]; omega⟩
    · obtain rfl : j = n := by omega
      obtain ⟨F, R, M⟩ := hM.out
      rw [hn.out, List.take_length] at M
      have FF := Lib.hid M
      clear M hM
      go_wp2
      go_ret3
      exact ⟨f, q, F, R, rfl, FF.out⟩
end Go.Proofs.YtafcgjbafihniaaGreat

/-
  LAYER 1 (fs): Read in every case.
-/
namespace Go.Proofs.YtafcgjbafihniaaGreat
set_option maxRecDepth 100000
open Go.RowKit Go.Lib
attribute [local go_sem] Oper.semAt_some

section
variable {n0 : Nat → Prop} {w : World} {q : Nat} {dead : Bool} {p : PlV} {pl : Pl} {ops : Int} {d s : Nat} {mv : Value} {ld ls : DirL} {ml : List Mv} {fl A B' : List (Nat × FileV)} {b : Nat} {f : FileV}
/-- Where Size answers an error. -/
theorem read_err (nm : ByteArray) (at' n x : Int) (po : Option Addr) (w : World) (hx : (x == 0) = false) (hs : Calls Tryz.prog 19 #[.pointer po, .string nm] w fun e w' => e = .returned (.tuple #[.int .i64 0, .int .i64 x]) ∧ w = w') :
    Calls Tryz.prog 17 #[.pointer po, .string nm, .int .i64 at', .int .i64 n] w fun e w' => e = .returned (.tuple #[.slice none 0 0, .int .i64 x]) ∧ w = w' := by
  go_enter Tryz.func17, Tryz.ntmps17
  go_wp2_with (go_at_call 19; refine hs.mono ?_; rintro e w' ⟨rfl, rfl⟩)
  go_ret2
  exact ⟨rfl, rfl⟩

set_option maxHeartbeats 2000000 in
theorem read_range (nm : ByteArray) (at' n : Int) (h : FsOk n0 w q false p pl ops d s mv ld ls ml (A ++ (b, f) :: B')) (hs : nm.size ≤ maxLen) (hl : ld.look nm.data.toList = some b) (hdl : f.data.length ≤ 268435456) (h9 : n ≤ 9223372036854775807) (ha9 : at' ≤ 9223372036854775807) (hr : at' < 0 ∨ n < 0 ∨ (f.data.length : Int) - at' < n) :
    Calls Tryz.prog 17 #[.pointer (some ⟨q, 0, none⟩), .string nm, .int .i64 at', .int .i64 n] w fun e w' => e = .returned (.tuple #[.slice none 0 0, .int .i64 1]) ∧ w = w' := by
  have hsz := size_some nm ld w h.fs h.dir hs b hl f h.fileq.1
  unfold sizeOf at hsz
  dsimp only at hsz
  obtain ⟨k, hk⟩ : ∃ n, n = f.data.length := ⟨_, rfl⟩
  rw [← hk] at hsz hdl hr
  clear hk
  have key : at' < 0 ∨ (0 ≤ at' ∧ n < 0) ∨ (0 ≤ at' ∧ 0 ≤ n ∧ (k : Int) - at' < n) := by omega
  rcases key with h1 | ⟨h1, h2⟩ | ⟨h1, h2, h3⟩
  all_goals
    go_enter Tryz.func17, Tryz.ntmps17
    go_wp2_with (go_at_call 19; refine hsz.mono ?_; rintro e w' ⟨rfl, rfl⟩)
    go_ret2
    exact ⟨rfl, rfl⟩

set_option maxHeartbeats 4000000 in
theorem read_ok (nm : ByteArray) (a n : Nat) (h : FsOk n0 w q false p pl ops d s mv ld ls ml (A ++ (b, f) :: B')) (hs : nm.size ≤ maxLen) (hl : ld.look nm.data.toList = some b) (hdl : f.data.length ≤ 268435456) (hr : a + n ≤ f.data.length) :
    Calls Tryz.prog 17 #[.pointer (some ⟨q, 0, none⟩), .string nm, .int .i64 (a : Int), .int .i64 (n : Int)] w fun e w' => ∃ v, e = .returned (.tuple #[v, .int .i64 0]) ∧ Owns w' w.heap.size 5 v ((f.data.drop a).take n) ∧ w.grownBy w' none := by
  have hsz := size_some nm ld w h.fs h.dir hs b hl f h.fileq.1
  unfold sizeOf at hsz
  dsimp only at hsz
  have hx := h.fs.dir
  have hlk := h.dir.lookup nm hs
  rw [hl] at hlk
  unfold ptrV at hlk
  have hfa := h.fileq.1
  have c1 := hfa.c1
  have hrd := hfa.2.2.1.reads
  have hcopy := fun a' l' c' bs hr' hl' => fcopied_any a' l' c' bs w hr' hl'
  rcases hrd with ⟨hdv, hnil⟩ | ⟨g, off, dc, hdv, hcap, hcm, hcells⟩
  · have hz : a = 0 ∧ n = 0 := by rw [hnil] at hr; simp at hr; omega
    obtain ⟨rfl, rfl⟩ := hz
    rw [hdv] at c1
    have hcp := hcopy none 0 0 [] (.inl ⟨rfl, rfl⟩) (by simp)
    rw [hnil] at hsz ⊢
    clear hcopy hfa hnil hdv hr hdl
    go_enter Tryz.func17, Tryz.ntmps17
    go_wp2_with (first | (go_at_call 19; refine hsz.mono ?_; rintro e w' ⟨rfl, rfl⟩) | (go_at_call 51; refine hcp.mono ?_; rintro e w' ⟨v, rfl, ho, hg⟩))
    go_ret2
    exact ⟨_, rfl, ho, hg⟩
  · have hrd : Reads w (.slice (some ⟨g, off, none⟩) f.data.length dc) f.data := .inr ⟨g, off, dc, rfl, hcap, hcm, hcells⟩
    rw [hdv] at c1
    have hcut := hrd.cut a n hr
    have hlen : ((f.data.drop a).take n).length = n := by simp; omega
    obtain ⟨k, hk⟩ : ∃ n, n = f.data.length := ⟨_, rfl⟩
    obtain ⟨X, hX⟩ : ∃ X, X = (f.data.drop a).take n := ⟨_, rfl⟩
    rw [← hX] at hcut hlen ⊢
    rw [← hk] at hsz hdl hr c1 hcap
    unfold maxLen at hcm
    clear hX hrd hdv hk hcells hfa
    by_cases hda : a < dc
    · have hcp := hcopy (some ⟨g, off + a, none⟩) n (dc - a) X (by by_cases ha : a = 0 <;> simpa [Addr.add, ha] using hcut) (by omega)
      clear hcopy hcut hlen
      go_enter Tryz.func17, Tryz.ntmps17
      go_wp2_with (first | (go_at_call 19; refine hsz.mono ?_; rintro e w' ⟨rfl, rfl⟩) | (go_at_call 51; refine hcp.mono ?_; rintro e w' ⟨v, rfl, ho, hg⟩))
      go_ret2
      exact ⟨_, rfl, ho, hg⟩
    · have hz : a = dc ∧ n = 0 := by omega
      obtain ⟨rfl, rfl⟩ := hz
      have hXn : X = [] := List.length_eq_zero_iff.1 hlen
      subst hXn
      have hcp := hcopy (some ⟨g, off, none⟩) 0 0 [] (.inr ⟨g, off, 0, rfl, by simp, by unfold maxLen; omega, fun i u hu => by simp at hu⟩) (by simp)
      clear hcopy hcut hlen
      go_enter Tryz.func17, Tryz.ntmps17
      go_wp2_with (first | (go_at_call 19; refine hsz.mono ?_; rintro e w' ⟨rfl, rfl⟩) | (go_at_call 51; refine hcp.mono ?_; rintro e w' ⟨v, rfl, ho, hg⟩))
      go_ret2
      exact ⟨_, rfl, ho, hg⟩
end
end Go.Proofs.YtafcgjbafihniaaGreat

/-
  LAYER 1 (fs): the reference's Read; the program's Read and Size as the plain file system has them.
-/
namespace Go.Proofs.YtafcgjbafihniaaGreat
set_option maxRecDepth 100000
variable {DX : Nat → Prop}
open Go.RowKit Go.Lib
attribute [local go_sem] Oper.semAt_some

section
variable {R : Nat → Prop} {w : World} {q : Nat} {a : RefP}
set_option maxHeartbeats 8000000 in
theorem rread_any {r : RefV} {vs : List (Value × Value)} (s : ByteArray) (i n : Int) (h : RefOk DX R w q a r vs) (F : a.Fits) (hdir : a.dir.length ≤ 65536) (hdl : ∀ x j, a.dir.look x = some j → j < a.nodes.length) (hbig : ∀ n ∈ a.nodes, n.data.length ≤ 268435456) (hi9 : i ≤ 9223372036854775807) (hn9 : n ≤ 9223372036854775807) :
    Calls Tryz.prog 18 #[.pointer (some ⟨q, 0, none⟩), .string s, .int .i64 i, .int .i64 n] w fun e w' => ∃ v, e = .returned (.tuple #[v, .int .i64 (a.read s i n).2]) ∧ Reads w' v (a.read s i n).1 ∧ w.grownBy w' none := by
  have c6 := h.at_.c6
  rw [h.died] at c6
  have hno := node_any q r a.dir s w h.at_ h.rows.rd.1 (by omega)
  unfold RefP.read
  by_cases hd : a.died = true
  · rw [if_pos hd]
    rw [hd] at c6
    clear h hno
    go_enter Tryz.func18, Tryz.ntmps18
    go_wp2
    go_ret2
    exact ⟨_, rfl, .inl ⟨rfl, rfl⟩, World.grownBy.refl _ _⟩
  · rw [if_neg hd]
    have hdf : a.died = false := by simpa using hd
    rw [hdf] at c6
    cases hlk : a.dir.look s.data.toList with
    | none =>
      dsimp only
      rw [hlk, show ptrN none = -1 from rfl] at hno
      clear h hd hdf hlk
      go_enter Tryz.func18, Tryz.ntmps18
      go_wp2_with (go_at_call 52; refine hno.mono ?_; clear hno; rintro e w2 ⟨rfl, g2⟩)
      go_ret2
      exact ⟨_, rfl, .inl ⟨rfl, rfl⟩, g2⟩
    | some jn =>
      dsimp only
      rw [hlk, show ptrN (some jn) = (jn : Int) from rfl] at hno
      have hj0 : ((jn : Int) < 0) = False := by simp
      have hjl := hdl _ _ hlk
      have hdb := hbig _ (RefP.file_mem hjl)
      have HN : Hid (∀ W, w.grownBy W none → ∃ gn nvc sv cv, W.cell? ⟨q, 7, none⟩ = some (.slice (some ⟨gn, 0, none⟩) a.nodes.length nvc) ∧ W.cell? ⟨gn, jn * 2, none⟩ = some sv ∧ W.cell? ⟨gn, jn * 2 + 1, none⟩ = some cv ∧
        Calls Tryz.prog 53 #[.agg #[sv, cv]] W fun e w' => ∃ x c, e = .returned (.slice x (a.file jn).data.length c) ∧ Owns w' W.heap.size 5 (.slice x (a.file jn).data.length c) (a.file jn).data ∧ W.grownBy w' none) := Lib.hid fun W g => by
        have hR : RAny DX R w q a w := ⟨r, vs, h.weak (fun _ hk => .inl hk), GP.refl _ _⟩
        exact (hR.new g).data F hjl
      obtain ⟨D, hD⟩ : ∃ D, D = (a.file jn).data := ⟨_, rfl⟩
      rw [← hD] at HN hdb ⊢
      obtain ⟨dl, hdl2⟩ : ∃ dl, dl = D.length := ⟨_, rfl⟩
      rw [← hdl2] at HN hdb ⊢
      obtain ⟨nl, hnl⟩ : ∃ nl, nl = a.nodes.length := ⟨_, rfl⟩
      rw [← hnl] at hjl HN
      have hjz : (jn : Int) < (nl : Int) := by omega
      replace hnl := Lib.hid hnl
      replace hdl2 := Lib.hid hdl2
      replace hD := Lib.hid hD
      clear h hd hdf hlk hdl F hbig
      by_cases k1 : i < 0 ∨ n < 0 ∨ (dl : Int) < i ∨ (dl : Int) - i < n
      · rw [if_pos k1]
        have key : i < 0 ∨ (0 ≤ i ∧ n < 0) ∨ (0 ≤ i ∧ 0 ≤ n ∧ (dl : Int) < i) ∨ (0 ≤ i ∧ 0 ≤ n ∧ i ≤ (dl : Int) ∧ (dl : Int) - i < n) := by omega
        clear k1
        rcases key with q1 | ⟨q1, q2⟩ | ⟨q1, q2, q3⟩ | ⟨q1, q2, q3, q4⟩
        all_goals
          go_enter Tryz.func18, Tryz.ntmps18
          go_wp2_with first
            | (go_at_call 52
               refine hno.mono ?_
               clear hno
               rintro e w2 ⟨rfl, g2⟩
               obtain ⟨gn, nvc, sv, cv, e7, e0, e1, hda⟩ := HN.out w2 g2)
            | (go_at_call 53
               refine hda.mono ?_
               clear hda
               rintro e w3 ⟨x3, c3, rfl, o3, g3⟩
               have gF := Lib.hid (g2.trans g3)
               clear g3 o3 e7 e0 e1 g2)
          go_ret2
          exact ⟨_, rfl, .inl ⟨rfl, rfl⟩, gF.out⟩
      · rw [if_neg k1]
        obtain ⟨i', rfl⟩ : ∃ m : Nat, i = (m : Int) := ⟨i.toNat, by omega⟩
        obtain ⟨m, rfl⟩ : ∃ m : Nat, n = (m : Int) := ⟨n.toNat, by omega⟩
        have k2 : i' + m ≤ dl := by omega
        clear k1 hi9 hn9
        rw [show ((i' : Int)).toNat = i' by simp, show ((m : Int)).toNat = m by simp]
        go_enter Tryz.func18, Tryz.ntmps18
        go_upto_region 7 with first
          | (go_at_call 52
             refine hno.mono ?_
             clear hno
             rintro e w2 ⟨rfl, g2⟩
             obtain ⟨gn, nvc, sv, cv, e7, e0, e1, hda⟩ := HN.out w2 g2)
          | (go_at_call 53
             refine hda.mono ?_
             clear hda
             rintro e w3 ⟨x3, c3, rfl, o3, g3⟩
             have gF := Lib.hid (g2.trans g3)
             have oF := Lib.hid o3
             clear g3 o3 e7 e0 e1 g2)
        have hrd : Reads w3 (.slice x3 dl c3) D := Owns.reads (World.ownsRow.mono oF.out (Nat.zero_le _))
        have hcut := hrd.cut i' m (by rw [← hdl2.out]; exact k2)
        have hlen : ((D.drop i').take m).length = m := by simp; have := hdl2.out; omega
        clear oF
        rcases hrd with ⟨hdv, hnil⟩ | ⟨g, off, dc, hdv, hcap, hcm, hcells⟩
        · simp at hdv
          obtain ⟨rfl, rfl, rfl⟩ := hdv
          have hz : i' = 0 ∧ m = 0 := by omega
          obtain ⟨rfl, rfl⟩ := hz
          have FF : Hid (Reads w3 (.slice none 0 0) ((D.drop 0).take 0)) := Lib.hid (.inl ⟨rfl, by simp⟩)
          clear hcut hlen k2 HN
          go_wp2_with fail
          go_ret2
          exact ⟨_, rfl, FF.out, gF.out⟩
        · simp at hdv
          obtain ⟨rfl, hdl9, rfl⟩ := hdv
          rw [← hdl9] at hcap
          unfold maxLen at hcm
          obtain ⟨X, hX⟩ : ∃ X, X = (D.drop i').take m := ⟨_, rfl⟩
          rw [← hX] at hcut hlen
          replace hdl9 := Lib.hid hdl9
          replace hX := Lib.hid hX
          clear hcells HN
          by_cases hda : i' < c3
          · have hc2 : Hid (Reads w3 (.slice (some ⟨g, off + i', none⟩) m (c3 - i')) X) := Lib.hid (by by_cases ha : i' = 0 <;> simpa [Addr.add, ha] using hcut)
            clear hcut hlen
            go_wp2_with fail
            go_ret2
            have hc3 := hc2.out
            rw [hX.out] at hc3
            have hc4 : Reads w3 (.slice (some ⟨g, off + i', none⟩) (i' + m - i') (c3 - i')) ((D.drop i').take m) := by rw [Nat.add_sub_cancel_left]; exact hc3
            exact ⟨_, rfl, hc4, gF.out⟩
          · have hz : i' = c3 ∧ m = 0 := by omega
            obtain ⟨rfl, rfl⟩ := hz
            have hXn : X = [] := List.length_eq_zero_iff.1 hlen
            have FF : Hid (Reads w3 (.slice (some ⟨g, off, none⟩) 0 0) ((D.drop i').take 0)) := Lib.hid (by
              rw [← hX.out, hXn]
              exact .inr ⟨g, off, 0, rfl, by simp, by unfold maxLen; omega, fun i u hu => by simp at hu⟩)
            clear hcut hlen hXn
            go_wp2_with fail
            go_ret2
            exact ⟨_, rfl, FF.out, gF.out⟩
end

section
variable {n0 : Nat → Prop} {w : World} {q : Nat} {a : RefP} {N : Nat}
theorem FsSim.size (S : FsSim n0 w q a) (I : RInv N a) (nm : ByteArray) (hs : nm.size ≤ maxLen) :
    Calls Tryz.prog 19 #[.pointer (some ⟨q, 0, none⟩), .string nm] w fun e w' => e = .returned (.tuple #[.int .i64 (a.size nm).1, .int .i64 (a.size nm).2]) ∧ w = w' := by
  obtain ⟨φ, p, d, s, mv, fl, h, hs2⟩ := S
  unfold RefP.size
  by_cases hd : a.died = true
  · rw [if_pos hd]
    rw [hd] at h
    exact size_dead nm w h.fs
  · rw [if_neg hd]
    have hdf : a.died = false := by simpa using hd
    rw [hdf] at h
    cases hl : a.dir.look nm.data.toList with
    | none => exact size_none nm _ w h.fs h.dir hs (look_none hl)
    | some j =>
      obtain ⟨f, h1, _, _, h3⟩ := hs2.file j (I.dirLive hl)
      have := size_some nm _ w h.fs h.dir hs (φ j) (look_some hl) f (h.files.1 _ h1)
      rw [h3] at this
      exact this
theorem FsSim.read (S : FsSim n0 w q a) (I : RInv N a) (nm : ByteArray) (hs : nm.size ≤ maxLen) (i n : Int) (hi9 : i ≤ 9223372036854775807) (hn9 : n ≤ 9223372036854775807) :
    Calls Tryz.prog 17 #[.pointer (some ⟨q, 0, none⟩), .string nm, .int .i64 i, .int .i64 n] w fun e w' => ∃ v, e = .returned (.tuple #[v, .int .i64 (a.read nm i n).2]) ∧ Reads w' v (a.read nm i n).1 ∧ w.grownBy w' none := by
  have hsz := S.size I nm hs
  have S0 := S
  obtain ⟨φ, p, d, s, mv, fl, h, hs2⟩ := S
  unfold RefP.size at hsz
  unfold RefP.read
  by_cases hd : a.died = true
  · rw [if_pos hd] at hsz ⊢
    refine (read_err nm i n 12 _ w (by decide) hsz).mono ?_
    rintro e w' ⟨rfl, rfl⟩
    exact ⟨_, rfl, .inl ⟨rfl, rfl⟩, World.grownBy.refl _ _⟩
  · rw [if_neg hd] at hsz ⊢
    have hdf : a.died = false := by simpa using hd
    rw [hdf] at h
    cases hl : a.dir.look nm.data.toList with
    | none =>
      rw [hl] at hsz
      refine (read_err nm i n 14 _ w (by decide) hsz).mono ?_
      rintro e w' ⟨rfl, rfl⟩
      exact ⟨_, rfl, .inl ⟨rfl, rfl⟩, World.grownBy.refl _ _⟩
    | some j =>
      dsimp only
      have hlv := I.dirLive hl
      obtain ⟨A, B, f, rfl, f1, f2, f3⟩ := hs2.at hlv
      have hdl : f.data.length ≤ 268435456 := by rw [f3]; exact (I.good _ (RefP.file_mem (I.liveLt hlv))).last
      rw [← f3]
      by_cases k1 : i < 0 ∨ n < 0 ∨ (f.data.length : Int) < i ∨ (f.data.length : Int) - i < n
      · rw [if_pos k1]
        refine (read_range nm i n h hs (look_some hl) hdl hn9 hi9 (by omega)).mono ?_
        rintro e w' ⟨rfl, rfl⟩
        exact ⟨_, rfl, .inl ⟨rfl, rfl⟩, World.grownBy.refl _ _⟩
      · rw [if_neg k1]
        obtain ⟨i', rfl⟩ : ∃ m : Nat, i = (m : Int) := ⟨i.toNat, by omega⟩
        obtain ⟨m, rfl⟩ : ∃ m : Nat, n = (m : Int) := ⟨n.toNat, by omega⟩
        refine (read_ok nm i' m h hs (look_some hl) hdl (by omega)).mono ?_
        rintro e w' ⟨v, rfl, ho, g⟩
        exact ⟨v, rfl, Owns.reads (World.ownsRow.mono ho (Nat.zero_le _)), g⟩
end
end Go.Proofs.YtafcgjbafihniaaGreat

/-
  LAYER 1 (fs): a file system that nobody made: nil, or the zero value.
-/
namespace Go.Proofs.YtafcgjbafihniaaGreat
set_option maxRecDepth 100000
open Go.RowKit Go.Lib
attribute [local go_sem] Oper.semAt_some

def NonePtr (W : World) (po : Option Addr) : Prop := po = none ∨ ∃ z, po = some ⟨z, 0, none⟩ ∧ W.cell? ⟨z, 0, none⟩ = some (.bool false)

theorem isMade_nobody (po : Option Addr) (w : World) (h : NonePtr w po) :
    Calls Tryz.prog 54 #[.pointer po] w fun e w' => e = .returned (.bool false) ∧ w = w' := by
  rcases h with rfl | ⟨z, rfl, h0⟩
  · go_enter Tryz.func54, Tryz.ntmps54
    go_wp2
    go_ret
    exact ⟨rfl, rfl⟩
  · go_enter Tryz.func54, Tryz.ntmps54
    go_wp2
    go_ret
    exact ⟨rfl, rfl⟩
theorem dead_nobody (po : Option Addr) (w : World) (h : NonePtr w po) :
    Calls Tryz.prog 21 #[.pointer po] w fun e w' => e = .returned (.bool true) ∧ w = w' := by
  have hm := isMade_nobody po w h
  clear h
  go_enter Tryz.func21, Tryz.ntmps21
  go_wp2_with (go_at_call 54; refine hm.mono ?_; rintro e w' ⟨rfl, rfl⟩)
  go_ret
  exact ⟨rfl, rfl⟩
theorem begin_nobody (po : Option Addr) (w : World) (h : NonePtr w po) :
    Calls Tryz.prog 57 #[.pointer po] w fun e w' => e = .returned (.int .i64 12) ∧ w = w' := by
  have hm := dead_nobody po w h
  clear h
  go_enter Tryz.func57, Tryz.ntmps57
  go_wp2_with (go_at_call 21; refine hm.mono ?_; rintro e w' ⟨rfl, rfl⟩)
  go_ret
  exact ⟨rfl, rfl⟩

theorem create_nobody (nm : ByteArray) (po : Option Addr) (w : World) (h : NonePtr w po) :
    Calls Tryz.prog 31 #[.pointer po, .string nm] w fun e w' => e = .returned (.int .i64 12) ∧ w = w' := by
  have hm := begin_nobody po w h
  clear h
  go_enter Tryz.func31, Tryz.ntmps31
  go_wp2_with (go_at_call 57; refine hm.mono ?_; rintro e w' ⟨rfl, rfl⟩)
  go_ret
  exact ⟨rfl, rfl⟩
theorem append_nobody (nm : ByteArray) (a : Option Addr) (n c : Nat) (po : Option Addr) (w : World) (h : NonePtr w po) :
    Calls Tryz.prog 32 #[.pointer po, .string nm, .slice a n c] w fun e w' => e = .returned (.int .i64 12) ∧ w = w' := by
  have hm := begin_nobody po w h
  clear h
  go_enter Tryz.func32, Tryz.ntmps32
  go_wp2_with (go_at_call 57; refine hm.mono ?_; rintro e w' ⟨rfl, rfl⟩)
  go_ret
  exact ⟨rfl, rfl⟩
theorem cut_nobody (nm : ByteArray) (n : Int) (po : Option Addr) (w : World) (h : NonePtr w po) :
    Calls Tryz.prog 33 #[.pointer po, .string nm, .int .i64 n] w fun e w' => e = .returned (.int .i64 12) ∧ w = w' := by
  have hm := begin_nobody po w h
  clear h
  go_enter Tryz.func33, Tryz.ntmps33
  go_wp2_with (go_at_call 57; refine hm.mono ?_; rintro e w' ⟨rfl, rfl⟩)
  go_ret
  exact ⟨rfl, rfl⟩
theorem sync_nobody (nm : ByteArray) (po : Option Addr) (w : World) (h : NonePtr w po) :
    Calls Tryz.prog 23 #[.pointer po, .string nm] w fun e w' => e = .returned (.int .i64 12) ∧ w = w' := by
  have hm := begin_nobody po w h
  clear h
  go_enter Tryz.func23, Tryz.ntmps23
  go_wp2_with (go_at_call 57; refine hm.mono ?_; rintro e w' ⟨rfl, rfl⟩)
  go_ret
  exact ⟨rfl, rfl⟩
theorem rename_nobody (nm nt : ByteArray) (po : Option Addr) (w : World) (h : NonePtr w po) :
    Calls Tryz.prog 34 #[.pointer po, .string nm, .string nt] w fun e w' => e = .returned (.int .i64 12) ∧ w = w' := by
  have hm := begin_nobody po w h
  clear h
  go_enter Tryz.func34, Tryz.ntmps34
  go_wp2_with (go_at_call 57; refine hm.mono ?_; rintro e w' ⟨rfl, rfl⟩)
  go_ret
  exact ⟨rfl, rfl⟩
theorem remove_nobody (nm : ByteArray) (po : Option Addr) (w : World) (h : NonePtr w po) :
    Calls Tryz.prog 35 #[.pointer po, .string nm] w fun e w' => e = .returned (.int .i64 12) ∧ w = w' := by
  have hm := begin_nobody po w h
  clear h
  go_enter Tryz.func35, Tryz.ntmps35
  go_wp2_with (go_at_call 57; refine hm.mono ?_; rintro e w' ⟨rfl, rfl⟩)
  go_ret
  exact ⟨rfl, rfl⟩
theorem syncDir_nobody  (po : Option Addr) (w : World) (h : NonePtr w po) :
    Calls Tryz.prog 24 #[.pointer po] w fun e w' => e = .returned (.int .i64 12) ∧ w = w' := by
  have hm := begin_nobody po w h
  clear h
  go_enter Tryz.func24, Tryz.ntmps24
  go_wp2_with (go_at_call 57; refine hm.mono ?_; rintro e w' ⟨rfl, rfl⟩)
  go_ret
  exact ⟨rfl, rfl⟩

theorem start_nobody (c r : Int) (vk vf vu : Value) (po : Option Addr) (w : World) (h : NonePtr w po) :
    Calls Tryz.prog 25 #[.pointer po, .agg #[.int .i64 c, vk, vf, vu, .int .i64 r]] w fun e w' => e = .returned (.int .i64 12) ∧ w.grownBy w' none := by
  have g0 := World.grownBy_alloc w (.cells #[.int .i64 c, vk, vf, vu, .int .i64 r] 24) none
  have hm := fun W (g : w.grownBy W none) => isMade_nobody po W (h.imp id (fun ⟨z, e, hz⟩ => ⟨z, e, g.cell hz (by simp)⟩))
  have hm1 := hm _ g0
  clear hm h
  go_enter Tryz.func25, Tryz.ntmps25
  go_wp2_with (go_at_call 54; refine hm1.mono ?_; rintro e w' ⟨rfl, rfl⟩)
  go_ret
  exact ⟨rfl, g0⟩

theorem size_nobody (nm : ByteArray) (po : Option Addr) (w : World) (h : NonePtr w po) :
    Calls Tryz.prog 19 #[.pointer po, .string nm] w fun e w' => e = .returned (.tuple #[.int .i64 0, .int .i64 12]) ∧ w = w' := by
  have hm := dead_nobody po w h
  clear h
  go_enter Tryz.func19, Tryz.ntmps19
  go_wp2_with (go_at_call 21; refine hm.mono ?_; rintro e w' ⟨rfl, rfl⟩)
  go_ret2
  exact ⟨rfl, rfl⟩
theorem read_nobody (nm : ByteArray) (a n : Int) (po : Option Addr) (w : World) (h : NonePtr w po) :
    Calls Tryz.prog 17 #[.pointer po, .string nm, .int .i64 a, .int .i64 n] w fun e w' => e = .returned (.tuple #[.slice none 0 0, .int .i64 12]) ∧ w = w' := by
  have hm := size_nobody nm po w h
  clear h
  go_enter Tryz.func17, Tryz.ntmps17
  go_wp2_with (go_at_call 19; refine hm.mono ?_; rintro e w' ⟨rfl, rfl⟩)
  go_ret2
  exact ⟨rfl, rfl⟩
theorem files_nobody (po : Option Addr) (w : World) (h : NonePtr w po) :
    Calls Tryz.prog 22 #[.pointer po] w fun e w' => e = .returned (.slice none 0 0) ∧ w = w' := by
  have hm := dead_nobody po w h
  have hm2 := isMade_nobody po w h
  clear h
  go_enter Tryz.func22, Tryz.ntmps22
  go_wp2_with first
    | (go_at_call 21; refine hm.mono ?_; rintro e w' ⟨rfl, rfl⟩)
    | (go_at_call 54; refine hm2.mono ?_; rintro e w' ⟨rfl, rfl⟩)
  go_ret
  exact ⟨rfl, rfl⟩
theorem safe_nobody (po : Option Addr) (w : World) (h : NonePtr w po) :
    Calls Tryz.prog 27 #[.pointer po] w fun e w' => e = .returned (.slice none 0 0) ∧ w = w' := by
  have hm := dead_nobody po w h
  have hm2 := isMade_nobody po w h
  clear h
  go_enter Tryz.func27, Tryz.ntmps27
  go_wp2_with first
    | (go_at_call 21; refine hm.mono ?_; rintro e w' ⟨rfl, rfl⟩)
    | (go_at_call 54; refine hm2.mono ?_; rintro e w' ⟨rfl, rfl⟩)
  go_ret
  exact ⟨rfl, rfl⟩
theorem ops_nobody (po : Option Addr) (w : World) (h : NonePtr w po) :
    Calls Tryz.prog 28 #[.pointer po] w fun e w' => e = .returned (.int .i64 0) ∧ w = w' := by
  have hm := dead_nobody po w h
  have hm2 := isMade_nobody po w h
  clear h
  go_enter Tryz.func28, Tryz.ntmps28
  go_wp2_with first
    | (go_at_call 21; refine hm.mono ?_; rintro e w' ⟨rfl, rfl⟩)
    | (go_at_call 54; refine hm2.mono ?_; rintro e w' ⟨rfl, rfl⟩)
  go_ret
  exact ⟨rfl, rfl⟩
theorem used_nobody (po : Option Addr) (w : World) (h : NonePtr w po) :
    Calls Tryz.prog 36 #[.pointer po] w fun e w' => e = .returned (.int .i64 0) ∧ w = w' := by
  have hm := dead_nobody po w h
  have hm2 := isMade_nobody po w h
  clear h
  go_enter Tryz.func36, Tryz.ntmps36
  go_wp2_with first
    | (go_at_call 21; refine hm.mono ?_; rintro e w' ⟨rfl, rfl⟩)
    | (go_at_call 54; refine hm2.mono ?_; rintro e w' ⟨rfl, rfl⟩)
  go_ret
  exact ⟨rfl, rfl⟩
theorem clone_nobody (po : Option Addr) (w : World) (h : NonePtr w po) :
    Calls Tryz.prog 29 #[.pointer po] w fun e w' => e = .returned (.pointer none) ∧ w = w' := by
  have hm := dead_nobody po w h
  have hm2 := isMade_nobody po w h
  clear h
  go_enter Tryz.func29, Tryz.ntmps29
  go_wp2_with first
    | (go_at_call 21; refine hm.mono ?_; rintro e w' ⟨rfl, rfl⟩)
    | (go_at_call 54; refine hm2.mono ?_; rintro e w' ⟨rfl, rfl⟩)
  go_ret
  exact ⟨rfl, rfl⟩
end Go.Proofs.YtafcgjbafihniaaGreat

/-
  LAYER 1 (fs): chapter 1's first example.
-/
namespace Go.Proofs.YtafcgjbafihniaaGreat
set_option maxRecDepth 100000
open Go.RowKit Go.Lib
open Go.Proofs (encStr)
attribute [local go_sem] Oper.semAt_some

def pl0 : Pl := ⟨0, [], [], [], 0⟩
theorem ints_nil (w : World) : Ints w (.slice none 0 0) [] := .inl (.inl ⟨rfl, rfl⟩)

theorem const_xy (w : World) : ∃ W, (convert 32 32 (.slice (some ⟨w.heap.size, 0, none⟩) 2 2)).run Tryz.prog (w.alloc (.cells #[.int .u8 120, .int .u8 121] 5)) = .ok (.slice (some ⟨w.heap.size, 0, none⟩) 2 2) W ∧ w.grownBy W none ∧ Reads W (.slice (some ⟨w.heap.size, 0, none⟩) 2 2) [120, 121] ∧ (w.heap.size < W.heap.size) := by
  refine ⟨_, Lib.run_convert_bytes_const (P := Tryz.prog) w 32 5 #[.int .u8 120, .int .u8 121] 2 2 Tryz.underlying32 Tryz.underlying5, World.grownBy_alloc w _ none, .inr ⟨w.heap.size, 0, 2, rfl, by simp, by unfold maxLen; simp, fun i u hi => ?_⟩, by simp⟩
  have e := World.alloc_heap_new w (.cells #[.int .u8 120, .int .u8 121] 5 (#[Value.int .u8 120, Value.int .u8 121].size, #[Value.int .u8 120, Value.int .u8 121].size + 1))
  rw [Nat.zero_add]
  unfold World.cell?
  dsimp only
  rw [e]
  match i, hi with
  | 0, hi => simp at hi; subst hi; rfl
  | 1, hi => simp at hi; subst hi; rfl

/-- What the example's file holds when it is synced. -/
theorem settle_xy (ks : Nat → Int) (h : ∀ i, ks i = -1) : settleP ks 0 true [] [.add ⟨#[120, 121]⟩] = [120, 121] := by
  rw [settleP, settleP, h 0, Chg.kept_all]
  rfl

theorem convB_of {w : World} {v : Value} {bs : List UInt8} (h : Reads w v bs) : (convert 32 9 v).run Tryz.prog w = .ok (.string ⟨bs.toArray⟩) w := by
  have h0 := h
  rcases h with ⟨rfl, rfl⟩ | ⟨b, off, cap, rfl, _, _, _⟩
  · rw [run_convert_bytes_string w 32 9 5 none 0 0 Tryz.underlying32 Tryz.underlying5 Tryz.underlying9]
    simp [Conv.bytesToString]
    rfl
  · rw [run_convert_bytes_string w 32 9 5 _ _ _ Tryz.underlying32 Tryz.underlying5 Tryz.underlying9]
    have hl := run_loadCells_list (P := Tryz.prog) w ⟨b, off, none⟩ (byteCells bs) h0.cells
    have e : byteCells bs = (bs.map fun u => (u.toNat : Int)).map (Value.int .u8) := by simp [byteCells]
    rw [byteCells_len, e] at hl
    rw [run_bytesToString w _ _ _ _ hl]
    have := fold_push bs []
    simp only [List.nil_append] at this
    exact congrArg (fun s => Result.ok (Value.string s) w) this

theorem sorted_nil : DirL.sorted [] = [] := by simp [DirL.sorted, DirL.names]
theorem sorted_one (x : List UInt8) (b : Nat) : DirL.sorted [(x, b)] = [(x, b)] := by simp [DirL.sorted, DirL.names, DirL.look]

/-- A clone is a file system in memory. -/
theorem cloned_ok {w w' : World} {p : PlV} {ops : Int} {nm : ByteArray} {f : FileV} {gq gd gs : Nat} {k' f' u' : Value} (h : ClonedOne w p ops [] [] [] nm f gq gd gs k' f' u' w') (hc : p.c = 0) (hr : p.r = 0) :
    ∃ mv' b' f2, FsOk (fun k => w.heap.size ≤ k) w' gq false ⟨p.c, k', f', u', p.r⟩ ⟨0, [], [], [], 0⟩ ops gd gs mv' [(nm.data.toList, b')] [] [⟨⟨#[]⟩, nm, some b'⟩] ([] ++ (b', f2) :: []) ∧ f2.safe = f.safe ∧ f2.data = f.data ∧ f2.chg = f.chg ∧ w.grownBy w' none := by
  obtain ⟨mv', b', f2, h1, h2, h3, h4, h5, h6, h7, h8, h9, h10, h11, h12, h13, h14, h15, h16, h17, h18, h19⟩ := h
  refine ⟨mv', b', f2, ⟨h1, hc, hr, rowMono h15 (Nat.zero_le _), rowMono h16 (Nat.zero_le _), rowMono h17 (Nat.zero_le _), h2, h3, h4, ⟨fun x hx => ?_, ?_⟩, h11, fun k hk => ?_⟩, h6, h7, h8, h19⟩
  · simp at hx
    subst hx
    exact h5
  · have := h5.2.2.2.2
    simpa [filesBlocks] using this
  · rcases hk with e | e | e | e | e | e | e | e
    · exact h13 k (.inl e)
    · exact h13 k (.inr (.inl e))
    · exact h13 k (.inr (.inr (.inl e)))
    · exact (h12 k e).1
    · exact (World.ownsRow.lt h15 k e).1
    · exact (World.ownsRow.lt h16 k e).1
    · exact (World.ownsRow.lt h17 k e).1
    · simp [filesBlocks] at e
      rcases e with e | e
      · exact h13 k (.inr (.inr (.inr (.inl e))))
      · exact h13 k (.inr (.inr (.inr (.inr e))))

set_option maxHeartbeats 8000000 in
theorem fawake_any (w : World) : Calls Tryz.prog 10 #[] w fun e w' => e = .returned (.bool true) ∧ w.grownBy w' none := by
  have hnew := new_good (.slice none 0 0) (.slice none 0 0) (.slice none 0 0) pl0 w (ints_nil w) (ints_nil w) (ints_nil w) (by decide) (by decide) (by decide)
  dsimp only [pl0] at hnew
  go_enter Tryz.func10, Tryz.ntmps10
  go_wp2_with first
    | (go_at_call 12; refine hnew.mono ?_; clear hnew; rintro e w1 ⟨q, d, s, p, rfl, K1, g1⟩; have hcr := create_good ⟨#[97]⟩ K1 (fun k hk => Nat.le_trans g1.size hk) (by decide) (by decide) (by decide) (by decide) (by decide) (by decide) (by decide) (by decide) (by decide) (by decide) rfl (by decide) (by decide))
    | (go_at_call 31; refine hcr.mono ?_; clear hcr; rintro e w2 ⟨rfl, mv2, K2, g2⟩
       obtain ⟨W3, kc, g3, hrd, hs3⟩ := const_xy w2
       have hg12 := g1.size
       have hg22 := g2.size
       have K3 : FsOk (fun k => w.heap.size ≤ k) W3 q false p ⟨0, [], [], [], 0⟩ 1 d s mv2 [([97], w1.heap.size)] [] [⟨⟨#[]⟩, ⟨#[97]⟩, some w1.heap.size⟩] ([] ++ (w1.heap.size, ⟨.slice none 0 0, .slice none 0 0, .slice none 0 0, [], [], []⟩) :: []) := K2.grown g3
       have hap := append_good ⟨#[97]⟩ (.slice (some ⟨w2.heap.size, 0, none⟩) 2 2) [120, 121] K3 (fun k hk => by omega) (by decide) (by decide) (by decide) (by decide) (by decide) (by decide) (by decide) (by decide) rfl (by decide) hrd (fun _ e => by have := K1.fs.lt; simp [Value.ownBlock] at e; omega) (by simp) (by decide) (by decide)
       have wg3 := (grown_gp g1 g2 (fun k hk => K1.new k hk)).trans g3
       clear hrd K2 g2)
    | (go_at_call 32; refine hap.mono ?_; clear hap; rintro e w4 ⟨rfl, f4, K4, q1, q2, q3, g4⟩
       have hg44 := g4.size
       have wg4 := grown_gp wg3 g4 (fun k hk => K3.new k hk)
       have hsy := sync_good ⟨#[97]⟩ K4 (fun k hk => by omega) (by decide) (by decide) (by decide) (by decide) (by decide) (by decide) rfl (by rw [q1, q3]; exact ⟨by show 0 + 2 ≤ 140737488355328; decide, trivial⟩) (by rw [q3]; decide))
    | (go_at_call 23; refine hsy.mono ?_; clear hsy; rintro e w5 ⟨rfl, f5, K5, r1, r2, r3, g5⟩
       rw [q1, q3] at r1
       have r1' : f5.safe = [120, 121] := r1.trans (settle_xy _ (fun _ => rfl))
       rw [q2] at r2
       have r2' : f5.data = [120, 121] := r2
       have hg55 := g5.size
       have wg5 := grown_gp wg4 g5 (fun k hk => K4.new k hk)
       have hcl := clone_one [] [] [] ⟨#[97]⟩ w1.heap.size f5 w5 K5.fs K5.rk (by simpa [inOrd] using K5.rf) (by simpa [inOrd] using K5.ru) (by decide) (by decide) (by decide) K5.safe K5.mr (K5.files.1 (w1.heap.size, f5) (by simp)) (by rw [r1']; decide) (by rw [r2']; decide) (by rw [r3]; decide) (by decide) (by decide))
  refine hcl.mono ?_
  clear hcl
  rintro e w6 ⟨gq, gd, gs, k6, f6, u6, rfl, hC⟩
  obtain ⟨mv6, b6, ff6, K6, s1, s2, s3, g6⟩ := cloned_ok hC (by have := K5.pc; simpa using this) (by have := K5.pr; simpa using this)
  clear hC
  have J6 := K5.grown g6
  have hg66 := g6.size
  have hsd := syncDir_good K6 (by decide) (by decide) (by decide) (by decide) (by decide) (by decide) (by decide) ⟨⟨by show 0 ≤ maxLen; decide, by show 1 ≤ maxLen; decide, by show (1 : Nat) ≠ 0; decide⟩, by show 0 < maxLen; decide, trivial⟩ (by show 1 < 3518437208882; decide)
  have wg6 := wg5.trans g6
  have hK5 := K5.lt
  clear kc K1 K3 K4 K5 q1 q2 q3 g4 g5 r1 r2 g1 g3 wg3 wg4 wg5
  go_wp2_with fail
  refine hsd.mono ?_
  clear hsd
  rintro e w7 ⟨rfl, K7, g7⟩
  have J7 := J6.kept g7 (fun k hk hk2 => by have := hK5 k hk; have := K6.new k hk2; omega)
  have hg77 := g7.size
  have wg7 := grown_gp wg6 g7 (fun k hk => by have := K6.new k hk; have := hg55; omega)
  have hst := start_good (.slice none 0 0) (.slice none 0 0) (.slice none 0 0) pl0 (fun _ => f5) 0 (by rfl) [] rfl J7 (fun k hk => by omega) (by decide) trivial (by show 1 < 3518437208882; decide) (by decide) (by rw [sorted_nil]; exact ⟨by simp [filesOf], by simp [filesOf, filesBlocks]⟩) (by rw [sorted_nil]; simp [filesOf, filesBlocks]) (by rw [sorted_nil]; simp) (by rw [sorted_nil]; simp [cnt]) (fun W _ => ⟨ints_nil W, ints_nil W, ints_nil W⟩) (by decide) (by decide) (by decide)
  dsimp only [pl0] at hst
  clear J6
  go_wp2_with fail
  refine hst.mono ?_
  clear hst
  rintro e w8 ⟨rfl, p8, d8, G8, J8, _, hft, g8⟩
  have K8 := K7.kept g8 (fun k hk hk2 => by have := hK5 k hk2; have := K7.new k hk; omega)
  have hK7 := K7.lt
  have hg88 := g8.size
  have wg8 := grown_gp wg7 g8 (fun k hk => J7.new k hk)
  have r3' : ff6.chg = [] := s3.trans r3
  have r4' : ff6.safe = [120, 121] := s1.trans r1'
  have hst := start_good (.slice none 0 0) (.slice none 0 0) (.slice none 0 0) pl0 (fun _ => ff6) 0 (by rfl) [([97], b6)] rfl K8 (fun k hk => by omega) (by decide) trivial (by decide) (by show 1 ≤ 3518437208881; decide) (by rw [sorted_one]; exact K8.files) (by rw [sorted_one]; exact fun k hk => hk) (by
    rw [sorted_one]
    intro x hx
    simp at hx
    subst hx
    rw [r3', r4']
    exact ⟨trivial, by decide⟩) (by rw [sorted_one]; simp [cnt, r3']) (fun W _ => ⟨ints_nil W, ints_nil W, ints_nil W⟩) (by decide) (by decide) (by decide)
  dsimp only [pl0] at hst
  clear J7 K7
  go_wp2_with fail
  refine hst.mono ?_
  clear hst
  rintro e w9 ⟨rfl, p9, d9, G9, K9, hdi, _, g9⟩
  have J9 := J8.kept g9 (fun k hk hk2 => by
    have h1 := K8.new k hk2
    have h2 := hK7 k hk2
    rcases hft k hk with h3 | h3
    · have := hK5 k h3; omega
    · omega)
  have wg9 := grown_gp wg8 g9 (fun k hk => by have := K8.new k hk; omega)
  rw [sorted_one] at K9 hdi
  have hd0 := hdi 0 ([97], b6) rfl
  have hdat : (G9 b6).data = [120, 121] := by
    obtain ⟨e1, e2, _⟩ := hd0
    dsimp only at e1 e2
    rw [e2, e1, r3', r4']
    rfl
  clear hdi hd0 K8 J8 hft hK5 hK7
  have hfg := files_any [([97], b6)] G9 w9 K9.fs K9.dir (fun x b hl => by
    have hb : b = b6 := by
      have := DirL.look_mem hl
      simp at this
      exact this.2
    subst hb
    exact ⟨K9.files.1 (b, G9 b) (by simp [filesOf]), by rw [hdat]; decide⟩) (by show 1 ≤ 3518437208881; decide)
  go_wp2_with fail
  refine hfg.mono ?_
  clear hfg
  rintro e w10 ⟨v10, rows, rfl, hfa, hrows, g10⟩
  rw [sorted_one] at hrows
  have J10 := J9.grown g10
  have wg10 := wg9.trans g10
  clear J9 K9
  have hff := files_any [] (fun _ => f5) w10 J10.fs J10.dir (fun x b hl => by cases hl) (by decide)
  obtain ⟨vv, rfl⟩ : ∃ vv, rows = [([97], vv, [120, 121])] := by
    match rows, hrows with
    | [(a, b, c)], hrows =>
      simp [hdat] at hrows
      obtain ⟨rfl, rfl⟩ := hrows
      exact ⟨b, rfl⟩
  obtain ⟨va, vc, hv10⟩ : ∃ a c, v10 = .slice a 1 c := rowFormS hfa.1
  subst hv10
  go_wp2_with fail
  refine hff.mono ?_
  clear hff
  rintro e w11 ⟨v11, rows2, rfl, hfb, hrows2, g11⟩
  rw [sorted_nil] at hrows2
  obtain rfl : rows2 = [] := by simpa using hrows2
  obtain ⟨vb, vbc, hv11⟩ : ∃ a c, v11 = .slice a 0 c := rowFormS hfb.1
  subst hv11
  have hfa2 := hfa.kept g11 (by simp)
  obtain ⟨hrow, hdat2⟩ := hfa2
  have ho := hdat2 ([97], vv, [120, 121]) (by simp)
  dsimp only at ho
  have hcv := convB_of ho.reads
  obtain ⟨xa, xc, hvv⟩ : ∃ a c, vv = .slice a 2 c := rowFormS ho
  obtain ⟨mg, hma, hcell⟩ : ∃ mg, va = some ⟨mg, 0, none⟩ ∧ w11.cell? ⟨mg, 1, none⟩ = some vv := by
    have hr7 := hrow
    obtain ⟨_, ⟨e, hz⟩ | ⟨g9, cap, cur, e, _⟩⟩ := hrow
    · cases hz
    · simp at e
      obtain ⟨rfl, rfl⟩ := e
      exact ⟨g9, rfl, World.ownsRow.cellAt hr7 1 (by simp)⟩
  subst hma hvv
  have wg11 := wg10.trans g11
  clear hfa hfb hrow hdat2 ho J10
  go_wp2_with fail
  go_ret
  exact ⟨rfl, wg11⟩
end Go.Proofs.YtafcgjbafihniaaGreat
