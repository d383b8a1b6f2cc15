/-
  LAYER 1 (fs): Used; lacksRoom in every case.
-/
import Derived.Test.YtcehddlplkfflaaGreatFN11
import Derived.Test.YtcehddlplkfflaaGreatFN06
import Derived.Test.YtcehddlplkfflaaGreatFN09
import Derived.Deep.Onto
namespace Go.Proofs.YtcehddlplkfflaaGreat
set_option maxRecDepth 100000
open Go.RowKit Go.Lib
open Go.Proofs (encStr)
attribute [local go_sem] Oper.semAt_some

theorem RangesD.left_eq {w : World} {s r : Nat} {l : DirL} {cnt : Nat} {ss : List (List UInt8)} (h : RangesD w s r l cnt ss) : w.rangeLeft s r = cnt := by
  obtain ⟨n, D, left, a, _⟩ := h
  exact a.left_eq

/-- The bytes of the files that these names have. -/
def lenOf (F : Nat → FileV) (l : DirL) (ss : List (List UInt8)) : Nat := (ss.map (fun x => match l.look x with | some b => (F b).data.length | none => 0)).sum
theorem lenOf_step (F : Nat → FileV) (l : DirL) (ss : List (List UInt8)) (x : List UInt8) (b : Nat) (h : l.look x = some b) : lenOf F l (ss ++ [x]) = lenOf F l ss + (F b).data.length := by simp [lenOf, h]
theorem lenOf_perm (F : Nat → FileV) (l : DirL) {ss tt : List (List UInt8)} (h : ss.Perm tt) : lenOf F l ss = lenOf F l tt := by
  unfold lenOf
  exact (h.map _).sum_nat

section
variable {n0 : Nat → Prop} {w : World} {q : Nat} {p : PlV} {pl : Pl} {ops : Int} {d s : Nat} {mv : Value} {ld ls : DirL} {ml : List Mv} {fl : List (Nat × FileV)}
set_option maxHeartbeats 4000000 in
theorem used_any (F : Nat → FileV) (w : World) (h : FsOk n0 w q false p pl ops d s mv ld ls ml fl) (hf : ∀ x b, ld.look x = some b → FileAt w b (F b) ∧ (F b).data.length ≤ 268435456) (hlim : ld.length ≤ 4294967296) :
    Calls Tryz.prog 47 #[.pointer (some ⟨q, 0, none⟩)] w fun e w' => e = .returned (.int .i64 (lenOf F ld ld.names : Int)) ∧ w.grownBy w' none := by
  have hdead := dead_fs w h.fs
  have x8 := h.fs.dir
  have hdl := h.dir.lt
  obtain ⟨W', r1, r2, r3, r4⟩ := h.dir.ranged
  obtain ⟨T, hT⟩ : ∃ T, T = lenOf F ld ld.names := ⟨_, rfl⟩
  rw [← hT]
  replace hT := Lib.hid hT
  replace r4 := Lib.hid r4
  go_enter Tryz.func47, Tryz.ntmps47
  go_wp2_with (go_at_call 20; refine hdead.mono ?_; rintro e w2 ⟨rfl, rfl⟩)
  go_loopw [3, 5] (fun v3 _ wr => ∃ (ss : List (List UInt8)) (cnt u : Nat), v3 = .int .i64 (u : Int) ∧ Hid (u = lenOf F ld ss) ∧ Hid (RangesD wr d w.heap.size ld cnt ss) ∧ Hid (w.grownBy wr none) ∧ ss.length + cnt ≤ ld.length ∧ u ≤ 268435456 * ss.length) (fun _ _ wr => wr.rangeLeft d w.heap.size)
  case atStart => exact ⟨[], _, 0, rfl, Lib.hid rfl, Lib.hid r2, Lib.hid r3, by simp, by simp⟩
  case round =>
    obtain ⟨ss, cnt, u, rfl, hu, hR, hG, hc, hb⟩ := hrel
    rcases hR.out.next 0 with ⟨hp, hrun⟩ | ⟨x, b, w3, cnt', hl, hrun, hR3, hlt, hg, hsz, hen⟩
    · have e1 : u = T := by rw [hu.out, hT.out]; exact lenOf_perm F ld hp
      subst e1
      go_wp2_with fail
      go_ret
      exact ⟨rfl, hG.out⟩
    · obtain ⟨hfa, hfl⟩ := hf x b hl
      have g3 : w.grownBy w3 none := gnew hG.out hg (fun k e => by cases e; exact .inl (Nat.le_refl _))
      have c1 : w3.cell? ⟨b, 1, none⟩ = some (F b).dv := (hfa.kept (P := fun _ => False) (GP.of g3 (by simp)) (fun h => h) (fun _ _ h => h)).c1
      obtain ⟨da, dc, hdv⟩ : ∃ a c, (F b).dv = .slice a (F b).data.length c := rowFormS hfa.2.2.1
      rw [hdv] at c1
      obtain ⟨n, hn⟩ : ∃ n, n = (F b).data.length := ⟨_, rfl⟩
      rw [← hn] at c1 hfl
      have hu2 : Hid (u + n = lenOf F ld (ss ++ [x])) := Lib.hid (by rw [lenOf_step F ld ss x b hl, hu.out, hn])
      have hle1 := hR.out.left_eq
      have hle3 := hR3.left_eq
      have hms : w3.rangeLeft d w.heap.size < wr.rangeLeft d w.heap.size := by omega
      unfold encStr at hrun hen
      obtain ⟨s', hs'⟩ : ∃ s' : ByteArray, s' = ⟨x.toArray⟩ := ⟨_, rfl⟩
      rw [← hs'] at hrun hen
      have hcc : (ss ++ [x]).length + cnt' ≤ ld.length := by rw [List.length_append]; simp; omega
      have hbb : u + n ≤ 268435456 * (ss ++ [x]).length := by rw [List.length_append]; simp; omega
      replace hms := Lib.hid hms
      replace hR3 := Lib.hid hR3
      replace hn := Lib.hid hn
      have hub : u ≤ 1152921504606846976 := by omega
      clear hle1 hle3 hlt hs' hfa hdv hl hu hR hc hb
      go_wp2_with fail
      exact ⟨⟨ss ++ [x], cnt', u + n, by go_num, hu2, hR3, Lib.hid g3, hcc, hbb⟩, hms.out⟩
end
end Go.Proofs.YtcehddlplkfflaaGreat

/-
  LAYER 1 (fs): Clone of any file system.
-/
namespace Go.Proofs.YtcehddlplkfflaaGreat
set_option maxRecDepth 100000
open Go.RowKit Go.Lib
open Go.Proofs (encStr)
attribute [local go_sem] Oper.semAt_some

section
variable {n0 : Nat → Prop} {q : Nat} {dead : Bool} {p : PlV} {pl : Pl} {ops : Int} {d s : Nat} {mv : Value} {ld ls : DirL} {ml : List Mv} {fl : List (Nat × FileV)}
set_option maxHeartbeats 8000000 in
theorem clone_any (F : Nat → FileV) (w : World) (h : FsOk n0 w q dead p pl ops d s mv ld ls ml fl) (lk : pl.keep.length * 8 ≤ 140737488351232) (lf : pl.fail.length * 8 ≤ 140737488351232) (lu : pl.full.length * 8 ≤ 140737488351232)
    (hF : ∀ b, (∃ x, ls.look x = some b) ∨ (∃ m ∈ ml, m.made = some b) → FileAt w b (F b) ∧ (F b).safe.length ≤ 140737488355328 ∧ (F b).data.length ≤ 140737488355328 ∧ (F b).chg.length < 8796093022207) (hm : okMoves ml ls) (hn2 : ml.length < 3518437208882) (hls : ls.length < maxLen) :
    Calls Tryz.prog 28 #[.pointer (some ⟨q, 0, none⟩)] w fun e w' => ∃ gq gd gs p' L G, e = .returned (.pointer (some ⟨gq, 0, none⟩)) ∧ MovesI w.heap.size w ls ml F gq dead p' ⟨pl.crash, pl.keep, inOrd pl.fail, inOrd pl.full, pl.room⟩ ops gd gs L G ml.length w' ∧ L.names.Perm ls.names ∧ (∀ x ∈ L, ∃ b, ls.look x.1 = some b ∧ SameF (G x.2) (F b)) := by
  have hfs := h.fs
  have hmade := isMade_fs w hfs
  have x2 := hfs.crash
  have x3 := hfs.keep
  have x4 := hfs.fail
  have x5 := hfs.full
  have x6 := hfs.room
  have rf1 : w.ownsRow 0 3 1 p.f (inOrd pl.fail).length ((inOrd pl.fail).map intV) := by rw [inOrd_length]; exact h.rf
  have ru1 : w.ownsRow 0 3 1 p.u (inOrd pl.full).length ((inOrd pl.full).map intV) := by rw [inOrd_length]; exact h.ru
  obtain ⟨ka, kc, hkv⟩ := rowForm h.rk
  obtain ⟨fa, fc, hfv⟩ := rowForm rf1
  obtain ⟨ua, uc, huv⟩ := rowForm ru1
  have hnew := new_good p.k p.f p.u ⟨pl.crash, pl.keep, inOrd pl.fail, inOrd pl.full, pl.room⟩ w (ints_of_own h.rk) (ints_of_own rf1) (ints_of_own ru1) lk (by dsimp only; rw [inOrd_length]; exact lf) (by dsimp only; rw [inOrd_length]; exact lu)
  dsimp only at hnew
  rw [hkv, hfv, huv] at hnew
  rw [hkv] at x3
  rw [hfv] at x4
  rw [huv] at x5
  rw [h.pc] at x2
  rw [h.pr] at x6
  clear rf1 ru1
  go_enter Tryz.func28, Tryz.ntmps28
  go_wp2_with first
    | (go_at_call 53; refine hmade.mono ?_; rintro e w2 ⟨rfl, rfl⟩)
    | (go_at_call 11; refine hnew.mono ?_; clear hnew; rintro e w1 ⟨gq, gd, gs, p', rfl, n1, g1⟩; have y1 := (hfs.kept g1 (by simp)).isDead; have y2 := n1.fs.isDead; have y3 := n1.fs.free 1; have y4 := n1.fs.setDead dead)
  obtain ⟨W3, hW3⟩ : ∃ W3, W3 = w1.setCell ⟨gq, 1, none⟩ (.bool dead) := ⟨_, rfl⟩
  have g3 : w1.grownBy W3 (some gq) := by rw [hW3]; exact gset (World.grownBy.refl w1 (some gq)) 1 (.bool dead)
  rw [← hW3] at y4 ⊢
  clear hW3 y1 y2 y3
  have n3 := n1.block y4 g3
  have hqn := n1.new gq (.inl rfl)
  have w13 : w.grownBy W3 none := gnew g1 g3 (fun k e => by cases e; exact .inl hqn)
  have gV := gdrew (World.grownBy.refl W3 none)
  obtain ⟨V, hV⟩ : ∃ V, V = W3.drew := ⟨_, rfl⟩
  have hL := hfs.kept (w13.trans gV) (by simp)
  have hG := n3.grown gV
  refine wp_region_held_drew (S := fun _ => True) (by kernel_rfl) trivial (fun hS0 => ?_)
  rw [← hV] at gV hL hG ⊢
  clear hV
  have hld := load_fs V hL
  have hst := store_fs ops V hG.fs
  refine wpAnyH_take (i := 0) (oi := ⟨some 24, _, _, _, _, _⟩) (v := ?_) rfl (by kernel_rfl) (by kernel_rfl) (by kernel_rfl) (fun _ _ _ h => h) (Or.inl ⟨by rfl, ?_⟩) (by assumption) ?_
  rotate_left
  · (intro w hSw; (try dsimp only at hSw); go_simp; try with_reducible rfl)
  try simp only [Act.put, List.setIfInBounds_toArray, List.set_cons_zero, List.set_cons_succ]
  refine wpAnyH_take (i := 1) (oi := ⟨some 25, _, _, _, _, _⟩) (v := ?_) rfl (by kernel_rfl) (by kernel_rfl) (by kernel_rfl) (fun _ _ _ h => h) (Or.inl ⟨by rfl, ?_⟩) (by assumption) ?_
  rotate_left
  · (intro w hSw; (try dsimp only at hSw); go_simp; try with_reducible rfl)
  try simp only [Act.put, List.setIfInBounds_toArray, List.set_cons_zero, List.set_cons_succ]
  refine wpAnyH_take (i := 2) (oi := ⟨some 26, _, _, _, _, _⟩) (v := ?_) rfl (by kernel_rfl) (by kernel_rfl) (by kernel_rfl) (fun _ _ _ h => h) (Or.inl ⟨by rfl, ?_⟩) (by assumption) ?_
  rotate_left
  · (intro w hSw; (try dsimp only at hSw); go_simp; try with_reducible rfl)
  try simp only [Act.put, List.setIfInBounds_toArray, List.set_cons_zero, List.set_cons_succ]
  refine wpAnyH_take (i := 3) (oi := ⟨some 27, _, _, _, _, _⟩) (v := ?_) rfl (by kernel_rfl) (by kernel_rfl) (by kernel_rfl) (fun _ _ _ h => h) (Or.inl ⟨by rfl, ?_⟩) (by assumption) ?_
  rotate_left
  · (intro w hSw; (try dsimp only at hSw); go_simp; try with_reducible rfl)
  try simp only [Act.put, List.setIfInBounds_toArray, List.set_cons_zero, List.set_cons_succ]
  refine wpAnyH_take (i := 4) (oi := ⟨some 28, _, _, _, _, _⟩) (v := ?_) rfl (by kernel_rfl) (by kernel_rfl) (by kernel_rfl) (fun _ _ _ h => h) (Or.inl ⟨by rfl, ?_⟩) (by assumption) ?_
  rotate_left
  · (intro w hSw; (try dsimp only at hSw); go_simp; try with_reducible rfl)
  try simp only [Act.put, List.setIfInBounds_toArray, List.set_cons_zero, List.set_cons_succ]
  refine wpAnyH_take (i := 5) (oi := ⟨some 29, _, _, _, _, _⟩) (v := ?_) rfl (by kernel_rfl) (by kernel_rfl) (by kernel_rfl) (fun _ _ _ h => h) (Or.inl ⟨by rfl, ?_⟩) (by assumption) ?_
  rotate_left
  · (intro w hSw; (try dsimp only at hSw); go_simp; try with_reducible rfl)
  try simp only [Act.put, List.setIfInBounds_toArray, List.set_cons_zero, List.set_cons_succ]
  refine wpAnyH_ready (rs := [6]) (by kernel_rfl) (by simp) ?_
  refine AllReadyH.cons rfl (fun K hK => ?_) AllReadyH.nil
  go_simp
  refine hld.mono ?_
  rintro e w2 ⟨rfl, rfl⟩
  refine hK.out _ _ trivial (fun _ => ?_)
  clear hK
  refine wpAnyH_ready (rs := [7]) (by kernel_rfl) (by simp) ?_
  refine AllReadyH.cons rfl (fun K hK => ?_) AllReadyH.nil
  go_simp
  refine hst.mono ?_
  rintro e W5 ⟨rfl, hW5⟩
  have hG5 := hG.fs.setOps ops
  have g5 := gset (World.grownBy.refl V (some gq)) 7 (.int .i64 ops)
  rw [← hW5] at hG5 g5
  clear hW5 hst hld
  refine hK.out _ _ trivial (fun _ => ?_)
  clear hK
  refine wpAnyH_done (by kernel_rfl) ?_ _
  have n5 := hG.block hG5 g5
  have w15 : w.grownBy W5 none := gnew (w13.trans gV) g5 (fun k e => by cases e; exact .inl hqn)
  have hL5 := hfs.kept w15 (by simp)
  have y9 := hL5.safe
  obtain ⟨W6, r1, hR6, g6, hs6⟩ := (h.safe.kept w15 (by simp)).ranged
  have hw5 := w15.size
  have hci : CloneI w.heap.size w s ls F gq dead p' ⟨pl.crash, pl.keep, inOrd pl.fail, inOrd pl.full, pl.room⟩ ops gd gs W5.heap.size ls.length [] W6 := ⟨F, hR6, n5.grown g6, w15.trans g6, by simp, fun k hk e => by have := n5.lt k hk; omega, by omega, by omega⟩
  replace hs6 := Lib.hid hs6
  obtain ⟨ma, mc, hmv⟩ := rowForm h.mr
  have hsl := h.safe.lt
  clear hL hL5 hG n5 n3 n1 hG5 y4 hR6 hfv huv hkv x2 x3 x4 x5 x6
  go_wp2_with fail
  go_loopw [4, 5, 6] (fun _ _ _ wr => ∃ cnt L, Hid (CloneI w.heap.size w s ls F gq dead p' ⟨pl.crash, pl.keep, inOrd pl.fail, inOrd pl.full, pl.room⟩ ops gd gs W5.heap.size cnt L wr) ∧ L.length + cnt ≤ ls.length) (fun _ _ _ wr => wr.rangeLeft s W5.heap.size)
  case atStart => exact ⟨_, [], Lib.hid hci, by simp⟩
  case round =>
    clear hci
    obtain ⟨cnt, L, hC, hle⟩ := hrel
    obtain ⟨G, hR, hO, h0, hLk, hne, hr, hrn⟩ := hC.out
    clear hC
    rcases hR.next 0 with ⟨hp, hrun⟩ | ⟨x, b, w3, cnt', hl, hrun, hR3, hlt, hg, hsz, hen⟩
    · have y10 := (hfs.kept h0 (by simp)).moves
      rw [hmv] at y10
      have hmr := World.ownsRow.kept h.mr h0 (by cases mv.ownBlock <;> simp)
      rw [hmv] at hmr
      have hMI : MovesI w.heap.size w ls ml F gq dead p' ⟨pl.crash, pl.keep, inOrd pl.fail, inOrd pl.full, pl.room⟩ ops gd gs L G 0 wr := ⟨[], [], .slice none 0 0, by rw [List.append_nil]; exact hO, h0, rfl, hp, by simp⟩
      go_wp2_with fail
      clear hR hO h0 hne hr hmr y10 y9 hs6 hrun hmade
      go_loopw [8, 61] (fun _ va wr' => ∃ j : Nat, va = .int .i64 (j : Int) ∧ j ≤ ml.length ∧ Hid (MovesI w.heap.size w ls ml F gq dead p' ⟨pl.crash, pl.keep, inOrd pl.fail, inOrd pl.full, pl.room⟩ ops gd gs L G j wr')) (fun _ va _ => ml.length - (RowKit.intOf va).toNat)
      case atStart => exact ⟨0, rfl, Nat.zero_le _, Lib.hid hMI⟩
      case round =>
        clear hMI
        obtain ⟨j, rfl, hj, hM⟩ := hrel
        by_cases hlt : j < ml.length
        · obtain ⟨ml', fl', mv', hO2, h2, hl2, hp2, hlk2⟩ := hM.out
          clear hM
          have hm9 : ml[j]? = some ml[j] := List.getElem?_eq_getElem hlt
          obtain ⟨m, hmm⟩ : ∃ m, m = ml[j] := ⟨_, rfl⟩
          obtain ⟨gc, rfl, c0, c1, c2⟩ : ∃ gc, ma = some ⟨gc, 0, none⟩ ∧ wr.cell? ⟨gc, j * 3, none⟩ = some (.string m.src) ∧ wr.cell? ⟨gc, j * 3 + 1, none⟩ = some (.string m.dst) ∧ wr.cell? ⟨gc, j * 3 + 2, none⟩ = some (ptrV m.made) := by
            have hrow := World.ownsRow.kept h.mr h2 (by cases mv.ownBlock <;> simp)
            rw [hmv] at hrow
            have hr0 := hrow
            obtain ⟨_, ⟨e, hz⟩ | ⟨g9, cap, cur, e, _⟩⟩ := hrow
            · omega
            · simp at e
              obtain ⟨rfl, rfl⟩ := e
              have := mvCells_at ml j hlt
              rw [hmm]
              exact ⟨g9, rfl, by rw [World.ownsRow.cellAt hr0 _ (by omega)]; exact this.1, by rw [World.ownsRow.cellAt hr0 _ (by omega)]; exact this.2.1, by rw [World.ownsRow.cellAt hr0 _ (by omega)]; exact this.2.2⟩
          rw [← hmm] at hm9
          have hin : m ∈ ml := List.mem_of_getElem? hm9
          clear hmm
          have hmay := okMoves_take ml ls j m hm hm9
          have hln : (movesDone ml' L).length = (movesDone (ml.take j) ls).length := by have := hp2.length_eq; simpa [DirL.names] using this
          have hwr := h2.size
          have keyM : ∀ W8 fl2 m', FsOk (fun k => w.heap.size ≤ k) W8 gq dead p' ⟨pl.crash, pl.keep, inOrd pl.fail, inOrd pl.full, pl.room⟩ ops gd gs mv' (movesDone ml' L) L ml' (filesOf G L ++ fl2) → w.grownBy W8 none → (∀ (i : Nat) (m : Mv), (ml.take j)[i]? = some m → ∃ m' : Mv, ml'[i]? = some m' ∧ LikeMv F fl2 m' m) → LikeMv F fl2 m' m →
              Calls Tryz.prog 66 #[.pointer (some ⟨gq, 0, none⟩), m'.v] W8 fun e w' => e = .returned (.tuple #[]) ∧ MovesI w.heap.size w ls ml F gq dead p' ⟨pl.crash, pl.keep, inOrd pl.fail, inOrd pl.full, pl.room⟩ ops gd gs L G (j + 1) w' := by
            intro W8 fl2 m' hO8 h8 hlk8 hl8
            have rf := hO8.row_fs hO8.mr (by decide)
            refine (move_any m' ml' (movesDone ml' L) W8 hO8.fs hO8.dir hO8.mr (hl8.may hp2 hmay.1) (by rw [hln]; exact hmay.2) (by omega) hO8.ndq rf.1 rf.2.1).mono ?_
            rintro e w10 ⟨rfl, mv2, p1, p2, p3, p4, p5⟩
            exact ⟨rfl, MovesI.step (hO8.moved (fun k hk => Nat.le_trans h8.size hk) p1 p2 (by rw [List.length_append]; exact p3) p4 p5) (grown_gp h8 p5 (by
              rintro k (e | e | e)
              · exact hO8.new k (.inl e)
              · exact hO8.new k (.inr (.inl e))
              · exact hO8.new k (.inr (.inr (.inr (.inl e)))))) hl2 hp2 hm9 hl8 hlk8⟩
          have hfc := fun b (hb : m.made = some b) W (g : w.grownBy W none) => fileClone_any b (F b) W ((hF b (.inr ⟨m, hin, hb⟩)).1.kept (P := fun _ => False) (GP.of g (by simp)) (fun h => h) (fun _ _ h => h)) (hF b (.inr ⟨m, hin, hb⟩)).2.1 (hF b (.inr ⟨m, hin, hb⟩)).2.2.1 (hF b (.inr ⟨m, hin, hb⟩)).2.2.2
          obtain ⟨a, c, made⟩ := m
          dsimp only at c0 c1 c2 hfc
          have gx := World.grownBy_alloc wr (.cells #[.string a, .string c, ptrV made] 108) none
          have ex := World.alloc_heap_new wr (.cells #[.string a, .string c, ptrV made] 108)
          obtain ⟨W7, hW7⟩ : ∃ W7, W7 = wr.alloc (.cells #[.string a, .string c, ptrV made] 108) := ⟨_, rfl⟩
          rw [← hW7] at gx ex
          have s7 : W7.heap.size = wr.heap.size + 1 := by rw [hW7]; simp
          have hM7 : MvAt W7 wr.heap.size ⟨a, c, made⟩ := ex
          have z0 := hM7.c0
          have z1 := hM7.c1
          have z2 := hM7.c2
          have hO7 := hO2.grown gx
          have h7 := h2.trans gx
          have hlt2 := hO2.lt
          dsimp only at z0 z1 z2
          cases made with
          | none =>
            have hk := keyM W7 fl' ⟨a, c, none⟩ hO7 h7 hlk2 ⟨rfl, rfl, .inl ⟨rfl, rfl⟩⟩
            unfold ptrV at z2 c2 hW7
            dsimp only [Mv.v, ptrV] at hk
            clear keyM hfc hO7 hO2 hlk2 ex gx
            go_wp2_with fail
            rw [← hW7]
            clear hW7
            refine hk.mono ?_
            clear hk
            rintro e w10 ⟨rfl, k1⟩
            replace k1 := Lib.hid k1
            go_wp2_with fail
            exact ⟨⟨j + 1, by go_num, by omega, k1⟩, by simp [RowKit.intOf]; omega⟩
          | some b =>
            have hf7 := hfc b rfl W7 h7
            have keyS : ∀ w8 b' g', W7.grownBy w8 none → FileAt w8 b' g' → SameF g' (F b) → W7.heap.size ≤ b' → (∀ k ∈ g'.blocks, W7.heap.size ≤ k) → w8.cell? ⟨wr.heap.size, 2, none⟩ = some (.pointer (some ⟨b, 0, none⟩)) ∧ w8.frozen? ⟨wr.heap.size, 2, none⟩ = false ∧
                (w8.setCell ⟨wr.heap.size, 2, none⟩ (.pointer (some ⟨b', 0, none⟩))).cell? ⟨wr.heap.size, 0, none⟩ = some (.string a) ∧ (w8.setCell ⟨wr.heap.size, 2, none⟩ (.pointer (some ⟨b', 0, none⟩))).cell? ⟨wr.heap.size, 1, none⟩ = some (.string c) ∧ (w8.setCell ⟨wr.heap.size, 2, none⟩ (.pointer (some ⟨b', 0, none⟩))).cell? ⟨wr.heap.size, 2, none⟩ = some (.pointer (some ⟨b', 0, none⟩)) ∧
                Calls Tryz.prog 66 #[.pointer (some ⟨gq, 0, none⟩), .agg #[.string a, .string c, .pointer (some ⟨b', 0, none⟩)]] (w8.setCell ⟨wr.heap.size, 2, none⟩ (.pointer (some ⟨b', 0, none⟩))) fun e w' => e = .returned (.tuple #[]) ∧ MovesI w.heap.size w ls ml F gq dead p' ⟨pl.crash, pl.keep, inOrd pl.fail, inOrd pl.full, pl.room⟩ ops gd gs L G (j + 1) w' := by
              intro w8 b' g' q7 q1 qs q5 q6
              have hM8 := hM7.kept q7 (by simp)
              have u2 := hM8.c2
              have hM9 : MvAt (w8.setCell ⟨wr.heap.size, 2, none⟩ (.pointer (some ⟨b', 0, none⟩))) wr.heap.size ⟨a, c, some b'⟩ := heap_setCell_same w8 wr.heap.size 2 _ _ _ hM8
              have gs9 := gset (World.grownBy.refl w8 (some wr.heap.size)) 2 (.pointer (some ⟨b', 0, none⟩))
              have hO8 := hO7.filed (fun k hk => Nat.le_trans h7.size hk) q7 q1 q5 q6
              rw [List.append_assoc] at hO8
              have hO9 := hO8.kept (P := fun k => k = wr.heap.size) (GP.of gs9 (fun k e => by cases e; rfl)) (fun k hk e => by
                subst e
                rcases hk with e | e | e | e | e | e | e | e
                · have := hlt2 _ (.inl e); omega
                · have := hlt2 _ (.inr (.inl e)); omega
                · have := hlt2 _ (.inr (.inr (.inl e))); omega
                · have := hlt2 _ (.inr (.inr (.inr (.inl e)))); omega
                · have := hlt2 _ (.inr (.inr (.inr (.inr (.inl e))))); omega
                · have := hlt2 _ (.inr (.inr (.inr (.inr (.inr (.inl e)))))); omega
                · have := hlt2 _ (.inr (.inr (.inr (.inr (.inr (.inr (.inl e))))))); omega
                · rw [← List.append_assoc, filesBlocks_append, List.mem_append] at e
                  rcases e with e | e
                  · have := hlt2 _ (.inr (.inr (.inr (.inr (.inr (.inr (.inr e))))))); omega
                  · rw [filesBlocks_cons] at e
                    simp [filesBlocks] at e
                    rcases e with e | e
                    · omega
                    · have := q6 _ e; omega)
              have h9 : w.grownBy (w8.setCell ⟨wr.heap.size, 2, none⟩ (.pointer (some ⟨b', 0, none⟩))) none := gnew (h7.trans q7) gs9 (fun k e => by cases e; exact .inl hwr)
              exact ⟨u2, by simp [World.frozen?, show _ = _ from hM8], hM9.c0, hM9.c1, hM9.c2, keyM _ (fl' ++ [(b', g')]) ⟨a, c, some b'⟩ hO9 h9 (fun i m hx => by
                obtain ⟨m', k1, k2⟩ := hlk2 i m hx
                exact ⟨m', k1, k2.more _⟩) ⟨rfl, rfl, .inr ⟨b, b', g', rfl, rfl, by simp, qs⟩⟩⟩
            unfold ptrV at z2 c2 hW7
            clear keyM hfc hO7 hO2 hlk2 ex gx
            go_wp2_with fail
            rw [← hW7]
            clear hW7
            refine hf7.mono ?_
            clear hf7
            rintro e w8 ⟨b', g', rfl, q1, q2, q3, q4, q5, q6, q7⟩
            obtain ⟨k1, k2, k3, k4, k5, hk⟩ := keyS w8 b' g' q7 q1 ⟨q2, q3, q4⟩ q5 q6
            clear keyS q1 q2 q3 q4 q5 q6 q7 z0 z1 z2 c0 c1 c2
            go_wp2_with fail
            refine hk.mono ?_
            clear hk
            rintro e w10 ⟨rfl, k9⟩
            replace k9 := Lib.hid k9
            go_wp2_with fail
            exact ⟨⟨j + 1, by go_num, by omega, k9⟩, by simp [RowKit.intOf]; omega⟩
        · obtain rfl : j = ml.length := by omega
          go_wp2_with fail
          go_ret
          exact ⟨_, _, _, _, _, _, rfl, hM.out, hp, hLk⟩
    · obtain ⟨f1, f2, f3, f4⟩ := hF b (.inl ⟨x, hl⟩)
      have g03 : w.grownBy w3 none := gnew h0 hg (fun k e => by cases e; exact .inl (by omega))
      have hfc := fileClone_any b (F b) w3 (f1.kept (P := fun _ => False) (GP.of g03 (by simp)) (fun h => h) (fun _ _ h => h)) f2 f3 f4
      have hxs : x.length ≤ maxLen := h.safe.2.1 x (DirL.look_names.1 (by rw [hl]; rfl))
      have hLl : L.length < maxLen := by omega
      have hO3 := hO.kept (P := fun k => k = W5.heap.size) (GP.of hg (fun k e => by cases e; rfl)) (fun k hk => hne k hk)
      have hle1 := hR.left_eq
      have hle3 := hR3.left_eq
      have hms : w3.rangeLeft s W5.heap.size < wr.rangeLeft s W5.heap.size := by omega
      have key : ∀ W9 b9 g9, w3.grownBy W9 none → FileAt W9 b9 g9 → SameF g9 (F b) → w3.heap.size ≤ b9 → (∀ k ∈ g9.blocks, w3.heap.size ≤ k) → W9.cell? ⟨gq, 9, none⟩ = some (.map (some gs)) ∧ ∃ w10, (Instr.mapUpdate 67 (.map (some gs)) (.string ⟨x.toArray⟩) (.pointer (some ⟨b9, 0, none⟩))).run Tryz.prog W9 = .ok () w10 ∧ w10.cell? ⟨gq, 8, none⟩ = some (.map (some gd)) ∧
          ∃ w11, (Instr.mapUpdate 67 (.map (some gd)) (.string ⟨x.toArray⟩) (.pointer (some ⟨b9, 0, none⟩))).run Tryz.prog w10 = .ok () w11 ∧ CloneI w.heap.size w s ls F gq dead p' ⟨pl.crash, pl.keep, inOrd pl.fail, inOrd pl.full, pl.room⟩ ops gd gs W5.heap.size cnt' (L ++ [(x, b9)]) w11 ∧ w11.rangeLeft s W5.heap.size < wr.rangeLeft s W5.heap.size := by
        intro W9 b9 g9 g2 q1 q2 q3 q4
        have hO9 := hO3.grown g2
        obtain ⟨w10, u1, u2, u3, _⟩ := hO9.safe.store ⟨x.toArray⟩ (by simpa [ByteArray.size] using hxs) b9 hLl
        have hO10 := hO9.putS u2 u3
        obtain ⟨w11, v1, v2, v3, _⟩ := hO10.dir.store ⟨x.toArray⟩ (by simpa [ByteArray.size] using hxs) b9 hLl
        have hCR := CloneI.round (Nat.le_refl _) hO h0 hLk hne hr hrn hl hR3 hg g2 q1 q2 q3 q4 u2 u3 v2 v3 hsl
        refine ⟨hO9.fs.safe, w10, u1, hO10.fs.dir, w11, v1, hCR, ?_⟩
        obtain ⟨_, hRR, _⟩ := hCR
        have := hRR.left_eq
        omega
      have hle9 : ∀ b9, (L ++ [(x, b9)]).length + cnt' ≤ ls.length := fun b9 => by rw [List.length_append]; simp; omega
      unfold encStr at hrun hen
      obtain ⟨s', hs'⟩ : ∃ s' : ByteArray, s' = ⟨x.toArray⟩ := ⟨_, rfl⟩
      rw [← hs'] at hrun hen key
      clear hle1 hle3 hlt hs' hl hR hR3 hO hO3 hne hLk h0 f1
      go_wp2_with first
        | (go_at_call 65
           refine hfc.mono ?_
           clear hfc
           rintro e w9 ⟨b9, g9, rfl, q1, q2, q3, q4, q5, q6, q7⟩
           obtain ⟨k1, w10, k2, k3, w11, k4, k5, k6⟩ := key w9 b9 g9 q7 q1 ⟨q2, q3, q4⟩ q5 q6
           replace k5 := Lib.hid k5
           replace k6 := Lib.hid k6
           clear key q1 q2 q3 q4 q5 q6 q7)
      exact ⟨⟨cnt', L ++ [(x, b9)], k5, hle9 b9⟩, k6.out⟩
end
end Go.Proofs.YtcehddlplkfflaaGreat

/-
  LAYER 1 (fs): numbers put in order twice are put in order once; and as a set they are what they were.
-/
namespace Go.Proofs.YtcehddlplkfflaaGreat
set_option maxRecDepth 100000

theorem inOrd_inOrd (zs : List Int) : inOrd (inOrd zs) = inOrd zs := by
  have h := List.pairwise_mergeSort (le := fun (x y : Int) => decide (x ≤ y)) (fun a b c h1 h2 => by simp at *; omega) (fun a b => by simp; omega) zs
  unfold inOrd
  exact List.mergeSort_of_pairwise h
theorem inOrd_contains (zs : List Int) (n : Int) : (inOrd zs).contains n = zs.contains n := by
  rw [Bool.eq_iff_iff, List.contains_iff_mem, List.contains_iff_mem]
  unfold inOrd
  exact (List.mergeSort_perm zs _).mem_iff
end Go.Proofs.YtcehddlplkfflaaGreat

/-
  LAYER 1 (fs): the reference's file system in memory; node: a name's number.
-/
namespace Go.Proofs.YtcehddlplkfflaaGreat
set_option maxRecDepth 100000
open Go.RowKit Go.Lib
open Go.Proofs (encStr)
attribute [local go_sem] Oper.semAt_some

theorem findI_look : ∀ (l : DirL) (s : List UInt8) (k : Nat), (l.look s = none ∧ findI l s k = -1) ∨ ∃ (j : Nat) (hj : j < l.length), findI l s k = ((k + j : Nat) : Int) ∧ l.look s = some l[j].2
  | [], _, _ => .inl ⟨rfl, rfl⟩
  | x :: l, s, k => by
    by_cases h : x.1 = s
    · right
      exact ⟨0, by simp, by simp [findI, h], by simp [DirL.look, h]⟩
    · have e : DirL.look (x :: l) s = DirL.look l s := by simp [DirL.look, h]
      rcases findI_look l s (k + 1) with ⟨h1, h2⟩ | ⟨j, hj, h1, h2⟩
      · exact .inl ⟨by rw [e]; exact h1, by unfold findI; rw [if_neg h]; exact h2⟩
      · right
        exact ⟨j + 1, by simp; omega, by unfold findI; rw [if_neg h, h1]; congr 1; omega, by rw [e]; simpa using h2⟩

/-- The reference's file system: its cells. -/
structure RefV where
  crash : Int
  k : Value
  f : Value
  u : Value
  room : Int
  count : Int
  died : Bool
  nodes : Value
  dir : Value
  safe : Value
  moves : Value
def RefAt (w : World) (q : Nat) (r : RefV) : Prop := w.heap[q]? = some (.cells #[.int .i64 r.crash, r.k, r.f, r.u, .int .i64 r.room, .int .i64 r.count, .bool r.died, r.nodes, r.dir, r.safe, r.moves] 80 (0, 0))
theorem RefAt.c8 {w : World} {q : Nat} {r : RefV} (h : RefAt w q r) : w.cell? ⟨q, 8, none⟩ = some r.dir := by simp [World.cell?, show _ = _ from h]
theorem RefAt.kept {w w' : World} {q : Nat} {r : RefV} {row : Option Nat} (h : RefAt w q r) (hg : w.grownBy w' row) (hne : some q ≠ row) : RefAt w' q r := (hg.block q (lt_of_block h) hne).trans h

set_option maxHeartbeats 4000000 in
theorem node_any (q : Nat) (r : RefV) (l : DirL) (s : ByteArray) (w : World) (h : RefAt w q r) (hr : w.ownsRow 0 128 2 r.dir l.length (nameCells l)) (hm : l.length ≤ 3518437208881) :
    Calls Tryz.prog 51 #[.pointer (some ⟨q, 0, none⟩), .string s] w fun e w' => e = .returned (.int .i64 (ptrN (l.look s.data.toList))) ∧ w.grownBy w' none := by
  have x8 := h.c8
  obtain ⟨a, c, hv⟩ := rowFormS hr
  rw [hv] at x8
  have hfd := find_any r.dir l s w hr (by omega)
  rw [hv] at hfd
  rcases findI_look l s.data.toList 0 with ⟨h1, h2⟩ | ⟨j, hj, h1, h2⟩
  · rw [h2] at hfd
    rw [h1]
    unfold ptrN
    go_enter Tryz.func51, Tryz.ntmps51
    go_wp2_with (go_at_call 80; refine hfd.mono ?_; rintro e w2 ⟨rfl, g2⟩)
    go_ret
    exact ⟨rfl, g2⟩
  · rw [h1, Nat.zero_add] at hfd
    rw [h2]
    unfold ptrN
    have key : ∀ w2, w.grownBy w2 none → w2.cell? ⟨q, 8, none⟩ = some (.slice a l.length c) ∧ ∃ gc, a = some ⟨gc, 0, none⟩ ∧ w2.cell? ⟨gc, j * 2 + 1, none⟩ = some (.int .i64 (l[j].2 : Int)) := by
      intro w2 g
      have hrow := World.ownsRow.kept hr g (notOwn (by simp))
      rw [hv] at hrow
      refine ⟨by rw [← hv]; exact (h.kept g (by simp)).c8, ?_⟩
      have hr0 := hrow
      obtain ⟨_, ⟨e, hz⟩ | ⟨g9, cap, cur, e, _⟩⟩ := hrow
      · omega
      · simp at e
        obtain ⟨rfl, rfl⟩ := e
        exact ⟨g9, rfl, by rw [World.ownsRow.cellAt hr0 _ (by omega)]; exact (nameCells_at l j hj).2⟩
    obtain ⟨Z, hZ⟩ : ∃ Z, Z = l[j].2 := ⟨_, rfl⟩
    rw [← hZ] at key ⊢
    clear hZ h1 h2 h hr x8 hv
    have x8 := (key w (World.grownBy.refl _ _)).1
    go_enter Tryz.func51, Tryz.ntmps51
    go_wp2_with first
      | (go_at_call 80
         refine hfd.mono ?_
         rintro e w2 ⟨rfl, g2⟩
         obtain ⟨y8, gc, rfl, y1⟩ := key w2 g2
         clear key)
    go_ret
    exact ⟨rfl, g2⟩
end Go.Proofs.YtcehddlplkfflaaGreat

/-
  LAYER 1 (fs): the reference's whole file system in memory: rows that own their blocks, changes, nodes, moves.
-/
namespace Go.Proofs.YtcehddlplkfflaaGreat
set_option maxRecDepth 100000
open Go.RowKit Go.Lib
open Go.Proofs (encStr)

/-- A file of the reference: its safe data, its changes. -/
structure NodeP where
  safe : List UInt8
  chg : List Chg
def NodeP.data (n : NodeP) : List UInt8 := n.chg.foldl Chg.done n.safe

/-- A row that owns its block, which is in R. -/
def OwnR (R : Nat → Prop) (w : World) (e : TypeId) (k : Nat) (v : Value) (n : Nat) (xs : List Value) : Prop := w.ownsRow 0 e k v n xs ∧ ∀ b, v.ownBlock = some b → R b
/-- What is turned are cells of these kinds. -/
def Kinds (w : World) (P : Nat → Prop) (T : List TypeId) : Prop := ∀ k cs e z, P k → w.heap[k]? = some (.cells cs e z) → e ∈ T
section
variable {R R' P : Nat → Prop} {w w' : World} {e : TypeId} {k n : Nat} {v : Value} {xs : List Value}
theorem OwnR.weak (h : OwnR R w e k v n xs) (hR : ∀ b, R b → R' b) : OwnR R' w e k v n xs := ⟨h.1, fun b hb => hR b (h.2 b hb)⟩
theorem OwnR.new (h : OwnR R w e k v n xs) (g : w.grownBy w' none) : OwnR R w' e k v n xs := ⟨World.ownsRow.kept h.1 g (by cases v.ownBlock <;> simp), h.2⟩
theorem OwnR.gp {T : List TypeId} (h : OwnR R w e k v n xs) (g : GP P w w') (hP : Kinds w P T) (he : e ∉ T) : OwnR R w' e k v n xs :=
  ⟨own_gp h.1 g (fun b hb hp => by
    obtain ⟨c, fr, h2⟩ := own_obj h.1 b hb
    exact he (hP b c e fr hp h2)), h.2⟩
theorem OwnR.nil : OwnR R w e k (.slice none 0 0) 0 [] := ⟨World.ownsRow_nil _ _ _ _, fun b hb => by cases hb⟩
theorem OwnR.of {B : Nat} (h : w.ownsRow B e k v n xs) (hR : ∀ b, B ≤ b → b < w.heap.size → R b) : OwnR R w e k v n xs :=
  ⟨World.ownsRow.mono h (Nat.zero_le _), fun b hb => hR b (World.ownsRow.lt h b hb).1 (World.ownsRow.lt h b hb).2⟩
theorem OwnR.form (h : OwnR R w e k v n xs) : ∃ a c, v = .slice a n c := rowFormS h.1
end

def chgCells1 (c : Chg) (dv : Value) : List Value := match c with
  | .add _ => [.bool false, .int .i64 0, dv]
  | .cut n => [.bool true, .int .i64 (n : Int), dv]
def chgCells (l : List (Chg × Value)) : List Value := l.flatMap fun x => chgCells1 x.1 x.2
def chgData : Chg → List UInt8
  | .add a => a.data.toList
  | .cut _ => []
/-- A file's changes in memory. -/
def ChgsR (R : Nat → Prop) (w : World) (cv : Value) (cs : List Chg) : Prop :=
  ∃ dvs : List Value, dvs.length = cs.length ∧ OwnR R w 123 3 cv cs.length (chgCells (cs.zip dvs)) ∧
    ∀ (i : Nat) (c : Chg) (dv : Value), cs[i]? = some c → dvs[i]? = some dv → OwnR R w 5 1 dv (chgData c).length (byteCells (chgData c))
/-- A file in memory. -/
def NodeR (R : Nat → Prop) (w : World) (sv cv : Value) (n : NodeP) : Prop := OwnR R w 5 1 sv n.safe.length (byteCells n.safe) ∧ ChgsR R w cv n.chg
def nodeCells (l : List (Value × Value)) : List Value := l.flatMap fun x => [x.1, x.2]

/-- A move: made, renamed, removed. -/
inductive RMv where
  | made (a : ByteArray) (i : Nat)
  | ren (a b : ByteArray) (i : Nat)
  | rem (a : ByteArray)
def RMv.cells : RMv → List Value
  | .made a i => [.int .i64 1, .string a, .string ⟨#[]⟩, .int .i64 (i : Int)]
  | .ren a b i => [.int .i64 2, .string a, .string b, .int .i64 (i : Int)]
  | .rem a => [.int .i64 3, .string a, .string ⟨#[]⟩, .int .i64 0]
def RMv.done (l : DirL) : RMv → DirL
  | .made a i => l.put a.data.toList i
  | .ren a b i => (DirL.drop l a.data.toList).put b.data.toList i
  | .rem a => l.drop a.data.toList
def rmvCells (l : List RMv) : List Value := l.flatMap RMv.cells

/-- The reference's file system. -/
structure RefP where
  pl : Pl
  count : Int
  died : Bool
  nodes : List NodeP
  dir : DirL
  safe : DirL
  moves : List RMv

/-- Its rows in memory. -/
structure RefRows (R : Nat → Prop) (w : World) (a : RefP) (r : RefV) (vs : List (Value × Value)) : Prop where
  rk : OwnR R w 3 1 r.k a.pl.keep.length (a.pl.keep.map intV)
  rf : OwnR R w 3 1 r.f a.pl.fail.length (a.pl.fail.map intV)
  ru : OwnR R w 3 1 r.u a.pl.full.length (a.pl.full.map intV)
  vl : vs.length = a.nodes.length
  rn : OwnR R w 98 2 r.nodes a.nodes.length (nodeCells vs)
  node : ∀ (i : Nat) (v : Value × Value) (n : NodeP), vs[i]? = some v → a.nodes[i]? = some n → NodeR R w v.1 v.2 n
  rd : OwnR R w 128 2 r.dir a.dir.length (nameCells a.dir)
  rs : OwnR R w 128 2 r.safe a.safe.length (nameCells a.safe)
  rm : OwnR R w 120 4 r.moves a.moves.length (rmvCells a.moves)
/-- All of it in memory. -/
structure RefOk (R : Nat → Prop) (w : World) (q : Nat) (a : RefP) (r : RefV) (vs : List (Value × Value)) : Prop where
  at_ : RefAt w q r
  rq : R q
  crash : r.crash = a.pl.crash
  room : r.room = a.pl.room
  count : r.count = a.count
  died : r.died = a.died
  rows : RefRows R w a r vs

section
variable {R R' P : Nat → Prop} {w w' : World} {q : Nat} {a : RefP} {r : RefV} {vs : List (Value × Value)} {cv sv : Value} {cs : List Chg} {n : NodeP}
theorem ChgsR.weak (h : ChgsR R w cv cs) (hR : ∀ b, R b → R' b) : ChgsR R' w cv cs := by
  obtain ⟨dvs, h1, h2, h3⟩ := h
  exact ⟨dvs, h1, h2.weak hR, fun i c dv e1 e2 => (h3 i c dv e1 e2).weak hR⟩
theorem ChgsR.gp {T : List TypeId} (h : ChgsR R w cv cs) (g : GP P w w') (hP : Kinds w P T) (h1 : 123 ∉ T) (h2 : 5 ∉ T) : ChgsR R w' cv cs := by
  obtain ⟨dvs, q1, q2, q3⟩ := h
  exact ⟨dvs, q1, q2.gp g hP h1, fun i c dv e1 e2 => (q3 i c dv e1 e2).gp g hP h2⟩
theorem NodeR.weak (h : NodeR R w sv cv n) (hR : ∀ b, R b → R' b) : NodeR R' w sv cv n := ⟨h.1.weak hR, h.2.weak hR⟩
theorem NodeR.gp {T : List TypeId} (h : NodeR R w sv cv n) (g : GP P w w') (hP : Kinds w P T) (h1 : 123 ∉ T) (h2 : 5 ∉ T) : NodeR R w' sv cv n := ⟨h.1.gp g hP h2, h.2.gp g hP h1 h2⟩
theorem kinds_none (w : World) : Kinds w (fun _ => False) [] := fun _ _ _ _ h => h.elim
theorem gp_none {w w' : World} (g : w.grownBy w' none) : GP (fun _ => False) w w' := GP.of g (by simp)
theorem NodeR.new (h : NodeR R w sv cv n) (g : w.grownBy w' none) : NodeR R w' sv cv n := h.gp (gp_none g) (kinds_none w) (by simp) (by simp)
theorem ChgsR.new (h : ChgsR R w cv cs) (g : w.grownBy w' none) : ChgsR R w' cv cs := h.gp (gp_none g) (kinds_none w) (by simp) (by simp)
theorem RefRows.weak (h : RefRows R w a r vs) (hR : ∀ b, R b → R' b) : RefRows R' w a r vs :=
  ⟨h.rk.weak hR, h.rf.weak hR, h.ru.weak hR, h.vl, h.rn.weak hR, fun i v n e1 e2 => (h.node i v n e1 e2).weak hR, h.rd.weak hR, h.rs.weak hR, h.rm.weak hR⟩
theorem RefRows.gp (h : RefRows R w a r vs) (g : GP P w w') {T : List TypeId} (hP : Kinds w P T) (hT : ∀ e ∈ T, e = 80) : RefRows R w' a r vs := by
  have ne : ∀ e, e ≠ 80 → e ∉ T := fun e he h => he (hT e h)
  exact ⟨h.rk.gp g hP (ne _ (by decide)), h.rf.gp g hP (ne _ (by decide)), h.ru.gp g hP (ne _ (by decide)), h.vl, h.rn.gp g hP (ne _ (by decide)), fun i v n e1 e2 => (h.node i v n e1 e2).gp g hP (ne _ (by decide)) (ne _ (by decide)), h.rd.gp g hP (ne _ (by decide)), h.rs.gp g hP (ne _ (by decide)), h.rm.gp g hP (ne _ (by decide))⟩
theorem RefRows.new (h : RefRows R w a r vs) (g : w.grownBy w' none) : RefRows R w' a r vs := h.gp (gp_none g) (kinds_none w) (by simp)
theorem RefOk.new (h : RefOk R w q a r vs) (g : w.grownBy w' none) : RefOk R w' q a r vs :=
  ⟨h.at_.kept g (by simp), h.rq, h.crash, h.room, h.count, h.died, h.rows.new g⟩
/-- Nobody turned its blocks. -/
theorem RefOk.kept (h : RefOk R w q a r vs) (g : GP P w w') (hP : ∀ k, R k → ¬ P k) : RefOk R w' q a r vs := by
  have row : ∀ {e k n : Nat} {v : Value} {xs : List Value}, OwnR R w e k v n xs → OwnR R w' e k v n xs := fun {e k n v xs} o => ⟨own_gp o.1 g (fun b hb hp => hP b (o.2 b hb) hp), o.2⟩
  refine ⟨(g.block q (lt_of_block h.at_) (hP q h.rq)).trans h.at_, h.rq, h.crash, h.room, h.count, h.died, ⟨row h.rows.rk, row h.rows.rf, row h.rows.ru, h.rows.vl, row h.rows.rn, fun i v n e1 e2 => ?_, row h.rows.rd, row h.rows.rs, row h.rows.rm⟩⟩
  obtain ⟨h1, dvs, q1, q2, q3⟩ := h.rows.node i v n e1 e2
  exact ⟨row h1, dvs, q1, row q2, fun i c dv e1 e2 => row (q3 i c dv e1 e2)⟩
theorem RefOk.weak (h : RefOk R w q a r vs) (hR : ∀ b, R b → R' b) : RefOk R' w q a r vs :=
  ⟨h.at_, hR _ h.rq, h.crash, h.room, h.count, h.died, h.rows.weak hR⟩
/-- Only its own block was turned. -/
theorem RefOk.own {a' : RefP} {r' : RefV} (h : RefOk R w q a r vs) (g : w.grownBy w' (some q)) (h' : RefAt w' q r') (hc : r'.crash = a'.pl.crash) (hr : r'.room = a'.pl.room) (hn : r'.count = a'.count) (hd : r'.died = a'.died) (hrow : RefRows R w a r vs → RefRows R w' a r vs → RefRows R w' a' r' vs) : RefOk R w' q a' r' vs := by
  refine ⟨h', h.rq, hc, hr, hn, hd, hrow h.rows (h.rows.gp (P := fun k => k = q) (GP.of g (fun k e => by cases e; rfl)) (T := [80]) (fun k cs e z hk hb => ?_) (by simp))⟩
  subst hk
  have := apart_obj hb (show _ = _ from h.at_)
  simp at this
  simp [this.2.1]
/-- What lies beyond the world's end is nobody's. -/
theorem OwnR.bound {e k n : Nat} {v : Value} {xs : List Value} (h : OwnR R w e k v n xs) : OwnR (fun b => R b ∧ b < w.heap.size) w e k v n xs := ⟨h.1, fun b hb => ⟨h.2 b hb, (World.ownsRow.lt h.1 b hb).2⟩⟩
theorem RefOk.bound (h : RefOk R w q a r vs) : RefOk (fun b => R b ∧ b < w.heap.size) w q a r vs := by
  refine ⟨h.at_, ⟨h.rq, lt_of_block h.at_⟩, h.crash, h.room, h.count, h.died, ⟨h.rows.rk.bound, h.rows.rf.bound, h.rows.ru.bound, h.rows.vl, h.rows.rn.bound, fun i v n e1 e2 => ?_, h.rows.rd.bound, h.rows.rs.bound, h.rows.rm.bound⟩⟩
  obtain ⟨h1, dvs, q1, q2, q3⟩ := h.rows.node i v n e1 e2
  exact ⟨h1.bound, dvs, q1, q2.bound, fun i c dv e1 e2 => (q3 i c dv e1 e2).bound⟩
end
/-- Lists of cells, so many an element. -/
theorem flat_len {α : Type} (f : α → List Value) (k : Nat) (hk : ∀ x, (f x).length = k) : ∀ l : List α, (l.flatMap f).length = l.length * k
  | [] => by simp
  | x :: l => by rw [List.flatMap_cons, List.length_append, hk, flat_len f k hk l, List.length_cons, Nat.add_mul, Nat.one_mul, Nat.add_comm]
theorem flat_at {α : Type} (f : α → List Value) (k : Nat) (hk : ∀ x, (f x).length = k) : ∀ (l : List α) (i : Nat) (x : α), l[i]? = some x → ∀ j, j < k → (l.flatMap f)[i * k + j]? = (f x)[j]?
  | [], _, _, h, _, _ => by simp at h
  | y :: l, 0, x, h, j, hj => by
    simp at h
    subst h
    rw [List.flatMap_cons, Nat.zero_mul, Nat.zero_add, List.getElem?_append_left (by rw [hk]; exact hj)]
  | y :: l, i + 1, x, h, j, hj => by
    have ih := flat_at f k hk l i x (by simpa using h) j hj
    rw [List.flatMap_cons, List.getElem?_append_right (by rw [hk, Nat.add_mul, Nat.one_mul]; omega), hk, ← ih]
    congr 1
    rw [Nat.add_mul]
    omega
theorem OwnR.cell {R : Nat → Prop} {w : World} {e : TypeId} {k n c : Nat} {a : Option Addr} {xs : List Value} (h : OwnR R w e k (.slice a n c) n xs) (hn : 0 < n) : ∃ g, a = some ⟨g, 0, none⟩ ∧ R g ∧ g < w.heap.size ∧ (∀ j, j < n * k → w.cell? ⟨g, j, none⟩ = xs[j]?) ∧ ∀ j, w.frozen? ⟨g, j, none⟩ = false := by
  obtain ⟨hr, hR⟩ := h
  have hr0 := hr
  obtain ⟨_, ⟨e1, hz⟩ | ⟨g, cap, cur, e1, _, hg, _⟩⟩ := hr
  · omega
  · obtain ⟨rfl, rfl⟩ : a = some ⟨g, 0, none⟩ ∧ c = cap := by simpa using e1
    exact ⟨g, rfl, hR g rfl, lt_of_block hg, fun j hj => World.ownsRow.cellAt hr0 j hj, fun j => World.ownsRow.frozenAt hr0 j⟩
theorem chg1_len (x : Chg × Value) : (chgCells1 x.1 x.2).length = 3 := by obtain ⟨c, dv⟩ := x; cases c <;> rfl
theorem rmv_len (m : RMv) : m.cells.length = 4 := by cases m <;> rfl
/-- R and what is new. -/
def RU (R : Nat → Prop) (w w' : World) (k : Nat) : Prop := R k ∨ w.heap.size ≤ k ∧ k < w'.heap.size
end Go.Proofs.YtcehddlplkfflaaGreat
