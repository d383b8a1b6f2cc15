/-
  LAYER 1 (fs): FsSynced, its walk.
-/
import Derived.Test.YtcehddlplkfflaaGreatFN24
namespace Go.Proofs.YtcehddlplkfflaaGreat
set_option maxRecDepth 100000
open Go.RowKit Go.Lib Go.ChangeShapes Go.WideShapes Go.ChangeAt
attribute [local go_sem] Oper.semAt_some

section
variable {n0 : Nat → Prop} {w W W' : World} {f : Nat} {a : RefP} {F : Nat → Prop} {N : Nat}
theorem FsSim.dead (S : FsSim n0 w f a) : Calls Tryz.prog 20 #[.pointer (some ⟨f, 0, none⟩)] w fun e w' => e = .returned (.bool a.died) ∧ w = w' := by
  obtain ⟨φ, p, d, s, mv, fl, h, hs⟩ := S
  exact dead_fs w h.fs
theorem FsSim.ops (S : FsSim n0 w f a) : Calls Tryz.prog 27 #[.pointer (some ⟨f, 0, none⟩)] w fun e w' => e = .returned (.int .i64 a.count) ∧ w = w' := by
  obtain ⟨φ, p, d, s, mv, fl, h, hs⟩ := S
  exact ops_fs w h.fs
/-- A list of files that was told keeps, whatever files are turned that lay there before, or made since. -/
theorem FilesAt.since {w5 : World} {P : Nat → Prop} {B : Nat} {v : Value} {rows : List FRow} (h : FilesAt w5 B v rows) (g : GP P w5 W) (hP : ∀ k, P k → k < B) : FilesAt W B v rows := h.gp g (fun k hk => .inl (hP k hk))
end
set_option maxHeartbeats 16000000 in
theorem FsSynced_go (w : World) (pv v qv : Value) (p qp : Pl) (L : List OpP) (hp : PlanR w pv p) (h : OpsR w v L) (hq : PlanR w qv qp) :
    Calls Tryz.prog 5 #[pv, v, qv] w fun e w' => e = .returned (.bool true) ∧ w.grownBy w' none := by
  have hL : L.length ≤ 1099511627776 := by obtain ⟨_, _, _, h2, _⟩ := h; omega
  have hfit : ∀ o ∈ L, o.Fits := by obtain ⟨_, _, _, _, h3, _⟩ := h; exact h3
  have hlB : L.length ≤ 879609302208 := by obtain ⟨_, _, _, h2, _⟩ := h; exact h2
  obtain ⟨va, vc, hv⟩ : ∃ a c, v = .slice a L.length c := by obtain ⟨a, c, h2, _⟩ := h; exact ⟨a, c, h2⟩
  subst hv
  have hp0 := hp
  have hq0 := hq
  obtain ⟨a1, c1, a2, c2, a3, c3, rfl, hpf, -, -, -⟩ := hp0
  obtain ⟨b1, d1, b2, d2, b3, d3, rfl, -, -, -, -⟩ := hq0
  obtain ⟨ln, hln⟩ : ∃ n, n = L.length := ⟨_, rfl⟩
  rw [← hln] at h ⊢
  generalize hn1 : p.keep.length = n1 at *
  generalize hn2 : p.fail.length = n2 at *
  generalize hn3 : p.full.length = n3 at *
  generalize hm1 : qp.keep.length = m1 at *
  generalize hm2 : qp.fail.length = m2 at *
  generalize hm3 : qp.full.length = m3 at *
  obtain ⟨W0, hW0⟩ : ∃ W0, W0 = (w.alloc (.cells #[.int .i64 p.crash, .slice a1 n1 c1, .slice a2 n2 c2, .slice a3 n3 c3, .int .i64 p.room] 24)).alloc (.cells #[.int .i64 qp.crash, .slice b1 m1 d1, .slice b2 m2 d2, .slice b3 m3 d3, .int .i64 qp.room] 24) := ⟨_, rfl⟩
  have gB : w.grownBy W0 none := by rw [hW0]; exact galloc (World.grownBy_alloc w _ none) _
  have P0 : PlanAt W0 w.heap.size (.int .i64 p.crash) (.slice a1 n1 c1) (.slice a2 n2 c2) (.slice a3 n3 c3) (.int .i64 p.room) := by
    rw [hW0]
    exact ((World.grownBy_alloc (w.alloc _) _ none).block w.heap.size (by simp) (by simp)).trans (World.alloc_heap_new w _)
  have Q0 : PlanAt W0 (w.heap.size + 1) (.int .i64 qp.crash) (.slice b1 m1 d1) (.slice b2 m2 d2) (.slice b3 m3 d3) (.int .i64 qp.room) := by
    rw [hW0]
    have := World.alloc_heap_new (w.alloc (.cells #[.int .i64 p.crash, .slice a1 n1 c1, .slice a2 n2 c2, .slice a3 n3 c3, .int .i64 p.room] 24)) (.cells #[.int .i64 qp.crash, .slice b1 m1 d1, .slice b2 m2 d2, .slice b3 m3 d3, .int .i64 qp.room] 24)
    rwa [World.size_alloc] at this
  have haw := fawake_any W0
  have hfi : Hid (∀ W, w.grownBy W none → Calls Tryz.prog 10 #[.slice va ln vc] W (SomeB W)) := Lib.hid fun W g => fits_any _ L W (h.new g)
  have hma : Hid (∀ W, w.grownBy W none → Calls Tryz.prog 15 #[.agg #[.int .i64 p.crash, .slice a1 n1 c1, .slice a2 n2 c2, .slice a3 n3 c3, .int .i64 p.room], .slice va ln vc] W fun e w' => ∃ f q F R, e = .returned (.tuple #[.pointer (some ⟨f, 0, none⟩), .pointer (some ⟨q, 0, none⟩), .bool true]) ∧ Made W L p w' f q F R) := Lib.hid fun W g => made_any _ _ p L W (hp.new g) (h.new g)
  obtain ⟨A, hA⟩ : ∃ A, A = L.foldl RefP.op (RefP.new p) := ⟨_, rfl⟩
  have hAI : RInv L.length A ∧ (A.died = true → Settled A) := by rw [hA]; exact made_inv hpf hfit
  have hqf : planFits qp := by obtain ⟨_, _, _, _, _, _, _, k, _⟩ := hq; exact k
  obtain ⟨NL, hNL⟩ : ∃ NL, NL = A.dir.length := ⟨_, rfl⟩
  have hNL9 : NL ≤ 4096 := by rw [hNL]; exact hAI.1.dirOk.len
  replace hNL := Lib.hid hNL
  obtain ⟨ad, had⟩ : ∃ ad, ad = A.died := ⟨_, rfl⟩
  replace had := Lib.hid had
  replace hA := Lib.hid hA
  replace hAI := Lib.hid hAI
  replace hqf := Lib.hid hqf
  replace hq := Lib.hid hq
  replace hL := Lib.hid hL
  replace hlB := Lib.hid hlB
  replace hln := Lib.hid hln
  replace gB := Lib.hid gB
  replace hn1 := Lib.hid hn1
  replace hn2 := Lib.hid hn2
  replace hn3 := Lib.hid hn3
  replace hm1 := Lib.hid hm1
  replace hm2 := Lib.hid hm2
  replace hm3 := Lib.hid hm3
  obtain ⟨bq, hbq⟩ : ∃ bq, bq = w.heap.size + 1 := ⟨_, rfl⟩
  rw [← hbq] at Q0
  clear h hp hfit hpf
  go_enter Tryz.func5, Tryz.ntmps5
  go_upto_region 1 with fail
  rw [← hW0, ← hbq]
  replace hW0 := Lib.hid hW0
  replace hbq := Lib.hid hbq
  go_upto_region 3 with
    (go_at_call 9
     refine haw.mono ?_
     clear haw
     rintro e w1 ⟨rfl, g1⟩
     have G1 := Lib.hid (gB.out.trans g1)
     have hf1 := hfi.out w1 G1.out
     have P1 := P0.kept g1 (by simp)
     have Q1 := Q0.kept g1 (by simp)
     clear g1 P0 Q0)
  go_wp2_with fail
  refine hf1.mono ?_
  clear hf1
  rintro e w2 ⟨b, rfl, g2⟩
  have G2 := Lib.hid (G1.out.trans g2)
  have hm2 := hma.out w2 G2.out
  have P2 := P1.kept g2 (by simp)
  have Q2 := Lib.hid (Q1.kept g2 (by simp))
  have x0 := P2.c0
  have x1 := P2.c1
  have x2 := P2.c2
  have x3 := P2.c3
  have x4 := P2.c4
  clear g2 P1 P2 Q1
  cases b
  · go_wp2_with fail
    go_ret
    exact ⟨rfl, G2.out⟩
  · cases ad
    · go_upto_region 11 with first
        | (go_at_call 15
           refine hm2.mono ?_
           clear hm2
           rintro e w3 ⟨f, q, F3, R, rfl, M⟩
           have FA := M.alone
           rw [← hA.out] at FA
           have hdd := FA.fs.dead
           rw [← had.out] at hdd
           have hfs := FA.fs.files hAI.out.1 hL.out
           have FA3 := Lib.hid FA
           clear M FA x0 x1 x2 x3 x4)
        | (go_at_call 20
           refine hdd.mono ?_
           clear hdd
           rintro e w3' ⟨rfl, rfl⟩)
        | (go_at_call 21
           refine hfs.mono ?_
           clear hfs
           rintro e w5 ⟨v5, rows, rfl, k5, e5, g5⟩
           obtain ⟨x5, y5, rfl⟩ := rowFormS k5.1
           have hre : rows.map (fun r => r.1) = A.dir.sorted.map (·.1) := by
             have h9 := congrArg (List.map Prod.fst) e5
             rw [List.map_map] at h9
             unfold RefP.files at h9
             rw [if_neg (by rw [← had.out]; simp), List.map_map] at h9
             exact h9
           have hrl : rows.length = NL := by
             have := congrArg List.length hre
             rw [List.length_map, List.length_map, DirL.sorted_length, ← hNL.out] at this
             exact this
           rw [hrl] at k5 ⊢
           have k5h := Lib.hid k5
           have hreh := Lib.hid hre
           have hrlh := Lib.hid hrl
           have FA5 := Lib.hid (FA3.out.new g5)
           have gs5 := Lib.hid g5.size
           have hF3 : Hid (∀ k, F3 k → k < w3.heap.size) := Lib.hid (fun k hk => (FA3.out.fl k hk).2)
           clear k5 e5 g5 hre hrl)
      go_loopw [11, 32] (fun _ vi wr => ∃ (j : Nat) (F : Nat → Prop) (a : RefP), vi = .int .i64 (j : Int) ∧ j ≤ NL ∧ Hid (FAlone w2 f a wr F) ∧ Hid (RInv (L.length + j) a) ∧ Hid (Syncing A (A.dir.sorted.map (·.1)) j a) ∧ Hid (GP F3 w5 wr) ∧ Hid (∀ k, F k → F3 k ∨ w5.heap.size ≤ k)) (fun _ vi _ => NL - (RowKit.intOf vi).toNat)
      case atStart => exact ⟨0, F3, A, rfl, Nat.zero_le _, FA5, Lib.hid hAI.out.1, Lib.hid ⟨rfl, rfl, fun k x i hk => by omega⟩, Lib.hid (GP.refl _ _), Lib.hid (fun k hk => .inl hk)⟩
      case round =>
        obtain ⟨j, F, a, rfl, hj, hFA, hI, hS, hG, hFF⟩ := hrel
        by_cases hlt : j < NL
        · have hltz : (j : Int) < (NL : Int) := by omega
          obtain ⟨x, hx⟩ : ∃ x, rows[j]? = some x := ⟨_, List.getElem?_eq_getElem (by rw [hrlh.out]; exact hlt)⟩
          have hxn : (A.dir.sorted.map (·.1))[j]? = some x.1 := by rw [← hreh.out, List.getElem?_map, hx]; rfl
          obtain ⟨b, da, dc, rfl, _, hbl, q0, _, q1⟩ := (k5h.out.since hG.out hF3.out).at hx
          obtain ⟨xs, hxs⟩ : ∃ xs : ByteArray, xs = ⟨x.1.toArray⟩ := ⟨_, rfl⟩
          rw [← hxs] at q0
          generalize x.2.2.length = dl at *
          have gX := World.grownBy_alloc wr (.cells #[.string xs, .slice da dl dc] 53) none
          have FX := hFA.out.new gX
          have hxz : xs.size ≤ maxLen := by
            obtain ⟨y, hy, hye⟩ := List.mem_map.1 (List.mem_of_getElem? hxn)
            have h32 := hAI.out.1.dirOk.lookShort (DirL.sorted_look _ y hy)
            rw [hye, ← show xs.data.toList = x.1 by rw [hxs], bsize] at h32
            unfold maxLen
            omega
          have hsy := FX.step (fun S hn => S.sync hI.out (by have := hlB.out; omega) hn xs hxz)
          obtain ⟨r1, hr1⟩ : ∃ r1, r1 = (a.sync xs).1 := ⟨_, rfl⟩
          rw [← hr1] at hsy
          by_cases hz : r1 = 0
          · subst hz
            have hS2 : Hid (Syncing A (A.dir.sorted.map (·.1)) (j + 1) (a.sync xs).2) := Lib.hid (by
              rw [hxs]
              exact hS.out.next hI.out hxn (by rw [← hxs]; exact hr1.symm))
            have hI2 : Hid (RInv (L.length + (j + 1)) (a.sync xs).2) := Lib.hid (by rw [← Nat.add_assoc]; exact hI.out.sync xs)
            replace hr1 := Lib.hid hr1
            replace hxs := Lib.hid hxs
            replace gX := Lib.hid gX
            clear hx hxn FX hxz
            go_wp2_with (go_at_call 22
                         refine hsy.mono ?_
                         clear hsy
                         rintro e w6 ⟨rfl, h6, g6⟩
                         have h6h := Lib.hid h6
                         have hs9 := hG.out.size
                         have g6h := Lib.hid ((hG.out.trans (GP.of (P := F3) gX.out (by simp)) (fun k hk => .inl hk)).trans g6 (fun k hk => hFF.out k hk))
                         clear h6 g6)
            exact ⟨⟨j + 1, _, _, by go_num, by omega, h6h, hI2, hS2, g6h, Lib.hid (fun k hk => hk.elim (hFF.out k) (fun h => .inr (Nat.le_trans hs9 (Nat.le_trans gX.out.size h.1))))⟩, by simp [RowKit.intOf]; omega⟩
          · have hzb : (r1 == 0) = false := by simpa using hz
            replace hr1 := Lib.hid hr1
            replace hxs := Lib.hid hxs
            clear hx hxn FX hxz gX hz
            go_wp2_with (go_at_call 22
                         refine hsy.mono ?_
                         clear hsy
                         rintro e w6 ⟨rfl, h6, g6⟩
                         have FFn := Lib.hid (G2.out.trans h6.grown)
                         clear h6 g6)
            go_ret
            exact ⟨rfl, FFn.out⟩
        · obtain rfl : j = NL := by omega
          have hsd := hFA.out.step (fun S hn => S.syncDir hI.out (by have := hlB.out; omega) hn)
          obtain ⟨r2, hr2⟩ : ∃ r2, r2 = a.syncDir.1 := ⟨_, rfl⟩
          obtain ⟨b, hb⟩ : ∃ b, b = a.syncDir.2 := ⟨_, rfl⟩
          have hBI := hI.out.syncDir
          rw [← hr2, ← hb] at hsd
          rw [← hb] at hBI
          by_cases hz : r2 = 0
          · subst hz
            have hset := hS.out
            rw [hNL.out] at hset
            have hset2 := hset.settled hr2.symm
            rw [← hb, ← had.out] at hset2
            have hN : L.length + j + 1 ≤ 1099511627776 := by have := hlB.out; omega
            have hCI := hBI.start qp hqf.out
            have hCf := hset2.1.start hBI hset2.2 qp
            have hCs := (start_settled hBI (fun e => by rw [hset2.2] at e; cases e) qp).files rfl
            rw [hCf] at hCs
            have hlen := files_len hBI
            have hlen5 : ∀ rows : List FRow, rows.map (fun r => (r.1, r.2.2)) = b.files → rows.length ≤ 65536 := fun rows e => by
              have := congrArg List.length e
              rw [List.length_map] at this
              omega
            replace hBI := Lib.hid hBI
            replace hCI := Lib.hid hCI
            replace hCf := Lib.hid hCf
            replace hCs := Lib.hid hCs
            replace hlen5 := Lib.hid hlen5
            replace hN := Lib.hid hN
            replace hr2 := Lib.hid hr2
            replace hb := Lib.hid hb
            clear hset hset2 hlen hS hI hG hFF
            go_wp2_with first
              | (go_at_call 23
                 refine hsd.mono ?_
                 clear hsd
                 rintro e w7 ⟨rfl, FB, g7⟩
                 have hfs1 := FB.fs.files hBI.out hN.out
                 have FB7 := Lib.hid FB
                 clear FB g7)
              | (go_at_call 21
                 refine hfs1.mono ?_
                 clear hfs1
                 rintro e w8 ⟨v8, rows8, rfl, k8, e8, g8⟩
                 obtain ⟨x8, y8, rfl⟩ := rowFormS k8.1
                 have FB8 := Lib.hid (FB7.out.new g8)
                 have hst := FB8.out.start hBI.out hN.out (hq.out.new G2.out)
                 have Q8 := Q2.out.kept FB8.out.grown (by simp)
                 have y0 := Q8.c0
                 have y1 := Q8.c1
                 have y2 := Q8.c2
                 have y3 := Q8.c3
                 have y4 := Q8.c4
                 have k8h := Lib.hid k8
                 have e8h := Lib.hid e8
                 clear k8 e8 g8 Q8)
              | (go_at_call 24
                 refine hst.mono ?_
                 clear hst
                 rintro e w9 ⟨rfl, FC, g9⟩
                 have hfs2 := FC.fs.files hCI.out hN.out
                 have FC9 := Lib.hid FC
                 have k89 := Lib.hid (k8h.out.since g9 (fun k hk => (FB7.out.fl k hk).2))
                 clear FC g9 y0 y1 y2 y3 y4)
              | (go_at_call 21
                 refine hfs2.mono ?_
                 clear hfs2
                 rintro e w10 ⟨v10, rows10, rfl, k10, e10, g10⟩
                 obtain ⟨x10, y10, rfl⟩ := rowFormS k10.1
                 rw [hCf.out] at e10
                 have FC10 := Lib.hid (FC9.out.new g10)
                 have hsm1 := rsame_any k10 (k89.out.new g10) (by rw [e10, e8h.out]) (hlen5.out rows10 e10)
                 have k810 := Lib.hid (k89.out.new g10)
                 clear k10 e10 g10)
              | (go_at_call 25
                 refine hsm1.mono ?_
                 clear hsm1
                 rintro e w11 ⟨rfl, g11⟩
                 have FC11 := Lib.hid (FC10.out.new g11)
                 have hsf := FC11.out.fs.safes hCI.out hN.out
                 have k811 := Lib.hid (k810.out.new g11)
                 clear g11)
              | (go_at_call 26
                 refine hsf.mono ?_
                 clear hsf
                 rintro e w12 ⟨v12, rows12, rfl, k12, e12, g12⟩
                 obtain ⟨x12, y12, rfl⟩ := rowFormS k12.1
                 rw [hCs.out] at e12
                 have FC12 := Lib.hid (FC11.out.new g12)
                 have hsm2 := rsame_any k12 (k811.out.new g12) (by rw [e12, e8h.out]) (hlen5.out rows12 e12)
                 clear k12 e12 g12)
              | (go_at_call 25
                 refine hsm2.mono ?_
                 clear hsm2
                 rintro e w13 ⟨rfl, g13⟩
                 have FC13 := Lib.hid (FC12.out.new g13)
                 have hop := FC13.out.fs.ops
                 rw [show (b.start qp).count = 0 from rfl] at hop
                 have hde := FC13.out.fs.dead
                 rw [show (b.start qp).died = false from rfl] at hde
                 clear g13)
              | (go_at_call 27
                 refine hop.mono ?_
                 clear hop
                 rintro e w13' ⟨rfl, rfl⟩)
              | (go_at_call 20
                 refine hde.mono ?_
                 clear hde
                 rintro e w13' ⟨rfl, rfl⟩)
            go_ret
            exact ⟨rfl, G2.out.trans FC13.out.grown⟩
          · have hzb : (r2 == 0) = false := by simpa using hz
            replace hr2 := Lib.hid hr2
            replace hb := Lib.hid hb
            clear hz hBI
            go_wp2_with (go_at_call 23
                         refine hsd.mono ?_
                         clear hsd
                         rintro e w7 ⟨rfl, FB, g7⟩
                         have FFn := Lib.hid (G2.out.trans FB.grown)
                         clear FB g7)
            go_ret
            exact ⟨rfl, FFn.out⟩
    · go_wp2_with first
        | (go_at_call 15
           refine hm2.mono ?_
           clear hm2
           rintro e w3 ⟨f, q, F3, R, rfl, M⟩
           have FA := M.alone
           rw [← hA.out] at FA
           have hdd := FA.fs.dead
           rw [← had.out] at hdd
           have FA3 := Lib.hid FA.grown
           clear M FA x0 x1 x2 x3 x4)
        | (go_at_call 20
           refine hdd.mono ?_
           clear hdd
           rintro e w3' ⟨rfl, rfl⟩)
      go_ret
      exact ⟨rfl, G2.out.trans FA3.out⟩
theorem FsSynced_walk (w : World) (pv : Value) (p : Pl) (hp : PlanR w pv p) (v : Value) (L : List OpP) (h : OpsR w v L) (qv : Value) (qp : Pl) (hq : PlanR w qv qp) :
    Calls Tryz.prog 5 #[pv, v, qv] w fun e w' => e = .returned (.bool true) ∧ Below w.heap.size w w' := by
  refine (FsSynced_go w pv v qv p qp L hp h hq).mono ?_
  rintro e w' ⟨rfl, g⟩
  exact ⟨rfl, gbelow g (Nat.le_refl _) (by simp)⟩
end Go.Proofs.YtcehddlplkfflaaGreat
