/-
  LAYER 1 (fs): Append, Start, New of the program, as the plain file system has them.
-/
import Derived.Test.YtafcgjbafihniaaGreatFA19
import Derived.Test.YtafcgjbafihniaaGreatFA17
import Derived.Test.YtafcgjbafihniaaGreatFA18
namespace Go.Proofs.YtafcgjbafihniaaGreat
set_option maxRecDepth 100000
open Go.RowKit Go.Lib

section
variable {n0 m0 : Nat → Prop} {w : World} {q : Nat} {a : RefP} {N : Nat}
theorem FsSim.re (S : FsSim n0 w q a) (h : ∀ k, k < w.heap.size → n0 k → m0 k) : FsSim m0 w q a := by
  obtain ⟨φ, p, d, s, mv, fl, k, hs⟩ := S
  exact ⟨φ, p, d, s, mv, fl, ⟨k.fs, k.pc, k.pr, k.rk, k.rf, k.ru, k.dir, k.safe, k.mr, k.files, k.nds, fun j hj => h j (k.lt j hj) (k.new j hj)⟩, hs⟩
theorem FSim.lens {φ : Nat → Nat} {fl : List (Nat × FileV)} {l : DirL} (hfm : FilesM w fl) (S : FSim φ a fl) (I : RInv N a) (hN : N ≤ 2199023255552) (hl : ∀ x i, l.look x = some i → a.live i) :
    ∀ x b, (l.mapB φ).look x = some b → FileAt w b (fileOf fl b) ∧ (fileOf fl b).data.length ≤ 268435456 ∧ (fileOf fl b).safe.length ≤ 268435456 := by
  intro x b e
  rw [DirL.mapB_look] at e
  obtain ⟨j, hj, rfl⟩ := Option.map_eq_some_iff.1 e
  have hlv := hl x j hj
  obtain ⟨f, h1, h2, _, h3⟩ := S.file j hlv
  rw [fileOf_mem (blocks_one hfm.2) h1]
  have hg := I.good _ (RefP.file_mem (I.liveLt hlv))
  exact ⟨hfm.1 _ h1, by rw [h3]; exact hg.last, by rw [h2]; exact hg.head⟩
theorem FSim.used {φ : Nat → Nat} {p : PlV} {d s : Nat} {mv : Value} {fl : List (Nat × FileV)} {dead : Bool} {ops : Int} {pl : Pl} (h : FsOk n0 w q dead p pl ops d s mv (a.dir.mapB φ) (a.safe.mapB φ) (a.moves.map (mvOf φ)) fl) (S : FSim φ a fl) (I : RInv N a) :
    lenOf (fileOf fl) (a.dir.mapB φ) (DirL.names (a.dir.mapB φ)) = a.used := by
  rw [DirL.mapB_names, lenOf_perm _ _ (List.mergeSort_perm (DirL.names a.dir) leB).symm]
  unfold lenOf RefP.used DirL.sorted
  rw [List.map_map]
  congr 1
  refine List.map_congr_left fun x hx => ?_
  obtain ⟨j, hj⟩ := Option.isSome_iff_exists.1 (DirL.look_names.2 (List.mem_mergeSort.1 hx))
  obtain ⟨f, h1, _, _, h3⟩ := S.file j (I.dirLive hj)
  rw [look_some hj]
  show (fileOf fl (φ j)).data.length = (a.file ((a.dir.look x).getD 0)).data.length
  rw [hj, fileOf_mem (blocks_one h.files.2) h1, h3]
  rfl

theorem FsSim.append (S : FsSim n0 w q a) (I : RInv N a) (hN : N ≤ 2199023255552) (hn0 : ∀ k, w.heap.size ≤ k → n0 k) (nm : ByteArray) (hs : nm.size ≤ maxLen) (ba : Option Addr) (bc : Nat) (bs : List UInt8) (hb : Reads w (.slice ba bs.length bc) bs) (hbv : bs ≠ [] → (Value.slice ba bs.length bc).ownBlock ≠ some q) (hbl : bs.length < 4611686018427387904) :
    Calls Tryz.prog 32 #[.pointer (some ⟨q, 0, none⟩), .string nm, .slice ba bs.length bc] w fun e w' => e = .returned (.int .i64 (a.append nm bs).1) ∧ FsSim n0 w' q (a.append nm bs).2 ∧ GP n0 w w' := by
  by_cases h0 : a.begin.1 = 0
  · obtain ⟨φ, p, d, s, mv, fl, W, O⟩ := S.begun I hN h0
    have B := O.B
    have Od := O.done
    have more : ∀ w', (∃ m, (W.drewN m).grownBy w' none) → FsSim n0 w' q { a with count := a.count + 1 } ∧ GP n0 w w' := by
      rintro w' ⟨m, g⟩
      have := Od m
      exact ⟨this.1.kept (P := fun _ => False) (GP.of g (by simp)) (fun _ h => h.elim), this.2.more g⟩
    unfold RefP.append
    rw [if_pos h0]
    cases hl : a.dir.look nm.data.toList with
    | none =>
      refine (append_nofile nm ba bs.length bc B hs (look_none hl)).mono ?_
      rintro e w' ⟨rfl, m, rfl⟩
      exact ⟨rfl, Od m⟩
    | some j =>
      dsimp only
      have hlv := I.dirLive hl
      have hjl := I.liveLt hlv
      have hused := FSim.used O.h O.hs I
      have hlens := fun m => FSim.lens (l := a.dir) (B.ok m).files O.hs I hN (fun x i e => I.dirLive e)
      obtain ⟨A, B', f, rfl, f1, f2, f3⟩ := O.hs.at hlv
      have hg := I.good _ (RefP.file_mem hjl)
      have hd := hg.last
      have hdl : f.data.length ≤ 268435456 := by rw [f3]; exact hd
      rw [← f3]
      have hsu : a.pl.full.length < 4611686018427387904 := by have := I.pl.2.2.1; omega
      by_cases k1 : 268435456 < bs.length + f.data.length
      · rw [if_pos k1]
        refine (append_long nm ba bs.length bc B hs (look_some hl) hdl hbl k1).mono ?_
        rintro e w' ⟨rfl, m, rfl⟩
        exact ⟨rfl, Od m⟩
      · rw [if_neg k1]
        by_cases hfu : a.pl.full.contains (a.count + 1) = true
        · rw [if_pos hfu]
          refine (append_full nm ba bs.length bc B hs (look_some hl) hdl (by omega) hsu hfu).mono ?_
          rintro e w' ⟨rfl, m, rfl⟩
          exact ⟨rfl, Od m⟩
        · rw [if_neg hfu]
          have hfu2 : a.pl.full.contains (a.count + 1) = false := by simpa using hfu
          have hno : (a.pl.room ≤ 0 ∨ bs.length = 0) → ∀ m, Calls Tryz.prog 69 #[.pointer (some ⟨q, 0, none⟩), .int .i64 (bs.length : Int)] (W.drewN m) fun e w' => e = .returned (.bool false) ∧ (W.drewN m).grownBy w' none := fun hr m => by
            refine (lacksRoom_no bs.length hbl (W.drewN m) (B.ok m).fs (by rw [(B.ok m).pr]; exact hr)).mono ?_
            rintro e w' ⟨rfl, k, rfl⟩
            exact ⟨rfl, gdrewN (World.grownBy.refl _ none) k⟩
          have hyes : 0 < a.pl.room → 0 < bs.length → ∀ m, Calls Tryz.prog 69 #[.pointer (some ⟨q, 0, none⟩), .int .i64 (bs.length : Int)] (W.drewN m) fun e w' => e = .returned (.bool (decide (a.pl.room - (a.used : Int) < (bs.length : Int)))) ∧ (W.drewN m).grownBy w' none := fun hr hp m => by
            have := lacksRoom_some (fileOf (A ++ (φ j, f) :: B')) bs.length hbl (W.drewN m) (B.ok m) (fun x b e => ⟨(hlens m x b e).1, (hlens m x b e).2.1⟩) (by rw [DirL.mapB_length]; have := I.dirOk.len; omega) hr I.pl.2.2.2 hp
            rw [hused] at this
            exact this
          by_cases k2 : 0 < bs.length ∧ 0 < a.pl.room ∧ a.pl.room < ((a.used + bs.length : Nat) : Int)
          · rw [if_pos k2]
            refine (append_lacks nm ba bs.length bc B hs (look_some hl) hdl (by omega) hsu hfu2 (fun m => ?_)).mono ?_
            · have := hyes k2.2.1 k2.1 m
              rwa [decide_eq_true (by have := k2.2.2; omega)] at this
            · rintro e w' ⟨rfl, hm⟩
              exact ⟨rfl, more w' hm⟩
          · rw [if_neg k2]
            by_cases k3 : bs = []
            · rw [if_pos k3]
              refine (append_nothing nm ba bs.length bc B hs (look_some hl) hdl (by omega) hsu (by rw [k3]; rfl) hfu2 (hno (.inr (by rw [k3]; rfl)))).mono ?_
              rintro e w' ⟨rfl, hm⟩
              exact ⟨rfl, more w' hm⟩
            · rw [if_neg k3]
              have hp : 0 < bs.length := List.length_pos_iff.2 k3
              have hlr : ∀ m, Calls Tryz.prog 69 #[.pointer (some ⟨q, 0, none⟩), .int .i64 (bs.length : Int)] (W.drewN m) fun e w' => e = .returned (.bool false) ∧ (W.drewN m).grownBy w' none := fun m => by
                by_cases hr : 0 < a.pl.room
                · have := hyes hr hp m
                  rwa [decide_eq_false (by omega)] at this
                · exact hno (.inl (by omega)) m
              refine (append_any nm (.slice ba bs.length bc) bs B hn0 hs (look_some hl) (by omega) hsu hfu2 hlr hb hbv k3 (by rw [f2]; have := I.chgLe hjl; omega)).mono ?_
              rintro e w' ⟨rfl, f', h2, h3, h4, h5, h6⟩
              refine ⟨rfl, ⟨φ, p, d, s, mv, _, by show FsOk n0 w' q a.died p a.pl (a.count + 1) d s _ _ _ _ _; rw [O.dead]; exact h2, O.hs.set hlv hjl ⟨?_, ?_, ?_⟩⟩, h6.wide O.h.new⟩
              · rw [h3, f1]
                rfl
              · rw [h5, f2]
                rfl
              · rw [h4, f3]
                show _ = ((a.file j).chg ++ [Chg.add ⟨bs.toArray⟩]).foldl Chg.done (a.file j).safe
                rw [List.foldl_append]
                rfl
  · have hk := append_err nm ba bs.length bc (some ⟨q, 0, none⟩) a.begin.1 _ w (by simpa using h0) (S.begin_err I hN hn0 h0)
    unfold RefP.append
    rw [if_neg h0]
    exact hk

theorem FsSim.start (S : FsSim n0 w q a) (I : RInv N a) (hN : N ≤ 2199023255552) (hn0 : ∀ k, w.heap.size ≤ k → n0 k) (vk vf vu : Value) (p2 : Pl) (hp : planFits p2)
    (hA : ∀ W', GP n0 w W' → Ints W' vk p2.keep ∧ Ints W' vf p2.fail ∧ Ints W' vu p2.full) :
    Calls Tryz.prog 25 #[.pointer (some ⟨q, 0, none⟩), .agg #[.int .i64 p2.crash, vk, vf, vu, .int .i64 p2.room]] w fun e w' => e = .returned (.int .i64 0) ∧ FsSim n0 w' q (a.start p2) ∧ GP n0 w w' := by
  obtain ⟨φ, p, d, s, mv, fl, h, hs⟩ := S
  by_cases hd : a.died = true
  · rw [hd] at h
    have e : a.start p2 = { a with died := false, count := 0, pl := p2 } := by unfold RefP.start; rw [if_pos hd]
    rw [e]
    refine (start_dead vk vf vu p2 h hn0 hA hp.1 hp.2.1 hp.2.2.1).mono ?_
    rintro e w' ⟨rfl, p', h2, h3, h4⟩
    exact ⟨rfl, ⟨φ, p', d, s, mv, fl, h2, ⟨hs.file, hs.inj⟩⟩, h4.wide (fun k e => by rw [e]; exact h.new q (.inl rfl))⟩
  · have hdf : a.died = false := by simpa using hd
    rw [hdf] at h
    have e : a.start p2 = { a.die with died := false, count := 0, pl := p2 } := by unfold RefP.start; rw [if_neg hd]
    rw [e]
    obtain ⟨k1, k2, k3, k4, k5, k6, k7, k8, k9⟩ := die_sim h hs I hN
    refine (start_good vk vf vu p2 (fileOf fl) _ rfl _ k1 h hn0 (by have := I.pl.1; omega) k2 k3 k4 k5 k6 k7 k8 hA hp.1 hp.2.1 hp.2.2.1).mono ?_
    rintro e w' ⟨rfl, p', d', G, h2, h3, h4, h5⟩
    exact ⟨rfl, ⟨φ, p', d', s, _, _, h2, ⟨(k9 G h3).file, (k9 G h3).inj⟩⟩, h5.wide h.new⟩
end
theorem FsSim.new (vk vf vu : Value) (pl : Pl) (w : World) (hk : Ints w vk pl.keep) (hf : Ints w vf pl.fail) (hu : Ints w vu pl.full) (hp : planFits pl) :
    Calls Tryz.prog 12 #[.agg #[.int .i64 pl.crash, vk, vf, vu, .int .i64 pl.room]] w fun e w' => ∃ q, e = .returned (.pointer (some ⟨q, 0, none⟩)) ∧ FsSim (fun k => w.heap.size ≤ k) w' q (RefP.new pl) ∧ w.grownBy w' none := by
  refine (new_good vk vf vu pl w hk hf hu hp.1 hp.2.1 hp.2.2.1).mono ?_
  rintro e w' ⟨q, d, s, p, rfl, h, g⟩
  refine ⟨q, rfl, ⟨fun _ => 0, p, d, s, _, [], h, ⟨fun i hi => ?_, fun i j hi hj _ => ?_⟩⟩, g⟩
  · obtain ⟨m, x, e⟩ := hi
    have e' : ((([] : List RMv).take m).foldl RMv.done []).look x = some i := e
    rw [List.take_nil] at e'
    cases e'
  · obtain ⟨m, x, e⟩ := hi
    have e' : ((([] : List RMv).take m).foldl RMv.done []).look x = some i := e
    rw [List.take_nil] at e'
    cases e'
end Go.Proofs.YtafcgjbafihniaaGreat

/-
  LAYER 1 (fs): the reference's copies of rows of ints.
-/
namespace Go.Proofs.YtafcgjbafihniaaGreat
set_option maxRecDepth 100000
open Go.RowKit Go.Lib

theorem copy_ints (v : Value) (zs : List Int) (w : World) (hr : Ints w v zs) (hl : zs.length * 8 ≤ 140737488351232) :
    ∃ v' w', (Builtin.append_ #[22, 22] 22 #[.slice none 0 0, v]).run Tryz.prog w = .ok v' w' ∧ w'.ownsRow w.heap.size 3 1 v' zs.length (zs.map intV) ∧ w.grownBy w' none := by
  obtain ⟨i0, hi, hz0, hz1, hz2⟩ := infoInt_parts
  have one : ∀ u ∈ zs.map intV, u.oneCell' = true := fun u hu => by
    obtain ⟨x, _, rfl⟩ := List.mem_map.1 hu
    rfl
  rcases hr with (⟨rfl, h⟩ | ⟨b, off, cap, rfl, h1, h2, h3⟩) | ⟨ad, rfl, rfl⟩
  · have hz : zs = [] := by simpa using h
    subst hz
    have hrun := run_append_owned_none (P := Tryz.prog) (w := w) w.heap.size 22 22 3 i0 1 Tryz.underlying22 hi (.slice none 0 0) 0 [] (World.ownsRow_nil _ _ _ _)
    exact ⟨_, _, hrun, World.ownsRow_nil _ _ _ _, World.grownBy.refl _ _⟩
  · obtain ⟨v', w', hrun, h5, h6, _, _⟩ := run_append_own_at (P := Tryz.prog) w w.heap.size 22 22 3 i0 (.int .i64 0) 1 8 Tryz.underlying22 hi hz0 hz1 hz2 rfl (by decide) (.slice none 0 0) 0 [] (World.ownsRow_nil _ _ _ _) ⟨b, off, none⟩ zs.length cap (zs.map intV) (by simp)
      (fun j u hj => by
        have := h3 j u hj
        have e : (⟨b, off, none⟩ : Addr).add j = ⟨b, off + j, none⟩ := by cases j <;> simp [Addr.add]
        rw [e]
        exact this) one (by unfold maxLen; omega) (by omega) (Nat.le_refl _)
    rw [List.length_map]
    exact ⟨v', w', hrun, by simpa using h5, h6⟩
  · obtain ⟨v', w', hrun, h5, h6, _, _⟩ := run_append_own_at (P := Tryz.prog) w w.heap.size 22 22 3 i0 (.int .i64 0) 1 8 Tryz.underlying22 hi hz0 hz1 hz2 rfl (by decide) (.slice none 0 0) 0 [] (World.ownsRow_nil _ _ _ _) ad 0 0 [] rfl
      (fun j u hj => by simp at hj) (by simp) (by unfold maxLen; omega) (by omega) (Nat.le_refl _)
    exact ⟨v', w', hrun, by simpa using h5, h6⟩
end Go.Proofs.YtafcgjbafihniaaGreat

/-
  LAYER 1 (fs): the reference's Plan.
-/
namespace Go.Proofs.YtafcgjbafihniaaGreat
set_option maxRecDepth 100000
open Go.RowKit Go.Lib
attribute [local go_sem] Oper.semAt_some

set_option maxHeartbeats 4000000 in
theorem rplan_any (vk vf vu : Value) (p : Pl) (w : World) (hk : Ints w vk p.keep) (hf : Ints w vf p.fail) (hu : Ints w vu p.full)
    (lk : p.keep.length * 8 ≤ 140737488351232) (lf : p.fail.length * 8 ≤ 140737488351232) (lu : p.full.length * 8 ≤ 140737488351232) :
    Calls Tryz.prog 38 #[.agg #[.int .i64 p.crash, vk, vf, vu, .int .i64 p.room]] w fun e w' => ∃ k' f' u', e = .returned (.agg #[.int .i64 p.crash, k', f', u', .int .i64 p.room]) ∧
      w'.ownsRow w.heap.size 3 1 k' p.keep.length (p.keep.map intV) ∧ w'.ownsRow w.heap.size 3 1 f' p.fail.length (p.fail.map intV) ∧ w'.ownsRow w.heap.size 3 1 u' p.full.length (p.full.map intV) ∧ w.grownBy w' none := by
  obtain ⟨crash, keep, fail, full, room⟩ := p
  dsimp only at *
  obtain ⟨ak, ck, rfl⟩ := hk.form
  obtain ⟨af, cf, rfl⟩ := hf.form
  obtain ⟨au, cu, rfl⟩ := hu.form
  obtain ⟨nk, hnk⟩ : ∃ n, n = keep.length := ⟨_, rfl⟩
  obtain ⟨nf, hnf⟩ : ∃ n, n = fail.length := ⟨_, rfl⟩
  obtain ⟨nu, hnu⟩ : ∃ n, n = full.length := ⟨_, rfl⟩
  rw [← hnk] at hk lk ⊢
  rw [← hnf] at hf lf ⊢
  rw [← hnu] at hu lu ⊢
  obtain ⟨W0, hW0⟩ : ∃ W0, W0 = (w.alloc (.cells #[.int .i64 crash, .slice ak nk ck, .slice af nf cf, .slice au nu cu, .int .i64 room] 24)).alloc (.cells #[.int .i64 0, .slice none 0 0, .slice none 0 0, .slice none 0 0, .int .i64 0] 24) := ⟨_, rfl⟩
  have hg0 : w.grownBy W0 none := by rw [hW0]; exact galloc (World.grownBy_alloc w _ none) _
  have P0 : PlanAt W0 w.heap.size (.int .i64 crash) (.slice ak nk ck) (.slice af nf cf) (.slice au nu cu) (.int .i64 room) := by
    rw [hW0]; exact ((World.grownBy_alloc (w.alloc _) _ none).block w.heap.size (by simp) (by simp)).trans (World.alloc_heap_new w _)
  have R0 : PlanAt W0 (w.heap.size + 1) (.int .i64 0) (.slice none 0 0) (.slice none 0 0) (.slice none 0 0) (.int .i64 0) := by
    rw [hW0]
    have := World.alloc_heap_new (w.alloc (.cells #[.int .i64 crash, .slice ak nk ck, .slice af nf cf, .slice au nu cu, .int .i64 room] 24)) (.cells #[.int .i64 0, .slice none 0 0, .slice none 0 0, .slice none 0 0, .int .i64 0] 24)
    rwa [World.size_alloc] at this
  have hW0s : W0.heap.size = w.heap.size + 2 := by rw [hW0]; simp
  have hold : ∀ {v : Value} {zs : List Int} {W : World}, Ints w v zs → w.grownBy W (some w.heap.size) → Ints W v zs := fun {v zs W} h g =>
    h.heap (fun hne k e => g.block k (h.lt hne k e) (by simp; have := h.lt hne k e; omega))
  have sk : ∀ {W : World} {B n o : Nat} {v u : Value} {xs : List Value}, w.heap.size + 1 ≤ B → W.ownsRow B 3 1 v n xs → (W.setCell ⟨w.heap.size, o, none⟩ u).ownsRow B 3 1 v n xs := fun {W B n o v u xs} hB h => by
    refine World.ownsRow.kept h (gset (World.grownBy.refl W (some w.heap.size)) o u) ?_
    right
    intro e
    have := (World.ownsRow.lt h _ e).1
    omega
  have nn : ∀ {v : Value}, v.ownBlock = none ∨ v.ownBlock ≠ none := fun {v} => by cases v.ownBlock <;> simp
  -- the first row
  obtain ⟨k', w1, run1, ok, g1⟩ := copy_ints _ keep W0 (hold hk (gbut hg0 _)) (by omega)
  obtain ⟨bk, dk, ek⟩ := rowForm ok
  have P1 := P0.kept g1 (by simp)
  have x1 := P0.c1
  have y1 := P1.c1
  have f1 := P1.free 1
  have P2 := P1.s1 k'
  have G2 : W0.grownBy (w1.setCell ⟨w.heap.size, 1, none⟩ k') (some w.heap.size) := gset (gbut g1 _) 1 k'
  have ok2 := sk (o := 1) (u := k') (by omega) ok
  obtain ⟨w2, hw2⟩ : ∃ w2, w2 = w1.setCell ⟨w.heap.size, 1, none⟩ k' := ⟨_, rfl⟩
  rw [← hw2] at P2 G2 ok2
  -- the second
  obtain ⟨f', w3, run2, of, g3⟩ := copy_ints _ fail w2 (hold hf ((gbut hg0 _).trans G2)) (by omega)
  obtain ⟨bf, df, ef⟩ := rowForm of
  have P3 := P2.kept g3 (by simp)
  have x2 := P2.c2
  have y2 := P3.c2
  have f2 := P3.free 2
  have P4 := P3.s2 f'
  have G4 : W0.grownBy (w3.setCell ⟨w.heap.size, 2, none⟩ f') (some w.heap.size) := gset (G2.trans (gbut g3 _)) 2 f'
  have hs2 := G2.size
  have ok4 := sk (o := 2) (u := f') (by omega) (World.ownsRow.kept ok2 g3 nn)
  have of4 := sk (o := 2) (u := f') (by omega) of
  obtain ⟨w4, hw4⟩ : ∃ w4, w4 = w3.setCell ⟨w.heap.size, 2, none⟩ f' := ⟨_, rfl⟩
  rw [← hw4] at P4 G4 ok4 of4
  -- the third
  obtain ⟨u', w5, run3, ou, g5⟩ := copy_ints _ full w4 (hold hu ((gbut hg0 _).trans G4)) (by omega)
  obtain ⟨bu, du, eu⟩ := rowForm ou
  have P5 := P4.kept g5 (by simp)
  have x3 := P4.c3
  have y3 := P5.c3
  have f3 := P5.free 3
  have P6 := P5.s3 u'
  have G6 : W0.grownBy (w5.setCell ⟨w.heap.size, 3, none⟩ u') (some w.heap.size) := gset (G4.trans (gbut g5 _)) 3 u'
  have hs4 := G4.size
  have ok6 := sk (o := 3) (u := u') (by omega) (World.ownsRow.kept ok4 g5 nn)
  have of6 := sk (o := 3) (u := u') (by omega) (World.ownsRow.kept of4 g5 nn)
  have ou6 := sk (o := 3) (u := u') (by omega) ou
  obtain ⟨w6, hw6⟩ : ∃ w6, w6 = w5.setCell ⟨w.heap.size, 3, none⟩ u' := ⟨_, rfl⟩
  rw [← hw6] at P6 G6 ok6 of6 ou6
  have R6 := R0.kept G6 (by simp)
  have e0 := P6.c0
  have e1 := P6.c1
  have e2 := P6.c2
  have e3 := P6.c3
  have e4 := P6.c4
  have hs6 := G6.size
  have gw6 : w.grownBy w6 none := ⟨G6.os.trans hg0.os, G6.tape.trans hg0.tape, G6.output.trans hg0.output, Nat.le_trans hg0.size G6.size, fun k hk _ => (G6.block k (Nat.lt_of_lt_of_le hk hg0.size) (by simp; omega)).trans (hg0.block k hk (by simp))⟩
  have R7 := R6.s0 (.int .i64 crash)
  have R8 := R7.s1 k'
  have R9 := R8.s2 f'
  have R10 := R9.s3 u'
  have R11 := R10.s4 (.int .i64 room)
  have a0 := R6.free 0
  have a1 := R7.free 1
  have a2 := R8.free 2
  have a3 := R9.free 3
  have a4 := R10.free 4
  have z0 := R6.c0
  have z1 := R7.c1
  have z2 := R8.c2
  have z3 := R9.c3
  have z4 := R10.c4
  have fin : ∀ {B n : Nat} {v c0 c1 c2 c3 c4 : Value} {xs : List Value}, w.heap.size + 2 ≤ B → w6.ownsRow B 3 1 v n xs → (((((w6.setCell ⟨w.heap.size + 1, 0, none⟩ c0).setCell ⟨w.heap.size + 1, 1, none⟩ c1).setCell ⟨w.heap.size + 1, 2, none⟩ c2).setCell ⟨w.heap.size + 1, 3, none⟩ c3).setCell ⟨w.heap.size + 1, 4, none⟩ c4).ownsRow w.heap.size 3 1 v n xs := fun {B n v c0 c1 c2 c3 c4 xs} hB h => by
    have h2 := World.ownsRow.kept h (gset (gset (gset (gset (gset (World.grownBy.refl w6 (some (w.heap.size + 1))) 0 c0) 1 c1) 2 c2) 3 c3) 4 c4) (by right; intro e; have := (World.ownsRow.lt h _ e).1; omega)
    obtain ⟨q1, q2 | ⟨g, cap, cur, q3, q4, q5⟩⟩ := h2
    · exact ⟨q1, .inl q2⟩
    · exact ⟨q1, .inr ⟨g, cap, cur, q3, by omega, q5⟩⟩
  have okF := fin (c0 := .int .i64 crash) (c1 := k') (c2 := f') (c3 := u') (c4 := .int .i64 room) (by omega) ok6
  have ofF := fin (c0 := .int .i64 crash) (c1 := k') (c2 := f') (c3 := u') (c4 := .int .i64 room) (by omega) of6
  have ouF := fin (c0 := .int .i64 crash) (c1 := k') (c2 := f') (c3 := u') (c4 := .int .i64 room) (by omega) ou6
  have gF : w.grownBy (((((w6.setCell ⟨w.heap.size + 1, 0, none⟩ (.int .i64 crash)).setCell ⟨w.heap.size + 1, 1, none⟩ k').setCell ⟨w.heap.size + 1, 2, none⟩ f').setCell ⟨w.heap.size + 1, 3, none⟩ u').setCell ⟨w.heap.size + 1, 4, none⟩ (.int .i64 room)) none := by
    have g1 := gset (gset (gset (gset (gset (World.grownBy.refl w6 (some (w.heap.size + 1))) 0 (.int .i64 crash)) 1 k') 2 f') 3 u') 4 (.int .i64 room)
    exact ⟨g1.os.trans gw6.os, g1.tape.trans gw6.tape, g1.output.trans gw6.output, Nat.le_trans gw6.size g1.size, fun k hk _ => (g1.block k (Nat.lt_of_lt_of_le hk gw6.size) (by simp; omega)).trans (gw6.block k hk (by simp))⟩
  have b0 := R11.c0
  have b1 := R11.c1
  have b2 := R11.c2
  have b3 := R11.c3
  have b4 := R11.c4
  obtain ⟨WF, hWF⟩ : ∃ WF, WF = ((((w6.setCell ⟨w.heap.size + 1, 0, none⟩ (.int .i64 crash)).setCell ⟨w.heap.size + 1, 1, none⟩ k').setCell ⟨w.heap.size + 1, 2, none⟩ f').setCell ⟨w.heap.size + 1, 3, none⟩ u').setCell ⟨w.heap.size + 1, 4, none⟩ (.int .i64 room) := ⟨_, rfl⟩
  rw [← hWF] at okF ofF ouF gF b0 b1 b2 b3 b4
  have FF : Hid (∃ k1 f1 u1, (Ending.returned (.agg #[.int .i64 crash, k', f', u', .int .i64 room])) = .returned (.agg #[.int .i64 crash, k1, f1, u1, .int .i64 room]) ∧ WF.ownsRow w.heap.size 3 1 k1 nk (keep.map intV) ∧ WF.ownsRow w.heap.size 3 1 f1 nf (fail.map intV) ∧ WF.ownsRow w.heap.size 3 1 u1 nu (full.map intV) ∧ w.grownBy WF none) := Lib.hid ⟨k', f', u', rfl, by rw [hnk]; exact okF, by rw [hnf]; exact ofF, by rw [hnu]; exact ouF, gF⟩
  subst ek ef eu
  clear okF ofF ouF gF fin sk hold nn hk hf hu ok of ou ok2 ok4 of4 ok6 of6 ou6 g1 g3 g5 G2 G4 G6 gw6 R7 R8 R9 R10 R11 hg0 R0 R6 P0 P1 P2 P3 P4 P5 P6
  replace hnk := Lib.hid hnk
  replace hnf := Lib.hid hnf
  replace hnu := Lib.hid hnu
  replace hWF := Lib.hid hWF
  replace hw2 := Lib.hid hw2
  replace hw4 := Lib.hid hw4
  replace hw6 := Lib.hid hw6
  replace hW0 := Lib.hid hW0
  go_enter Tryz.func38, Tryz.ntmps38
  go_upto_region 1 with fail
  rw [← hW0.out]
  go_upto_region 2 with (at_builtin; refine wpList_app_run rfl _ _ 22 rfl (.slice none 0 0) _ rfl rfl run1 ?_)
  rw [← hw2.out]
  go_upto_region 3 with (at_builtin; refine wpList_app_run rfl _ _ 22 rfl (.slice none 0 0) _ rfl rfl run2 ?_)
  rw [← hw4.out]
  go_upto_region 4 with (at_builtin; refine wpList_app_run rfl _ _ 22 rfl (.slice none 0 0) _ rfl rfl run3 ?_)
  rw [← hw6.out]
  go_wp2_with fail
  rw [← hWF.out]
  refine bodyPost_ret (v := .agg #[.int .i64 crash, .slice bk keep.length dk, .slice bf fail.length df, .slice bu full.length du, .int .i64 room]) (by simp [results, Tryz.results38, go_sem, b0, b1, b2, b3, b4]) rfl ?_
  exact FF.out
end Go.Proofs.YtafcgjbafihniaaGreat

/-
  LAYER 1 (fs): the reference's New, Start.
-/
namespace Go.Proofs.YtafcgjbafihniaaGreat
set_option maxRecDepth 100000
variable {DX : Nat → Prop}
open Go.RowKit Go.Lib
attribute [local go_sem] Oper.semAt_some

set_option maxHeartbeats 4000000 in
theorem rnew_any (vk vf vu : Value) (p : Pl) (w : World) (hk : Ints w vk p.keep) (hf : Ints w vf p.fail) (hu : Ints w vu p.full)
    (lk : p.keep.length * 8 ≤ 140737488351232) (lf : p.fail.length * 8 ≤ 140737488351232) (lu : p.full.length * 8 ≤ 140737488351232) :
    Calls Tryz.prog 13 #[.agg #[.int .i64 p.crash, vk, vf, vu, .int .i64 p.room]] w fun e w' => ∃ q r, e = .returned (.pointer (some ⟨q, 0, none⟩)) ∧ RefOk DX (fun k => w.heap.size ≤ k ∧ k < w'.heap.size) w' q (RefP.new p) r [] ∧ w.grownBy w' none := by
  have hP := rplan_any vk vf vu p _ (hk.all (World.grownBy_alloc w (.cells #[.int .i64 p.crash, vk, vf, vu, .int .i64 p.room] 24) none)) (hf.all (World.grownBy_alloc w _ none)) (hu.all (World.grownBy_alloc w _ none)) lk lf lu
  rw [World.size_alloc] at hP
  go_enter Tryz.func13, Tryz.ntmps13
  go_wp2_with (go_at_call 38; refine hP.mono ?_; clear hP; rintro e w1 ⟨k', f', u', rfl, ok, of, ou, g1⟩; obtain ⟨bk, dk, rfl⟩ := rowForm ok; obtain ⟨bf, df, rfl⟩ := rowForm of; obtain ⟨bu, du, rfl⟩ := rowForm ou)
  have gw1 : w.grownBy w1 none := (World.grownBy_alloc w _ none).trans g1
  have hs1 := gw1.size
  obtain ⟨W3, hW3⟩ : ∃ W3, W3 = w1.alloc (.cells #[.int .i64 p.crash, .slice bk p.keep.length dk, .slice bf p.fail.length df, .slice bu p.full.length du, .int .i64 p.room, .int .i64 0, .bool false, .slice none 0 0, .slice none 0 0, .slice none 0 0, .slice none 0 0] 84) := ⟨_, rfl⟩
  rw [← hW3]
  have g3 : w1.grownBy W3 none := by rw [hW3]; exact World.grownBy_alloc w1 _ none
  have hQ : RefAt W3 w1.heap.size ⟨p.crash, .slice bk p.keep.length dk, .slice bf p.fail.length df, .slice bu p.full.length du, p.room, 0, false, .slice none 0 0, .slice none 0 0, .slice none 0 0, .slice none 0 0⟩ := by
    unfold RefAt
    rw [hW3]
    exact World.alloc_heap_new w1 _
  have hql := lt_of_block hQ
  have n1 : ∀ v : Value, v.ownBlock = none ∨ v.ownBlock ≠ none := fun v => by cases v.ownBlock <;> simp
  have row : ∀ {v : Value} {n : Nat} {xs : List Value}, w1.ownsRow (w.heap.size + 1) 3 1 v n xs → OwnR (fun k => w.heap.size ≤ k ∧ k < W3.heap.size) W3 3 1 v n xs := fun {v n xs} o =>
    OwnR.of (World.ownsRow.kept o g3 (n1 _)) (fun b h1 h2 => ⟨by omega, h2⟩)
  go_ret
  exact ⟨_, _, rfl, ⟨hQ, ⟨by omega, hql⟩, rfl, rfl, rfl, rfl, ⟨row ok, row of, row ou, rfl, OwnR.nil, fun i v n e1 _ => by simp at e1, OwnR.nil, OwnR.nil, OwnR.nil⟩⟩, gw1.trans g3⟩

section
variable {R : Nat → Prop} {w w' : World} {q : Nat} {a : RefP} {r : RefV} {vs : List (Value × Value)}
theorem RefOk.setPlan {k' f' u' : Value} {p : Pl} (h : RefOk DX R w q a r vs) (ok : OwnR R w 3 1 k' p.keep.length (p.keep.map intV)) (of : OwnR R w 3 1 f' p.fail.length (p.fail.map intV)) (ou : OwnR R w 3 1 u' p.full.length (p.full.map intV))
    (hw : w' = ((((w.setCell ⟨q, 0, none⟩ (.int .i64 p.crash)).setCell ⟨q, 1, none⟩ k').setCell ⟨q, 2, none⟩ f').setCell ⟨q, 3, none⟩ u').setCell ⟨q, 4, none⟩ (.int .i64 p.room)) :
    RefOk DX R w' q { a with pl := p } { r with crash := p.crash, k := k', f := f', u := u', room := p.room } vs ∧ w.grownBy w' (some q) := by
  have h1 : RefAt (w.setCell ⟨q, 0, none⟩ (.int .i64 p.crash)) q { r with crash := p.crash } := heap_setCell_same w q 0 _ _ _ h.at_
  have h2 : RefAt ((w.setCell ⟨q, 0, none⟩ (.int .i64 p.crash)).setCell ⟨q, 1, none⟩ k') q { r with crash := p.crash, k := k' } := heap_setCell_same _ q 1 _ _ _ h1
  have h3 : RefAt (((w.setCell ⟨q, 0, none⟩ (.int .i64 p.crash)).setCell ⟨q, 1, none⟩ k').setCell ⟨q, 2, none⟩ f') q { r with crash := p.crash, k := k', f := f' } := heap_setCell_same _ q 2 _ _ _ h2
  have h4 : RefAt ((((w.setCell ⟨q, 0, none⟩ (.int .i64 p.crash)).setCell ⟨q, 1, none⟩ k').setCell ⟨q, 2, none⟩ f').setCell ⟨q, 3, none⟩ u') q { r with crash := p.crash, k := k', f := f', u := u' } := heap_setCell_same _ q 3 _ _ _ h3
  have h5 : RefAt w' q { r with crash := p.crash, k := k', f := f', u := u', room := p.room } := by rw [hw]; exact heap_setCell_same _ q 4 _ _ _ h4
  have g : w.grownBy w' (some q) := by rw [hw]; exact gset (gset (gset (gset (gq w q 0 _) 1 _) 2 _) 3 _) 4 _
  have gp : GP (fun k => k = q) w w' := GP.of g (fun k e => by cases e; rfl)
  have hP : Kinds w (fun k => k = q) [84] := fun k cs e z hk hb => by
    subst hk
    have := apart_obj hb (show _ = _ from h.at_)
    simp at this
    simp [this.2.1]
  exact ⟨h.own g h5 rfl rfl h.count h.died fun _ k => ⟨ok.gp gp hP (by decide), of.gp gp hP (by decide), ou.gp gp hP (by decide), k.vl, k.rn, k.node, k.rd, k.rs, k.rm⟩, g⟩

set_option maxHeartbeats 8000000 in
theorem rstart_dead (vk vf vu : Value) (p : Pl) (h : RefOk DX R w q a r vs) (hR : ∀ k, RD R DX k → k < w.heap.size) (F : a.Fits) (hd : a.died = true)
    (hA : ∀ W', GP R w W' → Ints W' vk p.keep ∧ Ints W' vf p.fail ∧ Ints W' vu p.full) (lk : p.keep.length * 8 ≤ 140737488351232) (lf : p.fail.length * 8 ≤ 140737488351232) (lu : p.full.length * 8 ≤ 140737488351232) :
    Calls Tryz.prog 46 #[.pointer (some ⟨q, 0, none⟩), .agg #[.int .i64 p.crash, vk, vf, vu, .int .i64 p.room]] w fun e w' => e = .returned (.tuple #[]) ∧ RDone DX R w q (a.start p) w' := by
  have hA0 := hA w (GP.refl _ _)
  obtain ⟨ak, ck, rfl⟩ := hA0.1.form
  obtain ⟨af, cf, rfl⟩ := hA0.2.1.form
  obtain ⟨au, cu, rfl⟩ := hA0.2.2.form
  clear hA0
  have hRq := h.rq
  have hql := lt_of_block h.at_
  obtain ⟨B, hB⟩ : ∃ B, B = w.heap.size := ⟨_, rfl⟩
  have gB := World.grownBy_alloc w (.cells #[.int .i64 p.crash, .slice ak p.keep.length ck, .slice af p.fail.length cf, .slice au p.full.length cu, .int .i64 p.room] 24) none
  have P0 : PlanAt (w.alloc (.cells #[.int .i64 p.crash, .slice ak p.keep.length ck, .slice af p.fail.length cf, .slice au p.full.length cu, .int .i64 p.room] 24)) w.heap.size (.int .i64 p.crash) (.slice ak p.keep.length ck) (.slice af p.fail.length cf) (.slice au p.full.length cu) (.int .i64 p.room) := World.alloc_heap_new w _
  obtain ⟨W0, hW0⟩ : ∃ W0, W0 = w.alloc (.cells #[.int .i64 p.crash, .slice ak p.keep.length ck, .slice af p.fail.length cf, .slice au p.full.length cu, .int .i64 p.room] 24) := ⟨_, rfl⟩
  rw [← hW0] at gB P0
  have h0 := h.new gB
  have c6 := h0.at_.c6
  rw [h0.died, hd] at c6
  rw [← hB] at P0
  have hnR : ¬ R B := fun hk => by have := hR _ (.inl hk); omega
  have hdm : Hid (Calls Tryz.prog 79 #[.pointer (some ⟨q, 0, none⟩)] W0 fun e w' => e = .returned (.tuple #[]) ∧ RDone DX R W0 q a.die w') := Lib.hid (by
    refine (rdie_any h0 (fun k hk => Nat.lt_of_lt_of_le (hR k hk) gB.size) F.keep F.moves F.safe (F.dies _) (F.dirs _) F.good F.sum).mono ?_
    rintro e w' ⟨he, ⟨r', vs', h1⟩, h2⟩
    exact ⟨he, ⟨r', vs', h1⟩, h2⟩)
  have hz : Hid (RDone DX R W0 q a W0) := Lib.hid ⟨⟨r, vs, h0.ru⟩, GP.refl _ _⟩
  have key : ∀ (b : RefP) (W1 : World), RDone DX R W0 q b W1 → ∃ b6 W2, W2 = (W1.setCell ⟨q, 6, none⟩ (.bool false)).setCell ⟨q, 5, none⟩ (.int .i64 0) ∧ W1.cell? ⟨q, 6, none⟩ = some (.bool b6) ∧ W1.frozen? ⟨q, 6, none⟩ = false ∧
      (∃ b5, (W1.setCell ⟨q, 6, none⟩ (.bool false)).cell? ⟨q, 5, none⟩ = some (.int .i64 b5)) ∧ (W1.setCell ⟨q, 6, none⟩ (.bool false)).frozen? ⟨q, 5, none⟩ = false ∧ PlanAt W2 B (.int .i64 p.crash) (.slice ak p.keep.length ck) (.slice af p.fail.length cf) (.slice au p.full.length cu) (.int .i64 p.room) ∧
      (∃ r2 vs2, RefOk DX (RW R w) W2 q { b with died := false, count := 0 } r2 vs2) ∧ GP R w W2 := by
    rintro b W1 ⟨⟨r1, vs1, h1⟩, g1⟩
    have h1w : RefOk DX (RW R w) W1 q b r1 vs1 := h1.weak (fun k hk => hk.elim .inl (fun h => .inr (Nat.le_trans gB.size h.1)))
    have h2 := h1w.setDied false
    have h3 := h2.setCount 0
    have g6 := gq W1 q 6 (.bool false)
    have g5 := gq (W1.setCell ⟨q, 6, none⟩ (.bool false)) q 5 (.int .i64 0)
    have gw : GP R w W1 := (GP.of (P := R) gB (by simp)).trans g1 (fun k hk => .inl hk)
    have P1 : PlanAt W1 B (.int .i64 p.crash) (.slice ak p.keep.length ck) (.slice af p.fail.length cf) (.slice au p.full.length cu) (.int .i64 p.room) := (g1.block B (lt_of_block P0) hnR).trans P0
    have hBq : some q ≠ some B := by simp; omega
    exact ⟨_, _, rfl, h1w.at_.c6, h1w.at_.free 6, ⟨_, h2.at_.c5⟩, h2.at_.free 5, (P1.kept g6 hBq).kept g5 hBq, ⟨_, _, h3⟩, (gw.step g6 (fun k e => by cases e; exact .inl hRq)).step g5 (fun k e => by cases e; exact .inl hRq)⟩
  have hst : a.start p = { a with died := false, count := 0, pl := p } := by
    unfold RefP.start
    rw [hd]
    rfl
  rw [hst]
  obtain ⟨nk, hnk⟩ : ∃ n, n = p.keep.length := ⟨_, rfl⟩
  obtain ⟨nf, hnf⟩ : ∃ n, n = p.fail.length := ⟨_, rfl⟩
  obtain ⟨nu, hnu⟩ : ∃ n, n = p.full.length := ⟨_, rfl⟩
  rw [← hnk, ← hnf, ← hnu] at key hA hW0
  rw [← hnk, ← hnf, ← hnu]
  replace hnk := Lib.hid hnk
  replace hnf := Lib.hid hnf
  replace hnu := Lib.hid hnu
  replace hA := Lib.hid hA
  replace key := Lib.hid key
  replace hB := Lib.hid hB
  clear P0 h h0 gB F hR hst hnR
  go_enter Tryz.func46, Tryz.ntmps46
  go_upto_region 1 with fail
  rw [← hB.out, ← hW0]
  replace hW0 := Lib.hid hW0
  go_upto_region 3 with fail
  obtain ⟨b6, W2, hW2, x6, xf6, ⟨b5, x5⟩, xf5, P2, ⟨r2, vs2, h2⟩, g2⟩ := key.out _ _ hz.out
  clear key hdm hz c6
  go_upto_region 5 with fail
  rw [← hW2]
  replace hW2 := Lib.hid hW2
  clear x6 xf6 x5 xf5
  have e0 := P2.c0
  have e1 := P2.c1
  have e2 := P2.c2
  have e3 := P2.c3
  have e4 := P2.c4
  have hPl := rplan_any _ _ _ p W2 (hA.out W2 g2).1 (hA.out W2 g2).2.1 (hA.out W2 g2).2.2 lk lf lu
  rw [← hnk.out, ← hnf.out, ← hnu.out] at hPl
  clear P2
  go_wp2_with (go_at_call 38
               refine hPl.mono ?_
               clear hPl
               rintro e w5 ⟨k', f', u', rfl, ok, of, ou, g5⟩
               obtain ⟨bk, dk, rfl⟩ := rowForm ok
               obtain ⟨bf, df, rfl⟩ := rowForm of
               obtain ⟨bu, du, rfl⟩ := rowForm ou
               have h5 := h2.new g5
               have A0 := h5.at_
               have A1 : RefAt (w5.setCell ⟨q, 0, none⟩ (.int .i64 p.crash)) q { r2 with crash := p.crash } := heap_setCell_same w5 q 0 _ _ _ A0
               have A2 : RefAt ((w5.setCell ⟨q, 0, none⟩ (.int .i64 p.crash)).setCell ⟨q, 1, none⟩ (.slice bk nk dk)) q { r2 with crash := p.crash, k := .slice bk nk dk } := heap_setCell_same _ q 1 _ _ _ A1
               have A3 : RefAt (((w5.setCell ⟨q, 0, none⟩ (.int .i64 p.crash)).setCell ⟨q, 1, none⟩ (.slice bk nk dk)).setCell ⟨q, 2, none⟩ (.slice bf nf df)) q { r2 with crash := p.crash, k := .slice bk nk dk, f := .slice bf nf df } := heap_setCell_same _ q 2 _ _ _ A2
               have A4 : RefAt ((((w5.setCell ⟨q, 0, none⟩ (.int .i64 p.crash)).setCell ⟨q, 1, none⟩ (.slice bk nk dk)).setCell ⟨q, 2, none⟩ (.slice bf nf df)).setCell ⟨q, 3, none⟩ (.slice bu nu du)) q { r2 with crash := p.crash, k := .slice bk nk dk, f := .slice bf nf df, u := .slice bu nu du } := heap_setCell_same _ q 3 _ _ _ A3
               have a0 := A0.c0
               have b0 := A0.free 0
               have a1 := A1.c1
               have b1 := A1.free 1
               have a2 := A2.c2
               have b2 := A2.free 2
               have a3 := A3.c3
               have b3 := A3.free 3
               have a4 := A4.c4
               have b4 := A4.free 4
               rw [hnk.out] at ok
               rw [hnf.out] at of
               rw [hnu.out] at ou
               have hset := h5.setPlan (p := p) (OwnR.rw ok g2.size) (OwnR.rw of g2.size) (OwnR.rw ou g2.size) rfl
               rw [← hnk.out, ← hnf.out, ← hnu.out] at hset
               have FF := Lib.hid (RDone.of hset.1 ((g2.more g5).step hset.2 (fun k e => by cases e; exact .inl hRq)))
               clear hset A0 A1 A2 A3 A4 h5 ok of ou g5 h2 g2)
  go_end0
  exact ⟨rfl, FF.out⟩
set_option maxHeartbeats 8000000 in
theorem rstart_live (vk vf vu : Value) (p : Pl) (h : RefOk DX R w q a r vs) (hR : ∀ k, RD R DX k → k < w.heap.size) (F : a.Fits) (hd : a.died = false)
    (hA : ∀ W', GP R w W' → Ints W' vk p.keep ∧ Ints W' vf p.fail ∧ Ints W' vu p.full) (lk : p.keep.length * 8 ≤ 140737488351232) (lf : p.fail.length * 8 ≤ 140737488351232) (lu : p.full.length * 8 ≤ 140737488351232) :
    Calls Tryz.prog 46 #[.pointer (some ⟨q, 0, none⟩), .agg #[.int .i64 p.crash, vk, vf, vu, .int .i64 p.room]] w fun e w' => e = .returned (.tuple #[]) ∧ RDone DX R w q (a.start p) w' := by
  have hA0 := hA w (GP.refl _ _)
  obtain ⟨ak, ck, rfl⟩ := hA0.1.form
  obtain ⟨af, cf, rfl⟩ := hA0.2.1.form
  obtain ⟨au, cu, rfl⟩ := hA0.2.2.form
  clear hA0
  have hRq := h.rq
  have hql := lt_of_block h.at_
  obtain ⟨B, hB⟩ : ∃ B, B = w.heap.size := ⟨_, rfl⟩
  have gB := World.grownBy_alloc w (.cells #[.int .i64 p.crash, .slice ak p.keep.length ck, .slice af p.fail.length cf, .slice au p.full.length cu, .int .i64 p.room] 24) none
  have P0 : PlanAt (w.alloc (.cells #[.int .i64 p.crash, .slice ak p.keep.length ck, .slice af p.fail.length cf, .slice au p.full.length cu, .int .i64 p.room] 24)) w.heap.size (.int .i64 p.crash) (.slice ak p.keep.length ck) (.slice af p.fail.length cf) (.slice au p.full.length cu) (.int .i64 p.room) := World.alloc_heap_new w _
  obtain ⟨W0, hW0⟩ : ∃ W0, W0 = w.alloc (.cells #[.int .i64 p.crash, .slice ak p.keep.length ck, .slice af p.fail.length cf, .slice au p.full.length cu, .int .i64 p.room] 24) := ⟨_, rfl⟩
  rw [← hW0] at gB P0
  have h0 := h.new gB
  have c6 := h0.at_.c6
  rw [h0.died, hd] at c6
  rw [← hB] at P0
  have hnR : ¬ R B := fun hk => by have := hR _ (.inl hk); omega
  have hdm : Hid (Calls Tryz.prog 79 #[.pointer (some ⟨q, 0, none⟩)] W0 fun e w' => e = .returned (.tuple #[]) ∧ RDone DX R W0 q a.die w') := Lib.hid (by
    refine (rdie_any h0 (fun k hk => Nat.lt_of_lt_of_le (hR k hk) gB.size) F.keep F.moves F.safe (F.dies _) (F.dirs _) F.good F.sum).mono ?_
    rintro e w' ⟨he, ⟨r', vs', h1⟩, h2⟩
    exact ⟨he, ⟨r', vs', h1⟩, h2⟩)
  have hz : Hid (RDone DX R W0 q a W0) := Lib.hid ⟨⟨r, vs, h0.ru⟩, GP.refl _ _⟩
  have key : ∀ (b : RefP) (W1 : World), RDone DX R W0 q b W1 → ∃ b6 W2, W2 = (W1.setCell ⟨q, 6, none⟩ (.bool false)).setCell ⟨q, 5, none⟩ (.int .i64 0) ∧ W1.cell? ⟨q, 6, none⟩ = some (.bool b6) ∧ W1.frozen? ⟨q, 6, none⟩ = false ∧
      (∃ b5, (W1.setCell ⟨q, 6, none⟩ (.bool false)).cell? ⟨q, 5, none⟩ = some (.int .i64 b5)) ∧ (W1.setCell ⟨q, 6, none⟩ (.bool false)).frozen? ⟨q, 5, none⟩ = false ∧ PlanAt W2 B (.int .i64 p.crash) (.slice ak p.keep.length ck) (.slice af p.fail.length cf) (.slice au p.full.length cu) (.int .i64 p.room) ∧
      (∃ r2 vs2, RefOk DX (RW R w) W2 q { b with died := false, count := 0 } r2 vs2) ∧ GP R w W2 := by
    rintro b W1 ⟨⟨r1, vs1, h1⟩, g1⟩
    have h1w : RefOk DX (RW R w) W1 q b r1 vs1 := h1.weak (fun k hk => hk.elim .inl (fun h => .inr (Nat.le_trans gB.size h.1)))
    have h2 := h1w.setDied false
    have h3 := h2.setCount 0
    have g6 := gq W1 q 6 (.bool false)
    have g5 := gq (W1.setCell ⟨q, 6, none⟩ (.bool false)) q 5 (.int .i64 0)
    have gw : GP R w W1 := (GP.of (P := R) gB (by simp)).trans g1 (fun k hk => .inl hk)
    have P1 : PlanAt W1 B (.int .i64 p.crash) (.slice ak p.keep.length ck) (.slice af p.fail.length cf) (.slice au p.full.length cu) (.int .i64 p.room) := (g1.block B (lt_of_block P0) hnR).trans P0
    have hBq : some q ≠ some B := by simp; omega
    exact ⟨_, _, rfl, h1w.at_.c6, h1w.at_.free 6, ⟨_, h2.at_.c5⟩, h2.at_.free 5, (P1.kept g6 hBq).kept g5 hBq, ⟨_, _, h3⟩, (gw.step g6 (fun k e => by cases e; exact .inl hRq)).step g5 (fun k e => by cases e; exact .inl hRq)⟩
  have hst : a.start p = { a.die with died := false, count := 0, pl := p } := by
    unfold RefP.start
    rw [hd]
    rfl
  rw [hst]
  obtain ⟨nk, hnk⟩ : ∃ n, n = p.keep.length := ⟨_, rfl⟩
  obtain ⟨nf, hnf⟩ : ∃ n, n = p.fail.length := ⟨_, rfl⟩
  obtain ⟨nu, hnu⟩ : ∃ n, n = p.full.length := ⟨_, rfl⟩
  rw [← hnk, ← hnf, ← hnu] at key hA hW0
  rw [← hnk, ← hnf, ← hnu]
  replace hnk := Lib.hid hnk
  replace hnf := Lib.hid hnf
  replace hnu := Lib.hid hnu
  replace hA := Lib.hid hA
  replace key := Lib.hid key
  replace hB := Lib.hid hB
  clear P0 h h0 gB F hR hst hnR
  go_enter Tryz.func46, Tryz.ntmps46
  go_upto_region 1 with fail
  rw [← hB.out, ← hW0]
  replace hW0 := Lib.hid hW0
  go_upto_region 3 with (go_at_call 79; refine hdm.out.mono ?_; rintro e w1 ⟨rfl, h2⟩; have H2 := Lib.hid h2; clear h2)
  obtain ⟨b6, W2, hW2, x6, xf6, ⟨b5, x5⟩, xf5, P2, ⟨r2, vs2, h2⟩, g2⟩ := key.out _ _ H2.out
  clear key hdm hz c6
  go_upto_region 5 with fail
  rw [← hW2]
  replace hW2 := Lib.hid hW2
  clear x6 xf6 x5 xf5
  have e0 := P2.c0
  have e1 := P2.c1
  have e2 := P2.c2
  have e3 := P2.c3
  have e4 := P2.c4
  have hPl := rplan_any _ _ _ p W2 (hA.out W2 g2).1 (hA.out W2 g2).2.1 (hA.out W2 g2).2.2 lk lf lu
  rw [← hnk.out, ← hnf.out, ← hnu.out] at hPl
  clear P2
  go_wp2_with (go_at_call 38
               refine hPl.mono ?_
               clear hPl
               rintro e w5 ⟨k', f', u', rfl, ok, of, ou, g5⟩
               obtain ⟨bk, dk, rfl⟩ := rowForm ok
               obtain ⟨bf, df, rfl⟩ := rowForm of
               obtain ⟨bu, du, rfl⟩ := rowForm ou
               have h5 := h2.new g5
               have A0 := h5.at_
               have A1 : RefAt (w5.setCell ⟨q, 0, none⟩ (.int .i64 p.crash)) q { r2 with crash := p.crash } := heap_setCell_same w5 q 0 _ _ _ A0
               have A2 : RefAt ((w5.setCell ⟨q, 0, none⟩ (.int .i64 p.crash)).setCell ⟨q, 1, none⟩ (.slice bk nk dk)) q { r2 with crash := p.crash, k := .slice bk nk dk } := heap_setCell_same _ q 1 _ _ _ A1
               have A3 : RefAt (((w5.setCell ⟨q, 0, none⟩ (.int .i64 p.crash)).setCell ⟨q, 1, none⟩ (.slice bk nk dk)).setCell ⟨q, 2, none⟩ (.slice bf nf df)) q { r2 with crash := p.crash, k := .slice bk nk dk, f := .slice bf nf df } := heap_setCell_same _ q 2 _ _ _ A2
               have A4 : RefAt ((((w5.setCell ⟨q, 0, none⟩ (.int .i64 p.crash)).setCell ⟨q, 1, none⟩ (.slice bk nk dk)).setCell ⟨q, 2, none⟩ (.slice bf nf df)).setCell ⟨q, 3, none⟩ (.slice bu nu du)) q { r2 with crash := p.crash, k := .slice bk nk dk, f := .slice bf nf df, u := .slice bu nu du } := heap_setCell_same _ q 3 _ _ _ A3
               have a0 := A0.c0
               have b0 := A0.free 0
               have a1 := A1.c1
               have b1 := A1.free 1
               have a2 := A2.c2
               have b2 := A2.free 2
               have a3 := A3.c3
               have b3 := A3.free 3
               have a4 := A4.c4
               have b4 := A4.free 4
               rw [hnk.out] at ok
               rw [hnf.out] at of
               rw [hnu.out] at ou
               have hset := h5.setPlan (p := p) (OwnR.rw ok g2.size) (OwnR.rw of g2.size) (OwnR.rw ou g2.size) rfl
               rw [← hnk.out, ← hnf.out, ← hnu.out] at hset
               have FF := Lib.hid (RDone.of hset.1 ((g2.more g5).step hset.2 (fun k e => by cases e; exact .inl hRq)))
               clear hset A0 A1 A2 A3 A4 h5 ok of ou g5 h2 g2)
  go_end0
  exact ⟨rfl, FF.out⟩
end
end Go.Proofs.YtafcgjbafihniaaGreat

/-
  LAYER 1 (fs): the reference's rows of changes: a copy, one change more; a node whose changes are turned.
-/
namespace Go.Proofs.YtafcgjbafihniaaGreat
set_option maxRecDepth 100000
variable {DX : Nat → Prop}
open Go.RowKit Go.Lib

theorem infoRCh : (Tryz.prog.info? 126).map (fun i => (i.zero, i.size, i.bytes)) = some (some (.agg #[.bool false, .int .i64 0, .slice none 0 0]), 3, 40) := by kernel_rfl
theorem infoRCh_parts : ∃ i0 : TypeInfo, Tryz.prog.info? 126 = some i0 ∧ i0.zero = some (.agg #[.bool false, .int .i64 0, .slice none 0 0]) ∧ i0.size = 3 ∧ i0.bytes = 40 := by
  obtain ⟨i0, h1, h2⟩ := Option.map_eq_some_iff.1 infoRCh
  simp at h2
  exact ⟨i0, h1, h2.1, h2.2.1, h2.2.2⟩
theorem chgC_len (l : List (Chg × Value)) : (chgCells l).length = l.length * 3 := flat_len (fun x : Chg × Value => chgCells1 x.1 x.2) 3 chg1_len l
theorem chg1_one (c : Chg) (dv : Value) (h : dv.oneCell' = true) : ∀ u ∈ chgCells1 c dv, u.oneCell' = true := by
  intro u hu
  rw [chg_form] at hu
  simp at hu
  rcases hu with rfl | rfl | rfl
  · rfl
  · rfl
  · exact h
theorem chgC_one (l : List (Chg × Value)) (h : ∀ x ∈ l, x.2.oneCell' = true) : ∀ u ∈ chgCells l, u.oneCell' = true := by
  intro u hu
  unfold chgCells at hu
  obtain ⟨x, hx, hx2⟩ := List.mem_flatMap.1 hu
  exact chg1_one _ _ (h x hx) u hx2
theorem copy_chg (v : Value) (l : List (Chg × Value)) (w : World) (h1 : ∀ x ∈ l, x.2.oneCell' = true) (hr : w.ownsRow 0 126 3 v l.length (chgCells l)) (hl : l.length ≤ 2199023255552) :
    ∃ v' w', (Builtin.append_ #[98, 98] 98 #[.slice none 0 0, v]).run Tryz.prog w = .ok v' w' ∧ w'.ownsRow w.heap.size 126 3 v' l.length (chgCells l) ∧ w.grownBy w' none := by
  obtain ⟨i0, hi, hz0, hz1, hz2⟩ := infoRCh_parts
  have hr0 := hr
  obtain ⟨h0, ⟨rfl, hn⟩ | ⟨g, cap, cur, rfl, _, hg, hnc, hcm, hcs, ht⟩⟩ := hr
  · have hrun := run_append_owned_none (P := Tryz.prog) (w := w) w.heap.size 98 98 126 i0 3 Tryz.underlying98 hi (.slice none 0 0) 0 [] (World.ownsRow_nil _ _ _ _)
    have hl0 : l = [] := List.length_eq_zero_iff.1 hn
    subst hl0
    exact ⟨_, _, hrun, World.ownsRow_nil _ _ _ _, World.grownBy.refl _ _⟩
  · obtain ⟨v', w', hrun, h5, h6, _, _⟩ := run_append_own_at (P := Tryz.prog) w w.heap.size 98 98 126 i0 (.agg #[.bool false, .int .i64 0, .slice none 0 0]) 3 40 Tryz.underlying98 hi hz0 hz1 hz2 rfl (by decide) (.slice none 0 0) 0 [] (World.ownsRow_nil _ _ _ _) ⟨g, 0, none⟩ l.length cap (chgCells l) (chgC_len l)
      (fun j u hj => by
        have hlt := (List.getElem?_eq_some_iff.1 hj).1
        rw [chgC_len] at hlt
        have := World.ownsRow.cellAt hr0 j hlt
        rw [hj] at this
        rw [addr_add]
        exact this) (chgC_one l h1) (by unfold maxLen; omega) (by omega) (Nat.le_refl _)
    refine ⟨v', w', hrun, by simpa using h5, h6⟩

/-- One change more. -/
theorem push_chg (v : Value) (l : List (Chg × Value)) (c : Chg) (dv : Value) (B b : Nat) (w : World) (h1 : dv.oneCell' = true) (hr : w.ownsRow B 126 3 v l.length (chgCells l)) (hB : B ≤ w.heap.size) (hl : l.length ≤ 2199023255552)
    (hb : w.heap[b]? = some (.cells #[.bool (chB c), .int .i64 (chM c), dv] 126 (0, 0))) :
    ∃ v' w', (Builtin.append_ #[98, 98] 98 #[v, .slice (some ⟨b, 0, none⟩) 1 1]).run Tryz.prog w = .ok v' w' ∧ w'.ownsRow B 126 3 v' (l.length + 1) (chgCells (l ++ [(c, dv)])) ∧ w.grownBy w' v.ownBlock := by
  obtain ⟨i0, hi, hz0, hz1, hz2⟩ := infoRCh_parts
  obtain ⟨v', w', hrun, h5, h6, _, _⟩ := run_append_own_at (P := Tryz.prog) w B 98 98 126 i0 (.agg #[.bool false, .int .i64 0, .slice none 0 0]) 3 40 Tryz.underlying98 hi hz0 hz1 hz2 rfl (by decide) v l.length (chgCells l) hr ⟨b, 0, none⟩ 1 1 [.bool (chB c), .int .i64 (chM c), dv] rfl
    (fun j u hj => by
      rw [addr_add]
      have eX : ∀ i', w.cell? ⟨b, i', none⟩ = #[Value.bool (chB c), .int .i64 (chM c), dv][i']? := fun i' => by simp [World.cell?, hb]
      rw [eX]
      simpa using hj) (fun u hu => by
        simp at hu
        rcases hu with rfl | rfl | rfl
        · rfl
        · rfl
        · exact h1) (by unfold maxLen; omega) (by omega) hB
  refine ⟨v', w', hrun, ?_, h6⟩
  rw [show chgCells (l ++ [(c, dv)]) = chgCells l ++ [.bool (chB c), .int .i64 (chM c), dv] by simp [chgCells, chg_form]]
  exact h5
section
variable {Q R P : Nat → Prop} {w W W' : World} {q : Nat} {a : RefP} {r : RefV} {vs : List (Value × Value)}
/-- One node's changes are turned. -/
theorem RefOk.setChg {w2 : World} {gn j : Nat} {s c c' : Value} {n n' : NodeP} (h : RefOk DX R w q a r vs) (ha : r.nodes.ownBlock = some gn) (hj : vs[j]? = some (s, c)) (hn0 : a.nodes[j]? = some n) (hs : n'.safe = n.safe) (hn : ChgsR (RD R DX) w c' n'.chg) (h2 : w2 = w.setCell ⟨gn, j * 2 + 1, none⟩ c') :
    RefOk DX R w2 q { a with nodes := a.nodes.set j n' } r (vs.set j (s, c')) ∧ w.grownBy w2 (some gn) := by
  have hj1 : j < a.nodes.length := (List.getElem?_eq_some_iff.1 hn0).1
  obtain ⟨va, vc, hv⟩ := h.rows.rn.form
  have hr := h.rows.rn
  rw [hv] at hr ha
  obtain ⟨g, rfl, _, hgl, _, _⟩ := hr.cell (by omega)
  have hgg : g = gn := by simpa [Value.ownBlock] using ha
  subst hgg
  have s2 := World.ownsRow.stored hr.1 (j * 2 + 1) c'
  have g12 : w.grownBy w2 (some g) := by rw [h2]; exact s2.2
  have hP : Kinds w (fun k => k = g) [100] := fun k cs e z hk hb => by
    subst hk
    obtain ⟨c'', fr, h3⟩ := own_obj hr.1 k (by simp [Value.ownBlock])
    have := apart_obj hb h3
    simp at this
    simp [this.2.1]
  have gp : GP (fun k => k = g) w w2 := GP.of g12 (fun k e => by cases e; rfl)
  have hqg : q ≠ g := fun e => by
    subst e
    obtain ⟨c'', fr, h3⟩ := own_obj hr.1 q (by simp [Value.ownBlock])
    have := apart_obj h3 (show _ = _ from h.at_)
    simp at this
  have hvl := h.rows.vl
  have hN := h.rows.node j _ n hj hn0
  refine ⟨⟨(g12.block q (lt_of_block h.at_) (fun e => hqg (by simpa using e))).trans h.at_, h.rq, h.crash, h.room, h.count, h.died, ⟨h.rows.rk.gp gp hP (by decide), h.rows.rf.gp gp hP (by decide), h.rows.ru.gp gp hP (by decide), by simp [hvl], ⟨?_, h.rows.rn.2⟩, fun i v n' e1 e2 => ?_, h.rows.rd.gp gp hP (by decide), h.rows.rs.gp gp hP (by decide), h.rows.rm.gp gp hP (by decide)⟩⟩, g12⟩
  · have e : (nodeCells vs).set (j * 2 + 1) c' = nodeCells (vs.set j (s, c')) := by
      have key : ∀ (l : List (Value × Value)) (j : Nat), l[j]? = some (s, c) → (nodeCells l).set (j * 2 + 1) c' = nodeCells (l.set j (s, c')) := by
        intro l
        induction l with
        | nil => intro j hj; simp at hj
        | cons x l ih =>
          intro j hj
          cases j with
          | zero =>
            simp at hj
            subst hj
            rfl
          | succ j =>
            have := ih j (by simpa using hj)
            simp only [nodeCells, List.flatMap_cons, List.set_cons_succ] at this ⊢
            rw [show (j + 1) * 2 + 1 = (j * 2 + 1) + 1 + 1 by omega]
            simp only [List.cons_append, List.nil_append, List.set_cons_succ]
            rw [this]
      exact key vs j hj
    rw [hv, List.length_set, ← e, h2]
    exact s2.1
  · by_cases hij : i = j
    · subst hij
      rw [List.getElem?_set_self (by omega)] at e1
      rw [List.getElem?_set_self hj1] at e2
      cases e1
      cases e2
      have k1 : OwnR (RD R DX) w2 5 1 s n.safe.length (byteCells n.safe) := hN.1.gp gp hP (by decide)
      rw [← hs] at k1
      exact ⟨k1, hn.gp gp hP (by decide) (by decide)⟩
    · rw [List.getElem?_set_ne (by omega)] at e1 e2
      exact (h.rows.node i v n' e1 e2).gp gp hP (by decide) (by decide)
/-- A row of changes copied, with one more behind. -/
theorem ChgsR.push {dvs : List Value} {cs : List Chg} {c : Chg} {dv v : Value} (hl : dvs.length = cs.length) (hd : ∀ (i : Nat) (c : Chg) (dv : Value), cs[i]? = some c → dvs[i]? = some dv → OwnR R w 5 1 dv (chgData c).length (byteCells (chgData c)))
    (hdv : OwnR R w 5 1 dv (chgData c).length (byteCells (chgData c))) (hv : OwnR R w 126 3 v (cs.length + 1) (chgCells (cs.zip dvs ++ [(c, dv)]))) : ChgsR R w v (cs ++ [c]) := by
  refine ⟨dvs ++ [dv], by simp [hl], ?_, fun i c1 dv1 e1 e2 => ?_⟩
  · rw [List.length_append, List.length_singleton, List.zip_append hl.symm]
    exact hv
  · by_cases hi : i < cs.length
    · rw [List.getElem?_append_left hi] at e1
      rw [List.getElem?_append_left (by omega)] at e2
      exact hd i c1 dv1 e1 e2
    · have hi2 : i - cs.length = 0 := by
        rw [List.getElem?_append_right (by omega)] at e1
        have := (List.getElem?_eq_some_iff.1 e1).1
        simp at this
        omega
      rw [List.getElem?_append_right (by omega), hi2] at e1
      rw [List.getElem?_append_right (by omega), hl, hi2] at e2
      simp at e1 e2
      subst e1 e2
      exact hdv
theorem zip_one {dvs : List Value} {cs : List Chg} (hd : ∀ (i : Nat) (c : Chg) (dv : Value), cs[i]? = some c → dvs[i]? = some dv → OwnR R w 5 1 dv (chgData c).length (byteCells (chgData c))) : ∀ x ∈ cs.zip dvs, x.2.oneCell' = true := by
  intro x hx
  obtain ⟨i, hi⟩ := List.mem_iff_getElem?.1 hx
  obtain ⟨c, dv⟩ := x
  have := List.getElem?_zip_eq_some.1 hi
  obtain ⟨a, k, e⟩ := (hd i c dv this.1 this.2).form
  show dv.oneCell' = true
  rw [e]
  rfl
/-- One change more of a node: what is left behind the store. -/
theorem RefOk.moreChg {w8 : World} {j gn nvc : Nat} {sv cv v8 dv : Value} {n : NodeP} {c : Chg} {dvs : List Value} (h : RefOk DX (RW R w) W q a r vs) (gp : GP R w W) (hv : vs[j]? = some (sv, cv)) (hn : a.nodes[j]? = some n) (ha : r.nodes = .slice (some ⟨gn, 0, none⟩) a.nodes.length nvc)
    (hl : dvs.length = n.chg.length) (hd : ∀ (i : Nat) (c : Chg) (dv : Value), n.chg[i]? = some c → dvs[i]? = some dv → OwnR (RD (RW R w) DX) W 5 1 dv (chgData c).length (byteCells (chgData c)))
    (g : W.grownBy w8 none) (o8 : w8.ownsRow W.heap.size 126 3 v8 (n.chg.length + 1) (chgCells (n.chg.zip dvs ++ [(c, dv)]))) (hdv : OwnR (RW R w) w8 5 1 dv (chgData c).length (byteCells (chgData c))) :
    RDone DX R w q { a with nodes := a.nodes.set j (n.push c) } (w8.setCell ⟨gn, j * 2 + 1, none⟩ v8) ∧ w8.cell? ⟨gn, j * 2 + 1, none⟩ = some cv ∧ w8.frozen? ⟨gn, j * 2 + 1, none⟩ = false := by
  have h8 := h.new g
  have hj1 : j < a.nodes.length := (List.getElem?_eq_some_iff.1 hn).1
  have hvl := h8.rows.vl
  have hrn := h8.rows.rn
  rw [ha] at hrn
  have ho := hrn.2 gn rfl
  have hset := h8.setChg (gn := gn) (j := j) (c' := v8) (n' := n.push c) (by rw [ha]; rfl) hv hn rfl (ChgsR.push hl (fun i c1 dv1 e1 e2 => (hd i c1 dv1 e1 e2).new g) (hdv.weak fun _ hb => .inl hb) ((OwnR.rw o8 gp.size).weak fun _ hb => .inl hb)) rfl
  have l1 := (flat_at (fun x : Value × Value => [x.1, x.2]) 2 (fun _ => rfl) vs j _ hv) 1 (by omega)
  refine ⟨RDone.of hset.1 ((gp.more g).step hset.2 (fun k e => by cases e; exact ho)), ?_, World.ownsRow.frozenAt hrn.1 _⟩
  rw [World.ownsRow.cellAt hrn.1 _ (by omega)]
  simpa [nodeCells] using l1
end
theorem grown_new {a b c : World} {r : Option Nat} (h : a.grownBy b none) (g : b.grownBy c r) (hr : ∀ k, r = some k → a.heap.size ≤ k) : a.grownBy c none :=
  ⟨g.os.trans h.os, g.tape.trans h.tape, g.output.trans h.output, Nat.le_trans h.size g.size, fun k hk _ => (g.block k (Nat.lt_of_lt_of_le hk h.size) (fun e => by have := hr k e.symm; omega)).trans (h.block k hk (by simp))⟩
/-- A copy of a row of changes with one more, made behind the copy or ahead of it: what lies there. -/
theorem twoWays {W : World} {cv dv : Value} {l : List (Chg × Value)} {c : Chg} (h1 : ∀ x ∈ l, x.2.oneCell' = true) (hr : W.ownsRow 0 126 3 cv l.length (chgCells l)) (hl : l.length ≤ 2199023255552) (hd : dv.oneCell' = true) :
    ∃ v5 w5 a8 c8 w8 v5' w5' a8' c8' w8', (Builtin.append_ #[98, 98] 98 #[.slice none 0 0, cv]).run Tryz.prog W = .ok v5 w5 ∧ W.grownBy w5 none ∧
      (Builtin.append_ #[98, 98] 98 #[v5, .slice (some ⟨w5.heap.size, 0, none⟩) 1 1]).run Tryz.prog (w5.alloc (.cells #[.bool (chB c), .int .i64 (chM c), dv] 126)) = .ok (.slice a8 (l.length + 1) c8) w8 ∧ W.grownBy w8 none ∧
      w8.ownsRow W.heap.size 126 3 (.slice a8 (l.length + 1) c8) (l.length + 1) (chgCells (l ++ [(c, dv)])) ∧
      (Builtin.append_ #[98, 98] 98 #[.slice none 0 0, cv]).run Tryz.prog (W.alloc (.cells #[.bool (chB c), .int .i64 (chM c), dv] 126)) = .ok v5' w5' ∧ W.grownBy w5' none ∧
      (Builtin.append_ #[98, 98] 98 #[v5', .slice (some ⟨W.heap.size, 0, none⟩) 1 1]).run Tryz.prog w5' = .ok (.slice a8' (l.length + 1) c8') w8' ∧ W.grownBy w8' none ∧
      w8'.ownsRow W.heap.size 126 3 (.slice a8' (l.length + 1) c8') (l.length + 1) (chgCells (l ++ [(c, dv)])) ∧
      W.grownBy (w5.alloc (.cells #[.bool (chB c), .int .i64 (chM c), dv] 126)) none ∧ W.grownBy (W.alloc (.cells #[.bool (chB c), .int .i64 (chM c), dv] 126)) none := by
  have nn : ∀ {v : Value}, v.ownBlock = none ∨ v.ownBlock ≠ none := fun {v} => by cases v.ownBlock <;> simp
  obtain ⟨v5, w5, run5, o5, g5⟩ := copy_chg cv l W h1 hr hl
  have gX := World.grownBy_alloc w5 (.cells #[.bool (chB c), .int .i64 (chM c), dv] 126) none
  have eX := World.alloc_heap_new w5 (.cells #[.bool (chB c), .int .i64 (chM c), dv] 126)
  have o5X := World.ownsRow.kept o5 gX nn
  obtain ⟨v8, w8, run8, o8, g8⟩ := push_chg v5 l c dv W.heap.size w5.heap.size _ hd o5X (Nat.le_trans g5.size gX.size) hl eX
  obtain ⟨a8, c8, rfl⟩ := rowFormS o8
  have gY := World.grownBy_alloc W (.cells #[.bool (chB c), .int .i64 (chM c), dv] 126) none
  have eY := World.alloc_heap_new W (.cells #[.bool (chB c), .int .i64 (chM c), dv] 126)
  obtain ⟨v5', w5', run5', o5', g5'⟩ := copy_chg cv l _ h1 (World.ownsRow.kept hr gY nn) hl
  have o5Y : w5'.ownsRow W.heap.size 126 3 v5' l.length (chgCells l) := World.ownsRow.mono o5' gY.size
  have eY' := (g5'.block W.heap.size (lt_of_block eY) (by simp)).trans eY
  have g5Y := gY.trans g5'
  obtain ⟨v8', w8', run8', o8', g8'⟩ := push_chg v5' l c dv W.heap.size W.heap.size w5' hd o5Y g5Y.size hl eY'
  obtain ⟨a8', c8', rfl⟩ := rowFormS o8'
  exact ⟨v5, w5, a8, c8, w8, v5', w5', a8', c8', w8', run5, g5, run8, grown_new (g5.trans gX) g8 (fun k e => (World.ownsRow.lt o5 k e).1), o8, run5', g5Y, run8', grown_new g5Y g8' (fun k e => (World.ownsRow.lt o5Y k e).1), o8', g5.trans gX, gY⟩
end Go.Proofs.YtafcgjbafihniaaGreat
