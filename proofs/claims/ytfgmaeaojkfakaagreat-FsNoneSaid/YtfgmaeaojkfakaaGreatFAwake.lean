/-
  LAYER 1 (fs): chapter 1's first example.
-/
import Derived.Test.YtfgmaeaojkfakaaGreatFStartG
import Derived.Test.YtfgmaeaojkfakaaGreatFNone
import Derived.Test.YtfgmaeaojkfakaaGreatFFiles
import Derived.Lib.SlBytesConst
namespace Go.Proofs.YtfgmaeaojkfakaaGreat
set_option maxRecDepth 100000
open Go.RowKit Go.Lib
open Go.Proofs (encStr)
attribute [local go_sem] Oper.semAt_some

def pl0 : Pl := ⟨0, [], [], [], 0⟩
theorem ints_nil (w : World) : Ints w (.slice none 0 0) [] := .inl (.inl ⟨rfl, rfl⟩)

theorem const_xy (w : World) : ∃ W, (convert 32 32 (.slice (some ⟨w.heap.size, 0, none⟩) 2 2)).run Tryz.prog (w.alloc (.cells #[.int .u8 120, .int .u8 121] 5)) = .ok (.slice (some ⟨w.heap.size, 0, none⟩) 2 2) W ∧ w.grownBy W none ∧ Reads W (.slice (some ⟨w.heap.size, 0, none⟩) 2 2) [120, 121] ∧ (w.heap.size < W.heap.size) := by
  refine ⟨_, Lib.run_convert_bytes_const (P := Tryz.prog) w 32 5 #[.int .u8 120, .int .u8 121] 2 2 Tryz.underlying32 Tryz.underlying5, World.grownBy_alloc w _ none, .inr ⟨w.heap.size, 0, 2, rfl, by simp, by unfold maxLen; simp, fun i u hi => ?_⟩, by simp⟩
  have e := World.alloc_heap_new w (.cells #[.int .u8 120, .int .u8 121] 5 (#[Value.int .u8 120, Value.int .u8 121].size, #[Value.int .u8 120, Value.int .u8 121].size + 1))
  rw [Nat.zero_add]
  unfold World.cell?
  dsimp only
  rw [e]
  match i, hi with
  | 0, hi => simp at hi; subst hi; rfl
  | 1, hi => simp at hi; subst hi; rfl

/-- What the example's file holds when it is synced. -/
theorem settle_xy (ks : Nat → Int) (h : ∀ i, ks i = -1) : settleP ks 0 true [] [.add ⟨#[120, 121]⟩] = [120, 121] := by
  rw [settleP, settleP, h 0, Chg.kept_all]
  rfl

theorem convB_of {w : World} {v : Value} {bs : List UInt8} (h : Reads w v bs) : (convert 32 9 v).run Tryz.prog w = .ok (.string ⟨bs.toArray⟩) w := by
  have h0 := h
  rcases h with ⟨rfl, rfl⟩ | ⟨b, off, cap, rfl, _, _, _⟩
  · rw [run_convert_bytes_string w 32 9 5 none 0 0 Tryz.underlying32 Tryz.underlying5 Tryz.underlying9]
    simp [Conv.bytesToString]
    rfl
  · rw [run_convert_bytes_string w 32 9 5 _ _ _ Tryz.underlying32 Tryz.underlying5 Tryz.underlying9]
    have hl := run_loadCells_list (P := Tryz.prog) w ⟨b, off, none⟩ (byteCells bs) h0.cells
    have e : byteCells bs = (bs.map fun u => (u.toNat : Int)).map (Value.int .u8) := by simp [byteCells]
    rw [byteCells_len, e] at hl
    rw [run_bytesToString w _ _ _ _ hl]
    have := fold_push bs []
    simp only [List.nil_append] at this
    exact congrArg (fun s => Result.ok (Value.string s) w) this

theorem sorted_nil : DirL.sorted [] = [] := by simp [DirL.sorted, DirL.names]
theorem sorted_one (x : List UInt8) (b : Nat) : DirL.sorted [(x, b)] = [(x, b)] := by simp [DirL.sorted, DirL.names, DirL.look]

/-- A clone is a file system in memory. -/
theorem cloned_ok {w w' : World} {p : PlV} {ops : Int} {nm : ByteArray} {f : FileV} {gq gd gs : Nat} {k' f' u' : Value} (h : ClonedOne w p ops [] [] [] nm f gq gd gs k' f' u' w') (hc : p.c = 0) (hr : p.r = 0) :
    ∃ mv' b' f2, FsOk w.heap.size w' gq false ⟨p.c, k', f', u', p.r⟩ ⟨0, [], [], [], 0⟩ ops gd gs mv' [(nm.data.toList, b')] [] [⟨⟨#[]⟩, nm, some b'⟩] ([] ++ (b', f2) :: []) ∧ f2.safe = f.safe ∧ f2.data = f.data ∧ f2.chg = f.chg ∧ w.grownBy w' none := by
  obtain ⟨mv', b', f2, h1, h2, h3, h4, h5, h6, h7, h8, h9, h10, h11, h12, h13, h14, h15, h16, h17, h18, h19⟩ := h
  refine ⟨mv', b', f2, ⟨h1, hc, hr, rowMono h15 (Nat.zero_le _), rowMono h16 (Nat.zero_le _), rowMono h17 (Nat.zero_le _), h2, h3, h4, ⟨fun x hx => ?_, ?_⟩, h11, fun k hk => ?_⟩, h6, h7, h8, h19⟩
  · simp at hx
    subst hx
    exact h5
  · have := h5.2.2.2.2
    simpa [filesBlocks] using this
  · rcases hk with e | e | e | e | e | e | e | e
    · exact h13 k (.inl e)
    · exact h13 k (.inr (.inl e))
    · exact h13 k (.inr (.inr (.inl e)))
    · exact (h12 k e).1
    · exact (World.ownsRow.lt h15 k e).1
    · exact (World.ownsRow.lt h16 k e).1
    · exact (World.ownsRow.lt h17 k e).1
    · simp [filesBlocks] at e
      rcases e with e | e
      · exact h13 k (.inr (.inr (.inr (.inl e))))
      · exact h13 k (.inr (.inr (.inr (.inr e))))

set_option maxHeartbeats 8000000 in
theorem fawake_any (w : World) : Calls Tryz.prog 10 #[] w fun e w' => e = .returned (.bool true) ∧ w.grownBy w' none := by
  have hnew := new_good (.slice none 0 0) (.slice none 0 0) (.slice none 0 0) pl0 w (ints_nil w) (ints_nil w) (ints_nil w) (by decide) (by decide) (by decide)
  dsimp only [pl0] at hnew
  go_enter Tryz.func10, Tryz.ntmps10
  go_wp2_with first
    | (go_at_call 12; refine hnew.mono ?_; clear hnew; rintro e w1 ⟨q, d, s, p, rfl, K1, g1⟩; have hcr := create_good ⟨#[97]⟩ K1 g1.size (by decide) (by decide) (by decide) (by decide) (by decide) (by decide) (by decide) (by decide) (by decide) (by decide) rfl (by decide) (by decide))
    | (go_at_call 31; refine hcr.mono ?_; clear hcr; rintro e w2 ⟨rfl, mv2, K2, g2⟩
       obtain ⟨W3, kc, g3, hrd, hs3⟩ := const_xy w2
       have hg12 := g1.size
       have hg22 := g2.size
       have K3 : FsOk w.heap.size W3 q false p ⟨0, [], [], [], 0⟩ 1 d s mv2 [([97], w1.heap.size)] [] [⟨⟨#[]⟩, ⟨#[97]⟩, some w1.heap.size⟩] ([] ++ (w1.heap.size, ⟨.slice none 0 0, .slice none 0 0, .slice none 0 0, [], [], []⟩) :: []) := K2.grown g3
       have hap := append_good ⟨#[97]⟩ (.slice (some ⟨w2.heap.size, 0, none⟩) 2 2) [120, 121] K3 (by omega) (by decide) (by decide) (by decide) (by decide) (by decide) (by decide) (by decide) (by decide) rfl (by decide) hrd (fun _ e => by have := K1.fs.lt; simp [Value.ownBlock] at e; omega) (by simp) (by decide) (by decide)
       have wg3 := (grown_gp g1 g2 (fun k hk => K1.new k hk)).trans g3
       clear hrd K2 g2)
    | (go_at_call 32; refine hap.mono ?_; clear hap; rintro e w4 ⟨rfl, f4, K4, q1, q2, q3, g4⟩
       have hg44 := g4.size
       have wg4 := grown_gp wg3 g4 (fun k hk => K3.new k hk)
       have hsy := sync_good ⟨#[97]⟩ K4 (by omega) (by decide) (by decide) (by decide) (by decide) (by decide) (by decide) rfl (by rw [q1, q3]; exact ⟨by show 0 + 2 ≤ 140737488355328; decide, trivial⟩) (by rw [q3]; decide))
    | (go_at_call 23; refine hsy.mono ?_; clear hsy; rintro e w5 ⟨rfl, f5, K5, r1, r2, r3, g5⟩
       rw [q1, q3] at r1
       have r1' : f5.safe = [120, 121] := r1.trans (settle_xy _ (fun _ => rfl))
       rw [q2] at r2
       have r2' : f5.data = [120, 121] := r2
       have hg55 := g5.size
       have wg5 := grown_gp wg4 g5 (fun k hk => K4.new k hk)
       have hcl := clone_one [] [] [] ⟨#[97]⟩ w1.heap.size f5 w5 K5.fs K5.rk (by simpa [inOrd] using K5.rf) (by simpa [inOrd] using K5.ru) (by decide) (by decide) (by decide) K5.safe K5.mr (K5.files.1 (w1.heap.size, f5) (by simp)) (by rw [r1']; decide) (by rw [r2']; decide) (by rw [r3]; decide) (by decide) (by decide))
  refine hcl.mono ?_
  clear hcl
  rintro e w6 ⟨gq, gd, gs, k6, f6, u6, rfl, hC⟩
  obtain ⟨mv6, b6, ff6, K6, s1, s2, s3, g6⟩ := cloned_ok hC (by have := K5.pc; simpa using this) (by have := K5.pr; simpa using this)
  clear hC
  have J6 := K5.grown g6
  have hg66 := g6.size
  have hsd := syncDir_good K6 (by decide) (by decide) (by decide) (by decide) (by decide) (by decide) (by decide) ⟨⟨by show 0 ≤ maxLen; decide, by show 1 ≤ maxLen; decide, by show (1 : Nat) ≠ 0; decide⟩, by show 0 < maxLen; decide, trivial⟩ (by show 1 < 3518437208882; decide)
  have wg6 := wg5.trans g6
  have hK5 := K5.lt
  clear kc K1 K3 K4 K5 q1 q2 q3 g4 g5 r1 r2 g1 g3 wg3 wg4 wg5
  go_wp2_with fail
  refine hsd.mono ?_
  clear hsd
  rintro e w7 ⟨rfl, K7, g7⟩
  have J7 := J6.kept g7 (fun k hk hk2 => by have := hK5 k hk; have := K6.new k hk2; omega)
  have hg77 := g7.size
  have wg7 := grown_gp wg6 g7 (fun k hk => by have := K6.new k hk; have := hg55; omega)
  have hst := start_good (.slice none 0 0) (.slice none 0 0) (.slice none 0 0) pl0 (fun _ => f5) 0 (by rfl) [] rfl J7 (by omega) (by decide) trivial (by show 1 < 3518437208882; decide) (by decide) (by rw [sorted_nil]; exact ⟨by simp [filesOf], by simp [filesOf, filesBlocks]⟩) (by rw [sorted_nil]; simp [filesOf, filesBlocks]) (by rw [sorted_nil]; simp) (by rw [sorted_nil]; simp [cnt]) (fun W _ => ⟨ints_nil W, ints_nil W, ints_nil W⟩) (by decide) (by decide) (by decide)
  dsimp only [pl0] at hst
  clear J6
  go_wp2_with fail
  refine hst.mono ?_
  clear hst
  rintro e w8 ⟨rfl, p8, d8, G8, J8, _, hft, g8⟩
  have K8 := K7.kept g8 (fun k hk hk2 => by have := hK5 k hk2; have := K7.new k hk; omega)
  have hK7 := K7.lt
  have hg88 := g8.size
  have wg8 := grown_gp wg7 g8 (fun k hk => J7.new k hk)
  have r3' : ff6.chg = [] := s3.trans r3
  have r4' : ff6.safe = [120, 121] := s1.trans r1'
  have hst := start_good (.slice none 0 0) (.slice none 0 0) (.slice none 0 0) pl0 (fun _ => ff6) 0 (by rfl) [([97], b6)] rfl K8 (by omega) (by decide) trivial (by decide) (by show 1 ≤ 3518437208881; decide) (by rw [sorted_one]; exact K8.files) (by rw [sorted_one]; exact fun k hk => hk) (by
    rw [sorted_one]
    intro x hx
    simp at hx
    subst hx
    rw [r3', r4']
    exact ⟨trivial, by decide⟩) (by rw [sorted_one]; simp [cnt, r3']) (fun W _ => ⟨ints_nil W, ints_nil W, ints_nil W⟩) (by decide) (by decide) (by decide)
  dsimp only [pl0] at hst
  clear J7 K7
  go_wp2_with fail
  refine hst.mono ?_
  clear hst
  rintro e w9 ⟨rfl, p9, d9, G9, K9, hdi, _, g9⟩
  have J9 := J8.kept g9 (fun k hk hk2 => by
    have h1 := K8.new k hk2
    have h2 := hK7 k hk2
    rcases hft k hk with h3 | h3
    · have := hK5 k h3; omega
    · omega)
  have wg9 := grown_gp wg8 g9 (fun k hk => by have := K8.new k hk; omega)
  rw [sorted_one] at K9 hdi
  have hd0 := hdi 0 ([97], b6) rfl
  have hdat : (G9 b6).data = [120, 121] := by
    obtain ⟨e1, e2, _⟩ := hd0
    dsimp only at e1 e2
    rw [e2, e1, r3', r4']
    rfl
  clear hdi hd0 K8 J8 hft hK5 hK7
  have hfg := files_any [([97], b6)] G9 w9 K9.fs K9.dir (fun x b hl => by
    have hb : b = b6 := by
      have := DirL.look_mem hl
      simp at this
      exact this.2
    subst hb
    exact ⟨K9.files.1 (b, G9 b) (by simp [filesOf]), by rw [hdat]; decide⟩) (by show 1 ≤ 3518437208881; decide)
  go_wp2_with fail
  refine hfg.mono ?_
  clear hfg
  rintro e w10 ⟨v10, rows, rfl, hfa, hrows, g10⟩
  rw [sorted_one] at hrows
  have J10 := J9.grown g10
  have wg10 := wg9.trans g10
  clear J9 K9
  have hff := files_any [] (fun _ => f5) w10 J10.fs J10.dir (fun x b hl => by cases hl) (by decide)
  obtain ⟨vv, rfl⟩ : ∃ vv, rows = [([97], vv, [120, 121])] := by
    match rows, hrows with
    | [(a, b, c)], hrows =>
      simp [hdat] at hrows
      obtain ⟨rfl, rfl⟩ := hrows
      exact ⟨b, rfl⟩
  obtain ⟨va, vc, hv10⟩ : ∃ a c, v10 = .slice a 1 c := rowFormS hfa.1
  subst hv10
  go_wp2_with fail
  refine hff.mono ?_
  clear hff
  rintro e w11 ⟨v11, rows2, rfl, hfb, hrows2, g11⟩
  rw [sorted_nil] at hrows2
  obtain rfl : rows2 = [] := by simpa using hrows2
  obtain ⟨vb, vbc, hv11⟩ : ∃ a c, v11 = .slice a 0 c := rowFormS hfb.1
  subst hv11
  have hfa2 := hfa.kept g11 (by simp)
  obtain ⟨hrow, hdat2⟩ := hfa2
  have ho := hdat2 ([97], vv, [120, 121]) (by simp)
  dsimp only at ho
  have hcv := convB_of ho.reads
  obtain ⟨xa, xc, hvv⟩ : ∃ a c, vv = .slice a 2 c := rowFormS ho
  obtain ⟨mg, hma, hcell⟩ : ∃ mg, va = some ⟨mg, 0, none⟩ ∧ w11.cell? ⟨mg, 1, none⟩ = some vv := by
    have hr7 := hrow
    obtain ⟨_, ⟨e, hz⟩ | ⟨g9, cap, cur, e, _⟩⟩ := hrow
    · cases hz
    · simp at e
      obtain ⟨rfl, rfl⟩ := e
      exact ⟨g9, rfl, World.ownsRow.cellAt hr7 1 (by simp)⟩
  subst hma hvv
  have wg11 := wg10.trans g11
  clear hfa hfb hrow hdat2 ho J10
  go_wp2_with fail
  go_ret
  exact ⟨rfl, wg11⟩
end Go.Proofs.YtfgmaeaojkfakaaGreat
