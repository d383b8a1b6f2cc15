/-
  LAYER 1 (fs): the operations' arms that change a file or the directory, behind begin.
-/
import Derived.Test.YtafcgjbafihniaaGreatFA18
namespace Go.Proofs.YtafcgjbafihniaaGreat
set_option maxRecDepth 100000
open Go.RowKit Go.Lib
attribute [local go_sem] Oper.semAt_some

section
variable {n0 : Nat → Prop} {w : World} {q : Nat} {p : PlV} {pl : Pl} {ops : Int} {d s : Nat} {mv : Value} {ld ls : DirL} {ml : List Mv} {fl : List (Nat × FileV)}

theorem move_good (m : Mv) (h : FsOk n0 w q false p pl ops d s mv ld ls ml fl) (hn0 : ∀ k, w.heap.size ≤ k → n0 k) (hm : m.may ld) (hl : ld.length < maxLen) (hn2 : ml.length < 3518437208882) :
    Calls Tryz.prog 67 #[.pointer (some ⟨q, 0, none⟩), m.v] w fun e w' => e = .returned (.tuple #[]) ∧ ∃ mv', FsOk n0 w' q false p pl ops d s mv' (m.done ld) ls (ml ++ [m]) fl ∧ GP (FsFoot q d s p mv fl) w w' := by
  have rf := h.row_fs h.mr (by decide)
  refine (move_any m ml ld w h.fs h.dir h.mr hm hl hn2 h.ndq rf.1 rf.2.1).mono ?_
  rintro e w' ⟨rfl, mv', k1, k2, k4, k5, k6⟩
  have hpl := h.plan k6 (fun k hk => by
    rcases hk with e | e | e
    · exact .inl e
    · exact .inr (.inl e)
    · exact .inr (.inr (.inr (.inl e))))
  have hnf2 : ∀ k ∈ filesBlocks fl, ¬ (k = q ∨ k = d ∨ mv.ownBlock = some k) := fun k hk hp => by
    have := h.fb k hk
    rcases hp with e | e | e
    · exact this.1 e
    · exact this.2.1 e
    · exact h.row_files h.mr ⟨by decide, by decide, by decide⟩ k hk e
  refine ⟨rfl, mv', ⟨k1, h.pc, h.pr, hpl.1, hpl.2.1, hpl.2.2, k2, h.safe.gp k6 (by rintro (e | e | e); exact h.nsq e; exact h.nds e.symm; exact rf.2.2 e), by rw [List.length_append]; exact k4, h.files.kept k6 hnf2, h.nds, fun k hk => ?_⟩, (GP.refl _ _).trans k6 (fun k hk => .inl ?_)⟩
  · rcases hk with e | e | e | e | e | e | e | e
    · exact h.new k (.inl e)
    · exact h.new k (.inr (.inl e))
    · exact h.new k (.inr (.inr (.inl e)))
    · rcases k5 with e2 | ⟨k2', e2, h2⟩
      · exact h.new k (.inr (.inr (.inr (.inl (by rw [← e2]; exact e)))))
      · rw [e] at e2; cases e2; exact hn0 _ h2
    · exact h.new k (.inr (.inr (.inr (.inr (.inl e)))))
    · exact h.new k (.inr (.inr (.inr (.inr (.inr (.inl e))))))
    · exact h.new k (.inr (.inr (.inr (.inr (.inr (.inr (.inl e)))))))
    · exact h.new k (.inr (.inr (.inr (.inr (.inr (.inr (.inr e)))))))
  · rcases hk with e | e | e
    · exact .inl e
    · exact .inr (.inl e)
    · exact .inr (.inr (.inr (.inl e)))

theorem Begun.foot {W : World} (B : Begun n0 w q p pl ops d s mv ld ls ml fl W) (m : Nat) : GP (FsFoot q d s p mv fl) w (W.drewN m) := GP.of (B.grown m) (fun k e => by cases e; exact .inl rfl)

set_option maxHeartbeats 4000000 in
theorem rename_any (nm : ByteArray) (nt : ByteArray) (hmb2 : okName nt = true) (hne : (nm.toList == nt.toList) = false) (hnt : nt.size ≤ maxLen) {W : World} (B : Begun n0 w q p pl ops d s mv ld ls ml fl W) (hn0 : ∀ k, w.heap.size ≤ k → n0 k) (hs : nm.size ≤ maxLen) (b : Nat) (hl : ld.look nm.data.toList = some b) (hll : ld.length < maxLen) (hn2 : ml.length < 3518437208882) :
    Calls Tryz.prog 34 #[.pointer (some ⟨q, 0, none⟩), .string nm, .string nt] w fun e w' => e = .returned (.int .i64 0) ∧ ∃ mv', FsOk n0 w' q false p pl (ops + 1) d s mv' (Mv.done ⟨nm, nt, none⟩ ld) ls (ml ++ [⟨nm, nt, none⟩]) fl ∧ GP (FsFoot q d s p mv fl) w w' := by
  have hx := B.cell
  have hlk := B.look nm hs
  rw [hl] at hlk
  unfold ptrV at hlk
  have hmv := fun m => move_good ⟨nm, nt, none⟩ (B.ok m) (fun k hk => hn0 k (Nat.le_trans (B.grown m).size hk)) ⟨hs, hnt, by show (ld.look nm.data.toList).isSome = true; rw [hl]; rfl⟩ hll hn2
  dsimp only [Mv.v, ptrV] at hmv
  have hF := B.foot
  replace hmv := Lib.hid hmv
  replace hF := Lib.hid hF
  try have hmb := fun m => mayBe_any nt (W.drewN m)
  try rw [hmb2] at hmb
  go_enter Tryz.func34, Tryz.ntmps34
  go_wp2_with (first | (go_at_call 57; refine B.begin.mono ?_; rintro e w2 ⟨rfl, m1, rfl⟩) | (go_at_call 68; refine (hmb _).mono ?_; rintro e w2 ⟨rfl, rfl⟩) | (go_at_call 67; refine (hmv.out _).mono ?_; rintro e w2 ⟨rfl, mv', k1, k2⟩))
  go_ret
  exact ⟨rfl, mv', k1, (hF.out m1).trans k2 (fun k hk => .inl hk)⟩
set_option maxHeartbeats 4000000 in
theorem remove_any (nm : ByteArray)  {W : World} (B : Begun n0 w q p pl ops d s mv ld ls ml fl W) (hn0 : ∀ k, w.heap.size ≤ k → n0 k) (hs : nm.size ≤ maxLen) (b : Nat) (hl : ld.look nm.data.toList = some b) (hll : ld.length < maxLen) (hn2 : ml.length < 3518437208882) :
    Calls Tryz.prog 35 #[.pointer (some ⟨q, 0, none⟩), .string nm] w fun e w' => e = .returned (.int .i64 0) ∧ ∃ mv', FsOk n0 w' q false p pl (ops + 1) d s mv' (Mv.done ⟨nm, ⟨#[]⟩, none⟩ ld) ls (ml ++ [⟨nm, ⟨#[]⟩, none⟩]) fl ∧ GP (FsFoot q d s p mv fl) w w' := by
  have hx := B.cell
  have hlk := B.look nm hs
  rw [hl] at hlk
  unfold ptrV at hlk
  have hmv := fun m => move_good ⟨nm, ⟨#[]⟩, none⟩ (B.ok m) (fun k hk => hn0 k (Nat.le_trans (B.grown m).size hk)) ⟨hs, (Nat.zero_le _), by show (ld.look nm.data.toList).isSome = true; rw [hl]; rfl⟩ hll hn2
  dsimp only [Mv.v, ptrV] at hmv
  have hF := B.foot
  replace hmv := Lib.hid hmv
  replace hF := Lib.hid hF
  try have hmb := fun m => mayBe_any nt (W.drewN m)
  try rw [hmb2] at hmb
  go_enter Tryz.func35, Tryz.ntmps35
  go_wp2_with (first | (go_at_call 57; refine B.begin.mono ?_; rintro e w2 ⟨rfl, m1, rfl⟩) | (go_at_call 68; refine (hmb _).mono ?_; rintro e w2 ⟨rfl, rfl⟩) | (go_at_call 67; refine (hmv.out _).mono ?_; rintro e w2 ⟨rfl, mv', k1, k2⟩))
  go_ret
  exact ⟨rfl, mv', k1, (hF.out m1).trans k2 (fun k hk => .inl hk)⟩
end
end Go.Proofs.YtafcgjbafihniaaGreat

/-
  LAYER 1 (fs): Append's and Cut's arms, behind begin.
-/
namespace Go.Proofs.YtafcgjbafihniaaGreat
set_option maxRecDepth 100000
open Go.RowKit Go.Lib
attribute [local go_sem] Oper.semAt_some

section
variable {n0 : Nat → Prop} {w : World} {q : Nat} {p : PlV} {pl : Pl} {ops : Int} {d s : Nat} {mv : Value} {ld ls : DirL} {ml : List Mv} {A B' : List (Nat × FileV)} {b : Nat} {f : FileV}

theorem Begun.file {W : World} (B : Begun n0 w q p pl ops d s mv ld ls ml (A ++ (b, f) :: B') W) : ∃ a c, f.dv = .slice a f.data.length c ∧ ∀ m, FileAt (W.drewN m) b f ∧ (W.drewN m).cell? ⟨b, 1, none⟩ = some (.slice a f.data.length c) := by
  obtain ⟨a, c, hdv⟩ : ∃ a c, f.dv = .slice a f.data.length c := rowFormS ((B.ok 0).fileq.1).2.2.1
  exact ⟨a, c, hdv, fun m => ⟨(B.ok m).fileq.1, by rw [← hdv]; exact (B.ok m).fileq.1.c1⟩⟩

set_option maxHeartbeats 2000000 in
theorem cut_low (nm : ByteArray) (long : Int) {W : World} (B : Begun n0 w q p pl ops d s mv ld ls ml (A ++ (b, f) :: B') W) (hs : nm.size ≤ maxLen) (hl : ld.look nm.data.toList = some b) (hdl : f.data.length ≤ 268435456) (hlo : long < 0) :
    Calls Tryz.prog 33 #[.pointer (some ⟨q, 0, none⟩), .string nm, .int .i64 long] w fun e w' => e = .returned (.int .i64 1) ∧ ∃ m, w' = W.drewN m := by
  have hx := B.cell
  have hlk := B.look nm hs
  rw [hl] at hlk
  unfold ptrV at hlk
  obtain ⟨da, dc, _, hfc⟩ := B.file
  have hc1 := fun m => (hfc m).2
  obtain ⟨n, hn⟩ : ∃ n, n = f.data.length := ⟨_, rfl⟩
  rw [← hn] at *
  clear hfc hn
  try subst hlo
  go_enter Tryz.func33, Tryz.ntmps33
  go_wp2_with (go_at_call 57; refine B.begin.mono ?_; rintro e w2 ⟨rfl, m1, rfl⟩)
  go_ret
  exact ⟨rfl, _, rfl⟩
set_option maxHeartbeats 2000000 in
theorem cut_high (nm : ByteArray) (long : Int) {W : World} (B : Begun n0 w q p pl ops d s mv ld ls ml (A ++ (b, f) :: B') W) (hs : nm.size ≤ maxLen) (hl : ld.look nm.data.toList = some b) (hdl : f.data.length ≤ 268435456) (hlo : 0 ≤ long) (hhi : (f.data.length : Int) < long) :
    Calls Tryz.prog 33 #[.pointer (some ⟨q, 0, none⟩), .string nm, .int .i64 long] w fun e w' => e = .returned (.int .i64 1) ∧ ∃ m, w' = W.drewN m := by
  have hx := B.cell
  have hlk := B.look nm hs
  rw [hl] at hlk
  unfold ptrV at hlk
  obtain ⟨da, dc, _, hfc⟩ := B.file
  have hc1 := fun m => (hfc m).2
  obtain ⟨n, hn⟩ : ∃ n, n = f.data.length := ⟨_, rfl⟩
  rw [← hn] at *
  clear hfc hn
  try subst hlo
  go_enter Tryz.func33, Tryz.ntmps33
  go_wp2_with (go_at_call 57; refine B.begin.mono ?_; rintro e w2 ⟨rfl, m1, rfl⟩)
  go_ret
  exact ⟨rfl, _, rfl⟩
set_option maxHeartbeats 2000000 in
theorem cut_same (nm : ByteArray) (long : Int) {W : World} (B : Begun n0 w q p pl ops d s mv ld ls ml (A ++ (b, f) :: B') W) (hs : nm.size ≤ maxLen) (hl : ld.look nm.data.toList = some b) (hdl : f.data.length ≤ 268435456) (hlo : long = (f.data.length : Int)) :
    Calls Tryz.prog 33 #[.pointer (some ⟨q, 0, none⟩), .string nm, .int .i64 long] w fun e w' => e = .returned (.int .i64 0) ∧ ∃ m, w' = W.drewN m := by
  have hx := B.cell
  have hlk := B.look nm hs
  rw [hl] at hlk
  unfold ptrV at hlk
  obtain ⟨da, dc, _, hfc⟩ := B.file
  have hc1 := fun m => (hfc m).2
  obtain ⟨n, hn⟩ : ∃ n, n = f.data.length := ⟨_, rfl⟩
  rw [← hn] at *
  clear hfc hn
  try subst hlo
  go_enter Tryz.func33, Tryz.ntmps33
  go_wp2_with (go_at_call 57; refine B.begin.mono ?_; rintro e w2 ⟨rfl, m1, rfl⟩)
  go_ret
  exact ⟨rfl, _, rfl⟩

set_option maxHeartbeats 4000000 in
theorem cut_any (nm : ByteArray) (long : Nat) {W : World} (B : Begun n0 w q p pl ops d s mv ld ls ml (A ++ (b, f) :: B') W) (hn0 : ∀ k, w.heap.size ≤ k → n0 k) (hs : nm.size ≤ maxLen) (hl : ld.look nm.data.toList = some b) (hdl : f.data.length ≤ 268435456) (hlo : long < f.data.length) (hn : f.chg.length < 8796093022207) :
    Calls Tryz.prog 33 #[.pointer (some ⟨q, 0, none⟩), .string nm, .int .i64 (long : Int)] w fun e w' => e = .returned (.int .i64 0) ∧ ∃ f', FsOk n0 w' q false p pl (ops + 1) d s mv ld ls ml (A ++ (b, f') :: B') ∧ f'.safe = f.safe ∧ f'.data = f.data.take long ∧ f'.chg = f.chg ++ [.cut long] ∧ GP (FsFoot q d s p mv (A ++ (b, f) :: B')) w w' := by
  have hx := B.cell
  have hlk := B.look nm hs
  rw [hl] at hlk
  unfold ptrV at hlk
  obtain ⟨da, dc, _, hfc⟩ := B.file
  have hc1 := fun m => (hfc m).2
  have hch := fun m => change_any (.cut long) b f (W.drewN m) (hfc m).1 (by unfold Chg.may; show long ≤ f.data.length; omega) hn
  dsimp only [Chg.v] at hch
  obtain ⟨n, hnn⟩ : ∃ n, n = f.data.length := ⟨_, rfl⟩
  rw [← hnn] at hc1 hlo hdl
  have hF := B.foot
  replace hch := Lib.hid hch
  replace hF := Lib.hid hF
  clear hfc hnn
  go_enter Tryz.func33, Tryz.ntmps33
  go_wp2_with (first | (go_at_call 57; refine B.begin.mono ?_; rintro e w2 ⟨rfl, m1, rfl⟩) | (go_at_call 70; refine (hch.out _).mono ?_; rintro e w2 ⟨rfl, f', k1, k2, k3, k4, k5, k6⟩))
  go_ret
  have := (B.ok m1).file (fun k hk => hn0 k (Nat.le_trans (B.grown m1).size hk)) k5 (fun k hk => .inr hk) ((B.ok m1).fs.gp k5 (fun e => by
    have hq := (B.ok m1).fileq
    rcases e with e | e
    · exact hq.2.1 e.symm
    · rcases FileV.mem e with e | e | e
      · exact hq.2.2.1 e
      · exact hq.2.2.2.1 e
      · exact hq.2.2.2.2 e)) k1 k6
  exact ⟨rfl, f', this.1, k2, k3, k4, (hF.out m1).trans this.2 (fun k hk => .inl hk)⟩

set_option maxHeartbeats 2000000 in
theorem append_long (nm : ByteArray) (ba : Option Addr) (bl bc : Nat) {W : World} (B : Begun n0 w q p pl ops d s mv ld ls ml (A ++ (b, f) :: B') W) (hs : nm.size ≤ maxLen) (hl : ld.look nm.data.toList = some b) (hdl : f.data.length ≤ 268435456) (hbl : bl < 4611686018427387904) (hlo : 268435456 < bl + f.data.length) :
    Calls Tryz.prog 32 #[.pointer (some ⟨q, 0, none⟩), .string nm, .slice ba bl bc] w fun e w' => e = .returned (.int .i64 2) ∧ ∃ m, w' = W.drewN m := by
  have hx := B.cell
  have hlk := B.look nm hs
  rw [hl] at hlk
  unfold ptrV at hlk
  obtain ⟨da, dc, _, hfc⟩ := B.file
  have hc1 := fun m => (hfc m).2
  obtain ⟨n, hn⟩ : ∃ n, n = f.data.length := ⟨_, rfl⟩
  rw [← hn] at *
  clear hfc hn
  go_enter Tryz.func32, Tryz.ntmps32
  go_wp2_with (go_at_call 57; refine B.begin.mono ?_; rintro e w2 ⟨rfl, m1, rfl⟩)
  go_ret
  exact ⟨rfl, _, rfl⟩
set_option maxHeartbeats 2000000 in
theorem append_full (nm : ByteArray) (ba : Option Addr) (bl bc : Nat) {W : World} (B : Begun n0 w q p pl ops d s mv ld ls ml (A ++ (b, f) :: B') W) (hs : nm.size ≤ maxLen) (hl : ld.look nm.data.toList = some b) (hdl : f.data.length ≤ 268435456) (hlo : bl + f.data.length ≤ 268435456) (hsu : pl.full.length < 4611686018427387904) (hfl : pl.full.contains (ops + 1) = true) :
    Calls Tryz.prog 32 #[.pointer (some ⟨q, 0, none⟩), .string nm, .slice ba bl bc] w fun e w' => e = .returned (.int .i64 11) ∧ ∃ m, w' = W.drewN m := by
  have hx := B.cell
  have hlk := B.look nm hs
  rw [hl] at hlk
  unfold ptrV at hlk
  obtain ⟨da, dc, _, hfc⟩ := B.file
  have hc1 := fun m => (hfc m).2
  obtain ⟨n, hn⟩ : ∃ n, n = f.data.length := ⟨_, rfl⟩
  rw [← hn] at *
  have hfu := B.full hsu
  rw [hfl] at hfu
  clear hfc hn
  go_enter Tryz.func32, Tryz.ntmps32
  go_wp2_with (first | (go_at_call 57; refine B.begin.mono ?_; rintro e w2 ⟨rfl, m1, rfl⟩) | (go_at_call 60; refine (hfu _).mono ?_; rintro e w2 ⟨rfl, m2, rfl⟩))
  go_ret
  exact ⟨rfl, _, rfl⟩
set_option maxHeartbeats 2000000 in
theorem append_lacks (nm : ByteArray) (ba : Option Addr) (bl bc : Nat) {W : World} (B : Begun n0 w q p pl ops d s mv ld ls ml (A ++ (b, f) :: B') W) (hs : nm.size ≤ maxLen) (hl : ld.look nm.data.toList = some b) (hdl : f.data.length ≤ 268435456) (hlo : bl + f.data.length ≤ 268435456) (hsu : pl.full.length < 4611686018427387904) (hfl : pl.full.contains (ops + 1) = false) (hlr : ∀ m, Calls Tryz.prog 69 #[.pointer (some ⟨q, 0, none⟩), .int .i64 (bl : Int)] (W.drewN m) fun e w' => e = .returned (.bool true) ∧ (W.drewN m).grownBy w' none) :
    Calls Tryz.prog 32 #[.pointer (some ⟨q, 0, none⟩), .string nm, .slice ba bl bc] w fun e w' => e = .returned (.int .i64 11) ∧ ∃ m, (W.drewN m).grownBy w' none := by
  have hx := B.cell
  have hlk := B.look nm hs
  rw [hl] at hlk
  unfold ptrV at hlk
  obtain ⟨da, dc, _, hfc⟩ := B.file
  have hc1 := fun m => (hfc m).2
  obtain ⟨n, hn⟩ : ∃ n, n = f.data.length := ⟨_, rfl⟩
  rw [← hn] at *
  have hfu := B.full hsu
  rw [hfl] at hfu
  clear hfc hn
  go_enter Tryz.func32, Tryz.ntmps32
  go_wp2_with (first | (go_at_call 57; refine B.begin.mono ?_; rintro e w2 ⟨rfl, m1, rfl⟩) | (go_at_call 60; refine (hfu _).mono ?_; rintro e w2 ⟨rfl, m2, rfl⟩) | (go_at_call 69; refine (hlr _).mono ?_; rintro e w2 ⟨rfl, g2⟩))
  go_ret
  exact ⟨rfl, _, g2⟩
set_option maxHeartbeats 2000000 in
theorem append_nothing (nm : ByteArray) (ba : Option Addr) (bl bc : Nat) {W : World} (B : Begun n0 w q p pl ops d s mv ld ls ml (A ++ (b, f) :: B') W) (hs : nm.size ≤ maxLen) (hl : ld.look nm.data.toList = some b) (hdl : f.data.length ≤ 268435456) (hlo : bl + f.data.length ≤ 268435456) (hsu : pl.full.length < 4611686018427387904) (hz : bl = 0) (hfl : pl.full.contains (ops + 1) = false) (hlr : ∀ m, Calls Tryz.prog 69 #[.pointer (some ⟨q, 0, none⟩), .int .i64 (bl : Int)] (W.drewN m) fun e w' => e = .returned (.bool false) ∧ (W.drewN m).grownBy w' none) :
    Calls Tryz.prog 32 #[.pointer (some ⟨q, 0, none⟩), .string nm, .slice ba bl bc] w fun e w' => e = .returned (.int .i64 0) ∧ ∃ m, (W.drewN m).grownBy w' none := by
  have hx := B.cell
  have hlk := B.look nm hs
  rw [hl] at hlk
  unfold ptrV at hlk
  obtain ⟨da, dc, _, hfc⟩ := B.file
  have hc1 := fun m => (hfc m).2
  obtain ⟨n, hn⟩ : ∃ n, n = f.data.length := ⟨_, rfl⟩
  rw [← hn] at *
  have hfu := B.full hsu
  rw [hfl] at hfu
  clear hfc hn
  subst hz
  go_enter Tryz.func32, Tryz.ntmps32
  go_wp2_with (first | (go_at_call 57; refine B.begin.mono ?_; rintro e w2 ⟨rfl, m1, rfl⟩) | (go_at_call 60; refine (hfu _).mono ?_; rintro e w2 ⟨rfl, m2, rfl⟩) | (go_at_call 69; refine (hlr _).mono ?_; rintro e w2 ⟨rfl, g2⟩))
  go_ret
  exact ⟨rfl, _, g2⟩
end
end Go.Proofs.YtafcgjbafihniaaGreat

/-
  LAYER 1 (fs): Append where bytes are laid, with a room or without.
-/
namespace Go.Proofs.YtafcgjbafihniaaGreat
set_option maxRecDepth 100000
open Go.RowKit Go.Lib
attribute [local go_sem] Oper.semAt_some

section
variable {n0 : Nat → Prop} {w : World} {q : Nat} {p : PlV} {pl : Pl} {ops : Int} {d s : Nat} {mv : Value} {ld ls : DirL} {ml : List Mv} {A B' : List (Nat × FileV)} {b : Nat} {f : FileV}
set_option maxHeartbeats 4000000 in
theorem append_any (nm : ByteArray) (bv : Value) (bs : List UInt8) {W : World} (B : Begun n0 w q p pl ops d s mv ld ls ml (A ++ (b, f) :: B') W) (hn0 : ∀ k, w.heap.size ≤ k → n0 k) (hs : nm.size ≤ maxLen) (hl : ld.look nm.data.toList = some b) (hlo : bs.length + f.data.length ≤ 268435456) (hsu : pl.full.length < 4611686018427387904)
    (hfl : pl.full.contains (ops + 1) = false) (hlr : ∀ m, Calls Tryz.prog 69 #[.pointer (some ⟨q, 0, none⟩), .int .i64 (bs.length : Int)] (W.drewN m) fun e w' => e = .returned (.bool false) ∧ (W.drewN m).grownBy w' none)
    (hb : Reads w bv bs) (hbv : bs ≠ [] → bv.ownBlock ≠ some q) (hne : bs ≠ []) (hn : f.chg.length < 8796093022207) :
    Calls Tryz.prog 32 #[.pointer (some ⟨q, 0, none⟩), .string nm, bv] w fun e w' => e = .returned (.int .i64 0) ∧ ∃ f', FsOk n0 w' q false p pl (ops + 1) d s mv ld ls ml (A ++ (b, f') :: B') ∧ f'.safe = f.safe ∧ f'.data = f.data ++ bs ∧ f'.chg = f.chg ++ [.add ⟨bs.toArray⟩] ∧ GP (FsFoot q d s p mv (A ++ (b, f) :: B')) w w' := by
  have hx := B.cell
  have hlk := B.look nm hs
  rw [hl] at hlk
  unfold ptrV at hlk
  obtain ⟨da, dc, _, hfc⟩ := B.file
  have hc1 := fun m => (hfc m).2
  have hbm : ∀ m, Reads (W.drewN m) bv bs := fun m => hb.kept (B.grown m) (.inr (hbv hne))
  obtain ⟨ba, bc, rfl⟩ := hb.form
  have hfu := B.full hsu
  rw [hfl] at hfu
  have hbl : 0 < bs.length := List.length_pos_iff.2 hne
  have hch := fun m W' (g : (W.drewN m).grownBy W' none) => change_any (.add ⟨bs.toArray⟩) b f W' ((hfc m).1.kept (P := fun _ => False) (GP.of g (by simp)) (fun h => h) (fun _ _ h => h)) (by unfold Chg.may; show f.data.length + bs.toArray.size ≤ _; simp; omega) hn
  have hcv := fun m W' (g : (W.drewN m).grownBy W' none) => convA_of ((hbm m).new g)
  dsimp only [Chg.v] at hch
  obtain ⟨n, hnn⟩ : ∃ n, n = bs.length := ⟨_, rfl⟩
  obtain ⟨k, hkk⟩ : ∃ n, n = f.data.length := ⟨_, rfl⟩
  rw [← hnn] at hlr hlo hbl hcv ⊢
  rw [← hkk] at hc1 hlo
  have hF := B.foot
  replace hch := Lib.hid hch
  replace hF := Lib.hid hF
  clear hfc hnn hkk hb hbm
  go_enter Tryz.func32, Tryz.ntmps32
  go_wp2_with (first
    | (go_at_call 57; refine B.begin.mono ?_; rintro e w2 ⟨rfl, m1, rfl⟩)
    | (go_at_call 60; refine (hfu _).mono ?_; rintro e w2 ⟨rfl, m2, rfl⟩)
    | (go_at_call 69; refine (hlr (m1 + m2)).mono ?_; rintro e w3 ⟨rfl, g3⟩; have hcv3 := hcv _ _ g3)
    | (go_at_call 70; refine (hch.out _ _ g3).mono ?_; rintro e w2 ⟨rfl, f', k1, k2, k3, k4, k5, k6⟩))
  go_ret
  have h3 := (B.ok (m1 + m2)).grown g3
  have := h3.file (fun k hk => hn0 k (Nat.le_trans (B.grown (m1 + m2)).size (Nat.le_trans g3.size hk))) k5 (fun k hk => .inr hk) (h3.fs.gp k5 (fun e => by
    have hq := h3.fileq
    rcases e with e | e
    · exact hq.2.1 e.symm
    · rcases FileV.mem e with e | e | e
      · exact hq.2.2.1 e
      · exact hq.2.2.2.1 e
      · exact hq.2.2.2.2 e)) k1 k6
  exact ⟨rfl, f', this.1, k2, by rw [k3]; simp [Chg.done], k4, ((hF.out (m1 + m2)).step g3 (by simp)).trans this.2 (fun k hk => .inl hk)⟩
end
end Go.Proofs.YtafcgjbafihniaaGreat

/-
  LAYER 1 (fs): the program's operations, as the plain file system has them.
-/
namespace Go.Proofs.YtafcgjbafihniaaGreat
set_option maxRecDepth 100000
open Go.RowKit Go.Lib

/-- The program's file system stands for a. -/
def FsSim (n0 : Nat → Prop) (w : World) (q : Nat) (a : RefP) : Prop := ∃ φ p d s mv fl, FsOk n0 w q a.died p a.pl a.count d s mv (a.dir.mapB φ) (a.safe.mapB φ) (a.moves.map (mvOf φ)) fl ∧ FSim φ a fl
theorem GP.wide {P Q : Nat → Prop} {a b : World} (h : GP P a b) (hP : ∀ k, P k → Q k) : GP Q a b := (GP.refl Q a).trans h (fun k hk => .inl (hP k hk))
theorem FSim.same {φ : Nat → Nat} {a b : RefP} {fl : List (Nat × FileV)} (S : FSim φ a fl) (hl : ∀ i, b.live i → a.live i) (hf : ∀ i, b.live i → b.file i = a.file i) : FSim φ b fl :=
  ⟨fun i hi => by rw [hf i hi]; exact S.file i (hl i hi), fun i j hi hj => S.inj i j (hl i hi) (hl j hj)⟩
theorem RInv.dirLive {N : Nat} {a : RefP} (I : RInv N a) {x : List UInt8} {i : Nat} (h : a.dir.look x = some i) : a.live i := ⟨a.moves.length, x, by rw [List.take_length, ← I.dir]; exact h⟩
theorem RInv.liveLt {N : Nat} {a : RefP} (I : RInv N a) {i : Nat} (h : a.live i) : i < a.nodes.length := by
  obtain ⟨m, x, e⟩ := h
  exact (I.pre m).lookLt e
section
variable {n0 P : Nat → Prop} {w w' : World} {q : Nat} {a : RefP} {N : Nat}
theorem FsSim.kept (S : FsSim n0 w q a) (g : GP P w w') (hP : ∀ k, P k → ¬ n0 k) : FsSim n0 w' q a := by
  obtain ⟨φ, p, d, s, mv, fl, h, hs⟩ := S
  exact ⟨φ, p, d, s, mv, fl, h.kept g (fun k hk hp => hP k hp (h.new k hk)), hs⟩
theorem FsSim.lt (S : FsSim n0 w q a) : q < w.heap.size := by
  obtain ⟨φ, p, d, s, mv, fl, h, hs⟩ := S
  exact h.fs.lt

/-- What a beginning that goes wrong leaves. -/
theorem FsSim.begin_err (S : FsSim n0 w q a) (I : RInv N a) (hN : N ≤ 2199023255552) (hn0 : ∀ k, w.heap.size ≤ k → n0 k) (h0 : a.begin.1 ≠ 0) :
    Calls Tryz.prog 57 #[.pointer (some ⟨q, 0, none⟩)] w fun e w' => e = .returned (.int .i64 a.begin.1) ∧ (FsSim n0 w' q a.begin.2 ∧ GP n0 w w') := by
  obtain ⟨φ, p, d, s, mv, fl, h, hs⟩ := S
  by_cases hd : a.died = true
  · have e : a.begin = (12, a) := by unfold RefP.begin; rw [if_pos hd]
    rw [e]
    refine (begin_dead hd w h).mono ?_
    rintro e w' ⟨rfl, rfl⟩
    exact ⟨rfl, ⟨φ, p, d, s, mv, fl, h, hs⟩, GP.refl _ _⟩
  · have hdf : a.died = false := by simpa using hd
    rw [hdf] at h
    by_cases hc : a.count + 1 = a.pl.crash
    · have e : a.begin = (12, { a with count := a.count + 1 }.die) := by unfold RefP.begin; rw [if_neg hd, if_pos hc]
      rw [e]
      obtain ⟨k1, k2, k3, k4, k5, k6, k7, k8, k9⟩ := die_sim h hs I hN
      refine (begin_dies (fileOf fl) _ rfl _ k1 h hn0 I.c0 (by have := I.c9; omega) hc (by have := I.pl.1; omega) k2 k3 k4 k5 k6 k7 k8).mono ?_
      rintro e w' ⟨rfl, d', G, h2, h3, h4, h5⟩
      exact ⟨rfl, ⟨φ, p, d', s, _, _, h2, ⟨(k9 G h3).file, (k9 G h3).inj⟩⟩, h5.wide h.new⟩
    · by_cases hf : a.pl.fail.contains (a.count + 1) = true
      · have e : a.begin = (10, { a with count := a.count + 1 }) := by unfold RefP.begin; rw [if_neg hd, if_neg hc, if_pos hf]
        rw [e]
        refine (begin_ok h I.c0 (by have := I.c9; omega) hc (by have := I.pl.2.1; omega)).mono ?_
        rintro e w' ⟨rfl, m, rfl⟩
        have hk := h.counted (a.count + 1) m
        refine ⟨by rw [if_pos hf], ⟨φ, p, d, s, mv, fl, ?_, ⟨hs.file, hs.inj⟩⟩, GP.of hk.2 (fun k e => by cases e; exact h.new q (.inl rfl))⟩
        show FsOk n0 _ q a.died p a.pl (a.count + 1) d s mv (a.dir.mapB φ) (a.safe.mapB φ) (a.moves.map (mvOf φ)) fl
        rw [hdf]
        exact hk.1
      · exact (h0 (by unfold RefP.begin; rw [if_neg hd, if_neg hc, if_neg hf])).elim
/-- What a beginning that goes well finds. -/
structure FsSim.Ok (n0 : Nat → Prop) (w : World) (q : Nat) (a : RefP) (φ : Nat → Nat) (p : PlV) (d s : Nat) (mv : Value) (fl : List (Nat × FileV)) (W : World) : Prop where
  dead : a.died = false
  crash : a.count + 1 ≠ a.pl.crash
  fail : a.pl.fail.contains (a.count + 1) = false
  h : FsOk n0 w q false p a.pl a.count d s mv (a.dir.mapB φ) (a.safe.mapB φ) (a.moves.map (mvOf φ)) fl
  hs : FSim φ a fl
  B : Begun n0 w q p a.pl a.count d s mv (a.dir.mapB φ) (a.safe.mapB φ) (a.moves.map (mvOf φ)) fl W
  done : ∀ m, FsSim n0 (W.drewN m) q { a with count := a.count + 1 } ∧ GP n0 w (W.drewN m)
theorem FsSim.begun (S : FsSim n0 w q a) (I : RInv N a) (hN : N ≤ 2199023255552) (h0 : a.begin.1 = 0) : ∃ φ p d s mv fl W, FsSim.Ok n0 w q a φ p d s mv fl W := by
  obtain ⟨φ, p, d, s, mv, fl, h, hs⟩ := S
  have hd : ¬ a.died = true := fun e => by unfold RefP.begin at h0; rw [if_pos e] at h0; cases h0
  have hc : ¬ a.count + 1 = a.pl.crash := fun e => by unfold RefP.begin at h0; rw [if_neg hd, if_pos e] at h0; cases h0
  have hf : ¬ a.pl.fail.contains (a.count + 1) = true := fun e => by unfold RefP.begin at h0; rw [if_neg hd, if_neg hc, if_pos e] at h0; cases h0
  have hdf : a.died = false := by simpa using hd
  have hff : a.pl.fail.contains (a.count + 1) = false := by simpa using hf
  rw [hdf] at h
  obtain ⟨W, B⟩ := Go.Proofs.YtafcgjbafihniaaGreat.begun h I.c0 (by have := I.c9; omega) hc (by have := I.pl.2.1; omega) hff
  refine ⟨φ, p, d, s, mv, fl, W, hdf, hc, hff, h, hs, B, fun m => ⟨⟨φ, p, d, s, mv, fl, ?_, ⟨hs.file, hs.inj⟩⟩, GP.of (B.grown m) (fun k e => by cases e; exact h.new q (.inl rfl))⟩⟩
  show FsOk n0 _ q a.died p a.pl (a.count + 1) d s mv (a.dir.mapB φ) (a.safe.mapB φ) (a.moves.map (mvOf φ)) fl
  rw [hdf]
  exact B.ok m
end

section
variable {n0 : Nat → Prop} {w W : World} {q : Nat} {a : RefP} {N : Nat} {φ : Nat → Nat} {p : PlV} {d s : Nat} {mv : Value} {fl : List (Nat × FileV)}
theorem madeLt (I : RInv N a) : ∀ m ∈ a.moves, ∀ x i, m = .made x i → i < a.nodes.length := by
  intro m hm x i e
  obtain ⟨k, hk⟩ := List.mem_iff_getElem?.1 hm
  have h1 := done_take a.moves a.safe k m hk
  have h2 := (I.pre (k + 1)).lookLt (x := x.data.toList) (j := i) (by rw [h1, e]; exact DirL.look_put_same _ _ _)
  exact h2
theorem mvOf_congr {φ ψ : Nat → Nat} {K : Nat} (h : ∀ i, i < K → φ i = ψ i) {m : RMv} (hm : ∀ x i, m = .made x i → i < K) : mvOf φ m = mvOf ψ m := by
  cases m with
  | made x i => simp only [mvOf, h i (hm x i rfl)]
  | ren x y i => rfl
  | rem x => rfl
/-- A file turned, in both. -/
theorem FSim.set {A B : List (Nat × FileV)} {j : Nat} {f f' : FileV} {n' : NodeP} {c : Int} (S : FSim φ a (A ++ (φ j, f) :: B)) (hj : a.live j) (hjl : j < a.nodes.length) (hn : f'.safe = n'.safe ∧ f'.chg = n'.chg ∧ f'.data = n'.data) :
    FSim φ { a with count := c, nodes := a.nodes.set j n' } (A ++ (φ j, f') :: B) := by
  have hlv : ∀ i, RefP.live { a with count := c, nodes := a.nodes.set j n' } i → a.live i := fun i h => h
  refine ⟨fun i hi => ?_, fun i k hi hk => S.inj i k (hlv i hi) (hlv k hk)⟩
  by_cases hij : i = j
  · subst hij
    refine ⟨f', by simp, ?_⟩
    have e : RefP.file { a with count := c, nodes := a.nodes.set i n' } i = n' := by
      unfold RefP.file
      rw [List.getD_eq_getElem?_getD]
      show ((a.nodes.set i n')[i]?).getD _ = _
      rw [List.getElem?_set_self hjl]
      rfl
    rw [e]
    exact hn
  · obtain ⟨g, h1, h2⟩ := S.file i (hlv i hi)
    refine ⟨g, ?_, ?_⟩
    · rcases List.mem_append.1 h1 with h | h
      · exact List.mem_append.2 (.inl h)
      · rcases List.mem_cons.1 h with h | h
        · exact (hij (S.inj i j (hlv i hi) hj (congrArg Prod.fst h))).elim
        · exact List.mem_append.2 (.inr (List.mem_cons.2 (.inr h)))
    · have e : RefP.file { a with count := c, nodes := a.nodes.set j n' } i = a.file i := by
        unfold RefP.file
        rw [List.getD_eq_getElem?_getD, List.getD_eq_getElem?_getD]
        show ((a.nodes.set j n')[i]?).getD _ = _
        rw [List.getElem?_set_ne (fun e => hij e.symm)]
      rw [e]
      exact h2
theorem FSim.at (S : FSim φ a fl) {j : Nat} (hj : a.live j) : ∃ A B f, fl = A ++ (φ j, f) :: B ∧ f.safe = (a.file j).safe ∧ f.chg = (a.file j).chg ∧ f.data = (a.file j).data := by
  obtain ⟨f, h1, h2⟩ := S.file j hj
  obtain ⟨A, B, e⟩ := List.append_of_mem h1
  exact ⟨A, B, f, e, h2⟩
theorem look_some {x : List UInt8} {j : Nat} (h : a.dir.look x = some j) : (a.dir.mapB φ).look x = some (φ j) := by rw [DirL.mapB_look]; show Option.map φ (a.dir.look x) = _; rw [h]; rfl
theorem look_none {x : List UInt8} (h : a.dir.look x = none) : (a.dir.mapB φ).look x = none := by rw [DirL.mapB_look]; show Option.map φ (a.dir.look x) = _; rw [h]; rfl
theorem settle_all : ∀ (l : List Chg) (i : Nat) (bs : List UInt8), settleP (fun _ => -1) i true bs l = l.foldl Chg.done bs
  | [], _, _ => rfl
  | c :: l, i, bs => by
    rw [settleP, Chg.kept_all]
    exact settle_all l (i + 1) (c.done bs)
/-- A move that makes nothing keeps the files. -/
theorem FSim.move (S : FSim φ a fl) (I : RInv N a) (m : RMv) (hm : m.ok a.dir) (hn : ∀ x i, m ≠ .made x i) {c : Int} : FSim φ { a with count := c, dir := RMv.done a.dir m, moves := a.moves ++ [m] } fl := by
  refine S.same (fun i hi => ?_) (fun i _ => rfl)
  obtain ⟨k, x, e⟩ := hi
  have e' : (((a.moves ++ [m]).take k).foldl RMv.done a.safe).look x = some i := e
  by_cases hk : k ≤ a.moves.length
  · rw [List.take_append_of_le_length hk] at e'
    exact ⟨k, x, e'⟩
  · rw [List.take_of_length_le (by simp only [List.length_append, List.length_singleton]; omega), List.foldl_append, ← I.dir] at e'
    have e2 : (RMv.done a.dir m).look x = some i := e'
    cases m with
    | made y j => exact (hn y j rfl).elim
    | ren y z j =>
      by_cases hx : x = z.data.toList
      · subst hx
        have := DirL.look_put_same (DirL.drop a.dir y.data.toList) z.data.toList j
        have e3 : some j = some i := by rw [← this]; exact e2
        cases e3
        exact I.dirLive hm.1
      · have h3 : (DirL.drop a.dir y.data.toList).look x = some i := by rw [← DirL.look_put_other (DirL.drop a.dir y.data.toList) hx j]; exact e2
        by_cases hy : x = y.data.toList
        · rw [hy, DirL.look_drop_same] at h3
          cases h3
        · rw [DirL.look_drop_other _ hy] at h3
          exact I.dirLive h3
    | rem y =>
      have h3 : (DirL.drop a.dir y.data.toList).look x = some i := e2
      by_cases hy : x = y.data.toList
      · rw [hy, DirL.look_drop_same] at h3
        cases h3
      · rw [DirL.look_drop_other _ hy] at h3
        exact I.dirLive h3
end
end Go.Proofs.YtafcgjbafihniaaGreat

/-
  LAYER 1 (fs): each of the program's operations, as the plain file system has it.
-/
namespace Go.Proofs.YtafcgjbafihniaaGreat
set_option maxRecDepth 100000
open Go.RowKit Go.Lib

section
variable {n0 : Nat → Prop} {w : World} {q : Nat} {a : RefP} {N : Nat}
theorem str_ne {a b : ByteArray} (h : a ≠ b) : (a.toList == b.toList) = false := by
  have : ¬ a.toList = b.toList := fun e => h (by
    rw [ByteArray.toList_eq, ByteArray.toList_eq] at e
    cases a with | mk x => cases b with | mk y =>
    simp only [Array.toList_inj] at e
    rw [e])
  simpa using this

theorem FsSim.create (S : FsSim n0 w q a) (I : RInv N a) (hN : N ≤ 2199023255552) (hn0 : ∀ k, w.heap.size ≤ k → n0 k) (nm : ByteArray) (hs : nm.size ≤ maxLen) :
    Calls Tryz.prog 31 #[.pointer (some ⟨q, 0, none⟩), .string nm] w fun e w' => e = .returned (.int .i64 (a.create nm).1) ∧ FsSim n0 w' q (a.create nm).2 ∧ GP n0 w w' := by
  by_cases h0 : a.begin.1 = 0
  · obtain ⟨φ, p, d, s, mv, fl, W, O⟩ := S.begun I hN h0
    have B := O.B
    unfold RefP.create
    rw [if_pos h0]
    by_cases hnm : okName nm = true
    · rw [if_pos hnm]
      cases hl : a.dir.look nm.data.toList with
      | some j =>
        rw [if_pos (show (some j).isSome = true from rfl)]
        refine (create_exists nm B hnm hs (φ j) (look_some hl)).mono ?_
        rintro e w' ⟨rfl, m, rfl⟩
        exact ⟨rfl, O.done m⟩
      | none =>
        rw [if_neg (by simp)]
        by_cases hlen : 4096 ≤ a.dir.length
        · rw [if_pos hlen]
          refine (create_long nm B hnm hs (look_none hl) (by rw [DirL.mapB_length]; exact hlen)).mono ?_
          rintro e w' ⟨rfl, m, rfl⟩
          exact ⟨rfl, O.done m⟩
        · rw [if_neg hlen]
          by_cases hfu : a.pl.full.contains (a.count + 1) = true
          · rw [if_pos hfu]
            refine (create_full nm B hnm hs (look_none hl) (by rw [DirL.mapB_length]; omega) (by have := I.pl.2.2.1; omega) hfu).mono ?_
            rintro e w' ⟨rfl, m, rfl⟩
            exact ⟨rfl, O.done m⟩
          · rw [if_neg hfu]
            have hnz := okName_size hnm
            refine (create_good nm O.h hn0 I.c0 (by have := I.c9; omega) O.crash (by have := I.pl.2.1; omega) (by have := I.pl.2.2.1; omega) O.fail (by simpa using hfu) hs hnm (by omega) (look_none hl) (by rw [DirL.mapB_length]; omega) (by rw [List.length_map]; have := I.ml; omega)).mono ?_
            rintro e w' ⟨rfl, mv', h2, h3⟩
            obtain ⟨ψ, hψ⟩ : ∃ ψ : Nat → Nat, ψ = fun i => if i = a.nodes.length then w.heap.size else φ i := ⟨_, rfl⟩
            have hψ1 : ∀ i, i < a.nodes.length → φ i = ψ i := fun i hi => by rw [hψ]; exact (if_neg (by omega)).symm
            have hψ2 : ψ a.nodes.length = w.heap.size := by rw [hψ]; exact if_pos rfl
            have e1 : (a.dir.mapB φ).put nm.data.toList w.heap.size = (RMv.done a.dir (.made nm a.nodes.length)).mapB ψ := by
              rw [DirL.mapB_congr (fun p hp => hψ1 _ (I.dirOk.lt p hp)), ← hψ2, DirL.mapB_put]
              rfl
            have e2 : a.safe.mapB φ = a.safe.mapB ψ := DirL.mapB_congr (fun p hp => hψ1 _ (I.safeOk.lt p hp))
            have e3 : a.moves.map (mvOf φ) ++ [⟨⟨#[]⟩, nm, some w.heap.size⟩] = (a.moves ++ [RMv.made nm a.nodes.length]).map (mvOf ψ) := by
              have hmm : a.moves.map (mvOf φ) = a.moves.map (mvOf ψ) := List.map_congr_left (fun m hm => mvOf_congr hψ1 (madeLt I m hm))
              rw [List.map_append, hmm, ← hψ2]
              rfl
            rw [e1, e2, e3] at h2
            refine ⟨rfl, ⟨ψ, p, d, s, mv', _, by show FsOk n0 w' q a.died p a.pl (a.count + 1) d s mv' _ _ _ _; rw [O.dead]; exact h2, ?_⟩, h3.wide O.h.new⟩
            have hlv : ∀ i, RefP.live { a with count := a.count + 1, nodes := a.nodes ++ [⟨[], []⟩], dir := RMv.done a.dir (.made nm a.nodes.length), moves := a.moves ++ [.made nm a.nodes.length] } i → a.live i ∨ i = a.nodes.length := by
              rintro i ⟨k, x, e⟩
              have e' : (((a.moves ++ [RMv.made nm a.nodes.length]).take k).foldl RMv.done a.safe).look x = some i := e
              by_cases hk : k ≤ a.moves.length
              · rw [List.take_append_of_le_length hk] at e'
                exact .inl ⟨k, x, e'⟩
              · rw [List.take_of_length_le (by simp only [List.length_append, List.length_singleton]; omega), List.foldl_append, ← I.dir] at e'
                have e4 : (DirL.put a.dir nm.data.toList a.nodes.length).look x = some i := e'
                by_cases hx : x = nm.data.toList
                · rw [hx, DirL.look_put_same] at e4
                  cases e4
                  exact .inr rfl
                · rw [DirL.look_put_other _ hx] at e4
                  exact .inl (I.dirLive e4)
            have hnew : ∀ i, a.live i → φ i ≠ w.heap.size := fun i hi e => by
              obtain ⟨f, h1, _⟩ := O.hs.file i hi
              have := O.h.files.lt (φ i) (mem_filesBlocks.2 ⟨_, h1, .inl rfl⟩)
              omega
            refine ⟨fun i hi => ?_, fun i j hi hj e => ?_⟩
            · rcases hlv i hi with h | h
              · have hil := I.liveLt h
                obtain ⟨f, h1, h4⟩ := O.hs.file i h
                rw [← hψ1 i hil]
                refine ⟨f, List.mem_append.2 (.inl h1), ?_⟩
                have e5 : RefP.file { a with count := a.count + 1, nodes := a.nodes ++ [⟨[], []⟩], dir := RMv.done a.dir (.made nm a.nodes.length), moves := a.moves ++ [.made nm a.nodes.length] } i = a.file i := by
                  unfold RefP.file
                  rw [List.getD_eq_getElem?_getD, List.getD_eq_getElem?_getD]
                  show ((a.nodes ++ [⟨[], []⟩])[i]?).getD _ = _
                  rw [List.getElem?_append_left hil]
                rw [e5]
                exact h4
              · subst h
                rw [hψ2]
                refine ⟨_, List.mem_append.2 (.inr (List.mem_singleton.2 rfl)), ?_⟩
                have e5 : RefP.file { a with count := a.count + 1, nodes := a.nodes ++ [⟨[], []⟩], dir := RMv.done a.dir (.made nm a.nodes.length), moves := a.moves ++ [.made nm a.nodes.length] } a.nodes.length = ⟨[], []⟩ := by
                  unfold RefP.file
                  rw [List.getD_eq_getElem?_getD]
                  show ((a.nodes ++ [⟨[], []⟩])[a.nodes.length]?).getD _ = _
                  simp
                rw [e5]
                exact ⟨rfl, rfl, rfl⟩
            · rcases hlv i hi with h | h
              · rcases hlv j hj with k | k
                · rw [← hψ1 i (I.liveLt h), ← hψ1 j (I.liveLt k)] at e
                  exact O.hs.inj i j h k e
                · rw [← hψ1 i (I.liveLt h), k, hψ2] at e
                  exact (hnew i h e).elim
              · rcases hlv j hj with k | k
                · rw [← hψ1 j (I.liveLt k), h, hψ2] at e
                  exact (hnew j k e.symm).elim
                · rw [h, k]
    · rw [if_neg hnm]
      refine (create_name nm B (by simpa using hnm)).mono ?_
      rintro e w' ⟨rfl, m, rfl⟩
      exact ⟨rfl, O.done m⟩
  · have hk := create_err nm (some ⟨q, 0, none⟩) a.begin.1 _ w (by simpa using h0) (S.begin_err I hN hn0 h0)
    unfold RefP.create
    rw [if_neg h0]
    exact hk

theorem FsSim.remove (S : FsSim n0 w q a) (I : RInv N a) (hN : N ≤ 2199023255552) (hn0 : ∀ k, w.heap.size ≤ k → n0 k) (nm : ByteArray) (hs : nm.size ≤ maxLen) :
    Calls Tryz.prog 35 #[.pointer (some ⟨q, 0, none⟩), .string nm] w fun e w' => e = .returned (.int .i64 (a.remove nm).1) ∧ FsSim n0 w' q (a.remove nm).2 ∧ GP n0 w w' := by
  by_cases h0 : a.begin.1 = 0
  · obtain ⟨φ, p, d, s, mv, fl, W, O⟩ := S.begun I hN h0
    have B := O.B
    unfold RefP.remove
    rw [if_pos h0]
    cases hl : a.dir.look nm.data.toList with
    | none =>
      rw [if_neg (by simp)]
      refine (remove_nofile nm B hs (look_none hl)).mono ?_
      rintro e w' ⟨rfl, m, rfl⟩
      exact ⟨rfl, O.done m⟩
    | some j =>
      rw [if_pos (show (some j).isSome = true from rfl)]
      have hok : RMv.ok a.dir (.rem nm) := by show (a.dir.look nm.data.toList).isSome = true; rw [hl]; rfl
      refine (remove_any nm B hn0 hs (φ j) (look_some hl) (by rw [DirL.mapB_length]; have := I.dirOk.len; unfold maxLen; omega) (by rw [List.length_map]; have := I.ml; omega)).mono ?_
      rintro e w' ⟨rfl, mv', h2, h3⟩
      have e1 : Mv.done ⟨nm, ⟨#[]⟩, none⟩ (a.dir.mapB φ) = (RMv.done a.dir (.rem nm)).mapB φ := mvOf_done (φ := φ) hok
      rw [e1] at h2
      refine ⟨rfl, ⟨φ, p, d, s, mv', fl, ?_, O.hs.move I (.rem nm) hok (fun _ _ e => by cases e)⟩, h3.wide O.h.new⟩
      show FsOk n0 w' q a.died p a.pl (a.count + 1) d s mv' ((RMv.done a.dir (.rem nm)).mapB φ) (a.safe.mapB φ) ((a.moves ++ [RMv.rem nm]).map (mvOf φ)) fl
      rw [O.dead, List.map_append]
      exact h2
  · have hk := remove_err nm (some ⟨q, 0, none⟩) a.begin.1 _ w (by simpa using h0) (S.begin_err I hN hn0 h0)
    unfold RefP.remove
    rw [if_neg h0]
    exact hk

theorem FsSim.rename (S : FsSim n0 w q a) (I : RInv N a) (hN : N ≤ 2199023255552) (hn0 : ∀ k, w.heap.size ≤ k → n0 k) (nm nt : ByteArray) (hs : nm.size ≤ maxLen) (ht : nt.size ≤ maxLen) :
    Calls Tryz.prog 34 #[.pointer (some ⟨q, 0, none⟩), .string nm, .string nt] w fun e w' => e = .returned (.int .i64 (a.rename nm nt).1) ∧ FsSim n0 w' q (a.rename nm nt).2 ∧ GP n0 w w' := by
  by_cases h0 : a.begin.1 = 0
  · obtain ⟨φ, p, d, s, mv, fl, W, O⟩ := S.begun I hN h0
    have B := O.B
    unfold RefP.rename
    rw [if_pos h0]
    cases hl : a.dir.look nm.data.toList with
    | none =>
      refine (rename_nofile nm nt B hs (look_none hl)).mono ?_
      rintro e w' ⟨rfl, m, rfl⟩
      exact ⟨rfl, O.done m⟩
    | some j =>
      dsimp only
      by_cases hnm : okName nt = true
      · rw [if_pos hnm]
        by_cases he : nm = nt
        · rw [if_pos he]
          subst he
          refine (rename_same nm B hs (φ j) (look_some hl) hnm).mono ?_
          rintro e w' ⟨rfl, m, rfl⟩
          exact ⟨rfl, O.done m⟩
        · rw [if_neg he]
          have hok : RMv.ok a.dir (.ren nm nt j) := ⟨hl, okName_size hnm⟩
          refine (rename_any nm nt hnm (str_ne he) ht B hn0 hs (φ j) (look_some hl) (by rw [DirL.mapB_length]; have := I.dirOk.len; unfold maxLen; omega) (by rw [List.length_map]; have := I.ml; omega)).mono ?_
          rintro e w' ⟨rfl, mv', h2, h3⟩
          have e1 : Mv.done ⟨nm, nt, none⟩ (a.dir.mapB φ) = (RMv.done a.dir (.ren nm nt j)).mapB φ := mvOf_done (φ := φ) hok
          rw [e1] at h2
          refine ⟨rfl, ⟨φ, p, d, s, mv', fl, ?_, O.hs.move I (.ren nm nt j) hok (fun _ _ e => by cases e)⟩, h3.wide O.h.new⟩
          show FsOk n0 w' q a.died p a.pl (a.count + 1) d s mv' ((RMv.done a.dir (.ren nm nt j)).mapB φ) (a.safe.mapB φ) ((a.moves ++ [RMv.ren nm nt j]).map (mvOf φ)) fl
          rw [O.dead, List.map_append]
          exact h2
      · rw [if_neg hnm]
        refine (rename_name nm nt B hs (φ j) (look_some hl) (by simpa using hnm)).mono ?_
        rintro e w' ⟨rfl, m, rfl⟩
        exact ⟨rfl, O.done m⟩
  · have hk := rename_err nm nt (some ⟨q, 0, none⟩) a.begin.1 _ w (by simpa using h0) (S.begin_err I hN hn0 h0)
    unfold RefP.rename
    rw [if_neg h0]
    exact hk

theorem FsSim.syncDir (S : FsSim n0 w q a) (I : RInv N a) (hN : N ≤ 2199023255552) (hn0 : ∀ k, w.heap.size ≤ k → n0 k) :
    Calls Tryz.prog 24 #[.pointer (some ⟨q, 0, none⟩)] w fun e w' => e = .returned (.int .i64 a.syncDir.1) ∧ FsSim n0 w' q a.syncDir.2 ∧ GP n0 w w' := by
  by_cases h0 : a.begin.1 = 0
  · obtain ⟨φ, p, d, s, mv, fl, W, O⟩ := S.begun I hN h0
    have B := O.B
    unfold RefP.syncDir
    rw [if_pos h0]
    by_cases hfu : a.pl.full.contains (a.count + 1) = true
    · rw [if_pos hfu]
      refine (syncDir_full B (by have := I.pl.2.2.1; omega) hfu).mono ?_
      rintro e w' ⟨rfl, m, rfl⟩
      exact ⟨rfl, O.done m⟩
    · rw [if_neg hfu]
      refine (syncDir_good O.h I.c0 (by have := I.c9; omega) O.crash (by have := I.pl.2.1; omega) (by have := I.pl.2.2.1; omega) O.fail (by simpa using hfu) (okMoves_mapB φ (N := 4096) (K := a.nodes.length) (by unfold maxLen; omega) _ _ I.okr I.pre) (by rw [List.length_map]; have := I.ml; omega)).mono ?_
      rintro e w' ⟨rfl, h2, h3⟩
      rw [movesDone_mapB φ _ _ I.okr, ← I.dir] at h2
      refine ⟨rfl, ⟨φ, p, d, s, _, fl, by show FsOk n0 w' q a.died p a.pl (a.count + 1) d s _ _ _ _ _; rw [O.dead]; exact h2, O.hs.same (fun i hi => ?_) (fun i _ => rfl)⟩, h3.wide O.h.new⟩
      obtain ⟨k, x, e⟩ := hi
      have e' : ((([] : List RMv).take k).foldl RMv.done a.dir).look x = some i := e
      rw [List.take_nil] at e'
      exact I.dirLive e'
  · have hk := syncDir_err (some ⟨q, 0, none⟩) a.begin.1 _ w (by simpa using h0) (S.begin_err I hN hn0 h0)
    unfold RefP.syncDir
    rw [if_neg h0]
    exact hk

theorem FsSim.sync (S : FsSim n0 w q a) (I : RInv N a) (hN : N ≤ 2199023255552) (hn0 : ∀ k, w.heap.size ≤ k → n0 k) (nm : ByteArray) (hs : nm.size ≤ maxLen) :
    Calls Tryz.prog 23 #[.pointer (some ⟨q, 0, none⟩), .string nm] w fun e w' => e = .returned (.int .i64 (a.sync nm).1) ∧ FsSim n0 w' q (a.sync nm).2 ∧ GP n0 w w' := by
  by_cases h0 : a.begin.1 = 0
  · obtain ⟨φ, p, d, s, mv, fl, W, O⟩ := S.begun I hN h0
    have B := O.B
    unfold RefP.sync
    rw [if_pos h0]
    cases hl : a.dir.look nm.data.toList with
    | none =>
      refine (sync_nofile nm B hs (look_none hl)).mono ?_
      rintro e w' ⟨rfl, m, rfl⟩
      exact ⟨rfl, O.done m⟩
    | some j =>
      dsimp only
      have hlv := I.dirLive hl
      have hjl := I.liveLt hlv
      obtain ⟨A, B', f, rfl, f1, f2, f3⟩ := O.hs.at hlv
      have hg := I.good _ (RefP.file_mem hjl)
      refine (sync_good nm O.h hn0 I.c0 (by have := I.c9; omega) O.crash (by have := I.pl.2.1; omega) O.fail hs (look_some hl) (by rw [f1, f2]; exact hg.okL) (by rw [f2]; have := I.chgLe hjl; omega)).mono ?_
      rintro e w' ⟨rfl, f', h2, h3, h4, h5, h6⟩
      refine ⟨rfl, ⟨φ, p, d, s, mv, _, by show FsOk n0 w' q a.died p a.pl (a.count + 1) d s _ _ _ _ _; rw [O.dead]; exact h2, O.hs.set hlv hjl ⟨?_, h5, ?_⟩⟩, h6.wide O.h.new⟩
      · rw [h3, settle_all, f1, f2]
        rfl
      · rw [h4, f3]
        rfl
  · have hk := sync_err nm (some ⟨q, 0, none⟩) a.begin.1 _ w (by simpa using h0) (S.begin_err I hN hn0 h0)
    unfold RefP.sync
    rw [if_neg h0]
    exact hk

theorem FsSim.cut (S : FsSim n0 w q a) (I : RInv N a) (hN : N ≤ 2199023255552) (hn0 : ∀ k, w.heap.size ≤ k → n0 k) (nm : ByteArray) (hs : nm.size ≤ maxLen) (long : Int) :
    Calls Tryz.prog 33 #[.pointer (some ⟨q, 0, none⟩), .string nm, .int .i64 long] w fun e w' => e = .returned (.int .i64 (a.cut nm long).1) ∧ FsSim n0 w' q (a.cut nm long).2 ∧ GP n0 w w' := by
  by_cases h0 : a.begin.1 = 0
  · obtain ⟨φ, p, d, s, mv, fl, W, O⟩ := S.begun I hN h0
    have B := O.B
    have Od := O.done
    unfold RefP.cut
    rw [if_pos h0]
    cases hl : a.dir.look nm.data.toList with
    | none =>
      refine (cut_nofile nm long B hs (look_none hl)).mono ?_
      rintro e w' ⟨rfl, m, rfl⟩
      exact ⟨rfl, Od m⟩
    | some j =>
      dsimp only
      have hlv := I.dirLive hl
      have hjl := I.liveLt hlv
      obtain ⟨A, B', f, rfl, f1, f2, f3⟩ := O.hs.at hlv
      have hg := I.good _ (RefP.file_mem hjl)
      have hd := hg.last
      have hdl : f.data.length ≤ 268435456 := by rw [f3]; exact hd
      rw [← f3]
      by_cases k1 : long < 0 ∨ (f.data.length : Int) < long
      · rw [if_pos k1]
        have key : long < 0 ∨ (0 ≤ long ∧ (f.data.length : Int) < long) := by omega
        rcases key with k | ⟨k, k'⟩
        · refine (cut_low nm long B hs (look_some hl) hdl k).mono ?_
          rintro e w' ⟨rfl, m, rfl⟩
          exact ⟨rfl, Od m⟩
        · refine (cut_high nm long B hs (look_some hl) hdl k k').mono ?_
          rintro e w' ⟨rfl, m, rfl⟩
          exact ⟨rfl, Od m⟩
      · rw [if_neg k1]
        obtain ⟨m, rfl⟩ : ∃ m : Nat, long = (m : Int) := ⟨long.toNat, by omega⟩
        by_cases k2 : (m : Int) < (f.data.length : Int)
        · rw [if_pos k2]
          refine (cut_any nm m B hn0 hs (look_some hl) hdl (by omega) (by rw [f2]; have := I.chgLe hjl; omega)).mono ?_
          rintro e w' ⟨rfl, f', h2, h3, h4, h5, h6⟩
          refine ⟨rfl, ⟨φ, p, d, s, mv, _, by show FsOk n0 w' q a.died p a.pl (a.count + 1) d s _ _ _ _ _; rw [O.dead]; exact h2, O.hs.set hlv hjl ⟨?_, ?_, ?_⟩⟩, h6.wide O.h.new⟩
          · rw [h3, f1]
            rfl
          · rw [h5, f2]
            rfl
          · rw [h4, f3]
            show _ = ((a.file j).chg ++ [Chg.cut m]).foldl Chg.done (a.file j).safe
            rw [List.foldl_append]
            rfl
        · rw [if_neg k2]
          refine (cut_same nm (m : Int) B hs (look_some hl) hdl (by omega)).mono ?_
          rintro e w' ⟨rfl, m, rfl⟩
          exact ⟨rfl, Od m⟩
  · have hk := cut_err nm long (some ⟨q, 0, none⟩) a.begin.1 _ w (by simpa using h0) (S.begin_err I hN hn0 h0)
    unfold RefP.cut
    rw [if_neg h0]
    exact hk
end
end Go.Proofs.YtafcgjbafihniaaGreat
