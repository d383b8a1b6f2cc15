/-
  LAYER 1 (fs): the moves that survive, done to what is safe.
-/
import Derived.Test.YtfgmaeaojkfakaaGreatFMove
namespace Go.Proofs.YtfgmaeaojkfakaaGreat
set_option maxRecDepth 100000
open Go.RowKit Go.Lib
attribute [local go_sem] Oper.semAt_some

/-- Moves done in order. -/
def movesDone : List Mv → DirL → DirL
  | [], l => l
  | m :: ms, l => movesDone ms (m.done l)
/-- Which may be done in order: the directory stays short. -/
def okMoves : List Mv → DirL → Prop
  | [], _ => True
  | m :: ms, l => m.may l ∧ l.length < maxLen ∧ okMoves ms (m.done l)

theorem mvCells_at : ∀ (ml : List Mv) (j : Nat) (hj : j < ml.length), (mvCells ml)[j * 3]? = some (.string ml[j].src) ∧ (mvCells ml)[j * 3 + 1]? = some (.string ml[j].dst) ∧ (mvCells ml)[j * 3 + 2]? = some (ptrV ml[j].made)
  | m :: ms, 0, _ => ⟨rfl, rfl, rfl⟩
  | m :: ms, j + 1, hj => by
    have ih := mvCells_at ms j (Nat.lt_of_succ_lt_succ hj)
    have e : mvCells (m :: ms) = .string m.src :: .string m.dst :: ptrV m.made :: mvCells ms := rfl
    rw [e, show (j + 1) * 3 = j * 3 + 1 + 1 + 1 from by omega, show j * 3 + 1 + 1 + 1 + 1 = (j * 3 + 1) + 1 + 1 + 1 from rfl, show j * 3 + 1 + 1 + 1 + 2 = (j * 3 + 2) + 1 + 1 + 1 from rfl]
    simpa using ih

section
variable {w : World} {q : Nat} {dead : Bool} {p : PlV} {ops : Int} {d s : Nat} {mv : Value}
set_option maxHeartbeats 8000000 in
theorem fsSettle_any (n : Nat) (ml : List Mv) (l : DirL) (w : World) (h : FsAt w q dead p ops d s mv) (hd : DirM w s l) (hr : w.ownsRow 0 110 3 mv ml.length (mvCells ml)) (hm : okMoves (ml.take n) l) (hn : n ≤ ml.length) (hn2 : ml.length < 3518437208882)
    (hsq : s ≠ q) (hmq : mv.ownBlock ≠ some q) (hms : mv.ownBlock ≠ some s) :
    Calls Tryz.prog 61 #[.pointer (some ⟨q, 0, none⟩), .int .i64 n] w fun e w' => e = .returned (.tuple #[]) ∧ FsAt w' q dead p ops d s (.slice none 0 0) ∧ DirM w' s (movesDone (ml.take n) l) ∧ GP (fun k => k = q ∨ k = s) w w' := by
  have hr0 := hr
  have x9 := h.safe
  have x10 := h.moves
  have hform : ∃ a c, mv = .slice a ml.length c ∧ ml.length ≤ c := by
    obtain ⟨_, ⟨rfl, e⟩ | ⟨g, cap, cur, rfl, _, _, e, _⟩⟩ := hr0
    · exact ⟨none, 0, by rw [e], by omega⟩
    · exact ⟨_, _, rfl, e⟩
  obtain ⟨a, c, rfl, hc⟩ := hform
  obtain ⟨L, hL⟩ : ∃ L, L = ml.length := ⟨_, rfl⟩
  clear hr0
  replace hc := Lib.hid hc
  go_enter Tryz.func61, Tryz.ntmps61
  have hc := hc.out
  go_wp2_with fail
  go_loopw [5, 13] (fun _ vi wr => ∃ (j : Nat) (l2 : DirL), vi = .int .i64 (j : Int) ∧ j ≤ n ∧ Hid (FsAt wr q dead p ops d s (.slice a ml.length c)) ∧ Hid (DirM wr s l2) ∧ Hid (okMoves ((ml.take n).drop j) l2) ∧ Hid (movesDone ((ml.take n).drop j) l2 = movesDone (ml.take n) l) ∧ Hid (wr.ownsRow 0 110 3 (.slice a ml.length c) ml.length (mvCells ml)) ∧ Hid (GP (fun k => k = s) w wr)) (fun _ vi _ => n - (RowKit.intOf vi).toNat)
  case atStart => exact ⟨0, l, rfl, Nat.zero_le _, Lib.hid h, Lib.hid hd, Lib.hid hm, Lib.hid rfl, Lib.hid hr, Lib.hid (GP.refl _ _)⟩
  case round =>
    obtain ⟨j, l2, rfl, hj, hF, hD, hO, hE, hR, hG⟩ := hrel
    by_cases hlt : j < n
    · have hjl : j < ml.length := by omega
      obtain ⟨m, hm9⟩ : ∃ m, m = ml[j] := ⟨_, rfl⟩
      have hdrop : (ml.take n).drop j = m :: (ml.take n).drop (j + 1) := by
        rw [hm9, List.drop_eq_getElem_cons (by rw [List.length_take]; omega)]
        simp
      rw [hdrop] at hO hE
      clear hdrop
      obtain ⟨gc, rfl, c0, c1, c2⟩ : ∃ gc, a = some ⟨gc, 0, none⟩ ∧ wr.cell? ⟨gc, j * 3, none⟩ = some (.string m.src) ∧ wr.cell? ⟨gc, j * 3 + 1, none⟩ = some (.string m.dst) ∧ wr.cell? ⟨gc, j * 3 + 2, none⟩ = some (ptrV m.made) := by
        have hrow := hR.out
        have hr0 := hrow
        obtain ⟨_, ⟨e, hz⟩ | ⟨g9, cap, cur, e, _⟩⟩ := hrow
        · omega
        · simp at e
          obtain ⟨rfl, rfl⟩ := e
          have := mvCells_at ml j hjl
          rw [hm9]
          exact ⟨g9, rfl, by rw [World.ownsRow.cellAt hr0 _ (by omega)]; exact this.1, by rw [World.ownsRow.cellAt hr0 _ (by omega)]; exact this.2.1, by rw [World.ownsRow.cellAt hr0 _ (by omega)]; exact this.2.2⟩
      replace hm9 := Lib.hid hm9
      obtain ⟨pv, hpv⟩ : ∃ pv, pv = ptrV m.made := ⟨_, rfl⟩
      rw [← hpv] at c2
      have hform : ∃ o, pv = .pointer o := by rw [hpv]; cases m.made <;> exact ⟨_, rfl⟩
      obtain ⟨po, rfl⟩ := hform
      have hO2 : m.may l2 ∧ l2.length < maxLen ∧ okMoves ((ml.take n).drop (j + 1)) (m.done l2) := hO.out
      have hE2 : movesDone ((ml.take n).drop (j + 1)) (m.done l2) = movesDone (ml.take n) l := hE.out
      have hdone := fun W h => done_any m s l2 W h hO2.1 hO2.2.1
      unfold Mv.v at hdone
      rw [← hpv] at hdone
      replace hO2 := Lib.hid hO2
      replace hE2 := Lib.hid hE2
      replace hpv := Lib.hid hpv
      go_upto_region 3 with fail
      have gW := World.grownBy_alloc wr (.cells #[.string m.src, .string m.dst, .pointer po] 110) none
      have eW := World.alloc_heap_new wr (.cells #[.string m.src, .string m.dst, .pointer po] 110)
      obtain ⟨W, hW⟩ : ∃ W, W = wr.alloc (.cells #[.string m.src, .string m.dst, .pointer po] 110) := ⟨_, rfl⟩
      rw [← hW] at gW eW ⊢
      clear hW
      have gD := gdrew gW
      have hl1 := hF.out.lt
      have hl2 := hD.out.lt
      have hF2 := hF.out.kept gD (by simp)
      have hD2 := hD.out.kept gD (by simp)
      have hR2 := World.ownsRow.kept hR.out gD (.inr (by simp [Value.ownBlock]))
      have hG2 := hG.out.step gD (by simp)
      have z0 : W.drew.cell? ⟨wr.heap.size, 0, none⟩ = some (.string m.src) := (gdrew (World.grownBy.refl W none)).cell (by simp [World.cell?, eW]) (by simp)
      have z1 : W.drew.cell? ⟨wr.heap.size, 1, none⟩ = some (.string m.dst) := (gdrew (World.grownBy.refl W none)).cell (by simp [World.cell?, eW]) (by simp)
      have z2 : W.drew.cell? ⟨wr.heap.size, 2, none⟩ = some (.pointer po) := (gdrew (World.grownBy.refl W none)).cell (by simp [World.cell?, eW]) (by simp)
      have r9 := hF2.safe
      refine wp_region_held_drew (S := fun w' => w'.cell? ⟨wr.heap.size, 0, none⟩ = some (.string m.src) ∧ w'.cell? ⟨wr.heap.size, 1, none⟩ = some (.string m.dst) ∧ w'.cell? ⟨wr.heap.size, 2, none⟩ = some (.pointer po) ∧ w'.cell? ⟨q, 9, none⟩ = some (.map (some s))) (by kernel_rfl) ⟨z0, z1, z2, r9⟩ (fun hS9 => ?_)
      refine wpAnyH_take (i := 0) (oi := ⟨some 17, _, _, _, _, _⟩) (v := ?_) rfl (by kernel_rfl) (by kernel_rfl) (by kernel_rfl) (fun _ _ _ h => h) (Or.inl ⟨by rfl, ?_⟩) (by assumption) ?_
      rotate_left
      · (intro w hSw; (try dsimp only at hSw); go_simp; try with_reducible rfl)
      try simp only [Act.put, List.setIfInBounds_toArray, List.set_cons_zero, List.set_cons_succ]
      refine wpAnyH_take (i := 1) (oi := ⟨some 18, _, _, _, _, _⟩) (v := ?_) rfl (by kernel_rfl) (by kernel_rfl) (by kernel_rfl) (fun _ _ _ h => h) (Or.inl ⟨by rfl, ?_⟩) (by assumption) ?_
      rotate_left
      · (intro w hSw; (try dsimp only at hSw); go_simp; try with_reducible rfl)
      try simp only [Act.put, List.setIfInBounds_toArray, List.set_cons_zero, List.set_cons_succ]
      refine wpAnyH_take (i := 2) (oi := ⟨some 19, _, _, _, _, _⟩) (v := ?_) rfl (by kernel_rfl) (by kernel_rfl) (by kernel_rfl) (fun _ _ _ h => h) (Or.inl ⟨by rfl, ?_⟩) (by assumption) ?_
      rotate_left
      · (intro w hSw; (try dsimp only at hSw); go_simp; try with_reducible rfl)
      try simp only [Act.put, List.setIfInBounds_toArray, List.set_cons_zero, List.set_cons_succ]
      refine wpAnyH_take (i := 3) (oi := ⟨some 20, _, _, _, _, _⟩) (v := ?_) rfl (by kernel_rfl) (by kernel_rfl) (by kernel_rfl) (fun _ _ _ h => h) (Or.inl ⟨by rfl, ?_⟩) (by assumption) ?_
      rotate_left
      · (intro w hSw; (try dsimp only at hSw); go_simp; try with_reducible rfl)
      try simp only [Act.put, List.setIfInBounds_toArray, List.set_cons_zero, List.set_cons_succ]
      refine wpAnyH_take (i := 4) (oi := ⟨some 21, _, _, _, _, _⟩) (v := ?_) rfl (by kernel_rfl) (by kernel_rfl) (by kernel_rfl) (fun _ _ _ h => h) (Or.inl ⟨by rfl, ?_⟩) (by assumption) ?_
      rotate_left
      · (intro w hSw; (try dsimp only at hSw); go_simp; try with_reducible rfl)
      try simp only [Act.put, List.setIfInBounds_toArray, List.set_cons_zero, List.set_cons_succ]
      refine wpAnyH_ready (rs := [5]) (by kernel_rfl) (by simp) ?_
      refine AllReadyH.cons rfl (fun K hK => ?_) AllReadyH.nil
      go_simp
      refine (hdone _ hD2).mono ?_
      rintro e w9 ⟨rfl, hd9, g9⟩
      refine hK.out _ _ ⟨g9.cell z0 (by simp; omega), g9.cell z1 (by simp; omega), g9.cell z2 (by simp; omega), g9.cell r9 (by simp; omega)⟩ (fun _ => ?_)
      clear hK
      refine wpAnyH_done (by kernel_rfl) ?_ _
      go_wp2
      exact ⟨⟨j + 1, m.done l2, by go_num, by omega, Lib.hid (hF2.kept g9 (by simp; exact hsq)), Lib.hid hd9, Lib.hid hO2.out.2.2, Lib.hid hE2.out, Lib.hid (World.ownsRow.kept hR2 g9 (.inr hms)), Lib.hid (hG2.step g9 (fun k e => by cases e; exact .inl rfl))⟩, by simp [RowKit.intOf]; omega⟩
    · obtain rfl : j = n := by omega
      have f10 := hF.out.free 10
      have cx := hF.out.moves
      have hS := hF.out.setMoves (.slice none 0 0)
      have gF := gset (World.grownBy.refl wr (some q)) 10 (.slice none 0 0)
      replace hS := Lib.hid hS
      go_wp2
      go_end0
      have hEf : l2 = movesDone (ml.take j) l := by
        have := hE.out
        rw [List.drop_of_length_le (by rw [List.length_take]; omega)] at this
        exact this
      refine ⟨rfl, hS.out, ?_, (GP.trans (P := fun k => k = q ∨ k = s) (GP.refl _ _) hG.out (fun k e => .inl (.inr e))).step gF (fun k e => by cases e; exact .inl (.inl rfl))⟩
      rw [← hEf]
      exact hD.out.kept gF (by simp; exact hsq)
end
end Go.Proofs.YtfgmaeaojkfakaaGreat
