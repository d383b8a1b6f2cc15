/-
  LAYER 2 (codec): the reference's reader.
-/
import Derived.Test.YtilbccjgaaembaaCReader
import Derived.Test.YtilbccjgaaembaaCRefL
import Derived.Deep.DeepCutAuto
import Derived.Deep.RegionHeld3
namespace Go.Proofs.Ytilbccjgaaembaa
set_option maxRecDepth 100000
open Go.RowKit Go.Lib

/-- The block of the reference's reader. -/
def Rq (w : World) (r : Nat) (vb : Value) (pos : Nat) (err : Int) : Prop :=
  w.heap[r]? = some (.cells #[vb, .int .i64 (pos : Int), .int .i64 err] 69 (0, 0))
section
variable {w : World} {r : Nat} {vb : Value} {pos : Nat} {er : Int}
theorem Rq.bytes (h : Rq w r vb pos er) : w.cell? ⟨r, 0, none⟩ = some vb := by simp [World.cell?, show _ = _ from h]
theorem Rq.at (h : Rq w r vb pos er) : w.cell? ⟨r, 1, none⟩ = some (.int .i64 (pos : Int)) := by simp [World.cell?, show _ = _ from h]
theorem Rq.err (h : Rq w r vb pos er) : w.cell? ⟨r, 2, none⟩ = some (.int .i64 er) := by simp [World.cell?, show _ = _ from h]
theorem Rq.free (h : Rq w r vb pos er) (o : Nat) : w.frozen? ⟨r, o, none⟩ = false := by simp [World.frozen?, show _ = _ from h]
theorem Rq.lt (h : Rq w r vb pos er) : r < w.heap.size := lt_of_block h
theorem Rq.setAt (h : Rq w r vb pos er) (pos' : Nat) : Rq (w.setCell ⟨r, 1, none⟩ (.int .i64 (pos' : Int))) r vb pos' er :=
  heap_setCell_same w r 1 _ _ _ h
theorem Rq.setErr (h : Rq w r vb pos er) (err' : Int) : Rq (w.setCell ⟨r, 2, none⟩ (.int .i64 err')) r vb pos err' :=
  heap_setCell_same w r 2 _ _ _ h
theorem Rq.kept {w' : World} {row : Option Nat} (h : Rq w r vb pos er) (hg : w.grownBy w' row) (hne : row ≠ some r) : Rq w' r vb pos er :=
  (hg.block r h.lt (fun e => hne e.symm)).trans h
theorem Rq.drewN (h : Rq w r vb pos er) (n : Nat) : Rq (w.drewN n) r vb pos er := h
theorem Rq.new {w' : World} (h : Rq w r vb pos er) (hg : w.grownBy w' none) : Rq w' r vb pos er := h.kept hg (by simp)
end

set_option maxHeartbeats 1000000 in
theorem step_ok (r : Nat) (vb : Value) (pos m : Nat) (w : World) (hR : Rq w r vb pos 0) (hm : pos + m ≤ 9223372036854775807) :
    Calls Try.prog 87 #[.pointer (some ⟨r, 0, none⟩), .int .i64 (m : Int), .int .i64 0] w fun e w' => e = .returned (.bool true) ∧ w.grownBy w' (some r) ∧ Rq w' r vb (pos + m) 0 := by
  have h1 := hR.at
  have h2 := hR.err
  have f1 := hR.free 1
  have f2 := hR.free 2
  go_enter Try.func87, Try.ntmps87
  go_wp2
  go_ret
  exact ⟨rfl, gset (World.grownBy.refl _ _) _ _, hR.setAt (pos + m)⟩

set_option maxHeartbeats 1000000 in
theorem step_bad (r : Nat) (vb : Value) (pos : Nat) (m x : Int) (w : World) (hR : Rq w r vb pos 0) (hx : x ≠ 0) :
    Calls Try.prog 87 #[.pointer (some ⟨r, 0, none⟩), .int .i64 m, .int .i64 x] w fun e w' => e = .returned (.bool false) ∧ w.grownBy w' (some r) ∧ Rq w' r vb pos x := by
  have h1 := hR.at
  have h2 := hR.err
  have f1 := hR.free 1
  have f2 := hR.free 2
  have hx0 : (x == 0) = false := by simpa using hx
  clear hx
  go_enter Try.func87, Try.ntmps87
  go_wp2
  go_ret
  exact ⟨rfl, gset (World.grownBy.refl _ _) _ _, hR.setErr x⟩

set_option maxHeartbeats 1000000 in
theorem step_err (r : Nat) (vb : Value) (pos : Nat) (m er x : Int) (w : World) (hR : Rq w r vb pos er) (he : er ≠ 0) :
    Calls Try.prog 87 #[.pointer (some ⟨r, 0, none⟩), .int .i64 m, .int .i64 x] w fun e w' => e = .returned (.bool false) ∧ w.grownBy w' none := by
  have h1 := hR.at
  have h2 := hR.err
  have he0 : (er == 0) = false := by simpa using he
  clear he
  go_enter Try.func87, Try.ntmps87
  go_wp2
  go_ret
  exact ⟨rfl, World.grownBy.refl _ _⟩

/-- Whether a call's result counts. -/
def stGo (er x : Int) : Bool := decide (er = 0 ∧ x = 0)
theorem step_any (r : Nat) (vb : Value) (pos m : Nat) (er x : Int) (w : World) (hR : Rq w r vb pos er) (hm : pos + m ≤ 9223372036854775807) (hz : x ≠ 0 → m = 0) :
    Calls Try.prog 87 #[.pointer (some ⟨r, 0, none⟩), .int .i64 (m : Int), .int .i64 x] w fun e w' => e = .returned (.bool (stGo er x)) ∧ w.grownBy w' (some r) ∧ Rq w' r vb (stAt er pos m) (stErr er x) := by
  by_cases he : er = 0
  · subst he
    by_cases hx : x = 0
    · subst hx
      exact step_ok r vb pos m w hR hm
    · have := hz hx
      subst this
      rw [show stGo 0 x = false from decide_eq_false fun h => hx h.2]
      exact step_bad r vb pos 0 x w hR hx
  · rw [show stGo er x = false from decide_eq_false fun h => he h.1, show stAt er pos m = pos from if_neg he, show stErr er x = er from if_neg he]
    exact (step_err r vb pos m er x w hR he).mono fun e w' ⟨h1, h2⟩ => ⟨h1, h2.but _, hR.new h2⟩

theorem uRes_len {bs : List UInt8} {n m : Nat} {x : Int} (h : uRes bs = (n, m, x)) : m ≤ bs.length ∧ (x ≠ 0 → n = 0 ∧ m = 0) := by
  rcases uRes_cases h with ⟨rfl, h'⟩ | ⟨_, rfl, rfl, _⟩
  · exact ⟨(once_uint h').2.1, fun h => absurd rfl h⟩
  · exact ⟨Nat.zero_le _, fun _ => ⟨rfl, rfl⟩⟩
theorem xRes_len {bs : List UInt8} {wide : Int} {n m : Nat} {x : Int} (h : xRes bs wide = (n, m, x)) : m ≤ bs.length ∧ (x ≠ 0 → n = 0 ∧ m = 0) := by
  unfold xRes at h
  split at h
  · split at h <;> (simp only [Prod.mk.injEq] at h; obtain ⟨rfl, rfl, rfl⟩ := h)
    · exact ⟨Nat.zero_le _, fun _ => ⟨rfl, rfl⟩⟩
    · exact ⟨by omega, fun h => absurd rfl h⟩
  · simp only [Prod.mk.injEq] at h; obtain ⟨rfl, rfl, rfl⟩ := h
    exact ⟨Nat.zero_le _, fun _ => ⟨rfl, rfl⟩⟩
theorem fRes_len {bs f : List UInt8} {m : Nat} {x : Int} (h : fRes bs = (f, m, x)) : m ≤ bs.length ∧ (x ≠ 0 → f = [] ∧ m = 0) := by
  rcases fRes_cases h with ⟨rfl, h'⟩ | ⟨_, rfl, rfl, _⟩
  · exact ⟨(once_field h').2.1, fun h => absurd rfl h⟩
  · exact ⟨Nat.zero_le _, fun _ => ⟨rfl, rfl⟩⟩

theorem Rq.below {w w' : World} {r : Nat} {vb : Value} {pos : Nat} {er : Int} (h : Rq w r vb pos er) (hb : Below w.heap.size w w') : Rq w' r vb pos er := (hb.block r h.lt).trans h

set_option maxHeartbeats 2000000 in
set_option maxRecDepth 100000 in
theorem qUint_any (r : Nat) (a : Option Addr) (l c : Nat) (bs : List UInt8) (pos : Nat) (er : Int) (n m : Nat) (x : Int) (w : World) (hR : Rq w r (.slice a l c) pos er) (hr : Reads w (.slice a l c) bs) (hs : pos ≤ bs.length) (h : uRes (bs.drop pos) = (n, m, x)) :
    Calls Try.prog 39 #[.pointer (some ⟨r, 0, none⟩)] w fun e w' => e = .returned (.int .u64 (if er = 0 then (n : Int) else 0)) ∧ w.grownBy w' (some r) ∧ Rq w' r (.slice a l c) (stAt er pos m) (stErr er x) := by
  obtain ⟨rfl, hc, hm⟩ := hr.slice
  unfold maxLen at hm
  obtain ⟨a', hcut, hcr⟩ := run_cut_from a bs.length c pos hc hs
  have hcall := fun w' (hb : Below w.heap.size w w') => refReadUint_any a' _ _ _ n m x w' (hcr w' bs (hr.all hb)) h
  obtain ⟨hml, hz⟩ := uRes_len h
  rw [List.length_drop] at hml
  have hst := fun w' (hb : Below w.heap.size w w') => step_any r (.slice a bs.length c) pos m er x w' (hR.below hb) (by omega) (fun hx => (hz hx).2)
  have h0 := hR.bytes
  have h1 := hR.at
  have hv : (if er = 0 then (n : Int) else 0) = if stGo er x = true then (n : Int) else 0 := by
    by_cases he : er = 0
    · subst he
      by_cases hx : x = 0
      · subst hx; rfl
      · obtain ⟨rfl, rfl⟩ := hz hx
        first | (simp [stGo, hx]; done) | simp [stGo, hx, iOf]
    · simp [stGo, he]
  rw [hv]
  clear hcr h hz hv
  generalize stGo er x = g at hst ⊢
  obtain ⟨l', hl'⟩ : ∃ l', l' = bs.length - pos := ⟨_, rfl⟩
  obtain ⟨c', hc'⟩ : ∃ c', c' = c - pos := ⟨_, rfl⟩
  rw [← hl', ← hc'] at hcut hcall
  clear hl' hc'
  go_enter Try.func39, Try.ntmps39
  go_upto_region 1 with fail
  have hD : Below w.heap.size w w.drew := (Below.refl _ _).drew
  go_cut [4, 5, 3] (fun v4 v5 v3 wx => v3 = .int .u64 (n : Int) ∧ v4 = .int .i64 (m : Int) ∧ v5 = .int .i64 x ∧ Below w.heap.size w wx)
  case first =>
    refine wp_region_held_drew (S := fun w' => Below w.heap.size w w' ∧ w'.cell? ⟨r, 0, none⟩ = some (.slice a bs.length c) ∧ w'.cell? ⟨r, 1, none⟩ = some (.int .i64 (pos : Int))) (by kernel_rfl) ⟨hD, h0, h1⟩ (fun hS0 => ?_)
    refine wpAnyH_take (i := 0) (oi := ⟨some 7, _, _, _, _, _⟩) (v := ?_) rfl (by kernel_rfl) (by kernel_rfl) (by kernel_rfl) (fun _ _ _ h => h) (Or.inl ⟨by rfl, ?_⟩) (by assumption) ?_
    rotate_left
    · (intro w hSw; (try dsimp only at hSw); go_simp; try with_reducible rfl)
    try simp only [Act.put, List.setIfInBounds_toArray, List.set_cons_zero, List.set_cons_succ]
    refine wpAnyH_take (i := 1) (oi := ⟨some 8, _, _, _, _, _⟩) (v := ?_) rfl (by kernel_rfl) (by kernel_rfl) (by kernel_rfl) (fun _ _ _ h => h) (Or.inl ⟨by rfl, ?_⟩) (by assumption) ?_
    rotate_left
    · (intro w hSw; (try dsimp only at hSw); go_simp; try with_reducible rfl)
    try simp only [Act.put, List.setIfInBounds_toArray, List.set_cons_zero, List.set_cons_succ]
    refine wpAnyH_take (i := 2) (oi := ⟨some 9, _, _, _, _, _⟩) (v := ?_) rfl (by kernel_rfl) (by kernel_rfl) (by kernel_rfl) (fun _ _ _ h => h) (Or.inl ⟨by rfl, ?_⟩) (by assumption) ?_
    rotate_left
    · (intro w hSw; (try dsimp only at hSw); go_simp; try with_reducible rfl)
    try simp only [Act.put, List.setIfInBounds_toArray, List.set_cons_zero, List.set_cons_succ]
    refine wpAnyH_take (i := 3) (oi := ⟨some 10, _, _, _, _, _⟩) (v := ?_) rfl (by kernel_rfl) (by kernel_rfl) (by kernel_rfl) (fun _ _ _ h => h) (Or.inl ⟨by rfl, ?_⟩) (by assumption) ?_
    rotate_left
    · (intro w hSw; (try dsimp only at hSw); go_simp; try with_reducible rfl)
    try simp only [Act.put, List.setIfInBounds_toArray, List.set_cons_zero, List.set_cons_succ]
    refine wpAnyH_take (i := 4) (oi := ⟨some 11, _, _, _, _, _⟩) (v := ?_) rfl (by kernel_rfl) (by kernel_rfl) (by kernel_rfl) (fun _ _ _ h => h) (Or.inl ⟨by rfl, ?_⟩) (by assumption) ?_
    rotate_left
    · (intro w hSw; (try dsimp only at hSw); go_simp; try with_reducible rfl)
    try simp only [Act.put, List.setIfInBounds_toArray, List.set_cons_zero, List.set_cons_succ]
    refine wpAnyH_take (i := 5) (oi := ⟨some 12, _, _, _, _, _⟩) (v := ?_) rfl (by kernel_rfl) (by kernel_rfl) (by kernel_rfl) (fun _ _ _ h => h) (Or.inl ⟨by rfl, ?_⟩) (by assumption) ?_
    rotate_left
    · (intro w hSw; (try dsimp only at hSw); go_simp; try with_reducible rfl)
    try simp only [Act.put, List.setIfInBounds_toArray, List.set_cons_zero, List.set_cons_succ]
    refine wpAnyH_take (i := 6) (oi := ⟨some 13, _, _, _, _, _⟩) (v := ?_) rfl (by kernel_rfl) (by kernel_rfl) (by kernel_rfl) (fun _ _ _ h => h) (Or.inl ⟨by rfl, ?_⟩) (by assumption) ?_
    rotate_left
    · (intro w hSw; (try dsimp only at hSw); go_simp; try with_reducible rfl)
    try simp only [Act.put, List.setIfInBounds_toArray, List.set_cons_zero, List.set_cons_succ]
    refine wpAnyH_take (i := 7) (oi := ⟨some 14, _, _, _, _, _⟩) (v := ?_) rfl (by kernel_rfl) (by kernel_rfl) (by kernel_rfl) (fun _ _ _ h => h) (Or.inl ⟨by rfl, ?_⟩) (by assumption) ?_
    rotate_left
    · (intro w hSw; (try dsimp only at hSw); go_simp; try with_reducible rfl)
    try simp only [Act.put, List.setIfInBounds_toArray, List.set_cons_zero, List.set_cons_succ]
    refine wpAnyH_take (i := 8) (oi := ⟨some 15, _, _, _, _, _⟩) (v := ?_) rfl (by kernel_rfl) (by kernel_rfl) (by kernel_rfl) (fun _ _ _ h => h) (Or.inl ⟨by rfl, ?_⟩) (by assumption) ?_
    rotate_left
    · (intro w hSw; (try dsimp only at hSw); go_simp; try with_reducible rfl)
    try simp only [Act.put, List.setIfInBounds_toArray, List.set_cons_zero, List.set_cons_succ]
    refine wpAnyH_ready (rs := [9]) (by kernel_rfl) (by simp) ?_
    refine AllReadyH.cons rfl (fun K hK => ?_) AllReadyH.nil
    go_simp
    refine (hcall _ hD).mono ?_
    rintro e w6 ⟨rfl, rfl⟩
    refine hK.out _ _ hS0 (fun hS3 => ?_)
    clear hK
    refine wpAnyH_take (i := 10) (oi := ⟨some 6, _, _, _, _, _⟩) (v := ?_) rfl (by kernel_rfl) (by kernel_rfl) (by kernel_rfl) (fun _ _ _ h => h) (Or.inl ⟨by rfl, ?_⟩) (by assumption) ?_
    rotate_left
    · (intro w hSw; (try dsimp only at hSw); go_simp; try with_reducible rfl)
    try simp only [Act.put, List.setIfInBounds_toArray, List.set_cons_zero, List.set_cons_succ]
    refine wpAnyH_take (i := 11) (oi := ⟨some 17, _, _, _, _, _⟩) (v := ?_) rfl (by kernel_rfl) (by kernel_rfl) (by kernel_rfl) (fun _ _ _ h => h) (Or.inl ⟨by rfl, ?_⟩) (by assumption) ?_
    rotate_left
    · (intro w hSw; (try dsimp only at hSw); go_simp; try with_reducible rfl)
    try simp only [Act.put, List.setIfInBounds_toArray, List.set_cons_zero, List.set_cons_succ]
    refine wpAnyH_take (i := 12) (oi := ⟨some 18, _, _, _, _, _⟩) (v := ?_) rfl (by kernel_rfl) (by kernel_rfl) (by kernel_rfl) (fun _ _ _ h => h) (Or.inl ⟨by rfl, ?_⟩) (by assumption) ?_
    rotate_left
    · (intro w hSw; (try dsimp only at hSw); go_simp; try with_reducible rfl)
    try simp only [Act.put, List.setIfInBounds_toArray, List.set_cons_zero, List.set_cons_succ]
    refine wpAnyH_take (i := 13) (oi := ⟨some 19, _, _, _, _, _⟩) (v := ?_) rfl (by kernel_rfl) (by kernel_rfl) (by kernel_rfl) (fun _ _ _ h => h) (Or.inl ⟨by rfl, ?_⟩) (by assumption) ?_
    rotate_left
    · (intro w hSw; (try dsimp only at hSw); go_simp; try with_reducible rfl)
    try simp only [Act.put, List.setIfInBounds_toArray, List.set_cons_zero, List.set_cons_succ]
    refine wpAnyH_take (i := 14) (oi := ⟨some 3, _, _, _, _, _⟩) (v := ?_) rfl (by kernel_rfl) (by kernel_rfl) (by kernel_rfl) (fun _ _ _ h => h) (Or.inl ⟨by rfl, ?_⟩) (by assumption) ?_
    rotate_left
    · (intro w hSw; (try dsimp only at hSw); go_simp; try with_reducible rfl)
    try simp only [Act.put, List.setIfInBounds_toArray, List.set_cons_zero, List.set_cons_succ]
    refine wpAnyH_take (i := 15) (oi := ⟨some 4, _, _, _, _, _⟩) (v := ?_) rfl (by kernel_rfl) (by kernel_rfl) (by kernel_rfl) (fun _ _ _ h => h) (Or.inl ⟨by rfl, ?_⟩) (by assumption) ?_
    rotate_left
    · (intro w hSw; (try dsimp only at hSw); go_simp; try with_reducible rfl)
    try simp only [Act.put, List.setIfInBounds_toArray, List.set_cons_zero, List.set_cons_succ]
    refine wpAnyH_take (i := 16) (oi := ⟨some 5, _, _, _, _, _⟩) (v := ?_) rfl (by kernel_rfl) (by kernel_rfl) (by kernel_rfl) (fun _ _ _ h => h) (Or.inl ⟨by rfl, ?_⟩) (by assumption) ?_
    rotate_left
    · (intro w hSw; (try dsimp only at hSw); go_simp; try with_reducible rfl)
    try simp only [Act.put, List.setIfInBounds_toArray, List.set_cons_zero, List.set_cons_succ]
    refine wpAnyH_done (by kernel_rfl) ?_ _
    go_wp2_with fail
    go_meet
    exact ⟨rfl, rfl, rfl, hD⟩
  case rest =>
  obtain ⟨rfl, rfl, rfl, hb⟩ := hcut
  have hst1 := hst _ hb
  clear hst
  cases g
  · go_wp2_with (go_at_call 87; refine hst1.mono ?_; rintro e w1 ⟨rfl, hg1, hR1⟩)
    go_ret
    exact ⟨rfl, (belowg hb _).trans hg1, hR1⟩
  · go_wp2_with (go_at_call 87; refine hst1.mono ?_; rintro e w1 ⟨rfl, hg1, hR1⟩)
    go_ret
    exact ⟨rfl, (belowg hb _).trans hg1, hR1⟩
set_option maxHeartbeats 2000000 in
set_option maxRecDepth 100000 in
theorem qInt_any (r : Nat) (a : Option Addr) (l c : Nat) (bs : List UInt8) (pos : Nat) (er : Int) (n m : Nat) (x : Int) (w : World) (hR : Rq w r (.slice a l c) pos er) (hr : Reads w (.slice a l c) bs) (hs : pos ≤ bs.length) (h : uRes (bs.drop pos) = (n, m, x)) :
    Calls Try.prog 41 #[.pointer (some ⟨r, 0, none⟩)] w fun e w' => e = .returned (.int .i64 (if er = 0 then (iOf n x) else 0)) ∧ w.grownBy w' (some r) ∧ Rq w' r (.slice a l c) (stAt er pos m) (stErr er x) := by
  obtain ⟨rfl, hc, hm⟩ := hr.slice
  unfold maxLen at hm
  obtain ⟨a', hcut, hcr⟩ := run_cut_from a bs.length c pos hc hs
  have hcall := fun w' (hb : Below w.heap.size w w') => refReadInt_any a' _ _ _ n m x w' (hcr w' bs (hr.all hb)) h
  obtain ⟨hml, hz⟩ := uRes_len h
  rw [List.length_drop] at hml
  have hst := fun w' (hb : Below w.heap.size w w') => step_any r (.slice a bs.length c) pos m er x w' (hR.below hb) (by omega) (fun hx => (hz hx).2)
  have h0 := hR.bytes
  have h1 := hR.at
  have hv : (if er = 0 then (iOf n x) else 0) = if stGo er x = true then (iOf n x) else 0 := by
    by_cases he : er = 0
    · subst he
      by_cases hx : x = 0
      · subst hx; rfl
      · obtain ⟨rfl, rfl⟩ := hz hx
        first | (simp [stGo, hx]; done) | simp [stGo, hx, iOf]
    · simp [stGo, he]
  rw [hv]
  clear hcr h hz hv
  generalize stGo er x = g at hst ⊢
  obtain ⟨l', hl'⟩ : ∃ l', l' = bs.length - pos := ⟨_, rfl⟩
  obtain ⟨c', hc'⟩ : ∃ c', c' = c - pos := ⟨_, rfl⟩
  rw [← hl', ← hc'] at hcut hcall
  clear hl' hc'
  go_enter Try.func41, Try.ntmps41
  go_upto_region 1 with fail
  have hD : Below w.heap.size w w.drew := (Below.refl _ _).drew
  go_cut [4, 5, 3] (fun v4 v5 v3 wx => v3 = .int .i64 (iOf n x) ∧ v4 = .int .i64 (m : Int) ∧ v5 = .int .i64 x ∧ Below w.heap.size w wx)
  case first =>
    refine wp_region_held_drew (S := fun w' => Below w.heap.size w w' ∧ w'.cell? ⟨r, 0, none⟩ = some (.slice a bs.length c) ∧ w'.cell? ⟨r, 1, none⟩ = some (.int .i64 (pos : Int))) (by kernel_rfl) ⟨hD, h0, h1⟩ (fun hS0 => ?_)
    refine wpAnyH_take (i := 0) (oi := ⟨some 7, _, _, _, _, _⟩) (v := ?_) rfl (by kernel_rfl) (by kernel_rfl) (by kernel_rfl) (fun _ _ _ h => h) (Or.inl ⟨by rfl, ?_⟩) (by assumption) ?_
    rotate_left
    · (intro w hSw; (try dsimp only at hSw); go_simp; try with_reducible rfl)
    try simp only [Act.put, List.setIfInBounds_toArray, List.set_cons_zero, List.set_cons_succ]
    refine wpAnyH_take (i := 1) (oi := ⟨some 8, _, _, _, _, _⟩) (v := ?_) rfl (by kernel_rfl) (by kernel_rfl) (by kernel_rfl) (fun _ _ _ h => h) (Or.inl ⟨by rfl, ?_⟩) (by assumption) ?_
    rotate_left
    · (intro w hSw; (try dsimp only at hSw); go_simp; try with_reducible rfl)
    try simp only [Act.put, List.setIfInBounds_toArray, List.set_cons_zero, List.set_cons_succ]
    refine wpAnyH_take (i := 2) (oi := ⟨some 9, _, _, _, _, _⟩) (v := ?_) rfl (by kernel_rfl) (by kernel_rfl) (by kernel_rfl) (fun _ _ _ h => h) (Or.inl ⟨by rfl, ?_⟩) (by assumption) ?_
    rotate_left
    · (intro w hSw; (try dsimp only at hSw); go_simp; try with_reducible rfl)
    try simp only [Act.put, List.setIfInBounds_toArray, List.set_cons_zero, List.set_cons_succ]
    refine wpAnyH_take (i := 3) (oi := ⟨some 10, _, _, _, _, _⟩) (v := ?_) rfl (by kernel_rfl) (by kernel_rfl) (by kernel_rfl) (fun _ _ _ h => h) (Or.inl ⟨by rfl, ?_⟩) (by assumption) ?_
    rotate_left
    · (intro w hSw; (try dsimp only at hSw); go_simp; try with_reducible rfl)
    try simp only [Act.put, List.setIfInBounds_toArray, List.set_cons_zero, List.set_cons_succ]
    refine wpAnyH_take (i := 4) (oi := ⟨some 11, _, _, _, _, _⟩) (v := ?_) rfl (by kernel_rfl) (by kernel_rfl) (by kernel_rfl) (fun _ _ _ h => h) (Or.inl ⟨by rfl, ?_⟩) (by assumption) ?_
    rotate_left
    · (intro w hSw; (try dsimp only at hSw); go_simp; try with_reducible rfl)
    try simp only [Act.put, List.setIfInBounds_toArray, List.set_cons_zero, List.set_cons_succ]
    refine wpAnyH_take (i := 5) (oi := ⟨some 12, _, _, _, _, _⟩) (v := ?_) rfl (by kernel_rfl) (by kernel_rfl) (by kernel_rfl) (fun _ _ _ h => h) (Or.inl ⟨by rfl, ?_⟩) (by assumption) ?_
    rotate_left
    · (intro w hSw; (try dsimp only at hSw); go_simp; try with_reducible rfl)
    try simp only [Act.put, List.setIfInBounds_toArray, List.set_cons_zero, List.set_cons_succ]
    refine wpAnyH_take (i := 6) (oi := ⟨some 13, _, _, _, _, _⟩) (v := ?_) rfl (by kernel_rfl) (by kernel_rfl) (by kernel_rfl) (fun _ _ _ h => h) (Or.inl ⟨by rfl, ?_⟩) (by assumption) ?_
    rotate_left
    · (intro w hSw; (try dsimp only at hSw); go_simp; try with_reducible rfl)
    try simp only [Act.put, List.setIfInBounds_toArray, List.set_cons_zero, List.set_cons_succ]
    refine wpAnyH_take (i := 7) (oi := ⟨some 14, _, _, _, _, _⟩) (v := ?_) rfl (by kernel_rfl) (by kernel_rfl) (by kernel_rfl) (fun _ _ _ h => h) (Or.inl ⟨by rfl, ?_⟩) (by assumption) ?_
    rotate_left
    · (intro w hSw; (try dsimp only at hSw); go_simp; try with_reducible rfl)
    try simp only [Act.put, List.setIfInBounds_toArray, List.set_cons_zero, List.set_cons_succ]
    refine wpAnyH_take (i := 8) (oi := ⟨some 15, _, _, _, _, _⟩) (v := ?_) rfl (by kernel_rfl) (by kernel_rfl) (by kernel_rfl) (fun _ _ _ h => h) (Or.inl ⟨by rfl, ?_⟩) (by assumption) ?_
    rotate_left
    · (intro w hSw; (try dsimp only at hSw); go_simp; try with_reducible rfl)
    try simp only [Act.put, List.setIfInBounds_toArray, List.set_cons_zero, List.set_cons_succ]
    refine wpAnyH_ready (rs := [9]) (by kernel_rfl) (by simp) ?_
    refine AllReadyH.cons rfl (fun K hK => ?_) AllReadyH.nil
    go_simp
    refine (hcall _ hD).mono ?_
    rintro e w6 ⟨rfl, rfl⟩
    refine hK.out _ _ hS0 (fun hS3 => ?_)
    clear hK
    refine wpAnyH_take (i := 10) (oi := ⟨some 6, _, _, _, _, _⟩) (v := ?_) rfl (by kernel_rfl) (by kernel_rfl) (by kernel_rfl) (fun _ _ _ h => h) (Or.inl ⟨by rfl, ?_⟩) (by assumption) ?_
    rotate_left
    · (intro w hSw; (try dsimp only at hSw); go_simp; try with_reducible rfl)
    try simp only [Act.put, List.setIfInBounds_toArray, List.set_cons_zero, List.set_cons_succ]
    refine wpAnyH_take (i := 11) (oi := ⟨some 17, _, _, _, _, _⟩) (v := ?_) rfl (by kernel_rfl) (by kernel_rfl) (by kernel_rfl) (fun _ _ _ h => h) (Or.inl ⟨by rfl, ?_⟩) (by assumption) ?_
    rotate_left
    · (intro w hSw; (try dsimp only at hSw); go_simp; try with_reducible rfl)
    try simp only [Act.put, List.setIfInBounds_toArray, List.set_cons_zero, List.set_cons_succ]
    refine wpAnyH_take (i := 12) (oi := ⟨some 18, _, _, _, _, _⟩) (v := ?_) rfl (by kernel_rfl) (by kernel_rfl) (by kernel_rfl) (fun _ _ _ h => h) (Or.inl ⟨by rfl, ?_⟩) (by assumption) ?_
    rotate_left
    · (intro w hSw; (try dsimp only at hSw); go_simp; try with_reducible rfl)
    try simp only [Act.put, List.setIfInBounds_toArray, List.set_cons_zero, List.set_cons_succ]
    refine wpAnyH_take (i := 13) (oi := ⟨some 19, _, _, _, _, _⟩) (v := ?_) rfl (by kernel_rfl) (by kernel_rfl) (by kernel_rfl) (fun _ _ _ h => h) (Or.inl ⟨by rfl, ?_⟩) (by assumption) ?_
    rotate_left
    · (intro w hSw; (try dsimp only at hSw); go_simp; try with_reducible rfl)
    try simp only [Act.put, List.setIfInBounds_toArray, List.set_cons_zero, List.set_cons_succ]
    refine wpAnyH_take (i := 14) (oi := ⟨some 3, _, _, _, _, _⟩) (v := ?_) rfl (by kernel_rfl) (by kernel_rfl) (by kernel_rfl) (fun _ _ _ h => h) (Or.inl ⟨by rfl, ?_⟩) (by assumption) ?_
    rotate_left
    · (intro w hSw; (try dsimp only at hSw); go_simp; try with_reducible rfl)
    try simp only [Act.put, List.setIfInBounds_toArray, List.set_cons_zero, List.set_cons_succ]
    refine wpAnyH_take (i := 15) (oi := ⟨some 4, _, _, _, _, _⟩) (v := ?_) rfl (by kernel_rfl) (by kernel_rfl) (by kernel_rfl) (fun _ _ _ h => h) (Or.inl ⟨by rfl, ?_⟩) (by assumption) ?_
    rotate_left
    · (intro w hSw; (try dsimp only at hSw); go_simp; try with_reducible rfl)
    try simp only [Act.put, List.setIfInBounds_toArray, List.set_cons_zero, List.set_cons_succ]
    refine wpAnyH_take (i := 16) (oi := ⟨some 5, _, _, _, _, _⟩) (v := ?_) rfl (by kernel_rfl) (by kernel_rfl) (by kernel_rfl) (fun _ _ _ h => h) (Or.inl ⟨by rfl, ?_⟩) (by assumption) ?_
    rotate_left
    · (intro w hSw; (try dsimp only at hSw); go_simp; try with_reducible rfl)
    try simp only [Act.put, List.setIfInBounds_toArray, List.set_cons_zero, List.set_cons_succ]
    refine wpAnyH_done (by kernel_rfl) ?_ _
    go_wp2_with fail
    go_meet
    exact ⟨rfl, rfl, rfl, hD⟩
  case rest =>
  obtain ⟨rfl, rfl, rfl, hb⟩ := hcut
  have hst1 := hst _ hb
  clear hst
  cases g
  · go_wp2_with (go_at_call 87; refine hst1.mono ?_; rintro e w1 ⟨rfl, hg1, hR1⟩)
    go_ret
    exact ⟨rfl, (belowg hb _).trans hg1, hR1⟩
  · go_wp2_with (go_at_call 87; refine hst1.mono ?_; rintro e w1 ⟨rfl, hg1, hR1⟩)
    go_ret
    exact ⟨rfl, (belowg hb _).trans hg1, hR1⟩
set_option maxHeartbeats 2000000 in
set_option maxRecDepth 100000 in
theorem qFixed_any (r : Nat) (a : Option Addr) (l c : Nat) (bs : List UInt8) (pos : Nat) (er : Int) (wide : Int) (n m : Nat) (x : Int) (w : World) (hR : Rq w r (.slice a l c) pos er) (hr : Reads w (.slice a l c) bs) (hs : pos ≤ bs.length) (h : xRes (bs.drop pos) wide = (n, m, x)) :
    Calls Try.prog 43 #[.pointer (some ⟨r, 0, none⟩), .int .i64 wide] w fun e w' => e = .returned (.int .u64 (if er = 0 then (n : Int) else 0)) ∧ w.grownBy w' (some r) ∧ Rq w' r (.slice a l c) (stAt er pos m) (stErr er x) := by
  obtain ⟨rfl, hc, hm⟩ := hr.slice
  unfold maxLen at hm
  obtain ⟨a', hcut, hcr⟩ := run_cut_from a bs.length c pos hc hs
  have hcall := fun w' (hb : Below w.heap.size w w') => refReadFixed_any a' _ _ _ wide n m x w' (hcr w' bs (hr.all hb)) h
  obtain ⟨hml, hz⟩ := xRes_len h
  rw [List.length_drop] at hml
  have hst := fun w' (hb : Below w.heap.size w w') => step_any r (.slice a bs.length c) pos m er x w' (hR.below hb) (by omega) (fun hx => (hz hx).2)
  have h0 := hR.bytes
  have h1 := hR.at
  have hv : (if er = 0 then (n : Int) else 0) = if stGo er x = true then (n : Int) else 0 := by
    by_cases he : er = 0
    · subst he
      by_cases hx : x = 0
      · subst hx; rfl
      · obtain ⟨rfl, rfl⟩ := hz hx
        simp [stGo, hx]
    · simp [stGo, he]
  rw [hv]
  clear hcr h hz hv
  generalize stGo er x = g at hst ⊢
  obtain ⟨l', hl'⟩ : ∃ l', l' = bs.length - pos := ⟨_, rfl⟩
  obtain ⟨c', hc'⟩ : ∃ c', c' = c - pos := ⟨_, rfl⟩
  rw [← hl', ← hc'] at hcut hcall
  clear hl' hc'
  go_enter Try.func43, Try.ntmps43
  go_upto_region 1 with fail
  have hD : Below w.heap.size w w.drew := (Below.refl _ _).drew
  go_cut [6, 7, 5] (fun v4 v5 v3 wx => v3 = .int .u64 (n : Int) ∧ v4 = .int .i64 (m : Int) ∧ v5 = .int .i64 x ∧ Below w.heap.size w wx)
  case first =>
    refine wp_region_held_drew (S := fun w' => Below w.heap.size w w' ∧ w'.cell? ⟨r, 0, none⟩ = some (.slice a bs.length c) ∧ w'.cell? ⟨r, 1, none⟩ = some (.int .i64 (pos : Int))) (by kernel_rfl) ⟨hD, h0, h1⟩ (fun hS0 => ?_)
    refine wpAnyH_take (i := 0) (oi := ⟨some 9, _, _, _, _, _⟩) (v := ?_) rfl (by kernel_rfl) (by kernel_rfl) (by kernel_rfl) (fun _ _ _ h => h) (Or.inl ⟨by rfl, ?_⟩) (by assumption) ?_
    rotate_left
    · (intro w hSw; (try dsimp only at hSw); go_simp; try with_reducible rfl)
    try simp only [Act.put, List.setIfInBounds_toArray, List.set_cons_zero, List.set_cons_succ]
    refine wpAnyH_take (i := 1) (oi := ⟨some 10, _, _, _, _, _⟩) (v := ?_) rfl (by kernel_rfl) (by kernel_rfl) (by kernel_rfl) (fun _ _ _ h => h) (Or.inl ⟨by rfl, ?_⟩) (by assumption) ?_
    rotate_left
    · (intro w hSw; (try dsimp only at hSw); go_simp; try with_reducible rfl)
    try simp only [Act.put, List.setIfInBounds_toArray, List.set_cons_zero, List.set_cons_succ]
    refine wpAnyH_take (i := 2) (oi := ⟨some 11, _, _, _, _, _⟩) (v := ?_) rfl (by kernel_rfl) (by kernel_rfl) (by kernel_rfl) (fun _ _ _ h => h) (Or.inl ⟨by rfl, ?_⟩) (by assumption) ?_
    rotate_left
    · (intro w hSw; (try dsimp only at hSw); go_simp; try with_reducible rfl)
    try simp only [Act.put, List.setIfInBounds_toArray, List.set_cons_zero, List.set_cons_succ]
    refine wpAnyH_take (i := 3) (oi := ⟨some 12, _, _, _, _, _⟩) (v := ?_) rfl (by kernel_rfl) (by kernel_rfl) (by kernel_rfl) (fun _ _ _ h => h) (Or.inl ⟨by rfl, ?_⟩) (by assumption) ?_
    rotate_left
    · (intro w hSw; (try dsimp only at hSw); go_simp; try with_reducible rfl)
    try simp only [Act.put, List.setIfInBounds_toArray, List.set_cons_zero, List.set_cons_succ]
    refine wpAnyH_take (i := 4) (oi := ⟨some 13, _, _, _, _, _⟩) (v := ?_) rfl (by kernel_rfl) (by kernel_rfl) (by kernel_rfl) (fun _ _ _ h => h) (Or.inl ⟨by rfl, ?_⟩) (by assumption) ?_
    rotate_left
    · (intro w hSw; (try dsimp only at hSw); go_simp; try with_reducible rfl)
    try simp only [Act.put, List.setIfInBounds_toArray, List.set_cons_zero, List.set_cons_succ]
    refine wpAnyH_take (i := 5) (oi := ⟨some 14, _, _, _, _, _⟩) (v := ?_) rfl (by kernel_rfl) (by kernel_rfl) (by kernel_rfl) (fun _ _ _ h => h) (Or.inl ⟨by rfl, ?_⟩) (by assumption) ?_
    rotate_left
    · (intro w hSw; (try dsimp only at hSw); go_simp; try with_reducible rfl)
    try simp only [Act.put, List.setIfInBounds_toArray, List.set_cons_zero, List.set_cons_succ]
    refine wpAnyH_take (i := 6) (oi := ⟨some 15, _, _, _, _, _⟩) (v := ?_) rfl (by kernel_rfl) (by kernel_rfl) (by kernel_rfl) (fun _ _ _ h => h) (Or.inl ⟨by rfl, ?_⟩) (by assumption) ?_
    rotate_left
    · (intro w hSw; (try dsimp only at hSw); go_simp; try with_reducible rfl)
    try simp only [Act.put, List.setIfInBounds_toArray, List.set_cons_zero, List.set_cons_succ]
    refine wpAnyH_take (i := 7) (oi := ⟨some 16, _, _, _, _, _⟩) (v := ?_) rfl (by kernel_rfl) (by kernel_rfl) (by kernel_rfl) (fun _ _ _ h => h) (Or.inl ⟨by rfl, ?_⟩) (by assumption) ?_
    rotate_left
    · (intro w hSw; (try dsimp only at hSw); go_simp; try with_reducible rfl)
    try simp only [Act.put, List.setIfInBounds_toArray, List.set_cons_zero, List.set_cons_succ]
    refine wpAnyH_take (i := 8) (oi := ⟨some 17, _, _, _, _, _⟩) (v := ?_) rfl (by kernel_rfl) (by kernel_rfl) (by kernel_rfl) (fun _ _ _ h => h) (Or.inl ⟨by rfl, ?_⟩) (by assumption) ?_
    rotate_left
    · (intro w hSw; (try dsimp only at hSw); go_simp; try with_reducible rfl)
    try simp only [Act.put, List.setIfInBounds_toArray, List.set_cons_zero, List.set_cons_succ]
    refine wpAnyH_take (i := 9) (oi := ⟨some 18, _, _, _, _, _⟩) (v := ?_) rfl (by kernel_rfl) (by kernel_rfl) (by kernel_rfl) (fun _ _ _ h => h) (Or.inl ⟨by rfl, ?_⟩) (by assumption) ?_
    rotate_left
    · (intro w hSw; (try dsimp only at hSw); go_simp; try with_reducible rfl)
    try simp only [Act.put, List.setIfInBounds_toArray, List.set_cons_zero, List.set_cons_succ]
    refine wpAnyH_ready (rs := [10]) (by kernel_rfl) (by simp) ?_
    refine AllReadyH.cons rfl (fun K hK => ?_) AllReadyH.nil
    go_simp
    refine (hcall _ hD).mono ?_
    rintro e w6 ⟨rfl, rfl⟩
    refine hK.out _ _ hS0 (fun hS3 => ?_)
    clear hK
    refine wpAnyH_take (i := 11) (oi := ⟨some 8, _, _, _, _, _⟩) (v := ?_) rfl (by kernel_rfl) (by kernel_rfl) (by kernel_rfl) (fun _ _ _ h => h) (Or.inl ⟨by rfl, ?_⟩) (by assumption) ?_
    rotate_left
    · (intro w hSw; (try dsimp only at hSw); go_simp; try with_reducible rfl)
    try simp only [Act.put, List.setIfInBounds_toArray, List.set_cons_zero, List.set_cons_succ]
    refine wpAnyH_take (i := 12) (oi := ⟨some 20, _, _, _, _, _⟩) (v := ?_) rfl (by kernel_rfl) (by kernel_rfl) (by kernel_rfl) (fun _ _ _ h => h) (Or.inl ⟨by rfl, ?_⟩) (by assumption) ?_
    rotate_left
    · (intro w hSw; (try dsimp only at hSw); go_simp; try with_reducible rfl)
    try simp only [Act.put, List.setIfInBounds_toArray, List.set_cons_zero, List.set_cons_succ]
    refine wpAnyH_take (i := 13) (oi := ⟨some 21, _, _, _, _, _⟩) (v := ?_) rfl (by kernel_rfl) (by kernel_rfl) (by kernel_rfl) (fun _ _ _ h => h) (Or.inl ⟨by rfl, ?_⟩) (by assumption) ?_
    rotate_left
    · (intro w hSw; (try dsimp only at hSw); go_simp; try with_reducible rfl)
    try simp only [Act.put, List.setIfInBounds_toArray, List.set_cons_zero, List.set_cons_succ]
    refine wpAnyH_take (i := 14) (oi := ⟨some 22, _, _, _, _, _⟩) (v := ?_) rfl (by kernel_rfl) (by kernel_rfl) (by kernel_rfl) (fun _ _ _ h => h) (Or.inl ⟨by rfl, ?_⟩) (by assumption) ?_
    rotate_left
    · (intro w hSw; (try dsimp only at hSw); go_simp; try with_reducible rfl)
    try simp only [Act.put, List.setIfInBounds_toArray, List.set_cons_zero, List.set_cons_succ]
    refine wpAnyH_take (i := 15) (oi := ⟨some 5, _, _, _, _, _⟩) (v := ?_) rfl (by kernel_rfl) (by kernel_rfl) (by kernel_rfl) (fun _ _ _ h => h) (Or.inl ⟨by rfl, ?_⟩) (by assumption) ?_
    rotate_left
    · (intro w hSw; (try dsimp only at hSw); go_simp; try with_reducible rfl)
    try simp only [Act.put, List.setIfInBounds_toArray, List.set_cons_zero, List.set_cons_succ]
    refine wpAnyH_take (i := 16) (oi := ⟨some 6, _, _, _, _, _⟩) (v := ?_) rfl (by kernel_rfl) (by kernel_rfl) (by kernel_rfl) (fun _ _ _ h => h) (Or.inl ⟨by rfl, ?_⟩) (by assumption) ?_
    rotate_left
    · (intro w hSw; (try dsimp only at hSw); go_simp; try with_reducible rfl)
    try simp only [Act.put, List.setIfInBounds_toArray, List.set_cons_zero, List.set_cons_succ]
    refine wpAnyH_take (i := 17) (oi := ⟨some 7, _, _, _, _, _⟩) (v := ?_) rfl (by kernel_rfl) (by kernel_rfl) (by kernel_rfl) (fun _ _ _ h => h) (Or.inl ⟨by rfl, ?_⟩) (by assumption) ?_
    rotate_left
    · (intro w hSw; (try dsimp only at hSw); go_simp; try with_reducible rfl)
    try simp only [Act.put, List.setIfInBounds_toArray, List.set_cons_zero, List.set_cons_succ]
    refine wpAnyH_done (by kernel_rfl) ?_ _
    go_wp2_with fail
    go_meet
    exact ⟨rfl, rfl, rfl, hD⟩
  case rest =>
  obtain ⟨rfl, rfl, rfl, hb⟩ := hcut
  have hst1 := hst _ hb
  clear hst
  cases g
  · go_wp2_with (go_at_call 87; refine hst1.mono ?_; rintro e w1 ⟨rfl, hg1, hR1⟩)
    go_ret
    exact ⟨rfl, (belowg hb _).trans hg1, hR1⟩
  · go_wp2_with (go_at_call 87; refine hst1.mono ?_; rintro e w1 ⟨rfl, hg1, hR1⟩)
    go_ret
    exact ⟨rfl, (belowg hb _).trans hg1, hR1⟩
set_option maxHeartbeats 2000000 in
set_option maxRecDepth 100000 in
theorem qField_any (r : Nat) (a : Option Addr) (l c : Nat) (bs : List UInt8) (pos : Nat) (er : Int) (f : List UInt8) (m : Nat) (x : Int) (w : World) (hR : Rq w r (.slice a l c) pos er) (hr : Reads w (.slice a l c) bs) (hs : pos ≤ bs.length) (h : fRes (bs.drop pos) = (f, m, x)) :
    Calls Try.prog 45 #[.pointer (some ⟨r, 0, none⟩)] w fun e w' => ∃ v, e = .returned v ∧ Reads w' v (if er = 0 then f else []) ∧ w.grownBy w' (some r) ∧ Rq w' r (.slice a l c) (stAt er pos m) (stErr er x) := by
  obtain ⟨rfl, hc, hm⟩ := hr.slice
  unfold maxLen at hm
  obtain ⟨a', hcut, hcr⟩ := run_cut_from a bs.length c pos hc hs
  have hcall := fun w' (hb : Below w.heap.size w w') => refReadField_any a' _ _ _ f m x w' (hcr w' bs (hr.all hb)) h
  obtain ⟨hml, hz⟩ := fRes_len h
  rw [List.length_drop] at hml
  have hst := fun w' (hb : Below w.heap.size w w') => step_any r (.slice a bs.length c) pos m er x w' (hR.below hb) (by omega) (fun hx => (hz hx).2)
  have h0 := hR.bytes
  have h1 := hR.at
  have hv : (if er = 0 then f else []) = if stGo er x = true then f else [] := by
    by_cases he : er = 0
    · subst he
      by_cases hx : x = 0
      · subst hx; rfl
      · obtain ⟨rfl, rfl⟩ := hz hx
        simp [stGo, hx]
    · simp [stGo, he]
  rw [hv]
  clear hcr h hz hv
  generalize stGo er x = g at hst ⊢
  obtain ⟨l', hl'⟩ : ∃ l', l' = bs.length - pos := ⟨_, rfl⟩
  obtain ⟨c', hc'⟩ : ∃ c', c' = c - pos := ⟨_, rfl⟩
  rw [← hl', ← hc'] at hcut hcall
  clear hl' hc'
  go_enter Try.func45, Try.ntmps45
  go_upto_region 1 with fail
  have hD : Below w.heap.size w w.drew := (Below.refl _ _).drew
  go_cut [4, 5, 3] (fun v4 v5 v3 wx => Owns wx w.heap.size 5 v3 f ∧ v4 = .int .i64 (m : Int) ∧ v5 = .int .i64 x ∧ Below w.heap.size w wx)
  case first =>
    refine wp_region_held_drew (S := fun w' => Below w.heap.size w w' ∧ w'.cell? ⟨r, 0, none⟩ = some (.slice a bs.length c) ∧ w'.cell? ⟨r, 1, none⟩ = some (.int .i64 (pos : Int))) (by kernel_rfl) ⟨hD, h0, h1⟩ (fun hS0 => ?_)
    refine wpAnyH_take (i := 0) (oi := ⟨some 7, _, _, _, _, _⟩) (v := ?_) rfl (by kernel_rfl) (by kernel_rfl) (by kernel_rfl) (fun _ _ _ h => h) (Or.inl ⟨by rfl, ?_⟩) (by assumption) ?_
    rotate_left
    · (intro w hSw; (try dsimp only at hSw); go_simp; try with_reducible rfl)
    try simp only [Act.put, List.setIfInBounds_toArray, List.set_cons_zero, List.set_cons_succ]
    refine wpAnyH_take (i := 1) (oi := ⟨some 8, _, _, _, _, _⟩) (v := ?_) rfl (by kernel_rfl) (by kernel_rfl) (by kernel_rfl) (fun _ _ _ h => h) (Or.inl ⟨by rfl, ?_⟩) (by assumption) ?_
    rotate_left
    · (intro w hSw; (try dsimp only at hSw); go_simp; try with_reducible rfl)
    try simp only [Act.put, List.setIfInBounds_toArray, List.set_cons_zero, List.set_cons_succ]
    refine wpAnyH_take (i := 2) (oi := ⟨some 9, _, _, _, _, _⟩) (v := ?_) rfl (by kernel_rfl) (by kernel_rfl) (by kernel_rfl) (fun _ _ _ h => h) (Or.inl ⟨by rfl, ?_⟩) (by assumption) ?_
    rotate_left
    · (intro w hSw; (try dsimp only at hSw); go_simp; try with_reducible rfl)
    try simp only [Act.put, List.setIfInBounds_toArray, List.set_cons_zero, List.set_cons_succ]
    refine wpAnyH_take (i := 3) (oi := ⟨some 10, _, _, _, _, _⟩) (v := ?_) rfl (by kernel_rfl) (by kernel_rfl) (by kernel_rfl) (fun _ _ _ h => h) (Or.inl ⟨by rfl, ?_⟩) (by assumption) ?_
    rotate_left
    · (intro w hSw; (try dsimp only at hSw); go_simp; try with_reducible rfl)
    try simp only [Act.put, List.setIfInBounds_toArray, List.set_cons_zero, List.set_cons_succ]
    refine wpAnyH_take (i := 4) (oi := ⟨some 11, _, _, _, _, _⟩) (v := ?_) rfl (by kernel_rfl) (by kernel_rfl) (by kernel_rfl) (fun _ _ _ h => h) (Or.inl ⟨by rfl, ?_⟩) (by assumption) ?_
    rotate_left
    · (intro w hSw; (try dsimp only at hSw); go_simp; try with_reducible rfl)
    try simp only [Act.put, List.setIfInBounds_toArray, List.set_cons_zero, List.set_cons_succ]
    refine wpAnyH_take (i := 5) (oi := ⟨some 12, _, _, _, _, _⟩) (v := ?_) rfl (by kernel_rfl) (by kernel_rfl) (by kernel_rfl) (fun _ _ _ h => h) (Or.inl ⟨by rfl, ?_⟩) (by assumption) ?_
    rotate_left
    · (intro w hSw; (try dsimp only at hSw); go_simp; try with_reducible rfl)
    try simp only [Act.put, List.setIfInBounds_toArray, List.set_cons_zero, List.set_cons_succ]
    refine wpAnyH_take (i := 6) (oi := ⟨some 13, _, _, _, _, _⟩) (v := ?_) rfl (by kernel_rfl) (by kernel_rfl) (by kernel_rfl) (fun _ _ _ h => h) (Or.inl ⟨by rfl, ?_⟩) (by assumption) ?_
    rotate_left
    · (intro w hSw; (try dsimp only at hSw); go_simp; try with_reducible rfl)
    try simp only [Act.put, List.setIfInBounds_toArray, List.set_cons_zero, List.set_cons_succ]
    refine wpAnyH_take (i := 7) (oi := ⟨some 14, _, _, _, _, _⟩) (v := ?_) rfl (by kernel_rfl) (by kernel_rfl) (by kernel_rfl) (fun _ _ _ h => h) (Or.inl ⟨by rfl, ?_⟩) (by assumption) ?_
    rotate_left
    · (intro w hSw; (try dsimp only at hSw); go_simp; try with_reducible rfl)
    try simp only [Act.put, List.setIfInBounds_toArray, List.set_cons_zero, List.set_cons_succ]
    refine wpAnyH_take (i := 8) (oi := ⟨some 15, _, _, _, _, _⟩) (v := ?_) rfl (by kernel_rfl) (by kernel_rfl) (by kernel_rfl) (fun _ _ _ h => h) (Or.inl ⟨by rfl, ?_⟩) (by assumption) ?_
    rotate_left
    · (intro w hSw; (try dsimp only at hSw); go_simp; try with_reducible rfl)
    try simp only [Act.put, List.setIfInBounds_toArray, List.set_cons_zero, List.set_cons_succ]
    refine wpAnyH_ready (rs := [9]) (by kernel_rfl) (by simp) ?_
    refine AllReadyH.cons rfl (fun K hK => ?_) AllReadyH.nil
    go_simp
    refine (hcall _ hD).mono ?_
    rintro e w6 ⟨v6, rfl, ho6, hg6⟩
    have hb6 : Below w.heap.size w w6 := belowg_drew hg6
    have hr6 : Owns w6 w.heap.size 5 v6 f := ho6
    refine hK.out _ _ ⟨hb6, (hR.below hb6).bytes, (hR.below hb6).at⟩ (fun hS3 => ?_)
    clear hK
    refine wpAnyH_take (i := 10) (oi := ⟨some 6, _, _, _, _, _⟩) (v := ?_) rfl (by kernel_rfl) (by kernel_rfl) (by kernel_rfl) (fun _ _ _ h => h) (Or.inl ⟨by rfl, ?_⟩) (by assumption) ?_
    rotate_left
    · (intro w hSw; (try dsimp only at hSw); go_simp; try with_reducible rfl)
    try simp only [Act.put, List.setIfInBounds_toArray, List.set_cons_zero, List.set_cons_succ]
    refine wpAnyH_take (i := 11) (oi := ⟨some 17, _, _, _, _, _⟩) (v := ?_) rfl (by kernel_rfl) (by kernel_rfl) (by kernel_rfl) (fun _ _ _ h => h) (Or.inl ⟨by rfl, ?_⟩) (by assumption) ?_
    rotate_left
    · (intro w hSw; (try dsimp only at hSw); go_simp; try with_reducible rfl)
    try simp only [Act.put, List.setIfInBounds_toArray, List.set_cons_zero, List.set_cons_succ]
    refine wpAnyH_take (i := 12) (oi := ⟨some 18, _, _, _, _, _⟩) (v := ?_) rfl (by kernel_rfl) (by kernel_rfl) (by kernel_rfl) (fun _ _ _ h => h) (Or.inl ⟨by rfl, ?_⟩) (by assumption) ?_
    rotate_left
    · (intro w hSw; (try dsimp only at hSw); go_simp; try with_reducible rfl)
    try simp only [Act.put, List.setIfInBounds_toArray, List.set_cons_zero, List.set_cons_succ]
    refine wpAnyH_take (i := 13) (oi := ⟨some 19, _, _, _, _, _⟩) (v := ?_) rfl (by kernel_rfl) (by kernel_rfl) (by kernel_rfl) (fun _ _ _ h => h) (Or.inl ⟨by rfl, ?_⟩) (by assumption) ?_
    rotate_left
    · (intro w hSw; (try dsimp only at hSw); go_simp; try with_reducible rfl)
    try simp only [Act.put, List.setIfInBounds_toArray, List.set_cons_zero, List.set_cons_succ]
    refine wpAnyH_take (i := 14) (oi := ⟨some 3, _, _, _, _, _⟩) (v := ?_) rfl (by kernel_rfl) (by kernel_rfl) (by kernel_rfl) (fun _ _ _ h => h) (Or.inl ⟨by rfl, ?_⟩) (by assumption) ?_
    rotate_left
    · (intro w hSw; (try dsimp only at hSw); go_simp; try with_reducible rfl)
    try simp only [Act.put, List.setIfInBounds_toArray, List.set_cons_zero, List.set_cons_succ]
    refine wpAnyH_take (i := 15) (oi := ⟨some 4, _, _, _, _, _⟩) (v := ?_) rfl (by kernel_rfl) (by kernel_rfl) (by kernel_rfl) (fun _ _ _ h => h) (Or.inl ⟨by rfl, ?_⟩) (by assumption) ?_
    rotate_left
    · (intro w hSw; (try dsimp only at hSw); go_simp; try with_reducible rfl)
    try simp only [Act.put, List.setIfInBounds_toArray, List.set_cons_zero, List.set_cons_succ]
    refine wpAnyH_take (i := 16) (oi := ⟨some 5, _, _, _, _, _⟩) (v := ?_) rfl (by kernel_rfl) (by kernel_rfl) (by kernel_rfl) (fun _ _ _ h => h) (Or.inl ⟨by rfl, ?_⟩) (by assumption) ?_
    rotate_left
    · (intro w hSw; (try dsimp only at hSw); go_simp; try with_reducible rfl)
    try simp only [Act.put, List.setIfInBounds_toArray, List.set_cons_zero, List.set_cons_succ]
    refine wpAnyH_done (by kernel_rfl) ?_ _
    go_wp2_with fail
    go_meet
    exact ⟨hr6, rfl, rfl, hb6⟩
  case rest =>
  obtain ⟨hr3, rfl, rfl, hb⟩ := hcut
  have hst1 := hst _ hb
  clear hst
  cases g
  · go_wp2_with (go_at_call 87; refine hst1.mono ?_; rintro e w1 ⟨rfl, hg1, hR1⟩)
    go_ret
    exact ⟨_, rfl, .inl ⟨rfl, rfl⟩, (belowg hb _).trans hg1, hR1⟩
  · go_wp2_with (go_at_call 87; refine hst1.mono ?_; rintro e w1 ⟨rfl, hg1, hR1⟩)
    go_ret
    exact ⟨_, rfl, (hr3.kept hg1 (.inr fun e => by have := (hr3.lt r e).1; have := hR.lt; omega)).reads, (belowg hb _).trans hg1, hR1⟩
end Go.Proofs.Ytilbccjgaaembaa
