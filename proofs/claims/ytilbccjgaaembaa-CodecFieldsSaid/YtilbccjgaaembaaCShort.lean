/-
  LAYER 2 (codec): awake, and CodecShort.
-/
import Derived.Test.YtilbccjgaaembaaCRead
import Derived.Test.YtilbccjgaaembaaCWrite
import Derived.Lib.SlBytesConst
namespace Go.Proofs.Ytilbccjgaaembaa
set_option maxRecDepth 100000
open Go.RowKit Go.Lib
set_option maxHeartbeats 1000000 in
theorem New_any (a : Option Addr) (l c : Nat) (bs : List UInt8) (w : World) (hr : Reads w (.slice a l c) bs) (hl : bs.length ≤ 140737488355328) :
    Calls Try.prog 34 #[.slice a l c] w fun e w' => ∃ r v, e = .returned (.pointer (some ⟨r, 0, none⟩)) ∧ w.grownBy w' none ∧ w.heap.size ≤ r ∧ Rd w' r v 0 0 ∧ Owns w' w.heap.size 5 v bs := by
  go_enter Try.func34, Try.ntmps34
  go_wp2_with (go_at_call 84; refine (copied_any a l c bs w hr hl).mono ?_; rintro e w1 ⟨v, rfl, ho, hg⟩)
  obtain ⟨a', c', rfl⟩ := ho.reads.form
  go_wp2_with (go_at_call 70; refine (over_any a' _ c' w1).mono ?_; rintro e w' ⟨rfl, rfl⟩)
  go_ret
  exact ⟨_, _, rfl, galloc hg _, hg.size, rd_made _ _, ho.new (World.grownBy_alloc w1 _ _)⟩

theorem uv300 : Lib.uvarint 300 = [172, 2] := by rw [uvarint_big (by decide), uvarint_small (by decide)]; rfl
theorem rd300 : rd 0 0 [172, 2] = .ok (300, 2) := by simp [rd]
theorem rd80 : rd 0 0 [128, 0] = .error 21 := by simp [rd]
theorem rd5 : rd 0 0 [5] = .ok (5, 1) := by simp [rd]
theorem fieldsA : fields [[97], []] = [2, 1, 97, 0] := by
  simp only [fields, field, List.map_cons, List.map_nil, List.length_cons, List.length_nil]
  rw [uvarint_small (by decide), uvarint_small (by decide), uvarint_small (by decide)]; rfl

/-- A literal of bytes. -/
theorem reads_lit (w : World) (e : TypeId) (bs : List UInt8) (hm : bs.length ≤ maxLen) : Reads (w.alloc (.cells (byteCells bs).toArray e)) (.slice (some ⟨w.heap.size, 0, none⟩) bs.length bs.length) bs :=
  (owns_block (B := 0) (Nat.zero_le _) (heap_alloc_new w _) hm rfl).reads

theorem reads_one (w : World) (b : Nat) (u : UInt8) (h : w.cell? ⟨b, 0, none⟩ = some (.int .u8 (u.toNat : Int))) : Reads w (.slice (some ⟨b, 0, none⟩) 1 1) [u] :=
  .inr ⟨b, 0, 1, rfl, by simp, by decide, fun i x hx => by
    match i, hx with
    | 0, hx => simp at hx; subst hx; simpa using h
    | i + 1, hx => simp at hx⟩
theorem readsL_two (w : World) (b : Nat) (v1 v2 : Value) (f1 f2 : List UInt8) (h1 : w.cell? ⟨b, 0, none⟩ = some v1) (h2 : w.cell? ⟨b, 1, none⟩ = some v2) (r1 : Reads w v1 f1) (r2 : Reads w v2 f2) : ReadsL w (.slice (some ⟨b, 0, none⟩) 2 2) [f1, f2] :=
  ⟨[v1, v2], rfl, .inr ⟨b, 0, 2, rfl, by simp, by decide, fun i x hx => by
    match i, hx with
    | 0, hx => simp at hx; subst hx; simpa using h1
    | 1, hx => simp at hx; subst hx; simpa using h2
    | i + 2, hx => simp at hx⟩, fun i x f hx hf => by
    match i, hx, hf with
    | 0, hx, hf => simp at hx hf; subst hx; subst hf; exact r1
    | 1, hx, hf => simp at hx hf; subst hx; subst hf; exact r2
    | i + 2, hx, hf => simp at hx⟩

set_option maxHeartbeats 2000000 in
theorem awake_any (w : World) : Calls Try.prog 13 #[] w fun e w' => e = .returned (.bool true) ∧ w.grownBy w' none := by
  have h1 := Uint_any 300 (by decide) w
  rw [uv300, show ((300 : Nat) : Int) = 300 from rfl] at h1
  go_enter Try.func13, Try.ntmps13
  go_wp2_with fail
  refine h1.mono ?_
  rintro e w1 ⟨v1, rfl, ho1, hg1⟩
  obtain ⟨a1, c1, rfl⟩ := ho1.reads.form
  have h2 := ReadUint_ok a1 _ c1 [172, 2] 300 2 w1 ho1.reads rd300
  rw [show ((300 : Nat) : Int) = 300 from rfl, show ((2 : Nat) : Int) = 2 from rfl] at h2
  go_wp2_with fail
  refine h2.mono ?_
  rintro e w2 ⟨rfl, hb2⟩
  have hg2 : w.grownBy w2 none := gnew hg1 (belowg hb2 none) (by simp)
  clear h1 h2
  have h3 := ReadUint_bad (some ⟨w2.heap.size, 0, none⟩) 2 2 [128, 0] 21 _ (reads_lit w2 5 [128, 0] (by decide)) rd80
  go_wp2_with fail
  refine h3.mono ?_
  rintro e w3 ⟨rfl, hb3⟩
  have hg3 : w.grownBy w3 none := gnew (galloc hg2 _) (belowg hb3 none) (by simp)
  have kc := fun (w : World) (C : Array Value) (n c : Nat) => Lib.run_convert_bytes_const (P := Try.prog) w 23 5 C n c Try.underlying23 Try.underlying5
  clear h3
  have hrl : ReadsL ((w3.alloc (.cells #[.int .u8 97] 5 (1, 2))).alloc (.cells #[.slice (some ⟨w3.heap.size, 0, none⟩) 1 1, .slice none 0 0] 23)) (.slice (some ⟨w3.heap.size + 1, 0, none⟩) 2 2) [[97], []] :=
    readsL_two _ _ _ _ _ _ (by simp [go_sem]) (by simp [go_sem]) (reads_one _ _ 97 (Lib.cell?_alloc_marked _ (World.cell?_alloc_mark w3 _ _ _ 0))) (.inl ⟨rfl, rfl⟩)
  have h4 := Fields_ok [[97], []] _ _ _ _ hrl (by decide) (by simp)
  rw [fieldsA] at h4
  go_wp2_with fail
  refine h4.mono ?_
  rintro e w4 ⟨v4, rfl, ho4, hb4⟩
  have hg4 : w.grownBy w4 none := gnew (galloc (galloc hg3 _) _) (belowg hb4 none) (by simp)
  clear h4 hrl
  obtain ⟨a4, c4, rfl⟩ := ho4.reads.form
  have h5 := New_any (some ⟨w4.heap.size, 0, none⟩) 1 1 [5] _ (reads_lit w4 5 [5] (by decide)) (by simp)
  go_wp2_with fail
  refine h5.mono ?_
  rintro e w5 ⟨r, v5, rfl, hg5, hr5, hR5, ho5⟩
  have hg5' : w.grownBy w5 none := gnew (galloc hg4 _) hg5 (by simp)
  clear h5
  obtain ⟨a5, c5, rfl⟩ := ho5.reads.form
  have h6 := rUint_ok r a5 _ c5 [5] 0 5 1 w5 hR5 ho5.reads (by simp) rd5
  rw [show ((5 : Nat) : Int) = 5 from rfl] at h6
  go_wp2_with fail
  refine h6.mono ?_
  rintro e w6 ⟨rfl, hg6, hR6⟩
  have h7 := done_any r a5 _ c5 1 w6 hR6 (by simp)
  go_wp2_with fail
  refine h7.mono ?_
  rintro e w7 ⟨rfl, k, rfl⟩
  go_wp2
  go_ret
  refine ⟨rfl, gdrewN (gnew hg5' hg6 ?_) _⟩
  rintro r' ⟨⟩
  left
  have := hg4.size
  simp at hr5
  omega
end Go.Proofs.Ytilbccjgaaembaa
