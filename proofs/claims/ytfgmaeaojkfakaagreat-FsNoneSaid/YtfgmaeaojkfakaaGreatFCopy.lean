/-
  LAYER 1 (fs): bytes of a file's own: appended, copied (as codec's text XCWrite has it, at fs.copied).
-/
import Derived.Test.YtfgmaeaojkfakaaGreatCBase
import Derived.Test.YtfgmaeaojkfakaaGreatShelf
import Derived.Laws.CopyOwn
import Derived.Laws.BytesString
import Derived.OwnWalk
namespace Go.Proofs.YtfgmaeaojkfakaaGreat
set_option maxRecDepth 100000
open Go.RowKit Go.Lib

theorem infoU8 : (Tryz.prog.info? 5).map (fun i => (i.zero, i.size, i.bytes)) = some (some (.int .u8 0), 1, 1) := by kernel_rfl
theorem sizeU8 : (Tryz.prog.info? 5).map (·.size) = some 1 := by kernel_rfl

/-- An own row, laid anew. -/
theorem owns_block {w : World} {B g cap : Nat} {e : TypeId} {bs : List UInt8} (hB : B ≤ g) (hg : w.heap[g]? = some (.cells (byteCells bs).toArray e (0, 0))) (hm : bs.length ≤ maxLen) (hc : cap = bs.length) :
    Owns w B e (.slice (some ⟨g, 0, none⟩) bs.length cap) bs := by
  subst hc
  have hl : (byteCells bs).length = bs.length := by simp [byteCells]
  exact ⟨by simp [hl], .inr ⟨g, _, _, rfl, hB, hg, Nat.le_refl _, hm, by simp [hl], by simp [hl, List.take_of_length_le]⟩⟩

theorem byteCells_one (bs : List UInt8) : ∀ v ∈ byteCells bs, v.oneCell' = true := by
  intro v hv
  simp only [byteCells, List.mem_map] at hv
  obtain ⟨u, _, rfl⟩ := hv
  rfl

/-- The cells of what is read, from an address on. -/
theorem Reads.cells {w : World} {a : Addr} {l c : Nat} {bs : List UInt8} (h : Reads w (.slice (some a) l c) bs) : ∀ j v, (byteCells bs)[j]? = some v → w.cell? (a.add j) = some v := by
  rcases h with ⟨h, rfl⟩ | ⟨b, off, cap, h, h1, h2, hc⟩
  · simp at h
  · simp at h
    obtain ⟨rfl, rfl, rfl⟩ := h
    intro j v hv
    rw [byteCells_get] at hv
    obtain ⟨u, hu, rfl⟩ := Option.map_eq_some_iff.1 hv
    have := hc j u hu
    have e : (⟨b, off, none⟩ : Addr).add j = ⟨b, off + j, none⟩ := by unfold Addr.add; split <;> simp_all
    rw [e]
    exact this

theorem byteCells_len (bs : List UInt8) : (byteCells bs).length = bs.length := by simp [byteCells]

/-- 'append(out, f...)' at bytes: out the call's own (or nil), f whatever reads as bytes, nil too. -/
theorem wpList_append_bytes {P : Program} (w : World) {ops : Array Oper} {rest : List Oper} {o : Oper} {a : Act} {Q : Exit → Act → World → Prop} (hgd : o.guard = none) (s x : Operand) (t : TypeId)
    (ho : o.op = .call { callee := .builtin .append, args := #[s, x], argTypes := #[t, t] })
    (base : Nat) (e : TypeId) (i : TypeInfo) (ht : P.underlying t = some (.slice e)) (hi : P.info? e = some i) (hz : i.zero = some (.int .u8 0)) (hsize : i.size = 1) (hby : i.bytes = 1)
    (v : Value) (bs : List UInt8) (hs : a.eval s = v) (hown : Owns w base e v bs) (xv : Value) (f : List UInt8) (hx : a.eval x = xv) (hr : Reads w xv f)
    (hlim : bs.length + f.length ≤ 140737488355328) (hbase : base ≤ w.heap.size)
    (h : ∀ v' w', Owns w' base e v' (bs ++ f) → w.grownBy w' v.ownBlock → wpList P ops Q rest (a.put o.dst v') w') : wpList P ops Q (o :: rest) a w := by
  have hr0 := hr
  rcases hr with ⟨rfl, rfl⟩ | ⟨b, off, cap, rfl, _, _, _⟩
  · refine wpList_plain hgd fun K hK => ?_
    have hrun := run_append_owned_none (P := P) w base t o.type e i 1 ht hi v _ _ hown
    unfold Oper.wp execOp
    simp only [ho, resolve, invoke, builtin, Sem.run_bind, Sem.run_pure, Result.andThen_ok, List.map_toArray, List.map_cons, List.map_nil, hs, hx, hrun]
    exact hK _ _ (h v w (by simpa using hown) (World.grownBy.refl _ _))
  · refine wpList_append_own w hgd s x t ho base e i (.int .u8 0) 1 1 ht hi hz hsize hby rfl (by decide) v bs.length (byteCells bs) hs hown ⟨b, off, none⟩ f.length cap (byteCells f) hx (by rw [byteCells_len]; omega) hr0.cells (byteCells_one f) (by unfold maxLen; omega) (by omega) hbase fun v' w' h2 h3 _ => h v' w' ?_ h3
    unfold Owns
    rw [byteCells_append, List.length_append]
    exact h2

theorem run_copied (w0 : World) (g : Nat) (a : Option Addr) (c : Nat) (bs : List UInt8) (hm : bs.length ≤ maxLen) (hr : Reads w0 (.slice a bs.length c) bs) (hb : w0.heap[g]? = some (.cells (List.replicate bs.length (Value.int .u8 0)).toArray 5 (0, 0))) :
    ∃ w1, (Builtin.copy_ #[32, 32] 3 #[.slice (some ⟨g, 0, none⟩) bs.length bs.length, .slice a bs.length c]).run Tryz.prog w0 = .ok (goInt bs.length) w1 ∧ Owns w1 g 5 (.slice (some ⟨g, 0, none⟩) bs.length bs.length) bs ∧ w0.grownBy w1 (some g) := by
  have hlc : (byteCells bs).length = bs.length := by simp [byteCells]
  by_cases h0 : bs = []
  · subst h0
    exact ⟨w0, run_copy_none w0 _ _ _ 5 _ _ _ _ _ _ Tryz.underlying32 sizeU8 rfl, owns_block (Nat.le_refl _) (by simpa [byteCells] using hb) hm rfl, World.grownBy.refl _ _⟩
  · obtain ⟨ad, rfl⟩ : ∃ ad, a = some ad := by
      rcases hr with ⟨_, rfl⟩ | ⟨b, off, cap, h, _⟩
      · exact absurd rfl h0
      · simp at h; exact ⟨_, h.1⟩
    have hrun := run_copy_row (P := Tryz.prog) w0 32 32 3 5 g 0 bs.length bs.length ad bs.length c _ 5 (byteCells bs) Tryz.underlying32 sizeU8 hb (by simp [hlc]) hr.cells (by simp [hlc]) (byteCells_one bs)
    rw [hlc] at hrun
    refine ⟨_, hrun, owns_block (Nat.le_refl _) ?_ hm rfl, ⟨rfl, rfl, rfl, by simp [World.setRow], fun k _ hne => setRow_other w0 g k _ (fun e => hne (by simp [e]))⟩⟩
    rw [setRow_heap w0 g _ _ _ _ hb]
    simp

set_option maxHeartbeats 1000000 in
theorem fcopied_any (a : Option Addr) (l c : Nat) (bs : List UInt8) (w : World) (hr : Reads w (.slice a l c) bs) (hl : bs.length ≤ 140737488355328) :
    Calls Tryz.prog 51 #[.slice a l c] w fun e w' => ∃ v, e = .returned v ∧ Owns w' w.heap.size 5 v bs ∧ w.grownBy w' none := by
  obtain ⟨rfl, hc, hm⟩ := hr.slice
  obtain ⟨i0, hi, hz0, hz1, hz2⟩ := info_parts infoU8
  go_enter Tryz.func51, Tryz.ntmps51
  go_wp2_with (at_make; refine wpList_make_full _ rfl _ _ 32 rfl w.heap.size 5 i0 (.int .u8 0) 1 Tryz.underlying32 hi hz0 hz1 .i64 .i64 _ _ bs.length rfl rfl rfl rfl (by rw [hz2]; omega) (by unfold maxLen; omega) (Nat.le_refl _) ?_; intro w0 hown0 hgrow0)
  have hblk : w0.heap[w.heap.size]? = some (.cells (List.replicate bs.length (Value.int .u8 0)).toArray 5 (0, 0)) := by
    obtain ⟨_, ⟨h, _⟩ | ⟨g, cap, cur, h, _, hg, _, _, hs, ht⟩⟩ := hown0
    · simp at h
    · simp only [Value.slice.injEq, Option.some.injEq, Addr.mk.injEq, and_true, true_and] at h
      obtain ⟨rfl, rfl⟩ := h
      rw [hg, ← Array.toArray_toList (xs := cur), ← List.take_of_length_le (l := cur.toList) (i := bs.length * 1) (by simp; omega), ht]
      simp [Value.cells, toList_madeCells_one]
  clear hown0
  obtain ⟨w1, hrun, ho, hg1⟩ := run_copied w0 w.heap.size a c bs (by omega) (hr.new hgrow0) hblk
  clear hblk
  go_simp
  go_wp2
  go_ret
  exact ⟨_, rfl, ho, gnew hgrow0 hg1 (by simp)⟩

end Go.Proofs.YtfgmaeaojkfakaaGreat
