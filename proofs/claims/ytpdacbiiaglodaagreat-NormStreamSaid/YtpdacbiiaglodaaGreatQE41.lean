/-
  Bytes of the call's own: appends, and string(b) of bytes that a slice reads as.
-/
import Derived.Test.YtpdacbiiaglodaaGreatQE02
import Derived.Test.YtpdacbiiaglodaaGreatRows
import Derived.Laws.BytesString
import Derived.Laws.CopyOwn
namespace Go.Proofs.YtpdacbiiaglodaaGreat.U
set_option maxRecDepth 100000
open Go.RowKit Go.Lib

theorem infoU8 : (Tryz.prog.info? 5).map (fun i => (i.zero, i.size, i.bytes)) = some (some (.int .u8 0), 1, 1) := by kernel_rfl
theorem sizeU8 : (Tryz.prog.info? 5).map (·.size) = some 1 := by kernel_rfl

/-- An own row, laid anew. -/
theorem owns_block {w : World} {B g cap : Nat} {e : TypeId} {bs : List UInt8} (hB : B ≤ g) (hg : w.heap[g]? = some (.cells (byteCells bs).toArray e (0, 0))) (hm : bs.length ≤ maxLen) (hc : cap = bs.length) :
    Owns w B e (.slice (some ⟨g, 0, none⟩) bs.length cap) bs := by
  subst hc
  have hl : (byteCells bs).length = bs.length := by simp [byteCells]
  exact ⟨by simp [hl], .inr ⟨g, _, _, rfl, hB, hg, Nat.le_refl _, hm, by simp [hl], by simp [hl, List.take_of_length_le]⟩⟩

theorem byteCells_one (bs : List UInt8) : ∀ v ∈ byteCells bs, v.oneCell' = true := by
  intro v hv
  simp only [byteCells, List.mem_map] at hv
  obtain ⟨u, _, rfl⟩ := hv
  rfl

/-- The cells of what is read, from an address on. -/
theorem _root_.Go.Proofs.YtpdacbiiaglodaaGreat.Reads.ucells {w : World} {a : Addr} {l c : Nat} {bs : List UInt8} (h : Reads w (.slice (some a) l c) bs) : ∀ j v, (byteCells bs)[j]? = some v → w.cell? (a.add j) = some v := by
  rcases h with ⟨h, rfl⟩ | ⟨b, off, cap, h, h1, h2, hc⟩
  · simp at h
  · simp at h
    obtain ⟨rfl, rfl, rfl⟩ := h
    intro j v hv
    rw [byteCells_get] at hv
    obtain ⟨u, hu, rfl⟩ := Option.map_eq_some_iff.1 hv
    have := hc j u hu
    have e : (⟨b, off, none⟩ : Addr).add j = ⟨b, off + j, none⟩ := by unfold Addr.add; split <;> simp_all
    rw [e]
    exact this

theorem byteCells_len (bs : List UInt8) : (byteCells bs).length = bs.length := by simp [byteCells]

/-- 'append(out, f...)' at bytes: out the call's own (or nil), f whatever reads as bytes, nil too. -/
theorem wpList_append_bytes {P : Program} (w : World) {ops : Array Oper} {rest : List Oper} {o : Oper} {a : Act} {Q : Exit → Act → World → Prop} (hgd : o.guard = none) (s x : Operand) (t : TypeId)
    (ho : o.op = .call { callee := .builtin .append, args := #[s, x], argTypes := #[t, t] })
    (base : Nat) (e : TypeId) (i : TypeInfo) (ht : P.underlying t = some (.slice e)) (hi : P.info? e = some i) (hz : i.zero = some (.int .u8 0)) (hsize : i.size = 1) (hby : i.bytes = 1)
    (v : Value) (bs : List UInt8) (hs : a.eval s = v) (hown : Owns w base e v bs) (xv : Value) (f : List UInt8) (hx : a.eval x = xv) (hr : Reads w xv f)
    (hlim : bs.length + f.length ≤ 140737488355328) (hbase : base ≤ w.heap.size)
    (h : ∀ v' w', Owns w' base e v' (bs ++ f) → w.grownBy w' v.ownBlock → wpList P ops Q rest (a.put o.dst v') w') : wpList P ops Q (o :: rest) a w := by
  have hr0 := hr
  rcases hr with ⟨rfl, rfl⟩ | ⟨b, off, cap, rfl, _, _, _⟩
  · refine wpList_plain hgd fun K hK => ?_
    have hrun := run_append_owned_none (P := P) w base t o.type e i 1 ht hi v _ _ hown
    unfold Oper.wp execOp
    simp only [ho, resolve, invoke, builtin, Sem.run_bind, Sem.run_pure, Result.andThen_ok, List.map_toArray, List.map_cons, List.map_nil, hs, hx, hrun]
    exact hK _ _ (h v w (by simpa using hown) (World.grownBy.refl _ _))
  · refine wpList_append_own w hgd s x t ho base e i (.int .u8 0) 1 1 ht hi hz hsize hby rfl (by decide) v bs.length (byteCells bs) hs hown ⟨b, off, none⟩ f.length cap (byteCells f) hx (by rw [byteCells_len]; omega) hr0.ucells (byteCells_one f) (by unfold maxLen; omega) (by omega) hbase fun v' w' h2 h3 _ => h v' w' ?_ h3
    unfold Owns
    rw [byteCells_append, List.length_append]
    exact h2

theorem fold_push : ∀ (bs p : List UInt8), ((bs.map fun u => (u.toNat : Int)).foldl (fun (r : ByteArray) n => r.push (UInt8.ofNat n.toNat)) ⟨p.toArray⟩) = ⟨(p ++ bs).toArray⟩
  | [], p => by simp
  | u :: bs, p => by
    have h := fold_push bs (p ++ [u])
    simp only [List.map_cons, List.foldl_cons, Int.toNat_natCast, UInt8.ofNat_toNat]
    have e : (⟨p.toArray⟩ : ByteArray).push u = ⟨(p ++ [u]).toArray⟩ := by
      show ByteArray.mk _ = ByteArray.mk _
      simp
    rw [e, h, List.append_assoc]
    rfl

theorem conv_of {w : World} {v : Value} {bs : List UInt8} (h : Reads w v bs) : (convert 27 9 v).run Tryz.prog w = .ok (.string ⟨bs.toArray⟩) w := by
  have h0 := h
  rcases h with ⟨rfl, rfl⟩ | ⟨b, off, cap, rfl, _, _, _⟩
  · rw [run_convert_bytes_string w 27 9 5 none 0 0 Tryz.underlying27 Tryz.underlying5 Tryz.underlying9]
    simp [Conv.bytesToString]
    rfl
  · rw [run_convert_bytes_string w 27 9 5 _ _ _ Tryz.underlying27 Tryz.underlying5 Tryz.underlying9]
    have hl := run_loadCells_list (P := Tryz.prog) w ⟨b, off, none⟩ (byteCells bs) h0.ucells
    have e : byteCells bs = (bs.map fun u => (u.toNat : Int)).map (Value.int .u8) := by simp [byteCells]
    rw [byteCells_len, e] at hl
    rw [run_bytesToString w _ _ _ _ hl]
    have := fold_push bs []
    simp only [List.nil_append] at this
    exact congrArg (fun s => Result.ok (Value.string s) w) this
end Go.Proofs.YtpdacbiiaglodaaGreat.U
