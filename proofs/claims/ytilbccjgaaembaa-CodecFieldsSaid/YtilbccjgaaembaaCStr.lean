/-
  LAYER 2 (codec): string(b), and what reads a number whatever the bytes.
-/
import Derived.Test.YtilbccjgaaembaaCFieldsR
import Derived.Laws.BytesString
namespace Go.Proofs.Ytilbccjgaaembaa
set_option maxRecDepth 100000
open Go.RowKit Go.Lib

theorem fold_push : ∀ (bs p : List UInt8), ((bs.map fun u => (u.toNat : Int)).foldl (fun (r : ByteArray) n => r.push (UInt8.ofNat n.toNat)) ⟨p.toArray⟩) = ⟨(p ++ bs).toArray⟩
  | [], p => by simp
  | u :: bs, p => by
    have h := fold_push bs (p ++ [u])
    simp only [List.map_cons, List.foldl_cons, Int.toNat_natCast, UInt8.ofNat_toNat]
    have e : (⟨p.toArray⟩ : ByteArray).push u = ⟨(p ++ [u]).toArray⟩ := by
      show ByteArray.mk _ = ByteArray.mk _
      simp
    rw [e, h, List.append_assoc]
    rfl

theorem conv_of {w : World} {v : Value} {bs : List UInt8} (h : Reads w v bs) : (convert 23 9 v).run Try.prog w = .ok (.string ⟨bs.toArray⟩) w := by
  have h0 := h
  rcases h with ⟨rfl, rfl⟩ | ⟨b, off, cap, rfl, _, _, _⟩
  · rw [run_convert_bytes_string w 23 9 5 none 0 0 Try.underlying23 Try.underlying5 Try.underlying9]
    simp [Conv.bytesToString]
    rfl
  · rw [run_convert_bytes_string w 23 9 5 _ _ _ Try.underlying23 Try.underlying5 Try.underlying9]
    have hl := run_loadCells_list (P := Try.prog) w ⟨b, off, none⟩ (byteCells bs) h0.cells
    have e : byteCells bs = (bs.map fun u => (u.toNat : Int)).map (Value.int .u8) := by simp [byteCells]
    rw [byteCells_len, e] at hl
    rw [run_bytesToString w _ _ _ _ hl]
    have := fold_push bs []
    simp only [List.nil_append] at this
    exact congrArg (fun s => Result.ok (Value.string s) w) this

/-- What ReadUint comes to, in three numbers; and the others. -/
def uRes (bs : List UInt8) : Nat × Nat × Int := match rd 0 0 bs with | .ok (n, m) => (n, m, 0) | .error x => (0, 0, x)
theorem rd_err : ∀ (bs : List UInt8) (i acc : Nat) (x : Int), rd i acc bs = .error x → x = 20 ∨ x = 21
  | [], i, acc, x, h => by simp [rd] at h; omega
  | c :: r, i, acc, x, h => by
    rw [rd] at h
    split at h
    · simp at h; omega
    · split at h
      · cases h
      · exact rd_err r _ _ x h
theorem uRes_cases {bs : List UInt8} {n m : Nat} {x : Int} (h : uRes bs = (n, m, x)) : (x = 0 ∧ rd 0 0 bs = .ok (n, m)) ∨ (x ≠ 0 ∧ n = 0 ∧ m = 0 ∧ rd 0 0 bs = .error x) := by
  unfold uRes at h
  split at h
  · rename_i n' m' h'
    simp only [Prod.mk.injEq] at h
    obtain ⟨rfl, rfl, rfl⟩ := h
    exact .inl ⟨rfl, h'⟩
  · rename_i x' h'
    simp only [Prod.mk.injEq] at h
    obtain ⟨rfl, rfl, rfl⟩ := h
    refine .inr ⟨?_, rfl, rfl, h'⟩
    rcases rd_err _ _ _ _ h' with h | h <;> omega

theorem ReadUint_any (a : Option Addr) (l c : Nat) (bs : List UInt8) (n m : Nat) (x : Int) (w : World) (hr : Reads w (.slice a l c) bs) (h : uRes bs = (n, m, x)) :
    Calls Try.prog 20 #[.slice a l c] w fun e w' => e = .returned (.tuple #[.int .u64 (n : Int), .int .i64 (m : Int), .int .i64 x]) ∧ Below w.heap.size w w' := by
  rcases uRes_cases h with ⟨rfl, h'⟩ | ⟨_, rfl, rfl, h'⟩
  · exact ReadUint_ok a l c bs n m w hr h'
  · exact ReadUint_bad a l c bs x w hr h'

/-- ReadInt's number. -/
def iOf (n : Nat) (x : Int) : Int := if x = 0 then unzig n else 0
theorem ReadInt_any (a : Option Addr) (l c : Nat) (bs : List UInt8) (n m : Nat) (x : Int) (w : World) (hr : Reads w (.slice a l c) bs) (h : uRes bs = (n, m, x)) :
    Calls Try.prog 21 #[.slice a l c] w fun e w' => e = .returned (.tuple #[.int .i64 (iOf n x), .int .i64 (m : Int), .int .i64 x]) ∧ Below w.heap.size w w' := by
  rcases uRes_cases h with ⟨rfl, h'⟩ | ⟨hx, rfl, rfl, h'⟩
  · rw [show iOf n 0 = unzig n from rfl]; exact ReadInt_ok a l c bs n m w hr h'
  · rw [show iOf 0 x = 0 from if_neg hx]; exact ReadInt_bad a l c bs x w hr h'

def fRes (bs : List UInt8) : List UInt8 × Nat × Int := match rdField bs with | .ok (f, m) => (f, m, 0) | .error x => ([], 0, x)
def lRes (bs : List UInt8) : List (List UInt8) × Nat × Int := match rdFields bs with | .ok (f, m) => (f, m, 0) | .error x => ([], 0, x)
theorem rdLen_err {most : Nat} {bs : List UInt8} {x : Int} (h : rdLen most bs = .error x) : x = 2 ∨ x = 20 ∨ x = 21 := by
  unfold rdLen at h
  split at h
  · rename_i x' h'
    simp at h; subst h
    have := rd_err _ _ _ _ h'; omega
  · split at h
    · simp at h; omega
    · cases h
theorem rdField_err {bs : List UInt8} {x : Int} (h : rdField bs = .error x) : x = 2 ∨ x = 20 ∨ x = 21 := by
  unfold rdField at h
  split at h
  · rename_i x' h'
    simp at h; subst h
    exact rdLen_err h'
  · split at h
    · simp at h; omega
    · cases h
theorem rdMany_err : ∀ (k : Nat) (bs : List UInt8) (x : Int), rdMany k bs = .error x → x = 2 ∨ x = 20 ∨ x = 21
  | 0, bs, x, h => by simp [rdMany] at h
  | k + 1, bs, x, h => by
    rw [rdMany] at h
    split at h
    · rename_i x' h'
      simp at h; subst h
      exact rdField_err h'
    · split at h
      · rename_i x' h'
        simp at h; subst h
        exact rdMany_err k _ _ h'
      · cases h
theorem rdFields_err {bs : List UInt8} {x : Int} (h : rdFields bs = .error x) : x = 2 ∨ x = 20 ∨ x = 21 := by
  unfold rdFields at h
  split at h
  · rename_i x' h'
    simp at h; subst h
    exact rdLen_err h'
  · split at h
    · rename_i x' h'
      simp at h; subst h
      exact rdMany_err _ _ _ h'
    · cases h
theorem fRes_cases {bs : List UInt8} {f : List UInt8} {m : Nat} {x : Int} (h : fRes bs = (f, m, x)) : (x = 0 ∧ rdField bs = .ok (f, m)) ∨ (x ≠ 0 ∧ f = [] ∧ m = 0 ∧ rdField bs = .error x) := by
  unfold fRes at h
  split at h
  · rename_i n' m' h'
    simp only [Prod.mk.injEq] at h
    obtain ⟨rfl, rfl, rfl⟩ := h
    exact .inl ⟨rfl, h'⟩
  · rename_i x' h'
    simp only [Prod.mk.injEq] at h
    obtain ⟨rfl, rfl, rfl⟩ := h
    refine .inr ⟨?_, rfl, rfl, h'⟩
    rcases rdField_err h' with h | h | h <;> omega
theorem lRes_cases {bs : List UInt8} {f : List (List UInt8)} {m : Nat} {x : Int} (h : lRes bs = (f, m, x)) : (x = 0 ∧ rdFields bs = .ok (f, m)) ∨ (x ≠ 0 ∧ f = [] ∧ m = 0 ∧ rdFields bs = .error x) := by
  unfold lRes at h
  split at h
  · rename_i n' m' h'
    simp only [Prod.mk.injEq] at h
    obtain ⟨rfl, rfl, rfl⟩ := h
    exact .inl ⟨rfl, h'⟩
  · rename_i x' h'
    simp only [Prod.mk.injEq] at h
    obtain ⟨rfl, rfl, rfl⟩ := h
    refine .inr ⟨?_, rfl, rfl, h'⟩
    rcases rdFields_err h' with h | h | h <;> omega
theorem owns_nil (w : World) (B : Nat) (e : TypeId) : Owns w B e (.slice none 0 0) [] := World.ownsRow_nil w B e 1
theorem ownsL_nil (w : World) (B : Nat) : OwnsL w B (.slice none 0 0) [] := ⟨[], rfl, World.ownsRow_nil w B _ 1, fun i x f hx _ => by simp at hx⟩
theorem ReadField_any (a : Option Addr) (l c : Nat) (bs f : List UInt8) (m : Nat) (x : Int) (w : World) (hr : Reads w (.slice a l c) bs) (h : fRes bs = (f, m, x)) :
    Calls Try.prog 26 #[.slice a l c] w fun e w' => ∃ v, e = .returned (.tuple #[v, .int .i64 (m : Int), .int .i64 x]) ∧ Owns w' w.heap.size 5 v f ∧ Below w.heap.size w w' := by
  rcases fRes_cases h with ⟨rfl, h'⟩ | ⟨_, rfl, rfl, h'⟩
  · exact ReadField_ok a l c bs f m w hr h'
  · exact (ReadField_bad a l c bs x w hr h').mono fun e w' ⟨he, hb⟩ => ⟨_, he, owns_nil _ _ _, hb⟩
theorem ReadFields_any (a : Option Addr) (l c : Nat) (bs : List UInt8) (f : List (List UInt8)) (m : Nat) (x : Int) (w : World) (hr : Reads w (.slice a l c) bs) (h : lRes bs = (f, m, x)) :
    Calls Try.prog 28 #[.slice a l c] w fun e w' => ∃ v, e = .returned (.tuple #[v, .int .i64 (m : Int), .int .i64 x]) ∧ OwnsL w' w.heap.size v f ∧ Below w.heap.size w w' := by
  rcases lRes_cases h with ⟨rfl, h'⟩ | ⟨_, rfl, rfl, h'⟩
  · exact ReadFields_ok a l c bs f m w hr h'
  · exact (ReadFields_bad a l c bs x w hr h').mono fun e w' ⟨he, hb⟩ => ⟨_, he, ownsL_nil _ _, hb⟩

/-- 'b[:m]', its bounds paid ahead of the walk. -/
theorem run_cut_hi (a : Option Addr) (l c m : Nat) (h : m ≤ c) (w : World) : (Instr.slice 23 (.slice a l c) none (some (.int .i64 (m : Int))) none).run Try.prog w = .ok (.slice a m c) w := by
  have he : Try.prog.underlying 23 = some (.slice (Try.prog.elem 23)) := by simp [go_sem]
  rw [run_slice_h w 23 a l c he .i64 (m : Int) (by omega) (by omega)]
  have hz : (sizeOf (Try.prog.elem 23)).run Try.prog w = .ok 1 w := by simp [go_sem]
  rw [hz]
  simp only [Result.andThen_ok, sliced, Int.toNat_natCast, Nat.sub_zero, Nat.zero_mul]
  split
  · rfl
  · cases a <;> simp [Addr.add]
/-- 'b[m:]'. -/
theorem run_cut_lo (a : Option Addr) (l c m : Nat) (h : m ≤ l) (w : World) : ∃ a', (Instr.slice 23 (.slice a l c) (some (.int .i64 (m : Int))) none none).run Try.prog w = .ok (.slice a' (l - m) (c - m)) w ∧ (c = m → a' = a) ∧ (c ≠ m → a' = a.map fun x => x.add m) := by
  have he : Try.prog.underlying 23 = some (.slice (Try.prog.elem 23)) := by simp [go_sem]
  rw [run_slice_l w 23 a l c he .i64 (m : Int) (by omega) (by omega)]
  have hz : (sizeOf (Try.prog.elem 23)).run Try.prog w = .ok 1 w := by simp [go_sem]
  rw [hz]
  simp only [Result.andThen_ok, sliced, Int.toNat_natCast, Nat.mul_one]
  refine ⟨_, rfl, fun e => if_pos e, fun e => if_neg e⟩
end Go.Proofs.Ytilbccjgaaembaa
