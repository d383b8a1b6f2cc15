/-
  LAYER 2 (codec): nextLen, nextField, ReadField, the reader's Field.
-/
import Derived.Test.YtpdacbiiaglodaaGreatQG09
import Derived.RegionTactic
import Derived.Laws.BytesString
namespace Go.Proofs.YtpdacbiiaglodaaGreat
set_option maxRecDepth 100000
open Go.RowKit Go.Lib

end Go.Proofs.YtpdacbiiaglodaaGreat

/-
  LAYER 2 (codec): nextFields, ReadFields.
-/
namespace Go.Proofs.YtpdacbiiaglodaaGreat
set_option maxRecDepth 100000
open Go.RowKit Go.Lib

theorem infoBs : (Tryz.prog.info? 27).map (fun i => (i.zero, i.size, i.bytes)) = some (some (.slice none 0 0), 1, 24) := by kernel_rfl

/-- The call owns a list of lists of bytes: the row, and each of its elements. -/
def OwnsL (w : World) (B : Nat) (v : Value) (L : List (List UInt8)) : Prop :=
  ∃ vs : List Value, vs.length = L.length ∧ w.ownsRow B 27 1 v vs.length vs ∧ ∀ (i : Nat) (x : Value) (f : List UInt8), vs[i]? = some x → L[i]? = some f → Owns w B 5 x f

theorem row_of_owns {w : World} {B : Nat} {e : TypeId} {v : Value} {vs : List Value} (h : w.ownsRow B e 1 v vs.length vs) : Row w v vs := by
  have h0 := h
  obtain ⟨_, ⟨rfl, hn⟩ | ⟨g, cap, cur, rfl, hB, hg, hn, hc, hs, ht⟩⟩ := h
  · exact .inl ⟨rfl, List.length_eq_zero_iff.1 hn⟩
  · refine .inr ⟨g, 0, cap, rfl, hn, hc, fun i u hu => ?_⟩
    have hi : i < vs.length := (List.getElem?_eq_some_iff.1 hu).1
    rw [Nat.zero_add, World.ownsRow.cellAt h0 i (by omega), hu]
theorem OwnsL.reads {w : World} {B : Nat} {v : Value} {L : List (List UInt8)} (h : OwnsL w B v L) : ReadsL w v L := by
  obtain ⟨vs, h1, h2, h3⟩ := h
  exact ⟨vs, h1, row_of_owns h2, fun i x f hx hf => (h3 i x f hx hf).reads⟩
theorem ReadsL.form {w : World} {v : Value} {L : List (List UInt8)} (h : ReadsL w v L) : ∃ a l c, v = .slice a l c := by
  obtain ⟨vs, h1, h2, h3⟩ := h
  rcases h2 with ⟨rfl, _⟩ | ⟨b, off, cap, rfl, _⟩
  · exact ⟨_, _, _, rfl⟩
  · exact ⟨_, _, _, rfl⟩
/-- A row of bytes and a row of slices lie in two blocks. -/
theorem rows_apart {w : World} {B B' : Nat} {x v : Value} {f : List UInt8} {k : Nat} {vs : List Value} (h : Owns w B 5 x f) (h' : w.ownsRow B' 27 1 v k vs) : x.ownBlock = none ∨ x.ownBlock ≠ v.ownBlock := by
  obtain ⟨_, ⟨rfl, hn⟩ | ⟨g, cap, cur, rfl, hB, hg, _⟩⟩ := h
  · left; rfl
  · obtain ⟨_, ⟨rfl, hn⟩ | ⟨g', cap', cur', rfl, hB', hg', _⟩⟩ := h'
    · right; simp [Value.ownBlock]
    · right
      intro e
      simp [Value.ownBlock] at e
      subst e
      rw [hg] at hg'
      simp at hg'
theorem OwnsL.kept {w w' : World} {B : Nat} {v : Value} {L : List (List UInt8)} {r : Nat} (h : OwnsL w B v L) (hg : w.grownBy w' (some r)) (hr : r < B) : OwnsL w' B v L := by
  obtain ⟨vs, h1, h2, h3⟩ := h
  have ne : ∀ {x : Value}, (∀ k, x.ownBlock = some k → B ≤ k ∧ k < w.heap.size) → x.ownBlock = none ∨ x.ownBlock ≠ some r := fun {x} hx => by
    right; intro e; have := hx r e; omega
  exact ⟨vs, h1, h2.kept hg (ne h2.lt), fun i x f hx hf => (h3 i x f hx hf).kept hg (ne (h3 i x f hx hf).lt)⟩
theorem OwnsL.new {w w' : World} {B : Nat} {v : Value} {L : List (List UInt8)} (h : OwnsL w B v L) (hg : w.grownBy w' none) : OwnsL w' B v L := by
  obtain ⟨vs, h1, h2, h3⟩ := h
  exact ⟨vs, h1, h2.kept hg (by cases v.ownBlock <;> simp), fun i x f hx hf => (h3 i x f hx hf).new hg⟩
theorem OwnsL.mono {w : World} {B B' : Nat} {v : Value} {L : List (List UInt8)} (h : OwnsL w B v L) (hB : B' ≤ B) : OwnsL w B' v L := by
  obtain ⟨vs, h1, h2, h3⟩ := h
  refine ⟨vs, h1, ?_, fun i x f hx hf => (h3 i x f hx hf).mono hB⟩
  obtain ⟨h1, h2 | ⟨g, cap, cur, hv, hb, r⟩⟩ := h2
  · exact ⟨h1, .inl h2⟩
  · exact ⟨h1, .inr ⟨g, cap, cur, hv, by omega, r⟩⟩
/-- One more field behind. -/
theorem OwnsL.snoc {w w' : World} {B : Nat} {v v' x : Value} {vs : List Value} {L : List (List UInt8)} {f : List UInt8} (h1 : vs.length = L.length) (h2 : w.ownsRow B 27 1 v vs.length vs)
    (h3 : ∀ (i : Nat) (x : Value) (f : List UInt8), vs[i]? = some x → L[i]? = some f → Owns w B 5 x f) (hx : Owns w B 5 x f) (hg : w.grownBy w' v.ownBlock) (h4 : w'.ownsRow B 27 1 v' (vs.length + 1) (vs ++ [x])) : OwnsL w' B v' (L ++ [f]) := by
  refine ⟨vs ++ [x], by simp [h1], by simpa using h4, fun i y g hy hg' => ?_⟩
  have hk : ∀ {y : Value} {g : List UInt8}, Owns w B 5 y g → Owns w' B 5 y g := fun h => h.kept hg (rows_apart h h2)
  rcases Nat.lt_or_ge i vs.length with hi | hi
  · rw [List.getElem?_append_left hi] at hy
    rw [List.getElem?_append_left (by omega)] at hg'
    exact hk (h3 i y g hy hg')
  · rw [List.getElem?_append_right hi] at hy
    rw [List.getElem?_append_right (by omega)] at hg'
    rcases hq : i - vs.length with _ | q
    · rw [hq] at hy
      rw [← h1, hq] at hg'
      simp at hy hg'
      subst hy; subst hg'
      exact hk hx
    · rw [hq] at hy; simp at hy

end Go.Proofs.YtpdacbiiaglodaaGreat

/-
  LAYER 2 (codec): string(b), and what reads a number whatever the bytes.
-/
namespace Go.Proofs.YtpdacbiiaglodaaGreat
set_option maxRecDepth 100000
open Go.RowKit Go.Lib

theorem fold_push : ∀ (bs p : List UInt8), ((bs.map fun u => (u.toNat : Int)).foldl (fun (r : ByteArray) n => r.push (UInt8.ofNat n.toNat)) ⟨p.toArray⟩) = ⟨(p ++ bs).toArray⟩
  | [], p => by simp
  | u :: bs, p => by
    have h := fold_push bs (p ++ [u])
    simp only [List.map_cons, List.foldl_cons, Int.toNat_natCast, UInt8.ofNat_toNat]
    have e : (⟨p.toArray⟩ : ByteArray).push u = ⟨(p ++ [u]).toArray⟩ := by
      show ByteArray.mk _ = ByteArray.mk _
      simp
    rw [e, h, List.append_assoc]
    rfl

theorem conv_of {w : World} {v : Value} {bs : List UInt8} (h : Reads w v bs) : (convert 27 9 v).run Tryz.prog w = .ok (.string ⟨bs.toArray⟩) w := by
  have h0 := h
  rcases h with ⟨rfl, rfl⟩ | ⟨b, off, cap, rfl, _, _, _⟩
  · rw [run_convert_bytes_string w 27 9 5 none 0 0 Tryz.underlying27 Tryz.underlying5 Tryz.underlying9]
    simp [Conv.bytesToString]
    rfl
  · rw [run_convert_bytes_string w 27 9 5 _ _ _ Tryz.underlying27 Tryz.underlying5 Tryz.underlying9]
    have hl := run_loadCells_list (P := Tryz.prog) w ⟨b, off, none⟩ (byteCells bs) h0.cells
    have e : byteCells bs = (bs.map fun u => (u.toNat : Int)).map (Value.int .u8) := by simp [byteCells]
    rw [byteCells_len, e] at hl
    rw [run_bytesToString w _ _ _ _ hl]
    have := fold_push bs []
    simp only [List.nil_append] at this
    exact congrArg (fun s => Result.ok (Value.string s) w) this

/-- What ReadUint comes to, in three numbers; and the others. -/
def uRes (bs : List UInt8) : Nat × Nat × Int := match rd 0 0 bs with | .ok (n, m) => (n, m, 0) | .error x => (0, 0, x)
theorem rd_err : ∀ (bs : List UInt8) (i acc : Nat) (x : Int), rd i acc bs = .error x → x = 20 ∨ x = 21
  | [], i, acc, x, h => by simp [rd] at h; omega
  | c :: r, i, acc, x, h => by
    rw [rd] at h
    split at h
    · simp at h; omega
    · split at h
      · cases h
      · exact rd_err r _ _ x h
theorem uRes_cases {bs : List UInt8} {n m : Nat} {x : Int} (h : uRes bs = (n, m, x)) : (x = 0 ∧ rd 0 0 bs = .ok (n, m)) ∨ (x ≠ 0 ∧ n = 0 ∧ m = 0 ∧ rd 0 0 bs = .error x) := by
  unfold uRes at h
  split at h
  · rename_i n' m' h'
    simp only [Prod.mk.injEq] at h
    obtain ⟨rfl, rfl, rfl⟩ := h
    exact .inl ⟨rfl, h'⟩
  · rename_i x' h'
    simp only [Prod.mk.injEq] at h
    obtain ⟨rfl, rfl, rfl⟩ := h
    refine .inr ⟨?_, rfl, rfl, h'⟩
    rcases rd_err _ _ _ _ h' with h | h <;> omega

theorem ReadUint_any (a : Option Addr) (l c : Nat) (bs : List UInt8) (n m : Nat) (x : Int) (w : World) (hr : Reads w (.slice a l c) bs) (h : uRes bs = (n, m, x)) :
    Calls Tryz.prog 172 #[.slice a l c] w fun e w' => e = .returned (.tuple #[.int .u64 (n : Int), .int .i64 (m : Int), .int .i64 x]) ∧ Below w.heap.size w w' := by
  rcases uRes_cases h with ⟨rfl, h'⟩ | ⟨_, rfl, rfl, h'⟩
  · exact ReadUint_ok a l c bs n m w hr h'
  · exact ReadUint_bad a l c bs x w hr h'

/-- ReadInt's number. -/
def iOf (n : Nat) (x : Int) : Int := if x = 0 then unzig n else 0
def fRes (bs : List UInt8) : List UInt8 × Nat × Int := match rdField bs with | .ok (f, m) => (f, m, 0) | .error x => ([], 0, x)
def lRes (bs : List UInt8) : List (List UInt8) × Nat × Int := match rdFields bs with | .ok (f, m) => (f, m, 0) | .error x => ([], 0, x)
theorem rdLen_err {most : Nat} {bs : List UInt8} {x : Int} (h : rdLen most bs = .error x) : x = 2 ∨ x = 20 ∨ x = 21 := by
  unfold rdLen at h
  split at h
  · rename_i x' h'
    simp at h; subst h
    have := rd_err _ _ _ _ h'; omega
  · split at h
    · simp at h; omega
    · cases h
theorem rdField_err {bs : List UInt8} {x : Int} (h : rdField bs = .error x) : x = 2 ∨ x = 20 ∨ x = 21 := by
  unfold rdField at h
  split at h
  · rename_i x' h'
    simp at h; subst h
    exact rdLen_err h'
  · split at h
    · simp at h; omega
    · cases h
theorem rdMany_err : ∀ (k : Nat) (bs : List UInt8) (x : Int), rdMany k bs = .error x → x = 2 ∨ x = 20 ∨ x = 21
  | 0, bs, x, h => by simp [rdMany] at h
  | k + 1, bs, x, h => by
    rw [rdMany] at h
    split at h
    · rename_i x' h'
      simp at h; subst h
      exact rdField_err h'
    · split at h
      · rename_i x' h'
        simp at h; subst h
        exact rdMany_err k _ _ h'
      · cases h
theorem rdFields_err {bs : List UInt8} {x : Int} (h : rdFields bs = .error x) : x = 2 ∨ x = 20 ∨ x = 21 := by
  unfold rdFields at h
  split at h
  · rename_i x' h'
    simp at h; subst h
    exact rdLen_err h'
  · split at h
    · rename_i x' h'
      simp at h; subst h
      exact rdMany_err _ _ _ h'
    · cases h
theorem fRes_cases {bs : List UInt8} {f : List UInt8} {m : Nat} {x : Int} (h : fRes bs = (f, m, x)) : (x = 0 ∧ rdField bs = .ok (f, m)) ∨ (x ≠ 0 ∧ f = [] ∧ m = 0 ∧ rdField bs = .error x) := by
  unfold fRes at h
  split at h
  · rename_i n' m' h'
    simp only [Prod.mk.injEq] at h
    obtain ⟨rfl, rfl, rfl⟩ := h
    exact .inl ⟨rfl, h'⟩
  · rename_i x' h'
    simp only [Prod.mk.injEq] at h
    obtain ⟨rfl, rfl, rfl⟩ := h
    refine .inr ⟨?_, rfl, rfl, h'⟩
    rcases rdField_err h' with h | h | h <;> omega
theorem lRes_cases {bs : List UInt8} {f : List (List UInt8)} {m : Nat} {x : Int} (h : lRes bs = (f, m, x)) : (x = 0 ∧ rdFields bs = .ok (f, m)) ∨ (x ≠ 0 ∧ f = [] ∧ m = 0 ∧ rdFields bs = .error x) := by
  unfold lRes at h
  split at h
  · rename_i n' m' h'
    simp only [Prod.mk.injEq] at h
    obtain ⟨rfl, rfl, rfl⟩ := h
    exact .inl ⟨rfl, h'⟩
  · rename_i x' h'
    simp only [Prod.mk.injEq] at h
    obtain ⟨rfl, rfl, rfl⟩ := h
    refine .inr ⟨?_, rfl, rfl, h'⟩
    rcases rdFields_err h' with h | h | h <;> omega
theorem owns_nil (w : World) (B : Nat) (e : TypeId) : Owns w B e (.slice none 0 0) [] := World.ownsRow_nil w B e 1
theorem ownsL_nil (w : World) (B : Nat) : OwnsL w B (.slice none 0 0) [] := ⟨[], rfl, World.ownsRow_nil w B _ 1, fun i x f hx _ => by simp at hx⟩
/-- 'b[:m]', its bounds paid ahead of the walk. -/
theorem run_cut_hi (a : Option Addr) (l c m : Nat) (h : m ≤ c) (w : World) : (Instr.slice 27 (.slice a l c) none (some (.int .i64 (m : Int))) none).run Tryz.prog w = .ok (.slice a m c) w := by
  have he : Tryz.prog.underlying 27 = some (.slice (Tryz.prog.elem 27)) := by simp [go_sem]
  rw [run_slice_h w 27 a l c he .i64 (m : Int) (by omega) (by omega)]
  have hz : (sizeOf (Tryz.prog.elem 27)).run Tryz.prog w = .ok 1 w := by simp [go_sem]
  rw [hz]
  simp only [Result.andThen_ok, sliced, Int.toNat_natCast, Nat.sub_zero, Nat.zero_mul]
  split
  · rfl
  · cases a <;> simp [Addr.add]
/-- 'b[m:]'. -/
theorem run_cut_lo (a : Option Addr) (l c m : Nat) (h : m ≤ l) (w : World) : ∃ a', (Instr.slice 27 (.slice a l c) (some (.int .i64 (m : Int))) none none).run Tryz.prog w = .ok (.slice a' (l - m) (c - m)) w ∧ (c = m → a' = a) ∧ (c ≠ m → a' = a.map fun x => x.add m) := by
  have he : Tryz.prog.underlying 27 = some (.slice (Tryz.prog.elem 27)) := by simp [go_sem]
  rw [run_slice_l w 27 a l c he .i64 (m : Int) (by omega) (by omega)]
  have hz : (sizeOf (Tryz.prog.elem 27)).run Tryz.prog w = .ok 1 w := by simp [go_sem]
  rw [hz]
  simp only [Result.andThen_ok, sliced, Int.toNat_natCast, Nat.mul_one]
  refine ⟨_, rfl, fun e => if_pos e, fun e => if_neg e⟩
end Go.Proofs.YtpdacbiiaglodaaGreat

/-
  LAYER 2 (codec): the reader's calls, whatever state it is in.
-/
namespace Go.Proofs.YtpdacbiiaglodaaGreat
set_option maxRecDepth 100000
open Go.RowKit Go.Lib

set_option maxHeartbeats 1000000 in
theorem rUint_err (r : Nat) (vb : Value) (pos : Nat) (er : Int) (w : World) (hR : Rd w r vb pos er) (he : er ≠ 0) :
    Calls Tryz.prog 177 #[.pointer (some ⟨r, 0, none⟩)] w fun e w' => e = .returned (.int .u64 0) ∧ w.grownBy w' none := by
  have hmf : ∀ (fn : Fn) (first cap : Array Value) (w : World), (Instr.makeFunc fn first cap).run Tryz.prog w = .ok (.func fn first cap) w := fun _ _ _ _ => rfl
  have hon := fun fv => on_err_u64 r vb pos er fv w hR he
  clear he
  go_enter Tryz.func177, Tryz.ntmps177
  go_wp2_with fail
  refine (hon _).mono ?_
  rintro e w' ⟨rfl, hg⟩
  go_wp2
  go_ret
  exact ⟨rfl, hg⟩
/-- How a reader stands behind a call which would take m bytes or fail by x. -/
def stAt (er : Int) (pos m : Nat) : Nat := if er = 0 then pos + m else pos
def stErr (er x : Int) : Int := if er = 0 then x else er

theorem rUint_any (r : Nat) (a : Option Addr) (l c : Nat) (bs : List UInt8) (pos : Nat) (er : Int) (n m : Nat) (x : Int) (w : World) (hR : Rd w r (.slice a l c) pos er) (hr : Reads w (.slice a l c) bs) (hs : pos ≤ bs.length) (h : uRes (bs.drop pos) = (n, m, x)) :
    Calls Tryz.prog 177 #[.pointer (some ⟨r, 0, none⟩)] w fun e w' => e = .returned (.int .u64 (if er = 0 then (n : Int) else 0)) ∧ w.grownBy w' (some r) ∧ Rd w' r (.slice a l c) (stAt er pos m) (stErr er x) := by
  by_cases he : er = 0
  · subst he
    rcases uRes_cases h with ⟨rfl, h'⟩ | ⟨hx, rfl, rfl, h'⟩
    · exact rUint_ok r a l c bs pos n m w hR hr hs h'
    · have hz : iOf 0 x = 0 := if_neg hx
      simpa [stAt, stErr, hz] using rUint_bad r a l c bs pos x w hR hr hs h'
  · refine (rUint_err r _ pos er w hR he).mono fun e w' ⟨h1, h2⟩ => ?_
    rw [if_neg he, show stAt er pos m = pos from if_neg he, show stErr er x = er from if_neg he]
    exact ⟨h1, h2.but _, hR.new h2⟩
/-- The bytes that Take takes. -/
def tRes (bs : List UInt8) (n : Int) : List UInt8 × Nat × Int :=
  if n < 0 then ([], 0, 1) else if bs.length < n.toNat then ([], 0, 20) else (bs.take n.toNat, n.toNat, 0)

/-- The world behind the two boxes of a call's parameters. -/
def boxed (w : World) (r : Nat) (n : Int) : World := (w.alloc (.cells #[.pointer (some ⟨r, 0, none⟩)] 179)).alloc (.cells #[.int .i64 n] 3)
theorem boxed_grown (w : World) (r : Nat) (n : Int) : w.grownBy (boxed w r n) none := galloc (World.grownBy_alloc w _ _) _
theorem boxed_p (w : World) (r : Nat) (n : Int) : (boxed w r n).cell? ⟨w.heap.size, 0, none⟩ = some (.pointer (some ⟨r, 0, none⟩)) := by unfold boxed; simp [go_sem]
theorem boxed_q (w : World) (r : Nat) (n : Int) : (boxed w r n).cell? ⟨w.heap.size + 1, 0, none⟩ = some (.int .i64 n) := by unfold boxed; simp [go_sem]

theorem enters_rTake1 (args : Array Value) (w : World) : (callFunc 147 args).run Tryz.prog w = .ok (.enter 147 args) w := by go_simp

set_option maxHeartbeats 1000000 in
theorem rTake1_neg (p q : Nat) (r : Nat) (n : Int) (vb : Value) (pos : Nat) (er : Int) (w : World) (hp : w.cell? ⟨p, 0, none⟩ = some (.pointer (some ⟨r, 0, none⟩))) (hq : w.cell? ⟨q, 0, none⟩ = some (.int .i64 n)) (hn : n < 0) (hR : Rd w r vb pos er) :
    Calls Tryz.prog 147 #[.pointer (some ⟨p, 0, none⟩), .pointer (some ⟨q, 0, none⟩)] w fun e w' => ∃ p, e = .panicked [{ v := .iface 228 (.int .i64 1), recovered := false }] ∧ w.grownBy w' (some r) ∧ Rd w' r vb p er := by
  have hN := next_neg r n w hn
  go_enter Tryz.func147, Tryz.ntmps147
  go_wp2_with (go_at_call 148; refine hN.mono ?_; rintro e w' ⟨rfl, rfl⟩)
  exact ⟨rfl, pos, rfl, World.grownBy.refl _ _, hR⟩

set_option maxHeartbeats 1000000 in
theorem rTake1_short (p q : Nat) (r : Nat) (n : Int) (a : Option Addr) (len cap : Nat) (pos : Nat) (er : Int) (w : World) (hp : w.cell? ⟨p, 0, none⟩ = some (.pointer (some ⟨r, 0, none⟩))) (hq : w.cell? ⟨q, 0, none⟩ = some (.int .i64 n)) (hn : 0 ≤ n) (hR : Rd w r (.slice a len cap) pos er) (hpl : pos ≤ len) (hlen : len ≤ maxLen) (hs : (len : Int) - pos < n) :
    Calls Tryz.prog 147 #[.pointer (some ⟨p, 0, none⟩), .pointer (some ⟨q, 0, none⟩)] w fun e w' => ∃ p, e = .panicked [{ v := .iface 228 (.int .i64 20), recovered := false }] ∧ w.grownBy w' (some r) ∧ Rd w' r (.slice a len cap) p er := by
  have hN := next_short r n a len cap pos er w hn hR hpl hlen hs
  go_enter Tryz.func147, Tryz.ntmps147
  go_wp2_with (go_at_call 148; refine hN.mono ?_; rintro e w' ⟨rfl, j, rfl⟩)
  exact ⟨rfl, pos, rfl, gdrewN (World.grownBy.refl _ _) _, hR.drewN _⟩

set_option maxHeartbeats 1000000 in
theorem rTake1_ok (p q : Nat) (r : Nat) (k : Nat) (a : Option Addr) (len cap : Nat) (bs : List UInt8) (pos : Nat) (er : Int) (w : World) (hp : w.cell? ⟨p, 0, none⟩ = some (.pointer (some ⟨r, 0, none⟩))) (hq : w.cell? ⟨q, 0, none⟩ = some (.int .i64 (k : Int))) (hR : Rd w r (.slice a len cap) pos er) (hr : Reads w (.slice a len cap) bs) (hs : pos + k ≤ bs.length) (hlim : bs.length ≤ 140737488355328) :
    Calls Tryz.prog 147 #[.pointer (some ⟨p, 0, none⟩), .pointer (some ⟨q, 0, none⟩)] w fun e w' => ∃ v, e = .returned v ∧ Owns w' w.heap.size 5 v ((bs.drop pos).take k) ∧ w.grownBy w' (some r) ∧ Rd w' r (.slice a len cap) (pos + k) er := by
  have hN := next_ok r k a len cap bs pos er w hR hr hs
  have hl : ((bs.drop pos).take k).length ≤ bs.length := by simp; omega
  generalize (bs.drop pos).take k = cs at hN hl
  go_enter Tryz.func147, Tryz.ntmps147
  go_wp2_with (first | (go_at_call 148; refine hN.mono ?_; rintro e w1 ⟨v, rfl, hg1, hR1, hrv, -⟩; obtain ⟨a1, c1, rfl⟩ := hrv.form) | (go_at_call 145; refine (copied_any a1 _ c1 cs w1 hrv (by omega)).mono ?_; rintro e w2 ⟨v2, rfl, ho2, hg2⟩))
  go_ret
  exact ⟨v2, rfl, ho2.mono hg1.size, gnew hg1 hg2 (by simp), hR1.new hg2⟩

set_option maxHeartbeats 1000000 in
theorem rTake_any (r : Nat) (a : Option Addr) (l c : Nat) (bs : List UInt8) (pos : Nat) (er : Int) (n : Int) (f : List UInt8) (m : Nat) (x : Int) (w : World) (hR : Rd w r (.slice a l c) pos er) (hr : Reads w (.slice a l c) bs) (hs : pos ≤ bs.length) (hlim : bs.length ≤ 140737488355328) (h : tRes (bs.drop pos) n = (f, m, x)) :
    Calls Tryz.prog 117 #[.pointer (some ⟨r, 0, none⟩), .int .i64 n] w fun e w' => ∃ v, e = .returned v ∧ Owns w' w.heap.size 5 v (if er = 0 then f else []) ∧ w.grownBy w' (some r) ∧ Rd w' r (.slice a l c) (stAt er pos m) (stErr er x) := by
  have hmf : ∀ (fn : Fn) (first cap : Array Value) (w : World), (Instr.makeFunc fn first cap).run Tryz.prog w = .ok (.func fn first cap) w := fun _ _ _ _ => rfl
  have hg0 := boxed_grown w r n
  have hp0 := boxed_p w r n
  have hq0 := boxed_q w r n
  have hon : Calls Tryz.prog 146 #[.pointer (some ⟨r, 0, none⟩), .func (.func 147) #[] #[.pointer (some ⟨w.heap.size, 0, none⟩), .pointer (some ⟨w.heap.size + 1, 0, none⟩)]] (boxed w r n) fun e w' => ∃ v, e = .returned v ∧ Owns w' w.heap.size 5 v (if er = 0 then f else []) ∧ (boxed w r n).grownBy w' (some r) ∧ Rd w' r (.slice a l c) (stAt er pos m) (stErr er x) := by
    have hsz := hg0.size
    generalize boxed w r n = w0 at hg0 hp0 hq0 hsz
    have hR0 := hR.new hg0
    have hr0 := hr.new hg0
    obtain ⟨rfl, hc, hm⟩ := hr.slice
    by_cases he : er = 0
    · subst he
      rw [if_pos rfl]
      unfold tRes at h
      split at h
      · rename_i hn
        simp only [Prod.mk.injEq] at h
        obtain ⟨rfl, rfl, rfl⟩ := h
        exact (on_bad_bs r (.slice a bs.length c) pos 1 147 #[] #[.pointer (some ⟨w.heap.size, 0, none⟩), .pointer (some ⟨w.heap.size + 1, 0, none⟩)] w0 hR0 enters_rTake1 (fun w2 hg => by rw [Array.empty_append]; exact rTake1_neg w.heap.size (w.heap.size + 1) r n (.slice a bs.length c) pos 0 w2 (hg.cell hp0 (by simp)) (hg.cell hq0 (by simp)) hn (hR0.new hg))).mono fun e w' ⟨h1, h2, h3⟩ => ⟨_, h1, owns_nil _ _ _, h2, h3⟩
      · rename_i hn
        obtain ⟨k, rfl⟩ := Int.eq_ofNat_of_zero_le (show 0 ≤ n by omega)
        rw [Int.toNat_natCast] at h
        split at h
        · rename_i hsh
          rw [List.length_drop] at hsh
          simp only [Prod.mk.injEq] at h
          obtain ⟨rfl, rfl, rfl⟩ := h
          exact (on_bad_bs r (.slice a bs.length c) pos 20 147 #[] #[.pointer (some ⟨w.heap.size, 0, none⟩), .pointer (some ⟨w.heap.size + 1, 0, none⟩)] w0 hR0 enters_rTake1 (fun w2 hg => by rw [Array.empty_append]; exact rTake1_short w.heap.size (w.heap.size + 1) r k a bs.length c pos 0 w2 (hg.cell hp0 (by simp)) (hg.cell hq0 (by simp)) (by omega) (hR0.new hg) (by omega) (by omega) (by omega))).mono fun e w' ⟨h1, h2, h3⟩ => ⟨_, h1, owns_nil _ _ _, h2, h3⟩
        · rename_i hsh
          rw [List.length_drop] at hsh
          simp only [Prod.mk.injEq] at h
          obtain ⟨rfl, rfl, rfl⟩ := h
          refine (on_ok_bs r (.slice a bs.length c) pos 147 #[] #[.pointer (some ⟨w.heap.size, 0, none⟩), .pointer (some ⟨w.heap.size + 1, 0, none⟩)] (fun v w' => Owns w' w.heap.size 5 v ((bs.drop pos).take k) ∧ Rd w' r (.slice a bs.length c) (pos + k) 0) w0 hR0 enters_rTake1 (fun w2 hg => ?_)).mono fun e w' ⟨v, he, ⟨hv, hR⟩, hg⟩ => ⟨v, he, hv, hg, hR⟩
          rw [Array.empty_append]
          refine (rTake1_ok w.heap.size (w.heap.size + 1) r k a bs.length c bs pos 0 w2 (hg.cell hp0 (by simp)) (hg.cell hq0 (by simp)) (hR0.new hg) (hr0.new hg) (by omega) hlim).mono ?_
          rintro e w3 ⟨v, rfl, ho, hg3, hR3⟩
          exact ⟨_, rfl, ⟨ho.mono (by have := hg.size; omega), hR3⟩, hg3⟩
    · rw [if_neg he, show stAt er pos m = pos from if_neg he, show stErr er x = er from if_neg he]
      exact (on_err_bs r _ pos er _ w0 hR0 he).mono fun e w' ⟨h1, h2⟩ => ⟨_, h1, owns_nil _ _ _, h2.but _, hR0.new h2⟩
  clear h hp0 hq0
  unfold boxed at hon
  generalize (if er = 0 then f else []) = z at hon ⊢
  go_enter Tryz.func117, Tryz.ntmps117
  go_wp2_with fail
  refine hon.mono ?_
  rintro e w' ⟨v, rfl, ho, hg, hR'⟩
  go_wp2
  go_ret
  exact ⟨v, rfl, ho, gnew (hg0.but _) hg (fun r' e => .inr e), hR'⟩
end Go.Proofs.YtpdacbiiaglodaaGreat

/-
  LAYER 2's REFERENCE: what writes: Uint, Int, Field, Fields, Fixed.
-/
namespace Go.Proofs.YtpdacbiiaglodaaGreat
set_option maxRecDepth 100000
open Go.RowKit Go.Lib

set_option maxHeartbeats 2000000 in
set_option maxRecDepth 100000 in
theorem refUint_any (x : Nat) (hx : x < 18446744073709551616) (w : World) :
    Calls Tryz.prog 43 #[.int .u64 (x : Int)] w fun e w' => ∃ v, e = .returned v ∧ Owns w' w.heap.size 5 v (Lib.uvarint x) ∧ w.grownBy w' none := by
  obtain ⟨i0, hi, hz0, hz1, hz2⟩ := info_parts infoU8
  have hlen := Lib.uvarint_length64 hx
  go_enter Tryz.func43, Tryz.ntmps43
  go_wp2
  go_loopw [3, 0] (fun vb vx wr => ∃ (y : Nat) (pre : List UInt8), vx = .int .u64 (y : Int) ∧ y ≤ x ∧ Hid (Lib.uvarint x = pre ++ Lib.uvarint y) ∧ wr.ownsRow w.heap.size 5 1 vb pre.length (Lib.byteCells pre) ∧ Below w.heap.size w wr)
    (fun _ vx _ => (RowKit.intOf vx).toNat)
  case atStart => exact ⟨x, [], rfl, Nat.le_refl _, rfl, World.ownsRow_nil _ _ _ _, Below.refl _ _⟩
  case round =>
    obtain ⟨y, pre, rfl, hy, hsp, hown1, hnx⟩ := hrel
    have hpl : pre.length + (Lib.uvarint y).length ≤ 10 := by
      have h2 := congrArg List.length hsp.out
      rw [List.length_append] at h2
      omega
    have hyp := Lib.uvarint_pos y
    by_cases h128 : 128 ≤ y
    · go_wp2_with (at_builtin; refine wpList_append_own _ rfl _ _ 27 rfl w.heap.size 5 i0 (.int .u8 0) 1 1 Tryz.underlying27 hi hz0 hz1 hz2 rfl (by decide) _ _ _ rfl (hown1.alloc _) ⟨wr.heap.size, 0, none⟩ 1 1 [Value.int .u8 ((y % 128 + 128 : Nat) : Int)] rfl rfl ?c1 ?c2 ?c3 ?c4 ?c5 ?_)
      case c1 =>
        intro j u hj
        match j, hj with
        | 0, hj =>
          simp at hj; subst hj
          simp [Addr.add]
      case c2 => intro u hu; simp at hu; subst hu; rfl
      case c3 => unfold maxLen; omega
      case c4 => omega
      case c5 => have := hnx.size; simp; omega
      intro v' w1 hown' hgrow _
      have hnx1 : Below w.heap.size w w1 := (hnx.alloc (by have := hnx.size; omega) _).grown hgrow (by have := hnx.size; simp; omega) (fun k hk => (hown1.lt k hk).1)
      go_wp2
      go_roundw
      case rel =>
        refine ⟨y / 128, pre ++ [(y % 128 + 128).toUInt8], by go_num, by omega, by show _ = _; rw [hsp.out, Lib.uvarint_big h128]; simp, ?_, hnx1⟩
        have ec : ((y % 128 + 128 : Nat) : Int) = (y : Int) % 128 + 128 := by omega
        rw [Lib.byteCells_snoc pre (by omega), List.length_append, List.length_singleton, ec]
        exact hown'
      case measure => simp [RowKit.intOf]; omega
    · have hsm : Lib.uvarint y = [y.toUInt8] := Lib.uvarint_small (by omega)
      go_wp2_with (at_builtin; refine wpList_append_own _ rfl _ _ 27 rfl w.heap.size 5 i0 (.int .u8 0) 1 1 Tryz.underlying27 hi hz0 hz1 hz2 rfl (by decide) _ _ _ rfl (hown1.alloc _) ⟨wr.heap.size, 0, none⟩ 1 1 [Value.int .u8 (y : Int)] rfl rfl ?c1 ?c2 ?c3 ?c4 ?c5 ?_)
      case c1 =>
        intro j u hj
        match j, hj with
        | 0, hj => simp at hj; subst hj; simp [Addr.add]
      case c2 => intro u hu; simp at hu; subst hu; rfl
      case c3 => unfold maxLen; omega
      case c4 => omega
      case c5 => have := hnx.size; simp; omega
      intro v' w1 hown' hgrow _
      have hnx1 : Below w.heap.size w w1 := (hnx.alloc (by have := hnx.size; omega) _).grown hgrow (by have := hnx.size; simp; omega) (fun k hk => (hown1.lt k hk).1)
      go_wp2
      go_ret
      refine ⟨v', rfl, ?_, belowg hnx1 _⟩
      unfold Owns
      rw [hsp.out, hsm, Lib.byteCells_snoc pre (by omega), List.length_append, List.length_singleton]
      exact hown'

end Go.Proofs.YtpdacbiiaglodaaGreat
