/-
  LAYER 2 (codec): the reference's readers.
-/
import Derived.Test.YtpdacbiiaglodaaGreatQA04
import Derived.Test.YtpdacbiiaglodaaGreatQA03
import Derived.Test.YtpdacbiiaglodaaGreatQA05
import Derived.Test.YtpdacbiiaglodaaGreatQA12
import Derived.Deep.QuietTactic
import Derived.BigQuiet
namespace Go.Proofs.YtpdacbiiaglodaaGreat
set_option maxRecDepth 100000
open Go.RowKit Go.Lib

def uOf : Except Int (Nat × Nat) → Nat × Nat × Int
  | .ok (n, m) => (n, m, 0)
  | .error x => (0, 0, x)
theorem orw {i acc c : Nat} (hi : i ≤ 9) (hacc : acc < 2 ^ (7 * i)) (h9 : i = 9 → c % 128 ≤ 1) :
    bits .or .u64 (acc : Int) (IntKind.u64.wrap ((c : Int) % 128 * 2 ^ (7 * i))) = ((acc + c % 128 * 2 ^ (7 * i) : Nat) : Int) := by
  have hf := (rd_fits hi hacc (Nat.mod_lt c (by decide)) h9).1
  have e0 : (c : Int) % 128 * 2 ^ (7 * i) = ((c % 128 * 2 ^ (7 * i) : Nat) : Int) := by simp
  rw [e0, u64_wrap_id ((c % 128 * 2 ^ (7 * i) : Nat) : Int) (by omega) (by omega)]
  have hacc' : ((acc : Nat) : Int) < 2 ^ (7 * i) := by exact_mod_cast hacc
  have := bits_join_low .u64 64 (by decide) wraps_u64 (7 * i) (acc : Int) ((c % 128 * 2 ^ (7 * i) : Nat) : Int) (by omega) hacc' (by omega) (by omega) (by
    rw [show ((2 : Int) ^ (7 * i)) = ((2 ^ (7 * i) : Nat) : Int) from by simp, ← Int.natCast_emod, Nat.mul_mod_left]; rfl) (by omega)
  rw [this]
  omega
theorem Reads.at {w : World} {a : Option Addr} {l c : Nat} {bs : List UInt8} (h : Reads w (.slice a l c) bs) {i : Nat} (hi : i < bs.length) : ∃ b off, a = some ⟨b, off, none⟩ ∧ w.cell? ⟨b, off + i, none⟩ = some (.int .u8 (bs[i].toNat : Int)) := by
  rcases h with ⟨_, rfl⟩ | ⟨b, off, cap, hv, _, _, hc⟩
  · simp at hi
  · simp only [Value.slice.injEq] at hv
    exact ⟨b, off, hv.1, hc i _ (List.getElem?_eq_getElem hi)⟩
theorem uRes_eq (bs : List UInt8) : uRes bs = uOf (rd 0 0 bs) := by unfold uRes uOf; rfl

theorem uRes_lt {bs : List UInt8} {n m : Nat} {x : Int} (h : uRes bs = (n, m, x)) : n < 18446744073709551616 := by
  rcases uRes_cases h with ⟨_, h⟩ | ⟨_, rfl, _⟩
  · exact (rd_lt bs 0 0 n m (by omega) (by decide) h).1
  · omega

theorem leNat_drop (bs : List UInt8) (k j : Nat) (hk : k ≤ bs.length) (hj : j < k) : leNat ((bs.take k).drop j) = bs[j].toNat + 256 * leNat ((bs.take k).drop (j + 1)) := by
  have hl : j < (bs.take k).length := by simp; omega
  rw [List.drop_eq_getElem_cons hl]
  simp [leNat]
theorem leNat_drop_lt (bs : List UInt8) (k j : Nat) (hk : k ≤ bs.length) (h8 : k ≤ 8) (hj : j < k) : leNat ((bs.take k).drop (j + 1)) < 72057594037927936 := by
  have h := leNat_lt ((bs.take k).drop (j + 1))
  have hl : ((bs.take k).drop (j + 1)).length = k - (j + 1) := by simp; omega
  rw [hl] at h
  have := Nat.pow_le_pow_right (n := 2) (by decide) (show 8 * (k - (j + 1)) ≤ 56 by omega)
  have e : (2 : Nat) ^ 56 = 72057594037927936 := by decide
  omega

end Go.Proofs.YtpdacbiiaglodaaGreat

/-
  LAYER 2 (codec): the reference's readers of fields.
-/
namespace Go.Proofs.YtpdacbiiaglodaaGreat
set_option maxRecDepth 100000
open Go.RowKit Go.Lib

theorem owns_empty (w : World) (e : TypeId) : Owns (w.alloc (.cells #[] e)) w.heap.size e (.slice (some ⟨w.heap.size, 0, none⟩) 0 0) [] :=
  owns_block (bs := []) (Nat.le_refl _) (by unfold World.alloc; simp [byteCells]) (by simp) rfl

/-- b[k:k+n]: what it is, and what it reads as. -/
theorem run_cut_mid (a : Option Addr) (l c k n : Nat) (hl : l ≤ c) (h : k + n ≤ l) : ∃ a' : Option Addr, (∀ w : World, (Instr.slice 27 (.slice a l c) (some (.int .i64 (k : Int))) (some (.int .i64 ((k : Int) + (n : Int)))) none).run Tryz.prog w = .ok (.slice a' n (c - k)) w) ∧
    ∀ (w : World) (bs : List UInt8), Reads w (.slice a l c) bs → Reads w (.slice a' n (c - k)) ((bs.drop k).take n) := by
  have he : Tryz.prog.underlying 27 = some (.slice (Tryz.prog.elem 27)) := by simp [go_sem]
  by_cases hck : c = k
  · subst hck
    obtain rfl : n = 0 := by omega
    refine ⟨a, fun w => ?_, fun w bs hr => ?_⟩
    · rw [run_slice_lh (P := Tryz.prog) w 27 a l c he .i64 .i64 (c : Int) ((c : Int) + ((0 : Nat) : Int)) (by omega) (by omega) (by omega)]
      have hz : (sizeOf (Tryz.prog.elem 27)).run Tryz.prog w = .ok 1 w := by simp [go_sem]
      rw [hz]
      simp [Result.andThen_ok, sliced]
    · simpa using hr.nothing
  · refine ⟨a.map fun x => x.add k, fun w => ?_, fun w bs hr => hr.cut k n (by have := hr.slice.1; omega)⟩
    rw [run_slice_lh (P := Tryz.prog) w 27 a l c he .i64 .i64 (k : Int) ((k : Int) + (n : Int)) (by omega) (by omega) (by omega)]
    have hz : (sizeOf (Tryz.prog.elem 27)).run Tryz.prog w = .ok 1 w := by simp [go_sem]
    rw [hz]
    have e2 : ((k : Int) + (n : Int)).toNat = k + n := by omega
    simp only [Result.andThen_ok, sliced, Int.toNat_natCast, Nat.mul_one, e2]
    rw [if_neg hck]
    congr 2
    omega

end Go.Proofs.YtpdacbiiaglodaaGreat

/-
  LAYER 2 (codec): the reference's reader of lists of fields; Same.
-/
namespace Go.Proofs.YtpdacbiiaglodaaGreat
set_option maxRecDepth 100000
open Go.RowKit Go.Lib

theorem ob_new {x : Value} : x.ownBlock = none ∨ x.ownBlock ≠ none := by cases x.ownBlock <;> simp

/-- b[k:]: what it is, and what it reads as. -/
theorem run_cut_from (a : Option Addr) (l c k : Nat) (hl : l ≤ c) (h : k ≤ l) : ∃ a' : Option Addr, (∀ w : World, (Instr.slice 27 (.slice a l c) (some (.int .i64 (k : Int))) none none).run Tryz.prog w = .ok (.slice a' (l - k) (c - k)) w) ∧
    ∀ (w : World) (bs : List UInt8), Reads w (.slice a l c) bs → Reads w (.slice a' (l - k) (c - k)) (bs.drop k) := by
  by_cases hck : c = k
  · refine ⟨a, fun w => ?_, fun w bs hr => ?_⟩
    · obtain ⟨a', h1, h2, _⟩ := run_cut_lo a l c k h w
      rw [h1, h2 hck]
    · have e1 := hr.slice.1
      have e2 : l - k = 0 := by omega
      have e3 : c - k = 0 := by omega
      rw [e2, e3, List.drop_eq_nil_of_le (by omega)]
      exact hr.nothing
  · refine ⟨a.map fun x => x.add k, fun w => ?_, fun w bs hr => ?_⟩
    · obtain ⟨a', h1, _, h3⟩ := run_cut_lo a l c k h w
      rw [h1, h3 hck]
    · have e1 := hr.slice.1
      have := hr.cut k (l - k) (by omega)
      rwa [List.take_of_length_le (by simp; omega)] at this

end Go.Proofs.YtpdacbiiaglodaaGreat

/-
  LAYER 3 (crc): split, Unframe.
-/
namespace Go.Proofs.YtpdacbiiaglodaaGreat
set_option maxRecDepth 100000
open Go.RowKit Go.Lib

theorem quiet_eqR {P : Program} {f : FuncId} {args : Array Value} {w : World} {n : Nat} {v : Value}
    (h : Calls P f args (w.drewN n) fun e w' => e = .returned v ∧ w.drewN n = w') : Calls P f args (w.drewN n) fun e w'' => e = .returned v ∧ ∃ m, w'' = w.drewN m :=
  h.mono fun _ _ ⟨he, hm⟩ => ⟨he, n, hm.symm⟩

/-- b[k:k+n]: a piece of b, in b's own block. -/
theorem run_cut_in (a : Option Addr) (l c k n : Nat) (hl : l ≤ c) (h : k + n ≤ l) : ∃ a' : Option Addr, (∀ w : World, (Instr.slice 27 (.slice a l c) (some (.int .i64 (k : Int))) (some (.int .i64 ((k : Int) + (n : Int)))) none).run Tryz.prog w = .ok (.slice a' n (c - k)) w) ∧
    (∀ (w : World) (bs : List UInt8), Reads w (.slice a l c) bs → Reads w (.slice a' n (c - k)) ((bs.drop k).take n)) ∧ a'.map (·.block) = a.map (·.block) := by
  have he : Tryz.prog.underlying 27 = some (.slice (Tryz.prog.elem 27)) := by simp [go_sem]
  by_cases hck : c = k
  · subst hck
    obtain rfl : n = 0 := by omega
    refine ⟨a, fun w => ?_, fun w bs hr => ?_, rfl⟩
    · rw [run_slice_lh (P := Tryz.prog) w 27 a l c he .i64 .i64 (c : Int) ((c : Int) + ((0 : Nat) : Int)) (by omega) (by omega) (by omega)]
      have hz : (sizeOf (Tryz.prog.elem 27)).run Tryz.prog w = .ok 1 w := by simp [go_sem]
      rw [hz]
      simp [Result.andThen_ok, sliced]
    · simpa using hr.nothing
  · refine ⟨a.map fun x => x.add k, fun w => ?_, fun w bs hr => hr.cut k n (by have := hr.slice.1; omega), by cases a with | none => rfl | some x => simp only [Option.map_some, Addr.add]; split <;> rfl⟩
    rw [run_slice_lh (P := Tryz.prog) w 27 a l c he .i64 .i64 (k : Int) ((k : Int) + (n : Int)) (by omega) (by omega) (by omega)]
    have hz : (sizeOf (Tryz.prog.elem 27)).run Tryz.prog w = .ok 1 w := by simp [go_sem]
    rw [hz]
    have e2 : ((k : Int) + (n : Int)).toNat = k + n := by omega
    simp only [Result.andThen_ok, sliced, Int.toNat_natCast, Nat.mul_one, e2]
    rw [if_neg hck]
    congr 2
    omega

theorem Off.piece {t : Nat} {a a' : Option Addr} {l l' c c' : Nat} {bs p : List UInt8} (h : Off t (.slice a l c) bs) (e : a'.map (·.block) = a.map (·.block)) (hp : p ≠ [] → bs ≠ []) : Off t (.slice a' l' c') p := by
  by_cases h0 : p = []
  · exact .inl h0
  · rcases h with h | h
    · exact absurd h (hp h0)
    · refine .inr fun h' => h ?_
      cases a <;> cases a' <;> simp_all [Value.ownBlock]

def spErr : Value := .tuple #[.slice none 0 0, .int .u32 0, .int .i64 0, .int .i64 30]

set_option maxHeartbeats 4000000 in
theorem split_none (a : Option Addr) (l c : Nat) (bs : List UInt8) (w : World) (hr : Reads w (.slice a l c) bs) (h : sp bs = none) :
    Calls Tryz.prog 141 #[.slice a l c] w fun e w' => e = .returned spErr ∧ Below w.heap.size w w' := by
  obtain ⟨rfl, hc, hm⟩ := hr.slice
  unfold maxLen at hm
  unfold sp at h
  split at h
  · rename_i x hx
    have hu : uRes bs = (0, 0, x) := by unfold uRes; rw [hx]
    have hx0 : (x != 0) = true := by rcases rd_err _ _ _ _ hx with rfl | rfl <;> rfl
    have hR := ReadUint_any a bs.length c bs 0 0 x w hr hu
    clear hu hx h
    go_enter Tryz.func141, Tryz.ntmps141
    go_wp2_with (go_at_call 172; refine hR.mono ?_; rintro e w1 ⟨rfl, hb1⟩)
    exact bodyPost_ret (v := spErr) (by simp [results, Tryz.results141, go_sem, spErr]) rfl ⟨rfl, hb1⟩
  · rename_i n m hrd
    have hu : uRes bs = (n, m, 0) := by unfold uRes; rw [hrd]
    have hml := (once_uint hrd).2.1
    have hn64 := (once_uint hrd).2.2
    have hR := ReadUint_any a bs.length c bs n m 0 w hr hu
    clear hu hrd
    split at h
    · cases h
    · rename_i hno
      by_cases hn : n ≤ 16777216
      · obtain ⟨a', hcut, hcr⟩ := run_cut_from a bs.length c m hc hml
        by_cases h4 : m + 4 ≤ bs.length
        · have hlt : bs.length < m + 4 + n := by omega
          have hx : xRes (bs.drop m) 4 = (leNat ((bs.drop m).take 4), 4, 0) := by
            unfold xRes
            rw [if_pos (by decide), if_neg (by simp; omega)]
            rfl
          have hF := fun w' (hb : Below w.heap.size w w') => ReadFixed_any a' _ _ _ 4 _ _ _ w' (hcr w' bs (hr.all hb)) hx
          have hg : decide ((bs.length : Int) - ((m : Int) + 4) < (n : Int)) = true := by simp; omega
          clear hcr hx h hno hn64
          generalize leNat ((bs.drop m).take 4) = f at hF
          go_enter Tryz.func141, Tryz.ntmps141
          go_wp2_with (first | (go_at_call 172; refine hR.mono ?_; rintro e w1 ⟨rfl, hb1⟩) | (go_at_call 173; refine (hF _ hb1).mono ?_; rintro e w2 ⟨rfl, hb2⟩))
          exact bodyPost_ret (v := spErr) (by simp [results, Tryz.results141, go_sem, spErr]) rfl ⟨rfl, hb1.trans (hb2.mono hb1.size)⟩
        · have hx : xRes (bs.drop m) 4 = (0, 0, 20) := by
            unfold xRes
            rw [if_pos (by decide), if_pos (by simp; omega)]
          have hF := fun w' (hb : Below w.heap.size w w') => ReadFixed_any a' _ _ _ 4 _ _ _ w' (hcr w' bs (hr.all hb)) hx
          clear hcr hx h hno hn64
          go_enter Tryz.func141, Tryz.ntmps141
          go_wp2_with (first | (go_at_call 172; refine hR.mono ?_; rintro e w1 ⟨rfl, hb1⟩) | (go_at_call 173; refine (hF _ hb1).mono ?_; rintro e w2 ⟨rfl, hb2⟩))
          exact bodyPost_ret (v := spErr) (by simp [results, Tryz.results141, go_sem, spErr]) rfl ⟨rfl, hb1.trans (hb2.mono hb1.size)⟩
      · have hg : decide ((16777216 : Int) < (n : Int)) = true := by simp; omega
        have hg2 : decide (16777216 < n) = true := by simp; omega
        clear hno h
        go_enter Tryz.func141, Tryz.ntmps141
        go_wp2_with (go_at_call 172; refine hR.mono ?_; rintro e w1 ⟨rfl, hb1⟩)
        exact bodyPost_ret (v := spErr) (by simp [results, Tryz.results141, go_sem, spErr]) rfl ⟨rfl, hb1⟩

set_option maxHeartbeats 4000000 in
theorem split_some (a : Option Addr) (l c : Nat) (bs p : List UInt8) (f k : Nat) (w : World) (hr : Reads w (.slice a l c) bs) (h : sp bs = some (p, f, k)) :
    Calls Tryz.prog 141 #[.slice a l c] w fun e w' => ∃ a' c', e = .returned (.tuple #[.slice a' p.length c', .int .u32 ((unmask f : Nat) : Int), .int .i64 (k : Int), .int .i64 0]) ∧ Reads w' (.slice a' p.length c') p ∧ a'.map (·.block) = a.map (·.block) ∧ Below w.heap.size w w' := by
  obtain ⟨rfl, hc, hm⟩ := hr.slice
  unfold maxLen at hm
  obtain ⟨n, m, hrd, h1, h2, h3, h4, rfl, rfl⟩ := sp_some h
  have hu : uRes bs = (p.length, m, 0) := by unfold uRes; rw [hrd]
  have hml := (once_uint hrd).2.1
  have hR := ReadUint_any a bs.length c bs p.length m 0 w hr hu
  obtain ⟨a1, hcut, hcr⟩ := run_cut_from a bs.length c m hc hml
  obtain ⟨a2, hcut2, hcr2, hblk⟩ := run_cut_in a bs.length c (m + 4) p.length hc h2
  have hx : xRes (bs.drop m) 4 = (f, 4, 0) := by
    unfold xRes
    rw [if_pos (by decide), if_neg (by simp; omega), h4]
    rfl
  have hF := fun w' (hb : Below w.heap.size w w') => ReadFixed_any a1 _ _ _ 4 _ _ _ w' (hcr w' bs (hr.all hb)) hx
  have hf : f < 4294967296 := by
    have := leNat_lt ((bs.drop m).take 4)
    rw [show ((bs.drop m).take 4).length = 4 by simp; omega] at this
    rw [h4]; simpa using this
  have hcr2' := fun w' (hb : Below w.heap.size w w') => hcr2 w' bs (hr.all hb)
  rw [← h3] at hcr2'
  have hU := Unmask_any f hf
  have hg : decide ((bs.length : Int) - ((m : Int) + 4) < (p.length : Int)) = false := by simp; omega
  rw [show ((m + 4 : Nat) : Int) = (m : Int) + 4 by omega] at hcut2
  have hk : ((m + 4 + p.length : Nat) : Int) = (m : Int) + 4 + (p.length : Int) := by omega
  rw [hk]
  clear hcr hcr2 hx h h3 h4 hu hrd hk
  generalize unmask f = um at hU ⊢
  go_enter Tryz.func141, Tryz.ntmps141
  go_wp2_with (first | (go_at_call 172; refine hR.mono ?_; rintro e w1 ⟨rfl, hb1⟩) | (go_at_call 173; refine (hF _ hb1).mono ?_; rintro e w2 ⟨rfl, hb2⟩))
  have hb := hb1.trans (hb2.mono hb1.size)
  go_quiet ((go_at_call 174; exact quiet_eqR (hU _)))
  go_wp2
  have hbd : Below w.heap.size w (w2.drewN nq) := ⟨hb.os, hb.tape, hb.output, hb.size, hb.block⟩
  exact bodyPost_ret (v := .tuple #[.slice a2 p.length (c - (m + 4)), .int .u32 (um : Int), .int .i64 ((m : Int) + 4 + (p.length : Int)), .int .i64 0]) (by simp [results, Tryz.results141, go_sem]) rfl ⟨_, _, rfl, hcr2' _ hbd, hblk, hbd⟩

set_option maxHeartbeats 4000000 in
/-- 'copied' of package crc. -/
theorem crcCopied (a : Option Addr) (l c : Nat) (bs : List UInt8) (w : World) (hr : Reads w (.slice a l c) bs) (hl : bs.length ≤ 140737488355328) :
    Calls Tryz.prog 143 #[.slice a l c] w fun e w' => ∃ v, e = .returned v ∧ Owns w' w.heap.size 5 v bs ∧ w.grownBy w' none := by
  obtain ⟨rfl, hc, hm⟩ := hr.slice
  obtain ⟨i0, hi, hz0, hz1, hz2⟩ := info_parts infoU8
  go_enter Tryz.func143, Tryz.ntmps143
  go_wp2_with (at_make; refine wpList_make_full _ rfl _ _ 27 rfl w.heap.size 5 i0 (.int .u8 0) 1 Tryz.underlying27 hi hz0 hz1 .i64 .i64 _ _ bs.length rfl rfl rfl rfl (by rw [hz2]; omega) (by unfold maxLen; omega) (Nat.le_refl _) ?_; intro w0 hown0 hgrow0)
  have hblk : w0.heap[w.heap.size]? = some (.cells (List.replicate bs.length (Value.int .u8 0)).toArray 5 (0, 0)) := by
    obtain ⟨_, ⟨h, _⟩ | ⟨g, cap, cur, h, _, hg, _, _, hs, ht⟩⟩ := hown0
    · simp at h
    · simp only [Value.slice.injEq, Option.some.injEq, Addr.mk.injEq, and_true, true_and] at h
      obtain ⟨rfl, rfl⟩ := h
      rw [hg, ← Array.toArray_toList (xs := cur), ← List.take_of_length_le (l := cur.toList) (i := bs.length * 1) (by simp; omega), ht]
      simp [Value.cells, toList_madeCells_one]
  clear hown0
  obtain ⟨w1, hrun, ho, hg1⟩ := run_copied w0 w.heap.size a c bs (by omega) (hr.new hgrow0) hblk
  clear hblk
  go_simp
  go_wp2
  go_ret
  exact ⟨_, rfl, ho, gnew hgrow0 hg1 (by simp)⟩

/-- What Unframe answers. -/
def UnfPost (w : World) (t : Nat) (dn : Bool) (row : Option Nat) (p : List UInt8) (k : Nat) (x : Int) (e : Ending) (w' : World) : Prop :=
  ∃ v, e = .returned (.tuple #[v, .int .i64 (k : Int), .int .i64 x]) ∧ Owns w' w.heap.size 5 v p ∧ w.grownBy w' row ∧ Tbl w' t dn

theorem unf_cases (bs : List UInt8) : (sp bs = none ∧ unf bs = ([], 0, 30)) ∨ ∃ p f k, sp bs = some (p, f, k) ∧ ((mask (sum p) = f ∧ unf bs = (p, k, 0)) ∨ (mask (sum p) ≠ f ∧ unf bs = ([], 0, 31))) := by
  unfold unf
  rcases h : sp bs with _ | ⟨p, f, k⟩
  · exact .inl ⟨rfl, rfl⟩
  · by_cases hm : mask (sum p) = f
    · exact .inr ⟨p, f, k, rfl, .inl ⟨hm, by simp [hm]⟩⟩
    · exact .inr ⟨p, f, k, rfl, .inr ⟨hm, by simp [hm]⟩⟩

set_option maxHeartbeats 4000000 in
theorem Unframe_with (t : Nat) (dn : Bool) (row : Option Nat) (a : Option Addr) (l c : Nat) (bs p : List UInt8) (k : Nat) (x : Int) (w : World) (hr : Reads w (.slice a l c) bs) (hrow : row = none ∨ (row = some t ∧ Off t (.slice a l c) bs)) (hlim : bs.length ≤ 140737488355328)
    (hB : Calls Tryz.prog 140 #[.pointer (some ⟨t, 0, none⟩), .slice a l c] w fun e w' => e = .returned (.bool true) ∧ w.grownBy w' row ∧ Tbl w' t dn)
    (hS : ∀ (a' : Option Addr) (c' : Nat) (q : List UInt8) (w1 : World), Tbl w1 t dn → Reads w1 (.slice a' q.length c') q → a'.map (·.block) = a.map (·.block) → (q ≠ [] → bs ≠ []) → Calls Tryz.prog 142 #[.pointer (some ⟨t, 0, none⟩), .slice a' q.length c'] w1 fun e w' => e = .returned (.int .u32 ((sum q : Nat) : Int)) ∧ w1.grownBy w' row ∧ Tbl w' t dn)
    (h : unf bs = (p, k, x)) :
    Calls Tryz.prog 115 #[.pointer (some ⟨t, 0, none⟩), .slice a l c] w (UnfPost w t dn row p k x) := by
  have hro : ∀ w2, w.grownBy w2 row → Reads w2 (.slice a l c) bs := by
    intro w2 hg
    rcases hrow with rfl | ⟨rfl, ho⟩
    · exact hr.new hg
    · exact hr.off ho hg
  have hrt : ∀ r, row = some r → r = t := by rcases hrow with rfl | ⟨rfl, ho⟩ <;> simp
  rcases unf_cases bs with ⟨hsp, hu⟩ | ⟨q, f, k', hsp, hu⟩
  · rw [hu] at h
    simp only [Prod.mk.injEq] at h
    obtain ⟨rfl, rfl, rfl⟩ := h
    have hN := fun w1 hr => split_none a l c bs w1 hr hsp
    unfold spErr at hN
    clear hu hsp
    go_enter Tryz.func115, Tryz.ntmps115
    go_wp2_with (first | (go_at_call 140; refine hB.mono ?_; rintro e w1 ⟨rfl, hg1, hT1⟩) | (go_at_call 141; refine (hN w1 (hro _ hg1)).mono ?_; rintro e w2 ⟨rfl, hb2⟩))
    go_ret3
    exact ⟨_, rfl, owns_nil _ _ _, gnew hg1 (belowg hb2 none) (by simp), hT1.new (belowg hb2 none)⟩
  · have hN := fun w1 hr => split_some a l c bs q f k' w1 hr hsp
    have hne : q ≠ [] → bs ≠ [] := by
      obtain ⟨n, m, hrd, h1, h2, h3, h4, h5, h6⟩ := sp_some hsp
      rintro hq rfl
      exact hq (by rw [h3]; simp)
    have hql : q.length ≤ 140737488355328 := by
      obtain ⟨n, m, hrd, h1, h2, h3, h4, h5, h6⟩ := sp_some hsp
      omega
    have hf : f < 4294967296 := by
      obtain ⟨n, m, hrd, h1, h2, h3, h4, h5, h6⟩ := sp_some hsp
      have := leNat_lt ((bs.drop m).take 4)
      rw [show ((bs.drop m).take 4).length = 4 by simp; omega] at this
      rw [h4]; simpa using this
    have hro2 : ∀ (w2 w3 : World) (a' : Option Addr) (c' : Nat), Reads w2 (.slice a' q.length c') q → a'.map (·.block) = a.map (·.block) → w2.grownBy w3 row → Reads w3 (.slice a' q.length c') q := by
      intro w2 w3 a' c' hq he hg
      rcases hrow with rfl | ⟨rfl, ho⟩
      · exact hq.new hg
      · exact hq.off (ho.piece he hne) hg
    have hSq := fun a' c' w1 hT hr he => hS a' c' q w1 hT hr he hne
    clear hS hrow hlim hsp
    have hsl := ext_lt 0 q
    rw [show ext 0 q = sum q from rfl] at hsl
    rcases hu with ⟨hm, hu⟩ | ⟨hm, hu⟩
    · rw [hu] at h
      simp only [Prod.mk.injEq] at h
      obtain ⟨rfl, rfl, rfl⟩ := h
      have hum : unmask f = sum q := by rw [← hm, unmask_mask hsl]
      rw [hum] at hN
      clear hu hm hum hne
      generalize sum q = sm at hN hSq hsl
      have hcp := fun a' c' w1 hr => crcCopied a' q.length c' q w1 hr hql
      go_enter Tryz.func115, Tryz.ntmps115
      go_wp2_with (first | (go_at_call 140; refine hB.mono ?_; rintro e w1 ⟨rfl, hg1, hT1⟩) | (go_at_call 141; refine (hN w1 (hro _ hg1)).mono ?_; rintro e w2 ⟨a', c', rfl, hr2, he, hb2⟩; have hT2 := hT1.new (belowg hb2 none)) | (go_at_call 142; refine (hSq a' c' w2 hT2 hr2 he).mono ?_; rintro e w3 ⟨rfl, hg3, hT3⟩) | (go_at_call 143; refine (hcp a' c' w3 (hro2 _ _ _ _ hr2 he hg3)).mono ?_; rintro e w4 ⟨v4, rfl, ho4, hg4⟩))
      go_ret3
      exact ⟨_, rfl, ho4.mono (Nat.le_trans hg1.size (Nat.le_trans hb2.size hg3.size)), gnew (gnew (gnew hg1 (belowg hb2 none) (by simp)) hg3 (fun r e => .inr e)) hg4 (by simp), hT3.new hg4⟩
    · rw [hu] at h
      simp only [Prod.mk.injEq] at h
      obtain ⟨rfl, rfl, rfl⟩ := h
      have hum : ((sum q : Int) != (unmask f : Int)) = true := by
        simp only [bne_iff_ne, ne_eq, Int.natCast_inj]
        intro e
        exact hm (by rw [e, mask_unmask hf])
      clear hu hm hne
      generalize sum q = sm at hSq hsl hum
      generalize unmask f = um at hN hum
      go_enter Tryz.func115, Tryz.ntmps115
      go_wp2_with (first | (go_at_call 140; refine hB.mono ?_; rintro e w1 ⟨rfl, hg1, hT1⟩) | (go_at_call 141; refine (hN w1 (hro _ hg1)).mono ?_; rintro e w2 ⟨a', c', rfl, hr2, he, hb2⟩; have hT2 := hT1.new (belowg hb2 none)) | (go_at_call 142; refine (hSq a' c' w2 hT2 hr2 he).mono ?_; rintro e w3 ⟨rfl, hg3, hT3⟩))
      go_ret3
      exact ⟨_, rfl, owns_nil _ _ _, gnew (gnew hg1 (belowg hb2 none) (by simp)) hg3 (fun r e => .inr e), hT3⟩

theorem Unframe_any (t : Nat) (dn : Bool) (a : Option Addr) (l c : Nat) (bs p : List UInt8) (k : Nat) (x : Int) (w : World) (hT : Tbl w t dn) (hr : Reads w (.slice a l c) bs) (ho : Off t (.slice a l c) bs) (hlim : bs.length ≤ 140737488355328) (h : unf bs = (p, k, x)) :
    Calls Tryz.prog 115 #[.pointer (some ⟨t, 0, none⟩), .slice a l c] w (UnfPost w t (dn || decide (0 < bs.length)) (some t) p k x) := by
  obtain ⟨rfl, hc, hm⟩ := hr.slice
  refine Unframe_with t _ (some t) a _ c bs p k x w hr (.inr ⟨rfl, ho⟩) hlim (begin_any t dn a bs.length c w hT) (fun a' c' q w1 hT1 hr1 he hne => ?_) h
  refine (Sum_any t _ a' q.length c' q w1 hT1 hr1 (ho.piece he hne)).mono fun e w' ⟨h1, h2, h3⟩ => ⟨h1, h2, ?_⟩
  by_cases hq : q = []
  · subst hq; simpa using h3
  · have : 0 < bs.length := List.length_pos_iff.2 (hne hq)
    simpa [this] using h3
theorem Unframe_done (t : Nat) (a : Option Addr) (l c : Nat) (bs p : List UInt8) (k : Nat) (x : Int) (w : World) (hT : Tbl w t true) (hr : Reads w (.slice a l c) bs) (hlim : bs.length ≤ 140737488355328) (h : unf bs = (p, k, x)) :
    Calls Tryz.prog 115 #[.pointer (some ⟨t, 0, none⟩), .slice a l c] w (UnfPost w t true none p k x) :=
  Unframe_with t true none a l c bs p k x w hr (.inl rfl) hlim ((begin_done t a l c w hT).mono fun _ _ ⟨h1, h2⟩ => ⟨h1, h2 ▸ World.grownBy.refl _ _, h2 ▸ hT⟩) (fun a' c' q w1 hT1 hr1 _ _ => Sum_done t a' q.length c' q w1 hT1 hr1) h
theorem Unframe_none (p : Value) (v : Value) (w : World) (hm : Calls Tryz.prog 170 #[p] w fun e w' => e = .returned (.bool false) ∧ w = w') :
    Calls Tryz.prog 115 #[p, v] w fun e w' => e = .returned (.tuple #[.slice none 0 0, .int .i64 0, .int .i64 32]) ∧ w = w' := by
  go_enter Tryz.func115, Tryz.ntmps115
  go_wp2_with (go_at_call 140; refine (begin_none p v w hm).mono ?_; rintro e w' ⟨rfl, rfl⟩)
  go_ret3
  exact ⟨rfl, rfl⟩
end Go.Proofs.YtpdacbiiaglodaaGreat
