/-
  LAYER 2 (codec): the reference's reader of lists of fields; Same.
-/
import Derived.Test.YtpdacbiiaglodaaGreatQG15
import Derived.Deep.QuietTactic
import Derived.BigQuiet
import Derived.Test.YtpdacbiiaglodaaGreatQG13
import Derived.Test.YtpdacbiiaglodaaGreatQG04
import Derived.Stop.RegionWithIn
namespace Go.Proofs.YtpdacbiiaglodaaGreat
set_option maxRecDepth 100000
open Go.RowKit Go.Lib

theorem ob_new {x : Value} : x.ownBlock = none ∨ x.ownBlock ≠ none := by cases x.ownBlock <;> simp

/-- b[k:]: what it is, and what it reads as. -/
theorem run_cut_from (a : Option Addr) (l c k : Nat) (hl : l ≤ c) (h : k ≤ l) : ∃ a' : Option Addr, (∀ w : World, (Instr.slice 27 (.slice a l c) (some (.int .i64 (k : Int))) none none).run Tryz.prog w = .ok (.slice a' (l - k) (c - k)) w) ∧
    ∀ (w : World) (bs : List UInt8), Reads w (.slice a l c) bs → Reads w (.slice a' (l - k) (c - k)) (bs.drop k) := by
  by_cases hck : c = k
  · refine ⟨a, fun w => ?_, fun w bs hr => ?_⟩
    · obtain ⟨a', h1, h2, _⟩ := run_cut_lo a l c k h w
      rw [h1, h2 hck]
    · have e1 := hr.slice.1
      have e2 : l - k = 0 := by omega
      have e3 : c - k = 0 := by omega
      rw [e2, e3, List.drop_eq_nil_of_le (by omega)]
      exact hr.nothing
  · refine ⟨a.map fun x => x.add k, fun w => ?_, fun w bs hr => ?_⟩
    · obtain ⟨a', h1, _, h3⟩ := run_cut_lo a l c k h w
      rw [h1, h3 hck]
    · have e1 := hr.slice.1
      have := hr.cut k (l - k) (by omega)
      rwa [List.take_of_length_le (by simp; omega)] at this

end Go.Proofs.YtpdacbiiaglodaaGreat

/-
  LAYER 3 (crc): split, Unframe.
-/
namespace Go.Proofs.YtpdacbiiaglodaaGreat
set_option maxRecDepth 100000
open Go.RowKit Go.Lib

theorem quiet_eqR {P : Program} {f : FuncId} {args : Array Value} {w : World} {n : Nat} {v : Value}
    (h : Calls P f args (w.drewN n) fun e w' => e = .returned v ∧ w.drewN n = w') : Calls P f args (w.drewN n) fun e w'' => e = .returned v ∧ ∃ m, w'' = w.drewN m :=
  h.mono fun _ _ ⟨he, hm⟩ => ⟨he, n, hm.symm⟩

/-- b[k:k+n]: a piece of b, in b's own block. -/
theorem run_cut_in (a : Option Addr) (l c k n : Nat) (hl : l ≤ c) (h : k + n ≤ l) : ∃ a' : Option Addr, (∀ w : World, (Instr.slice 27 (.slice a l c) (some (.int .i64 (k : Int))) (some (.int .i64 ((k : Int) + (n : Int)))) none).run Tryz.prog w = .ok (.slice a' n (c - k)) w) ∧
    (∀ (w : World) (bs : List UInt8), Reads w (.slice a l c) bs → Reads w (.slice a' n (c - k)) ((bs.drop k).take n)) ∧ a'.map (·.block) = a.map (·.block) := by
  have he : Tryz.prog.underlying 27 = some (.slice (Tryz.prog.elem 27)) := by simp [go_sem]
  by_cases hck : c = k
  · subst hck
    obtain rfl : n = 0 := by omega
    refine ⟨a, fun w => ?_, fun w bs hr => ?_, rfl⟩
    · rw [run_slice_lh (P := Tryz.prog) w 27 a l c he .i64 .i64 (c : Int) ((c : Int) + ((0 : Nat) : Int)) (by omega) (by omega) (by omega)]
      have hz : (sizeOf (Tryz.prog.elem 27)).run Tryz.prog w = .ok 1 w := by simp [go_sem]
      rw [hz]
      simp [Result.andThen_ok, sliced]
    · simpa using hr.nothing
  · refine ⟨a.map fun x => x.add k, fun w => ?_, fun w bs hr => hr.cut k n (by have := hr.slice.1; omega), by cases a with | none => rfl | some x => simp only [Option.map_some, Addr.add]; split <;> rfl⟩
    rw [run_slice_lh (P := Tryz.prog) w 27 a l c he .i64 .i64 (k : Int) ((k : Int) + (n : Int)) (by omega) (by omega) (by omega)]
    have hz : (sizeOf (Tryz.prog.elem 27)).run Tryz.prog w = .ok 1 w := by simp [go_sem]
    rw [hz]
    have e2 : ((k : Int) + (n : Int)).toNat = k + n := by omega
    simp only [Result.andThen_ok, sliced, Int.toNat_natCast, Nat.mul_one, e2]
    rw [if_neg hck]
    congr 2
    omega

theorem Off.piece {t : Nat} {a a' : Option Addr} {l l' c c' : Nat} {bs p : List UInt8} (h : Off t (.slice a l c) bs) (e : a'.map (·.block) = a.map (·.block)) (hp : p ≠ [] → bs ≠ []) : Off t (.slice a' l' c') p := by
  by_cases h0 : p = []
  · exact .inl h0
  · rcases h with h | h
    · exact absurd h (hp h0)
    · refine .inr fun h' => h ?_
      cases a <;> cases a' <;> simp_all [Value.ownBlock]

def spErr : Value := .tuple #[.slice none 0 0, .int .u32 0, .int .i64 0, .int .i64 30]

set_option maxHeartbeats 4000000 in
theorem split_none (a : Option Addr) (l c : Nat) (bs : List UInt8) (w : World) (hr : Reads w (.slice a l c) bs) (h : sp bs = none) :
    Calls Tryz.prog 141 #[.slice a l c] w fun e w' => e = .returned spErr ∧ Below w.heap.size w w' := by
  obtain ⟨rfl, hc, hm⟩ := hr.slice
  unfold maxLen at hm
  unfold sp at h
  split at h
  · rename_i x hx
    have hu : uRes bs = (0, 0, x) := by unfold uRes; rw [hx]
    have hx0 : (x != 0) = true := by rcases rd_err _ _ _ _ hx with rfl | rfl <;> rfl
    have hR := ReadUint_any a bs.length c bs 0 0 x w hr hu
    clear hu hx h
    go_enter Tryz.func141, Tryz.ntmps141
    go_wp2_with (go_at_call 172; refine hR.mono ?_; rintro e w1 ⟨rfl, hb1⟩)
    exact bodyPost_ret (v := spErr) (by simp [results, Tryz.results141, go_sem, spErr]) rfl ⟨rfl, hb1⟩
  · rename_i n m hrd
    have hu : uRes bs = (n, m, 0) := by unfold uRes; rw [hrd]
    have hml := (once_uint hrd).2.1
    have hn64 := (once_uint hrd).2.2
    have hR := ReadUint_any a bs.length c bs n m 0 w hr hu
    clear hu hrd
    split at h
    · cases h
    · rename_i hno
      by_cases hn : n ≤ 16777216
      · obtain ⟨a', hcut, hcr⟩ := run_cut_from a bs.length c m hc hml
        by_cases h4 : m + 4 ≤ bs.length
        · have hlt : bs.length < m + 4 + n := by omega
          have hx : xRes (bs.drop m) 4 = (leNat ((bs.drop m).take 4), 4, 0) := by
            unfold xRes
            rw [if_pos (by decide), if_neg (by simp; omega)]
            rfl
          have hF := fun w' (hb : Below w.heap.size w w') => ReadFixed_any a' _ _ _ 4 _ _ _ w' (hcr w' bs (hr.all hb)) hx
          have hg : decide ((bs.length : Int) - ((m : Int) + 4) < (n : Int)) = true := by simp; omega
          clear hcr hx h hno hn64
          generalize leNat ((bs.drop m).take 4) = f at hF
          go_enter Tryz.func141, Tryz.ntmps141
          go_wp2_with (first | (go_at_call 172; refine hR.mono ?_; rintro e w1 ⟨rfl, hb1⟩) | (go_at_call 173; refine (hF _ hb1).mono ?_; rintro e w2 ⟨rfl, hb2⟩))
          exact bodyPost_ret (v := spErr) (by simp [results, Tryz.results141, go_sem, spErr]) rfl ⟨rfl, hb1.trans (hb2.mono hb1.size)⟩
        · have hx : xRes (bs.drop m) 4 = (0, 0, 20) := by
            unfold xRes
            rw [if_pos (by decide), if_pos (by simp; omega)]
          have hF := fun w' (hb : Below w.heap.size w w') => ReadFixed_any a' _ _ _ 4 _ _ _ w' (hcr w' bs (hr.all hb)) hx
          clear hcr hx h hno hn64
          go_enter Tryz.func141, Tryz.ntmps141
          go_wp2_with (first | (go_at_call 172; refine hR.mono ?_; rintro e w1 ⟨rfl, hb1⟩) | (go_at_call 173; refine (hF _ hb1).mono ?_; rintro e w2 ⟨rfl, hb2⟩))
          exact bodyPost_ret (v := spErr) (by simp [results, Tryz.results141, go_sem, spErr]) rfl ⟨rfl, hb1.trans (hb2.mono hb1.size)⟩
      · have hg : decide ((16777216 : Int) < (n : Int)) = true := by simp; omega
        have hg2 : decide (16777216 < n) = true := by simp; omega
        clear hno h
        go_enter Tryz.func141, Tryz.ntmps141
        go_wp2_with (go_at_call 172; refine hR.mono ?_; rintro e w1 ⟨rfl, hb1⟩)
        exact bodyPost_ret (v := spErr) (by simp [results, Tryz.results141, go_sem, spErr]) rfl ⟨rfl, hb1⟩

set_option maxHeartbeats 4000000 in
theorem split_some (a : Option Addr) (l c : Nat) (bs p : List UInt8) (f k : Nat) (w : World) (hr : Reads w (.slice a l c) bs) (h : sp bs = some (p, f, k)) :
    Calls Tryz.prog 141 #[.slice a l c] w fun e w' => ∃ a' c', e = .returned (.tuple #[.slice a' p.length c', .int .u32 ((unmask f : Nat) : Int), .int .i64 (k : Int), .int .i64 0]) ∧ Reads w' (.slice a' p.length c') p ∧ a'.map (·.block) = a.map (·.block) ∧ Below w.heap.size w w' := by
  obtain ⟨rfl, hc, hm⟩ := hr.slice
  unfold maxLen at hm
  obtain ⟨n, m, hrd, h1, h2, h3, h4, rfl, rfl⟩ := sp_some h
  have hu : uRes bs = (p.length, m, 0) := by unfold uRes; rw [hrd]
  have hml := (once_uint hrd).2.1
  have hR := ReadUint_any a bs.length c bs p.length m 0 w hr hu
  obtain ⟨a1, hcut, hcr⟩ := run_cut_from a bs.length c m hc hml
  obtain ⟨a2, hcut2, hcr2, hblk⟩ := run_cut_in a bs.length c (m + 4) p.length hc h2
  have hx : xRes (bs.drop m) 4 = (f, 4, 0) := by
    unfold xRes
    rw [if_pos (by decide), if_neg (by simp; omega), h4]
    rfl
  have hF := fun w' (hb : Below w.heap.size w w') => ReadFixed_any a1 _ _ _ 4 _ _ _ w' (hcr w' bs (hr.all hb)) hx
  have hf : f < 4294967296 := by
    have := leNat_lt ((bs.drop m).take 4)
    rw [show ((bs.drop m).take 4).length = 4 by simp; omega] at this
    rw [h4]; simpa using this
  have hcr2' := fun w' (hb : Below w.heap.size w w') => hcr2 w' bs (hr.all hb)
  rw [← h3] at hcr2'
  have hU := Unmask_any f hf
  have hg : decide ((bs.length : Int) - ((m : Int) + 4) < (p.length : Int)) = false := by simp; omega
  rw [show ((m + 4 : Nat) : Int) = (m : Int) + 4 by omega] at hcut2
  have hk : ((m + 4 + p.length : Nat) : Int) = (m : Int) + 4 + (p.length : Int) := by omega
  rw [hk]
  clear hcr hcr2 hx h h3 h4 hu hrd hk
  generalize unmask f = um at hU ⊢
  go_enter Tryz.func141, Tryz.ntmps141
  go_wp2_with (first | (go_at_call 172; refine hR.mono ?_; rintro e w1 ⟨rfl, hb1⟩) | (go_at_call 173; refine (hF _ hb1).mono ?_; rintro e w2 ⟨rfl, hb2⟩))
  have hb := hb1.trans (hb2.mono hb1.size)
  go_quiet ((go_at_call 174; exact quiet_eqR (hU _)))
  go_wp2
  have hbd : Below w.heap.size w (w2.drewN nq) := ⟨hb.os, hb.tape, hb.output, hb.size, hb.block⟩
  exact bodyPost_ret (v := .tuple #[.slice a2 p.length (c - (m + 4)), .int .u32 (um : Int), .int .i64 ((m : Int) + 4 + (p.length : Int)), .int .i64 0]) (by simp [results, Tryz.results141, go_sem]) rfl ⟨_, _, rfl, hcr2' _ hbd, hblk, hbd⟩

set_option maxHeartbeats 4000000 in
/-- 'copied' of package crc. -/
theorem crcCopied (a : Option Addr) (l c : Nat) (bs : List UInt8) (w : World) (hr : Reads w (.slice a l c) bs) (hl : bs.length ≤ 140737488355328) :
    Calls Tryz.prog 143 #[.slice a l c] w fun e w' => ∃ v, e = .returned v ∧ Owns w' w.heap.size 5 v bs ∧ w.grownBy w' none := by
  obtain ⟨rfl, hc, hm⟩ := hr.slice
  obtain ⟨i0, hi, hz0, hz1, hz2⟩ := info_parts infoU8
  go_enter Tryz.func143, Tryz.ntmps143
  go_wp2_with (at_make; refine wpList_make_full _ rfl _ _ 27 rfl w.heap.size 5 i0 (.int .u8 0) 1 Tryz.underlying27 hi hz0 hz1 .i64 .i64 _ _ bs.length rfl rfl rfl rfl (by rw [hz2]; omega) (by unfold maxLen; omega) (Nat.le_refl _) ?_; intro w0 hown0 hgrow0)
  have hblk : w0.heap[w.heap.size]? = some (.cells (List.replicate bs.length (Value.int .u8 0)).toArray 5 (0, 0)) := by
    obtain ⟨_, ⟨h, _⟩ | ⟨g, cap, cur, h, _, hg, _, _, hs, ht⟩⟩ := hown0
    · simp at h
    · simp only [Value.slice.injEq, Option.some.injEq, Addr.mk.injEq, and_true, true_and] at h
      obtain ⟨rfl, rfl⟩ := h
      rw [hg, ← Array.toArray_toList (xs := cur), ← List.take_of_length_le (l := cur.toList) (i := bs.length * 1) (by simp; omega), ht]
      simp [Value.cells, toList_madeCells_one]
  clear hown0
  obtain ⟨w1, hrun, ho, hg1⟩ := run_copied w0 w.heap.size a c bs (by omega) (hr.new hgrow0) hblk
  clear hblk
  go_simp
  go_wp2
  go_ret
  exact ⟨_, rfl, ho, gnew hgrow0 hg1 (by simp)⟩

/-- What Unframe answers. -/
def UnfPost (w : World) (t : Nat) (dn : Bool) (row : Option Nat) (p : List UInt8) (k : Nat) (x : Int) (e : Ending) (w' : World) : Prop :=
  ∃ v, e = .returned (.tuple #[v, .int .i64 (k : Int), .int .i64 x]) ∧ Owns w' w.heap.size 5 v p ∧ w.grownBy w' row ∧ Tbl w' t dn

theorem unf_cases (bs : List UInt8) : (sp bs = none ∧ unf bs = ([], 0, 30)) ∨ ∃ p f k, sp bs = some (p, f, k) ∧ ((mask (sum p) = f ∧ unf bs = (p, k, 0)) ∨ (mask (sum p) ≠ f ∧ unf bs = ([], 0, 31))) := by
  unfold unf
  rcases h : sp bs with _ | ⟨p, f, k⟩
  · exact .inl ⟨rfl, rfl⟩
  · by_cases hm : mask (sum p) = f
    · exact .inr ⟨p, f, k, rfl, .inl ⟨hm, by simp [hm]⟩⟩
    · exact .inr ⟨p, f, k, rfl, .inr ⟨hm, by simp [hm]⟩⟩

set_option maxHeartbeats 4000000 in
theorem Unframe_with (t : Nat) (dn : Bool) (row : Option Nat) (a : Option Addr) (l c : Nat) (bs p : List UInt8) (k : Nat) (x : Int) (w : World) (hr : Reads w (.slice a l c) bs) (hrow : row = none ∨ (row = some t ∧ Off t (.slice a l c) bs)) (hlim : bs.length ≤ 140737488355328)
    (hB : Calls Tryz.prog 140 #[.pointer (some ⟨t, 0, none⟩), .slice a l c] w fun e w' => e = .returned (.bool true) ∧ w.grownBy w' row ∧ Tbl w' t dn)
    (hS : ∀ (a' : Option Addr) (c' : Nat) (q : List UInt8) (w1 : World), Tbl w1 t dn → Reads w1 (.slice a' q.length c') q → a'.map (·.block) = a.map (·.block) → (q ≠ [] → bs ≠ []) → Calls Tryz.prog 142 #[.pointer (some ⟨t, 0, none⟩), .slice a' q.length c'] w1 fun e w' => e = .returned (.int .u32 ((sum q : Nat) : Int)) ∧ w1.grownBy w' row ∧ Tbl w' t dn)
    (h : unf bs = (p, k, x)) :
    Calls Tryz.prog 115 #[.pointer (some ⟨t, 0, none⟩), .slice a l c] w (UnfPost w t dn row p k x) := by
  have hro : ∀ w2, w.grownBy w2 row → Reads w2 (.slice a l c) bs := by
    intro w2 hg
    rcases hrow with rfl | ⟨rfl, ho⟩
    · exact hr.new hg
    · exact hr.off ho hg
  have hrt : ∀ r, row = some r → r = t := by rcases hrow with rfl | ⟨rfl, ho⟩ <;> simp
  rcases unf_cases bs with ⟨hsp, hu⟩ | ⟨q, f, k', hsp, hu⟩
  · rw [hu] at h
    simp only [Prod.mk.injEq] at h
    obtain ⟨rfl, rfl, rfl⟩ := h
    have hN := fun w1 hr => split_none a l c bs w1 hr hsp
    unfold spErr at hN
    clear hu hsp
    go_enter Tryz.func115, Tryz.ntmps115
    go_wp2_with (first | (go_at_call 140; refine hB.mono ?_; rintro e w1 ⟨rfl, hg1, hT1⟩) | (go_at_call 141; refine (hN w1 (hro _ hg1)).mono ?_; rintro e w2 ⟨rfl, hb2⟩))
    go_ret3
    exact ⟨_, rfl, owns_nil _ _ _, gnew hg1 (belowg hb2 none) (by simp), hT1.new (belowg hb2 none)⟩
  · have hN := fun w1 hr => split_some a l c bs q f k' w1 hr hsp
    have hne : q ≠ [] → bs ≠ [] := by
      obtain ⟨n, m, hrd, h1, h2, h3, h4, h5, h6⟩ := sp_some hsp
      rintro hq rfl
      exact hq (by rw [h3]; simp)
    have hql : q.length ≤ 140737488355328 := by
      obtain ⟨n, m, hrd, h1, h2, h3, h4, h5, h6⟩ := sp_some hsp
      omega
    have hf : f < 4294967296 := by
      obtain ⟨n, m, hrd, h1, h2, h3, h4, h5, h6⟩ := sp_some hsp
      have := leNat_lt ((bs.drop m).take 4)
      rw [show ((bs.drop m).take 4).length = 4 by simp; omega] at this
      rw [h4]; simpa using this
    have hro2 : ∀ (w2 w3 : World) (a' : Option Addr) (c' : Nat), Reads w2 (.slice a' q.length c') q → a'.map (·.block) = a.map (·.block) → w2.grownBy w3 row → Reads w3 (.slice a' q.length c') q := by
      intro w2 w3 a' c' hq he hg
      rcases hrow with rfl | ⟨rfl, ho⟩
      · exact hq.new hg
      · exact hq.off (ho.piece he hne) hg
    have hSq := fun a' c' w1 hT hr he => hS a' c' q w1 hT hr he hne
    clear hS hrow hlim hsp
    have hsl := ext_lt 0 q
    rw [show ext 0 q = sum q from rfl] at hsl
    rcases hu with ⟨hm, hu⟩ | ⟨hm, hu⟩
    · rw [hu] at h
      simp only [Prod.mk.injEq] at h
      obtain ⟨rfl, rfl, rfl⟩ := h
      have hum : unmask f = sum q := by rw [← hm, unmask_mask hsl]
      rw [hum] at hN
      clear hu hm hum hne
      generalize sum q = sm at hN hSq hsl
      have hcp := fun a' c' w1 hr => crcCopied a' q.length c' q w1 hr hql
      go_enter Tryz.func115, Tryz.ntmps115
      go_wp2_with (first | (go_at_call 140; refine hB.mono ?_; rintro e w1 ⟨rfl, hg1, hT1⟩) | (go_at_call 141; refine (hN w1 (hro _ hg1)).mono ?_; rintro e w2 ⟨a', c', rfl, hr2, he, hb2⟩; have hT2 := hT1.new (belowg hb2 none)) | (go_at_call 142; refine (hSq a' c' w2 hT2 hr2 he).mono ?_; rintro e w3 ⟨rfl, hg3, hT3⟩) | (go_at_call 143; refine (hcp a' c' w3 (hro2 _ _ _ _ hr2 he hg3)).mono ?_; rintro e w4 ⟨v4, rfl, ho4, hg4⟩))
      go_ret3
      exact ⟨_, rfl, ho4.mono (Nat.le_trans hg1.size (Nat.le_trans hb2.size hg3.size)), gnew (gnew (gnew hg1 (belowg hb2 none) (by simp)) hg3 (fun r e => .inr e)) hg4 (by simp), hT3.new hg4⟩
    · rw [hu] at h
      simp only [Prod.mk.injEq] at h
      obtain ⟨rfl, rfl, rfl⟩ := h
      have hum : ((sum q : Int) != (unmask f : Int)) = true := by
        simp only [bne_iff_ne, ne_eq, Int.natCast_inj]
        intro e
        exact hm (by rw [e, mask_unmask hf])
      clear hu hm hne
      generalize sum q = sm at hSq hsl hum
      generalize unmask f = um at hN hum
      go_enter Tryz.func115, Tryz.ntmps115
      go_wp2_with (first | (go_at_call 140; refine hB.mono ?_; rintro e w1 ⟨rfl, hg1, hT1⟩) | (go_at_call 141; refine (hN w1 (hro _ hg1)).mono ?_; rintro e w2 ⟨a', c', rfl, hr2, he, hb2⟩; have hT2 := hT1.new (belowg hb2 none)) | (go_at_call 142; refine (hSq a' c' w2 hT2 hr2 he).mono ?_; rintro e w3 ⟨rfl, hg3, hT3⟩))
      go_ret3
      exact ⟨_, rfl, owns_nil _ _ _, gnew (gnew hg1 (belowg hb2 none) (by simp)) hg3 (fun r e => .inr e), hT3⟩

theorem Unframe_any (t : Nat) (dn : Bool) (a : Option Addr) (l c : Nat) (bs p : List UInt8) (k : Nat) (x : Int) (w : World) (hT : Tbl w t dn) (hr : Reads w (.slice a l c) bs) (ho : Off t (.slice a l c) bs) (hlim : bs.length ≤ 140737488355328) (h : unf bs = (p, k, x)) :
    Calls Tryz.prog 115 #[.pointer (some ⟨t, 0, none⟩), .slice a l c] w (UnfPost w t (dn || decide (0 < bs.length)) (some t) p k x) := by
  obtain ⟨rfl, hc, hm⟩ := hr.slice
  refine Unframe_with t _ (some t) a _ c bs p k x w hr (.inr ⟨rfl, ho⟩) hlim (begin_any t dn a bs.length c w hT) (fun a' c' q w1 hT1 hr1 he hne => ?_) h
  refine (Sum_any t _ a' q.length c' q w1 hT1 hr1 (ho.piece he hne)).mono fun e w' ⟨h1, h2, h3⟩ => ⟨h1, h2, ?_⟩
  by_cases hq : q = []
  · subst hq; simpa using h3
  · have : 0 < bs.length := List.length_pos_iff.2 (hne hq)
    simpa [this] using h3
theorem Unframe_done (t : Nat) (a : Option Addr) (l c : Nat) (bs p : List UInt8) (k : Nat) (x : Int) (w : World) (hT : Tbl w t true) (hr : Reads w (.slice a l c) bs) (hlim : bs.length ≤ 140737488355328) (h : unf bs = (p, k, x)) :
    Calls Tryz.prog 115 #[.pointer (some ⟨t, 0, none⟩), .slice a l c] w (UnfPost w t true none p k x) :=
  Unframe_with t true none a l c bs p k x w hr (.inl rfl) hlim ((begin_done t a l c w hT).mono fun _ _ ⟨h1, h2⟩ => ⟨h1, h2 ▸ World.grownBy.refl _ _, h2 ▸ hT⟩) (fun a' c' q w1 hT1 hr1 _ _ => Sum_done t a' q.length c' q w1 hT1 hr1) h
theorem Unframe_none (p : Value) (v : Value) (w : World) (hm : Calls Tryz.prog 170 #[p] w fun e w' => e = .returned (.bool false) ∧ w = w') :
    Calls Tryz.prog 115 #[p, v] w fun e w' => e = .returned (.tuple #[.slice none 0 0, .int .i64 0, .int .i64 32]) ∧ w = w' := by
  go_enter Tryz.func115, Tryz.ntmps115
  go_wp2_with (go_at_call 140; refine (begin_none p v w hm).mono ?_; rintro e w' ⟨rfl, rfl⟩)
  go_ret3
  exact ⟨rfl, rfl⟩
end Go.Proofs.YtpdacbiiaglodaaGreat

/-
  LAYER 5 (norms): read; Load of what write makes.
-/
namespace Go.Proofs.YtpdacbiiaglodaaGreat
set_option maxRecDepth 100000
open Go.RowKit Go.Lib

/-- What is left behind the mark. -/
def behind (c : List Cls) (d : List Dec) : List UInt8 := Lib.uvarint c.length ++ (nums (c.flatMap tri3) ++ (Lib.uvarint d.length ++ (nums (d.flatMap tri3) ++ [])))
theorem payload_mark (c : List Cls) (d : List Dec) : payload c d = mark ++ behind c d := by
  simp [payload, headC, behind, nums]

theorem Tri.row {k : IntKind} {A B : World} {v : Value} {l : List (Int × Int × Int)} {x : Nat} (h : Tri k A v l) (hg : A.grownBy B (some x)) (hne : v.ownBlock ≠ some x) : Tri k B v l :=
  h.heap fun hn q e => hg.block q (h.lt hn q e) (fun e' => hne (by rw [e, e']))
theorem St.done {w : World} {q r : Nat} {vb : Value} (h : St w q r vb []) :
    Calls Tryz.prog 122 #[.pointer (some ⟨r, 0, none⟩)] w fun e w' => e = .returned (.int .i64 0) ∧ ∃ k, w' = w.drewN k := by
  obtain ⟨bs, pos, h1, h2, h3, h4, h5, h6, ⟨a, l, c, rfl⟩, h8⟩ := h
  have hl := h3.slice.1
  have h7 := congrArg List.length h5
  simp only [List.length_drop, List.length_nil] at h7
  refine (done_any r a l c pos w h2 (by omega)).mono ?_
  rintro e w' ⟨rfl, hk⟩
  exact ⟨by rw [if_neg (by omega)], hk⟩

theorem take_st (w3 : World) (r : Nat) (av : Option Addr) (cv : Nat) (P rest : List UInt8) (hRd : Rd w3 r (.slice av P.length cv) 0 0) (hov : ∃ B, Owns w3 B 5 (.slice av P.length cv) P) (hm : tRes P 4 = (mark, 4, 0)) (hd : P.drop 4 = rest) (hlim : P.length ≤ 500000) :
    Calls Tryz.prog 117 #[.pointer (some ⟨r, 0, none⟩), .int .i64 4] (w3.alloc (.cells #[.pointer (some ⟨r, 0, none⟩), .bool false] 182)) fun e w' => ∃ v, e = .returned v ∧ (convert 27 9 v).run Tryz.prog w' = .ok (.string { data := #[78, 82, 77, 49] }) w' ∧
      (w3.alloc (.cells #[.pointer (some ⟨r, 0, none⟩), .bool false] 182)).grownBy w' (some r) ∧ St w' w3.heap.size r (.slice av P.length cv) rest := by
  obtain ⟨B, hov⟩ := hov
  have ga := World.grownBy_alloc w3 (.cells #[.pointer (some ⟨r, 0, none⟩), .bool false] 182) none
  have hrl := hRd.lt
  have hR := hRd.new ga
  have hr := hov.reads.new ga
  have h4l : 4 ≤ P.length := by
    unfold tRes at hm
    rw [if_neg (by omega)] at hm
    split at hm
    · cases hm
    · omega
  refine (rTake_any r av P.length cv P 0 0 4 mark 4 0 _ hR hr (Nat.zero_le _) (by omega) (by rw [List.drop_zero]; exact hm)).mono ?_
  rintro e w' ⟨v, rfl, ho, hg, hR'⟩
  rw [if_pos rfl] at ho
  refine ⟨v, rfl, conv_of ho.reads, hg, P, 4, (hg.block _ (by simp) (by simp; omega)).trans (World.alloc_heap_new w3 _), hR', hR.carry hr hg, h4l, hd, by omega, ⟨_, _, _, rfl⟩, fun k e => ?_⟩
  have := (hov.lt k e).2
  have := ga.size
  have := hg.size
  omega

theorem set2 {w : World} {b : Nat} {T : TypeId} {u1 u2 : Value} (h : w.heap[b]? = some (.cells #[u1, u2] T)) (v1 v2 : Value) :
    ((w.setCell ⟨b, 0, none⟩ v1).setCell ⟨b, 1, none⟩ v2).heap[b]? = some (.cells #[v1, v2] T) := by
  have hlt := (Array.getElem?_eq_some_iff.1 h).1
  simp only [World.setCell, Array.getElem?_modify]
  simp [h]

set_option maxHeartbeats 4000000 in
theorem read_ok (v : Value) (c : List Cls) (d : List Dec) (w : World) (hr : Reads w v (frame (payload c d))) (hgd : good c d = true) :
    Calls Tryz.prog 77 #[v] w fun e w' => ∃ vc vd, e = .returned (.tuple #[datV vc vd, .int .i64 0]) ∧ Dat w' vc vd c d ∧ w.grownBy w' none := by
  obtain ⟨g1, g2, g3, g4⟩ := good_parts hgd
  obtain ⟨a, cp, rfl⟩ := hr.form
  have hpl : (payload c d).length ≤ 500000 := by
    have h1 := nums_length (c.flatMap tri3) (fun n hn => by
      have := flat_lt c (fun x hx => by obtain ⟨a, b, k, h, h1, h2, h3⟩ := cls_nat g3 (Int.le_refl 0) hx; exact ⟨a, b, k, h, h1, h2, by omega⟩) n hn
      omega)
    have h2 := nums_length (d.flatMap tri3) (fun n hn => by
      have := flat_lt d (fun x hx => dec_nat g4 hx) n hn
      omega)
    have h3 := nums_length [c.length] (by simp; omega)
    have h4 := nums_length [d.length] (by simp; omega)
    rw [flat_length] at h1 h2
    simp only [payload, headC, List.length_append, mark, List.length_cons, List.length_nil] at *
    omega
  have hun : unf (frame (payload c d)) = (payload c d, (frame (payload c d)).length, 0) := by
    have := unf_frame (payload c d) [] (by omega)
    rwa [List.append_nil] at this
  have hfl : (frame (payload c d)).length ≤ 1000000 := by
    have lA : (Lib.uvarint (payload c d).length).length ≤ 10 := ulen_le (by omega)
    have lM : (leB (mask (sum (payload c d))) 4).length ≤ 4 := by rw [leB_length]; omega
    unfold frame
    simp only [List.length_append]
    omega
  have hN := fun w => crcNew_any w
  generalize frame (payload c d) = F at hr hun hfl ⊢
  have hmark : tRes (payload c d) 4 = (mark, 4, 0) := by
    unfold tRes
    rw [if_neg (by omega), if_neg (by rw [payload_mark]; simp [mark]), payload_mark]
    rfl
  have hdrop : (payload c d).drop 4 = behind c d := by rw [payload_mark]; rfl
  have g0 := World.grownBy_alloc w (.cells #[.slice none 0 0, .slice none 0 0] 33) none
  have hU := fun W (hg : (w.alloc (.cells #[.slice none 0 0, .slice none 0 0] 33)).grownBy W none) t (hT : Tbl W t false) ht => Unframe_any t false a F.length cp F (payload c d) F.length 0 W hT ((hr.new g0).new hg) ht (by omega) hun
  have hoff : ∀ t, w.heap.size ≤ t → Off t (.slice a F.length cp) F := by
    intro t ht
    by_cases hF : F = []
    · exact .inl hF
    · exact .inr (fun e => by have := hr.lt hF _ e; omega)
  unfold UnfPost at hU
  generalize payload c d = P at hpl hmark hdrop hU
  go_enter Tryz.func77, Tryz.ntmps77
  have hcn : ∀ x ∈ c, ∃ a b k : Nat, x = ((a : Int), (b : Int), (k : Int)) ∧ a ≤ 1114111 ∧ b ≤ 1114111 ∧ k ≤ 1114111 := fun x hx => by obtain ⟨a, b, k, h, h1, h2, h3⟩ := cls_nat g3 (Int.le_refl 0) hx; exact ⟨a, b, k, h, h1, h2, by omega⟩
  have hdn := fun x hx => dec_nat (x := x) g4 hx
  have hsz0 : (w.alloc (.cells #[.slice none 0 0, .slice none 0 0] 33)).heap.size = w.heap.size + 1 := by simp
  have kB : ∀ W, (w.alloc (.cells #[.slice none 0 0, .slice none 0 0] 33)).grownBy W none → W.heap[w.heap.size]? = some (.cells #[.slice none 0 0, .slice none 0 0] 33) := fun W hg => (hg.block _ (by simp) (by simp)).trans (World.alloc_heap_new w _)
  go_wp2_with (first
    | (go_at_call 114; refine (hN _).mono ?_; rintro e w1 ⟨t, rfl, ht, hTab, hg1⟩)
    | (go_at_call 115; refine (hU _ hg1 t hTab (hoff t (by omega))).mono ?_; rintro e w2 ⟨v2, rfl, ho2, hg2, hT2⟩; obtain ⟨a2, c2, rfl⟩ := ho2.reads.form; have hg12 := gnew hg1 hg2 (fun x e => by { cases e; left; exact ht }); have hgd2 := ho2.reads; have hC := New_any a2 P.length c2 P w2 hgd2 (by omega))
    | (go_at_call 116; refine hC.mono ?_; rintro e w3 ⟨r, vb, rfl, hg3, hr3, hRd, hov⟩; obtain ⟨av, cv, rfl⟩ := hov.reads.form; have hg13 := hg12.trans hg3; have hT4 := take_st w3 r av cv P (behind c d) hRd ⟨_, hov⟩ hmark hdrop (by omega); have hrl3 := hRd.lt)
    | (go_at_call 117; refine hT4.mono ?_; rintro e w4 ⟨v4, rfl, hconv, hg4, hS4⟩; have hg14 := gnew (galloc hg13 _) hg4 (fun x e => by { cases e; left; have := hg12.size; omega }); have hs4 := hg4.size)
    | (go_at_call 118; refine (rows_class w3.heap.size r _ c _ _ hcn (by omega) hS4).mono ?_; rintro e w5 ⟨vc, rfl, hTc, hbc, hg5, hS5⟩; obtain ⟨xc, yc, rfl, _, _⟩ := hTc.form; have hg15 := gnew hg14 hg5 (fun x e => by { cases e; left; have := hg12.size; omega }))
    | (go_at_call 120; refine (rows_decomp w3.heap.size r _ d _ _ hdn (by omega) hS5).mono ?_; rintro e w6 ⟨vd, rfl, hTd, hbd, hg6, hS6⟩; obtain ⟨xd, yd, rfl, _, _⟩ := hTd.form; have hg16 := gnew hg15 hg6 (fun x e => by { cases e; left; have := hg12.size; omega }); obtain ⟨z0, z1⟩ := hS6.c0; have hql := hS6.lt)
    | (go_at_call 122; refine (hS6.new (World.grownBy_alloc w6 _ none)).done.mono ?_; rintro e w7 ⟨rfl, k7, rfl⟩; have hg17 := galloc hg16 (.cells #[.slice xc c.length yc, .slice xd d.length yd] 33); have kb := kB _ hg17; have f0 : ∀ o, (w6.alloc (.cells #[.slice xc c.length yc, .slice xd d.length yd] 33)).frozen? ⟨w.heap.size, o, none⟩ = false := by { intro o; simp [World.frozen?, kb] }; have b0 : (w6.alloc (.cells #[.slice xc c.length yc, .slice xd d.length yd] 33)).cell? ⟨w.heap.size, 0, none⟩ = some (.slice none 0 0) := by { simp only [World.cell?, kb]; rfl }; have b1 : (w6.alloc (.cells #[.slice xc c.length yc, .slice xd d.length yd] 33)).cell? ⟨w.heap.size, 1, none⟩ = some (.slice none 0 0) := by { simp only [World.cell?, kb]; rfl }))
  have hgd7 := gdrewN (World.grownBy.refl (w6.alloc (.cells #[.slice xc c.length yc, .slice xd d.length yd] 33)) none) k7
  have hg07 := (g0.trans hg17).trans hgd7
  have kb7 := kB _ (hg17.trans hgd7)
  have hTc7 : Tri .i64 ((w6.alloc (.cells #[.slice xc c.length yc, .slice xd d.length yd] 33)).drewN k7) (.slice xc c.length yc) c := ((hTc.row hg6 (fun e => by have := hbc _ e; have := hS4.lt; omega)).all (World.grownBy_alloc w6 _ none)).all hgd7
  have hTd7 : Tri .i32 ((w6.alloc (.cells #[.slice xc c.length yc, .slice xd d.length yd] 33)).drewN k7) (.slice xd d.length yd) d := (hTd.all (World.grownBy_alloc w6 _ none)).all hgd7
  have hwl : w.heap.size < w4.heap.size := Nat.lt_of_lt_of_le (by omega) hg14.size
  have hwl5 : w.heap.size < w5.heap.size := Nat.lt_of_lt_of_le hwl hg5.size
  clear hN hU hC hT4 hS4 hS5 hS6 kB
  generalize (w6.alloc (.cells #[.slice xc c.length yc, .slice xd d.length yd] 33)).drewN k7 = W7 at hg07 kb7 hTc7 hTd7 ⊢
  have gs := gset (gset (World.grownBy.refl W7 (some w.heap.size)) 0 (.slice xc c.length yc)) 1 (.slice xd d.length yd)
  have kf := set2 kb7 (.slice xc c.length yc) (.slice xd d.length yd)
  have hTc8 := hTc7.row gs (fun e => by have := hbc _ e; omega)
  have hTd8 := hTd7.row gs (fun e => by have := hbd _ e; omega)
  have hg08 := gnew hg07 gs (fun x e => by cases e; exact .inl (Nat.le_refl _))
  generalize (W7.setCell ⟨w.heap.size, 0, none⟩ (.slice xc c.length yc)).setCell ⟨w.heap.size, 1, none⟩ (.slice xd d.length yd) = W8 at kf hTc8 hTd8 hg08 ⊢
  have y0 : W8.cell? ⟨w.heap.size, 0, none⟩ = some (.slice xc c.length yc) := by simp [World.cell?, kf]
  have y1 : W8.cell? ⟨w.heap.size, 1, none⟩ = some (.slice xd d.length yd) := by simp [World.cell?, kf]
  refine bodyPost_ret (v := .tuple #[.agg #[.slice xc c.length yc, .slice xd d.length yd], .int .i64 0]) ?_ rfl ⟨_, _, rfl, ⟨hTc8, hTd8⟩, hg08⟩
  simp [results, Tryz.results77, go_sem, y0, y1]
end Go.Proofs.YtpdacbiiaglodaaGreat

/-
  LAYER 5 (norms): Norms in memory; the map of full decompositions.
-/
namespace Go.Proofs.YtpdacbiiaglodaaGreat
set_option maxRecDepth 100000
open Go.RowKit Go.Lib
attribute [local go_sem] Oper.semAt_some

/-- The block of normalisation data: made, both lists, the Once's cells, the map of full ones. -/
def NormsAt (w : World) (n : Nat) (dn st : Int) (vc vd : Value) (mv : Option Nat) : Prop :=
  w.heap[n]? = some (.cells #[.bool true, vc, vd, .int .u32 dn, .int .i32 st, .int .u32 0, .map mv] 48 (0, 0))
section
variable {w w' : World} {n : Nat} {dn st : Int} {vc vd : Value} {mv : Option Nat}
theorem NormsAt.made (h : NormsAt w n dn st vc vd mv) : w.cell? ⟨n, 0, none⟩ = some (.bool true) := by simp [World.cell?, show _ = _ from h]
theorem NormsAt.c1 (h : NormsAt w n dn st vc vd mv) : w.cell? ⟨n, 1, none⟩ = some vc := by simp [World.cell?, show _ = _ from h]
theorem NormsAt.c2 (h : NormsAt w n dn st vc vd mv) : w.cell? ⟨n, 2, none⟩ = some vd := by simp [World.cell?, show _ = _ from h]
theorem NormsAt.done (h : NormsAt w n dn st vc vd mv) : w.cell? ⟨n, 3, none⟩ = some (.int .u32 dn) := by simp [World.cell?, show _ = _ from h]
theorem NormsAt.state (h : NormsAt w n dn st vc vd mv) : w.cell? ⟨n, 4, none⟩ = some (.int .i32 st) := by simp [World.cell?, show _ = _ from h]
theorem NormsAt.full (h : NormsAt w n dn st vc vd mv) : w.cell? ⟨n, 6, none⟩ = some (.map mv) := by simp [World.cell?, show _ = _ from h]
theorem NormsAt.free (h : NormsAt w n dn st vc vd mv) (o : Nat) : w.frozen? ⟨n, o, none⟩ = false := by simp [World.frozen?, show _ = _ from h]
theorem NormsAt.lt (h : NormsAt w n dn st vc vd mv) : n < w.heap.size := lt_of_block h
theorem NormsAt.kept {row : Option Nat} (h : NormsAt w n dn st vc vd mv) (hg : w.grownBy w' row) (hne : row ≠ some n) : NormsAt w' n dn st vc vd mv := (hg.block n h.lt (fun e => hne e.symm)).trans h
theorem NormsAt.setDone (h : NormsAt w n dn st vc vd mv) (x : Int) : NormsAt (w.setCell ⟨n, 3, none⟩ (.int .u32 x)) n x st vc vd mv := heap_setCell_same w n 3 _ _ _ h
theorem NormsAt.setState (h : NormsAt w n dn st vc vd mv) (x : Int) : NormsAt (w.setCell ⟨n, 4, none⟩ (.int .i32 x)) n dn x vc vd mv := heap_setCell_same w n 4 _ _ _ h
theorem NormsAt.setFull (h : NormsAt w n dn st vc vd mv) (x : Option Nat) : NormsAt (w.setCell ⟨n, 6, none⟩ (.map x)) n dn st vc vd x := heap_setCell_same w n 6 _ _ _ h
end

/-- A slice of runes, as it is read. -/
def Runes (B : Nat) (w : World) (v : Value) (l : List Int) : Prop :=
  ∃ b cap, v = .slice (some ⟨b, 0, none⟩) l.length cap ∧ B ≤ b ∧ l ≠ [] ∧ l.length ≤ cap ∧ cap ≤ maxLen ∧ ∀ (i : Nat) (u : Int), l[i]? = some u → w.cell? ⟨b, i, none⟩ = some (.int .i32 u)
theorem Rn.runes {w : World} {B : Nat} {v : Value} {l : List Int} (h : Rn w B v l) (hl : l ≠ []) : Runes B w v l := by
  rcases h with ⟨q1, ⟨_, q2⟩ | ⟨g, cap, cur, q3, q4, q5, q6, q7, q8, q9⟩⟩ | ⟨h1, b, h2, h3, h4, h5⟩
  · exact absurd (List.length_eq_zero_iff.1 q2) hl
  · refine ⟨g, cap, q3, q4, hl, q6, q7, fun i u hu => ?_⟩
    have hi := (List.getElem?_eq_some_iff.1 hu).1
    have h0 : cur.toList[i]? = some (.int .i32 u) := by
      have : (cur.toList.take (l.length * 1))[i]? = some (.int .i32 u) := by rw [q9]; simp [rCells, hu, i32]
      rwa [List.getElem?_take_of_lt (by omega)] at this
    have h1 : cur[i]? = some (.int .i32 u) := by simpa using h0
    simp only [World.cell?, q5]
    exact h1
  · exact ⟨b, _, h2, h3, hl, Nat.le_refl _, h4, fun i u hu => h5 i _ (by simp [rCells, hu, i32])⟩
theorem Runes.other {B : Nat} {w w' : World} {v : Value} {l : List Int} {q : Nat} (h : Runes B w v l) (hg : w.grownBy w' (some q)) (hq : (∀ o, w.heap[q]? = some o → o.isCells = false) ∨ q < B) : Runes B w' v l := by
  obtain ⟨b, cap, rfl, hB, hl, h1, h2, h3⟩ := h
  have hbq : q ≠ b := by
    rintro rfl
    rcases hq with hq | hq
    · obtain ⟨u, t, rfl⟩ := List.exists_cons_of_ne_nil hl
      have h4 := h3 0 u rfl
      unfold World.cell? at h4
      cases hh : w.heap[q]? with
      | none => simp [hh] at h4
      | some o =>
        have := hq o hh
        rw [hh] at h4
        cases o <;> first | (cases this; done) | (cases h4; done)
    · omega
  exact ⟨b, cap, rfl, hB, hl, h1, h2, fun i u hu => hg.cell (h3 i u hu) (fun e => hbq (by simpa using e.symm))⟩
theorem Runes.row {B : Nat} {w w' : World} {v : Value} {l : List Int} {q : Nat} (h : Runes B w v l) (hg : w.grownBy w' (some q)) (hq : ∀ o, w.heap[q]? = some o → o.isCells = false) : Runes B w' v l := h.other hg (.inl hq)
theorem Runes.new {B : Nat} {w w' : World} {v : Value} {l : List Int} (h : Runes B w v l) (hg : w.grownBy w' none) : Runes B w' v l := by
  obtain ⟨b, cap, rfl, hB, hl, h1, h2, h3⟩ := h
  exact ⟨b, cap, rfl, hB, hl, h1, h2, fun i u hu => hg.cell (h3 i u hu) (by simp)⟩

/-- Block m is the map of the full decompositions of pre. -/
def FullAt (B : Nat) (d : List Dec) (w : World) (m : Nat) (pre : List Dec) : Prop :=
  ∃ l : List (Dec × Value), l.map (·.1) = pre ∧ Ents w m (l.map fun p => (p.1.1, p.2)) ∧ ∀ p ∈ l, Runes B w p.2 (whl d 4 p.1)
theorem FullAt.new {B : Nat} {d pre : List Dec} {w w' : World} {m : Nat} (h : FullAt B d w m pre) (hg : w.grownBy w' none) : FullAt B d w' m pre := by
  obtain ⟨l, h1, h2, h3⟩ := h
  exact ⟨l, h1, h2.kept hg (by simp), fun p hp => (h3 p hp).new hg⟩
theorem FullAt.row {B : Nat} {d pre : List Dec} {w w' : World} {m q : Nat} (h : FullAt B d w m pre) (hg : w.grownBy w' (some q)) (hq : ∀ o, w.heap[q]? = some o → o.isCells = false) (hm : q ≠ m) : FullAt B d w' m pre := by
  obtain ⟨l, h1, h2, h3⟩ := h
  exact ⟨l, h1, h2.kept hg (by simpa using hm), fun p hp => (h3 p hp).row hg hq⟩
theorem FullAt.cells {B : Nat} {d pre : List Dec} {w w' : World} {m q : Nat} (h : FullAt B d w m pre) (hg : w.grownBy w' (some q)) (hq : q < B) (hm : q ≠ m) : FullAt B d w' m pre := by
  obtain ⟨l, h1, h2, h3⟩ := h
  exact ⟨l, h1, h2.kept hg (by simpa using hm), fun p hp => (h3 p hp).other hg (.inr hq)⟩
theorem FullAt.add {B : Nat} {d pre : List Dec} {w : World} {m : Nat} {x : Dec} {v : Value} (h : FullAt B d w m pre) (hr : Runes B w v (whl d 4 x)) (hrise : (d.map (·.1)).Pairwise (· < ·)) (hp : pre = d.take pre.length) (hx : d[pre.length]? = some x)
    (hm : Tryz.prog.underlying 46 = some (.map 21 50)) :
    ∃ w', (Instr.mapUpdate 46 (.map (some m)) (.int .i32 x.1) v).run Tryz.prog w = .ok () w' ∧ FullAt B d w' m (pre ++ [x]) ∧ w.grownBy w' (some m) ∧ w'.heap.size = w.heap.size := by
  obtain ⟨l, h1, h2, h3⟩ := h
  have hn := ents_new hrise hp hx
  have hmap : ∀ o, w.heap[m]? = some o → o.isCells = false := by
    obtain ⟨es, cl, hb, _⟩ := h2
    intro o ho
    rw [hb] at ho
    cases ho
    rfl
  obtain ⟨w', r1, r2, r3, r4⟩ := run_update_ents (P := Tryz.prog) (t := 46) hm Tryz.underlying21 h2 x.1 v (by
    intro y hy
    obtain ⟨p, hp, rfl⟩ := List.mem_map.1 hy
    exact hn (p.1.1, dAgg p.1) (by rw [← h1]; unfold ents; exact List.mem_map.2 ⟨p.1, List.mem_map.2 ⟨p, hp, rfl⟩, rfl⟩))
  refine ⟨w', r1, ⟨l ++ [(x, v)], by simp [h1], by simpa using r2, fun p hp => ?_⟩, r3, r4⟩
  rcases List.mem_append.1 hp with hp | hp
  · exact (h3 p hp).row r3 hmap
  · simp at hp
    subst hp
    exact hr.row r3 hmap
theorem FullAt.look {B : Nat} {d pre : List Dec} {w : World} {m : Nat} (h : FullAt B d w m pre) : ∃ es, Ents w m es ∧ ∀ k, match stp pre k with
    | none => look es k = none
    | some x => ∃ v, look es k = some v ∧ Runes B w v (whl d 4 x) := by
  obtain ⟨l, rfl, h2, h3⟩ := h
  refine ⟨_, h2, fun k => ?_⟩
  clear h2
  induction l with
  | nil => rfl
  | cons p t ih =>
    rw [List.map_cons, List.map_cons, look_cons, stp]
    by_cases hk : p.1.1 = k
    · rw [List.find?_cons_of_pos (by simpa using hk), if_pos hk]
      exact ⟨_, rfl, h3 p (List.mem_cons_self ..)⟩
    · rw [List.find?_cons_of_neg (by simpa using hk), if_neg hk]
      exact ih (fun q hq => h3 q (List.mem_cons_of_mem _ hq))

end Go.Proofs.YtpdacbiiaglodaaGreat

/-
  LAYER 5 (norms): reckon.
-/
namespace Go.Proofs.YtpdacbiiaglodaaGreat
set_option maxRecDepth 100000
open Go.RowKit Go.Lib
attribute [local go_sem] Oper.semAt_some

theorem mapMade2 (k : Nat) (w : World) : (Instr.makeMap 46 (some (.int .i64 (k : Int)))).run Tryz.prog w = .ok (.map (some w.heap.size)) (w.alloc (.map #[] 0)) := by
  have hu : Tryz.prog.underlying 46 = some (.map 21 50) := Tryz.underlying46
  simp [Instr.makeMap, run_underlying hu, asInt, asIntOf, Result.andThen]

set_option maxHeartbeats 8000000 in
theorem reckon_in (n : Nat) (st : Int) (vc vd : Value) (c : List Cls) (d : List Dec) (w : World) (hN : NormsAt w n 0 st vc vd none) (hT : Dat w vc vd c d) (hgd : good c d = true) (hne : d ≠ [] → ∀ k, vd.ownBlock = some k → k ≠ n) :
    CallsIn Fence.wide 8 Tryz.prog 50 #[.pointer (some ⟨n, 0, none⟩)] w fun e w' => e = .returned (.tuple #[]) ∧ w.grownBy w' (some n) ∧ ∃ m, w.heap.size ≤ m ∧ NormsAt w' n 0 st vc vd (some m) ∧ FullAt w.heap.size d w' m d := by
  obtain ⟨g1, g2, g3, g4⟩ := good_parts hgd
  obtain ⟨a, cp, rfl, hc, hm⟩ := hT.2.form
  obtain ⟨ac, cc, rfl, _, _⟩ := hT.1.form
  have hrise := decsOk_rise g4
  have hnl := hN.lt
  have hS := fun W hr => steps_any (.slice ac c.length cc) (.slice a d.length cp) d W hr hrise
  have hE := fun w => each_any (.slice ac c.length cc) (.slice a d.length cp) w ⟨_, _, _, rfl⟩
  have g0 := World.grownBy_alloc w (.cells #[.pointer (some ⟨n, 0, none⟩)] 31) none
  have hS0 := hS _ (hT.2.all g0)
  have c1 := hN.c1
  have c2 := hN.c2
  have hmm := mapMade2
  unfold datV at hS0 hE
  refine callsIn_of_wp_marks Tryz.func50 rfl trivial ?_ rfl
  simp only [Tryz.ntmps50, List.size_toArray, List.length_cons, List.length_nil, Nat.reduceAdd, Nat.reduceSub, Array.replicate_succ, Array.replicate_zero, List.push_toArray, List.append_toArray, List.nil_append, List.cons_append]
  gi_wp2_with (refine ⟨trivial, ?_⟩; gi_at_call 89; refine (callsIn_wide.2 hS0).mono ?_; rintro e w1 ⟨m1, rfl, hm1, hEn, hg1⟩)
  have hN1 : NormsAt w1 n 0 st (.slice ac c.length cc) (.slice a d.length cp) none := (hN.kept g0 (by simp)).kept hg1 (by simp)
  obtain ⟨V, hV⟩ : ∃ V, V = w1.alloc (.cells #[.map (some m1)] 148) := ⟨_, rfl⟩
  have hgV : w1.grownBy V none := by rw [hV]; exact World.grownBy_alloc w1 _ none
  have hNV := hN1.kept hgV (by simp)
  have hEV := hEn.kept hgV (by simp)
  have hb1 : Boxed V w.heap.size 31 (.pointer (some ⟨n, 0, none⟩)) := ((Boxed.new w _ _).kept hg1 (by simp)).kept hgV (by simp)
  have hb2 : Boxed V w1.heap.size 148 (.map (some m1)) := by rw [hV]; exact Boxed.new w1 _ _
  have hgw : w.grownBy V none := (g0.trans hg1).trans hgV
  have hm1V := hEV.lt
  obtain ⟨es, cl, hes, hesl⟩ := hEV
  have k1 := hb1.cell
  have k2 := hb2.cell
  have k3 := hNV.full
  have k4 := hNV.free 6
  have hs1 := hg1.size
  have hsV : V.heap.size = w1.heap.size + 1 := by rw [hV]; simp
  rw [World.size_alloc] at hs1
  rw [← hV]
  replace hV := Lib.hid hV
  have hlm : (Builtin.len_ #[148] 3 #[.map (some m1)]).run Tryz.prog V.drew = .ok (.int .i64 (es.size : Int)) V.drew :=
    run_len_map V.drew 148 3 m1 es cl Tryz.underlying148 hes
  have gm := World.grownBy_alloc V (.map #[] 0) none
  have hNM := hNV.kept gm (by simp)
  have j1 := (hb1.kept gm (by simp)).cell
  have j2 := (hb2.kept gm (by simp)).cell
  have j3 := hNM.full
  have j4 := hNM.free 6
  have l1 := hb1.lt
  have l2 := hb2.lt
  have l3 := hNV.lt
  apply wpIn_noPanic
  clear hS hS0
  gi_region
  refine noPanic_normal ?_
  have hnm : n ≠ w1.heap.size + 1 := by omega
  obtain ⟨X, hX⟩ : ∃ X, X = ((V.alloc (.map #[] 0)).setCell ⟨n, 6, none⟩ (.map (some (w1.heap.size + 1)))).drew := ⟨_, rfl⟩
  have gX : V.grownBy X (some n) := by rw [hX]; exact gdrew (gset (gbut gm (some n)) 6 _)
  have gA : (V.alloc (.map #[] 0)).grownBy X (some n) := by rw [hX]; exact gdrew (gset (World.grownBy.refl _ _) 6 _)
  have hNX : NormsAt X n 0 st (.slice ac c.length cc) (.slice a d.length cp) (some (w1.heap.size + 1)) := by rw [hX]; exact hNM.setFull _
  have hEX : Ents X (w1.heap.size + 1) [] := by
    have : Ents (V.alloc (.map #[] 0)) V.heap.size [] := ⟨#[], 0, World.alloc_heap_new V _, rfl⟩
    rw [hsV] at this
    exact this.kept gA (by simp; omega)
  have hmX : Ents X m1 (ents d) := (Ents.kept ⟨es, cl, hes, hesl⟩ gm (by simp) : Ents (V.alloc (.map #[] 0)) m1 (ents d)).kept gA (by simp; rintro rfl; have := hNV; unfold NormsAt at this; rw [hes] at this; cases this)
  have hb1X : Boxed X w.heap.size 31 (.pointer (some ⟨n, 0, none⟩)) := (hb1.kept gm (by simp)).kept gA (by simp; omega)
  have hb2X : Boxed X w1.heap.size 148 (.map (some m1)) := (hb2.kept gm (by simp)).kept gA (by simp; omega)
  have hgwX : w.grownBy X (some n) := (gbut hgw _).trans gX
  have hdX : d ≠ [] → ∀ k, (Value.slice a d.length cp).ownBlock = some k → k < w.heap.size := fun hn k e => hT.2.lt hn k e
  have hTX : Tri .i32 X (.slice a d.length cp) d := hT.2.heap (fun hn k e => hgwX.block k (hT.2.lt hn k e) (by simp; exact fun h => hne hn k e h))
  rw [← hX]
  replace hX := Lib.hid hX
  clear k1 k2 k3 k4 j1 j2 j3 j4 hNM hb1 hb2 hNV hes hesl hlm c1 c2 hmm g0 hgV hgw gX gA gm hV hN1 hEn hN
  have k1 := hb1X.cell
  have k2 := hNX.c1
  have k3 := hNX.c2
  gi_wp2_with (refine ⟨trivial, ?_⟩; gi_at_call 56; refine (callsIn_wide.2 (hE _)).mono ?_; rintro e w5 ⟨p, rfl, hp, hb, hg5⟩)
  have gX5 := hg5
  have hsX : w1.heap.size + 1 < X.heap.size := hEX.lt
  have hpl := hb.lt
  have hvl : d ≠ [] → ∀ k, (Value.slice a d.length cp).ownBlock = some k → k < X.heap.size ∧ k ≠ w1.heap.size + 1 := fun hn k e => by have := hdX hn k e; omega
  have hN5 := hNX.kept hg5 (by simp)
  have hm5 := hmX.kept hg5 (by simp)
  have b15 := hb1X.kept hg5 (by simp)
  have b25 := hb2X.kept hg5 (by simp)
  have hF5 : FullAt w.heap.size d w5 (w1.heap.size + 1) [] := ⟨[], rfl, hEX.kept hg5 (by simp), by simp⟩
  have hs5 := hg5.size
  have hm1n : m1 ≠ w1.heap.size + 1 := by omega
  have hTell := dvals1_tells 4 p w5.heap.size (w1.heap.size + 1) _ d w5 hb (hTX.all hg5) (by omega) (fun hn k e => by have := hvl hn k e; omega)
  have gw5 := hgwX.trans (gbut hg5 (some n))
  clear hE hb1X hb2X hmX hEX hNX hX hTX hdX k1 k2 k3 hgwX
  refine range_tells4 (a := _) (w := w5) (α := Dec) rfl (by omega) (gf := 133) (lb := #[.pointer (some ⟨p, 0, none⟩)]) rfl trivial (enters_of Tryz.func133 (by kernel_rfl) rfl)
    hTell (by simp) (fun _ => rfl) (fun _ _ _ _ _ _ h _ _ _ => h)
    (fun pre W => Hid (pre = d.take pre.length) ∧ FullAt w.heap.size d W (w1.heap.size + 1) pre ∧ w5.grownBy W (some (w1.heap.size + 1))) (fun _ _ _ => False)
    ?hI (fun _ _ _ _ _ h _ _ => h.elim) ⟨Lib.hid rfl, hF5, World.grownBy.refl _ _⟩
    (fun x a' W => ∃ q, D3 W q x ∧ a' = { tmps := #[.pointer (some ⟨n, 0, none⟩), .pointer (some ⟨w.heap.size, 0, none⟩), .pointer (some ⟨w1.heap.size, 0, none⟩), .pointer (some ⟨q, 0, none⟩), .pointer (some ⟨n, 0, none⟩), .pointer (some ⟨n, 0, none⟩), .pointer (some ⟨n, 1, none⟩), .agg #[.slice ac c.length cc, .slice a d.length cp], .map (some m1), .pointer (some ⟨n, 0, none⟩), .map (some m1), .int .i64 (es.size : Int), .map (some (w1.heap.size + 1)), .pointer (some ⟨n, 0, none⟩), .pointer (some ⟨n, 6, none⟩), .pointer (some ⟨n, 0, none⟩), .pointer (some ⟨n, 0, none⟩), .pointer (some ⟨n, 1, none⟩), .agg #[.slice ac c.length cc, .slice a d.length cp], .func (.func 133) #[] #[.pointer (some ⟨p, 0, none⟩)], dAgg x, undef, undef, undef, undef, undef, undef, undef, undef, undef], defers := [] })
    (fun _ _ _ _ h _ => h) ?hAx ?assign ?body ?done ?stop
  case hI =>
    rintro pre A B k ⟨h0, h1, h2⟩ hg' hk
    rcases hk with rfl | ⟨q, rfl, hq, ho⟩
    · exact ⟨h0, h1.new hg', h2.trans (gbut hg' _)⟩
    · exact ⟨h0, h1.row hg' ho (by omega), gnew h2 hg' (fun r e => by cases e; left; exact hq)⟩
  case hAx =>
    rintro x a' A B k o ⟨q, hc', rfl⟩ hg' hk ho
    refine ⟨q, hc'.kept hg' (fun e => ?_), rfl⟩
    cases e
    cases (hk.symm.trans hc')
    cases ho
  case assign =>
    intro l x W K hK
    unfold dEnc dAgg
    gi_wp2_with fail
    refine hK _ _ (World.grownBy_alloc W _ none) ⟨W.heap.size, D3.new W x, ?_⟩
    rfl
  case body =>
    rintro l2 pre x a' W ⟨h0, h1, h2⟩ hget ⟨q, hx, rfl⟩ hsz
    have hnx := Lib.hid (take_next h0.out hget)
    have hmem : x ∈ d := List.mem_of_getElem? hget
    have hmb : mb d 4 x = true := by
      have := decsOk_mem g4 x hmem
      simp only [decOk, Bool.and_eq_true] at this
      exact this.1.2.2
    have hwne := (mb_whl hmb 0).2
    have hqm : q ≠ w1.heap.size + 1 := by
      rintro rfl
      obtain ⟨l, _, ⟨es', cl', hb', _⟩, _⟩ := h1
      cases (hb'.symm.trans hx)
    have cf : ∀ U, W.grownBy U (some (w1.heap.size + 1)) → U.cell? ⟨w.heap.size, 0, none⟩ = some (.pointer (some ⟨n, 0, none⟩)) ∧ U.cell? ⟨n, 6, none⟩ = some (.map (some (w1.heap.size + 1))) ∧ U.cell? ⟨q, 0, none⟩ = some (.int .i32 x.1) ∧ U.cell? ⟨w1.heap.size, 0, none⟩ = some (.map (some m1)) ∧ (U.cell? ⟨q, 1, none⟩ = some (.int .i32 x.2.1) ∧ U.cell? ⟨q, 2, none⟩ = some (.int .i32 x.2.2)) := by
      intro U hU
      have h3 := h2.trans hU
      have h4 := hx.kept hU (by simp; omega)
      exact ⟨(b15.kept h3 (by simp; omega)).cell, (hN5.kept h3 (by simp; omega)).full, h4.c0, (b25.kept h3 (by simp)).cell, h4.c1, h4.c2⟩
    have C := fun U (hU : W.grownBy U none) => wholly_ok m1 d 4 x U (Nat.le_refl _) ((hm5.kept h2 (by simp; omega)).kept hU (by simp)) hmb
    have hA := fun U (hU : W.grownBy U none) v (hR : Rn U W.heap.size v (whl d 4 x)) => FullAt.add (h1.new hU) ((hR.mono (by have := gw5.size; omega)).runes hwne) hrise h0.out hget Tryz.underlying46
    have gd := gdrew (World.grownBy.refl W none)
    have gdm := gbut gd (some (w1.heap.size + 1))
    obtain ⟨z1, z2, z3, z4, z5, z6⟩ := cf W (World.grownBy.refl W _)
    unfold dAgg at C
    generalize whl d 4 x = L at C hA
    replace h1 := Lib.hid h1
    replace hx := Lib.hid hx
    clear hTell hF5 hN5 hm5 b15 b25 hT hwne hmb hb
    gi_wp2_with fail
    apply wpIn_noPanic
    refine wpIn_region_held (S := fun U => U.cell? ⟨w.heap.size, 0, none⟩ = some (.pointer (some ⟨n, 0, none⟩)) ∧ U.cell? ⟨n, 6, none⟩ = some (.map (some (w1.heap.size + 1))) ∧ U.cell? ⟨q, 0, none⟩ = some (.int .i32 x.1) ∧ U.cell? ⟨w1.heap.size, 0, none⟩ = some (.map (some m1)) ∧ (U.cell? ⟨q, 1, none⟩ = some (.int .i32 x.2.1) ∧ U.cell? ⟨q, 2, none⟩ = some (.int .i32 x.2.2))) (by kernel_rfl) (cf _ gdm) (fun hS0 => ?_)
    refine wpAnyHIn_take (i := 0) (oi := ⟨some 21, _, _, _, _, _⟩) (v := ?_) rfl (by kernel_rfl) (by kernel_rfl) (by kernel_rfl) (by kernel_rfl) (fun _ _ _ h => h) (fun _ => rfl) (Or.inl ⟨by rfl, ?_⟩) (by assumption) ?_
    rotate_left
    · (intro w hSw; (try dsimp only at hSw); go_simp; try with_reducible rfl)
    try simp only [Act.put, List.setIfInBounds_toArray, List.set_cons_zero, List.set_cons_succ]
    refine wpAnyHIn_take (i := 1) (oi := ⟨some 22, _, _, _, _, _⟩) (v := ?_) rfl (by kernel_rfl) (by kernel_rfl) (by kernel_rfl) (by kernel_rfl) (fun _ _ _ h => h) (fun _ => rfl) (Or.inl ⟨by rfl, ?_⟩) (by assumption) ?_
    rotate_left
    · (intro w hSw; (try dsimp only at hSw); go_simp; try with_reducible rfl)
    try simp only [Act.put, List.setIfInBounds_toArray, List.set_cons_zero, List.set_cons_succ]
    refine wpAnyHIn_take (i := 2) (oi := ⟨some 23, _, _, _, _, _⟩) (v := ?_) rfl (by kernel_rfl) (by kernel_rfl) (by kernel_rfl) (by kernel_rfl) (fun _ _ _ h => h) (fun _ => rfl) (Or.inl ⟨by rfl, ?_⟩) (by assumption) ?_
    rotate_left
    · (intro w hSw; (try dsimp only at hSw); go_simp; try with_reducible rfl)
    try simp only [Act.put, List.setIfInBounds_toArray, List.set_cons_zero, List.set_cons_succ]
    refine wpAnyHIn_take (i := 3) (oi := ⟨some 24, _, _, _, _, _⟩) (v := ?_) rfl (by kernel_rfl) (by kernel_rfl) (by kernel_rfl) (by kernel_rfl) (fun _ _ _ h => h) (fun _ => rfl) (Or.inl ⟨by rfl, ?_⟩) (by assumption) ?_
    rotate_left
    · (intro w hSw; (try dsimp only at hSw); go_simp; try with_reducible rfl)
    try simp only [Act.put, List.setIfInBounds_toArray, List.set_cons_zero, List.set_cons_succ]
    refine wpAnyHIn_take (i := 4) (oi := ⟨some 25, _, _, _, _, _⟩) (v := ?_) rfl (by kernel_rfl) (by kernel_rfl) (by kernel_rfl) (by kernel_rfl) (fun _ _ _ h => h) (fun _ => rfl) (Or.inl ⟨by rfl, ?_⟩) (by assumption) ?_
    rotate_left
    · (intro w hSw; (try dsimp only at hSw); go_simp; try with_reducible rfl)
    try simp only [Act.put, List.setIfInBounds_toArray, List.set_cons_zero, List.set_cons_succ]
    refine wpAnyHIn_take (i := 5) (oi := ⟨some 26, _, _, _, _, _⟩) (v := ?_) rfl (by kernel_rfl) (by kernel_rfl) (by kernel_rfl) (by kernel_rfl) (fun _ _ _ h => h) (fun _ => rfl) (Or.inl ⟨by rfl, ?_⟩) (by assumption) ?_
    rotate_left
    · (intro w hSw; (try dsimp only at hSw); go_simp; try with_reducible rfl)
    try simp only [Act.put, List.setIfInBounds_toArray, List.set_cons_zero, List.set_cons_succ]
    refine wpAnyHIn_take (i := 6) (oi := ⟨some 27, _, _, _, _, _⟩) (v := ?_) rfl (by kernel_rfl) (by kernel_rfl) (by kernel_rfl) (by kernel_rfl) (fun _ _ _ h => h) (fun _ => rfl) (Or.inl ⟨by rfl, ?_⟩) (by assumption) ?_
    rotate_left
    · (intro w hSw; (try dsimp only at hSw); go_simp; try with_reducible rfl)
    try simp only [Act.put, List.setIfInBounds_toArray, List.set_cons_zero, List.set_cons_succ]
    refine wpAnyHIn_take (i := 7) (oi := ⟨some 28, _, _, _, _, _⟩) (v := ?_) rfl (by kernel_rfl) (by kernel_rfl) (by kernel_rfl) (by kernel_rfl) (fun _ _ _ h => h) (fun _ => rfl) (Or.inl ⟨by rfl, ?_⟩) (by assumption) ?_
    rotate_left
    · (intro w hSw; (try dsimp only at hSw); go_simp; try with_reducible rfl)
    try simp only [Act.put, List.setIfInBounds_toArray, List.set_cons_zero, List.set_cons_succ]
    refine wpAnyHIn_next (i := 8) (by kernel_rfl) rfl (by rfl) (fun K hK => ?_)
    go_simp
    refine ⟨trivial, (callsIn_wide.2 (C _ gd)).mono ?_⟩
    rintro e w7 ⟨v7, rfl, hR7, hg7⟩
    have hg7' := gd.trans hg7
    obtain ⟨W8, r8, F8, g8, s8⟩ := hA w7 hg7' v7 (hR7.mono (Nat.le_refl _))
    have g78 := (gbut hg7' (some (w1.heap.size + 1))).trans g8
    refine hK.out _ _ (cf _ (gbut hg7' _)) (fun hS1 => ?_)
    clear hK
    refine wpAnyHIn_next (i := 9) (by kernel_rfl) rfl (by rfl) (fun K hK => ?_)
    go_simp
    refine hK.out _ _ (cf _ g78) (fun hS2 => ?_)
    clear hK
    refine wpAnyHIn_done (by kernel_rfl) ?_ _
    refine noPanic_normal ?_
    gi_wp2_with fail
    exact ⟨KeepsFrom.of_grownBy g78 (fun j e => by cases e; omega), KeptX.grown g78 hsz (.inl rfl), hnx, F8, h2.trans g78⟩
  case stop =>
    rintro D c pre Wd W15 hD _ h _ _
    exact h.elim
  case done =>
    rintro D xs Wd W15 hD hS ⟨h0, h1, h2⟩ hg' hM
    obtain rfl : xs = d := hS
    have gp := grownBy_putObj' W15 D (.deferred none)
    have hN15 := (hN5.kept h2 (by simp; omega)).kept gp (by simp; omega)
    have hfin : w.grownBy (W15.putObj D (.deferred none)) (some n) := gnew (gnew gw5 h2 (fun r e => by cases e; left; omega)) gp (fun r e => by cases e; left; omega)
    have hF15 := h1.row gp (fun o ho => by rw [hM] at ho; cases ho; rfl) (by omega)
    clear hTell hN5 hm5 b15 b25 hT h1 gw5 gp
    gi_wp2_with fail
    refine ⟨by simp, .inl ⟨_, _, rfl, run_takeDeferred hM, ?_⟩⟩
    simp [LeavesInM, LeavesIn, results, Tryz.results50, go_sem]
    exact ⟨hfin, w1.heap.size + 1, by omega, hN15, hF15⟩
theorem reckon_full (n : Nat) (st : Int) (vc vd : Value) (c : List Cls) (d : List Dec) (w : World) (hN : NormsAt w n 0 st vc vd none) (hT : Dat w vc vd c d) (hgd : good c d = true) (hne : d ≠ [] → ∀ k, vd.ownBlock = some k → k ≠ n) :
    Calls Tryz.prog 50 #[.pointer (some ⟨n, 0, none⟩)] w fun e w' => e = .returned (.tuple #[]) ∧ w.grownBy w' (some n) ∧ ∃ m, w.heap.size ≤ m ∧ NormsAt w' n 0 st vc vd (some m) ∧ FullAt w.heap.size d w' m d := callsIn_wide.1 (reckon_in n st vc vd c d w hN hT hgd hne)
end Go.Proofs.YtpdacbiiaglodaaGreat
