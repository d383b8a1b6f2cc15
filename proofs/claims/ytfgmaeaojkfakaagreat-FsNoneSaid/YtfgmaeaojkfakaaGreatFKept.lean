/-
  LAYER 1 (fs): changes of a file: what survives of appended bytes, of a cut.
-/
import Derived.Test.YtfgmaeaojkfakaaGreatFCopy
import Derived.WalkLawsBesides
import Derived.WalkSpells
import Derived.BigQuiet
import Derived.Lib.AppendStr
import Derived.Deep.DeepCutAuto
namespace Go.Proofs.YtfgmaeaojkfakaaGreat
set_option maxRecDepth 100000
open Go.RowKit Go.Lib
attribute [local go_sem] Oper.semAt_some

theorem info_partsF : ∃ i0 : TypeInfo, Tryz.prog.info? 5 = some i0 ∧ i0.zero = some (.int .u8 0) ∧ i0.size = 1 ∧ i0.bytes = 1 := by
  have h := infoU8
  cases hi : Tryz.prog.info? 5 with
  | none => rw [hi] at h; cases h
  | some i =>
    rw [hi] at h
    simp only [Option.map_some, Option.some.injEq, Prod.mk.injEq] at h
    exact ⟨i, rfl, h.1, h.2.1, h.2.2⟩

/-- How many of n survive by the number k. -/
def surv (k : Int) (n : Nat) : Nat := if k < 0 then n else (k % ((n : Int) + 1)).toNat
theorem surv_le (k : Int) (n : Nat) : surv k n ≤ n := by
  unfold surv
  split
  · exact Nat.le_refl _
  · have := Int.emod_lt_of_pos k (show (0 : Int) < (n : Int) + 1 by omega)
    have := Int.emod_nonneg k (show (n : Int) + 1 ≠ 0 by omega)
    omega
theorem surv_int (k : Int) (n : Nat) : (if k < 0 then (n : Int) else k % ((n : Int) + 1)) = (surv k n : Int) := by
  unfold surv
  split
  · rfl
  · have := Int.emod_nonneg k (show (n : Int) + 1 ≠ 0 by omega)
    omega

theorem strCells_bytes (s : ByteArray) : strCells s = byteCells s.data.toList := by
  simp [strCells, byteCells]

/-- A beginning of a row of one's own. -/
theorem Owns.take {w : World} {B : Nat} {e : TypeId} {v : Value} {bs : List UInt8} (h : Owns w B e v bs) {c : Nat} (hc : c ≤ bs.length) :
    ∃ v', Owns w B e v' (bs.take c) ∧ v'.ownBlock = v.ownBlock ∧ ((v = .slice none 0 0 ∧ v' = .slice none 0 0) ∨ ∃ g cap, v = .slice (some ⟨g, 0, none⟩) bs.length cap ∧ v' = .slice (some ⟨g, 0, none⟩) c cap ∧ bs.length ≤ cap ∧ cap ≤ maxLen) := by
  obtain ⟨h1, ⟨rfl, hn⟩ | ⟨g, cap, cur, rfl, hB, hg, hn, hm, hs, ht⟩⟩ := h
  · have h0 := List.length_eq_zero_iff.1 hn
    subst h0
    refine ⟨.slice none 0 0, ?_, rfl, .inl ⟨rfl, rfl⟩⟩
    rw [List.take_nil]
    exact World.ownsRow_nil w B e 1
  · refine ⟨.slice (some ⟨g, 0, none⟩) c cap, ?_, rfl, .inr ⟨g, cap, rfl, rfl, hn, hm⟩⟩
    have hl : (bs.take c).length = c := by simp; omega
    unfold Owns
    rw [hl]
    refine ⟨by simp [byteCells]; omega, .inr ⟨g, cap, cur, rfl, hB, hg, by omega, hm, hs, ?_⟩⟩
    have e1 : byteCells (bs.take c) = (byteCells bs).take c := by simp [byteCells, List.map_take]
    rw [e1, ← ht, List.take_take]
    congr 1
    omega

theorem Owns.none {w : World} {B : Nat} {e : TypeId} {bs : List UInt8} (h : Owns w B e (.slice .none 0 0) bs) : bs = [] := by
  obtain ⟨_, ⟨_, hn⟩ | ⟨g, cap, cur, h, _⟩⟩ := h
  · exact List.length_eq_zero_iff.1 hn
  · cases h

/-- Whether a cut survives by the number k. -/
def cutLives (k : Int) : Bool := !(decide (0 ≤ k) && decide (k % 2 = 0))

set_option maxHeartbeats 2000000 in
theorem cutKept_any (c : Nat) (k : Int) (B : Nat) (v : Value) (bs : List UInt8) (w : World) (h : Owns w B 5 v bs) (hc : c ≤ bs.length) :
    Calls Tryz.prog 162 #[.int .i64 (c : Int), v, .int .i64 k] w fun e w' => ∃ v', e = .returned (.tuple #[v', .bool (cutLives k)]) ∧ Owns w B 5 v' (bif cutLives k then bs.take c else bs) ∧ v'.ownBlock = v.ownBlock ∧ w = w' := by
  obtain ⟨v2, ho2, hb2, hv⟩ := h.take hc
  obtain ⟨q, hq⟩ : ∃ q, q = cutLives k := ⟨_, rfl⟩
  rw [← hq]
  unfold cutLives at hq
  have key : (0 ≤ k ∧ Int.tmod k 2 = 0 ∧ q = false) ∨ (0 ≤ k ∧ (k % 2 == 0) = false ∧ q = true) ∨ (k < 0 ∧ q = true) := by
    by_cases h0 : 0 ≤ k
    · by_cases h2 : k % 2 = 0
      · exact .inl ⟨h0, by rw [Int.tmod_eq_emod_of_nonneg h0, h2], by rw [hq]; simp [h0, h2]⟩
      · exact .inr (.inl ⟨h0, by simpa using h2, by rw [hq]; simp [h0, h2]⟩)
    · exact .inr (.inr ⟨by omega, by rw [hq]; simp [h0]⟩)
  clear hq
  rcases key with ⟨h0, hm, rfl⟩ | ⟨h0, hm, rfl⟩ | ⟨h0, rfl⟩
  · go_enter Tryz.func162, Tryz.ntmps162
    go_wp2
    go_ret2
    exact ⟨v, rfl, h, rfl, rfl⟩
  all_goals
    rcases hv with ⟨rfl, rfl⟩ | ⟨g, cap, rfl, rfl, h3, h4⟩
    · have hnil := h.none
      subst hnil
      obtain rfl : c = 0 := by simpa using hc
      go_enter Tryz.func162, Tryz.ntmps162
      go_wp2
      go_ret2
      exact ⟨_, rfl, ho2, rfl, rfl⟩
    · have h5 : c ≤ cap := by omega
      go_enter Tryz.func162, Tryz.ntmps162
      go_wp2
      go_ret2
      exact ⟨_, rfl, ho2, rfl, rfl⟩

theorem surv_any (k : Int) (n : Nat) (hm : n < 4611686018427387904) (w : World) :
    Calls Tryz.prog 88 #[.int .i64 k, .int .i64 (n : Int)] w fun e w' => e = .returned (.int .i64 (surv k n : Int)) ∧ w = w' := by
  rw [← surv_int]
  by_cases h : k < 0
  · rw [if_pos h]
    go_enter Tryz.func88, Tryz.ntmps88
    go_wp2
    go_ret
    exact ⟨rfl, rfl⟩
  · rw [if_neg h]
    go_enter Tryz.func88, Tryz.ntmps88
    go_wp2
    go_ret
    exact ⟨rfl, rfl⟩

/-- Where a row lies to which a text was appended: where it lay, or in a new block. -/
theorem append_string_lies {P : Program} (w : World) (base : Nat) (t u ty e : TypeId) (i : TypeInfo) (ht : P.underlying t = some (.slice e)) (hu : P.underlying u = some .string) (hi : P.info? e = some i) (hz : i.zero = some (.int .u8 0))
    (hsize : i.size = 1) (hby : i.bytes = 1) (v : Value) (n : Nat) (xs : List Value) (hown : w.ownsRow base e 1 v n xs) (s : ByteArray) (hbytes : n + s.size ≤ 140737488355328) {v' : Value} {w' : World}
    (hrun : (Builtin.append_ #[t, u] ty #[v, .string s]).run P w = .ok v' w') : v'.ownBlock = v.ownBlock ∨ v'.ownBlock = some w.heap.size := by
  have hxl : xs.length = n := by simpa using hown.1
  have h0 := hown
  rcases hown.2 with ⟨rfl, rfl⟩ | ⟨g, cap, cur, rfl, hbg, hg, hnc, hcm, hcs, htake⟩
  · by_cases hm : s.size = 0
    · have hf := run_firstCells_string (P := P) w 1 s
      rw [hm] at hf
      simp [Builtin.append_, run_underlying ht, run_underlying hu, sizeOf, typeInfo, hi, hsize, Builtin.lenOf, hm, hf] at hrun
      obtain ⟨rfl, _⟩ := hrun
      exact .inl rfl
    · have hr := run_append_nil_string (P := P) w t u ty e i (.int .u8 0) ht hu hi hz s (by omega) (by omega) (by rw [hby]; omega)
      rw [hr] at hrun
      simp only [Result.ok.injEq] at hrun
      obtain ⟨rfl, _⟩ := hrun
      exact .inr rfl
  · by_cases hroom : n + s.size ≤ cap
    · have hr := run_append_room_string (P := P) w t u ty e i ht hu hi hsize g n cap cur hg s hroom (by simp at hcs; omega)
      rw [hr] at hrun
      simp only [Result.ok.injEq] at hrun
      obtain ⟨rfl, _⟩ := hrun
      exact .inl rfl
    · have hr := run_append_grow_string (P := P) w t u ty e i (.int .u8 0) ht hu hi hz ⟨g, 0, none⟩ n cap xs (by rw [hsize]; simpa using hxl) (h0.cells (g := g) rfl) s (by omega) (by omega) (by rw [hby]; exact growslice_fits (by omega) (by omega))
      rw [hr] at hrun
      simp only [Result.ok.injEq] at hrun
      obtain ⟨rfl, _⟩ := hrun
      exact .inr rfl
theorem wpList_append_string_at {P : Program} (w : World) {ops : Array Oper} {rest : List Oper} {o : Oper} {a : Act} {Q : Exit → Act → World → Prop} (hgd : o.guard = none) (sl x : Operand) (t u : TypeId)
    (ho : o.op = .call { callee := .builtin .append, args := #[sl, x], argTypes := #[t, u] })
    (base : Nat) (e : TypeId) (i : TypeInfo) (ht : P.underlying t = some (.slice e)) (hu : P.underlying u = some .string) (hi : P.info? e = some i) (hz : i.zero = some (.int .u8 0)) (hsize : i.size = 1) (hby : i.bytes = 1)
    (v : Value) (n : Nat) (xs : List Value) (hs : a.eval sl = v) (hown : w.ownsRow base e 1 v n xs) (s : ByteArray) (hx : a.eval x = .string s)
    (hbytes : n + s.size ≤ 140737488355328) (hbase : base ≤ w.heap.size)
    (h : ∀ v' w', w'.ownsRow base e 1 v' (n + s.size) (xs ++ strCells s) → w.grownBy w' v.ownBlock → (v'.ownBlock = v.ownBlock ∨ v'.ownBlock = some w.heap.size) → wpList P ops Q rest (a.put o.dst v') w') : wpList P ops Q (o :: rest) a w := by
  refine wpList_plain hgd fun K hK => ?_
  obtain ⟨v', w', hr, h2, h3, _⟩ := run_append_own_string (P := P) w base t u o.type e i ht hu hi hz hsize hby v n xs hown s (by unfold maxLen; omega) hbytes hbase
  have h4 := append_string_lies w base t u o.type e i ht hu hi hz hsize hby v n xs hown s hbytes hr
  unfold Oper.wp execOp
  simp only [ho, resolve, invoke, builtin, Sem.run_bind, Sem.run_pure, Result.andThen_ok, List.map_toArray, List.map_cons, List.map_nil, hs, hx, hr]
  exact hK _ _ (h v' w' h2 h3 h4)

set_option maxHeartbeats 2000000 in
theorem addedKept_any (a : ByteArray) (k : Int) (B : Nat) (v : Value) (bs : List UInt8) (w : World) (h : Owns w B 5 v bs) (hl : bs.length + a.size ≤ 140737488355328) (hB : B ≤ w.heap.size) :
    Calls Tryz.prog 161 #[.string a, v, .int .i64 k] w fun e w' => ∃ v', e = .returned (.tuple #[v', .bool (decide (surv k a.size = a.size))]) ∧ Owns w' B 5 v' (bs ++ a.data.toList.take (surv k a.size)) ∧ w.grownBy w' v.ownBlock ∧ (v'.ownBlock = v.ownBlock ∨ v'.ownBlock = some w.heap.size) := by
  have hsv := fun w => surv_any k a.size (by omega) w
  have hle := surv_le k a.size
  obtain ⟨n, hn⟩ : ∃ n, n = surv k a.size := ⟨_, rfl⟩
  rw [← hn] at hsv hle ⊢
  clear hn
  go_enter Tryz.func161, Tryz.ntmps161
  obtain ⟨i0, hi, hz0, hz1, hz2⟩ := info_partsF
  have hx : (a.extract 0 n).size = n := by simp [ByteArray.size_extract]; omega
  have hxl : strCells (a.extract 0 n) = byteCells (a.data.toList.take n) := by
    rw [strCells_bytes]
    congr 1
    rw [ByteArray.data_extract, Array.toList_extract, List.extract_eq_take_drop]
    simp
  have he : Hid (((n : Int) == (a.size : Int)) = decide (n = a.size)) := Lib.hid (by rw [Bool.eq_iff_iff]; simp; omega)
  go_wp2_with (first
    | (go_at_call 88; refine (hsv _).mono ?_; rintro e w2 ⟨rfl, rfl⟩)
    | (at_builtin; refine wpList_append_string_at _ rfl _ _ 32 115 rfl B 5 i0 Tryz.underlying32 Tryz.underlying115 hi hz0 hz1 hz2 v bs.length (byteCells bs) rfl h (a.extract 0 n) rfl (by rw [hx]; omega) hB ?_; intro v' w' hown hgrow hlies; rw [hx, hxl] at hown))
  go_ret2
  refine ⟨v', by simp [he.out], ?_, hgrow, hlies⟩
  have hb : byteCells bs ++ byteCells (a.data.toList.take n) = byteCells (bs ++ a.data.toList.take n) := by simp [byteCells]
  rw [hb] at hown
  unfold Owns
  rw [List.length_append, List.length_take, Nat.min_eq_left (by simpa using hle)]
  exact hown
end Go.Proofs.YtfgmaeaojkfakaaGreat
