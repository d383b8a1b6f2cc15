/-
  PLAIN MATHEMATICS FOR LAYER 2 (codec): what was written is read, whatever follows; a beginning is refused; what is read is written again as just these bytes.
-/
import Derived.Test.YtpdacbiiaglodaaGreatQG02
import Derived.Laws.BitsLemmas
import Derived.Sort.BigQuietIn
import Derived.OwnWalkIn
import Derived.Test.YtpdacbiiaglodaaGreatQG01
namespace Go.Proofs.YtpdacbiiaglodaaGreat
set_option maxRecDepth 100000
open Go.Lib

theorem u8_big {c : UInt8} (h : 128 ≤ c.toNat) : (c.toNat % 128 + 128).toUInt8 = c := by
  have := c.toNat_lt
  rw [show c.toNat % 128 + 128 = c.toNat by omega]
  simp
theorem u8_self (c : UInt8) : c.toNat.toUInt8 = c := by simp

theorem rd_once : ∀ (bs : List UInt8) (i acc n m : Nat), rd i acc bs = .ok (n, m) → ∃ q k, n = acc + q * 2 ^ (7 * i) ∧ m = i + k ∧ 1 ≤ k ∧ k ≤ bs.length ∧ Lib.uvarint q = bs.take k ∧ (0 < i → 1 ≤ q)
  | [], i, acc, n, m, h => by simp [rd] at h
  | c :: r, i, acc, n, m, h => by
    rw [rd] at h
    split at h
    · cases h
    · rename_i hb
      split at h
      · rename_i h128
        simp only [Except.ok.injEq, Prod.mk.injEq] at h
        obtain ⟨rfl, rfl⟩ := h
        refine ⟨c.toNat, 1, rfl, rfl, Nat.le_refl _, by simp, ?_, fun hi => by omega⟩
        rw [uvarint_small h128, u8_self]
        rfl
      · rename_i h128
        obtain ⟨q, k, rfl, rfl, hk, hkl, hu, hq⟩ := rd_once r _ _ _ _ h
        have hq1 := hq (by omega)
        refine ⟨c.toNat % 128 + 128 * q, k + 1, ?_, by omega, by omega, by simp only [List.length_cons]; omega, ?_, fun _ => by omega⟩
        · rw [pow7_succ, Nat.add_mul, Nat.add_assoc]
          congr 2
          rw [Nat.mul_comm (2 ^ (7 * i)) 128, ← Nat.mul_assoc, Nat.mul_comm q 128]
        · rw [uvarint_big (by omega), show (c.toNat % 128 + 128 * q) % 128 = c.toNat % 128 by omega, show (c.toNat % 128 + 128 * q) / 128 = q by omega, u8_big (by omega), hu]
          rfl

theorem once_uint {bs : List UInt8} {n m : Nat} (h : rd 0 0 bs = .ok (n, m)) : Lib.uvarint n = bs.take m ∧ m ≤ bs.length ∧ n < 18446744073709551616 := by
  obtain ⟨q, k, h1, h2, _, h4, h5, _⟩ := rd_once bs 0 0 n m h
  have := rd_lt bs 0 0 n m (by omega) (by decide) h
  simp only [Nat.mul_zero, Nat.pow_zero, Nat.mul_one, Nat.zero_add] at h1 h2
  subst h1; subst h2
  exact ⟨h5, h4, this.1⟩

theorem pow7_pos (i : Nat) : 1 ≤ 2 ^ (7 * i) := Nat.one_le_two_pow

theorem small_at9 {i acc q : Nat} (h : acc + q * 2 ^ (7 * i) < 18446744073709551616) (h9 : i = 9) : q ≤ 1 := by
  subst h9
  have e : (2 : Nat) ^ (7 * 9) = 9223372036854775808 := by decide
  rw [e] at h
  omega

theorem rd_back (more : List UInt8) : ∀ (q i acc : Nat), i ≤ 9 → acc + q * 2 ^ (7 * i) < 18446744073709551616 → (0 < i → 1 ≤ q) → rd i acc (Lib.uvarint q ++ more) = .ok (acc + q * 2 ^ (7 * i), i + ulen q) := by
  intro q
  induction q using Nat.strongRecOn with
  | _ q ih =>
    intro i acc hi hlt hq
    by_cases h : q < 128
    · rw [uvarint_small h, List.singleton_append, rd, toUInt8_toNat (by omega), if_neg, if_pos h, ulen_small h]
      rintro (⟨h9, h1⟩ | ⟨h0, h1⟩)
      · have := small_at9 hlt h9; omega
      · have := hq h0; omega
    · have hi8 : i ≤ 8 := by
        rcases Nat.lt_or_ge i 9 with h9 | h9
        · omega
        · have := small_at9 hlt (by omega); omega
      have hb : q % 128 + 128 < 256 := by omega
      rw [uvarint_big (by omega), List.cons_append, rd, toUInt8_toNat hb, if_neg (by omega), if_neg (by omega)]
      have e : acc + (q % 128 + 128) % 128 * 2 ^ (7 * i) + q / 128 * 2 ^ (7 * (i + 1)) = acc + q * 2 ^ (7 * i) := by
        rw [pow7_succ, show (q % 128 + 128) % 128 = q % 128 by omega, Nat.add_assoc]
        congr 1
        rw [Nat.mul_comm (2 ^ (7 * i)) 128, ← Nat.mul_assoc, ← Nat.add_mul]
        congr 1
        omega
      rw [ih (q / 128) (by omega) (i + 1) _ (by omega) (by rw [e]; exact hlt) (fun _ => by omega), e, ulen_big (x := q) (by omega)]
      congr 2
      omega

theorem back_uint (n : Nat) (hn : n < 18446744073709551616) (more : List UInt8) : rd 0 0 (Lib.uvarint n ++ more) = .ok (n, ulen n) := by
  have := rd_back more n 0 0 (by omega) (by simpa using hn) (fun h => by omega)
  simpa using this

theorem rd_short : ∀ (q x i acc : Nat), i ≤ 9 → acc + q * 2 ^ (7 * i) < 18446744073709551616 → (0 < i → 1 ≤ q) → x < ulen q → rd i acc ((Lib.uvarint q).take x) = .error 20 := by
  intro q
  induction q using Nat.strongRecOn with
  | _ q ih =>
    intro x i acc hi hlt hq hx
    by_cases h : q < 128
    · rw [ulen_small h] at hx
      obtain rfl : x = 0 := by omega
      simp [rd]
    · cases x with
      | zero => simp [rd]
      | succ x =>
        have hi8 : i ≤ 8 := by
          rcases Nat.lt_or_ge i 9 with h9 | h9
          · omega
          · have := small_at9 hlt (by omega); omega
        rw [ulen_big (by omega)] at hx
        have hb : q % 128 + 128 < 256 := by omega
        rw [uvarint_big (by omega), List.take_succ_cons, rd, toUInt8_toNat hb, if_neg (by omega), if_neg (by omega)]
        have e : acc + (q % 128 + 128) % 128 * 2 ^ (7 * i) + q / 128 * 2 ^ (7 * (i + 1)) = acc + q * 2 ^ (7 * i) := by
          rw [pow7_succ, show (q % 128 + 128) % 128 = q % 128 by omega, Nat.add_assoc]
          congr 1
          rw [Nat.mul_comm (2 ^ (7 * i)) 128, ← Nat.mul_assoc, ← Nat.add_mul]
          congr 1
          omega
        exact ih (q / 128) (by omega) x (i + 1) _ (by omega) (by rw [e]; exact hlt) (fun _ => by omega) (by omega)

theorem short_uint (n : Nat) (hn : n < 18446744073709551616) (x : Nat) (hx : x < ulen n) : rd 0 0 ((Lib.uvarint n).take x) = .error 20 :=
  rd_short n x 0 0 (by omega) (by simpa using hn) (fun h => by omega) hx

/-! ### Fields -/
theorem once_field {bs f : List UInt8} {m : Nat} (h : rdField bs = .ok (f, m)) : field f = bs.take m ∧ m ≤ bs.length ∧ f.length ≤ 1048576 := by
  have hl := rdField_lt h
  unfold rdField at h
  split at h
  · cases h
  rename_i n k h'
  have h2 := rdLen_lt h'
  split at h
  · cases h
  rename_i hle
  simp only [Except.ok.injEq, Prod.mk.injEq] at h
  obtain ⟨hf, rfl⟩ := h
  have ho := once_uint h2.2.2.2
  have hn : f.length = n := by rw [← hf]; simp; omega
  refine ⟨?_, hl.2.2.1, hl.1⟩
  rw [field, hn, ho.1, ← hf, ← List.take_add]

theorem once_many : ∀ (k : Nat) (bs : List UInt8) (L : List (List UInt8)) (m : Nat), rdMany k bs = .ok (L, m) → (L.map field).flatten = bs.take m ∧ ∀ f ∈ L, f.length ≤ 1048576
  | 0, bs, L, m, h => by simp [rdMany] at h; obtain ⟨rfl, rfl⟩ := h; simp
  | k + 1, bs, L, m, h => by
    rw [rdMany] at h
    split at h
    · cases h
    rename_i f m1 h1
    split at h
    · cases h
    rename_i l m2 h2
    simp only [Except.ok.injEq, Prod.mk.injEq] at h
    obtain ⟨rfl, rfl⟩ := h
    have ho := once_field h1
    have ih := once_many k _ _ _ h2
    refine ⟨?_, ?_⟩
    · rw [List.map_cons, List.flatten_cons, ho.1, ih.1, ← List.take_add]
    · intro g hg
      rcases List.mem_cons.1 hg with rfl | hg
      · exact ho.2.2
      · exact ih.2 g hg

theorem once_fields {bs : List UInt8} {L : List (List UInt8)} {m : Nat} (h : rdFields bs = .ok (L, m)) : fields L = bs.take m ∧ m ≤ bs.length ∧ L.length ≤ 65536 ∧ ∀ f ∈ L, f.length ≤ 1048576 := by
  unfold rdFields at h
  split at h
  · cases h
  rename_i n k h'
  have h2 := rdLen_lt h'
  split at h
  · cases h
  rename_i l m' hm
  simp only [Except.ok.injEq, Prod.mk.injEq] at h
  obtain ⟨rfl, rfl⟩ := h
  have hl := rdMany_lt _ _ _ _ hm
  have ho := once_many _ _ _ _ hm
  simp only [List.length_drop] at hl
  refine ⟨?_, by omega, by omega, ho.2⟩
  rw [fields, hl.1, (once_uint h2.2.2.2).1, ho.1, ← List.take_add]

theorem back_field (f more : List UInt8) (hf : f.length ≤ 1048576) : rdField (field f ++ more) = .ok (f, (field f).length) := by
  have h := back_uint f.length (by omega) (f ++ more)
  unfold rdField rdLen
  rw [field, List.append_assoc, h]
  simp only
  rw [if_neg (by omega)]
  simp only
  have hl : (Lib.uvarint f.length).length = ulen f.length := rfl
  rw [if_neg (by simp only [List.length_append, hl]; omega)]
  congr 2
  · rw [List.drop_left' hl, List.take_left' rfl]
  · rw [List.length_append, hl]

theorem back_many (more : List UInt8) : ∀ (L : List (List UInt8)), (∀ f ∈ L, f.length ≤ 1048576) → rdMany L.length ((L.map field).flatten ++ more) = .ok (L, (L.map field).flatten.length)
  | [], _ => by simp [rdMany]
  | f :: L, h => by
    have ih := back_many more L (fun g hg => h g (by simp [hg]))
    rw [List.length_cons, rdMany, List.map_cons, List.flatten_cons, List.append_assoc, back_field f _ (h f (by simp))]
    simp only
    rw [List.drop_left' rfl, ih]
    simp

theorem back_fields (L : List (List UInt8)) (more : List UInt8) (hL : L.length ≤ 65536) (h : ∀ f ∈ L, f.length ≤ 1048576) : rdFields (fields L ++ more) = .ok (L, (fields L).length) := by
  have hu := back_uint L.length (by omega) ((L.map field).flatten ++ more)
  unfold rdFields rdLen
  rw [fields, List.append_assoc, hu]
  simp only
  rw [if_neg (by omega)]
  simp only
  have hl : (Lib.uvarint L.length).length = ulen L.length := rfl
  rw [List.drop_left' hl, back_many more L h]
  simp only [List.length_append]
  rfl
end Go.Proofs.YtpdacbiiaglodaaGreat

/-
  LAYER 5 (norms), plain: code points, Hangul, classes, decompositions, and what data may be. No program, no world.
-/
namespace Go.Proofs.YtpdacbiiaglodaaGreat
set_option maxRecDepth 100000

/-- from, to, class · code, a, b. -/
abbrev Cls := Int × Int × Int
abbrev Dec := Int × Int × Int

def scal (r : Int) : Bool := decide (0 ≤ r ∧ r < 55296 ∨ 57343 < r ∧ r ≤ 1114111)
def syl (r : Int) : Bool := decide (44032 ≤ r ∧ r ≤ 55203)
def jamo (r : Int) : Bool := decide (4352 ≤ r ∧ r ≤ 4370 ∨ 4449 ≤ r ∧ r ≤ 4469 ∨ 4519 < r ∧ r ≤ 4546)
/-- What a Hangul syllable comes to. -/
def hang (r : Int) : List Int :=
  let s := r - 44032
  [4352 + s / 588, 4449 + s % 588 / 28] ++ (if s % 28 = 0 then [] else [4519 + s % 28])
def byR (r : Int) : List Int := if syl r = true then hang r else [r]
theorem byR_ne (r : Int) : byR r ≠ [] := by unfold byR hang; split <;> simp

/-- The class of a code point: of the first range that has it. -/
def clsOf : List Cls → Int → Int
  | [], _ => 0
  | c :: t, r => if c.1 ≤ r ∧ r ≤ c.2.1 then c.2.2 else clsOf t r
/-- One range may be, behind a place. -/
def clOk (least : Int) (c : Cls) : Bool := scal c.1 && scal c.2.1 && decide (least ≤ c.1) && decide (c.1 ≤ c.2.1) && decide (1 ≤ c.2.2) && decide (c.2.2 ≤ 254)
def clsOk : Int → List Cls → Bool
  | _, [] => true
  | least, c :: t => clOk least c && clsOk (c.2.1 + 1) t

/-- A decomposition by one step. -/
def stp (d : List Dec) (r : Int) : Option Dec := d.find? fun x => decide (x.1 = r)
def codesOk (x : Dec) : Bool := scal x.1 && !syl x.1 && !jamo x.1 && scal x.2.1 && !decide (x.2.1 = 0) && scal x.2.2 && !syl x.2.2
/-- In so many steps it comes to the end. -/
def mb (d : List Dec) : Nat → Dec → Bool
  | 0, _ => false
  | n + 1, x => match stp d x.2.1 with
    | none => true
    | some y => mb d n y
def bOk (d : List Dec) (x : Dec) : Bool := decide (x.2.2 = 0) || (stp d x.2.2).isNone
/-- What a decomposition comes to, in so many steps. -/
def whl (d : List Dec) : Nat → Dec → List Int
  | 0, _ => []
  | n + 1, x => (match stp d x.2.1 with
    | none => byR x.2.1
    | some y => whl d n y) ++ (if x.2.2 = 0 then [] else [x.2.2])
def begins (c : List Cls) (d : List Dec) (x : Dec) : Bool := decide (clsOf c x.1 = 0) || !decide (clsOf c ((whl d 4 x).headD 0) = 0)
def decOk (c : List Cls) (d : List Dec) (least : Int) (x : Dec) : Bool := decide (least ≤ x.1) && codesOk x && (bOk d x && mb d 4 x) && begins c d x
def decsOk (c : List Cls) (d : List Dec) : Int → List Dec → Bool
  | _, [] => true
  | least, x :: t => decOk c d least x && decsOk c d (x.1 + 1) t
/-- Data that may be. -/
def good (c : List Cls) (d : List Dec) : Bool := decide (c.length ≤ 4000) && decide (d.length ≤ 8000) && clsOk 0 c && decsOk c d 0 d

theorem mb_whl {d : List Dec} : ∀ {n : Nat} {x : Dec}, mb d n x = true → ∀ k, whl d (n + k) x = whl d n x ∧ whl d n x ≠ []
  | 0, _, h, _ => by simp [mb] at h
  | n + 1, x, h, k => by
    rw [show n + 1 + k = (n + k) + 1 by omega, whl, whl]
    rw [mb] at h
    cases hs : stp d x.2.1 with
    | none => exact ⟨rfl, by simp [byR_ne]⟩
    | some y =>
      rw [hs] at h
      have := mb_whl h k
      simp only
      rw [this.1]
      exact ⟨rfl, by simp [this.2]⟩

theorem decsOk_mem {c : List Cls} {d : List Dec} : ∀ {l : List Dec} {least : Int}, decsOk c d least l = true → ∀ x ∈ l, decOk c d least x = true
  | [], _, _, x, hx => by cases hx
  | y :: t, least, h, x, hx => by
    rw [decsOk, Bool.and_eq_true] at h
    rcases List.mem_cons.1 hx with rfl | hx
    · exact h.1
    · have h2 := decsOk_mem h.2 x hx
      have h1 := h.1
      simp only [decOk, Bool.and_eq_true, decide_eq_true_eq] at h1 h2 ⊢
      exact ⟨⟨⟨by omega, h2.1.1.2⟩, h2.1.2⟩, h2.2⟩
/-- Codes rise. -/
theorem decsOk_rise {c : List Cls} {d : List Dec} : ∀ {l : List Dec} {least : Int}, decsOk c d least l = true → (l.map (·.1)).Pairwise (· < ·)
  | [], _, _ => List.Pairwise.nil
  | y :: t, least, h => by
    rw [decsOk, Bool.and_eq_true] at h
    refine List.Pairwise.cons (fun a ha => ?_) (decsOk_rise h.2)
    obtain ⟨x, hx, rfl⟩ := List.mem_map.1 ha
    have := decsOk_mem h.2 x hx
    simp only [decOk, Bool.and_eq_true, decide_eq_true_eq] at this
    show y.1 < x.1
    omega
end Go.Proofs.YtpdacbiiaglodaaGreat

/-
  A QUIET REGION INSIDE A ROUND OF A RANGE OVER A FUNCTION: a region that draws its order and only reads is walked once, in the text's order, in any fence (with a round, too), if it defers nothing. No program is named here.
-/
namespace Go.Proofs.YtpdacbiiaglodaaGreat
set_option maxRecDepth 100000
open Go.RowKit

section
variable {F : Fence} {n : Nat} {P : Program} {ops : Array Oper} {md : Region.Mode} {C : World → Prop}

/-- No operation defers. -/
def noDefer (l : List Oper) : Bool := l.all fun o => match o.op with | .defer _ => false | _ => true

theorem noDefer_at {o : Oper} (h : noDefer ops.toList = true) {i : Nat} (hi : ops[i]? = some o) : ∀ c, o.op ≠ .defer c := by
  intro c hc
  have hm : o ∈ ops.toList := by
    rw [Array.mem_toList_iff]
    exact Array.mem_of_getElem? hi
  have := List.all_eq_true.1 h o hm
  rw [hc] at this
  cases this

theorem wpIn_of_quiet_r {o : Oper} {a : Act} {K : Act → Prop} {K' : Act → World → Prop} {Q' : Exit → Act → World → Prop} {w : World} (hnd : ∀ c, o.op ≠ .defer c) (hw : C w) (h : ∀ a w', C w' → K a → K' a w')
    (ha : o.askedIn F P a C) (hh : o.quietIn F n P a C K) : o.wpIn F n P a w K' Q' := by
  obtain ⟨v, h1, h2⟩ := hh
  have h3 := h1 w hw
  unfold Oper.quietAtIn at h3
  unfold Oper.wpIn
  refine ⟨ha w hw, ?_⟩
  rw [Oper.semAt_plain F _ _ hnd]
  generalize (execOp a.eval o).run P w = r at *
  cases r with
  | ok x w' =>
    cases x <;> simp only [Oper.quietUponIn] at h3 <;> simp only [Oper.uponIn]
    case value u =>
      obtain ⟨e1, e2⟩ := h3
      rw [e1, e2]
      exact h _ _ hw h2
    case skip =>
      obtain ⟨e1, e2⟩ := h3
      rw [e1, ← e2]
      exact h _ _ hw h2
    case enter f args =>
      obtain ⟨e1, hd, hc⟩ := h3
      rw [e1]
      exact ⟨hd, hc.mono fun e w'' ⟨he, hw''⟩ => by subst he; exact h _ _ hw'' h2⟩
  | halt x w' => simp only [Oper.quietUponIn] at h3

theorem wpOpIn_of_qOpIn_r {i : Nat} {a : Act} {K : Act → Prop} {K' : Act → World → Prop} {Q' : Exit → Act → World → Prop} {w : World} (hnd : noDefer ops.toList = true) (hC : C w) (h : ∀ a w', C w' → K a → K' a w')
    (hh : qOpIn F n P ops C i K a) : wpOpIn F n P ops Q' i K' a w := by
  unfold qOpIn at hh
  unfold wpOpIn
  split
  · rename_i ho; simp only [ho] at hh; exact h _ _ hC hh
  · rename_i o ho
    simp only [ho] at hh
    obtain ⟨ha, hh⟩ := hh
    split
    · rename_i hw; simp only [hw, if_true] at hh; exact wpIn_of_quiet_r (noDefer_at hnd ho) hC h ha hh
    · rename_i hw; simp only [hw] at hh; exact ⟨ha w hC, h _ _ hC hh⟩

theorem wpAnyIn_of_quiet_r {Q : Act → Prop} {Q' : Exit → Act → World → Prop} (hnd : noDefer ops.toList = true) (hQ : ∀ a w, C w → Q a → Q' .normal a w) : ∀ (fuel : Nat) (listed : Array Bool) (a : Act) (w : World), C w →
    wpAnyQIn F n P md ops C Q fuel listed a → wpAnyIn F n P md ops Q' fuel listed a w
  | 0, _, _, _, hw, h => ⟨h.1, hQ _ _ hw h.2⟩
  | fuel + 1, _, _, _, hw, h => ⟨fun h0 => hQ _ _ hw (h.1 h0), fun i hi => wpOpIn_of_qOpIn_r hnd hw (fun a' w' hw' => wpAnyIn_of_quiet_r hnd hQ fuel _ a' w' hw') (h.2 i hi)⟩

theorem wpIn_region_quiet_r {id : Nat} {Q : Exit → Act → World → Prop} {a : Act} {w : World} {l : List Oper} (hnd : noDefer l = true) (hm : P.follows .mixedOrders = true) (hB : Region.lexB .any l.toArray = true)
    (h : wpQuietIn F n P l.toArray (fun w' => ∃ n, w' = w.drewN n) (fun a' => ∀ w', (∃ n, w' = w.drewN n) → Q .normal a' w') l a) : (Code.region id l.toArray true).wpIn F n P Q a w := by
  simp only [Region.lexB, Bool.and_eq_true] at hB
  refine wpIn_region_any hm (wpAnyIn_of_quiet_r (C := fun w' => ∃ n, w' = w.drewN n) (Q := fun a' => ∀ w', (∃ n, w' = w.drewN n) → Q .normal a' w') (by simpa using hnd) (fun _ w' hw' h => h w' hw') _ _ _ _ ⟨1, rfl⟩ ?_)
  have := wpAnyQIn_lex (F := F) (n := n) (C := fun w' => ∃ n, w' = w.drewN n) (md := .any) hB.1 l 0 (Array.replicate l.length false) a (by simp) (by simpa using hB.2) h
  simpa using this
end
end Go.Proofs.YtpdacbiiaglodaaGreat

/-
  LAYER 5 (norms): A RANGE OVER A FUNCTION (as XNRange), WHERE THE ROUND MAY TURN ANY ELDER BLOCK BUT THOSE THAT THE ITERATOR READS (Pr says which). No program is named here.
-/
namespace Go.Proofs.YtpdacbiiaglodaaGreat
set_option maxRecDepth 100000
open Go.RowKit

def KeptP (n0 : Nat) (Pr : Nat → Prop) (A B : World) : Prop := A.heap.size ≤ B.heap.size ∧ ∀ k, k < n0 → Pr k → B.heap[k]? = A.heap[k]?
theorem KeptP.refl {n0 : Nat} {Pr : Nat → Prop} (A : World) : KeptP n0 Pr A A := ⟨Nat.le_refl _, fun _ _ _ => rfl⟩
theorem KeptP.trans {n0 : Nat} {Pr : Nat → Prop} {A B C : World} (h : KeptP n0 Pr A B) (k : KeptP n0 Pr B C) : KeptP n0 Pr A C := ⟨Nat.le_trans h.1 k.1, fun i h1 h2 => (k.2 i h1 h2).trans (h.2 i h1 h2)⟩
theorem KeptP.grown {n0 q : Nat} {Pr : Nat → Prop} {A B : World} (h : A.grownBy B (some q)) (hn : n0 ≤ A.heap.size) (hq : ¬ Pr q ∨ n0 ≤ q) : KeptP n0 Pr A B :=
  ⟨h.size, fun k h1 h2 => h.block k (by omega) (fun e => by cases e; rcases hq with hq | hq; exact hq h2; omega)⟩

/-- What an iterator promises: called with yield, it calls yield at what it tells, as long as rounds go on; its own steps turn block r alone. -/
def TellsQ {α : Type} (F : Fence) (n : Nat) (P : Program) (g : Nat) (lb : Array Value) (encs : α → Array Value) (Ok : List α → α → World → Prop) (r : Option Nat) (n0 : Nat) (Pr : Nat → Prop) (S Sp : List α → World → Prop) (w : World) : Prop :=
  ∀ (l : Nat) (J Jx : List α → World → Prop) (W : World), KeptP n0 Pr w W → n0 ≤ W.heap.size →
    (∀ s A B, J s A → A.grownBy B r → J s B) → (∀ s A B, Jx s A → A.grownBy B r → Jx s B) →
    (∀ pre x W1, J pre W1 → Ok pre x W1 → n0 ≤ W1.heap.size → YieldAt F (n - 1) P l (encs x) W1 fun e W' =>
      (e = .returned (.bool true) ∧ J (pre ++ [x]) W' ∧ KeptP n0 Pr W1 W') ∨ (e = .returned (.bool false) ∧ Jx (pre ++ [x]) W' ∧ KeptP n0 Pr W1 W')) →
    J [] W →
    CallsIn F n P g (#[.func (.yield l) #[] #[]] ++ lb) W fun e W' => (∃ v, e = .returned v) ∧ ((∃ xs, S xs W' ∧ J xs W') ∨ (∃ pre, Sp pre W' ∧ Jx pre W'))

/-- How a round's body may be left: a map that lay ahead of the loop may be written. -/
def roundLeftQ {α : Type} (n0 : Nat) (Pr : Nat → Prop) (I : List α → World → Prop) (Ix : Code → List α → World → Prop) (xs : List α) (W : World) : Exit → Act → World → Prop
  | .normal, _, W' => KeepsFrom n0 W W' ∧ KeptP n0 Pr W W' ∧ I xs W'
  | .ret, _, W' => KeepsFrom n0 W W' ∧ KeptP n0 Pr W W' ∧ Ix .ret xs W'
  | .exit i, _, W' => KeepsFrom n0 W W' ∧ KeptP n0 Pr W W' ∧ Ix (.exit i) xs W'
  | .goto i, _, W' => KeepsFrom n0 W W' ∧ KeptP n0 Pr W W' ∧ Ix (.goto i) xs W'
  | .panic _, _, _ => False
  | .outgrown, _, _ => False

set_option maxHeartbeats 4000000 in
theorem range_tellsQ {α : Type} {F : Fence} {n : Nat} {P : Program} {g : Operand} {ps : Array Tmp} {assign body : Code} {Q : Exit → Act → World → Prop} {a : Act} {w : World}
    (hro : F.round = none) (h1 : 1 ≤ n) {gf : Nat} {lb : Array Value} (hg : a.eval g = .func (.func gf) #[] lb) (hFg : F.fn gf) (eg : ∀ args w, (callFunc gf args).run P w = .ok (.enter gf args) w)
    {encs : α → Array Value} {Ok : List α → α → World → Prop} {r : Option Nat} {Pr : Nat → Prop} {S Sp : List α → World → Prop}
    (hseq : TellsQ F (n - 1) P gf lb encs Ok r w.heap.size Pr S Sp w) (hrw : r ≠ some w.heap.size ∧ r ≠ some (w.heap.size + 1)) (hps : ∀ x, (encs x).size = ps.size)
    (hOk : ∀ pre x A B k o, Ok pre x A → A.grownBy B (some k) → A.heap[k]? = some o → o.isCells = false → Ok pre x B)
    (I : List α → World → Prop) (Ix : Code → List α → World → Prop)
    (hI : ∀ s A B k, I s A → A.grownBy B k → (k = r ∨ (∃ q, k = some q ∧ w.heap.size ≤ q ∧ ∀ o, A.heap[q]? = some o → o.isCells = false)) → I s B)
    (hIx : ∀ c s A B k, Ix c s A → A.grownBy B k → (k = r ∨ (∃ q, k = some q ∧ w.heap.size ≤ q ∧ ∀ o, A.heap[q]? = some o → o.isCells = false)) → Ix c s B)
    (h0 : I [] w) (Ax : α → Act → World → Prop)
    (hOk0 : ∀ pre x A B, Ok pre x A → A.grownBy B none → Ok pre x B)
    (hAx : ∀ x a' A B k o, Ax x a' A → A.grownBy B (some k) → A.heap[k]? = some o → o.isCells = false → Ax x a' B)
    (hassign : ∀ (l : Nat) (x : α) (W : World) (K : Act → World → Prop), (∀ a' W', W.grownBy W' none → Ax x a' W' → K a' W') →
      assign.wpIn (F.inRound l) (n - 1 - 1) P (Exit.then K (fun _ _ _ => False)) { tmps := (ps.zip (encs x)).foldl (fun t (p, v) => t.setIfInBounds p v) a.tmps, defers := [] } W)
    (hbody : ∀ (l : Nat) (pre : List α) (x : α) (a' : Act) (W : World), I pre W → Ok pre x W → Ax x a' W → w.heap.size ≤ W.heap.size → body.wpIn (F.inRound l) (n - 1 - 1) P (roundLeftQ w.heap.size Pr I Ix (pre ++ [x]) W) a' W)
    (hdone : ∀ (D : Nat) (xs : List α) (W W' : World), w.heap.size ≤ D → S xs W → I xs W' → W.grownBy W' (some (D + 1)) → W'.heap[D]? = some (.deferred (some [])) → Q .normal { a with defers := { target := .collected D, args := #[] } :: a.defers } W')
    (hstop : ∀ (D : Nat) (c : Code) (pre : List α) (W W' : World), w.heap.size ≤ D → Sp pre W → Ix c pre W' → W.grownBy W' (some (D + 1)) → W'.heap[D]? = some (.deferred (some [])) → c.wpIn F n P Q { a with defers := { target := .collected D, args := #[] } :: a.defers } W') :
    (Code.rangeFunc g ps assign body).wpIn F n P Q a w := by
  refine wpIn_rangeFunc fun fn hfn => ?_
  rw [hro]
  -- the loop's record, in each of its states
  let rec' : LoopState → Option Code → Loop := fun st pe => { state := st, pending := pe, fn, tmps := a.tmps, params := ps, assign, body, defers := w.heap.size }
  obtain ⟨R, hR⟩ : ∃ R, R = rec' := ⟨_, rfl⟩
  obtain ⟨D, hD⟩ : ∃ D, D = w.heap.size := ⟨_, rfl⟩
  obtain ⟨V, hV⟩ : ∃ V, V = (w.alloc (.deferred (some []))).alloc (.loop (R .ready none)) := ⟨_, rfl⟩
  have gV : w.grownBy V none := by rw [hV]; exact (World.grownBy_alloc w _ none).trans (World.grownBy_alloc _ _ none)
  have lV : V.heap[D + 1]? = some (.loop (R .ready none)) := by
    rw [hV, hD]
    have := World.alloc_heap_new (w.alloc (.deferred (some []))) (.loop (R .ready none))
    rwa [World.size_alloc] at this
  have dV : V.heap[D]? = some (.deferred (some [])) := by
    rw [hV, hD]
    exact ((World.grownBy_alloc (w.alloc (.deferred (some []))) (.loop (R .ready none)) none).block w.heap.size (by simp) (by simp)).trans (World.alloc_heap_new w _)
  have hrD : r ≠ some D ∧ r ≠ some (D + 1) := by rw [hD]; exact hrw
  have iV : I [] V := hI _ _ _ (some D) h0 (gbut gV _) (.inr ⟨D, rfl, by omega, fun o ho => by have := (Array.getElem?_eq_some_iff.1 ho).1; omega⟩)
  refine ⟨D + 1, [{ target := .collected D, args := #[] }], V, { target := .fn (.func gf) lb, args := #[.func (.yield (D + 1)) #[] #[]] }, V, gf, #[.func (.yield (D + 1)) #[] #[]] ++ lb, V, ?_, ?_, ?_, ?_, fun _ => h1, ?_⟩
  · rw [hV, hR, hD]; exact run_enterLoop_outer _ _ _ _ _
  · simp only [resolve, hg]
    simp [go_sem]
  · intro f' hf'; simp [Target.leads] at hf'; subst hf'; exact hFg
  · simp [invoke, go_sem, eg]
  · have keepD : ∀ {A B : World} {q : Option Nat} {o : Obj}, A.grownBy B q → q ≠ some D → A.heap[D]? = some o → B.heap[D]? = some o := fun h hq ho => (h.block D (Array.getElem?_eq_some_iff.1 ho).1 (fun e => hq e.symm)).trans ho
    have keepL : ∀ {A B : World} {q : Option Nat} {o : Obj}, A.grownBy B q → q ≠ some (D + 1) → A.heap[D + 1]? = some o → B.heap[D + 1]? = some o := fun h hq ho => (h.block (D + 1) (Array.getElem?_eq_some_iff.1 ho).1 (fun e => hq e.symm)).trans ho
    refine (hseq (D + 1) (fun pre W => I pre W ∧ W.heap[D + 1]? = some (.loop (R .ready none)) ∧ W.heap[D]? = some (.deferred (some [])))
      (fun pre W => ∃ c, Ix c pre W ∧ W.heap[D + 1]? = some (.loop (R .done (some c))) ∧ W.heap[D]? = some (.deferred (some []))) V
      (KeptP.grown (q := D) (gbut gV _) (Nat.le_refl _) (.inr (by omega))) gV.size ?_ ?_ ?_ ⟨iV, lV, dV⟩).mono ?_
    · rintro s A B ⟨h2, h3, h4⟩ hAB
      exact ⟨hI _ _ _ r h2 hAB (.inl rfl), keepL hAB hrD.2 h3, keepD hAB hrD.1 h4⟩
    · rintro s A B ⟨c, h2, h3, h4⟩ hAB
      exact ⟨c, hIx _ _ _ _ r h2 hAB (.inl rfl), keepL hAB hrD.2 h3, keepD hAB hrD.1 h4⟩
    · -- one round
      rintro pre x W ⟨h2, h3, h4⟩ hok hsz
      have hlt : D + 1 < W.heap.size := (Array.getElem?_eq_some_iff.1 h3).1
      have hy := run_yield (P := P) (args := encs x) h3 (by rw [hR]; exact hps x)
      rw [hR] at hy
      refine ⟨fn, _, assign, body, hy, roundIn_of_wpIn hfn (hassign _ x W _ fun a' Wa gA hax => ?_)⟩
      have h2a : I pre Wa := hI _ _ _ (some D) h2 (gbut gA _) (.inr ⟨D, rfl, by omega, fun o ho => by rw [h4] at ho; cases ho; rfl⟩)
      have h3a := keepL gA (by simp) h3
      have h4a := keepD gA (by simp) h4
      have kA : KeptP w.heap.size Pr W Wa := ⟨gA.size, fun k h1 _ => gA.block k (by omega) (by simp)⟩
      have hsza := Nat.le_trans hsz gA.size
      have hoka := hOk0 _ _ _ _ hok gA
      have hlta : D + 1 < Wa.heap.size := (Array.getElem?_eq_some_iff.1 h3a).1
      refine ⟨_, run_beginRound h3a (by rw [hR]), ?_⟩
      obtain ⟨o2, ho2⟩ : ∃ o2 : Loop, o2 = { R .ready none with state := .busy } := ⟨_, rfl⟩
      rw [← ho2]
      have gU := putObj_grown Wa (D + 1) (.loop o2)
      have lU : (Wa.putObj (D + 1) (.loop o2)).heap[D + 1]? = some (.loop o2) := World.putObj_heap_same hlta
      have dU := keepD gU (by simp) h4a
      have kU : KeptP w.heap.size Pr W (Wa.putObj (D + 1) (.loop o2)) := kA.trans (KeptP.grown gU hsza (.inr (by omega)))
      refine wpIn_mono (hbody _ pre x a' _ (hI _ _ _ _ h2a gU (.inr ⟨_, rfl, by omega, fun o ho => by rw [h3a] at ho; cases ho; rfl⟩)) (hOk _ _ _ _ _ _ hoka gU h3a rfl) (hAx _ _ _ _ _ _ hax gU h3a rfl) (Nat.le_trans hsza gU.size)) ?_
      have fin : ∀ (jump : Option Code) (W3 : World), KeepsFrom w.heap.size (Wa.putObj (D + 1) (.loop o2)) W3 → KeptP w.heap.size Pr (Wa.putObj (D + 1) (.loop o2)) W3 → ∃ W4, (Instr.endRound (D + 1) jump).run P W3 = .ok (.bool jump.isNone) W4 ∧ W3.grownBy W4 (some (D + 1)) ∧
          W4.heap[D + 1]? = some (.loop (R (if jump.isNone then .ready else .done) jump)) ∧ W4.heap[D]? = some (.deferred (some [])) ∧ KeptP w.heap.size Pr W W4 ∧ (∀ o, W3.heap[D + 1]? = some o → o.isCells = false) := by
        intro jump W3 hk hx
        have l3 := hk.same _ _ (by omega) lU rfl
        have d3 := hk.same _ _ (by omega) dU rfl
        have hrun := run_endRound (P := P) jump l3
        have g4 := putObj_grown W3 (D + 1) (.loop (R (if jump.isNone then .ready else .done) jump))
        refine ⟨_, ?_, g4, World.putObj_heap_same (Array.getElem?_eq_some_iff.1 l3).1, keepD g4 (by simp) d3, (kU.trans hx).trans (KeptP.grown g4 (Nat.le_trans hsza (Nat.le_trans gU.size hx.1)) (.inr (by omega))), fun o ho => by rw [l3] at ho; cases ho; rfl⟩
        rw [hrun, ho2, hR]
      rintro e a3 W3 hp
      cases e with
      | normal =>
        obtain ⟨p1, p2, p3⟩ := hp
        obtain ⟨W4, q1, q2, q3, q4, q5, q6⟩ := fin none W3 p1 p2
        exact ⟨_, _, q1, .inl ⟨rfl, ⟨hI _ _ _ _ p3 q2 (.inr ⟨_, rfl, by omega, q6⟩), q3, q4⟩, q5⟩⟩
      | ret =>
        obtain ⟨p1, p2, p3⟩ := hp
        obtain ⟨W4, q1, q2, q3, q4, q5, q6⟩ := fin (some .ret) W3 p1 p2
        exact ⟨_, _, q1, .inr ⟨rfl, ⟨.ret, hIx _ _ _ _ _ p3 q2 (.inr ⟨_, rfl, by omega, q6⟩), q3, q4⟩, q5⟩⟩
      | exit i =>
        obtain ⟨p1, p2, p3⟩ := hp
        obtain ⟨W4, q1, q2, q3, q4, q5, q6⟩ := fin (some (.exit i)) W3 p1 p2
        exact ⟨_, _, q1, .inr ⟨rfl, ⟨.exit i, hIx _ _ _ _ _ p3 q2 (.inr ⟨_, rfl, by omega, q6⟩), q3, q4⟩, q5⟩⟩
      | goto i =>
        obtain ⟨p1, p2, p3⟩ := hp
        obtain ⟨W4, q1, q2, q3, q4, q5, q6⟩ := fin (some (.goto i)) W3 p1 p2
        exact ⟨_, _, q1, .inr ⟨rfl, ⟨.goto i, hIx _ _ _ _ _ p3 q2 (.inr ⟨_, rfl, by omega, q6⟩), q3, q4⟩, q5⟩⟩
      | panic ch => exact hp.elim
      | outgrown => exact hp.elim
    · -- behind the iterator
      rintro e W2 ⟨⟨v, rfl⟩, (⟨xs, hS, h2, h3, h4⟩ | ⟨pre, hS, c, h2, h3, h4⟩)⟩
      · have hrun := run_endLoop (P := P) h3 (by rw [hR]; simp [rec'])
        have g4 := putObj_grown W2 (D + 1) (.loop { R .ready none with state := .exhausted })
        refine ⟨none, _, by rw [hrun, hR], ?_⟩
        rw [← hR]
        exact hdone D xs W2 _ (by omega) hS (hI _ _ _ _ h2 g4 (.inr ⟨_, rfl, by omega, fun o ho => by rw [h3] at ho; cases ho; rfl⟩)) g4 (keepD g4 (by simp) h4)
      · have hrun := run_endLoop (P := P) h3 (by rw [hR]; simp [rec'])
        have g4 := putObj_grown W2 (D + 1) (.loop { R .done (some c) with state := .exhausted })
        refine ⟨some c, _, by rw [hrun, hR], ?_⟩
        rw [← hR]
        exact hstop D c pre W2 _ (by omega) hS (hIx _ _ _ _ _ h2 g4 (.inr ⟨_, rfl, by omega, fun o ho => by rw [h3] at ho; cases ho; rfl⟩)) g4 (keepD g4 (by simp) h4)

end Go.Proofs.YtpdacbiiaglodaaGreat

/-
  LAYER 5 (norms), plain: a class by a search in ranges that lie in order.
-/
namespace Go.Proofs.YtpdacbiiaglodaaGreat
set_option maxRecDepth 100000

/-- How a range lies to a code point. -/
def cmpv (c : Cls) (r : Int) : Int := if c.1 ≤ r ∧ r ≤ c.2.1 then 0 else if c.1 < r then -1 else if r < c.1 then 1 else 0
theorem cmpv_neg {c : Cls} {r : Int} (h : c.1 ≤ c.2.1) : cmpv c r < 0 ↔ c.2.1 < r := by
  unfold cmpv
  split
  · omega
  · split
    · omega
    · split <;> omega
theorem cmpv_zero {c : Cls} {r : Int} (h : c.1 ≤ c.2.1) : cmpv c r = 0 ↔ c.1 ≤ r ∧ r ≤ c.2.1 := by
  unfold cmpv
  split
  · simp [*]
  · split
    · omega
    · split <;> omega

theorem clsOk_mem : ∀ {c : List Cls} {least : Int}, clsOk least c = true → ∀ (k : Nat) (h : k < c.length), least ≤ c[k].1 ∧ c[k].1 ≤ c[k].2.1 ∧ 1 ≤ c[k].2.2 ∧ c[k].2.2 ≤ 254
  | [], _, _, _, h => by simp at h
  | x :: t, least, h, k, hk => by
    rw [clsOk, Bool.and_eq_true] at h
    have h1 := h.1
    simp only [clOk, Bool.and_eq_true, decide_eq_true_eq] at h1
    cases k with
    | zero => simp; omega
    | succ k =>
      have := clsOk_mem h.2 k (by simpa using hk)
      simp only [List.getElem_cons_succ]
      omega
theorem clsOk_rise : ∀ {c : List Cls} {least : Int}, clsOk least c = true → ∀ (i j : Nat) (hij : i < j) (hj : j < c.length), c[i].2.1 < c[j].1
  | [], _, _, _, _, _, h => by simp at h
  | x :: t, least, h, i, j, hij, hj => by
    rw [clsOk, Bool.and_eq_true] at h
    obtain ⟨j, rfl⟩ : ∃ j', j = j' + 1 := ⟨j - 1, by omega⟩
    cases i with
    | zero =>
      have := clsOk_mem h.2 j (by simpa using hj)
      simp only [List.getElem_cons_zero, List.getElem_cons_succ]
      omega
    | succ i =>
      simp only [List.getElem_cons_succ]
      exact clsOk_rise h.2 i j (by omega) (by simpa using hj)

theorem clsOf_at : ∀ {c : List Cls} {r : Int} (i : Nat) (hi : i < c.length), (∀ (k : Nat) (hk : k < i), ¬ (c[k].1 ≤ r ∧ r ≤ c[k].2.1)) → c[i].1 ≤ r ∧ r ≤ c[i].2.1 → clsOf c r = c[i].2.2
  | [], _, _, hi, _, _ => by simp at hi
  | x :: t, r, 0, _, _, h => by rw [clsOf, if_pos (show x.1 ≤ r ∧ r ≤ x.2.1 from h)]; rfl
  | x :: t, r, i + 1, hi, hn, h => by
    rw [clsOf, if_neg (show ¬ (x.1 ≤ r ∧ r ≤ x.2.1) from hn 0 (by omega))]
    exact clsOf_at i (by simpa using hi) (fun k hk => hn (k + 1) (by omega)) h
theorem clsOf_none : ∀ {c : List Cls} {r : Int}, (∀ (k : Nat) (hk : k < c.length), ¬ (c[k].1 ≤ r ∧ r ≤ c[k].2.1)) → clsOf c r = 0
  | [], _, _ => rfl
  | x :: t, r, h => by
    rw [clsOf, if_neg (show ¬ (x.1 ≤ r ∧ r ≤ x.2.1) from h 0 (by simp))]
    exact clsOf_none (fun k hk => h (k + 1) (by simpa using hk))

/-- What the search comes to. -/
theorem cls_found {c : List Cls} {r : Int} (h : clsOk 0 c = true) (i : Nat) (hi : i ≤ c.length) (h1 : ∀ (k : Nat) (_ : k < i), cmpv (c[k]'(by omega)) r < 0) (h2 : ∀ (k : Nat) (_ : i ≤ k) (hk : k < c.length), ¬ cmpv c[k] r < 0) :
    clsOf c r = if hl : i < c.length then (if cmpv c[i] r = 0 then c[i].2.2 else 0) else 0 := by
  have hlt : ∀ (k : Nat) (_ : k < i), ¬ ((c[k]'(by omega)).1 ≤ r ∧ r ≤ (c[k]'(by omega)).2.1) := fun k hk => by
    have := h1 k hk
    rw [cmpv_neg (clsOk_mem h k (by omega)).2.1] at this
    omega
  split
  · rename_i hl
    split
    · rename_i hz
      rw [cmpv_zero (clsOk_mem h i hl).2.1] at hz
      exact clsOf_at i hl hlt hz
    · rename_i hz
      have hb := h2 i (Nat.le_refl _) hl
      rw [cmpv_neg (clsOk_mem h i hl).2.1] at hb
      rw [cmpv_zero (clsOk_mem h i hl).2.1] at hz
      refine clsOf_none fun k hk => ?_
      rcases Nat.lt_trichotomy k i with h3 | rfl | h3
      · exact hlt k h3
      · omega
      · have := clsOk_rise h i k h3 hk
        have := (clsOk_mem h i hl).2.1
        omega
  · exact clsOf_none fun k hk => hlt k (by omega)
end Go.Proofs.YtpdacbiiaglodaaGreat
