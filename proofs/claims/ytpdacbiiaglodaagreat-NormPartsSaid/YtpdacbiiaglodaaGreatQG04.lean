/-
  LAYER 3 (crc): THE PLAIN MATHEMATICS: a sum's bit, its byte, the table's numbers; that the table's step is eight bits' steps; that steps are one to one. No program is named here.
-/
import Derived.WalkKit
import Derived.OrdersIn
import Derived.OrdersHeld
import Derived.OwnWalkIn
import Derived.RegionIn
import Derived.Deep.RegionHeld
import Derived.Test.YtpdacbiiaglodaaGreatQG03
import Derived.Sort.Defs
namespace Go.Proofs.YtpdacbiiaglodaaGreat
set_option maxRecDepth 100000

/-- One bit of CRC-32C, bits reflected. -/
def rnd (c : Nat) : Nat := if c % 2 = 1 then c / 2 ^^^ 0x82F63B78 else c / 2
def rnds : Nat → Nat → Nat
  | 0, c => c
  | k + 1, c => rnds k (rnd c)

theorem xor_cancel {a b c : Nat} (h : a ^^^ c = b ^^^ c) : a = b := by
  have := congrArg (· ^^^ c) h
  simpa [Nat.xor_assoc] using this
theorem xor_half (a b : Nat) : (a ^^^ b) / 2 = a / 2 ^^^ b / 2 := by
  apply Nat.eq_of_testBit_eq
  intro i
  simp [Nat.testBit_xor, Nat.testBit_div_two]
theorem xor_par (a b : Nat) : (a ^^^ b) % 2 = (a % 2 + b % 2) % 2 := by
  have h := Nat.testBit_xor a b 0
  simp only [Nat.testBit_zero] at h
  rcases Nat.mod_two_eq_zero_or_one a with ha | ha <;> rcases Nat.mod_two_eq_zero_or_one b with hb | hb <;> rcases Nat.mod_two_eq_zero_or_one (a ^^^ b) with hc | hc <;> simp [ha, hb, hc] at h ⊢

theorem rnd_xor (a b : Nat) : rnd (a ^^^ b) = rnd a ^^^ rnd b := by
  unfold rnd
  rw [xor_half]
  have h := xor_par a b
  rcases Nat.mod_two_eq_zero_or_one a with ha | ha <;> rcases Nat.mod_two_eq_zero_or_one b with hb | hb <;> simp only [ha, hb] at h ⊢ <;> simp [h]
  · rw [Nat.xor_assoc]
  · rw [Nat.xor_assoc, Nat.xor_comm (b / 2), Nat.xor_assoc]
  · rw [show a / 2 ^^^ 0x82F63B78 ^^^ (b / 2 ^^^ 0x82F63B78) = a / 2 ^^^ b / 2 ^^^ (0x82F63B78 ^^^ 0x82F63B78) by ac_rfl, Nat.xor_self, Nat.xor_zero]
theorem rnds_xor : ∀ (k a b : Nat), rnds k (a ^^^ b) = rnds k a ^^^ rnds k b
  | 0, _, _ => rfl
  | k + 1, a, b => by rw [rnds, rnds, rnds, rnd_xor]; exact rnds_xor k _ _
theorem rnds_add : ∀ (j k a : Nat), rnds (j + k) a = rnds k (rnds j a)
  | 0, k, a => by rw [Nat.zero_add]; rfl
  | j + 1, k, a => by rw [Nat.add_right_comm]; exact rnds_add j k _
theorem rnd_two (a : Nat) : rnd (2 * a) = a := by unfold rnd; rw [if_neg (by omega)]; omega
theorem rnds_pow : ∀ (k a : Nat), rnds k (2 ^ k * a) = a
  | 0, a => by simp [rnds]
  | k + 1, a => by rw [rnds, Nat.pow_succ', Nat.mul_assoc, rnd_two]; exact rnds_pow k a
theorem rnd_lt {c : Nat} (h : c < 4294967296) : rnd c < 4294967296 := by
  unfold rnd
  split
  · exact Nat.xor_lt_two_pow (n := 32) (by omega) (by decide)
  · omega
theorem rnds_lt : ∀ (k : Nat) {c : Nat}, c < 4294967296 → rnds k c < 4294967296
  | 0, _, h => h
  | k + 1, _, h => rnds_lt k (rnd_lt h)

/-- One byte more. -/
def byt (c x : Nat) : Nat := rnds 8 (c ^^^ x)
theorem byt_lt {c x : Nat} (h : c < 4294967296) (hx : x < 256) : byt c x < 4294967296 := rnds_lt 8 (Nat.xor_lt_two_pow (n := 32) h (by omega))

theorem split_low (n : Nat) : n = (256 * (n / 256)) ^^^ (n % 256) := by
  apply Nat.eq_of_testBit_eq
  intro i
  rw [Nat.testBit_xor, show (256 : Nat) = 2 ^ 8 from rfl, Nat.testBit_mod_two_pow, Nat.testBit_two_pow_mul, Nat.testBit_div_two_pow]
  by_cases h : 8 ≤ i
  · simp [h, show ¬ i < 8 by omega, show i - 8 + 8 = i by omega]
  · simp [h, show i < 8 by omega]
theorem xor_div256 (a b : Nat) (hb : b < 256) : (a ^^^ b) / 256 = a / 256 := by
  apply Nat.eq_of_testBit_eq
  intro i
  rw [show (256 : Nat) = 2 ^ 8 from rfl, Nat.testBit_div_two_pow, Nat.testBit_div_two_pow, Nat.testBit_xor, Nat.testBit_lt_two_pow (x := b) (i := i + 8) (Nat.lt_of_lt_of_le hb (by rw [show 256 = 2 ^ 8 from rfl]; exact Nat.pow_le_pow_right (by decide) (by omega)))]
  simp
theorem xor_mod256 (a b : Nat) (hb : b < 256) : (a ^^^ b) % 256 = a % 256 ^^^ b := by
  rw [show (256 : Nat) = 2 ^ 8 from rfl, Nat.xor_mod_two_pow, Nat.mod_eq_of_lt (a := b) (by simpa using hb)]
/-- The table's step is eight bits' steps. -/
theorem byt_table (c x : Nat) (hx : x < 256) : byt c x = c / 256 ^^^ rnds 8 (c % 256 ^^^ x) := by
  unfold byt
  rw [split_low (c ^^^ x), rnds_xor, show 256 = 2 ^ 8 from rfl, rnds_pow, ← show 256 = 2 ^ 8 from rfl, xor_div256 _ _ hx, xor_mod256 _ _ hx]

/-- Bytes more. -/
def bytes (c : Nat) (bs : List UInt8) : Nat := bs.foldl (fun c u => byt c u.toNat) c
theorem bytes_snoc (c : Nat) (bs : List UInt8) (u : UInt8) : bytes c (bs ++ [u]) = byt (bytes c bs) u.toNat := by simp [bytes]
theorem bytes_append (c : Nat) (a b : List UInt8) : bytes c (a ++ b) = bytes (bytes c a) b := by simp [bytes]
theorem bytes_lt : ∀ (bs : List UInt8) {c : Nat}, c < 4294967296 → bytes c bs < 4294967296
  | [], _, h => h
  | u :: bs, _, h => bytes_lt bs (byt_lt h u.toNat_lt)

def not32 (c : Nat) : Nat := 4294967295 - c
theorem not32_not32 {c : Nat} (h : c < 4294967296) : not32 (not32 c) = c := by unfold not32; omega
theorem not32_lt (c : Nat) : not32 c < 4294967296 := by unfold not32; omega
/-- Extend, Sum. -/
def ext (s : Nat) (bs : List UInt8) : Nat := not32 (bytes (not32 s) bs)
def sum (bs : List UInt8) : Nat := ext 0 bs
theorem ext_lt (s : Nat) (bs : List UInt8) : ext s bs < 4294967296 := not32_lt _
theorem ext_ext (s : Nat) (a b : List UInt8) : ext (ext s a) b = ext s (a ++ b) := by
  unfold ext
  rw [not32_not32 (bytes_lt a (not32_lt s)), bytes_append]

/-- Steps are one to one. -/
theorem rnd_inj {a b : Nat} (ha : a < 4294967296) (hb : b < 4294967296) (h : rnd a = rnd b) : a = b := by
  have top : ∀ c : Nat, c < 4294967296 → (rnd c).testBit 31 = decide (c % 2 = 1) := by
    intro c hc
    unfold rnd
    have h0 : (c / 2).testBit 31 = false := Nat.testBit_lt_two_pow (by rw [show (2 : Nat) ^ 31 = 2147483648 from rfl]; omega)
    split
    · rename_i h1
      rw [Nat.testBit_xor, h0, show Nat.testBit 0x82F63B78 31 = true by decide]
      simp [h1]
    · rename_i h1
      simp [h0, h1]
  have hp : decide (a % 2 = 1) = decide (b % 2 = 1) := by rw [← top a ha, ← top b hb, h]
  unfold rnd at h
  by_cases h1 : a % 2 = 1
  · have h2 : b % 2 = 1 := by simpa [h1] using hp
    rw [if_pos h1, if_pos h2] at h
    have := xor_cancel h
    omega
  · have h2 : ¬ b % 2 = 1 := by simpa [h1] using hp
    rw [if_neg h1, if_neg h2] at h
    omega
theorem rnds_inj : ∀ (k : Nat) {a b : Nat}, a < 4294967296 → b < 4294967296 → rnds k a = rnds k b → a = b
  | 0, _, _, _, _, h => h
  | k + 1, _, _, ha, hb, h => rnd_inj ha hb (rnds_inj k (rnd_lt ha) (rnd_lt hb) h)
theorem byt_inj {a b x : Nat} (ha : a < 4294967296) (hb : b < 4294967296) (hx : x < 256) (h : byt a x = byt b x) : a = b := by
  have := rnds_inj 8 (Nat.xor_lt_two_pow (n := 32) ha (by omega)) (Nat.xor_lt_two_pow (n := 32) hb (by omega)) h
  exact xor_cancel this
theorem bytes_inj : ∀ (bs : List UInt8) {a b : Nat}, a < 4294967296 → b < 4294967296 → bytes a bs = bytes b bs → a = b
  | [], _, _, _, _, h => h
  | u :: bs, _, _, ha, hb, h => byt_inj ha hb u.toNat_lt (bytes_inj bs (byt_lt ha u.toNat_lt) (byt_lt hb u.toNat_lt) h)

/-- Mask, Unmask. -/
def rotR (s : Nat) : Nat := s / 32768 + s % 32768 * 131072
def rotL (t : Nat) : Nat := t % 131072 * 32768 + t / 131072
theorem rotR_lt {s : Nat} (h : s < 4294967296) : rotR s < 4294967296 := by unfold rotR; omega
theorem rotL_lt {s : Nat} (h : s < 4294967296) : rotL s < 4294967296 := by unfold rotL; omega
theorem rotL_rotR {s : Nat} (h : s < 4294967296) : rotL (rotR s) = s := by unfold rotL rotR; omega
theorem rotR_rotL {s : Nat} (h : s < 4294967296) : rotR (rotL s) = s := by unfold rotL rotR; omega
theorem shl17 (s : Nat) : s * 131072 % 4294967296 = s % 32768 * 131072 := by omega
theorem shl15 (s : Nat) : s * 32768 % 4294967296 = s % 131072 * 32768 := by omega
def mask (s : Nat) : Nat := (rotR s + 0xA282EAD8) % 4294967296
def unmask (m : Nat) : Nat := rotL ((m + 4294967296 - 0xA282EAD8) % 4294967296)
theorem unmask_mask {s : Nat} (h : s < 4294967296) : unmask (mask s) = s := by
  have h1 := rotR_lt h
  unfold unmask mask
  rw [show ((rotR s + 0xA282EAD8) % 4294967296 + 4294967296 - 0xA282EAD8) % 4294967296 = rotR s by omega]
  exact rotL_rotR h
theorem mask_unmask {m : Nat} (h : m < 4294967296) : mask (unmask m) = m := by
  unfold unmask mask
  rw [rotR_rotL (by omega)]
  omega
theorem mask_lt (s : Nat) : mask s < 4294967296 := Nat.mod_lt _ (by decide)
theorem unmask_lt (m : Nat) : unmask m < 4294967296 := rotL_lt (Nat.mod_lt _ (by decide))
end Go.Proofs.YtpdacbiiaglodaaGreat

/-
  A REGION THAT DRAWS ITS ORDER, INSIDE A FENCE AND INSIDE A ROUND OF A RANGE OVER A FUNCTION, WHOSE READS ARE TAKEN FIRST: as 'wpAnyH' (the library's law for the walk without a fence), for 'wpIn', of operations that defer nothing. No program is named here.
-/
namespace Go.Proofs.YtpdacbiiaglodaaGreat
set_option maxRecDepth 100000
open Go.RowKit

section
variable {F : Fence} {n : Nat} {P : Program} {ops : Array Oper} {Q : Exit → Act → World → Prop} {md : Region.Mode} {S : World → Prop}

/-- In every world that meets S the operation leaves v in its slot and turns nothing; it is about to call nothing. -/
def HeldAt (P : Program) (ops : Array Oper) (S : World → Prop) (o : Oper) (v : Value) (a : Act) : Prop := YieldsIf P ops S o v a ∧ ∀ w, o.about P w a.eval = none

theorem HeldAt.step {i : Nat} {o : Oper} {v : Value} {a : Act} (hi : ops[i]? = some o) (hnd : ∀ c, o.op ≠ .defer c) (hy : HeldAt P ops S o v a)
    {K : Act → World → Prop} {w : World} (hS : S w) (h : K (a.put o.dst v) w) : wpOpIn F n P ops Q i K a w := by
  have hab : ∀ f, o.about P w a.eval = some f → F.fn f := fun f hf => by rw [hy.2 w] at hf; cases hf
  unfold wpOpIn
  simp only [hi]
  rcases hy.1 with ⟨h1, h2⟩ | ⟨h1, rfl⟩
  · rw [if_pos h1]
    refine ⟨hab, ?_⟩
    rw [Oper.semAt_plain F _ _ hnd, h2 w hS]
    exact h
  · rw [if_neg (by simp [h1])]
    exact ⟨hab, h⟩

theorem HeldAt.other {o : Oper} {v : Value} {a a' : Act} (hy : HeldAt P ops S o v a) (he : execOp a'.eval o = execOp a.eval o)
    (hw : Region.wanted o (yielded ops a'.tmps) = Region.wanted o (yielded ops a.tmps)) (hb : ∀ w, o.about P w a'.eval = o.about P w a.eval) : HeldAt P ops S o v a' :=
  ⟨hy.1.of_same he hw, fun w => (hb w).trans (hy.2 w)⟩

/-- An operation apart from one that is held: it may come up first. -/
theorem wpOpIn_ahead {j : Nat} {oi oj : Oper} {v : Value} (hj : ops[j]? = some oj) (hnd : ∀ c, oj.op ≠ .defer c) (hap : oi.apart ops oj = true) (hsi : ∀ cs b, oi.op ≠ .select cs b) (hsj : ∀ cs b, oj.op ≠ .select cs b)
    (hQ : ∀ c a w, Q (.panic c) (a.put oi.dst v) w → Q (.panic c) a w) {K : Act → World → Prop} {a : Act} {w : World} (hy : HeldAt P ops S oi v a)
    (h : wpOpIn F n P ops Q j K (a.put oi.dst v) w) : wpOpIn F n P ops Q j (fun a' w' => HeldAt P ops S oi v a' ∧ K (a'.put oi.dst v) w') a w := by
  obtain ⟨k1, k2, k3⟩ := Oper.apart_spec hap
  have stays : ∀ (a : Act), HeldAt P ops S oi v a → ∀ u, HeldAt P ops S oi v (a.put oj.dst u) := fun a hy u => hy.other (execOp_put oi hsi a oj.dst u k3) (wanted_put oi a oj.dst u k3) (fun w => about_put oi w a oj.dst u k3)
  have turn : ∀ (a : Act) u, (a.put oj.dst u).put oi.dst v = (a.put oi.dst v).put oj.dst u := fun a u => (Act.put_comm a v u k2).symm
  have staysD : ∀ d, HeldAt P ops S oi v { a with defers := d :: a.defers } := fun d => hy.other rfl rfl (fun _ => rfl)
  unfold wpOpIn at h ⊢
  simp only [hj] at h ⊢
  rw [wanted_put oj a oi.dst v k1, about_put oj w a oi.dst v k1] at h
  by_cases hw : Region.wanted oj (yielded ops a.tmps) = true
  · rw [if_pos hw] at h ⊢
    obtain ⟨h0, h⟩ := h
    rw [about_put oj w a oi.dst v k1] at h0
    refine ⟨h0, ?_⟩
    rw [Oper.semAt_plain F _ _ hnd, execOp_put oj hsj a oi.dst v k1] at h
    rw [Oper.semAt_plain F _ _ hnd]
    cases hr : (execOp a.eval oj).run P w with
    | ok x w' =>
      rw [hr] at h
      cases x <;> simp only [Oper.uponIn] at h ⊢
      case value u => exact ⟨stays a hy u, by rw [turn]; exact h⟩
      case skip => exact ⟨stays a hy _, by rw [turn]; exact h⟩
      case defer d => exact ⟨(staysD d).other (execOp_put oi hsi _ oj.dst _ k3) (wanted_put oi _ oj.dst _ k3) (fun w => about_put oi w _ oj.dst _ k3), by rw [turn, ← Act.put_defers]; exact h⟩
      case enter f args =>
        refine ⟨h.1, h.2.mono fun e w'' he => ?_⟩
        cases e with
        | returned u => exact ⟨stays a hy u, by rw [turn]; exact he⟩
        | panicked c => exact hQ _ _ _ he
        | outgrown => exact he
      case row row args => exact ⟨h.1, h.2.mono fun u w'' he => ⟨stays a hy u, by rw [turn]; exact he⟩⟩
      case round l f tmps assign body =>
        refine ⟨h.1, h.2.mono fun e w'' he => ?_⟩
        cases e with
        | returned u => exact ⟨stays a hy u, by rw [turn]; exact he⟩
        | panicked c => exact hQ _ _ _ he
        | outgrown => exact he
    | halt x w' =>
      rw [hr] at h
      cases x <;> simp only [Oper.uponIn] at h ⊢
      case panic u => exact hQ _ _ _ h
  · rw [if_neg hw] at h ⊢
    exact ⟨h.1, stays a hy _, by rw [turn]; exact h.2⟩

/-- Whatever order is picked from here on; S is shown behind each operation that is carried out. -/
def wpAnyHIn (F : Fence) (n : Nat) (P : Program) (md : Region.Mode) (ops : Array Oper) (Q : Exit → Act → World → Prop) (S : World → Prop) : Nat → Array Bool → Act → World → Prop
  | 0, listed, a, w => Region.ready md ops listed = [] ∧ Q .normal a w
  | k + 1, listed, a, w => (Region.ready md ops listed = [] → Q .normal a w) ∧
    ∀ i ∈ Region.ready md ops listed, wpOpIn F n P ops Q i (fun a' w' => S w' ∧ wpAnyHIn F n P md ops Q S k (listed.setIfInBounds i true) a' w') a w

theorem wpAnyIn_of_held : ∀ (k : Nat) (listed : Array Bool) (a : Act) (w : World), wpAnyHIn F n P md ops Q S k listed a w → wpAnyIn F n P md ops Q k listed a w
  | 0, _, _, _, h => h
  | k + 1, _, _, _, h => ⟨h.1, fun i hi => wpOpIn_mono (fun a' w' h' => wpAnyIn_of_held k _ a' w' h'.2) (h.2 i hi)⟩

theorem wpAnyHIn_first {i : Nat} {oi : Oper} {v : Value} (hi : ops[i]? = some oi) (hnd : noDefer ops.toList = true) (hsel : ∀ (j : Nat) (o : Oper) cs b, ops[j]? = some o → o.op ≠ .select cs b)
    (hQ : ∀ c a w, Q (.panic c) (a.put oi.dst v) w → Q (.panic c) a w) :
    ∀ (k : Nat) (listed : Array Bool) (a : Act) (w : World),
      (∀ j oj, ops[j]? = some oj → j ≠ i → listed.getD j true = false → (∀ e ∈ oj.after, Region.binds md e = true → e.on ≠ i) → oi.apart ops oj = true) →
      i ∈ Region.ready md ops listed → HeldAt P ops S oi v a → S w →
      wpAnyHIn F n P md ops Q S k (listed.setIfInBounds i true) (a.put oi.dst v) w → wpAnyHIn F n P md ops Q S (k + 1) listed a w
  | k, listed, a, w, hfree, hr, hy, hS, H => by
    refine ⟨fun h => (by rw [h] at hr; cases hr), fun j hj => ?_⟩
    by_cases hji : j = i
    · subst hji
      exact hy.step hi (noDefer_at hnd hi) hS ⟨hS, H⟩
    · have hj2 := ready_mono hj hji
      cases k with
      | zero => rw [H.1] at hj2; cases hj2
      | succ k =>
        obtain ⟨hjun, oj, hoj, hall⟩ := mem_ready.1 hj
        have hnot : ∀ e ∈ oj.after, Region.binds md e = true → e.on ≠ i := fun e he hb heq => by
          have h1 := hall e he hb
          have h0 := (mem_ready.1 hr).1
          rw [heq] at h1
          rw [Array.getD_eq_getD_getElem?] at h0 h1
          cases hl : listed[i]? with
          | none => rw [hl] at h1; cases h1
          | some b => rw [hl] at h0 h1; simp at h0 h1; rw [h0] at h1; cases h1
        refine wpOpIn_mono (fun a' w' h3 => ⟨h3.2.1, ?_⟩) (wpOpIn_ahead hoj (noDefer_at hnd hoj) (hfree j oj hoj hji hjun hnot) (fun cs b => hsel i oi cs b hi) (fun cs b => hsel j oj cs b hoj) hQ hy (H.2 j hj2))
        refine wpAnyHIn_first hi hnd hsel hQ k (listed.setIfInBounds j true) a' w' (fun q oq hq hqi hun hno => hfree q oq hq hqi ?_ hno) (ready_mono hr (Ne.symm hji)) h3.1 h3.2.1 ?_
        · by_cases hjq : j = q
          · subst hjq; exact hjun
          · rwa [getD_set_ne true hjq] at hun
        · rw [Array.setIfInBounds_comm _ _ hji]
          exact h3.2.2

/-- Number i is taken first. -/
theorem wpAnyHIn_take {i : Nat} {oi : Oper} {v : Value} {k : Nat} {listed : Array Bool} {a : Act} {w : World} (hi : ops[i]? = some oi) (hnd : noDefer ops.toList = true) (hs : Region.noSelect ops = true) (hf : Region.free md ops listed i = true)
    (hr : (Region.ready md ops listed).contains i = true) (hQ : ∀ c a w, Q (.panic c) (a.put oi.dst v) w → Q (.panic c) a w) (hb : ∀ w, oi.about P w a.eval = none) (hy : YieldsIf P ops S oi v a) (hS : S w)
    (h : wpAnyHIn F n P md ops Q S k (listed.setIfInBounds i true) (a.put oi.dst v) w) : wpAnyHIn F n P md ops Q S (k + 1) listed a w :=
  wpAnyHIn_first hi hnd (Region.noSelect_spec hs) hQ k listed a w (Region.free_spec hi hf) (by simpa using hr) ⟨hy, hb⟩ hS h

/-- Number i alone may come up. -/
theorem wpAnyHIn_next {i : Nat} {o : Oper} {k : Nat} {listed : Array Bool} {a : Act} {w : World} (hr : Region.ready md ops listed = [i]) (ho : ops[i]? = some o) (hw : Region.wanted o (yielded ops a.tmps) = true)
    (h : ∀ K' : Act → World → Prop, Shut (∀ a w, S w → (S w → wpAnyHIn F n P md ops Q S k (listed.setIfInBounds i true) a w) → K' a w) → Oper.wpIn F n P o a w K' Q) : wpAnyHIn F n P md ops Q S (k + 1) listed a w := by
  refine ⟨fun h0 => (by rw [hr] at h0; cases h0), fun j hj => ?_⟩
  rw [hr] at hj
  obtain rfl : j = i := by simpa using hj
  unfold wpOpIn
  simp only [ho]
  rw [if_pos hw]
  exact h _ (fun a w hS hW => ⟨hS, hW hS⟩)
theorem wpAnyHIn_done {listed : Array Bool} {a : Act} {w : World} (hr : Region.ready md ops listed = []) (h : Q .normal a w) : ∀ k, wpAnyHIn F n P md ops Q S k listed a w
  | 0 => ⟨hr, h⟩
  | _ + 1 => ⟨fun _ => h, by rw [hr]; simp⟩
theorem wpIn_region_held {id : Nat} {a : Act} {w : World} (hm : P.follows .mixedOrders = true) (hS : S w.drew) (h : S w.drew → wpAnyHIn F n P .any ops Q S ops.size (Array.replicate ops.size false) a w.drew) : (Code.region id ops true).wpIn F n P Q a w :=
  wpIn_region_any hm (wpAnyIn_of_held _ _ _ _ (h hS))
end
end Go.Proofs.YtpdacbiiaglodaaGreat

/-
  LAYER 6 (norm), plain: lists sorted stably by a key; exchanges in a row, as lists; insertion. No program, no world.
-/
namespace Go.Proofs.YtpdacbiiaglodaaGreat
set_option maxRecDepth 100000
open Go.Sort

section
variable {α : Type} (key : α → Int)

def Srt (l : List α) : Prop := l.Pairwise fun x y => key x ≤ key y
/-- M has, of each key, what L has, in its order. -/
def Flt (L M : List α) : Prop := ∀ k, M.filter (fun x => decide (key x = k)) = L.filter (fun x => decide (key x = k))
/-- M is L, sorted stably. -/
def StM (L M : List α) : Prop := Flt key L M ∧ Srt key M ∧ M.length = L.length

theorem Flt.refl (L : List α) : Flt key L L := fun _ => rfl
variable {key}
theorem Flt.trans {L M N : List α} (h : Flt key L M) (g : Flt key M N) : Flt key L N := fun k => (g k).trans (h k)
theorem Flt.append {L M L' M' : List α} (h : Flt key L M) (g : Flt key L' M') : Flt key (L ++ L') (M ++ M') := fun k => by rw [List.filter_append, List.filter_append, h k, g k]
theorem Flt.mem {L M : List α} (h : Flt key L M) {x : α} : x ∈ M ↔ x ∈ L := by
  have := h (key x)
  constructor
  · intro hx
    have : x ∈ L.filter (fun y => decide (key y = key x)) := by rw [← this]; exact List.mem_filter.2 ⟨hx, by simp⟩
    exact (List.mem_filter.1 this).1
  · intro hx
    have : x ∈ M.filter (fun y => decide (key y = key x)) := by rw [this]; exact List.mem_filter.2 ⟨hx, by simp⟩
    exact (List.mem_filter.1 this).1
/-- Two lists whose elements of one stand strictly below those of the other may be exchanged. -/
theorem Flt.comm {A B : List α} (h : ∀ x ∈ A, ∀ y ∈ B, key y < key x) : Flt key (A ++ B) (B ++ A) := fun k => by
  rw [List.filter_append, List.filter_append]
  by_cases ha : A.filter (fun x => decide (key x = k)) = []
  · rw [ha]; simp
  · by_cases hb : B.filter (fun x => decide (key x = k)) = []
    · rw [hb]; simp
    · exfalso
      obtain ⟨x, hx⟩ := List.exists_mem_of_ne_nil _ ha
      obtain ⟨y, hy⟩ := List.exists_mem_of_ne_nil _ hb
      have h1 := List.mem_filter.1 hx
      have h2 := List.mem_filter.1 hy
      have := h x h1.1 y h2.1
      have e1 := of_decide_eq_true h1.2
      have e2 := of_decide_eq_true h2.2
      omega

theorem StM.trans {L M N : List α} (h : Flt key L M) (hl : M.length = L.length) (g : StM key M N) : StM key L N := ⟨h.trans g.1, g.2.1, g.2.2.trans hl⟩
theorem StM.self {L : List α} (h : Srt key L) : StM key L L := ⟨Flt.refl key L, h, rfl⟩

theorem srt_append {A B : List α} : Srt key (A ++ B) ↔ Srt key A ∧ Srt key B ∧ ∀ x ∈ A, ∀ y ∈ B, key x ≤ key y := List.pairwise_append

theorem srt_lastOf {S : List α} (hs : Srt key S) {z : α} (hz : S.getLast? = some z) : ∀ y ∈ S, key y ≤ key z := by
  intro y hy
  obtain ⟨S', rfl⟩ := List.getLast?_eq_some_iff.1 hz
  rcases List.mem_append.1 hy with h1 | h1
  · exact (srt_append.1 hs).2.2 y h1 z (by simp)
  · rw [List.mem_singleton.1 h1]; exact Int.le_refl _
theorem srt_headOf {S : List α} (hs : Srt key S) {z : α} (hz : S.head? = some z) : ∀ y ∈ S, key z ≤ key y := by
  intro y hy
  cases S with
  | nil => simp at hz
  | cons a t =>
    cases hz
    rcases List.mem_cons.1 hy with rfl | h1
    · exact Int.le_refl _
    · exact (List.pairwise_cons.1 hs).1 y h1
theorem last_of_mem {S : List α} {y : α} (h : y ∈ S) : ∃ z, S.getLast? = some z := by
  cases hs : S.getLast? with
  | none => rw [List.getLast?_eq_none_iff.1 hs] at h; simp at h
  | some z => exact ⟨z, rfl⟩
theorem head_of_mem {S : List α} {y : α} (h : y ∈ S) : ∃ z, S.head? = some z := by
  cases S with
  | nil => simp at h
  | cons a t => exact ⟨a, rfl⟩
/-- Two halves, each merged, are the whole, merged. -/
theorem merge_halves {U1 U2 V1 V2 M1 M2 : List α} (hU : Srt key (U1 ++ U2)) (hV : Srt key (V1 ++ V2)) (h1 : StM key (U1 ++ V1) M1) (h2 : StM key (U2 ++ V2) M2)
    (hx : ∀ v, V1.getLast? = some v → ∀ u, U2.head? = some u → key v < key u) (hy : ∀ u, U1.getLast? = some u → ∀ v, V2.head? = some v → key u ≤ key v) :
    StM key ((U1 ++ U2) ++ (V1 ++ V2)) (M1 ++ M2) := by
  have a := srt_append.1 hU
  have b := srt_append.1 hV
  have lo : ∀ v ∈ V1, ∀ u ∈ U2, key v < key u := by
    intro v hv u hu
    obtain ⟨v', e1⟩ := last_of_mem hv
    obtain ⟨u', e2⟩ := head_of_mem hu
    have := srt_lastOf b.1 e1 v hv
    have := srt_headOf a.2.1 e2 u hu
    have := hx v' e1 u' e2
    omega
  have up : ∀ u ∈ U1, ∀ v ∈ V2, key u ≤ key v := by
    intro u hu v hv
    obtain ⟨u', e1⟩ := last_of_mem hu
    obtain ⟨v', e2⟩ := head_of_mem hv
    have := srt_lastOf a.1 e1 u hu
    have := srt_headOf b.2.1 e2 v hv
    have := hy u' e1 v' e2
    omega
  refine ⟨?_, ?_, ?_⟩
  · have e : Flt key (U1 ++ ((U2 ++ V1) ++ V2)) (U1 ++ ((V1 ++ U2) ++ V2)) := Flt.append (Flt.refl key U1) (Flt.append (Flt.comm fun u hu v hv => lo v hv u hu) (Flt.refl key V2))
    have := Flt.append h1.1 h2.1
    rw [show U1 ++ ((U2 ++ V1) ++ V2) = (U1 ++ U2) ++ (V1 ++ V2) by simp, show U1 ++ ((V1 ++ U2) ++ V2) = (U1 ++ V1) ++ (U2 ++ V2) by simp] at e
    exact e.trans this
  · refine srt_append.2 ⟨h1.2.1, h2.2.1, ?_⟩
    intro x hx1 y hy1
    rcases List.mem_append.1 ((h1.1.mem).1 hx1) with p | p <;> rcases List.mem_append.1 ((h2.1.mem).1 hy1) with q | q
    · exact a.2.2 x p y q
    · exact up x p y q
    · have := lo x p y q; omega
    · exact b.2.2 x p y q
  · have := h1.2.2; have := h2.2.2; simp only [List.length_append] at *; omega

/-- One list only is sorted so. -/
theorem srt_unique : ∀ {M N : List α}, Srt key M → Srt key N → Flt key M N → M = N
  | [], N, _, _, h => by
    cases N with
    | nil => rfl
    | cons y t =>
      exfalso
      have := (h.mem (x := y)).1 (by simp)
      simp at this
  | x :: t, N, hM, hN, h => by
    cases N with
    | nil =>
      exfalso
      have := (h.mem (x := x)).2 (by simp)
      simp at this
    | cons y u =>
      have h1 := List.pairwise_cons.1 hM
      have h2 := List.pairwise_cons.1 hN
      have k1 : key y ≤ key x := by
        rcases List.mem_cons.1 ((h.mem (x := x)).2 (by simp)) with e | hx
        · rw [e]; exact Int.le_refl _
        · exact h2.1 x hx
      have k2 : key x ≤ key y := by
        rcases List.mem_cons.1 ((h.mem (x := y)).1 (by simp)) with e | hx
        · rw [e]; exact Int.le_refl _
        · exact h1.1 y hx
      have e : key x = key y := by omega
      have hk := h (key x)
      rw [List.filter_cons, List.filter_cons, if_pos (by simp [e]), if_pos (by simp)] at hk
      have exy : y = x := (List.cons.inj hk).1
      subst exy
      have ht : Flt key t u := fun k => by
        have := h k
        rw [List.filter_cons, List.filter_cons] at this
        split at this
        · exact (List.cons.inj this).2
        · exact this
      rw [srt_unique h1.2 h2.2 ht]
theorem StM.unique {L M N : List α} (h : StM key L M) (g : StM key L N) : M = N := srt_unique h.2.1 g.2.1 (fun k => (g.1 k).trans (h.1 k).symm)
end

section
variable {α : Type} [Inhabited α]

/-- An exchange, as lists. -/
theorem swp_list (d : Array α) (S T R : List α) (p q : α) (h : d.toList = S ++ p :: (T ++ q :: R)) : (swp d S.length (S.length + 1 + T.length)).toList = S ++ q :: (T ++ p :: R) := by
  have hs : d.size = S.length + 1 + T.length + 1 + R.length := by
    rw [← Array.length_toList, h]; simp; omega
  have e1 : d[S.length]! = p := by
    rw [getElem!_pos d S.length (by omega), ← Array.getElem_toList]; simp [h]
  have e2 : d[S.length + 1 + T.length]! = q := by
    rw [getElem!_pos d _ (by omega), ← Array.getElem_toList]
    simp only [h]
    rw [List.getElem_append_right (by omega)]
    simp only [show S.length + 1 + T.length - S.length = T.length + 1 by omega, List.getElem_cons_succ]
    rw [List.getElem_append_right (by omega)]
    simp
  unfold swp
  rw [e1, e2, Array.toList_setIfInBounds, Array.toList_setIfInBounds, h, List.set_append_right _ _ (by omega)]
  simp only [Nat.sub_self, List.set_cons_zero]
  rw [List.set_append_right _ _ (by omega)]
  simp only [show S.length + 1 + T.length - S.length = T.length + 1 by omega, List.set_cons_succ]
  rw [List.set_append_right _ _ (by omega)]
  simp
theorem swp_comm (d : Array α) (i j : Nat) : swp d i j = swp d j i := by
  by_cases e : i = j
  · rw [e]
  · apply Array.ext'
    unfold swp
    rw [Array.toList_setIfInBounds, Array.toList_setIfInBounds, Array.toList_setIfInBounds, Array.toList_setIfInBounds]
    exact List.set_comm _ _ e
theorem swp_list' (d : Array α) (S T R : List α) (p q : α) (h : d.toList = S ++ p :: (T ++ q :: R)) : (swp d (S.length + 1 + T.length) S.length).toList = S ++ q :: (T ++ p :: R) := by
  rw [swp_comm d _ _]
  exact swp_list d S T R p q h
theorem at_list (d : Array α) (S R : List α) (p : α) (h : d.toList = S ++ p :: R) : d[S.length]! = p := by
  have hs : d.size = S.length + 1 + R.length := by
    rw [← Array.length_toList, h]; simp; omega
  rw [getElem!_pos d S.length (by omega), ← Array.getElem_toList]; simp [h]
omit [Inhabited α] in
theorem size_list (d : Array α) (L : List α) (h : d.toList = L) : d.size = L.length := by rw [← h]; simp

/-! ### Insertion -/
variable {key : α → Int} {lt : α → α → Bool}
theorem insInner_list (hlt : ∀ x y, lt x y = true ↔ key x < key y) (X : List α) (x : α) : ∀ (n : Nat) (S R : List α) (d : Array α), S.length = n → d.toList = X ++ (S ++ x :: R) →
    ∃ S1 S2, S = S1 ++ S2 ∧ (∀ y ∈ S2, key x < key y) ∧ (∀ y, S1.getLast? = some y → key y ≤ key x) ∧ (insInner lt X.length (X.length + S.length) d).toList = X ++ (S1 ++ x :: (S2 ++ R))
  | 0, S, R, d, hn, h => by
    have : S = [] := List.length_eq_zero_iff.1 hn
    subst this
    refine ⟨[], [], rfl, by simp, by simp, ?_⟩
    have : insInner lt X.length (X.length + ([] : List α).length) d = d := by
      simp only [List.length_nil, Nat.add_zero]
      cases hX : X.length with
      | zero => rfl
      | succ k => rw [insInner]; simp
    rw [this, h]
    simp
  | n + 1, S, R, d, hn, h => by
    obtain ⟨S', y, rfl⟩ : ∃ S' y, S = S' ++ [y] := ⟨S.dropLast, S.getLast (by intro e; rw [e] at hn; simp at hn), (List.dropLast_concat_getLast _).symm⟩
    have hl : S'.length = n := by simpa using hn
    have h' : d.toList = (X ++ S') ++ y :: ([] ++ x :: R) := by rw [h]; simp
    have hx : d[X.length + S'.length + 1]! = x := by
      have := at_list d (X ++ S' ++ [y]) R x (by rw [h]; simp)
      simpa [Nat.add_assoc] using this
    have hy : d[X.length + S'.length]! = y := by
      have := at_list d (X ++ S') (x :: R) y (by rw [h]; simp)
      simpa using this
    rw [show X.length + (S' ++ [y]).length = (X.length + S'.length) + 1 by simp; omega, insInner, hx, hy]
    by_cases hc : key x < key y
    · rw [if_pos (by rw [(hlt x y).2 hc]; simp; omega)]
      have hsw := swp_list' d (X ++ S') [] R y x h'
      simp only [List.length_nil, Nat.add_zero, List.length_append] at hsw
      obtain ⟨S1, S2, rfl, q1, q2, q3⟩ := insInner_list hlt X x n S' (y :: R) (swp d (X.length + S'.length + 1) (X.length + S'.length)) hl (by rw [hsw]; simp)
      refine ⟨S1, S2 ++ [y], by simp, ?_, q2, ?_⟩
      · intro z hz
        rcases List.mem_append.1 hz with hz | hz
        · exact q1 z hz
        · rw [List.mem_singleton.1 hz]; exact hc
      · rw [q3]; simp
    · rw [if_neg (by rw [show lt x y = false by rw [← Bool.not_eq_true]; exact fun e => hc ((hlt x y).1 e)]; simp)]
      refine ⟨S' ++ [y], [], by simp, by simp, ?_, ?_⟩
      · intro z hz
        simp at hz
        subst hz
        omega
      · rw [h]; simp

omit [Inhabited α] in
theorem srt_last {S : List α} (hs : Srt key S) {x : α} (h : ∀ y, S.getLast? = some y → key y ≤ key x) : ∀ y ∈ S, key y ≤ key x := by
  intro y hy
  have hne : S ≠ [] := by intro e; rw [e] at hy; simp at hy
  obtain ⟨S', z, rfl⟩ : ∃ S' z, S = S' ++ [z] := ⟨S.dropLast, S.getLast hne, (List.dropLast_concat_getLast _).symm⟩
  have hz := h z (by simp)
  rcases List.mem_append.1 hy with h1 | h1
  · have := (srt_append.1 hs).2.2 y h1 z (by simp)
    omega
  · rw [List.mem_singleton.1 h1]; exact hz

omit [Inhabited α] in
/-- An element laid into a sorted list behind all that are not greater. -/
theorem StM.insert {L S S1 S2 : List α} {x : α} (h : StM key L S) (e : S = S1 ++ S2) (h2 : ∀ y ∈ S2, key x < key y) (h1 : ∀ y, S1.getLast? = some y → key y ≤ key x) : StM key (L ++ [x]) (S1 ++ x :: S2) := by
  subst e
  have hs := srt_append.1 h.2.1
  have h1' := srt_last hs.1 h1
  have hlen := h.2.2
  refine ⟨?_, ?_, by simp at hlen ⊢; omega⟩
  · refine (Flt.append h.1 (Flt.refl key [x])).trans ?_
    have : Flt key (S1 ++ (S2 ++ [x])) (S1 ++ ([x] ++ S2)) := Flt.append (Flt.refl key S1) (Flt.comm (fun a ha b hb => by rw [List.mem_singleton.1 hb]; exact h2 a ha))
    rw [List.append_assoc]
    exact this
  · refine srt_append.2 ⟨hs.1, List.pairwise_cons.2 ⟨fun y hy => by have := h2 y hy; omega, hs.2.1⟩, ?_⟩
    intro a ha b hb
    rcases List.mem_cons.1 hb with rfl | hb
    · exact h1' a ha
    · have := h1' a ha
      have := h2 b hb
      omega

theorem insOuter_list (hlt : ∀ x y, lt x y = true ↔ key x < key y) (X Y : List α) : ∀ (n : Nat) (T L S : List α) (d : Array α), T.length = n → d.toList = X ++ (S ++ (T ++ Y)) → StM key L S →
    ∃ M, StM key (L ++ T) M ∧ (insOuter lt X.length (X.length + S.length + T.length) (X.length + S.length) d).toList = X ++ (M ++ Y)
  | 0, T, L, S, d, hn, h, hS => by
    have : T = [] := List.length_eq_zero_iff.1 hn
    subst this
    refine ⟨S, by simpa using hS, ?_⟩
    rw [insOuter, if_neg (by simp), h]
    simp
  | n + 1, T, L, S, d, hn, h, hS => by
    cases T with
    | nil => simp at hn
    | cons x T =>
      have hl : T.length = n := by simpa using hn
      rw [insOuter, if_pos (by simp)]
      obtain ⟨S1, S2, e, q1, q2, q3⟩ := insInner_list hlt X x S.length S (T ++ Y) d rfl (by rw [h]; simp)
      have hM := hS.insert e q1 q2
      have hlen : (S1 ++ x :: S2).length = S.length + 1 := by rw [e]; simp; omega
      obtain ⟨M, m1, m2⟩ := insOuter_list hlt X Y n T (L ++ [x]) (S1 ++ x :: S2) (insInner lt X.length (X.length + S.length) d) hl (by rw [q3]; simp) hM
      refine ⟨M, by simpa using m1, ?_⟩
      rw [hlen] at m2
      rw [show X.length + S.length + (x :: T).length = X.length + (S.length + 1) + T.length by simp; omega]
      exact m2
theorem insertion_list (hlt : ∀ x y, lt x y = true ↔ key x < key y) (X T Y : List α) (d : Array α) (h : d.toList = X ++ (T ++ Y)) :
    ∃ M, StM key T M ∧ (Sort.insertionSort lt d X.length (X.length + T.length)).toList = X ++ (M ++ Y) := by
  cases T with
  | nil =>
    refine ⟨[], StM.self List.Pairwise.nil, ?_⟩
    rw [Sort.insertionSort, insOuter, if_neg (by simp), h]
  | cons x T =>
    obtain ⟨M, m1, m2⟩ := insOuter_list hlt X Y T.length T [x] [x] d rfl (by rw [h]; simp) (StM.self (List.pairwise_singleton _ _))
    refine ⟨M, by simpa using m1, ?_⟩
    rw [Sort.insertionSort]
    simp only [List.length_cons, List.length_nil, Nat.zero_add] at m2 ⊢
    rw [show X.length + (T.length + 1) = X.length + 1 + T.length by omega]
    exact m2
end
end Go.Proofs.YtpdacbiiaglodaaGreat

/-
  LAYER 6 (norm), plain: ranges exchanged and turned, one exchange at a time. No program, no world.
-/
namespace Go.Proofs.YtpdacbiiaglodaaGreat
set_option maxRecDepth 100000
open Go.Sort

section
variable {α : Type} [Inhabited α]
omit [Inhabited α] in
theorem take_step {l : List α} {i : Nat} (h : i < l.length) : l.take (i + 1) = l.take i ++ [l[i]] := by rw [List.take_add_one]; simp [h]
theorem swapRange_step (X P Z Q Y : List α) (d : Array α) (i : Nat) (hi : i < P.length) (he : P.length = Q.length) (hd : d.toList = X ++ (Q.take i ++ (P.drop i ++ (Z ++ (P.take i ++ (Q.drop i ++ Y)))))) :
    (swp d (X.length + i) (X.length + P.length + Z.length + i)).toList = X ++ (Q.take (i + 1) ++ (P.drop (i + 1) ++ (Z ++ (P.take (i + 1) ++ (Q.drop (i + 1) ++ Y))))) := by
  have hq : i < Q.length := by omega
  rw [List.drop_eq_getElem_cons hi, List.drop_eq_getElem_cons hq] at hd
  have := swp_list d (X ++ Q.take i) (P.drop (i + 1) ++ (Z ++ P.take i)) (Q.drop (i + 1) ++ Y) P[i] Q[i] (by rw [hd]; simp only [List.append_assoc, List.cons_append])
  have e1 : (X ++ Q.take i).length = X.length + i := by simp; omega
  have e2 : X.length + i + 1 + (P.drop (i + 1) ++ (Z ++ P.take i)).length = X.length + P.length + Z.length + i := by simp; omega
  rw [e1, e2] at this
  rw [this, take_step hi, take_step hq]
  simp only [List.append_assoc, List.cons_append, List.nil_append]
end
end Go.Proofs.YtpdacbiiaglodaaGreat

/-
  LAYER 6 (norm), plain: the merge in place, its searches and its steps. No program, no world.
-/
namespace Go.Proofs.YtpdacbiiaglodaaGreat
set_option maxRecDepth 100000
open Go.Sort

/-! ### A search by halves -/
/-- Between lo and hi p holds below i, and from j on it doesn't. -/
def Srch (p : Nat → Prop) (lo hi i j : Nat) : Prop := lo ≤ i ∧ i ≤ j ∧ j ≤ hi ∧ (∀ h, lo ≤ h → h < i → p h) ∧ (∀ h, j ≤ h → h < hi → ¬ p h)
def Mono (p : Nat → Prop) (lo hi : Nat) : Prop := ∀ h h', lo ≤ h' → h' ≤ h → h < hi → p h → p h'
theorem Srch.start {p : Nat → Prop} {lo hi : Nat} (h : lo ≤ hi) : Srch p lo hi lo hi := ⟨Nat.le_refl _, h, Nat.le_refl _, fun _ h1 h2 => by omega, fun _ h1 h2 => by omega⟩
theorem Srch.up {p : Nat → Prop} {lo hi i j : Nat} (h : Srch p lo hi i j) (hm : Mono p lo hi) (hij : i < j) (hp : p ((i + j) / 2)) : Srch p lo hi ((i + j) / 2 + 1) j := by
  obtain ⟨h1, h2, h3, h4, h5⟩ := h
  exact ⟨by omega, by omega, h3, fun x a b => hm ((i + j) / 2) x a (by omega) (by omega) hp, h5⟩
theorem Srch.down {p : Nat → Prop} {lo hi i j : Nat} (h : Srch p lo hi i j) (hm : Mono p lo hi) (hij : i < j) (hp : ¬ p ((i + j) / 2)) : Srch p lo hi i ((i + j) / 2) := by
  obtain ⟨h1, h2, h3, h4, h5⟩ := h
  exact ⟨h1, by omega, by omega, h4, fun x a b hx => hp (hm x ((i + j) / 2) (by omega) a b hx)⟩

section
variable {α : Type} [Inhabited α] {key : α → Int}

theorem srt_at {d : Array α} {X S Y : List α} (h : d.toList = X ++ (S ++ Y)) (hs : Srt key S) (i j : Nat) (h1 : X.length ≤ i) (h2 : i ≤ j) (h3 : j < X.length + S.length) : key d[i]! ≤ key d[j]! := by
  have hl : d.size = X.length + S.length + Y.length := by rw [size_list d _ h]; simp; omega
  have e : ∀ x (h1 : X.length ≤ x) (h3 : x < X.length + S.length), d[x]! = S[x - X.length]'(by omega) := by
    intro x p q
    rw [getElem!_pos d x (by omega), ← Array.getElem_toList]
    simp only [h]
    rw [List.getElem_append_right p, List.getElem_append_left (by omega)]
  rw [e i h1 (by omega), e j (by omega) h3]
  rcases Nat.lt_or_ge i j with hij | hij
  · exact List.pairwise_iff_getElem.1 hs _ _ _ _ (by omega)
  · obtain rfl : i = j := by omega
    exact Int.le_refl _
theorem at_of {d : Array α} {X S Y : List α} (h : d.toList = X ++ (S ++ Y)) (x : Nat) (h1 : X.length ≤ x) (h3 : x < X.length + S.length) : S[x - X.length]? = some d[x]! := by
  have hl : d.size = X.length + S.length + Y.length := by rw [size_list d _ h]; simp; omega
  rw [getElem!_pos d x (by omega), ← Array.getElem_toList]
  simp only [h]
  rw [List.getElem_append_right h1, List.getElem_append_left (by omega)]
  exact List.getElem?_eq_getElem _

/-! ### One element, laid into what lies behind it -/
theorem one_step (X V1 R : List α) (u : α) (d : Array α) (t : Nat) (ht : t < V1.length) (hd : d.toList = X ++ (V1.take t ++ u :: (V1.drop t ++ R))) :
    (swp d (X.length + t) (X.length + t + 1)).toList = X ++ (V1.take (t + 1) ++ u :: (V1.drop (t + 1) ++ R)) := by
  rw [List.drop_eq_getElem_cons ht] at hd
  have := swp_list d (X ++ V1.take t) [] (V1.drop (t + 1) ++ R) u V1[t] (by rw [hd]; simp only [List.append_assoc, List.cons_append, List.nil_append])
  rw [show (X ++ V1.take t).length = X.length + t by simp; omega, List.length_nil, Nat.add_zero] at this
  rw [this, take_step ht]
  simp only [List.append_assoc, List.cons_append, List.nil_append]
theorem last_step (X U2 R : List α) (v : α) (d : Array α) (t : Nat) (ht : t < U2.length) (hd : d.toList = X ++ (U2.take (t + 1) ++ v :: (U2.drop (t + 1) ++ R))) :
    (swp d (X.length + t + 1) (X.length + t)).toList = X ++ (U2.take t ++ v :: (U2.drop t ++ R)) := by
  rw [take_step ht] at hd
  have := swp_list' d (X ++ U2.take t) [] (U2.drop (t + 1) ++ R) U2[t] v (by rw [hd]; simp only [List.append_assoc, List.cons_append, List.nil_append])
  rw [show (X ++ U2.take t).length = X.length + t by simp; omega, List.length_nil, Nat.add_zero] at this
  rw [this, List.drop_eq_getElem_cons ht]
  simp only [List.append_assoc, List.cons_append, List.nil_append]

omit [Inhabited α] in
theorem srt_take {S : List α} (h : Srt key S) (n : Nat) : Srt key (S.take n) := (srt_append.1 (by rw [List.take_append_drop]; exact h : Srt key (S.take n ++ S.drop n))).1
omit [Inhabited α] in
theorem srt_drop {S : List α} (h : Srt key S) (n : Nat) : Srt key (S.drop n) := (srt_append.1 (by rw [List.take_append_drop]; exact h : Srt key (S.take n ++ S.drop n))).2.1
omit [Inhabited α] in
theorem stm_one {u : α} {V V1 V2 : List α} (hV : Srt key V) (e : V = V1 ++ V2) (h1 : ∀ v ∈ V1, key v < key u) (h2 : ∀ v ∈ V2, key u ≤ key v) : StM key ([u] ++ V) (V1 ++ u :: V2) := by
  subst e
  have a := srt_append.1 hV
  refine ⟨?_, ?_, by simp; omega⟩
  · have : Flt key (([u] ++ V1) ++ V2) ((V1 ++ [u]) ++ V2) := Flt.append (Flt.comm fun x hx y hy => by rw [List.mem_singleton.1 hx]; exact h1 y hy) (Flt.refl key V2)
    simpa using this
  · refine srt_append.2 ⟨a.1, List.pairwise_cons.2 ⟨h2, a.2.1⟩, ?_⟩
    intro x hx y hy
    rcases List.mem_cons.1 hy with rfl | hy
    · have := h1 x hx; omega
    · exact a.2.2 x hx y hy
omit [Inhabited α] in
theorem stm_last {v : α} {U U1 U2 : List α} (hU : Srt key U) (e : U = U1 ++ U2) (h1 : ∀ u ∈ U1, key u ≤ key v) (h2 : ∀ u ∈ U2, key v < key u) : StM key (U ++ [v]) (U1 ++ v :: U2) := by
  subst e
  have a := srt_append.1 hU
  refine ⟨?_, ?_, by simp⟩
  · have : Flt key (U1 ++ (U2 ++ [v])) (U1 ++ ([v] ++ U2)) := Flt.append (Flt.refl key U1) (Flt.comm fun x hx y hy => by rw [List.mem_singleton.1 hy]; exact h2 x hx)
    simpa using this
  · refine srt_append.2 ⟨a.1, List.pairwise_cons.2 ⟨fun y hy => by have := h2 y hy; omega, a.2.1⟩, ?_⟩
    intro x hx y hy
    rcases List.mem_cons.1 hy with rfl | hy
    · exact h1 x hx
    · exact a.2.2 x hx y hy
/-- What the first search finds. -/
theorem found_one {d : Array α} {X V Y : List α} {u : α} (hd : d.toList = X ++ ([u] ++ (V ++ Y))) (i : Nat) (hs : Srch (fun h => key d[h]! < key d[X.length]!) (X.length + 1) (X.length + 1 + V.length) i i) :
    (∀ v ∈ V.take (i - (X.length + 1)), key v < key u) ∧ (∀ v ∈ V.drop (i - (X.length + 1)), key u ≤ key v) := by
  obtain ⟨h1, _, h3, h4, h5⟩ := hs
  have hu : d[X.length]! = u := at_list d X (V ++ Y) u (by rw [hd]; simp)
  have hd' : d.toList = (X ++ [u]) ++ (V ++ Y) := by rw [hd]; simp
  have hat : ∀ k (hk : k < V.length), d[X.length + 1 + k]! = V[k] := by
    intro k hk
    have := at_of hd' (X.length + 1 + k) (by simp) (by simp; omega)
    simp only [List.length_append, List.length_singleton, Nat.add_sub_cancel_left] at this
    rw [List.getElem?_eq_getElem hk] at this
    exact (Option.some.inj this).symm
  rw [hu] at h4 h5
  constructor
  · intro v hv
    obtain ⟨k, hk, rfl⟩ := List.mem_take_iff_getElem.1 hv
    have := h4 (X.length + 1 + k) (by omega) (by omega)
    dsimp only at this
    rwa [hat k (by omega)] at this
  · intro v hv
    obtain ⟨k, hk, rfl⟩ := List.mem_drop_iff_getElem.1 hv
    have := h5 (X.length + 1 + (i - (X.length + 1) + k)) (by omega) (by omega)
    dsimp only at this
    rw [hat _ (by omega)] at this
    exact Int.not_lt.1 this
theorem found_last {d : Array α} {X U Y : List α} {v : α} (hd : d.toList = X ++ (U ++ ([v] ++ Y))) (i : Nat) (hs : Srch (fun h => key d[h]! ≤ key d[X.length + U.length]!) X.length (X.length + U.length) i i) :
    (∀ u ∈ U.take (i - X.length), key u ≤ key v) ∧ (∀ u ∈ U.drop (i - X.length), key v < key u) := by
  obtain ⟨h1, _, h3, h4, h5⟩ := hs
  have hu : d[X.length + U.length]! = v := by
    have := at_list d (X ++ U) Y v (by rw [hd]; simp)
    simpa using this
  have hat : ∀ k (hk : k < U.length), d[X.length + k]! = U[k] := by
    intro k hk
    have := at_of hd (X.length + k) (by omega) (by omega)
    rw [Nat.add_sub_cancel_left, List.getElem?_eq_getElem hk] at this
    exact (Option.some.inj this).symm
  rw [hu] at h4 h5
  constructor
  · intro u hv
    obtain ⟨k, hk, rfl⟩ := List.mem_take_iff_getElem.1 hv
    have := h4 (X.length + k) (by omega) (by omega)
    dsimp only at this
    rwa [hat k (by omega)] at this
  · intro u hv
    obtain ⟨k, hk, rfl⟩ := List.mem_drop_iff_getElem.1 hv
    have := h5 (X.length + (i - X.length + k)) (by omega) (by omega)
    dsimp only at this
    rw [hat _ (by omega)] at this
    exact Int.not_le.1 this
theorem mono_one {d : Array α} {X V Y : List α} {u : α} (hd : d.toList = X ++ ([u] ++ (V ++ Y))) (hV : Srt key V) : Mono (fun h => key d[h]! < key d[X.length]!) (X.length + 1) (X.length + 1 + V.length) := by
  intro h h' h1 h2 h3 hp
  have := srt_at (X := X ++ [u]) (S := V) (Y := Y) (by rw [hd]; simp) hV h' h (by simpa using h1) h2 (by simpa using h3)
  show key d[h']! < _
  have hp' : key d[h]! < key d[X.length]! := hp
  omega
theorem mono_last {d : Array α} {X U Y : List α} {v : α} (hd : d.toList = X ++ (U ++ ([v] ++ Y))) (hU : Srt key U) : Mono (fun h => key d[h]! ≤ key d[X.length + U.length]!) X.length (X.length + U.length) := by
  intro h h' h1 h2 h3 hp
  have := srt_at hd hU h' h h1 h2 h3
  have hp' : key d[h]! ≤ key d[X.length + U.length]! := hp
  show key d[h']! ≤ _
  omega

/-! ### The halves -/
/-- Where the third search begins and how far it goes. -/
def lo0 (a m b mid : Nat) : Nat := if mid < m then mid + m - b else a
def up0 (m mid : Nat) : Nat := if mid < m then mid else m
theorem mono_mid {d : Array α} {X U V Y : List α} (hd : d.toList = X ++ (U ++ (V ++ Y))) (hU : Srt key U) (hV : Srt key V) (a m b mid : Nat) (ha : a = X.length) (hm : m = a + U.length) (hb : b = m + V.length) (hmid : mid = (a + b) / 2) :
    Mono (fun c => key d[c]! ≤ key d[mid + m - 1 - c]!) (lo0 a m b mid) (up0 m mid) := by
  intro h h' h1 h2 h3 hp
  have hd' : d.toList = (X ++ U) ++ (V ++ Y) := by rw [hd]; simp
  have b1 : a ≤ lo0 a m b mid := by unfold lo0; split <;> omega
  have b2 : h < m ∧ h < mid + 0 ∨ h < m ∧ m ≤ mid := by unfold up0 at h3; split at h3 <;> omega
  have b3 : mid + m ≤ b + h' := by unfold lo0 at h1; split at h1 <;> omega
  have x1 := srt_at hd hU h' h (by omega) h2 (by omega)
  have x2 := srt_at hd' hV (mid + m - 1 - h) (mid + m - 1 - h') (by simp; omega) (by omega) (by simp; omega)
  have hp' : key d[h]! ≤ key d[mid + m - 1 - h]! := hp
  show key d[h']! ≤ _
  omega
/-- The place s that the third search finds parts both lists. -/
theorem found_mid {d : Array α} {X U V Y : List α} (hd : d.toList = X ++ (U ++ (V ++ Y))) (a m b mid s : Nat) (ha : a = X.length) (hm : m = a + U.length) (hb : b = m + V.length) (hmid : mid = (a + b) / 2)
    (hs : Srch (fun c => key d[c]! ≤ key d[mid + m - 1 - c]!) (lo0 a m b mid) (up0 m mid) s s) :
    a ≤ s ∧ s ≤ m ∧ s ≤ mid ∧ m ≤ mid + m - s ∧ mid + m - s ≤ b ∧
    (∀ v, (V.take (mid - s)).getLast? = some v → ∀ u, (U.drop (s - a)).head? = some u → key v < key u) ∧
    (∀ u, (U.take (s - a)).getLast? = some u → ∀ v, (V.drop (mid - s)).head? = some v → key u ≤ key v) := by
  obtain ⟨h1, _, h3, h4, h5⟩ := hs
  have hd' : d.toList = (X ++ U) ++ (V ++ Y) := by rw [hd]; simp
  have b1 : a ≤ s := by unfold lo0 at h1; split at h1 <;> omega
  have b2 : s ≤ m ∧ s ≤ mid := by unfold up0 at h3; split at h3 <;> omega
  have b3 : mid + m ≤ b + s := by unfold lo0 at h1; split at h1 <;> omega
  refine ⟨b1, b2.1, b2.2, by omega, by omega, ?_, ?_⟩
  · intro v hv u hu
    rw [List.getLast?_eq_getElem?, List.length_take] at hv
    have hvl := (List.getElem?_eq_some_iff.1 hv).1
    rw [List.length_take] at hvl
    have hml : min (mid - s) V.length = mid - s := by omega
    rw [hml, List.getElem?_take_of_lt (by omega)] at hv
    rw [List.head?_drop] at hu
    have hul := (List.getElem?_eq_some_iff.1 hu).1
    have hlt : s < up0 m mid := by unfold up0; split <;> omega
    have := h5 s (Nat.le_refl _) hlt
    dsimp only at this
    have e1 := at_of hd s (by omega) (by omega)
    rw [show s - X.length = s - a by omega, hu] at e1
    have e2 := at_of hd' (mid + m - 1 - s) (by simp; omega) (by simp; omega)
    rw [show mid + m - 1 - s - (X ++ U).length = mid - s - 1 by simp; omega, hv] at e2
    rw [← Option.some.inj e1, ← Option.some.inj e2] at this
    omega
  · intro u hu v hv
    rw [List.getLast?_eq_getElem?, List.length_take] at hu
    have hul := (List.getElem?_eq_some_iff.1 hu).1
    rw [List.length_take] at hul
    have hml : min (s - a) U.length = s - a := by omega
    rw [hml, List.getElem?_take_of_lt (by omega)] at hu
    rw [List.head?_drop] at hv
    have hvl := (List.getElem?_eq_some_iff.1 hv).1
    have hlt : lo0 a m b mid ≤ s - 1 := by unfold lo0; split <;> omega
    have := h4 (s - 1) hlt (by omega)
    dsimp only at this
    have e1 := at_of hd (s - 1) (by omega) (by omega)
    rw [show s - 1 - X.length = s - a - 1 by omega, hu] at e1
    have e2 := at_of hd' (mid + m - 1 - (s - 1)) (by simp; omega) (by simp; omega)
    rw [show mid + m - 1 - (s - 1) - (X ++ U).length = mid - s by simp; omega, hv] at e2
    rw [← Option.some.inj e1, ← Option.some.inj e2] at this
    omega
end
end Go.Proofs.YtpdacbiiaglodaaGreat
