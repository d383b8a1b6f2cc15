/-
  LAYER 3 (crc): THE PLAIN MATHEMATICS: a sum's bit, its byte, the table's numbers; that the table's step is eight bits' steps; that steps are one to one. No program is named here.
-/
import Derived.WalkKit
import Derived.OrdersIn
import Derived.OrdersHeld
import Derived.OwnWalkIn
import Derived.RegionIn
import Derived.Deep.RegionHeld
import Derived.Test.YtpdacbiiaglodaaGreatQA03
namespace Go.Proofs.YtpdacbiiaglodaaGreat
set_option maxRecDepth 100000

/-- One bit of CRC-32C, bits reflected. -/
def rnd (c : Nat) : Nat := if c % 2 = 1 then c / 2 ^^^ 0x82F63B78 else c / 2
def rnds : Nat → Nat → Nat
  | 0, c => c
  | k + 1, c => rnds k (rnd c)

theorem xor_cancel {a b c : Nat} (h : a ^^^ c = b ^^^ c) : a = b := by
  have := congrArg (· ^^^ c) h
  simpa [Nat.xor_assoc] using this
theorem xor_half (a b : Nat) : (a ^^^ b) / 2 = a / 2 ^^^ b / 2 := by
  apply Nat.eq_of_testBit_eq
  intro i
  simp [Nat.testBit_xor, Nat.testBit_div_two]
theorem xor_par (a b : Nat) : (a ^^^ b) % 2 = (a % 2 + b % 2) % 2 := by
  have h := Nat.testBit_xor a b 0
  simp only [Nat.testBit_zero] at h
  rcases Nat.mod_two_eq_zero_or_one a with ha | ha <;> rcases Nat.mod_two_eq_zero_or_one b with hb | hb <;> rcases Nat.mod_two_eq_zero_or_one (a ^^^ b) with hc | hc <;> simp [ha, hb, hc] at h ⊢

theorem rnd_xor (a b : Nat) : rnd (a ^^^ b) = rnd a ^^^ rnd b := by
  unfold rnd
  rw [xor_half]
  have h := xor_par a b
  rcases Nat.mod_two_eq_zero_or_one a with ha | ha <;> rcases Nat.mod_two_eq_zero_or_one b with hb | hb <;> simp only [ha, hb] at h ⊢ <;> simp [h]
  · rw [Nat.xor_assoc]
  · rw [Nat.xor_assoc, Nat.xor_comm (b / 2), Nat.xor_assoc]
  · rw [show a / 2 ^^^ 0x82F63B78 ^^^ (b / 2 ^^^ 0x82F63B78) = a / 2 ^^^ b / 2 ^^^ (0x82F63B78 ^^^ 0x82F63B78) by ac_rfl, Nat.xor_self, Nat.xor_zero]
theorem rnds_xor : ∀ (k a b : Nat), rnds k (a ^^^ b) = rnds k a ^^^ rnds k b
  | 0, _, _ => rfl
  | k + 1, a, b => by rw [rnds, rnds, rnds, rnd_xor]; exact rnds_xor k _ _
theorem rnds_add : ∀ (j k a : Nat), rnds (j + k) a = rnds k (rnds j a)
  | 0, k, a => by rw [Nat.zero_add]; rfl
  | j + 1, k, a => by rw [Nat.add_right_comm]; exact rnds_add j k _
theorem rnd_two (a : Nat) : rnd (2 * a) = a := by unfold rnd; rw [if_neg (by omega)]; omega
theorem rnds_pow : ∀ (k a : Nat), rnds k (2 ^ k * a) = a
  | 0, a => by simp [rnds]
  | k + 1, a => by rw [rnds, Nat.pow_succ', Nat.mul_assoc, rnd_two]; exact rnds_pow k a
theorem rnd_lt {c : Nat} (h : c < 4294967296) : rnd c < 4294967296 := by
  unfold rnd
  split
  · exact Nat.xor_lt_two_pow (n := 32) (by omega) (by decide)
  · omega
theorem rnds_lt : ∀ (k : Nat) {c : Nat}, c < 4294967296 → rnds k c < 4294967296
  | 0, _, h => h
  | k + 1, _, h => rnds_lt k (rnd_lt h)

/-- One byte more. -/
def byt (c x : Nat) : Nat := rnds 8 (c ^^^ x)
theorem byt_lt {c x : Nat} (h : c < 4294967296) (hx : x < 256) : byt c x < 4294967296 := rnds_lt 8 (Nat.xor_lt_two_pow (n := 32) h (by omega))

theorem split_low (n : Nat) : n = (256 * (n / 256)) ^^^ (n % 256) := by
  apply Nat.eq_of_testBit_eq
  intro i
  rw [Nat.testBit_xor, show (256 : Nat) = 2 ^ 8 from rfl, Nat.testBit_mod_two_pow, Nat.testBit_two_pow_mul, Nat.testBit_div_two_pow]
  by_cases h : 8 ≤ i
  · simp [h, show ¬ i < 8 by omega, show i - 8 + 8 = i by omega]
  · simp [h, show i < 8 by omega]
theorem xor_div256 (a b : Nat) (hb : b < 256) : (a ^^^ b) / 256 = a / 256 := by
  apply Nat.eq_of_testBit_eq
  intro i
  rw [show (256 : Nat) = 2 ^ 8 from rfl, Nat.testBit_div_two_pow, Nat.testBit_div_two_pow, Nat.testBit_xor, Nat.testBit_lt_two_pow (x := b) (i := i + 8) (Nat.lt_of_lt_of_le hb (by rw [show 256 = 2 ^ 8 from rfl]; exact Nat.pow_le_pow_right (by decide) (by omega)))]
  simp
theorem xor_mod256 (a b : Nat) (hb : b < 256) : (a ^^^ b) % 256 = a % 256 ^^^ b := by
  rw [show (256 : Nat) = 2 ^ 8 from rfl, Nat.xor_mod_two_pow, Nat.mod_eq_of_lt (a := b) (by simpa using hb)]
/-- The table's step is eight bits' steps. -/
theorem byt_table (c x : Nat) (hx : x < 256) : byt c x = c / 256 ^^^ rnds 8 (c % 256 ^^^ x) := by
  unfold byt
  rw [split_low (c ^^^ x), rnds_xor, show 256 = 2 ^ 8 from rfl, rnds_pow, ← show 256 = 2 ^ 8 from rfl, xor_div256 _ _ hx, xor_mod256 _ _ hx]

/-- Bytes more. -/
def bytes (c : Nat) (bs : List UInt8) : Nat := bs.foldl (fun c u => byt c u.toNat) c
theorem bytes_snoc (c : Nat) (bs : List UInt8) (u : UInt8) : bytes c (bs ++ [u]) = byt (bytes c bs) u.toNat := by simp [bytes]
theorem bytes_append (c : Nat) (a b : List UInt8) : bytes c (a ++ b) = bytes (bytes c a) b := by simp [bytes]
theorem bytes_lt : ∀ (bs : List UInt8) {c : Nat}, c < 4294967296 → bytes c bs < 4294967296
  | [], _, h => h
  | u :: bs, _, h => bytes_lt bs (byt_lt h u.toNat_lt)

def not32 (c : Nat) : Nat := 4294967295 - c
theorem not32_not32 {c : Nat} (h : c < 4294967296) : not32 (not32 c) = c := by unfold not32; omega
theorem not32_lt (c : Nat) : not32 c < 4294967296 := by unfold not32; omega
/-- Extend, Sum. -/
def ext (s : Nat) (bs : List UInt8) : Nat := not32 (bytes (not32 s) bs)
def sum (bs : List UInt8) : Nat := ext 0 bs
theorem ext_lt (s : Nat) (bs : List UInt8) : ext s bs < 4294967296 := not32_lt _
theorem ext_ext (s : Nat) (a b : List UInt8) : ext (ext s a) b = ext s (a ++ b) := by
  unfold ext
  rw [not32_not32 (bytes_lt a (not32_lt s)), bytes_append]

/-- Steps are one to one. -/
theorem rnd_inj {a b : Nat} (ha : a < 4294967296) (hb : b < 4294967296) (h : rnd a = rnd b) : a = b := by
  have top : ∀ c : Nat, c < 4294967296 → (rnd c).testBit 31 = decide (c % 2 = 1) := by
    intro c hc
    unfold rnd
    have h0 : (c / 2).testBit 31 = false := Nat.testBit_lt_two_pow (by rw [show (2 : Nat) ^ 31 = 2147483648 from rfl]; omega)
    split
    · rename_i h1
      rw [Nat.testBit_xor, h0, show Nat.testBit 0x82F63B78 31 = true by decide]
      simp [h1]
    · rename_i h1
      simp [h0, h1]
  have hp : decide (a % 2 = 1) = decide (b % 2 = 1) := by rw [← top a ha, ← top b hb, h]
  unfold rnd at h
  by_cases h1 : a % 2 = 1
  · have h2 : b % 2 = 1 := by simpa [h1] using hp
    rw [if_pos h1, if_pos h2] at h
    have := xor_cancel h
    omega
  · have h2 : ¬ b % 2 = 1 := by simpa [h1] using hp
    rw [if_neg h1, if_neg h2] at h
    omega
theorem rnds_inj : ∀ (k : Nat) {a b : Nat}, a < 4294967296 → b < 4294967296 → rnds k a = rnds k b → a = b
  | 0, _, _, _, _, h => h
  | k + 1, _, _, ha, hb, h => rnd_inj ha hb (rnds_inj k (rnd_lt ha) (rnd_lt hb) h)
theorem byt_inj {a b x : Nat} (ha : a < 4294967296) (hb : b < 4294967296) (hx : x < 256) (h : byt a x = byt b x) : a = b := by
  have := rnds_inj 8 (Nat.xor_lt_two_pow (n := 32) ha (by omega)) (Nat.xor_lt_two_pow (n := 32) hb (by omega)) h
  exact xor_cancel this
theorem bytes_inj : ∀ (bs : List UInt8) {a b : Nat}, a < 4294967296 → b < 4294967296 → bytes a bs = bytes b bs → a = b
  | [], _, _, _, _, h => h
  | u :: bs, _, _, ha, hb, h => byt_inj ha hb u.toNat_lt (bytes_inj bs (byt_lt ha u.toNat_lt) (byt_lt hb u.toNat_lt) h)

/-- Mask, Unmask. -/
def rotR (s : Nat) : Nat := s / 32768 + s % 32768 * 131072
def rotL (t : Nat) : Nat := t % 131072 * 32768 + t / 131072
theorem rotR_lt {s : Nat} (h : s < 4294967296) : rotR s < 4294967296 := by unfold rotR; omega
theorem rotL_lt {s : Nat} (h : s < 4294967296) : rotL s < 4294967296 := by unfold rotL; omega
theorem rotL_rotR {s : Nat} (h : s < 4294967296) : rotL (rotR s) = s := by unfold rotL rotR; omega
theorem rotR_rotL {s : Nat} (h : s < 4294967296) : rotR (rotL s) = s := by unfold rotL rotR; omega
theorem shl17 (s : Nat) : s * 131072 % 4294967296 = s % 32768 * 131072 := by omega
theorem shl15 (s : Nat) : s * 32768 % 4294967296 = s % 131072 * 32768 := by omega
def mask (s : Nat) : Nat := (rotR s + 0xA282EAD8) % 4294967296
def unmask (m : Nat) : Nat := rotL ((m + 4294967296 - 0xA282EAD8) % 4294967296)
theorem unmask_mask {s : Nat} (h : s < 4294967296) : unmask (mask s) = s := by
  have h1 := rotR_lt h
  unfold unmask mask
  rw [show ((rotR s + 0xA282EAD8) % 4294967296 + 4294967296 - 0xA282EAD8) % 4294967296 = rotR s by omega]
  exact rotL_rotR h
theorem mask_unmask {m : Nat} (h : m < 4294967296) : mask (unmask m) = m := by
  unfold unmask mask
  rw [rotR_rotL (by omega)]
  omega
theorem mask_lt (s : Nat) : mask s < 4294967296 := Nat.mod_lt _ (by decide)
theorem unmask_lt (m : Nat) : unmask m < 4294967296 := rotL_lt (Nat.mod_lt _ (by decide))
end Go.Proofs.YtpdacbiiaglodaaGreat

/-
  A REGION THAT DRAWS ITS ORDER, INSIDE A FENCE AND INSIDE A ROUND OF A RANGE OVER A FUNCTION, WHOSE READS ARE TAKEN FIRST: as 'wpAnyH' (the library's law for the walk without a fence), for 'wpIn', of operations that defer nothing. No program is named here.
-/
namespace Go.Proofs.YtpdacbiiaglodaaGreat
set_option maxRecDepth 100000
open Go.RowKit

section
variable {F : Fence} {n : Nat} {P : Program} {ops : Array Oper} {Q : Exit → Act → World → Prop} {md : Region.Mode} {S : World → Prop}

/-- In every world that meets S the operation leaves v in its slot and turns nothing; it is about to call nothing. -/
def HeldAt (P : Program) (ops : Array Oper) (S : World → Prop) (o : Oper) (v : Value) (a : Act) : Prop := YieldsIf P ops S o v a ∧ ∀ w, o.about P w a.eval = none

theorem HeldAt.step {i : Nat} {o : Oper} {v : Value} {a : Act} (hi : ops[i]? = some o) (hnd : ∀ c, o.op ≠ .defer c) (hy : HeldAt P ops S o v a)
    {K : Act → World → Prop} {w : World} (hS : S w) (h : K (a.put o.dst v) w) : wpOpIn F n P ops Q i K a w := by
  have hab : ∀ f, o.about P w a.eval = some f → F.fn f := fun f hf => by rw [hy.2 w] at hf; cases hf
  unfold wpOpIn
  simp only [hi]
  rcases hy.1 with ⟨h1, h2⟩ | ⟨h1, rfl⟩
  · rw [if_pos h1]
    refine ⟨hab, ?_⟩
    rw [Oper.semAt_plain F _ _ hnd, h2 w hS]
    exact h
  · rw [if_neg (by simp [h1])]
    exact ⟨hab, h⟩

theorem HeldAt.other {o : Oper} {v : Value} {a a' : Act} (hy : HeldAt P ops S o v a) (he : execOp a'.eval o = execOp a.eval o)
    (hw : Region.wanted o (yielded ops a'.tmps) = Region.wanted o (yielded ops a.tmps)) (hb : ∀ w, o.about P w a'.eval = o.about P w a.eval) : HeldAt P ops S o v a' :=
  ⟨hy.1.of_same he hw, fun w => (hb w).trans (hy.2 w)⟩

/-- An operation apart from one that is held: it may come up first. -/
theorem wpOpIn_ahead {j : Nat} {oi oj : Oper} {v : Value} (hj : ops[j]? = some oj) (hnd : ∀ c, oj.op ≠ .defer c) (hap : oi.apart ops oj = true) (hsi : ∀ cs b, oi.op ≠ .select cs b) (hsj : ∀ cs b, oj.op ≠ .select cs b)
    (hQ : ∀ c a w, Q (.panic c) (a.put oi.dst v) w → Q (.panic c) a w) {K : Act → World → Prop} {a : Act} {w : World} (hy : HeldAt P ops S oi v a)
    (h : wpOpIn F n P ops Q j K (a.put oi.dst v) w) : wpOpIn F n P ops Q j (fun a' w' => HeldAt P ops S oi v a' ∧ K (a'.put oi.dst v) w') a w := by
  obtain ⟨k1, k2, k3⟩ := Oper.apart_spec hap
  have stays : ∀ (a : Act), HeldAt P ops S oi v a → ∀ u, HeldAt P ops S oi v (a.put oj.dst u) := fun a hy u => hy.other (execOp_put oi hsi a oj.dst u k3) (wanted_put oi a oj.dst u k3) (fun w => about_put oi w a oj.dst u k3)
  have turn : ∀ (a : Act) u, (a.put oj.dst u).put oi.dst v = (a.put oi.dst v).put oj.dst u := fun a u => (Act.put_comm a v u k2).symm
  have staysD : ∀ d, HeldAt P ops S oi v { a with defers := d :: a.defers } := fun d => hy.other rfl rfl (fun _ => rfl)
  unfold wpOpIn at h ⊢
  simp only [hj] at h ⊢
  rw [wanted_put oj a oi.dst v k1, about_put oj w a oi.dst v k1] at h
  by_cases hw : Region.wanted oj (yielded ops a.tmps) = true
  · rw [if_pos hw] at h ⊢
    obtain ⟨h0, h⟩ := h
    rw [about_put oj w a oi.dst v k1] at h0
    refine ⟨h0, ?_⟩
    rw [Oper.semAt_plain F _ _ hnd, execOp_put oj hsj a oi.dst v k1] at h
    rw [Oper.semAt_plain F _ _ hnd]
    cases hr : (execOp a.eval oj).run P w with
    | ok x w' =>
      rw [hr] at h
      cases x <;> simp only [Oper.uponIn] at h ⊢
      case value u => exact ⟨stays a hy u, by rw [turn]; exact h⟩
      case skip => exact ⟨stays a hy _, by rw [turn]; exact h⟩
      case defer d => exact ⟨(staysD d).other (execOp_put oi hsi _ oj.dst _ k3) (wanted_put oi _ oj.dst _ k3) (fun w => about_put oi w _ oj.dst _ k3), by rw [turn, ← Act.put_defers]; exact h⟩
      case enter f args =>
        refine ⟨h.1, h.2.mono fun e w'' he => ?_⟩
        cases e with
        | returned u => exact ⟨stays a hy u, by rw [turn]; exact he⟩
        | panicked c => exact hQ _ _ _ he
        | outgrown => exact he
      case row row args => exact ⟨h.1, h.2.mono fun u w'' he => ⟨stays a hy u, by rw [turn]; exact he⟩⟩
      case round l f tmps assign body =>
        refine ⟨h.1, h.2.mono fun e w'' he => ?_⟩
        cases e with
        | returned u => exact ⟨stays a hy u, by rw [turn]; exact he⟩
        | panicked c => exact hQ _ _ _ he
        | outgrown => exact he
    | halt x w' =>
      rw [hr] at h
      cases x <;> simp only [Oper.uponIn] at h ⊢
      case panic u => exact hQ _ _ _ h
  · rw [if_neg hw] at h ⊢
    exact ⟨h.1, stays a hy _, by rw [turn]; exact h.2⟩

/-- Whatever order is picked from here on; S is shown behind each operation that is carried out. -/
def wpAnyHIn (F : Fence) (n : Nat) (P : Program) (md : Region.Mode) (ops : Array Oper) (Q : Exit → Act → World → Prop) (S : World → Prop) : Nat → Array Bool → Act → World → Prop
  | 0, listed, a, w => Region.ready md ops listed = [] ∧ Q .normal a w
  | k + 1, listed, a, w => (Region.ready md ops listed = [] → Q .normal a w) ∧
    ∀ i ∈ Region.ready md ops listed, wpOpIn F n P ops Q i (fun a' w' => S w' ∧ wpAnyHIn F n P md ops Q S k (listed.setIfInBounds i true) a' w') a w

theorem wpAnyIn_of_held : ∀ (k : Nat) (listed : Array Bool) (a : Act) (w : World), wpAnyHIn F n P md ops Q S k listed a w → wpAnyIn F n P md ops Q k listed a w
  | 0, _, _, _, h => h
  | k + 1, _, _, _, h => ⟨h.1, fun i hi => wpOpIn_mono (fun a' w' h' => wpAnyIn_of_held k _ a' w' h'.2) (h.2 i hi)⟩

theorem wpAnyHIn_first {i : Nat} {oi : Oper} {v : Value} (hi : ops[i]? = some oi) (hnd : noDefer ops.toList = true) (hsel : ∀ (j : Nat) (o : Oper) cs b, ops[j]? = some o → o.op ≠ .select cs b)
    (hQ : ∀ c a w, Q (.panic c) (a.put oi.dst v) w → Q (.panic c) a w) :
    ∀ (k : Nat) (listed : Array Bool) (a : Act) (w : World),
      (∀ j oj, ops[j]? = some oj → j ≠ i → listed.getD j true = false → (∀ e ∈ oj.after, Region.binds md e = true → e.on ≠ i) → oi.apart ops oj = true) →
      i ∈ Region.ready md ops listed → HeldAt P ops S oi v a → S w →
      wpAnyHIn F n P md ops Q S k (listed.setIfInBounds i true) (a.put oi.dst v) w → wpAnyHIn F n P md ops Q S (k + 1) listed a w
  | k, listed, a, w, hfree, hr, hy, hS, H => by
    refine ⟨fun h => (by rw [h] at hr; cases hr), fun j hj => ?_⟩
    by_cases hji : j = i
    · subst hji
      exact hy.step hi (noDefer_at hnd hi) hS ⟨hS, H⟩
    · have hj2 := ready_mono hj hji
      cases k with
      | zero => rw [H.1] at hj2; cases hj2
      | succ k =>
        obtain ⟨hjun, oj, hoj, hall⟩ := mem_ready.1 hj
        have hnot : ∀ e ∈ oj.after, Region.binds md e = true → e.on ≠ i := fun e he hb heq => by
          have h1 := hall e he hb
          have h0 := (mem_ready.1 hr).1
          rw [heq] at h1
          rw [Array.getD_eq_getD_getElem?] at h0 h1
          cases hl : listed[i]? with
          | none => rw [hl] at h1; cases h1
          | some b => rw [hl] at h0 h1; simp at h0 h1; rw [h0] at h1; cases h1
        refine wpOpIn_mono (fun a' w' h3 => ⟨h3.2.1, ?_⟩) (wpOpIn_ahead hoj (noDefer_at hnd hoj) (hfree j oj hoj hji hjun hnot) (fun cs b => hsel i oi cs b hi) (fun cs b => hsel j oj cs b hoj) hQ hy (H.2 j hj2))
        refine wpAnyHIn_first hi hnd hsel hQ k (listed.setIfInBounds j true) a' w' (fun q oq hq hqi hun hno => hfree q oq hq hqi ?_ hno) (ready_mono hr (Ne.symm hji)) h3.1 h3.2.1 ?_
        · by_cases hjq : j = q
          · subst hjq; exact hjun
          · rwa [getD_set_ne true hjq] at hun
        · rw [Array.setIfInBounds_comm _ _ hji]
          exact h3.2.2

/-- Number i is taken first. -/
theorem wpAnyHIn_take {i : Nat} {oi : Oper} {v : Value} {k : Nat} {listed : Array Bool} {a : Act} {w : World} (hi : ops[i]? = some oi) (hnd : noDefer ops.toList = true) (hs : Region.noSelect ops = true) (hf : Region.free md ops listed i = true)
    (hr : (Region.ready md ops listed).contains i = true) (hQ : ∀ c a w, Q (.panic c) (a.put oi.dst v) w → Q (.panic c) a w) (hb : ∀ w, oi.about P w a.eval = none) (hy : YieldsIf P ops S oi v a) (hS : S w)
    (h : wpAnyHIn F n P md ops Q S k (listed.setIfInBounds i true) (a.put oi.dst v) w) : wpAnyHIn F n P md ops Q S (k + 1) listed a w :=
  wpAnyHIn_first hi hnd (Region.noSelect_spec hs) hQ k listed a w (Region.free_spec hi hf) (by simpa using hr) ⟨hy, hb⟩ hS h

/-- Number i alone may come up. -/
theorem wpAnyHIn_next {i : Nat} {o : Oper} {k : Nat} {listed : Array Bool} {a : Act} {w : World} (hr : Region.ready md ops listed = [i]) (ho : ops[i]? = some o) (hw : Region.wanted o (yielded ops a.tmps) = true)
    (h : ∀ K' : Act → World → Prop, Shut (∀ a w, S w → (S w → wpAnyHIn F n P md ops Q S k (listed.setIfInBounds i true) a w) → K' a w) → Oper.wpIn F n P o a w K' Q) : wpAnyHIn F n P md ops Q S (k + 1) listed a w := by
  refine ⟨fun h0 => (by rw [hr] at h0; cases h0), fun j hj => ?_⟩
  rw [hr] at hj
  obtain rfl : j = i := by simpa using hj
  unfold wpOpIn
  simp only [ho]
  rw [if_pos hw]
  exact h _ (fun a w hS hW => ⟨hS, hW hS⟩)
theorem wpAnyHIn_done {listed : Array Bool} {a : Act} {w : World} (hr : Region.ready md ops listed = []) (h : Q .normal a w) : ∀ k, wpAnyHIn F n P md ops Q S k listed a w
  | 0 => ⟨hr, h⟩
  | _ + 1 => ⟨fun _ => h, by rw [hr]; simp⟩
theorem wpIn_region_held {id : Nat} {a : Act} {w : World} (hm : P.follows .mixedOrders = true) (hS : S w.drew) (h : S w.drew → wpAnyHIn F n P .any ops Q S ops.size (Array.replicate ops.size false) a w.drew) : (Code.region id ops true).wpIn F n P Q a w :=
  wpIn_region_any hm (wpAnyIn_of_held _ _ _ _ (h hS))
end
end Go.Proofs.YtpdacbiiaglodaaGreat
