/-
  LAYER 3 (crc): THE PLAIN MATHEMATICS: a sum's bit, its byte, the table's numbers; that the table's step is eight bits' steps; that steps are one to one. No program is named here.
-/
import Derived.WalkKit
namespace Go.Proofs.Ytilbccjgaaembaa
set_option maxRecDepth 100000

/-- One bit of CRC-32C, bits reflected. -/
def rnd (c : Nat) : Nat := if c % 2 = 1 then c / 2 ^^^ 0x82F63B78 else c / 2
def rnds : Nat → Nat → Nat
  | 0, c => c
  | k + 1, c => rnds k (rnd c)

theorem xor_cancel {a b c : Nat} (h : a ^^^ c = b ^^^ c) : a = b := by
  have := congrArg (· ^^^ c) h
  simpa [Nat.xor_assoc] using this
theorem xor_half (a b : Nat) : (a ^^^ b) / 2 = a / 2 ^^^ b / 2 := by
  apply Nat.eq_of_testBit_eq
  intro i
  simp [Nat.testBit_xor, Nat.testBit_div_two]
theorem xor_par (a b : Nat) : (a ^^^ b) % 2 = (a % 2 + b % 2) % 2 := by
  have h := Nat.testBit_xor a b 0
  simp only [Nat.testBit_zero] at h
  rcases Nat.mod_two_eq_zero_or_one a with ha | ha <;> rcases Nat.mod_two_eq_zero_or_one b with hb | hb <;> rcases Nat.mod_two_eq_zero_or_one (a ^^^ b) with hc | hc <;> simp [ha, hb, hc] at h ⊢

theorem rnd_xor (a b : Nat) : rnd (a ^^^ b) = rnd a ^^^ rnd b := by
  unfold rnd
  rw [xor_half]
  have h := xor_par a b
  rcases Nat.mod_two_eq_zero_or_one a with ha | ha <;> rcases Nat.mod_two_eq_zero_or_one b with hb | hb <;> simp only [ha, hb] at h ⊢ <;> simp [h]
  · rw [Nat.xor_assoc]
  · rw [Nat.xor_assoc, Nat.xor_comm (b / 2), Nat.xor_assoc]
  · rw [show a / 2 ^^^ 0x82F63B78 ^^^ (b / 2 ^^^ 0x82F63B78) = a / 2 ^^^ b / 2 ^^^ (0x82F63B78 ^^^ 0x82F63B78) by ac_rfl, Nat.xor_self, Nat.xor_zero]
theorem rnds_xor : ∀ (k a b : Nat), rnds k (a ^^^ b) = rnds k a ^^^ rnds k b
  | 0, _, _ => rfl
  | k + 1, a, b => by rw [rnds, rnds, rnds, rnd_xor]; exact rnds_xor k _ _
theorem rnds_add : ∀ (j k a : Nat), rnds (j + k) a = rnds k (rnds j a)
  | 0, k, a => by rw [Nat.zero_add]; rfl
  | j + 1, k, a => by rw [Nat.add_right_comm]; exact rnds_add j k _
theorem rnd_two (a : Nat) : rnd (2 * a) = a := by unfold rnd; rw [if_neg (by omega)]; omega
theorem rnds_pow : ∀ (k a : Nat), rnds k (2 ^ k * a) = a
  | 0, a => by simp [rnds]
  | k + 1, a => by rw [rnds, Nat.pow_succ', Nat.mul_assoc, rnd_two]; exact rnds_pow k a
theorem rnd_lt {c : Nat} (h : c < 4294967296) : rnd c < 4294967296 := by
  unfold rnd
  split
  · exact Nat.xor_lt_two_pow (n := 32) (by omega) (by decide)
  · omega
theorem rnds_lt : ∀ (k : Nat) {c : Nat}, c < 4294967296 → rnds k c < 4294967296
  | 0, _, h => h
  | k + 1, _, h => rnds_lt k (rnd_lt h)

/-- One byte more. -/
def byt (c x : Nat) : Nat := rnds 8 (c ^^^ x)
theorem byt_lt {c x : Nat} (h : c < 4294967296) (hx : x < 256) : byt c x < 4294967296 := rnds_lt 8 (Nat.xor_lt_two_pow (n := 32) h (by omega))

theorem split_low (n : Nat) : n = (256 * (n / 256)) ^^^ (n % 256) := by
  apply Nat.eq_of_testBit_eq
  intro i
  rw [Nat.testBit_xor, show (256 : Nat) = 2 ^ 8 from rfl, Nat.testBit_mod_two_pow, Nat.testBit_two_pow_mul, Nat.testBit_div_two_pow]
  by_cases h : 8 ≤ i
  · simp [h, show ¬ i < 8 by omega, show i - 8 + 8 = i by omega]
  · simp [h, show i < 8 by omega]
theorem xor_div256 (a b : Nat) (hb : b < 256) : (a ^^^ b) / 256 = a / 256 := by
  apply Nat.eq_of_testBit_eq
  intro i
  rw [show (256 : Nat) = 2 ^ 8 from rfl, Nat.testBit_div_two_pow, Nat.testBit_div_two_pow, Nat.testBit_xor, Nat.testBit_lt_two_pow (x := b) (i := i + 8) (Nat.lt_of_lt_of_le hb (by rw [show 256 = 2 ^ 8 from rfl]; exact Nat.pow_le_pow_right (by decide) (by omega)))]
  simp
theorem xor_mod256 (a b : Nat) (hb : b < 256) : (a ^^^ b) % 256 = a % 256 ^^^ b := by
  rw [show (256 : Nat) = 2 ^ 8 from rfl, Nat.xor_mod_two_pow, Nat.mod_eq_of_lt (a := b) (by simpa using hb)]
/-- The table's step is eight bits' steps. -/
theorem byt_table (c x : Nat) (hx : x < 256) : byt c x = c / 256 ^^^ rnds 8 (c % 256 ^^^ x) := by
  unfold byt
  rw [split_low (c ^^^ x), rnds_xor, show 256 = 2 ^ 8 from rfl, rnds_pow, ← show 256 = 2 ^ 8 from rfl, xor_div256 _ _ hx, xor_mod256 _ _ hx]

/-- Bytes more. -/
def bytes (c : Nat) (bs : List UInt8) : Nat := bs.foldl (fun c u => byt c u.toNat) c
theorem bytes_snoc (c : Nat) (bs : List UInt8) (u : UInt8) : bytes c (bs ++ [u]) = byt (bytes c bs) u.toNat := by simp [bytes]
theorem bytes_append (c : Nat) (a b : List UInt8) : bytes c (a ++ b) = bytes (bytes c a) b := by simp [bytes]
theorem bytes_lt : ∀ (bs : List UInt8) {c : Nat}, c < 4294967296 → bytes c bs < 4294967296
  | [], _, h => h
  | u :: bs, _, h => bytes_lt bs (byt_lt h u.toNat_lt)

def not32 (c : Nat) : Nat := 4294967295 - c
theorem not32_not32 {c : Nat} (h : c < 4294967296) : not32 (not32 c) = c := by unfold not32; omega
theorem not32_lt (c : Nat) : not32 c < 4294967296 := by unfold not32; omega
/-- Extend, Sum. -/
def ext (s : Nat) (bs : List UInt8) : Nat := not32 (bytes (not32 s) bs)
def sum (bs : List UInt8) : Nat := ext 0 bs
theorem ext_lt (s : Nat) (bs : List UInt8) : ext s bs < 4294967296 := not32_lt _
theorem ext_ext (s : Nat) (a b : List UInt8) : ext (ext s a) b = ext s (a ++ b) := by
  unfold ext
  rw [not32_not32 (bytes_lt a (not32_lt s)), bytes_append]

/-- Steps are one to one. -/
theorem rnd_inj {a b : Nat} (ha : a < 4294967296) (hb : b < 4294967296) (h : rnd a = rnd b) : a = b := by
  have top : ∀ c : Nat, c < 4294967296 → (rnd c).testBit 31 = decide (c % 2 = 1) := by
    intro c hc
    unfold rnd
    have h0 : (c / 2).testBit 31 = false := Nat.testBit_lt_two_pow (by rw [show (2 : Nat) ^ 31 = 2147483648 from rfl]; omega)
    split
    · rename_i h1
      rw [Nat.testBit_xor, h0, show Nat.testBit 0x82F63B78 31 = true by decide]
      simp [h1]
    · rename_i h1
      simp [h0, h1]
  have hp : decide (a % 2 = 1) = decide (b % 2 = 1) := by rw [← top a ha, ← top b hb, h]
  unfold rnd at h
  by_cases h1 : a % 2 = 1
  · have h2 : b % 2 = 1 := by simpa [h1] using hp
    rw [if_pos h1, if_pos h2] at h
    have := xor_cancel h
    omega
  · have h2 : ¬ b % 2 = 1 := by simpa [h1] using hp
    rw [if_neg h1, if_neg h2] at h
    omega
theorem rnds_inj : ∀ (k : Nat) {a b : Nat}, a < 4294967296 → b < 4294967296 → rnds k a = rnds k b → a = b
  | 0, _, _, _, _, h => h
  | k + 1, _, _, ha, hb, h => rnd_inj ha hb (rnds_inj k (rnd_lt ha) (rnd_lt hb) h)
theorem byt_inj {a b x : Nat} (ha : a < 4294967296) (hb : b < 4294967296) (hx : x < 256) (h : byt a x = byt b x) : a = b := by
  have := rnds_inj 8 (Nat.xor_lt_two_pow (n := 32) ha (by omega)) (Nat.xor_lt_two_pow (n := 32) hb (by omega)) h
  exact xor_cancel this
theorem bytes_inj : ∀ (bs : List UInt8) {a b : Nat}, a < 4294967296 → b < 4294967296 → bytes a bs = bytes b bs → a = b
  | [], _, _, _, _, h => h
  | u :: bs, _, _, ha, hb, h => byt_inj ha hb u.toNat_lt (bytes_inj bs (byt_lt ha u.toNat_lt) (byt_lt hb u.toNat_lt) h)

/-- Mask, Unmask. -/
def rotR (s : Nat) : Nat := s / 32768 + s % 32768 * 131072
def rotL (t : Nat) : Nat := t % 131072 * 32768 + t / 131072
theorem rotR_lt {s : Nat} (h : s < 4294967296) : rotR s < 4294967296 := by unfold rotR; omega
theorem rotL_lt {s : Nat} (h : s < 4294967296) : rotL s < 4294967296 := by unfold rotL; omega
theorem rotL_rotR {s : Nat} (h : s < 4294967296) : rotL (rotR s) = s := by unfold rotL rotR; omega
theorem rotR_rotL {s : Nat} (h : s < 4294967296) : rotR (rotL s) = s := by unfold rotL rotR; omega
theorem shl17 (s : Nat) : s * 131072 % 4294967296 = s % 32768 * 131072 := by omega
theorem shl15 (s : Nat) : s * 32768 % 4294967296 = s % 131072 * 32768 := by omega
def mask (s : Nat) : Nat := (rotR s + 0xA282EAD8) % 4294967296
def unmask (m : Nat) : Nat := rotL ((m + 4294967296 - 0xA282EAD8) % 4294967296)
theorem unmask_mask {s : Nat} (h : s < 4294967296) : unmask (mask s) = s := by
  have h1 := rotR_lt h
  unfold unmask mask
  rw [show ((rotR s + 0xA282EAD8) % 4294967296 + 4294967296 - 0xA282EAD8) % 4294967296 = rotR s by omega]
  exact rotL_rotR h
theorem mask_unmask {m : Nat} (h : m < 4294967296) : mask (unmask m) = m := by
  unfold unmask mask
  rw [rotR_rotL (by omega)]
  omega
theorem mask_lt (s : Nat) : mask s < 4294967296 := Nat.mod_lt _ (by decide)
theorem unmask_lt (m : Nat) : unmask m < 4294967296 := rotL_lt (Nat.mod_lt _ (by decide))
end Go.Proofs.Ytilbccjgaaembaa
