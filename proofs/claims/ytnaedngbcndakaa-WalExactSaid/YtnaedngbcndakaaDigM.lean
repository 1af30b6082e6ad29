/-
  The sum of 32 bits as a function of rows of bytes: mathematics of digest. No program is named here. No condition beyond those in each theorem's own statement.
-/
import Derived.Test.YtnaedngbcndakaaProg
import Derived.WalkKit
import Derived.Laws.Strings
import Derived.Lib.Strings
namespace Go.Proofs.Ytnaedngbcndakaa
open Go

/-- one bit taken out of the register -/
def crc1 (r : Nat) : Nat := if r % 2 = 1 then (r / 2) ^^^ 3988292384 else r / 2
def crcN : Nat → Nat → Nat
  | 0, r => r
  | k + 1, r => crc1 (crcN k r)
/-- the register behind a row of bytes -/
def crcF : List UInt8 → Nat → Nat
  | [], r => r
  | b :: l, r => crcF l (crcN 8 (r ^^^ b.toNat))
def crcL (l : List UInt8) : Nat := crcF l 4294967295 ^^^ 4294967295

theorem xor_lt {a b : Nat} (ha : a < 4294967296) (hb : b < 4294967296) : a ^^^ b < 4294967296 := Nat.xor_lt_two_pow (n := 32) ha hb
theorem and_lt {a : Nat} (b : Nat) (ha : a < 4294967296) : a &&& b < 4294967296 := Nat.lt_of_le_of_lt Nat.and_le_left ha
theorem or_lt {a b : Nat} (ha : a < 4294967296) (hb : b < 4294967296) : a ||| b < 4294967296 := Nat.or_lt_two_pow (n := 32) ha hb
theorem crc1_lt {r : Nat} (h : r < 4294967296) : crc1 r < 4294967296 := by
  unfold crc1
  split
  · exact xor_lt (by omega) (by omega)
  · omega
theorem crcN_lt {r : Nat} (h : r < 4294967296) : ∀ k, crcN k r < 4294967296
  | 0 => h
  | k + 1 => crc1_lt (crcN_lt h k)
theorem byte_lt (b : UInt8) : b.toNat < 256 := b.toNat_lt
theorem crcF_lt : ∀ (l : List UInt8) (r : Nat), r < 4294967296 → crcF l r < 4294967296
  | [], _, h => h
  | b :: l, r, h => crcF_lt l _ (crcN_lt (xor_lt h (by have := byte_lt b; omega)) 8)
theorem crcL_lt (l : List UInt8) : crcL l < 4294967296 := xor_lt (crcF_lt l _ (by omega)) (by omega)

/-- the step is linear -/
theorem xor_half (a b : Nat) : (a ^^^ b) / 2 = a / 2 ^^^ b / 2 := by
  apply Nat.eq_of_testBit_eq
  intro i
  simp only [Nat.testBit_xor, ← Nat.testBit_succ]
theorem xor_odd (a b : Nat) : (a ^^^ b) % 2 = (a % 2 + b % 2) % 2 := by
  have h := Nat.xor_mod_two_pow (a := a) (b := b) (n := 1)
  rw [Nat.pow_one] at h
  rw [h]
  rcases Nat.mod_two_eq_zero_or_one a with e | e <;> rcases Nat.mod_two_eq_zero_or_one b with f | f <;> rw [e, f] <;> rfl
theorem xor_swap (a b c : Nat) : (a ^^^ c) ^^^ (b ^^^ c) = a ^^^ b := by
  rw [Nat.xor_comm b c, Nat.xor_assoc, ← Nat.xor_assoc c c b, Nat.xor_self, Nat.zero_xor]
theorem xor_mid (a b c d : Nat) : (a ^^^ b) ^^^ (c ^^^ d) = (a ^^^ c) ^^^ (b ^^^ d) := by
  rw [Nat.xor_assoc, Nat.xor_assoc, ← Nat.xor_assoc b c d, Nat.xor_comm b c, Nat.xor_assoc c b d]
theorem crc1_xor (a b : Nat) : crc1 (a ^^^ b) = crc1 a ^^^ crc1 b := by
  unfold crc1
  rw [xor_odd, xor_half]
  rcases Nat.mod_two_eq_zero_or_one a with e | e <;> rcases Nat.mod_two_eq_zero_or_one b with f | f <;> rw [e, f]
  · rfl
  · rw [if_pos rfl, if_neg (by omega), if_pos rfl, Nat.xor_assoc]
  · rw [if_pos rfl, if_pos rfl, if_neg (by omega), Nat.xor_assoc, Nat.xor_assoc, Nat.xor_comm (b / 2)]
  · rw [if_pos rfl, if_pos rfl, if_neg (by omega), xor_swap]
theorem crcN_xor (a b : Nat) : ∀ k, crcN k (a ^^^ b) = crcN k a ^^^ crcN k b
  | 0 => rfl
  | k + 1 => by rw [crcN, crcN_xor a b k, crc1_xor]; rfl
theorem crc1_zero : crc1 0 = 0 := rfl
theorem crcN_zero : ∀ k, crcN k 0 = 0
  | 0 => rfl
  | k + 1 => by rw [crcN, crcN_zero k, crc1_zero]
/-- and nothing but 0 becomes 0 -/
theorem crc1_ne {r : Nat} (h : r < 4294967296) (hz : r ≠ 0) : crc1 r ≠ 0 := by
  unfold crc1
  split
  · intro e
    have e2 : r / 2 = 3988292384 := by
      have := congrArg (· ^^^ 3988292384) e
      simpa [Nat.xor_assoc] using this
    omega
  · omega
theorem crcN_ne {r : Nat} (h : r < 4294967296) (hz : r ≠ 0) : ∀ k, crcN k r ≠ 0
  | 0 => hz
  | k + 1 => crc1_ne (crcN_lt h k) (crcN_ne h hz k)
theorem crcN_byte (m : Nat) : crcN 8 (m * 256) = m := by
  have h : ∀ n, crc1 (n * 2) = n := fun n => by unfold crc1; rw [if_neg (by omega)]; omega
  rw [show m * 256 = m * 2 * 2 * 2 * 2 * 2 * 2 * 2 * 2 by omega]
  simp only [crcN, h]
end Go.Proofs.Ytnaedngbcndakaa
