/-
  Plain arithmetic of 128-bit numbers kept as two words of 64 bits: what each bit operation on the words means for the whole number. No program is named here. No condition beyond those in each theorem's own statement.
-/
import Derived.Laws.BitsAllLaws
import Derived.Laws.ShiftsVarLaws
namespace Go.Proofs.Ytcpldojgmboipaa

def hi (a : Nat) : Nat := a / 18446744073709551616
def lo (a : Nat) : Nat := a % 18446744073709551616
/-- a number of 128 bits -/
def Fits (a : Nat) : Prop := a < 340282366920938463463374607431768211456

theorem hi_lt {a : Nat} (h : Fits a) : hi a < 18446744073709551616 := by unfold hi Fits at *; omega
theorem lo_lt (a : Nat) : lo a < 18446744073709551616 := by unfold lo; omega
theorem hi_lo (a : Nat) : hi a * 18446744073709551616 + lo a = a := by unfold hi lo; omega
theorem hi_mk {x y : Nat} (hy : y < 18446744073709551616) : hi (x * 18446744073709551616 + y) = x := by unfold hi; omega
theorem lo_mk {x y : Nat} (hy : y < 18446744073709551616) : lo (x * 18446744073709551616 + y) = y := by unfold lo; omega
theorem fits_mk {x y : Nat} (hx : x < 18446744073709551616) (hy : y < 18446744073709551616) : Fits (x * 18446744073709551616 + y) := by unfold Fits; omega
theorem eq_of_words {a b : Nat} (h : hi a = hi b) (l : lo a = lo b) : a = b := by rw [← hi_lo a, ← hi_lo b, h, l]
theorem hi_zero : hi 0 = 0 := rfl
theorem lo_zero : lo 0 = 0 := rfl
theorem fits_zero : Fits 0 := by unfold Fits; omega

/-! ### bits -/
theorem pow_pos (k : Nat) : 0 < 2 ^ k := Nat.two_pow_pos k
theorem pow_le {k n : Nat} (h : k ≤ n) : (2 : Nat) ^ k ≤ 2 ^ n := Nat.pow_le_pow_right (by omega) h
theorem pow_split {k n : Nat} (h : k ≤ n) : (2 : Nat) ^ n = 2 ^ k * 2 ^ (n - k) := by rw [← Nat.pow_add]; congr 1; omega
theorem pow_split' {k n : Nat} (h : k ≤ n) : (2 : Nat) ^ n = 2 ^ (n - k) * 2 ^ k := by rw [← Nat.pow_add]; congr 1; omega
theorem fits_iff (a : Nat) : Fits a ↔ a < 2 ^ 128 := Iff.rfl

theorem or_pow (x k : Nat) : x ||| 2 ^ k = if x / 2 ^ k % 2 = 1 then x else x + 2 ^ k := by
  have hp := pow_pos k
  have h1 : x ||| 2 ^ k = (2 ^ k * (x / 2 ^ k)) ||| 2 ^ k ||| x % 2 ^ k := by
    conv => lhs; rw [← Nat.div_add_mod x (2 ^ k), Nat.two_pow_add_eq_or_of_lt (Nat.mod_lt _ hp)]
    rw [Nat.or_assoc, Nat.or_comm (x % 2 ^ k), ← Nat.or_assoc]
  have h2 : (2 ^ k * (x / 2 ^ k)) ||| 2 ^ k = 2 ^ k * (x / 2 ^ k ||| 1) := by
    have := Nat.shiftLeft_or_distrib (a := x / 2 ^ k) (b := 1) (i := k)
    rw [Nat.shiftLeft_eq, Nat.shiftLeft_eq, Nat.shiftLeft_eq] at this
    rw [Nat.mul_comm (2 ^ k) (x / 2 ^ k ||| 1), this, Nat.mul_comm (2 ^ k), Nat.one_mul]
  have h3 : x / 2 ^ k ||| 1 = if x / 2 ^ k % 2 = 1 then x / 2 ^ k else x / 2 ^ k + 1 := by
    generalize x / 2 ^ k = q
    have h := Nat.two_pow_add_eq_or_of_lt (i := 1) (b := 1) (by omega) (q / 2)
    by_cases e : q % 2 = 1
    · rw [if_pos e]
      have hq : q = 2 ^ 1 * (q / 2) + 1 := by omega
      rw [show q ||| 1 = (2 ^ 1 * (q / 2) + 1) ||| 1 by rw [← hq], h, Nat.or_assoc, Nat.or_self, ← h, ← hq]
    · rw [if_neg e]
      have hq : q = 2 ^ 1 * (q / 2) := by omega
      rw [show q ||| 1 = (2 ^ 1 * (q / 2)) ||| 1 by rw [← hq], ← h, ← hq]
  rw [h1, h2, ← Nat.two_pow_add_eq_or_of_lt (Nat.mod_lt _ hp), h3]
  have h4 := Nat.div_add_mod x (2 ^ k)
  split
  · exact h4
  · rw [Nat.mul_add, Nat.mul_one]; omega

/-- bit i of a, 0 the highest of 128 -/
def bitS (a i : Nat) : Nat := a / 2 ^ (127 - i) % 2
theorem bitS_lt (a i : Nat) : bitS a i < 2 := Nat.mod_lt _ (by omega)
/-- a with its bit i set -/
def withS (a i : Nat) : Nat := if bitS a i = 1 then a else a + 2 ^ (127 - i)

theorem hi_bit (a : Nat) {i : Nat} (h : i < 64) : hi a / 2 ^ (63 - i) = a / 2 ^ (127 - i) := by
  unfold hi
  rw [Nat.div_div_eq_div_mul, show (18446744073709551616 : Nat) = 2 ^ 64 from rfl, ← Nat.pow_add]
  congr 2; omega
theorem lo_bit (a : Nat) {i : Nat} (h : 64 ≤ i) (h2 : i < 128) : lo a / 2 ^ (127 - i) % 2 = a / 2 ^ (127 - i) % 2 := by
  unfold lo
  rw [show (18446744073709551616 : Nat) = 2 ^ (127 - i) * 2 ^ (i - 63) by rw [← Nat.pow_add, show 127 - i + (i - 63) = 64 by omega], Nat.mod_mul_right_div_self, Nat.mod_mod_of_dvd]
  exact ⟨2 ^ (i - 64), by rw [← Nat.pow_succ']; congr 1; omega⟩
theorem add_pow_lt {x n k : Nat} (hx : x < 2 ^ n) (hk : k < n) (h : ¬ x / 2 ^ k % 2 = 1) : x + 2 ^ k < 2 ^ n := by
  have hp := pow_pos k
  have hs : (2 : Nat) ^ n = 2 ^ k * (2 * 2 ^ (n - k - 1)) := by rw [← Nat.pow_succ', ← Nat.pow_add]; congr 1; omega
  rw [hs] at hx ⊢
  have h1 : x / 2 ^ k < 2 * 2 ^ (n - k - 1) := (Nat.div_lt_iff_lt_mul hp).2 (by rw [Nat.mul_comm]; exact hx)
  have h2 : x / 2 ^ k + 1 < 2 * 2 ^ (n - k - 1) := by omega
  have h3 : (x + 2 ^ k) / 2 ^ k = x / 2 ^ k + 1 := Nat.add_div_right x hp
  rw [Nat.mul_comm]
  exact (Nat.div_lt_iff_lt_mul hp).1 (by rw [h3]; exact h2)
theorem fits_withS {a : Nat} (h : Fits a) {i : Nat} (hi' : i < 128) : Fits (withS a i) := by
  unfold withS
  split
  · exact h
  · rename_i hb
    exact add_pow_lt (n := 128) h (by omega) hb
theorem hi_withS (a : Nat) {i : Nat} (h : i < 64) : hi a ||| 2 ^ (63 - i) = hi (withS a i) := by
  rw [or_pow, hi_bit a h]
  unfold withS bitS
  split
  · rfl
  · unfold hi
    rw [show (2 : Nat) ^ (127 - i) = 2 ^ (63 - i) * 18446744073709551616 by rw [show (18446744073709551616 : Nat) = 2 ^ 64 from rfl, ← Nat.pow_add]; congr 1; omega, Nat.add_mul_div_right _ _ (by omega)]
theorem lo_withS' (a : Nat) {i : Nat} (h : i < 64) : lo a = lo (withS a i) := by
  unfold withS
  split
  · rfl
  · unfold lo
    rw [show (2 : Nat) ^ (127 - i) = 2 ^ (63 - i) * 18446744073709551616 by rw [show (18446744073709551616 : Nat) = 2 ^ 64 from rfl, ← Nat.pow_add]; congr 1; omega, Nat.add_mul_mod_self_right]
theorem lo_add_lt (a : Nat) {i : Nat} (h : 64 ≤ i) (h2 : i < 128) (hb : ¬ a / 2 ^ (127 - i) % 2 = 1) : lo a + 2 ^ (127 - i) < 18446744073709551616 :=
  add_pow_lt (n := 64) (lo_lt a) (by omega) (by rw [lo_bit a h h2]; exact hb)
theorem lo_withS (a : Nat) {i : Nat} (h : 64 ≤ i) (h2 : i < 128) : lo a ||| 2 ^ (127 - i) = lo (withS a i) := by
  rw [or_pow, lo_bit a h h2]
  unfold withS bitS
  split
  · rfl
  · rename_i hb
    have := lo_add_lt a h h2 hb
    generalize 2 ^ (127 - i) = p at *
    unfold lo at *; omega
theorem hi_withS' (a : Nat) {i : Nat} (h : 64 ≤ i) (h2 : i < 128) : hi a = hi (withS a i) := by
  unfold withS
  split
  · rfl
  · rename_i hb
    have := lo_add_lt a h h2 hb
    generalize 2 ^ (127 - i) = p at *
    unfold lo hi at *; omega

end Go.Proofs.Ytcpldojgmboipaa
