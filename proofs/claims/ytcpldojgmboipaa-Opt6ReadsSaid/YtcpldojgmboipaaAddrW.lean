/-
  The forms in which a walk leaves the bit operations of two words, brought to whole numbers of 128 bits. No program is named here. No condition beyond those in each theorem's own statement.
-/
import Derived.Test.YtcpldojgmboipaaAddrM
namespace Go.Proofs.Ytcpldojgmboipaa
open Go

theorem cast_div (x k : Nat) : ((x : Int) / 2 ^ k) = ((x / 2 ^ k : Nat) : Int) := by
  rw [Int.natCast_ediv, Int.natCast_pow]; rfl
theorem cast_mul (x k : Nat) : ((x : Int) * 2 ^ k) = ((x * 2 ^ k : Nat) : Int) := by
  rw [Int.natCast_mul, Int.natCast_pow]; rfl
theorem cast_pow (k : Nat) : ((2 : Int) ^ k) = ((2 ^ k : Nat) : Int) := by
  rw [Int.natCast_pow]; rfl
theorem wrap_nat (x : Nat) : IntKind.u64.wrap (x : Int) = ((x % 18446744073709551616 : Nat) : Int) := by
  rw [IntKind.wrap_u64]; omega
theorem pow_lt64 {k : Nat} (h : k < 64) : 2 ^ k < 18446744073709551616 := Nat.pow_lt_pow_right (m := k) (n := 64) (by omega) h
theorem div_lt64 {x : Nat} (h : x < 18446744073709551616) (k : Nat) : x / 2 ^ k < 18446744073709551616 := Nat.lt_of_le_of_lt (Nat.div_le_self _ _) h

theorem w_bit_hi {a : Nat} (ha : Fits a) {i : Int} (h0 : 0 ≤ i) (h1 : i < 64) :
    bits .and .u64 (((hi a : Nat) : Int) / 2 ^ (63 - i).toNat) 1 = ((bitS a i.toNat : Nat) : Int) := by
  obtain ⟨n, rfl⟩ := Int.eq_ofNat_of_zero_le h0
  rw [show (63 - (n : Int)).toNat = 63 - n by omega, Int.toNat_natCast, cast_div, show (1 : Int) = ((1 : Nat) : Int) from rfl, u64_and_nat _ _ (div_lt64 (hi_lt ha) _) (by omega), Nat.and_one_is_mod, hi_bit a (by omega)]
  rfl
theorem w_bit_lo (a : Nat) {i : Int} (h0 : 64 ≤ i) (h1 : i < 128) :
    bits .and .u64 (((lo a : Nat) : Int) / 2 ^ (127 - i).toNat) 1 = ((bitS a i.toNat : Nat) : Int) := by
  obtain ⟨n, rfl⟩ := Int.eq_ofNat_of_zero_le (by omega : 0 ≤ i)
  rw [show (127 - (n : Int)).toNat = 127 - n by omega, Int.toNat_natCast, cast_div, show (1 : Int) = ((1 : Nat) : Int) from rfl, u64_and_nat _ _ (div_lt64 (lo_lt a) _) (by omega), Nat.and_one_is_mod, lo_bit a (by omega) (by omega)]
  rfl
theorem w_with_hi {a : Nat} (ha : Fits a) {i : Int} (h0 : 0 ≤ i) (h1 : i < 64) :
    bits .or .u64 ((hi a : Nat) : Int) (IntKind.u64.wrap (2 ^ (63 - i).toNat)) = ((hi (withS a i.toNat) : Nat) : Int) := by
  obtain ⟨n, rfl⟩ := Int.eq_ofNat_of_zero_le h0
  have hp := pow_lt64 (show 63 - n < 64 by omega)
  rw [show (63 - (n : Int)).toNat = 63 - n by omega, Int.toNat_natCast, cast_pow, wrap_nat, Nat.mod_eq_of_lt hp, u64_or_nat _ _ (hi_lt ha) hp, hi_withS a (by omega)]
theorem w_with_lo (a : Nat) {i : Int} (h0 : 64 ≤ i) (h1 : i < 128) :
    bits .or .u64 ((lo a : Nat) : Int) (IntKind.u64.wrap (2 ^ (127 - i).toNat)) = ((lo (withS a i.toNat) : Nat) : Int) := by
  obtain ⟨n, rfl⟩ := Int.eq_ofNat_of_zero_le (by omega : 0 ≤ i)
  have hp := pow_lt64 (show 127 - n < 64 by omega)
  rw [show (127 - (n : Int)).toNat = 127 - n by omega, Int.toNat_natCast, cast_pow, wrap_nat, Nat.mod_eq_of_lt hp, u64_or_nat _ _ (lo_lt a) hp, lo_withS a (by omega) (by omega)]

/-! ### shifts of the whole number -/
def upS (a n : Nat) : Nat := a * 2 ^ n % 340282366920938463463374607431768211456
def downS (a n : Nat) : Nat := a / 2 ^ n
theorem fits_upS (a n : Nat) : Fits (upS a n) := by unfold Fits upS; omega
theorem fits_downS {a : Nat} (h : Fits a) (n : Nat) : Fits (downS a n) := Nat.lt_of_le_of_lt (Nat.div_le_self _ _) h

theorem lo_up (a n : Nat) : lo (upS a n) = lo a * 2 ^ n % 18446744073709551616 := by
  unfold upS lo
  rw [show (340282366920938463463374607431768211456 : Nat) = 18446744073709551616 * 18446744073709551616 from rfl, Nat.mod_mul_right_mod, Nat.mod_mul_mod]
theorem or_add {x y k : Nat} (hx : 2 ^ k ∣ x) (hy : y < 2 ^ k) : x ||| y = x + y := by
  obtain ⟨q, rfl⟩ := hx
  exact (Nat.two_pow_add_eq_or_of_lt hy q).symm
theorem hi_up_small (a n : Nat) : hi (upS a n) = (hi a * 2 ^ n + lo a * 2 ^ n / 18446744073709551616) % 18446744073709551616 := by
  have e := hi_lo a
  unfold upS
  generalize hx : hi a = x at *
  generalize hy : lo a = y at *
  rw [← e, Nat.add_mul, Nat.mul_right_comm]
  generalize x * 2 ^ n = X
  generalize y * 2 ^ n = Y
  unfold hi
  omega
theorem shl_hi {a n : Nat} (h0 : 0 < n) (h1 : n < 64) : (hi a * 2 ^ n % 18446744073709551616) ||| (lo a / 2 ^ (64 - n)) = hi (upS a n) := by
  have hl : lo a / 2 ^ (64 - n) < 2 ^ n := by
    apply (Nat.div_lt_iff_lt_mul (pow_pos _)).2
    rw [← Nat.pow_add, show n + (64 - n) = 64 by omega]
    exact lo_lt a
  have hq : lo a * 2 ^ n / 18446744073709551616 = lo a / 2 ^ (64 - n) := by
    rw [show (18446744073709551616 : Nat) = 2 ^ (64 - n) * 2 ^ n by rw [← Nat.pow_add, show 64 - n + n = 64 by omega]]
    exact Nat.mul_div_mul_right _ _ (pow_pos _)
  have hd : hi a * 2 ^ n % 18446744073709551616 = hi a % 2 ^ (64 - n) * 2 ^ n := by
    rw [show (18446744073709551616 : Nat) = 2 ^ (64 - n) * 2 ^ n by rw [← Nat.pow_add, show 64 - n + n = 64 by omega]]
    exact Nat.mul_mod_mul_right _ _ _
  have hb : hi a % 2 ^ (64 - n) * 2 ^ n + lo a / 2 ^ (64 - n) < 18446744073709551616 := by
    have h2 : hi a % 2 ^ (64 - n) + 1 ≤ 2 ^ (64 - n) := Nat.mod_lt _ (pow_pos _)
    have h3 := Nat.mul_le_mul_right (2 ^ n) h2
    rw [← Nat.pow_add, show 64 - n + n = 64 by omega, Nat.add_mul, Nat.one_mul] at h3
    omega
  rw [hi_up_small, hq, Nat.add_mod, hd, Nat.mod_eq_of_lt (a := lo a / 2 ^ (64 - n)) (by omega), Nat.mod_eq_of_lt hb]
  exact or_add ⟨_, Nat.mul_comm _ _⟩ hl
theorem hi_up_big {a n : Nat} (h : 64 ≤ n) : hi (upS a n) = lo a * 2 ^ (n - 64) % 18446744073709551616 := by
  have e := hi_lo a
  unfold upS
  generalize hx : hi a = x at *
  generalize hy : lo a = y at *
  rw [← e, show n = 64 + (n - 64) by omega, Nat.pow_add, show 64 + (n - 64) - 64 = n - 64 by omega, show (2 : Nat) ^ 64 = 18446744073709551616 from rfl]
  generalize 2 ^ (n - 64) = p
  rw [Nat.add_mul, show x * 18446744073709551616 * (18446744073709551616 * p) = x * p * 340282366920938463463374607431768211456 by rw [Nat.mul_assoc, ← Nat.mul_assoc 18446744073709551616, Nat.mul_comm _ p, Nat.mul_assoc]]
  rw [show y * (18446744073709551616 * p) = y * p * 18446744073709551616 by rw [Nat.mul_left_comm, Nat.mul_comm]]
  generalize x * p = X
  generalize y * p = Y
  unfold hi
  omega
theorem lo_up_big {a n : Nat} (h : 64 ≤ n) : lo (upS a n) = 0 := by
  rw [lo_up, show n = 64 + (n - 64) by omega, Nat.pow_add, show (2 : Nat) ^ 64 = 18446744073709551616 from rfl, Nat.mul_left_comm]
  exact Nat.mul_mod_right _ _
theorem upS_zero {a n : Nat} (h : 128 ≤ n) : upS a n = 0 := by
  unfold upS
  rw [show n = 128 + (n - 128) by omega, Nat.pow_add, show (2 : Nat) ^ 128 = 340282366920938463463374607431768211456 from rfl, Nat.mul_left_comm]
  exact Nat.mul_mod_right _ _
theorem upS_none {a : Nat} (h : Fits a) : upS a 0 = a := by unfold upS Fits at *; omega
theorem downS_none (a : Nat) : downS a 0 = a := by unfold downS; omega
theorem downS_zero {a n : Nat} (ha : Fits a) (h : 128 ≤ n) : downS a n = 0 :=
  Nat.div_eq_of_lt (Nat.lt_of_lt_of_le ha (pow_le (k := 128) h))

theorem hi_down (a n : Nat) : hi (downS a n) = hi a / 2 ^ n := by
  unfold hi downS
  rw [Nat.div_div_eq_div_mul, Nat.div_div_eq_div_mul, Nat.mul_comm]
theorem lo_down_big {a n : Nat} (ha : Fits a) (h : 64 ≤ n) : lo (downS a n) = hi a / 2 ^ (n - 64) := by
  have e : downS a n = hi a / 2 ^ (n - 64) := by
    unfold hi downS
    rw [Nat.div_div_eq_div_mul, show (18446744073709551616 : Nat) = 2 ^ 64 from rfl, ← Nat.pow_add, show 64 + (n - 64) = n by omega]
  have h1 := Nat.lt_of_le_of_lt (Nat.div_le_self (hi a) (2 ^ (n - 64))) (hi_lt ha)
  rw [e]; unfold lo; omega
theorem hi_down_big {a n : Nat} (ha : Fits a) (h : 64 ≤ n) : hi (downS a n) = 0 := by
  rw [hi_down]
  exact Nat.div_eq_of_lt (Nat.lt_of_lt_of_le (hi_lt ha) (pow_le (k := 64) h))
theorem shr_lo {a n : Nat} (h0 : 0 < n) (h1 : n < 64) : (lo a / 2 ^ n) ||| (hi a * 2 ^ (64 - n) % 18446744073709551616) = lo (downS a n) := by
  have hy := lo_lt a
  have e := hi_lo a
  have hl : lo a / 2 ^ n < 2 ^ (64 - n) := by
    apply (Nat.div_lt_iff_lt_mul (pow_pos _)).2
    rw [← Nat.pow_add, show 64 - n + n = 64 by omega]
    exact hy
  have hd : hi a * 2 ^ (64 - n) % 18446744073709551616 = hi a % 2 ^ n * 2 ^ (64 - n) := by
    rw [show (18446744073709551616 : Nat) = 2 ^ n * 2 ^ (64 - n) by rw [← Nat.pow_add, show n + (64 - n) = 64 by omega]]
    exact Nat.mul_mod_mul_right _ _ _
  have hs : downS a n = hi a * 2 ^ (64 - n) + lo a / 2 ^ n := by
    unfold downS
    conv => lhs; rw [← e]
    rw [show (18446744073709551616 : Nat) = 2 ^ (64 - n) * 2 ^ n by rw [← Nat.pow_add, show 64 - n + n = 64 by omega], ← Nat.mul_assoc, Nat.add_comm, Nat.add_mul_div_right _ _ (pow_pos _), Nat.add_comm]
  have hb : hi a % 2 ^ n * 2 ^ (64 - n) + lo a / 2 ^ n < 18446744073709551616 := by
    have h2 : hi a % 2 ^ n + 1 ≤ 2 ^ n := Nat.mod_lt _ (pow_pos _)
    have h3 := Nat.mul_le_mul_right (2 ^ (64 - n)) h2
    rw [← Nat.pow_add, show n + (64 - n) = 64 by omega, Nat.add_mul, Nat.one_mul] at h3
    omega
  rw [Nat.or_comm, hd, or_add ⟨_, Nat.mul_comm _ _⟩ hl]
  rw [show lo (downS a n) = (hi a * 2 ^ (64 - n) + lo a / 2 ^ n) % 18446744073709551616 by rw [hs]; rfl, Nat.add_mod, hd, Nat.mod_eq_of_lt (a := lo a / 2 ^ n) (by omega), Nat.mod_eq_of_lt hb]

theorem w_up_hi (a : Nat) {n : Int} (h0 : 0 < n) (h1 : n < 64) :
    bits .or .u64 (IntKind.u64.wrap (((hi a : Nat) : Int) * 2 ^ n.toNat)) (((lo a : Nat) : Int) / 2 ^ (64 - n).toNat) = ((hi (upS a n.toNat) : Nat) : Int) := by
  obtain ⟨m, rfl⟩ := Int.eq_ofNat_of_zero_le (by omega : 0 ≤ n)
  rw [show (64 - (m : Int)).toNat = 64 - m by omega, Int.toNat_natCast, cast_mul, wrap_nat, cast_div, u64_or_nat _ _ (Nat.mod_lt _ (by omega)) (div_lt64 (lo_lt a) _), shl_hi (by omega) (by omega)]
theorem w_up_lo (a : Nat) (n : Int) : IntKind.u64.wrap (((lo a : Nat) : Int) * 2 ^ n.toNat) = ((lo (upS a n.toNat) : Nat) : Int) := by
  rw [cast_mul, wrap_nat, lo_up]
theorem w_up_big (a : Nat) {n : Int} (h : 64 ≤ n) : IntKind.u64.wrap (((lo a : Nat) : Int) * 2 ^ (n - 64).toNat) = ((hi (upS a n.toNat) : Nat) : Int) := by
  obtain ⟨m, rfl⟩ := Int.eq_ofNat_of_zero_le (by omega : 0 ≤ n)
  rw [show ((m : Int) - 64).toNat = m - 64 by omega, Int.toNat_natCast, cast_mul, wrap_nat, hi_up_big (by omega)]
theorem w_down_lo (a : Nat) {n : Int} (h0 : 0 < n) (h1 : n < 64) :
    bits .or .u64 (((lo a : Nat) : Int) / 2 ^ n.toNat) (IntKind.u64.wrap (((hi a : Nat) : Int) * 2 ^ (64 - n).toNat)) = ((lo (downS a n.toNat) : Nat) : Int) := by
  obtain ⟨m, rfl⟩ := Int.eq_ofNat_of_zero_le (by omega : 0 ≤ n)
  rw [show (64 - (m : Int)).toNat = 64 - m by omega, Int.toNat_natCast, cast_mul, wrap_nat, cast_div, u64_or_nat _ _ (div_lt64 (lo_lt a) _) (Nat.mod_lt _ (by omega)), shr_lo (by omega) (by omega)]
theorem w_down_hi (a : Nat) (n : Int) : ((hi a : Nat) : Int) / 2 ^ n.toNat = ((hi (downS a n.toNat) : Nat) : Int) := by
  rw [cast_div, hi_down]
theorem w_down_big {a : Nat} (ha : Fits a) {n : Int} (h : 64 ≤ n) : ((hi a : Nat) : Int) / 2 ^ (n - 64).toNat = ((lo (downS a n.toNat) : Nat) : Int) := by
  obtain ⟨m, rfl⟩ := Int.eq_ofNat_of_zero_le (by omega : 0 ≤ n)
  rw [show ((m : Int) - 64).toNat = m - 64 by omega, Int.toNat_natCast, cast_div, lo_down_big ha (by omega)]

/-! ### sums and differences -/
def addS (a b : Nat) : Nat := (a + b) % 340282366920938463463374607431768211456
def addO (a b : Nat) : Bool := decide (340282366920938463463374607431768211456 ≤ a + b)
def subS (a b : Nat) : Nat := (a + 340282366920938463463374607431768211456 - b) % 340282366920938463463374607431768211456
def subO (a b : Nat) : Bool := decide (a < b)
theorem fits_addS (a b : Nat) : Fits (addS a b) := by unfold Fits addS; omega
theorem fits_subS (a b : Nat) : Fits (subS a b) := by unfold Fits subS; omega
theorem lo_add (a b : Nat) : (lo a + lo b + 0) % 18446744073709551616 = lo (addS a b) := by unfold lo addS; omega
theorem hi_add {a b : Nat} (_ha : Fits a) (_hb : Fits b) : (hi a + hi b + (lo a + lo b + 0) / 18446744073709551616) % 18446744073709551616 = hi (addS a b) := by unfold lo hi addS Fits at *; omega
theorem over_add {a b : Nat} (ha : Fits a) (hb : Fits b) : ((hi a + hi b + (lo a + lo b + 0) / 18446744073709551616) / 18446744073709551616 = 1) ↔ 340282366920938463463374607431768211456 ≤ a + b := by unfold lo hi Fits at *; omega
theorem lo_sub {a b : Nat} (ha : Fits a) (hb : Fits b) : (lo a + 18446744073709551616 - lo b - 0) % 18446744073709551616 = lo (subS a b) := by unfold lo subS Fits at *; omega
theorem hi_sub {a b : Nat} (ha : Fits a) (hb : Fits b) : (hi a + 18446744073709551616 - hi b - (if lo a < lo b + 0 then 1 else 0)) % 18446744073709551616 = hi (subS a b) := by unfold lo hi subS Fits at *; split <;> omega
theorem under_sub {a b : Nat} (_ha : Fits a) (_hb : Fits b) : ((if hi a < hi b + (if lo a < lo b + 0 then 1 else 0) then 1 else 0) = 1) ↔ a < b := by
  unfold lo hi Fits at *
  split <;> split <;> omega

/-! ### order -/
def cmpS (a b : Nat) : Int := if a < b then -1 else if b < a then 1 else 0
theorem cmp_hi {a b : Nat} (h : hi a ≠ hi b) : cmpS (hi a) (hi b) = cmpS a b := by
  unfold cmpS hi at *; repeat' split
  all_goals omega
theorem cmp_lo {a b : Nat} (h : hi a = hi b) : cmpS (lo a) (lo b) = cmpS a b := by
  unfold cmpS hi lo at *; repeat' split
  all_goals omega

end Go.Proofs.Ytcpldojgmboipaa
