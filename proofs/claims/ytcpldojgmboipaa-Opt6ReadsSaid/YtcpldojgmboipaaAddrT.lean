/-
  Plain arithmetic of a number of 128 bits that is made, compared or divided bit by bit: one step of each loop of the document's own answers. No program is named here. No condition beyond those in each theorem's own statement.
-/
import Derived.Test.YtcpldojgmboipaaAddrP
namespace Go.Proofs.Ytcpldojgmboipaa
open Go

theorem pow_two (i : Nat) (h : i < 128) : (2 : Nat) ^ (128 - i) = 2 * 2 ^ (127 - i) := by rw [← Nat.pow_succ']; congr 1; omega
theorem clip_two (x i : Nat) (h : i < 128) : clipS x i = x / 2 ^ (127 - i) / 2 * 2 * 2 ^ (127 - i) := by
  unfold clipS
  rw [pow_two i h, Nat.div_div_eq_div_mul, Nat.mul_comm 2 (2 ^ (127 - i)), Nat.mul_comm (2 ^ (127 - i)) 2, ← Nat.mul_assoc, Nat.mul_comm 2 (2 ^ (127 - i))]
theorem clip_one (x i : Nat) (_h : i < 128) : clipS x (i + 1) = x / 2 ^ (127 - i) * 2 ^ (127 - i) := by
  unfold clipS
  rw [show 128 - (i + 1) = 127 - i by omega]
theorem bit_clip (x i : Nat) (h : i < 128) : bitS (clipS x i) i = 0 := by
  unfold bitS
  rw [clip_two x i h, Nat.mul_div_cancel _ (pow_pos _), Nat.mul_mod_left]
theorem clip_set {x i : Nat} (h : i < 128) (hb : bitS x i = 1) : withS (clipS x i) i = clipS x (i + 1) := by
  unfold withS
  rw [bit_clip x i h, if_neg (by omega), clip_two x i h, clip_one x i h]
  unfold bitS at hb
  generalize x / 2 ^ (127 - i) = q at *
  generalize 2 ^ (127 - i) = p
  conv => rhs; rw [show q = q / 2 * 2 + 1 by omega]
  rw [Nat.add_mul, Nat.one_mul]
theorem clip_skip {x i : Nat} (h : i < 128) (hb : ¬ bitS x i = 1) : clipS x (i + 1) = clipS x i := by
  rw [clip_two x i h, clip_one x i h]
  unfold bitS at hb
  rw [show x / 2 ^ (127 - i) / 2 * 2 = x / 2 ^ (127 - i) by omega]
theorem clip_none {x : Nat} (h : Fits x) : clipS x 0 = 0 := by
  unfold clipS
  rw [Nat.div_eq_of_lt (show x < 2 ^ (128 - 0) from h), Nat.zero_mul]
theorem clip_all (x : Nat) : clipS x 128 = x := by
  unfold clipS
  rw [Nat.sub_self, Nat.pow_zero, Nat.div_one, Nat.mul_one]

/-! ### shifts -/
theorem bit_test (x i : Nat) : bitS x i = 1 ↔ x.testBit (127 - i) = true := by
  unfold bitS
  rw [Nat.testBit_eq_decide_div_mod_eq, decide_eq_true_iff]
theorem bit_up {a n i : Nat} (h : i + n < 128) : bitS (upS a n) i = 1 ↔ bitS a (i + n) = 1 := by
  rw [bit_test, bit_test]
  unfold upS
  rw [show (340282366920938463463374607431768211456 : Nat) = 2 ^ 128 from rfl, Nat.testBit_mod_two_pow, Nat.testBit_mul_two_pow]
  rw [show 127 - (i + n) = 127 - i - n by omega]
  have h1 : 127 - i < 128 := by omega
  have h2 : n ≤ 127 - i := by omega
  simp [h1, h2]
theorem up_end {a n : Nat} (h : n ≤ 128) : clipS (upS a n) (128 - n) = upS a n := by
  unfold clipS
  rw [show 128 - (128 - n) = n by omega]
  apply Nat.div_mul_cancel
  unfold upS
  rw [show (340282366920938463463374607431768211456 : Nat) = 2 ^ 128 from rfl]
  exact (Nat.dvd_mod_iff (Nat.pow_dvd_pow 2 h)).2 ⟨a, Nat.mul_comm _ _⟩
theorem bit_down {a n i : Nat} (h : i + n < 128) : bitS (downS a n) (i + n) = bitS a i := by
  unfold bitS downS
  rw [Nat.div_div_eq_div_mul, ← Nat.pow_add, show n + (127 - (i + n)) = 127 - i by omega]
theorem down_start {a n : Nat} (ha : Fits a) (h : n ≤ 128) : clipS (downS a n) n = 0 := by
  unfold clipS downS
  rw [Nat.div_div_eq_div_mul, ← Nat.pow_add, show n + (128 - n) = 128 by omega, Nat.div_eq_of_lt (show a < 2 ^ 128 from ha), Nat.zero_mul]

/-! ### the order -/
theorem half_step (a : Nat) {k : Nat} (h : k < 128) : a / 2 ^ (127 - k) = 2 * (a / 2 ^ (128 - k)) + bitS a k := by
  unfold bitS
  rw [pow_two k h, Nat.mul_comm 2 (2 ^ (127 - k)), ← Nat.div_div_eq_div_mul]
  omega
theorem cmp_less {a b k : Nat} (h : k < 128) (e : a / 2 ^ (128 - k) = b / 2 ^ (128 - k)) (hb : bitS a k < bitS b k) : a < b := by
  have h1 := half_step a h
  have h2 := half_step b h
  have h3 : a / 2 ^ (127 - k) < b / 2 ^ (127 - k) := by omega
  exact Nat.lt_of_not_le fun hle => by
    have := Nat.div_le_div_right (c := 2 ^ (127 - k)) hle
    omega
theorem cmp_on {a b k : Nat} (h : k < 128) (e : a / 2 ^ (128 - k) = b / 2 ^ (128 - k)) (hb : bitS a k = bitS b k) : a / 2 ^ (128 - (k + 1)) = b / 2 ^ (128 - (k + 1)) := by
  rw [show 128 - (k + 1) = 127 - k by omega, half_step a h, half_step b h, e, hb]
theorem cmp_start {a b : Nat} (ha : Fits a) (hb : Fits b) : a / 2 ^ (128 - 0) = b / 2 ^ (128 - 0) := by
  rw [Nat.div_eq_of_lt (show a < 2 ^ (128 - 0) from ha), Nat.div_eq_of_lt (show b < 2 ^ (128 - 0) from hb)]
theorem cmp_end {a b : Nat} (e : a / 2 ^ (128 - 128) = b / 2 ^ (128 - 128)) : a = b := by simpa using e

/-! ### sums and differences -/
/-- bit k of a, 0 the lowest -/
def bitL (a k : Nat) : Nat := a / 2 ^ k % 2
theorem bitL_eq (a : Nat) {k : Nat} (h : k < 128) : bitS a (127 - k) = bitL a k := by
  unfold bitS bitL
  rw [show 127 - (127 - k) = k by omega]
theorem mod_step (a k : Nat) : a % 2 ^ (k + 1) = a % 2 ^ k + 2 ^ k * bitL a k := by
  unfold bitL
  rw [Nat.pow_succ, Nat.mod_mul]
theorem bitL_01 (a k : Nat) : bitL a k = 0 ∨ bitL a k = 1 := by unfold bitL; omega
theorem with_low {x k : Nat} (hk : k < 128) (hx : x < 2 ^ k) : withS x (127 - k) = x + 2 ^ k := by
  unfold withS bitS
  rw [show 127 - (127 - k) = k by omega, Nat.div_eq_of_lt hx, if_neg (by omega)]
theorem low_fits {x k : Nat} (hk : k ≤ 128) (hx : x < 2 ^ k) : Fits x := Nat.lt_of_lt_of_le hx (pow_le (n := 128) hk)
/-- the sum's first k bits from below, and the carry -/
def SumR (a b k x c : Nat) : Prop := x < 2 ^ k ∧ (c = 0 ∨ c = 1) ∧ x + c * 2 ^ k = a % 2 ^ k + b % 2 ^ k
def DifR (a b k x c : Nat) : Prop := x < 2 ^ k ∧ (c = 0 ∨ c = 1) ∧ x + b % 2 ^ k = a % 2 ^ k + c * 2 ^ k
theorem sum_start (a b : Nat) : SumR a b 0 0 0 := ⟨by simp, by simp, by simp [Nat.mod_one]⟩
theorem dif_start (a b : Nat) : DifR a b 0 0 0 := ⟨by simp, by simp, by simp [Nat.mod_one]⟩
theorem sum_set {a b k x c : Nat} (hk : k < 128) (h : SumR a b k x c) (hs : (bitL a k + bitL b k + c) % 2 = 1) : SumR a b (k + 1) (withS x (127 - k)) ((bitL a k + bitL b k + c) / 2) := by
  obtain ⟨h1, h2, h3⟩ := h
  unfold SumR
  rw [with_low hk h1, mod_step a, mod_step b, Nat.pow_succ]
  have hp := pow_pos k
  generalize 2 ^ k = p at *
  have e := bitL_01 a k
  have f := bitL_01 b k
  generalize bitL a k = u at *
  generalize bitL b k = v at *
  rcases e with rfl | rfl <;> rcases f with rfl | rfl <;> rcases h2 with rfl | rfl <;> simp at hs h3 ⊢ <;> omega
theorem sum_skip {a b k x c : Nat} (h : SumR a b k x c) (hs : ¬ (bitL a k + bitL b k + c) % 2 = 1) : SumR a b (k + 1) x ((bitL a k + bitL b k + c) / 2) := by
  obtain ⟨h1, h2, h3⟩ := h
  unfold SumR
  rw [mod_step a, mod_step b, Nat.pow_succ]
  have hp := pow_pos k
  generalize 2 ^ k = p at *
  have e := bitL_01 a k
  have f := bitL_01 b k
  generalize bitL a k = u at *
  generalize bitL b k = v at *
  rcases e with rfl | rfl <;> rcases f with rfl | rfl <;> rcases h2 with rfl | rfl <;> simp at hs h3 ⊢ <;> omega
theorem dif_set {a b k x c : Nat} (hk : k < 128) (h : DifR a b k x c) (hs : (bitL a k + 2 - bitL b k - c) % 2 = 1) : DifR a b (k + 1) (withS x (127 - k)) (1 - (bitL a k + 2 - bitL b k - c) / 2) := by
  obtain ⟨h1, h2, h3⟩ := h
  unfold DifR
  rw [with_low hk h1, mod_step a, mod_step b, Nat.pow_succ]
  have hp := pow_pos k
  generalize 2 ^ k = p at *
  have e := bitL_01 a k
  have f := bitL_01 b k
  generalize bitL a k = u at *
  generalize bitL b k = v at *
  rcases e with rfl | rfl <;> rcases f with rfl | rfl <;> rcases h2 with rfl | rfl <;> simp at hs h3 ⊢ <;> omega
theorem dif_skip {a b k x c : Nat} (h : DifR a b k x c) (hs : ¬ (bitL a k + 2 - bitL b k - c) % 2 = 1) : DifR a b (k + 1) x (1 - (bitL a k + 2 - bitL b k - c) / 2) := by
  obtain ⟨h1, h2, h3⟩ := h
  unfold DifR
  rw [mod_step a, mod_step b, Nat.pow_succ]
  have hp := pow_pos k
  generalize 2 ^ k = p at *
  have e := bitL_01 a k
  have f := bitL_01 b k
  generalize bitL a k = u at *
  generalize bitL b k = v at *
  rcases e with rfl | rfl <;> rcases f with rfl | rfl <;> rcases h2 with rfl | rfl <;> simp at hs h3 ⊢ <;> omega
theorem sum_end {a b x c : Nat} (ha : Fits a) (hb : Fits b) (h : SumR a b 128 x c) : x = addS a b ∧ (c = 1 ↔ 340282366920938463463374607431768211456 ≤ a + b) := by
  obtain ⟨h1, h2, h3⟩ := h
  rw [show (2 : Nat) ^ 128 = 340282366920938463463374607431768211456 from rfl] at *
  unfold Fits at ha hb
  unfold addS
  omega
theorem dif_end {a b x c : Nat} (ha : Fits a) (hb : Fits b) (h : DifR a b 128 x c) : x = subS a b ∧ (c = 1 ↔ a < b) := by
  obtain ⟨h1, h2, h3⟩ := h
  rw [show (2 : Nat) ^ 128 = 340282366920938463463374607431768211456 from rfl] at *
  unfold Fits at ha hb
  unfold subS
  omega

/-! ### the rest -/
/-- the number that one step of the division looks at -/
def modV (a r k : Nat) : Nat := 2 * r + bitS a k
theorem modV_lt {a b r k : Nat} (h : r < b) : modV a r k < 2 * b := by
  have := bitS_lt a k
  unfold modV; omega
theorem mod_high {r : Nat} (hr : Fits r) : bitS r 0 = 1 ↔ 340282366920938463463374607431768211456 ≤ 2 * r := by
  unfold bitS Fits at *
  rw [show (2 : Nat) ^ (127 - 0) = 170141183460469231731687303715884105728 from rfl]
  omega
theorem up_even (r : Nat) : upS r 1 % 2 = 0 := by unfold upS; omega
theorem with_last {x : Nat} (h : x % 2 = 0) : withS x 127 = x + 1 := by
  unfold withS bitS
  rw [show 127 - 127 = 0 from rfl, Nat.pow_zero, Nat.div_one, if_neg (by omega)]
theorem mod_next {a b k : Nat} (h : k < 128) : a / 2 ^ (128 - (k + 1)) % b = modV a (a / 2 ^ (128 - k) % b) k % b := by
  rw [show 128 - (k + 1) = 127 - k by omega, half_step a h]
  unfold modV
  rw [Nat.add_mod, Nat.mul_mod, Nat.add_mod (2 * _) _ b, Nat.mul_mod 2 (_ % b) b, Nat.mod_mod]
theorem mod_less {v b : Nat} (h : v < 2 * b) (hb : b ≤ v) : v % b = v - b := by
  rw [Nat.mod_eq_sub_mod hb, Nat.mod_eq_of_lt (by omega)]
/-- what stands in r behind the shift and the bit -/
def modW (a r k : Nat) : Nat := modV a r k % 340282366920938463463374607431768211456
theorem modW_set {a r k : Nat} (h : bitS a k = 1) : withS (upS r 1) 127 = modW a r k := by
  rw [with_last (up_even r)]
  unfold modW modV upS
  rw [h]; omega
theorem modW_skip {a r k : Nat} (h : ¬ bitS a k = 1) : upS r 1 = modW a r k := by
  have := bitS_lt a k
  unfold modW modV upS
  rw [show bitS a k = 0 by omega]; omega
theorem fits_modW (a r k : Nat) : Fits (modW a r k) := by unfold Fits modW; omega
theorem mod_sub_high {a b r k : Nat} (hb : Fits b) (hr : r < b) (h : bitS r 0 = 1) : subS (modW a r k) b = modV a r k % b := by
  have h1 := modV_lt (a := a) (k := k) hr
  have h2 := (mod_high (by unfold Fits at *; omega)).1 h
  have h3 : modV a r k = 2 * r + bitS a k := rfl
  rw [mod_less h1 (by unfold Fits at *; omega)]
  unfold subS modW Fits at *
  omega
theorem mod_sub_low {a b r k : Nat} (hb : Fits b) (hr : r < b) (h : ¬ bitS r 0 = 1) (hc : b ≤ modW a r k) : subS (modW a r k) b = modV a r k % b := by
  have h1 := modV_lt (a := a) (k := k) hr
  have h2 : ¬ 340282366920938463463374607431768211456 ≤ 2 * r := fun e => h ((mod_high (by unfold Fits at *; omega)).2 e)
  have h3 : modV a r k = 2 * r + bitS a k := rfl
  have h4 := bitS_lt a k
  have h5 : modW a r k = modV a r k := by unfold modW; omega
  rw [h5] at hc ⊢
  rw [mod_less h1 hc]
  unfold subS Fits at *
  omega
theorem mod_keep {a b r k : Nat} (hb : Fits b) (hr : r < b) (h : ¬ bitS r 0 = 1) (hc : modW a r k < b) : modW a r k = modV a r k % b := by
  have h2 : ¬ 340282366920938463463374607431768211456 ≤ 2 * r := fun e => h ((mod_high (by unfold Fits at *; omega)).2 e)
  have h3 : modV a r k = 2 * r + bitS a k := rfl
  have h4 := bitS_lt a k
  have h5 : modW a r k = modV a r k := by unfold modW; omega
  rw [h5] at hc ⊢
  rw [Nat.mod_eq_of_lt hc]
theorem mod_start {a b : Nat} (ha : Fits a) : a / 2 ^ (128 - 0) % b = 0 := by
  rw [Nat.div_eq_of_lt (show a < 2 ^ (128 - 0) from ha), Nat.zero_mod]

/-! ### an address of 32 bits; a prefix's last address -/
theorem to4_set {a k : Nat} (h : k < 96) (hb : bitS a k = 1) : ¬ a < 4294967296 := by
  intro hl
  unfold bitS at hb
  rw [Nat.div_eq_of_lt] at hb
  · omega
  · exact Nat.lt_of_lt_of_le hl (pow_le (k := 32) (by omega))
theorem to4_on {a k : Nat} (h : k < 96) (e : a / 2 ^ (128 - k) = 0) (hb : ¬ bitS a k = 1) : a / 2 ^ (128 - (k + 1)) = 0 := by
  have := bitS_lt a k
  rw [show 128 - (k + 1) = 127 - k by omega, half_step a (by omega), e]; omega
theorem to4_end {a : Nat} (e : a / 2 ^ (128 - 96) = 0) : a < 4294967296 := by
  rw [show (2 : Nat) ^ (128 - 96) = 4294967296 from rfl] at e; omega
/-- the last address of p, set up to bit i -/
def spanS (p n i : Nat) : Nat := p + 2 ^ (128 - n) - 2 ^ (128 - i)
theorem span_start (p n : Nat) : spanS p n n = p := by unfold spanS; omega
theorem span_set {p n i : Nat} (hc : clipS p n = p) (h0 : n ≤ i) (h1 : i < 128) : withS (spanS p n i) i = spanS p n (i + 1) := by
  obtain ⟨q, hq⟩ := clip_dvd hc
  have e1 := pow_two i h1
  have e2 : (2 : Nat) ^ (128 - n) = 2 ^ (i - n) * (2 * 2 ^ (127 - i)) := by rw [← e1, ← Nat.pow_add]; congr 1; omega
  have e3 : 128 - (i + 1) = 127 - i := by omega
  have hp := pow_pos (127 - i)
  have hm := pow_pos (i - n)
  have key : spanS p n i = (2 ^ (i - n) * q + 2 ^ (i - n) - 1) * 2 * 2 ^ (127 - i) := by
    unfold spanS
    rw [hq, e1, e2, Nat.sub_mul, Nat.sub_mul, Nat.add_mul, Nat.add_mul, Nat.one_mul]
    generalize 2 ^ (127 - i) = B
    generalize 2 ^ (i - n) = M
    rw [show M * (2 * B) * q = M * q * 2 * B by rw [Nat.mul_right_comm, ← Nat.mul_assoc], ← Nat.mul_assoc M 2 B]
  unfold withS
  rw [show bitS (spanS p n i) i = 0 by unfold bitS; rw [key, Nat.mul_div_cancel _ hp, Nat.mul_mod_left], if_neg (by omega)]
  unfold spanS
  rw [e3, e1, e2]
  have : 2 * 2 ^ (127 - i) ≤ 2 ^ (i - n) * (2 * 2 ^ (127 - i)) := Nat.le_mul_of_pos_left _ hm
  omega
theorem span_end (p n : Nat) : spanS p n 128 = lastS p n := by unfold spanS lastS; rw [Nat.sub_self, Nat.pow_zero]; have := pow_pos (128 - n); omega
end Go.Proofs.Ytcpldojgmboipaa
