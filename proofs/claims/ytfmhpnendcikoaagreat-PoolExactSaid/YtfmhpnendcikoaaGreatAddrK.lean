/-
  Plain arithmetic of a long division by two digits (the schoolbook's with a trial digit that is at most two too large). No program is named here. No condition beyond those in each theorem's own statement.
-/
import Derived.Test.YtfmhpnendcikoaaGreatAddrP
namespace Go.Proofs.YtfmhpnendcikoaaGreat
open Go

/-- a trial digit q with its rest r: not too small, at most one above the greatest digit -/
def Trial (y y1 u u1 q r : Nat) : Prop := q * y1 + r = u ∧ u * 4294967296 + u1 < (q + 1) * y ∧ q ≤ 4294967297
/-- the digit -/
def Digit (y u u1 q : Nat) : Prop := q * y ≤ u * 4294967296 + u1 ∧ u * 4294967296 + u1 < (q + 1) * y

theorem trial_first {y y1 y0 u u1 : Nat} (hy : y = y1 * 4294967296 + y0) (h0 : y0 < 4294967296) (hl : 2147483648 ≤ y1) (hu : u < y) (h1 : u1 < 4294967296) : Trial y y1 u u1 (u / y1) (u - u / y1 * y1) := by
  have hp : 0 < y1 := by omega
  have e : u / y1 * y1 + u % y1 = u := by rw [Nat.mul_comm]; exact Nat.div_add_mod u y1
  have hr : u % y1 < y1 := Nat.mod_lt _ hp
  refine ⟨by omega, ?_, ?_⟩
  · have k1 : u + 1 ≤ (u / y1 + 1) * y1 := by rw [Nat.add_mul, Nat.one_mul]; omega
    have k2 : (u + 1) * 4294967296 ≤ (u / y1 + 1) * y1 * 4294967296 := Nat.mul_le_mul_right _ k1
    have k3 : (u / y1 + 1) * y = (u / y1 + 1) * y1 * 4294967296 + (u / y1 + 1) * y0 := by rw [hy, Nat.mul_add, Nat.mul_assoc]
    rw [k3]
    omega
  · have k : u / y1 < 4294967298 := by
      apply (Nat.div_lt_iff_lt_mul hp).2
      omega
    omega
theorem trial_next {y y1 y0 u u1 q r : Nat} (hy : y = y1 * 4294967296 + y0) (hu : u < y) (h1 : u1 < 4294967296) (ht : Trial y y1 u u1 q r)
    (h : 4294967296 ≤ q ∨ 4294967296 * r + u1 < q * y0) : 0 < q ∧ Trial y y1 u u1 (q - 1) (r + y1) ∧ q - 1 ≤ 4294967296 := by
  obtain ⟨t1, t2, t3⟩ := ht
  have hq : 0 < q := by
    rcases h with h | h
    · omega
    · rcases Nat.eq_zero_or_pos q with e | e
      · rw [e] at h; omega
      · exact e
  obtain ⟨k, rfl⟩ : ∃ k, q = k + 1 := ⟨q - 1, by omega⟩
  have k2 : (k + 1) * y = (k + 1) * y1 * 4294967296 + (k + 1) * y0 := by rw [hy, Nat.mul_add, Nat.mul_assoc]
  refine ⟨hq, ⟨?_, ?_, by omega⟩, by omega⟩
  · rw [Nat.add_mul] at t1; rw [Nat.add_sub_cancel]; omega
  · rw [Nat.add_sub_cancel]
    rcases h with h | h
    · have a : 4294967296 * y ≤ (k + 1) * y := Nat.mul_le_mul_right _ h
      omega
    · have a : (k + 1) * y1 * 4294967296 + r * 4294967296 = u * 4294967296 := by rw [← Nat.add_mul, t1]
      rw [k2]
      omega
theorem trial_done {y y1 y0 u u1 q r : Nat} (hy : y = y1 * 4294967296 + y0) (ht : Trial y y1 u u1 q r) (h : q * y0 ≤ 4294967296 * r + u1) : Digit y u u1 q := by
  obtain ⟨t1, t2, _⟩ := ht
  refine ⟨?_, t2⟩
  have k2 : q * y = q * y1 * 4294967296 + q * y0 := by rw [hy, Nat.mul_add, Nat.mul_assoc]
  have a : q * y1 * 4294967296 + r * 4294967296 = u * 4294967296 := by rw [← Nat.add_mul, t1]
  rw [k2]
  omega
theorem trial_far {y y1 y0 u u1 q r : Nat} (hy : y = y1 * 4294967296 + y0) (h0 : y0 < 4294967296) (ht : Trial y y1 u u1 q r) (hq : q ≤ 4294967296) (hr : 4294967296 ≤ r) : Digit y u u1 q := by
  apply trial_done hy ht
  have a : q * y0 ≤ 4294967296 * y0 := Nat.mul_le_mul_right _ hq
  omega
theorem trial_rest {y y1 u u1 q r : Nat} (ht : Trial y y1 u u1 q r) : q * y1 ≤ u := by have := ht.1; omega
theorem digit_rest {y u u1 q : Nat} (hd : Digit y u u1 q) : u * 4294967296 + u1 - q * y < y ∧ u * 4294967296 + u1 - q * y = (u * 4294967296 + u1) % y := by
  obtain ⟨a, b⟩ := hd
  have c : u * 4294967296 + u1 - q * y < y := by rw [Nat.add_mul, Nat.one_mul] at b; omega
  refine ⟨c, ?_⟩
  have e : u * 4294967296 + u1 = (u * 4294967296 + u1 - q * y) + y * q := by rw [Nat.mul_comm y q]; omega
  conv => rhs; rw [e]
  rw [Nat.add_mul_mod_self_left, Nat.mod_eq_of_lt c]
theorem digit_lt {y u u1 q : Nat} (hu : u < y) (h1 : u1 < 4294967296) (hd : Digit y u u1 q) : q < 4294967296 := by
  obtain ⟨a, _⟩ := hd
  rcases Nat.lt_or_ge q 4294967296 with h | h
  · exact h
  · have : 4294967296 * y ≤ q * y := Nat.mul_le_mul_right _ h
    omega

/-- the rest of two digits, one behind the other -/
theorem two_rests (u u1 u0 y : Nat) : ((u * 4294967296 + u1) % y * 4294967296 + u0) % y = (u * 18446744073709551616 + (u1 * 4294967296 + u0)) % y := by
  rw [Nat.add_mod, Nat.mod_mul_mod, ← Nat.add_mod]
  have e : (u * 4294967296 + u1) * 4294967296 + u0 = u * 18446744073709551616 + (u1 * 4294967296 + u0) := by omega
  rw [e]
/-- the word h l with both moved s bits up: its highest word -/
def upper (h l s : Nat) : Nat := h * 2 ^ s + l / 2 ^ (64 - s)
theorem upper_eq {h l s : Nat} (hs : s ≤ 63) : upper h l s * 18446744073709551616 + l * 2 ^ s % 18446744073709551616 = (h * 18446744073709551616 + l) * 2 ^ s := by
  have e : l * 2 ^ s / 18446744073709551616 = l / 2 ^ (64 - s) := by
    rw [show (18446744073709551616 : Nat) = 2 ^ (64 - s) * 2 ^ s by rw [← Nat.pow_add, show 64 - s + s = 64 by omega]]
    exact Nat.mul_div_mul_right _ _ (pow_pos _)
  have d := Nat.div_add_mod (l * 2 ^ s) 18446744073709551616
  unfold upper
  rw [← e, Nat.add_mul (h * 18446744073709551616) l, Nat.mul_right_comm h]
  generalize l * 2 ^ s = L at *
  generalize h * 2 ^ s = H at *
  omega
theorem upper_lt {h l s y : Nat} (hs : s ≤ 63) (hl : l < 18446744073709551616) (hy : h < y) : upper h l s < y * 2 ^ s := by
  have a : l / 2 ^ (64 - s) < 2 ^ s := by
    apply (Nat.div_lt_iff_lt_mul (pow_pos _)).2
    rw [← Nat.pow_add, show s + (64 - s) = 64 by omega]
    exact hl
  have b : (h + 1) * 2 ^ s ≤ y * 2 ^ s := Nat.mul_le_mul_right _ hy
  rw [Nat.add_mul, Nat.one_mul] at b
  unfold upper
  omega
theorem rest_down (N y s : Nat) : N * 2 ^ s % (y * 2 ^ s) / 2 ^ s = N % y := by
  rw [Nat.mul_mod_mul_right, Nat.mul_div_cancel _ (pow_pos s)]
end Go.Proofs.YtfmhpnendcikoaaGreat
