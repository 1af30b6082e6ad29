/-
  Mathematics of DigestBits: a row of bytes of which four are turned by a mask that is not 0 has another sum. No condition beyond those in each theorem's own statement.
-/
import Derived.Test.YtiickcdkibcdpaaDoorDigB
namespace Go.Proofs.YtiickcdkibcdpaaDoor
open Go.RowKit Go.Joins

/-- the number of bytes, the lowest first -/
def leV : List UInt8 → Nat
  | [] => 0
  | b :: l => b.toNat ^^^ leV l * 256
theorem crcN_add (r : Nat) (j : Nat) : ∀ k, crcN (j + k) r = crcN k (crcN j r)
  | 0 => rfl
  | k + 1 => by rw [← Nat.add_assoc, crcN, crcN_add r j k]; rfl
theorem crcF_le : ∀ (l : List UInt8) (r : Nat), crcF l r = crcN (8 * l.length) (r ^^^ leV l)
  | [], r => by rw [leV, Nat.xor_zero]; rfl
  | b :: l, r => by
    rw [crcF, crcF_le l, leV, List.length_cons, show 8 * (l.length + 1) = 8 + 8 * l.length by omega, crcN_add, ← Nat.xor_assoc, crcN_xor (r ^^^ b.toNat), crcN_byte]
theorem crcF_app : ∀ (a b : List UInt8) (r : Nat), crcF (a ++ b) r = crcF b (crcF a r)
  | [], _, _ => rfl
  | _ :: a, b, _ => crcF_app a b _
theorem xor_ne {a b : Nat} (h : a ≠ b) : a ^^^ b ≠ 0 := fun e => h (by
  have := congrArg (· ^^^ b) e
  simpa [Nat.xor_assoc] using this)
theorem crcF_ne (l : List UInt8) {a b : Nat} (ha : a < 4294967296) (hb : b < 4294967296) (h : a ≠ b) : crcF l a ≠ crcF l b := by
  intro e
  rw [crcF_le, crcF_le] at e
  have h1 : crcN (8 * l.length) ((a ^^^ leV l) ^^^ (b ^^^ leV l)) = 0 := by rw [crcN_xor, e, Nat.xor_self]
  rw [xor_swap] at h1
  exact crcN_ne (xor_lt ha hb) (xor_ne h) _ h1
/-- four bytes of a mask -/
def mb (m : Nat) (i : Nat) : UInt8 := UInt8.ofNat (m / 2 ^ (8 * i) % 256)
theorem leV_mask {m : Nat} (h : m < 4294967296) : leV [mb m 0, mb m 1, mb m 2, mb m 3] = m := by
  have e : ∀ i, (mb m i).toNat = m / 2 ^ (8 * i) % 256 := fun i => by unfold mb; simp
  have sh : ∀ x y : Nat, x < 256 → x ^^^ y * 256 = x + y * 256 := fun x y hx => by
    rw [show (256 : Nat) = 2 ^ 8 from rfl, ← or_add (k := 8) hx, Nat.mul_comm]
    apply Nat.eq_of_testBit_eq
    intro i
    rw [Nat.testBit_xor, Nat.testBit_or, Nat.testBit_two_pow_mul]
    by_cases hi : 8 ≤ i
    · have h256 : 2 ^ 8 ≤ 2 ^ i := Nat.pow_le_pow_right (by decide) hi
      have : x.testBit i = false := Nat.testBit_lt_two_pow (Nat.lt_of_lt_of_le hx h256)
      rw [this]; simp
    · simp [hi]
  simp only [leV, e]
  rw [Nat.zero_mul, Nat.xor_zero, sh _ _ (by omega), sh _ _ (by omega), sh _ _ (by omega)]
  simp only [Nat.reduceMul, Nat.reducePow, Nat.pow_zero, Nat.div_one]
  omega
theorem leV_xor4 (a0 a1 a2 a3 b0 b1 b2 b3 : UInt8) : leV [a0 ^^^ b0, a1 ^^^ b1, a2 ^^^ b2, a3 ^^^ b3] = leV [a0, a1, a2, a3] ^^^ leV [b0, b1, b2, b3] := by
  have hx : ∀ a b : Nat, (a ^^^ b) * 256 = (a * 256) ^^^ (b * 256) := fun a b => by
    apply Nat.eq_of_testBit_eq
    intro i
    rw [show (256 : Nat) = 2 ^ 8 from rfl, Nat.mul_comm _ (2 ^ 8), Nat.mul_comm _ (2 ^ 8), Nat.mul_comm _ (2 ^ 8)]
    simp only [Nat.testBit_xor, Nat.testBit_two_pow_mul]
    by_cases hi : 8 ≤ i <;> simp [hi]
  simp only [leV, UInt8.toNat_xor, Nat.zero_mul, Nat.xor_zero, hx]
  ac_rfl
theorem leV_lt4 (a0 a1 a2 a3 : UInt8) : leV [a0, a1, a2, a3] < 4294967296 := by
  have h0 := byte_lt a0
  have h1 := byte_lt a1
  have h2 := byte_lt a2
  have h3 := byte_lt a3
  have l3 : leV [a3] < 256 := by simpa [leV] using h3
  have l2 : leV [a2, a3] < 65536 := Nat.xor_lt_two_pow (n := 16) (by omega) (by omega)
  have l1 : leV [a1, a2, a3] < 16777216 := Nat.xor_lt_two_pow (n := 24) (by omega) (by omega)
  exact Nat.xor_lt_two_pow (n := 32) (by omega) (by omega)
/-- the bytes behind i of the four are turned -/
def bitF (l : List UInt8) (k m i : Nat) : Nat → UInt8 := fun j => if k ≤ j ∧ j < k + i then atL l j ^^^ mb m (j - k) else atL l j
theorem bitF_next (l : List UInt8) {k m i j : Nat} (h : j ≠ k + i) : bitF l k m (i + 1) j = bitF l k m i j := by
  unfold bitF
  by_cases h2 : k ≤ j ∧ j < k + i
  · rw [if_pos h2, if_pos (by omega)]
  · rw [if_neg h2, if_neg (by omega)]
def bitL (l : List UInt8) (k m : Nat) : List UInt8 := (List.range l.length).map (bitF l k m 4)
theorem bitL_at (l : List UInt8) (k m j : Nat) (h : j < l.length) : (bitL l k m)[j]? = some (bitF l k m 4 j) := by
  unfold bitL
  rw [List.getElem?_map, List.getElem?_range h]; rfl
theorem bitL_length (l : List UInt8) (k m : Nat) : (bitL l k m).length = l.length := by unfold bitL; simp
theorem part4 {l : List UInt8} {k : Nat} (h : k + 4 ≤ l.length) : l = l.take k ++ ([atL l k, atL l (k + 1), atL l (k + 2), atL l (k + 3)] ++ l.drop (k + 4)) := by
  have e : ∀ j, j < l.length → l.drop j = atL l j :: l.drop (j + 1) := fun j hj => by
    rw [List.drop_eq_getElem_cons hj]
    unfold atL
    rw [List.getD_eq_getElem?_getD, List.getElem?_eq_getElem hj]; rfl
  have h1 := e k (by omega)
  rw [e (k + 1) (by omega), e (k + 1 + 1) (by omega), e (k + 1 + 1 + 1) (by omega)] at h1
  have h2 := (List.take_append_drop k l).symm
  rw [h1] at h2
  exact h2
theorem crc4_ne (r : Nat) (a0 a1 a2 a3 : UInt8) {m : Nat} (hm : m < 4294967296) (h0 : m ≠ 0) : crcF [a0 ^^^ mb m 0, a1 ^^^ mb m 1, a2 ^^^ mb m 2, a3 ^^^ mb m 3] r ≠ crcF [a0, a1, a2, a3] r := by
  intro e2
  rw [crcF_le, crcF_le, leV_xor4, leV_mask hm] at e2
  generalize leV [a0, a1, a2, a3] = v at e2
  have e3 : crcN 32 (r ^^^ (v ^^^ m)) = crcN 32 (r ^^^ v) := e2
  have e4 : (r ^^^ (v ^^^ m)) ^^^ (r ^^^ v) = m := by
    rw [← Nat.xor_assoc r v m, Nat.xor_comm (r ^^^ v) m, Nat.xor_assoc, Nat.xor_self, Nat.xor_zero]
  have h1 : crcN 32 ((r ^^^ (v ^^^ m)) ^^^ (r ^^^ v)) = 0 := by
    rw [crcN_xor, e3, Nat.xor_self]
  rw [e4] at h1
  exact crcN_ne hm h0 32 h1
theorem bit_ne {l : List UInt8} {k m : Nat} (h : k + 4 ≤ l.length) (hm : m < 4294967296) (h0 : m ≠ 0) : crcL (bitL l k m) ≠ crcL l := by
  have hl := bitL_length l k m
  have p1 := part4 h
  have p2 := part4 (l := bitL l k m) (k := k) (by omega)
  have a : ∀ j, j < l.length → atL (bitL l k m) j = bitF l k m 4 j := fun j hj => by
    show (bitL l k m).getD j 0 = _
    rw [List.getD_eq_getElem?_getD, bitL_at l k m j hj]; rfl
  have t1 : (bitL l k m).take k = l.take k := by
    apply List.ext_getElem?
    intro j
    rw [List.getElem?_take, List.getElem?_take]
    by_cases hj : j < k
    · rw [if_pos hj, if_pos hj, bitL_at l k m j (by omega)]
      unfold bitF atL
      rw [if_neg (by omega), List.getD_eq_getElem?_getD, List.getElem?_eq_getElem (by omega)]; rfl
    · rw [if_neg hj, if_neg hj]
  have t2 : (bitL l k m).drop (k + 4) = l.drop (k + 4) := by
    apply List.ext_getElem?
    intro j
    rw [List.getElem?_drop, List.getElem?_drop]
    by_cases hj : k + 4 + j < l.length
    · rw [bitL_at l k m _ hj]
      unfold bitF atL
      rw [if_neg (by omega), List.getD_eq_getElem?_getD, List.getElem?_eq_getElem hj]; rfl
    · rw [List.getElem?_eq_none (by omega), List.getElem?_eq_none (by omega)]
  have f : ∀ i, i < 4 → atL (bitL l k m) (k + i) = atL l (k + i) ^^^ mb m i := fun i hi => by
    rw [a (k + i) (by omega)]
    unfold bitF
    rw [if_pos (by omega), show k + i - k = i by omega]
  rw [t1, t2, f 1 (by omega), f 2 (by omega), f 3 (by omega), show atL (bitL l k m) k = atL l k ^^^ mb m 0 from f 0 (by omega)] at p2
  intro e
  unfold crcL at e
  have e' : crcF (bitL l k m) 4294967295 = crcF l 4294967295 := by
    have := congrArg (· ^^^ 4294967295) e
    simpa [Nat.xor_assoc] using this
  rw [p2] at e'
  conv at e' => rhs; rw [p1]
  rw [crcF_app, crcF_app, crcF_app, crcF_app] at e'
  have hr : crcF (l.take k) 4294967295 < 4294967296 := crcF_lt _ _ (by omega)
  generalize crcF (l.take k) 4294967295 = r at *
  refine crcF_ne (l.drop (k + 4)) (crcF_lt _ _ hr) (crcF_lt _ _ hr) ?_ e'
  exact crc4_ne r (atL l k) (atL l (k + 1)) (atL l (k + 2)) (atL l (k + 3)) hm h0
end Go.Proofs.YtiickcdkibcdpaaDoor
