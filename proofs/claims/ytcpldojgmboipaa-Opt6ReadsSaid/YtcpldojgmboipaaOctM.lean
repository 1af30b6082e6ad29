/-
  Numbers as bytes, the highest first: mathematics of octet. No program is named here. No condition beyond those in each theorem's own statement.
-/
import Derived.Test.YtcpldojgmboipaaAddrP
import Derived.WalkKit
import Derived.Laws.Strings
import Derived.Lib.Strings
namespace Go.Proofs.Ytcpldojgmboipaa
open Go

/-- the lowest k bytes of a number, the highest first -/
def beL : Nat → Nat → List UInt8
  | 0, _ => []
  | k + 1, x => UInt8.ofNat (x / 256 ^ k % 256) :: beL k x
/-- the number that bytes are, behind an accumulator -/
def beF : Nat → List UInt8 → Nat
  | n, [] => n
  | n, b :: r => beF (n * 256 + b.toNat) r
def beV (l : List UInt8) : Nat := beF 0 l
theorem beL_length (k x : Nat) : (beL k x).length = k := by
  induction k with
  | zero => rfl
  | succ k ih => simp [beL, ih]
theorem byte_toNat (n : Nat) : (UInt8.ofNat (n % 256)).toNat = n % 256 := by
  rw [UInt8.toNat_ofNat']; omega
theorem pow256 (k : Nat) : 0 < 256 ^ k := Nat.pow_pos (by omega)
theorem beF_beL (k x n : Nat) : beF n (beL k x) = n * 256 ^ k + x % 256 ^ k := by
  induction k generalizing n with
  | zero => simp [beL, beF, Nat.mod_one]
  | succ k ih =>
    rw [beL, beF, ih, byte_toNat, Nat.pow_succ, Nat.mod_mul]
    rw [Nat.add_mul, Nat.mul_assoc, Nat.mul_comm 256 (256 ^ k), Nat.mul_comm (x / 256 ^ k % 256) (256 ^ k)]
    omega
theorem beV_beL {k x : Nat} (h : x < 256 ^ k) : beV (beL k x) = x := by
  unfold beV
  rw [beF_beL, Nat.mod_eq_of_lt h, Nat.zero_mul, Nat.zero_add]
theorem beF_snoc : ∀ (l : List UInt8) (n : Nat) (b : UInt8), beF n (l ++ [b]) = beF n l * 256 + b.toNat
  | [], n, b => rfl
  | c :: r, n, b => by rw [List.cons_append, beF, beF_snoc r]; rfl
theorem beV_snoc (l : List UInt8) (b : UInt8) : beV (l ++ [b]) = beV l * 256 + b.toNat := beF_snoc l 0 b
theorem beF_lt : ∀ (l : List UInt8) (n : Nat), beF n l < (n + 1) * 256 ^ l.length
  | [], n => by simp [beF]
  | c :: r, n => by
    have h := beF_lt r (n * 256 + c.toNat)
    have hc := c.toNat_lt
    have h3 : (n * 256 + c.toNat + 1) * 256 ^ r.length ≤ ((n + 1) * 256) * 256 ^ r.length := Nat.mul_le_mul_right _ (by omega)
    rw [beF, List.length_cons, Nat.pow_succ, Nat.mul_comm (256 ^ r.length) 256, ← Nat.mul_assoc]
    omega
theorem beV_lt (l : List UInt8) : beV l < 256 ^ l.length := by
  have := beF_lt l 0
  simpa [beV] using this
/-- two rows of bytes, one behind the other -/
theorem beL_add : ∀ (j k x : Nat), beL (j + k) x = beL j (x / 256 ^ k) ++ beL k x
  | 0, k, x => by simp [beL]
  | j + 1, k, x => by
    rw [show j + 1 + k = (j + k) + 1 by omega, beL, beL, List.cons_append, beL_add j k x, Nat.div_div_eq_div_mul, ← Nat.pow_add, Nat.add_comm k j]
theorem beL_mod : ∀ (k x : Nat), beL k (x % 256 ^ k) = beL k x
  | 0, _ => rfl
  | k + 1, x => by
    have h : ∀ j y z, y % 256 ^ j = z % 256 ^ j → beL j y = beL j z := by
      intro j
      induction j with
      | zero => intros; rfl
      | succ j ih =>
        intro y z e
        have e1 : y / 256 ^ j % 256 = z / 256 ^ j % 256 := by
          rw [← Nat.mod_mul_right_div_self, ← Nat.mod_mul_right_div_self, ← Nat.pow_succ, e]
        have e2 : y % 256 ^ j = z % 256 ^ j := by
          have := congrArg (· % 256 ^ j) e
          simpa [Nat.pow_succ, Nat.mod_mul_right_mod] using this
        rw [beL, beL, e1, ih _ _ e2]
    exact h _ _ _ (Nat.mod_mod _ _)
/-- bytes rise as numbers do -/
theorem beL_lt : ∀ (k x y : Nat), x < 256 ^ k → y < 256 ^ k → (beL k x < beL k y ↔ x < y)
  | 0, x, y, hx, hy => by simp at hx hy; subst hx hy; simp [beL]
  | k + 1, x, y, hx, hy => by
    have hp := pow256 k
    have ex := Nat.div_add_mod x (256 ^ k)
    have ey := Nat.div_add_mod y (256 ^ k)
    have mx := Nat.mod_lt x hp
    have my := Nat.mod_lt y hp
    have bx : x / 256 ^ k < 256 := by apply (Nat.div_lt_iff_lt_mul hp).2; rw [Nat.mul_comm, ← Nat.pow_succ]; exact hx
    have yb : y / 256 ^ k < 256 := by apply (Nat.div_lt_iff_lt_mul hp).2; rw [Nat.mul_comm, ← Nat.pow_succ]; exact hy
    rw [beL, beL, List.cons_lt_cons_iff, UInt8.lt_iff_toNat_lt, byte_toNat, byte_toNat, Nat.mod_eq_of_lt bx, Nat.mod_eq_of_lt yb, ← beL_mod k x, ← beL_mod k y, beL_lt k _ _ mx my]
    have key : (UInt8.ofNat (x / 256 ^ k) = UInt8.ofNat (y / 256 ^ k)) ↔ x / 256 ^ k = y / 256 ^ k := by
      constructor
      · intro e
        have := congrArg UInt8.toNat e
        rw [UInt8.toNat_ofNat', UInt8.toNat_ofNat', Nat.mod_eq_of_lt bx, Nat.mod_eq_of_lt yb] at this
        exact this
      · intro e; rw [e]
    rw [key]
    generalize 256 ^ k = p at *
    generalize x / p = qx at *
    generalize y / p = qy at *
    generalize x % p = rx at *
    generalize y % p = ry at *
    subst ex ey
    constructor
    · rintro (h | ⟨h, h'⟩)
      · have : p * (qx + 1) ≤ p * qy := Nat.mul_le_mul_left _ h
        rw [Nat.mul_add] at this; omega
      · subst h; omega
    · intro h
      rcases Nat.lt_trichotomy qx qy with h1 | h1 | h1
      · exact Or.inl h1
      · subst h1; exact Or.inr ⟨rfl, by omega⟩
      · have : p * (qy + 1) ≤ p * qx := Nat.mul_le_mul_left _ h1
        rw [Nat.mul_add] at this; omega
theorem beL_inj {k x y : Nat} (hx : x < 256 ^ k) (hy : y < 256 ^ k) (h : beL k x = beL k y) : x = y := by
  rw [← beV_beL hx, ← beV_beL hy, h]
/-- the 16 bytes of an address -/
theorem beL_addr (a : Nat) : beL 8 (hi a) ++ beL 8 (lo a) = beL 16 a := by
  have e := beL_add 8 8 a
  rw [show (8 + 8 : Nat) = 16 from rfl, show (256 : Nat) ^ 8 = 18446744073709551616 from rfl] at e
  rw [e]
  have : beL 8 (lo a) = beL 8 a := by
    rw [← beL_mod 8 a]; rfl
  rw [this]; rfl
/-! ### pieces -/
/-- n bytes from a place on -/
def sub (s : ByteArray) (o n : Nat) : ByteArray := s.extract o (o + n)
/-- whether there are n bytes from a place on -/
def cutO (s : ByteArray) (a n : Int) : Bool := decide (0 ≤ a ∧ 0 ≤ n ∧ n ≤ (s.size : Int) - a)
def cutV (s : ByteArray) (a n : Int) : ByteArray := if cutO s a n = true then sub s a.toNat n.toNat else ⟨#[]⟩
theorem cut_yes {s : ByteArray} {a n : Int} (h : cutO s a n = true) : cutV s a n = sub s a.toNat n.toNat := by unfold cutV; rw [if_pos h]
theorem cut_no {s : ByteArray} {a n : Int} (h : cutO s a n = false) : cutV s a n = ⟨#[]⟩ := by unfold cutV; rw [if_neg (by rw [h]; simp)]
theorem sub_size {s : ByteArray} {o n : Nat} (h : o + n ≤ s.size) : (sub s o n).size = n := by
  unfold sub; rw [ByteArray.size_extract]; omega
theorem sub_list (s : ByteArray) (o n : Nat) : (sub s o n).data.toList = (s.data.toList.drop o).take n := by
  unfold sub
  rw [ByteArray.data_extract, Array.toList_extract, List.extract_eq_take_drop]
  congr 1; omega
/-- what a number of S bytes is read as -/
def getV (S : Nat) (s : ByteArray) (a : Int) : Nat := beV (cutV s a S).data.toList
theorem getV_no {S : Nat} {s : ByteArray} {a : Int} (h : cutO s a S = false) : getV S s a = 0 := by unfold getV; rw [cut_no h]; rfl
theorem cut_size_le {S : Nat} {s : ByteArray} {a : Int} : (cutV s a S).size ≤ S := by
  cases h : cutO s a S with
  | false => rw [cut_no h]; exact Nat.zero_le _
  | true =>
    rw [cut_yes h]
    unfold cutO at h
    simp at h
    rw [sub_size (by omega)]; omega
theorem getV_lt (S : Nat) (s : ByteArray) (a : Int) : getV S s a < 256 ^ S := by
  unfold getV
  have h1 := beV_lt (cutV s a S).data.toList
  have h2 : (cutV s a S).data.toList.length ≤ S := cut_size_le
  exact Nat.lt_of_lt_of_le h1 (Nat.pow_le_pow_right (by omega) h2)
end Go.Proofs.Ytcpldojgmboipaa
