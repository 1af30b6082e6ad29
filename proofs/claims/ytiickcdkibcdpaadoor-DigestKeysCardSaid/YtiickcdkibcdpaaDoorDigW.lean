/-
  MD5 as a function of rows of bytes: mathematics of digest. No program is named here. No condition beyond those in each theorem's own statement.
-/
import Derived.Test.YtiickcdkibcdpaaDoorDigC
namespace Go.Proofs.YtiickcdkibcdpaaDoor
open Go.RowKit Go.Joins

/-- four words -/
structure S4 where
  a : Nat
  b : Nat
  c : Nat
  d : Nat
def Ok4 (s : S4) : Prop := s.a < 4294967296 ∧ s.b < 4294967296 ∧ s.c < 4294967296 ∧ s.d < 4294967296
abbrev V4 (s : S4) : Value := .agg #[U s.a, U s.b, U s.c, U s.d]
def sinesL : List Nat := [3614090360, 3905402710, 606105819, 3250441966, 4118548399, 1200080426, 2821735955, 4249261313, 1770035416, 2336552879, 4294925233, 2304563134, 1804603682, 4254626195, 2792965006, 1236535329, 4129170786, 3225465664, 643717713, 3921069994, 3593408605, 38016083, 3634488961, 3889429448, 568446438, 3275163606, 4107603335, 1163531501, 2850285829, 4243563512, 1735328473, 2368359562, 4294588738, 2272392833, 1839030562, 4259657740, 2763975236, 1272893353, 4139469664, 3200236656, 681279174, 3936430074, 3572445317, 76029189, 3654602809, 3873151461, 530742520, 3299628645, 4096336452, 1126891415, 2878612391, 4237533241, 1700485571, 2399980690, 4293915773, 2240044497, 1873313359, 4264355552, 2734768916, 1309151649, 4149444226, 3174756917, 718787259, 3951481745]
def turnsL : List Nat := [7, 12, 17, 22, 5, 9, 14, 20, 4, 11, 16, 23, 6, 10, 15, 21]
def sine (i : Nat) : Nat := sinesL.getD i 0
def turn (i : Nat) : Nat := turnsL.getD i 0
theorem sine_lt : ∀ i, i < 64 → sine i < 4294967296 := by decide +kernel
theorem turn_lt : ∀ i, i < 16 → turn i < 32 ∧ 0 < turn i := by decide +kernel
def add32 (x y : Nat) : Nat := (x + y) % 4294967296
def rot32 (x n : Nat) : Nat := (x * 2 ^ n % 4294967296) ||| (x / 2 ^ (32 - n))
def not32 (x : Nat) : Nat := x ^^^ 4294967295
/-- what step i mixes, and of which word -/
def mixF (i b c d : Nat) : Nat :=
  if i / 16 = 0 then (b &&& c) ||| (not32 b &&& d) else if i / 16 = 1 then (d &&& b) ||| (not32 d &&& c) else if i / 16 = 2 then (b ^^^ c) ^^^ d else c ^^^ (b ||| not32 d)
def mixK (i : Nat) : Nat := if i / 16 = 0 then i else if i / 16 = 1 then (5 * i + 1) % 16 else if i / 16 = 2 then (3 * i + 5) % 16 else (7 * i) % 16
theorem mixK_lt {i : Nat} (h : i < 64) : mixK i < 16 := by
  unfold mixK
  split
  · omega
  · split
    · omega
    · split <;> omega
theorem not_lt {x : Nat} (h : x < 4294967296) : not32 x < 4294967296 := xor_lt h (by omega)
theorem add_lt (x y : Nat) : add32 x y < 4294967296 := by unfold add32; omega
theorem mixF_lt {i b c d : Nat} (hb : b < 4294967296) (hc : c < 4294967296) (hd : d < 4294967296) : mixF i b c d < 4294967296 := by
  unfold mixF
  split
  · exact or_lt (and_lt _ hb) (and_lt _ (not_lt hb))
  · split
    · exact or_lt (and_lt _ hd) (and_lt _ (not_lt hd))
    · split
      · exact xor_lt (xor_lt hb hc) hd
      · exact xor_lt hc (or_lt hb (not_lt hd))
theorem rot_lt {x n : Nat} (h : x < 4294967296) : rot32 x n < 4294967296 := by
  unfold rot32
  exact or_lt (by omega) (Nat.lt_of_le_of_lt (Nat.div_le_self _ _) h)
/-- a number that is there -/
def frc {α : Type} (n : Nat) (k : Nat → α) : α := Nat.casesOn n (k 0) (fun m => k (m + 1))
theorem frc_eq {α : Type} (n : Nat) (k : Nat → α) : frc n k = k n := by cases n <;> rfl
/-- the sums behind step i, over the words of a block -/
def stepS (w : List Nat) (i : Nat) (s : S4) : S4 :=
  ⟨s.d, add32 s.b (rot32 (add32 s.a (add32 (add32 (mixF i s.b s.c s.d) (w.getD (mixK i) 0)) (sine i))) (turn (i / 16 * 4 + i % 4))), s.b, s.c⟩
def stepsS (w : List Nat) : Nat → S4 → S4
  | 0, s => s
  | k + 1, s => stepS w k (stepsS w k s)
def sumS (s t : S4) : S4 := ⟨add32 s.a t.a, add32 s.b t.b, add32 s.c t.c, add32 s.d t.d⟩
theorem step_ok {w : List Nat} {i : Nat} {s : S4} (h : Ok4 s) : Ok4 (stepS w i s) := ⟨h.2.2.2, add_lt _ _, h.2.1, h.2.2.1⟩
theorem steps_ok {w : List Nat} {s : S4} (h : Ok4 s) : ∀ k, Ok4 (stepsS w k s)
  | 0 => h
  | k + 1 => step_ok (steps_ok h k)
theorem sum_ok (s t : S4) : Ok4 (sumS s t) := ⟨add_lt _ _, add_lt _ _, add_lt _ _, add_lt _ _⟩
/-- the words of 64 bytes, of each the lowest byte first -/
def wstep (ws : List Nat) (i b : Nat) : List Nat := ws.set (i / 4) (ws.getD (i / 4) 0 + b * 2 ^ (8 * (i % 4)))
def wAcc (l : List UInt8) : Nat → List Nat
  | 0 => List.replicate 16 0
  | i + 1 => wstep (wAcc l i) i (l.getD i 0).toNat
def wordsL (l : List UInt8) : List Nat := wAcc l 64
theorem wAcc_length (l : List UInt8) : ∀ i, (wAcc l i).length = 16
  | 0 => rfl
  | i + 1 => by rw [wAcc, wstep, List.length_set, wAcc_length l i]
theorem getD_set (ws : List Nat) (i j x : Nat) : (ws.set i x).getD j 0 = if i = j ∧ j < ws.length then x else ws.getD j 0 := by
  rw [List.getD_eq_getElem?_getD, List.getElem?_set, List.getD_eq_getElem?_getD]
  by_cases h : i = j
  · subst h
    by_cases h2 : i < ws.length
    · simp [h2]
    · simp [h2]
  · simp [h]
theorem wAcc_lt (l : List UInt8) : ∀ i j, (wAcc l i).getD j 0 < 2 ^ (8 * min (i - 4 * j) 4)
  | 0, j => by
    have : (wAcc l 0).getD j 0 = 0 := by
      unfold wAcc
      rw [List.getD_eq_getElem?_getD, List.getElem?_replicate]
      split <;> rfl
    rw [this]; exact Nat.two_pow_pos _
  | i + 1, j => by
    have ih := wAcc_lt l i j
    rw [wAcc, wstep, getD_set]
    split
    · rename_i h
      obtain ⟨h1, _⟩ := h
      rw [h1]
      have hb := byte_lt (l.getD i 0)
      generalize (l.getD i 0).toNat = b at *
      generalize (wAcc l i).getD j 0 = x at *
      have e1 : min (i - 4 * j) 4 = i % 4 := by omega
      have e2 : 8 * min (i + 1 - 4 * j) 4 = 8 * (i % 4) + 8 := by omega
      rw [e1] at ih
      rw [e2, Nat.pow_add]
      generalize 2 ^ (8 * (i % 4)) = p at *
      have : b * p ≤ 255 * p := Nat.mul_le_mul_right _ (by omega)
      omega
    · refine Nat.lt_of_lt_of_le ih (Nat.pow_le_pow_right (by omega) ?_)
      omega
theorem wAcc_u32 (l : List UInt8) (i j : Nat) : (wAcc l i).getD j 0 < 4294967296 :=
  Nat.lt_of_lt_of_le (wAcc_lt l i j) (Nat.le_trans (Nat.pow_le_pow_right (by omega) (show 8 * min (i - 4 * j) 4 ≤ 32 by omega)) (by decide))
theorem or_add {x y k : Nat} (hy : y < 2 ^ k) : y ||| x * 2 ^ k = y + x * 2 ^ k := by
  rw [Nat.or_comm, Nat.mul_comm, ← Nat.two_pow_add_eq_or_of_lt hy, Nat.add_comm]
theorem wAcc_or (l : List UInt8) (i : Nat) (hi : i < 64) : (wAcc l i).getD (i / 4) 0 ||| (l.getD i 0).toNat * 2 ^ (8 * (i % 4)) = (wAcc l (i + 1)).getD (i / 4) 0 := by
  have h := wAcc_lt l i (i / 4)
  rw [show min (i - 4 * (i / 4)) 4 = i % 4 by omega] at h
  rw [or_add h, wAcc, wstep, getD_set, if_pos ⟨rfl, by rw [wAcc_length]; omega⟩]
theorem wAcc_shl (l : List UInt8) (i : Nat) : (l.getD i 0).toNat * 2 ^ (8 * (i % 4)) < 4294967296 := by
  have hb := byte_lt (l.getD i 0)
  have hp : 2 ^ (8 * (i % 4)) ≤ 2 ^ 24 := Nat.pow_le_pow_right (by omega) (by omega)
  have := Nat.mul_le_mul (show (l.getD i 0).toNat ≤ 255 by omega) hp
  omega
theorem wAcc_next (l : List UInt8) (i : Nat) (hi : i < 64) : (wAcc l i).set (i / 4) ((wAcc l (i + 1)).getD (i / 4) 0) = wAcc l (i + 1) := by
  rw [wAcc, wstep, getD_set, if_pos ⟨rfl, by rw [wAcc_length]; omega⟩]
def blockS (s : S4) (l : List UInt8) : S4 := sumS s (stepsS (wordsL l) 64 s)
/-- the lowest k bytes of a number, the lowest first -/
def leL : Nat → Nat → List UInt8
  | 0, _ => []
  | k + 1, x => UInt8.ofNat (x % 256) :: leL k (x / 256)
/-- the sums behind so many blocks -/
def blocksS : Nat → S4 → List UInt8 → S4
  | 0, s, _ => s
  | k + 1, s, l => blocksS k (blockS s (l.take 64)) (l.drop 64)
def start4 : S4 := ⟨1732584193, 4023233417, 2562383102, 271733878⟩
def bytesS (s : S4) : List UInt8 := leL 4 s.a ++ leL 4 s.b ++ leL 4 s.c ++ leL 4 s.d
/-- what stands behind n bytes -/
def padL (n : Nat) : List UInt8 := 128 :: (List.replicate ((119 - n % 64) % 64) 0 ++ leL 8 (n * 8 % 18446744073709551616))
def textL (l : List UInt8) : List UInt8 := l ++ padL l.length
def md5L (l : List UInt8) : List UInt8 := bytesS (blocksS ((textL l).length / 64) start4 (textL l))
/-- a key's bytes, each exclusive-or another one -/
def maskL (l : List UInt8) (b : UInt8) : List UInt8 := (l ++ List.replicate (64 - l.length) 0).map (· ^^^ b)
def keyL (k : List UInt8) : List UInt8 := if 64 < k.length then md5L k else k
def hmacL (k s : List UInt8) : List UInt8 := md5L (maskL (keyL k) 92 ++ md5L (maskL (keyL k) 54 ++ s))
theorem leL_length : ∀ k x, (leL k x).length = k
  | 0, _ => rfl
  | k + 1, x => by simp [leL, leL_length k]
theorem md5_length (l : List UInt8) : (md5L l).length = 16 := by simp [md5L, bytesS, leL_length]
theorem pad_length (n : Nat) : (padL n).length = 9 + (119 - n % 64) % 64 := by simp [padL, leL_length]; omega
theorem text_whole (l : List UInt8) : (textL l).length % 64 = 0 := by
  unfold textL
  rw [List.length_append, pad_length]
  omega
theorem text_length (l : List UInt8) : (textL l).length ≤ l.length + 72 := by
  unfold textL
  rw [List.length_append, pad_length]
  omega
theorem key_length (k : List UInt8) : (keyL k).length ≤ 64 := by
  unfold keyL
  split
  · rw [md5_length]; omega
  · omega
theorem mask_length {l : List UInt8} (b : UInt8) (h : l.length ≤ 64) : (maskL l b).length = 64 := by
  unfold maskL
  simp; omega
end Go.Proofs.YtiickcdkibcdpaaDoor
