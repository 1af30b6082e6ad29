/-
  Plain laws of prefixes that the statement AddrNested needs: what covers, meets and halves are, in numbers. No program is named here. No condition beyond those in each theorem's own statement.
-/
import Derived.Test.YtcpldojgmboipaaAddrP
namespace Go.Proofs.Ytcpldojgmboipaa
open Go
theorem clip_again {a n : Nat} : clipS (clipS a n) n = clipS a n := dvd_clip ⟨_, Nat.mul_comm _ _⟩
theorem clip_fewer {a n m : Nat} (h : m ≤ n) : clipS (clipS a n) m = clipS a m := by
  unfold clipS
  congr 1
  rw [show (2 : Nat) ^ (128 - m) = 2 ^ (128 - n) * 2 ^ (128 - m - (128 - n)) from pow_split (by omega), ← Nat.div_div_eq_div_mul, ← Nat.div_div_eq_div_mul, Nat.mul_div_cancel _ (pow_pos _)]
theorem covers_iff {p q : Nat} {n m : Int} : coversS p n q m = true ↔ ((0 ≤ m ∧ m ≤ 128) ∧ clipS q m.toNat = q) ∧ n ≤ m ∧ (0 ≤ n ∧ n ≤ 128) ∧ clipS q n.toNat = p := by
  unfold coversS
  rw [Bool.and_eq_true, Bool.and_eq_true, sound_iff, has_iff, decide_eq_true_iff]
theorem covers_both {p q : Nat} {n m : Int} (h : coversS p n q m = true) (k : coversS q m p n = true) : p = q ∧ n = m := by
  obtain ⟨⟨_, h1⟩, h2, _, h3⟩ := covers_iff.1 h
  obtain ⟨_, k2, _⟩ := covers_iff.1 k
  have e : n = m := by omega
  subst e
  exact ⟨by rw [← h3, h1], rfl⟩
theorem covers_has {p q a : Nat} {n m : Int} (h : coversS p n q m = true) (k : hasS q m a = true) : hasS p n a = true := by
  obtain ⟨_, h2, h3, h4⟩ := covers_iff.1 h
  obtain ⟨_, k2⟩ := has_iff.1 k
  refine has_iff.2 ⟨h3, ?_⟩
  rw [← h4, ← k2]
  exact (clip_fewer (by omega)).symm
theorem has_meets {p q a : Nat} {n m : Int} (h : hasS p n a = true) (k : hasS q m a = true) : coversS p n q m = true ∨ coversS q m p n = true := by
  obtain ⟨h1, h2⟩ := has_iff.1 h
  obtain ⟨k1, k2⟩ := has_iff.1 k
  rcases (show n ≤ m ∨ m ≤ n by omega) with e | e
  · left
    exact covers_iff.2 ⟨⟨k1, by rw [← k2]; exact clip_again⟩, e, h1, by rw [← k2, ← h2]; exact clip_fewer (by omega)⟩
  · right
    exact covers_iff.2 ⟨⟨h1, by rw [← h2]; exact clip_again⟩, e, k1, by rw [← k2, ← h2]; exact clip_fewer (by omega)⟩

theorem half_facts {p : Nat} {n : Int} (h : halfOk p n = true) : 0 ≤ n ∧ n < 128 ∧ clipS p n.toNat = p := by
  unfold halfOk at h
  rw [Bool.and_eq_true] at h
  obtain ⟨h1, h2⟩ := h
  obtain ⟨a, b⟩ := sound_iff.1 h1
  have : n ≠ 128 := by simpa using h2
  exact ⟨a.1, by omega, b⟩
theorem half_pow {n : Nat} (h : n < 128) : (2 : Nat) ^ (128 - n) = 2 * 2 ^ (128 - (n + 1)) := by rw [← Nat.pow_succ']; congr 1; omega
theorem low_clip {p n : Nat} (h : clipS p n = p) (hn : n < 128) : clipS p (n + 1) = p := by
  obtain ⟨q, hq⟩ := clip_dvd h
  exact dvd_clip ⟨2 * q, by rw [hq, half_pow hn, Nat.mul_comm 2, Nat.mul_assoc]⟩
theorem up_clip {p n : Nat} (h : clipS p n = p) (hn : n < 128) : clipS (p + 2 ^ (127 - n)) (n + 1) = p + 2 ^ (127 - n) := by
  obtain ⟨q, hq⟩ := clip_dvd h
  apply dvd_clip
  rw [hq, half_pow hn, show 128 - (n + 1) = 127 - n by omega]
  exact ⟨2 * q + 1, by rw [Nat.mul_add, Nat.mul_one, Nat.mul_comm 2, Nat.mul_assoc]⟩
theorem up_back {p n : Nat} (h : clipS p n = p) (hn : n < 128) : clipS (p + 2 ^ (127 - n)) n = p := by
  obtain ⟨q, hq⟩ := clip_dvd h
  have hp := pow_pos (127 - n)
  unfold clipS
  rw [hq, half_pow hn, show 128 - (n + 1) = 127 - n by omega]
  generalize 2 ^ (127 - n) = B at *
  have : (2 * B * q + B) / (2 * B) = q := by
    rw [Nat.mul_add_div (by omega), Nat.div_eq_of_lt (by omega), Nat.add_zero]
  rw [this, Nat.mul_comm]
theorem half_has {p n a : Nat} (h : clipS p n = p) (hn : n < 128) : clipS a n = p ↔ (clipS a (n + 1) = p ∨ clipS a (n + 1) = p + 2 ^ (127 - n)) := by
  constructor
  · intro k
    have hp := pow_pos (127 - n)
    have e := half_pow hn
    rw [show 128 - (n + 1) = 127 - n by omega] at e
    have k' : a / (2 * 2 ^ (127 - n)) * (2 * 2 ^ (127 - n)) = p := by rw [← e]; exact k
    have g : clipS a (n + 1) = a / 2 ^ (127 - n) * 2 ^ (127 - n) := by unfold clipS; rw [show 128 - (n + 1) = 127 - n by omega]
    rw [g, ← k']
    generalize 2 ^ (127 - n) = B at *
    have d : a / (2 * B) = a / B / 2 := by rw [Nat.mul_comm, Nat.div_div_eq_div_mul]
    rw [d]
    have r := Nat.div_add_mod (a / B) 2
    generalize a / B = x at *
    rcases (show x % 2 = 0 ∨ x % 2 = 1 by omega) with z | z
    · left
      rw [show x / 2 * (2 * B) = 2 * (x / 2) * B by rw [← Nat.mul_assoc, Nat.mul_comm (x / 2) 2]]
      congr 1; omega
    · right
      rw [show x / 2 * (2 * B) + B = (2 * (x / 2) + 1) * B by rw [← Nat.mul_assoc, Nat.mul_comm (x / 2) 2, Nat.add_mul, Nat.one_mul]]
      congr 1; omega
  · intro k
    rcases k with k | k
    · rw [← h, ← k]; exact (clip_fewer (by omega)).symm
    · rw [← up_back h hn, ← k]; exact (clip_fewer (by omega)).symm

/-- all that the law asks of the halves, in one place -/
theorem halves_all {p : Nat} {n : Int} (ho : halfOk p n = true) : lowA p n = p ∧ halfN p n = n + 1 ∧ soundS p (n + 1) = true ∧ soundS (highA p n) (n + 1) = true ∧
    meetsS p (n + 1) (highA p n) (n + 1) = false ∧ coversS p n p (n + 1) = true ∧ coversS p n (highA p n) (n + 1) = true ∧
    ∀ a, hasS p n a = (hasS p (n + 1) a || hasS (highA p n) (n + 1) a) ∧ (hasS p (n + 1) a && hasS (highA p n) (n + 1) a) = false := by
  obtain ⟨h0, h1, hc⟩ := half_facts ho
  have hb := pow_pos (127 - n.toNat)
  have e1 : (n + 1).toNat = n.toNat + 1 := by omega
  have eH : highA p n = p + 2 ^ (127 - n.toNat) := by unfold highA; rw [if_pos ho]
  have lc := low_clip hc (by omega)
  have uc := up_clip hc (by omega)
  have ub := up_back hc (by omega)
  have s1 : soundS p (n + 1) = true := sound_iff.2 ⟨by omega, by rw [e1]; exact lc⟩
  have s2 : soundS (highA p n) (n + 1) = true := sound_iff.2 ⟨by omega, by rw [e1, eH]; exact uc⟩
  refine ⟨by unfold lowA; rw [if_pos ho], by unfold halfN; rw [if_pos ho], s1, s2, ?_, ?_, ?_, fun a => ⟨?_, ?_⟩⟩
  · unfold meetsS
    rw [Bool.or_eq_false_iff]
    constructor
    · cases e : coversS p (n + 1) (highA p n) (n + 1)
      · rfl
      · obtain ⟨_, _, _, k⟩ := covers_iff.1 e
        rw [e1, eH, uc] at k; omega
    · cases e : coversS (highA p n) (n + 1) p (n + 1)
      · rfl
      · obtain ⟨_, _, _, k⟩ := covers_iff.1 e
        rw [e1, eH, lc] at k; omega
  · exact covers_iff.2 ⟨sound_iff.1 s1, by omega, by omega, hc⟩
  · exact covers_iff.2 ⟨sound_iff.1 s2, by omega, by omega, by rw [eH]; exact ub⟩
  · rw [Bool.eq_iff_iff, Bool.or_eq_true, has_iff, has_iff, has_iff, e1, eH]
    have k := half_has (a := a) hc (by omega)
    constructor
    · rintro ⟨_, x⟩
      rcases k.1 x with y | y
      · exact Or.inl ⟨by omega, y⟩
      · exact Or.inr ⟨by omega, y⟩
    · rintro (⟨_, y⟩ | ⟨_, y⟩)
      · exact ⟨by omega, k.2 (Or.inl y)⟩
      · exact ⟨by omega, k.2 (Or.inr y)⟩
  · cases x : hasS p (n + 1) a
    · rfl
    · cases y : hasS (highA p n) (n + 1) a
      · rfl
      · obtain ⟨_, x2⟩ := has_iff.1 x
        obtain ⟨_, y2⟩ := has_iff.1 y
        rw [x2, eH] at y2; omega
end Go.Proofs.Ytcpldojgmboipaa
