/-
  How what can be leased meets and is ordered: plain mathematics. No program is walked here. No condition beyond those in each theorem's own statement.
-/
import Derived.Test.YtpldkgollhbolaaLM
namespace Go.Proofs.Ytpldkgollhbolaa
open Go.RowKit Go.Joins

theorem right_sound {k : Int} {p : Nat} {n : Int} (h : rightS k p n = true) : soundS p n = true := by
  unfold rightS at h
  rw [Bool.and_eq_true] at h
  exact h.1
theorem right_host {p : Nat} {n : Int} (h : rightS 1 p n = true) : n = 128 := by
  unfold rightS at h
  rw [Bool.and_eq_true, if_pos rfl, Bool.and_eq_true, decide_eq_true_eq] at h
  exact h.2.2
theorem meets_comm (p : Nat) (n : Int) (q : Nat) (m : Int) : meetsS p n q m = meetsS q m p n := by unfold meetsS; rw [Bool.or_comm]
theorem meet_comm (k : Int) (p : Nat) (n : Int) (j : Int) (q : Nat) (m : Int) : meetS k p n j q m = meetS j q m k p n := by
  unfold meetS
  rw [meets_comm, Bool.and_comm (rightS k p n)]
  congr 2
  exact decide_eq_decide.2 ⟨Iff.symm, Iff.symm⟩
theorem covers_self (p : Nat) (n : Int) : coversS p n p n = soundS p n := by
  unfold coversS
  have e : hasS p n p = soundS p n := rfl
  rw [e, decide_eq_true (Int.le_refl n), Bool.true_and, Bool.and_self]
theorem meet_self (k : Int) (p : Nat) (n : Int) : meetS k p n k p n = rightS k p n := by
  unfold meetS meetsS
  rw [covers_self, Bool.or_self, Bool.and_self, decide_eq_true Iff.rfl, Bool.true_and]
  cases h : rightS k p n with
  | false => rfl
  | true => rw [right_sound h]; rfl
theorem meet_right {k : Int} {p : Nat} {n : Int} {j : Int} {q : Nat} {m : Int} (h : rightS k p n = false ∨ rightS j q m = false) : meetS k p n j q m = false := by
  unfold meetS
  rcases h with h | h <;> rw [h] <;> simp
theorem covers_has1 {p q : Nat} {n m : Int} (h : coversS p n q m = true) : hasS p n q = true := by
  unfold coversS at h
  simp only [Bool.and_eq_true] at h
  exact h.2.2
theorem has_covers {p q : Nat} {n m : Int} (hp : soundS p n = true) (hq : soundS q m = true) (h : hasS p n q = true) : meetsS p n q m = true := by
  unfold meetsS
  rw [Bool.or_eq_true]
  by_cases hnm : n ≤ m
  · left
    unfold coversS
    rw [hq, decide_eq_true hnm, h]; rfl
  · right
    have h1 := has_iff.1 h
    have h2 := sound_iff.1 hq
    unfold coversS
    rw [hp, decide_eq_true (by omega)]
    refine has_iff.2 ⟨h2.1, ?_⟩
    rw [← h1.2, clip_fewer (by omega)]
    exact h2.2
theorem meets_has {p q : Nat} {n m : Int} (hp : soundS p n = true) (hq : soundS q m = true) : meetsS p n q m = (hasS p n q || hasS q m p) := by
  rw [Bool.eq_iff_iff, Bool.or_eq_true]
  constructor
  · intro h
    unfold meetsS at h
    rw [Bool.or_eq_true] at h
    exact h.imp covers_has1 covers_has1
  · rintro (h | h)
    · exact has_covers hp hq h
    · rw [meets_comm]; exact has_covers hq hp h
theorem meet_v6 {k : Int} {p : Nat} {n : Int} {j : Int} {q : Nat} {m : Int} (hx : rightS k p n = true) (hy : rightS j q m = true) (h1 : k ≠ 1) (h2 : j ≠ 1) : meetS k p n j q m = (hasS p n q || hasS q m p) := by
  unfold meetS
  rw [hx, hy, decide_eq_true (by constructor <;> intro h <;> contradiction), meets_has (right_sound hx) (right_sound hy)]
  simp
theorem meet_v4 {k : Int} {p : Nat} {n : Int} {j : Int} {q : Nat} {m : Int} (hx : rightS k p n = true) (hy : rightS j q m = true) (h : k = 1 ∨ j = 1) : meetS k p n j q m = decide (k = j ∧ p = q ∧ n = m) := by
  by_cases hk : k = 1
  · subst hk
    by_cases hj : j = 1
    · subst hj
      have e1 := right_host hx
      have e2 := right_host hy
      subst e1 e2
      unfold meetS
      rw [hx, hy, decide_eq_true Iff.rfl, meets_has (right_sound hx) (right_sound hy)]
      unfold hasS
      rw [show clipS q (128 : Int).toNat = q from clip_all q, show clipS p (128 : Int).toNat = p from clip_all p]
      rw [show okN 128 = true from rfl]
      by_cases e : p = q
      · simp [e]
      · simp [e, Ne.symm e]
    · unfold meetS
      rw [decide_eq_false (by intro e; exact hj (e.1 rfl)), decide_eq_false (by intro e; exact hj e.1.symm)]
      simp
  · have hj : j = 1 := h.resolve_left hk
    unfold meetS
    rw [decide_eq_false (by intro e; exact hk (e.2 hj)), decide_eq_false (by intro e; exact hk (e.1.trans hj))]
    simp

/-! ### the order -/
theorem cmpI_range (a b : Int) : cmpI a b = -1 ∨ cmpI a b = 0 ∨ cmpI a b = 1 := by unfold cmpI; split; · simp
                                                                                   split <;> simp
theorem cmpI_neg (a b : Int) : cmpI b a = -cmpI a b := by
  rcases Int.lt_trichotomy a b with h | h | h
  · rw [cmpI_lt h, cmpI_gt h]; rfl
  · rw [h, cmpI_eq]; rfl
  · rw [cmpI_gt h, cmpI_lt h]
theorem cmpS_cmpI (a b : Nat) : cmpS a b = cmpI a b := by
  rcases Nat.lt_trichotomy a b with h | h | h
  · rw [cmpS_lt h, cmpI_lt (by omega)]
  · rw [cmpS_eq h, h, cmpI_eq]
  · rw [cmpS_gt h, cmpI_gt (by omega)]
theorem compare_eq (k : Int) (p : Nat) (n : Int) (j : Int) (q : Nat) (m : Int) : compareS k p n j q m = if cmpI k j ≠ 0 then cmpI k j else if cmpI p q ≠ 0 then cmpI p q else cmpI n m := by
  unfold compareS; rw [cmpS_cmpI]
theorem compare_range (k : Int) (p : Nat) (n : Int) (j : Int) (q : Nat) (m : Int) : -1 ≤ compareS k p n j q m ∧ compareS k p n j q m ≤ 1 := by
  rw [compare_eq]
  have h1 := cmpI_range k j
  have h2 := cmpI_range p q
  have h3 := cmpI_range n m
  split
  · omega
  · split <;> omega
theorem compare_neg (k : Int) (p : Nat) (n : Int) (j : Int) (q : Nat) (m : Int) : compareS j q m k p n = -compareS k p n j q m := by
  rw [compare_eq, compare_eq, cmpI_neg k j, cmpI_neg p q, cmpI_neg n m]
  by_cases h1 : cmpI k j = 0
  · rw [h1]
    by_cases h2 : cmpI p q = 0
    · rw [h2]; simp
    · have : -cmpI (p : Int) q ≠ 0 := by omega
      simp [h2]
  · have : -cmpI k j ≠ 0 := by omega
    simp [h1]
theorem compare_zero {k : Int} {p : Nat} {n : Int} {j : Int} {q : Nat} {m : Int} : compareS k p n j q m = 0 ↔ k = j ∧ p = q ∧ n = m := by
  rw [compare_eq]
  constructor
  · intro h
    split at h
    · contradiction
    · rename_i h1
      split at h
      · contradiction
      · rename_i h2
        have a := cmpI_zero.1 (Decidable.not_not.1 h1)
        have b := cmpI_zero.1 (Decidable.not_not.1 h2)
        have c := cmpI_zero.1 h
        omega
  · rintro ⟨rfl, rfl, rfl⟩
    simp [cmpI_eq]
theorem cmpI_le {a b : Int} : cmpI a b ≤ 0 ↔ a ≤ b := by
  rcases Int.lt_trichotomy a b with h | h | h
  · rw [cmpI_lt h]; omega
  · rw [h, cmpI_eq]; omega
  · rw [cmpI_gt h]; omega
theorem compare_le {k : Int} {p : Nat} {n : Int} {j : Int} {q : Nat} {m : Int} : compareS k p n j q m ≤ 0 ↔ k < j ∨ (k = j ∧ ((p : Int) < q ∨ (p = q ∧ n ≤ m))) := by
  rw [compare_eq]
  rcases Int.lt_trichotomy k j with h | h | h
  · rw [cmpI_lt h]; simp; omega
  · subst h
    rw [cmpI_eq, if_neg (by simp)]
    rcases Int.lt_trichotomy (p : Int) q with h2 | h2 | h2
    · rw [cmpI_lt h2]; simp; omega
    · have e : p = q := by omega
      subst e
      rw [cmpI_eq, if_neg (by simp), cmpI_le]
      omega
    · rw [cmpI_gt h2]; simp; omega
  · rw [cmpI_gt h]; simp; omega
theorem compare_trans {k1 k2 k3 : Int} {p1 p2 p3 : Nat} {n1 n2 n3 : Int} (h : compareS k1 p1 n1 k2 p2 n2 ≤ 0) (h2 : compareS k2 p2 n2 k3 p3 n3 ≤ 0) : compareS k1 p1 n1 k3 p3 n3 ≤ 0 := by
  rw [compare_le] at *
  omega
end Go.Proofs.Ytpldkgollhbolaa
