/-
  AddrMod: for all addresses a, b the law returns true: the rest of a by b is below b and not above a, and b more changes it not. No condition.
-/
import Derived.Test.YtimlcfklmghdhaaAddrV
namespace Go.Proofs.Ytimlcfklmghdhaa
open Go.RowKit

theorem cmpS_below {a b : Nat} : (cmpS a b < 0) ↔ a < b := by unfold cmpS; repeat' split
                                                              all_goals omega
theorem modS_zero (a : Nat) : modS a 0 = 0 := rfl
theorem modO_zero : modO 0 = false := rfl
theorem modO_yes {b : Nat} (h : b ≠ 0) : modO b = true := by unfold modO; simpa using h
theorem modS_low {a b : Nat} (h : b ≠ 0) (k : a < b) : modS a b = a := by unfold modS; rw [if_neg h, Nat.mod_eq_of_lt k]
theorem modS_le {a b : Nat} : modS a b ≤ a := by
  unfold modS; split
  · omega
  · exact Nat.mod_le _ _
theorem modS_more {a b : Nat} (h : addO a b = false) (_ha : Fits a) (_hb : Fits b) : modS (addS a b) b = modS a b := by
  have e : addS a b = a + b := by unfold addO addS Fits at *; simp at h; omega
  rw [e]; unfold modS; split
  · rfl
  · rw [Nat.add_mod_right]
theorem A_zero {b : Nat} (h : hi b = 0) : Value.agg #[.int .u64 0, .int .u64 (lo b : Nat)] = A b := by unfold A; rw [h]; rfl

set_option maxRecDepth 100000 in
set_option maxHeartbeats 1000000 in
theorem amod_0 {a : Nat} (ha : Fits a) (w : World) : Calls Try.prog 6 #[A a, A 0] w (Gives (.bool true) w) := by
  have hb := fits_zero
  have m1 := modS_zero a
  have m2 := modO_zero
  have z1 := hi_zero
  have z2 := lo_zero
  go_enter Try.func6, Try.ntmps6
  go_wp2_with fail
  (try rw [lit_eq (h := 0) (l := 0) (n := 0) rfl rfl])
  refine (awake_any _).mono ?_
  rintro e w1 ⟨rfl, hb1⟩
  obtain ⟨hc1, hf1⟩ := bcell hb1
  have hs1 := hb1.size
  (try simp at hs1)
  have z1x0 : w.heap.size < w1.heap.size := by omega
  have z1x1 : w.heap.size + 1 < w1.heap.size := by omega
  go_wp2_with fail
  (try rw [lit_eq (h := 0) (l := 0) (n := 0) rfl rfl])
  refine (mod_any ha hb _).mono ?_
  rintro e w2 ⟨rfl, hb2⟩
  obtain ⟨hc2, hf2⟩ := bcell hb2
  have hs2 := hb2.size
  (try simp at hs2)
  have z2x0 : w.heap.size < w2.heap.size := by omega
  have z2x1 : w.heap.size + 1 < w2.heap.size := by omega
  go_wp2_with fail
  go_ret
  exact ⟨rfl, ((chain (chain (((Below.refl _ _).alloc (Nat.le_refl _) _).alloc (by simp) _) hb1) hb2).alloc (by omega) _)⟩
set_option maxRecDepth 100000 in
set_option maxHeartbeats 1000000 in
theorem amod_000 {a b : Nat} (ha : Fits a) (hb : Fits b) (h0 : b ≠ 0) (hz : ¬ hi b = 0) (k : ¬ a < b) (o : addO a b = false) (w : World) : Calls Try.prog 6 #[A a, A b] w (Gives (.bool true) w) := by
  have m2 := modO_yes h0
  have m3 := modS_lt (a := a) h0
  have m4 := modS_le (a := a) (b := b)
  have c1 : cmpS (modS a b) b = -1 := cmpS_lt m3
  have hs := fits_addS a b
  have c2 : cmpS (modS a b) a ≤ 0 := by
    rcases Nat.lt_or_eq_of_le m4 with h | h
    · rw [cmpS_lt h]; omega
    · rw [cmpS_eq h]; omega
  have c3 : 0 ≤ cmpS a b := by
    rcases Nat.lt_or_eq_of_le (Nat.le_of_not_lt k) with h | h
    · rw [cmpS_gt h]; omega
    · rw [cmpS_eq h.symm]; omega
  have m6 := modS_more o ha hb
  have hz3 : ((hi b : Int) == 0) = false := bne0 (by omega)
  clear m4 m3 k
  go_enter Try.func6, Try.ntmps6
  go_wp2_with fail
  refine (awake_any _).mono ?_
  rintro e w1 ⟨rfl, hb1⟩
  obtain ⟨hc1, hf1⟩ := bcell hb1
  have hs1 := hb1.size
  (try simp at hs1)
  have z1x0 : w.heap.size < w1.heap.size := by omega
  have z1x1 : w.heap.size + 1 < w1.heap.size := by omega
  go_wp2_with fail
  refine (mod_any ha hb _).mono ?_
  rintro e w2 ⟨rfl, hb2⟩
  obtain ⟨hc2, hf2⟩ := bcell hb2
  have hs2 := hb2.size
  (try simp at hs2)
  have z2x0 : w.heap.size < w2.heap.size := by omega
  have z2x1 : w.heap.size + 1 < w2.heap.size := by omega
  go_wp2_with fail
  refine (cmp_any _ _ _).mono ?_
  rintro e w3 ⟨rfl, hb3⟩
  obtain ⟨hc3, hf3⟩ := bcell hb3
  have hs3 := hb3.size
  (try simp at hs3)
  have z3x0 : w.heap.size < w3.heap.size := by omega
  have z3x1 : w.heap.size + 1 < w3.heap.size := by omega
  have z3x2 : w2.heap.size < w3.heap.size := by omega
  go_wp2_with fail
  refine (cmp_any _ _ _).mono ?_
  rintro e w4 ⟨rfl, hb4⟩
  obtain ⟨hc4, hf4⟩ := bcell hb4
  have hs4 := hb4.size
  (try simp at hs4)
  have z4x0 : w.heap.size < w4.heap.size := by omega
  have z4x1 : w.heap.size + 1 < w4.heap.size := by omega
  have z4x2 : w2.heap.size < w4.heap.size := by omega
  go_wp2_with fail
  refine (cmp_any _ _ _).mono ?_
  rintro e w5 ⟨rfl, hb5⟩
  obtain ⟨hc5, hf5⟩ := bcell hb5
  have hs5 := hb5.size
  (try simp at hs5)
  have z5x0 : w.heap.size < w5.heap.size := by omega
  have z5x1 : w.heap.size + 1 < w5.heap.size := by omega
  have z5x2 : w2.heap.size < w5.heap.size := by omega
  go_wp2_with fail
  refine (add_any ha hb _).mono ?_
  rintro e w6 ⟨rfl, hb6⟩
  obtain ⟨hc6, hf6⟩ := bcell hb6
  have hs6 := hb6.size
  (try simp at hs6)
  have z6x0 : w.heap.size < w6.heap.size := by omega
  have z6x1 : w.heap.size + 1 < w6.heap.size := by omega
  have z6x2 : w2.heap.size < w6.heap.size := by omega
  go_wp2_with fail
  refine (mod_any hs hb _).mono ?_
  rintro e w7 ⟨rfl, hb7⟩
  obtain ⟨hc7, hf7⟩ := bcell hb7
  have hs7 := hb7.size
  (try simp at hs7)
  have z7x0 : w.heap.size < w7.heap.size := by omega
  have z7x1 : w.heap.size + 1 < w7.heap.size := by omega
  have z7x2 : w2.heap.size < w7.heap.size := by omega
  have z7x3 : w6.heap.size < w7.heap.size := by omega
  go_wp2_with fail
  go_ret
  exact ⟨rfl, ((chainA (chain (chain (chain (chainA (chain (chain (((Below.refl _ _).alloc (Nat.le_refl _) _).alloc (by simp) _) hb1) hb2) hb3) hb4) hb5) hb6) hb7).alloc (by omega) _)⟩
set_option maxRecDepth 100000 in
set_option maxHeartbeats 1000000 in
theorem amod_001 {a b : Nat} (ha : Fits a) (hb : Fits b) (h0 : b ≠ 0) (hz : ¬ hi b = 0) (k : ¬ a < b) (o : addO a b = true) (w : World) : Calls Try.prog 6 #[A a, A b] w (Gives (.bool true) w) := by
  have m2 := modO_yes h0
  have m3 := modS_lt (a := a) h0
  have m4 := modS_le (a := a) (b := b)
  have c1 : cmpS (modS a b) b = -1 := cmpS_lt m3
  have hs := fits_addS a b
  have c2 : cmpS (modS a b) a ≤ 0 := by
    rcases Nat.lt_or_eq_of_le m4 with h | h
    · rw [cmpS_lt h]; omega
    · rw [cmpS_eq h]; omega
  have c3 : 0 ≤ cmpS a b := by
    rcases Nat.lt_or_eq_of_le (Nat.le_of_not_lt k) with h | h
    · rw [cmpS_gt h]; omega
    · rw [cmpS_eq h.symm]; omega
  have hz3 : ((hi b : Int) == 0) = false := bne0 (by omega)
  clear m4 m3 k
  go_enter Try.func6, Try.ntmps6
  go_wp2_with fail
  refine (awake_any _).mono ?_
  rintro e w1 ⟨rfl, hb1⟩
  obtain ⟨hc1, hf1⟩ := bcell hb1
  have hs1 := hb1.size
  (try simp at hs1)
  have z1x0 : w.heap.size < w1.heap.size := by omega
  have z1x1 : w.heap.size + 1 < w1.heap.size := by omega
  go_wp2_with fail
  refine (mod_any ha hb _).mono ?_
  rintro e w2 ⟨rfl, hb2⟩
  obtain ⟨hc2, hf2⟩ := bcell hb2
  have hs2 := hb2.size
  (try simp at hs2)
  have z2x0 : w.heap.size < w2.heap.size := by omega
  have z2x1 : w.heap.size + 1 < w2.heap.size := by omega
  go_wp2_with fail
  refine (cmp_any _ _ _).mono ?_
  rintro e w3 ⟨rfl, hb3⟩
  obtain ⟨hc3, hf3⟩ := bcell hb3
  have hs3 := hb3.size
  (try simp at hs3)
  have z3x0 : w.heap.size < w3.heap.size := by omega
  have z3x1 : w.heap.size + 1 < w3.heap.size := by omega
  have z3x2 : w2.heap.size < w3.heap.size := by omega
  go_wp2_with fail
  refine (cmp_any _ _ _).mono ?_
  rintro e w4 ⟨rfl, hb4⟩
  obtain ⟨hc4, hf4⟩ := bcell hb4
  have hs4 := hb4.size
  (try simp at hs4)
  have z4x0 : w.heap.size < w4.heap.size := by omega
  have z4x1 : w.heap.size + 1 < w4.heap.size := by omega
  have z4x2 : w2.heap.size < w4.heap.size := by omega
  go_wp2_with fail
  refine (cmp_any _ _ _).mono ?_
  rintro e w5 ⟨rfl, hb5⟩
  obtain ⟨hc5, hf5⟩ := bcell hb5
  have hs5 := hb5.size
  (try simp at hs5)
  have z5x0 : w.heap.size < w5.heap.size := by omega
  have z5x1 : w.heap.size + 1 < w5.heap.size := by omega
  have z5x2 : w2.heap.size < w5.heap.size := by omega
  go_wp2_with fail
  refine (add_any ha hb _).mono ?_
  rintro e w6 ⟨rfl, hb6⟩
  obtain ⟨hc6, hf6⟩ := bcell hb6
  have hs6 := hb6.size
  (try simp at hs6)
  have z6x0 : w.heap.size < w6.heap.size := by omega
  have z6x1 : w.heap.size + 1 < w6.heap.size := by omega
  have z6x2 : w2.heap.size < w6.heap.size := by omega
  go_wp2_with fail
  refine (mod_any hs hb _).mono ?_
  rintro e w7 ⟨rfl, hb7⟩
  obtain ⟨hc7, hf7⟩ := bcell hb7
  have hs7 := hb7.size
  (try simp at hs7)
  have z7x0 : w.heap.size < w7.heap.size := by omega
  have z7x1 : w.heap.size + 1 < w7.heap.size := by omega
  have z7x2 : w2.heap.size < w7.heap.size := by omega
  have z7x3 : w6.heap.size < w7.heap.size := by omega
  go_wp2_with fail
  go_ret
  exact ⟨rfl, ((chainA (chain (chain (chain (chainA (chain (chain (((Below.refl _ _).alloc (Nat.le_refl _) _).alloc (by simp) _) hb1) hb2) hb3) hb4) hb5) hb6) hb7).alloc (by omega) _)⟩
set_option maxRecDepth 100000 in
set_option maxHeartbeats 1000000 in
theorem amod_010 {a b : Nat} (ha : Fits a) (hb : Fits b) (h0 : b ≠ 0) (hz : ¬ hi b = 0) (k : a < b) (o : addO a b = false) (w : World) : Calls Try.prog 6 #[A a, A b] w (Gives (.bool true) w) := by
  have m2 := modO_yes h0
  have m3 := modS_lt (a := a) h0
  have m4 := modS_le (a := a) (b := b)
  have c1 : cmpS (modS a b) b = -1 := cmpS_lt m3
  have hs := fits_addS a b
  have c2 : cmpS (modS a b) a ≤ 0 := by
    rcases Nat.lt_or_eq_of_le m4 with h | h
    · rw [cmpS_lt h]; omega
    · rw [cmpS_eq h]; omega
  have c3 : cmpS a b = -1 := cmpS_lt k
  have m5 := modS_low h0 k
  have c4 : cmpS a a = 0 := cmpS_eq rfl
  have m6 := modS_more o ha hb
  have hz3 : ((hi b : Int) == 0) = false := bne0 (by omega)
  clear m4 m3 k
  go_enter Try.func6, Try.ntmps6
  go_wp2_with fail
  refine (awake_any _).mono ?_
  rintro e w1 ⟨rfl, hb1⟩
  obtain ⟨hc1, hf1⟩ := bcell hb1
  have hs1 := hb1.size
  (try simp at hs1)
  have z1x0 : w.heap.size < w1.heap.size := by omega
  have z1x1 : w.heap.size + 1 < w1.heap.size := by omega
  go_wp2_with fail
  refine (mod_any ha hb _).mono ?_
  rintro e w2 ⟨rfl, hb2⟩
  obtain ⟨hc2, hf2⟩ := bcell hb2
  have hs2 := hb2.size
  (try simp at hs2)
  have z2x0 : w.heap.size < w2.heap.size := by omega
  have z2x1 : w.heap.size + 1 < w2.heap.size := by omega
  go_wp2_with fail
  refine (cmp_any _ _ _).mono ?_
  rintro e w3 ⟨rfl, hb3⟩
  obtain ⟨hc3, hf3⟩ := bcell hb3
  have hs3 := hb3.size
  (try simp at hs3)
  have z3x0 : w.heap.size < w3.heap.size := by omega
  have z3x1 : w.heap.size + 1 < w3.heap.size := by omega
  have z3x2 : w2.heap.size < w3.heap.size := by omega
  go_wp2_with fail
  refine (cmp_any _ _ _).mono ?_
  rintro e w4 ⟨rfl, hb4⟩
  obtain ⟨hc4, hf4⟩ := bcell hb4
  have hs4 := hb4.size
  (try simp at hs4)
  have z4x0 : w.heap.size < w4.heap.size := by omega
  have z4x1 : w.heap.size + 1 < w4.heap.size := by omega
  have z4x2 : w2.heap.size < w4.heap.size := by omega
  go_wp2_with fail
  refine (cmp_any _ _ _).mono ?_
  rintro e w5 ⟨rfl, hb5⟩
  obtain ⟨hc5, hf5⟩ := bcell hb5
  have hs5 := hb5.size
  (try simp at hs5)
  have z5x0 : w.heap.size < w5.heap.size := by omega
  have z5x1 : w.heap.size + 1 < w5.heap.size := by omega
  have z5x2 : w2.heap.size < w5.heap.size := by omega
  go_wp2_with fail
  refine (add_any ha hb _).mono ?_
  rintro e w6 ⟨rfl, hb6⟩
  obtain ⟨hc6, hf6⟩ := bcell hb6
  have hs6 := hb6.size
  (try simp at hs6)
  have z6x0 : w.heap.size < w6.heap.size := by omega
  have z6x1 : w.heap.size + 1 < w6.heap.size := by omega
  have z6x2 : w2.heap.size < w6.heap.size := by omega
  go_wp2_with fail
  refine (mod_any hs hb _).mono ?_
  rintro e w7 ⟨rfl, hb7⟩
  obtain ⟨hc7, hf7⟩ := bcell hb7
  have hs7 := hb7.size
  (try simp at hs7)
  have z7x0 : w.heap.size < w7.heap.size := by omega
  have z7x1 : w.heap.size + 1 < w7.heap.size := by omega
  have z7x2 : w2.heap.size < w7.heap.size := by omega
  have z7x3 : w6.heap.size < w7.heap.size := by omega
  go_wp2_with fail
  go_ret
  exact ⟨rfl, ((chainA (chain (chain (chain (chainA (chain (chain (((Below.refl _ _).alloc (Nat.le_refl _) _).alloc (by simp) _) hb1) hb2) hb3) hb4) hb5) hb6) hb7).alloc (by omega) _)⟩
set_option maxRecDepth 100000 in
set_option maxHeartbeats 1000000 in
theorem amod_011 {a b : Nat} (ha : Fits a) (hb : Fits b) (h0 : b ≠ 0) (hz : ¬ hi b = 0) (k : a < b) (o : addO a b = true) (w : World) : Calls Try.prog 6 #[A a, A b] w (Gives (.bool true) w) := by
  have m2 := modO_yes h0
  have m3 := modS_lt (a := a) h0
  have m4 := modS_le (a := a) (b := b)
  have c1 : cmpS (modS a b) b = -1 := cmpS_lt m3
  have hs := fits_addS a b
  have c2 : cmpS (modS a b) a ≤ 0 := by
    rcases Nat.lt_or_eq_of_le m4 with h | h
    · rw [cmpS_lt h]; omega
    · rw [cmpS_eq h]; omega
  have c3 : cmpS a b = -1 := cmpS_lt k
  have m5 := modS_low h0 k
  have c4 : cmpS a a = 0 := cmpS_eq rfl
  have hz3 : ((hi b : Int) == 0) = false := bne0 (by omega)
  clear m4 m3 k
  go_enter Try.func6, Try.ntmps6
  go_wp2_with fail
  refine (awake_any _).mono ?_
  rintro e w1 ⟨rfl, hb1⟩
  obtain ⟨hc1, hf1⟩ := bcell hb1
  have hs1 := hb1.size
  (try simp at hs1)
  have z1x0 : w.heap.size < w1.heap.size := by omega
  have z1x1 : w.heap.size + 1 < w1.heap.size := by omega
  go_wp2_with fail
  refine (mod_any ha hb _).mono ?_
  rintro e w2 ⟨rfl, hb2⟩
  obtain ⟨hc2, hf2⟩ := bcell hb2
  have hs2 := hb2.size
  (try simp at hs2)
  have z2x0 : w.heap.size < w2.heap.size := by omega
  have z2x1 : w.heap.size + 1 < w2.heap.size := by omega
  go_wp2_with fail
  refine (cmp_any _ _ _).mono ?_
  rintro e w3 ⟨rfl, hb3⟩
  obtain ⟨hc3, hf3⟩ := bcell hb3
  have hs3 := hb3.size
  (try simp at hs3)
  have z3x0 : w.heap.size < w3.heap.size := by omega
  have z3x1 : w.heap.size + 1 < w3.heap.size := by omega
  have z3x2 : w2.heap.size < w3.heap.size := by omega
  go_wp2_with fail
  refine (cmp_any _ _ _).mono ?_
  rintro e w4 ⟨rfl, hb4⟩
  obtain ⟨hc4, hf4⟩ := bcell hb4
  have hs4 := hb4.size
  (try simp at hs4)
  have z4x0 : w.heap.size < w4.heap.size := by omega
  have z4x1 : w.heap.size + 1 < w4.heap.size := by omega
  have z4x2 : w2.heap.size < w4.heap.size := by omega
  go_wp2_with fail
  refine (cmp_any _ _ _).mono ?_
  rintro e w5 ⟨rfl, hb5⟩
  obtain ⟨hc5, hf5⟩ := bcell hb5
  have hs5 := hb5.size
  (try simp at hs5)
  have z5x0 : w.heap.size < w5.heap.size := by omega
  have z5x1 : w.heap.size + 1 < w5.heap.size := by omega
  have z5x2 : w2.heap.size < w5.heap.size := by omega
  go_wp2_with fail
  refine (add_any ha hb _).mono ?_
  rintro e w6 ⟨rfl, hb6⟩
  obtain ⟨hc6, hf6⟩ := bcell hb6
  have hs6 := hb6.size
  (try simp at hs6)
  have z6x0 : w.heap.size < w6.heap.size := by omega
  have z6x1 : w.heap.size + 1 < w6.heap.size := by omega
  have z6x2 : w2.heap.size < w6.heap.size := by omega
  go_wp2_with fail
  refine (mod_any hs hb _).mono ?_
  rintro e w7 ⟨rfl, hb7⟩
  obtain ⟨hc7, hf7⟩ := bcell hb7
  have hs7 := hb7.size
  (try simp at hs7)
  have z7x0 : w.heap.size < w7.heap.size := by omega
  have z7x1 : w.heap.size + 1 < w7.heap.size := by omega
  have z7x2 : w2.heap.size < w7.heap.size := by omega
  have z7x3 : w6.heap.size < w7.heap.size := by omega
  go_wp2_with fail
  go_ret
  exact ⟨rfl, ((chainA (chain (chain (chain (chainA (chain (chain (((Below.refl _ _).alloc (Nat.le_refl _) _).alloc (by simp) _) hb1) hb2) hb3) hb4) hb5) hb6) hb7).alloc (by omega) _)⟩
set_option maxRecDepth 100000 in
set_option maxHeartbeats 1000000 in
theorem amod_100 {a b : Nat} (ha : Fits a) (hb : Fits b) (h0 : b ≠ 0) (hz : hi b = 0) (k : ¬ a < b) (o : addO a b = false) (w : World) : Calls Try.prog 6 #[A a, A b] w (Gives (.bool true) w) := by
  have m2 := modO_yes h0
  have m3 := modS_lt (a := a) h0
  have m4 := modS_le (a := a) (b := b)
  have c1 : cmpS (modS a b) b = -1 := cmpS_lt m3
  have hs := fits_addS a b
  have c2 : cmpS (modS a b) a ≤ 0 := by
    rcases Nat.lt_or_eq_of_le m4 with h | h
    · rw [cmpS_lt h]; omega
    · rw [cmpS_eq h]; omega
  have c3 : 0 ≤ cmpS a b := by
    rcases Nat.lt_or_eq_of_le (Nat.le_of_not_lt k) with h | h
    · rw [cmpS_gt h]; omega
    · rw [cmpS_eq h.symm]; omega
  have m6 := modS_more o ha hb
  have HZ := hide hz
  have hz2 : ¬ lo b = 0 := fun e => h0 (by have := hi_lo b; omega)
  have hz3 : ((lo b : Int) == 0) = false := bne0 (by omega)
  clear m4 m3 k
  go_enter Try.func6, Try.ntmps6
  go_wp2_with fail
  (try rw [A_zero HZ.out])
  refine (awake_any _).mono ?_
  rintro e w1 ⟨rfl, hb1⟩
  obtain ⟨hc1, hf1⟩ := bcell hb1
  have hs1 := hb1.size
  (try simp at hs1)
  have z1x0 : w.heap.size < w1.heap.size := by omega
  have z1x1 : w.heap.size + 1 < w1.heap.size := by omega
  go_wp2_with fail
  (try rw [A_zero HZ.out])
  refine (mod_any ha hb _).mono ?_
  rintro e w2 ⟨rfl, hb2⟩
  obtain ⟨hc2, hf2⟩ := bcell hb2
  have hs2 := hb2.size
  (try simp at hs2)
  have z2x0 : w.heap.size < w2.heap.size := by omega
  have z2x1 : w.heap.size + 1 < w2.heap.size := by omega
  go_wp2_with fail
  (try rw [A_zero HZ.out])
  refine (cmp_any _ _ _).mono ?_
  rintro e w3 ⟨rfl, hb3⟩
  obtain ⟨hc3, hf3⟩ := bcell hb3
  have hs3 := hb3.size
  (try simp at hs3)
  have z3x0 : w.heap.size < w3.heap.size := by omega
  have z3x1 : w.heap.size + 1 < w3.heap.size := by omega
  have z3x2 : w2.heap.size < w3.heap.size := by omega
  go_wp2_with fail
  (try rw [A_zero HZ.out])
  refine (cmp_any _ _ _).mono ?_
  rintro e w4 ⟨rfl, hb4⟩
  obtain ⟨hc4, hf4⟩ := bcell hb4
  have hs4 := hb4.size
  (try simp at hs4)
  have z4x0 : w.heap.size < w4.heap.size := by omega
  have z4x1 : w.heap.size + 1 < w4.heap.size := by omega
  have z4x2 : w2.heap.size < w4.heap.size := by omega
  go_wp2_with fail
  (try rw [A_zero HZ.out])
  refine (cmp_any _ _ _).mono ?_
  rintro e w5 ⟨rfl, hb5⟩
  obtain ⟨hc5, hf5⟩ := bcell hb5
  have hs5 := hb5.size
  (try simp at hs5)
  have z5x0 : w.heap.size < w5.heap.size := by omega
  have z5x1 : w.heap.size + 1 < w5.heap.size := by omega
  have z5x2 : w2.heap.size < w5.heap.size := by omega
  go_wp2_with fail
  (try rw [A_zero HZ.out])
  refine (add_any ha hb _).mono ?_
  rintro e w6 ⟨rfl, hb6⟩
  obtain ⟨hc6, hf6⟩ := bcell hb6
  have hs6 := hb6.size
  (try simp at hs6)
  have z6x0 : w.heap.size < w6.heap.size := by omega
  have z6x1 : w.heap.size + 1 < w6.heap.size := by omega
  have z6x2 : w2.heap.size < w6.heap.size := by omega
  go_wp2_with fail
  (try rw [A_zero HZ.out])
  refine (mod_any hs hb _).mono ?_
  rintro e w7 ⟨rfl, hb7⟩
  obtain ⟨hc7, hf7⟩ := bcell hb7
  have hs7 := hb7.size
  (try simp at hs7)
  have z7x0 : w.heap.size < w7.heap.size := by omega
  have z7x1 : w.heap.size + 1 < w7.heap.size := by omega
  have z7x2 : w2.heap.size < w7.heap.size := by omega
  have z7x3 : w6.heap.size < w7.heap.size := by omega
  go_wp2_with fail
  go_ret
  exact ⟨rfl, ((chainA (chain (chain (chain (chainA (chain (chain (((Below.refl _ _).alloc (Nat.le_refl _) _).alloc (by simp) _) hb1) hb2) hb3) hb4) hb5) hb6) hb7).alloc (by omega) _)⟩
set_option maxRecDepth 100000 in
set_option maxHeartbeats 1000000 in
theorem amod_101 {a b : Nat} (ha : Fits a) (hb : Fits b) (h0 : b ≠ 0) (hz : hi b = 0) (k : ¬ a < b) (o : addO a b = true) (w : World) : Calls Try.prog 6 #[A a, A b] w (Gives (.bool true) w) := by
  have m2 := modO_yes h0
  have m3 := modS_lt (a := a) h0
  have m4 := modS_le (a := a) (b := b)
  have c1 : cmpS (modS a b) b = -1 := cmpS_lt m3
  have hs := fits_addS a b
  have c2 : cmpS (modS a b) a ≤ 0 := by
    rcases Nat.lt_or_eq_of_le m4 with h | h
    · rw [cmpS_lt h]; omega
    · rw [cmpS_eq h]; omega
  have c3 : 0 ≤ cmpS a b := by
    rcases Nat.lt_or_eq_of_le (Nat.le_of_not_lt k) with h | h
    · rw [cmpS_gt h]; omega
    · rw [cmpS_eq h.symm]; omega
  have HZ := hide hz
  have hz2 : ¬ lo b = 0 := fun e => h0 (by have := hi_lo b; omega)
  have hz3 : ((lo b : Int) == 0) = false := bne0 (by omega)
  clear m4 m3 k
  go_enter Try.func6, Try.ntmps6
  go_wp2_with fail
  (try rw [A_zero HZ.out])
  refine (awake_any _).mono ?_
  rintro e w1 ⟨rfl, hb1⟩
  obtain ⟨hc1, hf1⟩ := bcell hb1
  have hs1 := hb1.size
  (try simp at hs1)
  have z1x0 : w.heap.size < w1.heap.size := by omega
  have z1x1 : w.heap.size + 1 < w1.heap.size := by omega
  go_wp2_with fail
  (try rw [A_zero HZ.out])
  refine (mod_any ha hb _).mono ?_
  rintro e w2 ⟨rfl, hb2⟩
  obtain ⟨hc2, hf2⟩ := bcell hb2
  have hs2 := hb2.size
  (try simp at hs2)
  have z2x0 : w.heap.size < w2.heap.size := by omega
  have z2x1 : w.heap.size + 1 < w2.heap.size := by omega
  go_wp2_with fail
  (try rw [A_zero HZ.out])
  refine (cmp_any _ _ _).mono ?_
  rintro e w3 ⟨rfl, hb3⟩
  obtain ⟨hc3, hf3⟩ := bcell hb3
  have hs3 := hb3.size
  (try simp at hs3)
  have z3x0 : w.heap.size < w3.heap.size := by omega
  have z3x1 : w.heap.size + 1 < w3.heap.size := by omega
  have z3x2 : w2.heap.size < w3.heap.size := by omega
  go_wp2_with fail
  (try rw [A_zero HZ.out])
  refine (cmp_any _ _ _).mono ?_
  rintro e w4 ⟨rfl, hb4⟩
  obtain ⟨hc4, hf4⟩ := bcell hb4
  have hs4 := hb4.size
  (try simp at hs4)
  have z4x0 : w.heap.size < w4.heap.size := by omega
  have z4x1 : w.heap.size + 1 < w4.heap.size := by omega
  have z4x2 : w2.heap.size < w4.heap.size := by omega
  go_wp2_with fail
  (try rw [A_zero HZ.out])
  refine (cmp_any _ _ _).mono ?_
  rintro e w5 ⟨rfl, hb5⟩
  obtain ⟨hc5, hf5⟩ := bcell hb5
  have hs5 := hb5.size
  (try simp at hs5)
  have z5x0 : w.heap.size < w5.heap.size := by omega
  have z5x1 : w.heap.size + 1 < w5.heap.size := by omega
  have z5x2 : w2.heap.size < w5.heap.size := by omega
  go_wp2_with fail
  (try rw [A_zero HZ.out])
  refine (add_any ha hb _).mono ?_
  rintro e w6 ⟨rfl, hb6⟩
  obtain ⟨hc6, hf6⟩ := bcell hb6
  have hs6 := hb6.size
  (try simp at hs6)
  have z6x0 : w.heap.size < w6.heap.size := by omega
  have z6x1 : w.heap.size + 1 < w6.heap.size := by omega
  have z6x2 : w2.heap.size < w6.heap.size := by omega
  go_wp2_with fail
  (try rw [A_zero HZ.out])
  refine (mod_any hs hb _).mono ?_
  rintro e w7 ⟨rfl, hb7⟩
  obtain ⟨hc7, hf7⟩ := bcell hb7
  have hs7 := hb7.size
  (try simp at hs7)
  have z7x0 : w.heap.size < w7.heap.size := by omega
  have z7x1 : w.heap.size + 1 < w7.heap.size := by omega
  have z7x2 : w2.heap.size < w7.heap.size := by omega
  have z7x3 : w6.heap.size < w7.heap.size := by omega
  go_wp2_with fail
  go_ret
  exact ⟨rfl, ((chainA (chain (chain (chain (chainA (chain (chain (((Below.refl _ _).alloc (Nat.le_refl _) _).alloc (by simp) _) hb1) hb2) hb3) hb4) hb5) hb6) hb7).alloc (by omega) _)⟩
set_option maxRecDepth 100000 in
set_option maxHeartbeats 1000000 in
theorem amod_110 {a b : Nat} (ha : Fits a) (hb : Fits b) (h0 : b ≠ 0) (hz : hi b = 0) (k : a < b) (o : addO a b = false) (w : World) : Calls Try.prog 6 #[A a, A b] w (Gives (.bool true) w) := by
  have m2 := modO_yes h0
  have m3 := modS_lt (a := a) h0
  have m4 := modS_le (a := a) (b := b)
  have c1 : cmpS (modS a b) b = -1 := cmpS_lt m3
  have hs := fits_addS a b
  have c2 : cmpS (modS a b) a ≤ 0 := by
    rcases Nat.lt_or_eq_of_le m4 with h | h
    · rw [cmpS_lt h]; omega
    · rw [cmpS_eq h]; omega
  have c3 : cmpS a b = -1 := cmpS_lt k
  have m5 := modS_low h0 k
  have c4 : cmpS a a = 0 := cmpS_eq rfl
  have m6 := modS_more o ha hb
  have HZ := hide hz
  have hz2 : ¬ lo b = 0 := fun e => h0 (by have := hi_lo b; omega)
  have hz3 : ((lo b : Int) == 0) = false := bne0 (by omega)
  clear m4 m3 k
  go_enter Try.func6, Try.ntmps6
  go_wp2_with fail
  (try rw [A_zero HZ.out])
  refine (awake_any _).mono ?_
  rintro e w1 ⟨rfl, hb1⟩
  obtain ⟨hc1, hf1⟩ := bcell hb1
  have hs1 := hb1.size
  (try simp at hs1)
  have z1x0 : w.heap.size < w1.heap.size := by omega
  have z1x1 : w.heap.size + 1 < w1.heap.size := by omega
  go_wp2_with fail
  (try rw [A_zero HZ.out])
  refine (mod_any ha hb _).mono ?_
  rintro e w2 ⟨rfl, hb2⟩
  obtain ⟨hc2, hf2⟩ := bcell hb2
  have hs2 := hb2.size
  (try simp at hs2)
  have z2x0 : w.heap.size < w2.heap.size := by omega
  have z2x1 : w.heap.size + 1 < w2.heap.size := by omega
  go_wp2_with fail
  (try rw [A_zero HZ.out])
  refine (cmp_any _ _ _).mono ?_
  rintro e w3 ⟨rfl, hb3⟩
  obtain ⟨hc3, hf3⟩ := bcell hb3
  have hs3 := hb3.size
  (try simp at hs3)
  have z3x0 : w.heap.size < w3.heap.size := by omega
  have z3x1 : w.heap.size + 1 < w3.heap.size := by omega
  have z3x2 : w2.heap.size < w3.heap.size := by omega
  go_wp2_with fail
  (try rw [A_zero HZ.out])
  refine (cmp_any _ _ _).mono ?_
  rintro e w4 ⟨rfl, hb4⟩
  obtain ⟨hc4, hf4⟩ := bcell hb4
  have hs4 := hb4.size
  (try simp at hs4)
  have z4x0 : w.heap.size < w4.heap.size := by omega
  have z4x1 : w.heap.size + 1 < w4.heap.size := by omega
  have z4x2 : w2.heap.size < w4.heap.size := by omega
  go_wp2_with fail
  (try rw [A_zero HZ.out])
  refine (cmp_any _ _ _).mono ?_
  rintro e w5 ⟨rfl, hb5⟩
  obtain ⟨hc5, hf5⟩ := bcell hb5
  have hs5 := hb5.size
  (try simp at hs5)
  have z5x0 : w.heap.size < w5.heap.size := by omega
  have z5x1 : w.heap.size + 1 < w5.heap.size := by omega
  have z5x2 : w2.heap.size < w5.heap.size := by omega
  go_wp2_with fail
  (try rw [A_zero HZ.out])
  refine (add_any ha hb _).mono ?_
  rintro e w6 ⟨rfl, hb6⟩
  obtain ⟨hc6, hf6⟩ := bcell hb6
  have hs6 := hb6.size
  (try simp at hs6)
  have z6x0 : w.heap.size < w6.heap.size := by omega
  have z6x1 : w.heap.size + 1 < w6.heap.size := by omega
  have z6x2 : w2.heap.size < w6.heap.size := by omega
  go_wp2_with fail
  (try rw [A_zero HZ.out])
  refine (mod_any hs hb _).mono ?_
  rintro e w7 ⟨rfl, hb7⟩
  obtain ⟨hc7, hf7⟩ := bcell hb7
  have hs7 := hb7.size
  (try simp at hs7)
  have z7x0 : w.heap.size < w7.heap.size := by omega
  have z7x1 : w.heap.size + 1 < w7.heap.size := by omega
  have z7x2 : w2.heap.size < w7.heap.size := by omega
  have z7x3 : w6.heap.size < w7.heap.size := by omega
  go_wp2_with fail
  go_ret
  exact ⟨rfl, ((chainA (chain (chain (chain (chainA (chain (chain (((Below.refl _ _).alloc (Nat.le_refl _) _).alloc (by simp) _) hb1) hb2) hb3) hb4) hb5) hb6) hb7).alloc (by omega) _)⟩
set_option maxRecDepth 100000 in
set_option maxHeartbeats 1000000 in
theorem amod_111 {a b : Nat} (ha : Fits a) (hb : Fits b) (h0 : b ≠ 0) (hz : hi b = 0) (k : a < b) (o : addO a b = true) (w : World) : Calls Try.prog 6 #[A a, A b] w (Gives (.bool true) w) := by
  have m2 := modO_yes h0
  have m3 := modS_lt (a := a) h0
  have m4 := modS_le (a := a) (b := b)
  have c1 : cmpS (modS a b) b = -1 := cmpS_lt m3
  have hs := fits_addS a b
  have c2 : cmpS (modS a b) a ≤ 0 := by
    rcases Nat.lt_or_eq_of_le m4 with h | h
    · rw [cmpS_lt h]; omega
    · rw [cmpS_eq h]; omega
  have c3 : cmpS a b = -1 := cmpS_lt k
  have m5 := modS_low h0 k
  have c4 : cmpS a a = 0 := cmpS_eq rfl
  have HZ := hide hz
  have hz2 : ¬ lo b = 0 := fun e => h0 (by have := hi_lo b; omega)
  have hz3 : ((lo b : Int) == 0) = false := bne0 (by omega)
  clear m4 m3 k
  go_enter Try.func6, Try.ntmps6
  go_wp2_with fail
  (try rw [A_zero HZ.out])
  refine (awake_any _).mono ?_
  rintro e w1 ⟨rfl, hb1⟩
  obtain ⟨hc1, hf1⟩ := bcell hb1
  have hs1 := hb1.size
  (try simp at hs1)
  have z1x0 : w.heap.size < w1.heap.size := by omega
  have z1x1 : w.heap.size + 1 < w1.heap.size := by omega
  go_wp2_with fail
  (try rw [A_zero HZ.out])
  refine (mod_any ha hb _).mono ?_
  rintro e w2 ⟨rfl, hb2⟩
  obtain ⟨hc2, hf2⟩ := bcell hb2
  have hs2 := hb2.size
  (try simp at hs2)
  have z2x0 : w.heap.size < w2.heap.size := by omega
  have z2x1 : w.heap.size + 1 < w2.heap.size := by omega
  go_wp2_with fail
  (try rw [A_zero HZ.out])
  refine (cmp_any _ _ _).mono ?_
  rintro e w3 ⟨rfl, hb3⟩
  obtain ⟨hc3, hf3⟩ := bcell hb3
  have hs3 := hb3.size
  (try simp at hs3)
  have z3x0 : w.heap.size < w3.heap.size := by omega
  have z3x1 : w.heap.size + 1 < w3.heap.size := by omega
  have z3x2 : w2.heap.size < w3.heap.size := by omega
  go_wp2_with fail
  (try rw [A_zero HZ.out])
  refine (cmp_any _ _ _).mono ?_
  rintro e w4 ⟨rfl, hb4⟩
  obtain ⟨hc4, hf4⟩ := bcell hb4
  have hs4 := hb4.size
  (try simp at hs4)
  have z4x0 : w.heap.size < w4.heap.size := by omega
  have z4x1 : w.heap.size + 1 < w4.heap.size := by omega
  have z4x2 : w2.heap.size < w4.heap.size := by omega
  go_wp2_with fail
  (try rw [A_zero HZ.out])
  refine (cmp_any _ _ _).mono ?_
  rintro e w5 ⟨rfl, hb5⟩
  obtain ⟨hc5, hf5⟩ := bcell hb5
  have hs5 := hb5.size
  (try simp at hs5)
  have z5x0 : w.heap.size < w5.heap.size := by omega
  have z5x1 : w.heap.size + 1 < w5.heap.size := by omega
  have z5x2 : w2.heap.size < w5.heap.size := by omega
  go_wp2_with fail
  (try rw [A_zero HZ.out])
  refine (add_any ha hb _).mono ?_
  rintro e w6 ⟨rfl, hb6⟩
  obtain ⟨hc6, hf6⟩ := bcell hb6
  have hs6 := hb6.size
  (try simp at hs6)
  have z6x0 : w.heap.size < w6.heap.size := by omega
  have z6x1 : w.heap.size + 1 < w6.heap.size := by omega
  have z6x2 : w2.heap.size < w6.heap.size := by omega
  go_wp2_with fail
  (try rw [A_zero HZ.out])
  refine (mod_any hs hb _).mono ?_
  rintro e w7 ⟨rfl, hb7⟩
  obtain ⟨hc7, hf7⟩ := bcell hb7
  have hs7 := hb7.size
  (try simp at hs7)
  have z7x0 : w.heap.size < w7.heap.size := by omega
  have z7x1 : w.heap.size + 1 < w7.heap.size := by omega
  have z7x2 : w2.heap.size < w7.heap.size := by omega
  have z7x3 : w6.heap.size < w7.heap.size := by omega
  go_wp2_with fail
  go_ret
  exact ⟨rfl, ((chainA (chain (chain (chain (chainA (chain (chain (((Below.refl _ _).alloc (Nat.le_refl _) _).alloc (by simp) _) hb1) hb2) hb3) hb4) hb5) hb6) hb7).alloc (by omega) _)⟩
theorem amod_any {a b : Nat} (ha : Fits a) (hb : Fits b) (w : World) : Calls Try.prog 6 #[A a, A b] w (Gives (.bool true) w) := by
  by_cases h0 : b = 0
  · subst h0; exact amod_0 ha w
  by_cases hz : hi b = 0
  · by_cases k : a < b
    · cases o : addO a b
      · exact amod_110 ha hb h0 hz k o w
      · exact amod_111 ha hb h0 hz k o w
    · cases o : addO a b
      · exact amod_100 ha hb h0 hz k o w
      · exact amod_101 ha hb h0 hz k o w
  · by_cases k : a < b
    · cases o : addO a b
      · exact amod_010 ha hb h0 hz k o w
      · exact amod_011 ha hb h0 hz k o w
    · cases o : addO a b
      · exact amod_000 ha hb h0 hz k o w
      · exact amod_001 ha hb h0 hz k o w
end Go.Proofs.Ytimlcfklmghdhaa
