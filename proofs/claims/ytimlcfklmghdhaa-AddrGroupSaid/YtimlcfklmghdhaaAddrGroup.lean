/-
  AddrGroup: for all addresses a, b, c the law returns true: sums don't depend on order or grouping, a difference takes back a sum, and overflow and underflow are told by the order. No condition.
-/
import Derived.Test.YtimlcfklmghdhaaAddrV
import Derived.Test.YtimlcfklmghdhaaAddrRow
namespace Go.Proofs.Ytimlcfklmghdhaa
open Go.ChangeShapes Go.WideShapes Go.ChangeAt Go.RowKit Go.Joins

theorem add_turn (a b : Nat) : addS b a = addS a b := by unfold addS; rw [Nat.add_comm]
theorem over_turn (a b : Nat) : addO b a = addO a b := by unfold addO; rw [Nat.add_comm]
theorem add_group (a b c : Nat) : addS a (addS b c) = addS (addS a b) c := by unfold addS; omega
theorem sub_back {a b : Nat} (_ha : Fits a) (_hb : Fits b) : subS (addS a b) b = a := by unfold subS addS Fits at *; omega
theorem over_less {a b : Nat} (_ha : Fits a) (_hb : Fits b) : addO a b = decide (cmpS (addS a b) a < 0) := by
  unfold addO cmpS addS Fits at *
  rw [decide_eq_decide]
  repeat' split
  all_goals omega
theorem under_less (a b : Nat) : subO a b = decide (cmpS a b < 0) := by
  unfold subO cmpS
  rw [decide_eq_decide]
  repeat' split
  all_goals omega

set_option maxRecDepth 100000 in
set_option maxHeartbeats 2000000 in
theorem group_any {a b c : Nat} (ha : Fits a) (hb : Fits b) (hc : Fits c) (w : World) : Calls Try.prog 5 #[A a, A b, A c] w (Gives (.bool true) w) := by
  have g1 := add_turn a b
  have g2 := over_turn a b
  have g3 := add_group a b c
  have g4 := sub_back ha hb
  have g5 := over_less ha hb
  have g6 := under_less a b
  have hab := fits_addS a b
  have hbc := fits_addS b c
  go_enter Try.func5, Try.ntmps5
  go_wp2_with fail
  refine (awake_any _).mono ?_
  rintro e w1 ⟨rfl, hb1⟩
  obtain ⟨hc1, hf1⟩ := bcell hb1
  have hs1 := hb1.size
  (try simp at hs1)
  have z1x0 : w.heap.size < w1.heap.size := by omega
  have z1x1 : w.heap.size + 1 < w1.heap.size := by omega
  have z1x2 : w.heap.size + 1 + 1 < w1.heap.size := by omega
  go_wp2_with fail
  refine (add_any ha hb _).mono ?_
  rintro e w2 ⟨rfl, hb2⟩
  obtain ⟨hc2, hf2⟩ := bcell hb2
  have hs2 := hb2.size
  (try simp at hs2)
  have z2x0 : w.heap.size < w2.heap.size := by omega
  have z2x1 : w.heap.size + 1 < w2.heap.size := by omega
  have z2x2 : w.heap.size + 1 + 1 < w2.heap.size := by omega
  go_wp2_with fail
  refine (add_any hb ha _).mono ?_
  rintro e w3 ⟨rfl, hb3⟩
  obtain ⟨hc3, hf3⟩ := bcell hb3
  have hs3 := hb3.size
  (try simp at hs3)
  have z3x0 : w.heap.size < w3.heap.size := by omega
  have z3x1 : w.heap.size + 1 < w3.heap.size := by omega
  have z3x2 : w.heap.size + 1 + 1 < w3.heap.size := by omega
  have z3x3 : w2.heap.size < w3.heap.size := by omega
  go_wp2_with fail
  refine (add_any hb hc _).mono ?_
  rintro e w4 ⟨rfl, hb4⟩
  obtain ⟨hc4, hf4⟩ := bcell hb4
  have hs4 := hb4.size
  (try simp at hs4)
  have z4x0 : w.heap.size < w4.heap.size := by omega
  have z4x1 : w.heap.size + 1 < w4.heap.size := by omega
  have z4x2 : w.heap.size + 1 + 1 < w4.heap.size := by omega
  have z4x3 : w2.heap.size < w4.heap.size := by omega
  have z4x4 : w3.heap.size < w4.heap.size := by omega
  go_wp2_with fail
  refine (add_any hab hc _).mono ?_
  rintro e w5 ⟨rfl, hb5⟩
  obtain ⟨hc5, hf5⟩ := bcell hb5
  have hs5 := hb5.size
  (try simp at hs5)
  have z5x0 : w.heap.size < w5.heap.size := by omega
  have z5x1 : w.heap.size + 1 < w5.heap.size := by omega
  have z5x2 : w.heap.size + 1 + 1 < w5.heap.size := by omega
  have z5x3 : w2.heap.size < w5.heap.size := by omega
  have z5x4 : w3.heap.size < w5.heap.size := by omega
  have z5x5 : w4.heap.size < w5.heap.size := by omega
  go_wp2_with fail
  refine (add_any ha hbc _).mono ?_
  rintro e w6 ⟨rfl, hb6⟩
  obtain ⟨hc6, hf6⟩ := bcell hb6
  have hs6 := hb6.size
  (try simp at hs6)
  have z6x0 : w.heap.size < w6.heap.size := by omega
  have z6x1 : w.heap.size + 1 < w6.heap.size := by omega
  have z6x2 : w.heap.size + 1 + 1 < w6.heap.size := by omega
  have z6x3 : w2.heap.size < w6.heap.size := by omega
  have z6x4 : w3.heap.size < w6.heap.size := by omega
  have z6x5 : w4.heap.size < w6.heap.size := by omega
  have z6x6 : w5.heap.size < w6.heap.size := by omega
  go_wp2_with fail
  refine (sub_any hab hb _).mono ?_
  rintro e w7 ⟨rfl, hb7⟩
  obtain ⟨hc7, hf7⟩ := bcell hb7
  have hs7 := hb7.size
  (try simp at hs7)
  have z7x0 : w.heap.size < w7.heap.size := by omega
  have z7x1 : w.heap.size + 1 < w7.heap.size := by omega
  have z7x2 : w.heap.size + 1 + 1 < w7.heap.size := by omega
  have z7x3 : w2.heap.size < w7.heap.size := by omega
  have z7x4 : w3.heap.size < w7.heap.size := by omega
  have z7x5 : w4.heap.size < w7.heap.size := by omega
  have z7x6 : w5.heap.size < w7.heap.size := by omega
  have z7x7 : w6.heap.size < w7.heap.size := by omega
  go_wp2_with fail
  refine (sub_any ha hb _).mono ?_
  rintro e w8 ⟨rfl, hb8⟩
  obtain ⟨hc8, hf8⟩ := bcell hb8
  have hs8 := hb8.size
  (try simp at hs8)
  have z8x0 : w.heap.size < w8.heap.size := by omega
  have z8x1 : w.heap.size + 1 < w8.heap.size := by omega
  have z8x2 : w.heap.size + 1 + 1 < w8.heap.size := by omega
  have z8x3 : w2.heap.size < w8.heap.size := by omega
  have z8x4 : w3.heap.size < w8.heap.size := by omega
  have z8x5 : w4.heap.size < w8.heap.size := by omega
  have z8x6 : w5.heap.size < w8.heap.size := by omega
  have z8x7 : w6.heap.size < w8.heap.size := by omega
  have z8x8 : w7.heap.size < w8.heap.size := by omega
  go_wp2_with fail
  refine (cmp_any _ _ _).mono ?_
  rintro e w9 ⟨rfl, hb9⟩
  obtain ⟨hc9, hf9⟩ := bcell hb9
  have hs9 := hb9.size
  (try simp at hs9)
  have z9x0 : w.heap.size < w9.heap.size := by omega
  have z9x1 : w.heap.size + 1 < w9.heap.size := by omega
  have z9x2 : w.heap.size + 1 + 1 < w9.heap.size := by omega
  have z9x3 : w2.heap.size < w9.heap.size := by omega
  have z9x4 : w3.heap.size < w9.heap.size := by omega
  have z9x5 : w4.heap.size < w9.heap.size := by omega
  have z9x6 : w5.heap.size < w9.heap.size := by omega
  have z9x7 : w6.heap.size < w9.heap.size := by omega
  have z9x8 : w7.heap.size < w9.heap.size := by omega
  have z9x9 : w8.heap.size < w9.heap.size := by omega
  go_wp2_with fail
  refine (cmp_any _ _ _).mono ?_
  rintro e w10 ⟨rfl, hb10⟩
  obtain ⟨hc10, hf10⟩ := bcell hb10
  have hs10 := hb10.size
  (try simp at hs10)
  have z10x0 : w.heap.size < w10.heap.size := by omega
  have z10x1 : w.heap.size + 1 < w10.heap.size := by omega
  have z10x2 : w.heap.size + 1 + 1 < w10.heap.size := by omega
  have z10x3 : w2.heap.size < w10.heap.size := by omega
  have z10x4 : w3.heap.size < w10.heap.size := by omega
  have z10x5 : w4.heap.size < w10.heap.size := by omega
  have z10x6 : w5.heap.size < w10.heap.size := by omega
  have z10x7 : w6.heap.size < w10.heap.size := by omega
  have z10x8 : w7.heap.size < w10.heap.size := by omega
  have z10x9 : w8.heap.size < w10.heap.size := by omega
  go_wp2_with fail
  go_ret
  exact ⟨rfl, (chain (chainA (chainA (chainA (chainA (chainA (chainA (chainA (chain (chain ((((Below.refl _ _).alloc (Nat.le_refl _) _).alloc (by simp) _).alloc (by simp; omega) _) hb1) hb2) hb3) hb4) hb5) hb6) hb7) hb8) hb9) hb10)⟩
end Go.Proofs.Ytimlcfklmghdhaa
