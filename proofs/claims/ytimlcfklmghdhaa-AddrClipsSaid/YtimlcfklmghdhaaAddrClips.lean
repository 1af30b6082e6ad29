/-
  AddrClips: for every address and ints bits, less the law returns true: the prefix of an address has it, is one, is that of each of its addresses, and one of fewer bits covers it. No condition.
-/
import Derived.Test.YtimlcfklmghdhaaAddrV
namespace Go.Proofs.Ytimlcfklmghdhaa
open Go.RowKit

theorem clip_twice {a n : Nat} : clipS (clipS a n) n = clipS a n := dvd_clip ⟨_, Nat.mul_comm _ _⟩
theorem clip_last (a n : Nat) : clipS (lastS (clipS a n) n) n = clipS a n := by
  have hp := pow_pos (128 - n)
  unfold lastS clipS
  generalize 2 ^ (128 - n) = B at *
  have : (a / B * B + (B - 1)) / B = a / B := by
    have e0 : (B - 1) / B = 0 := Nat.div_eq_of_lt (by omega)
    rw [Nat.mul_comm, Nat.mul_add_div hp, e0, Nat.add_zero]
  rw [this]
theorem le_last (a n : Nat) : a ≤ lastS (clipS a n) n := by
  have hp := pow_pos (128 - n)
  unfold lastS clipS
  generalize 2 ^ (128 - n) = B at *
  have h1 := Nat.div_add_mod' a B
  have h2 := Nat.mod_lt a hp
  omega
theorem clip_more {a n m : Nat} (h : m ≤ n) : clipS (clipS a n) m = clipS a m := by
  unfold clipS
  congr 1
  rw [show (2 : Nat) ^ (128 - m) = 2 ^ (128 - n) * 2 ^ (128 - m - (128 - n)) from pow_split (by omega), ← Nat.div_div_eq_div_mul, ← Nat.div_div_eq_div_mul, Nat.mul_div_cancel _ (pow_pos _)]
theorem cmp_le {a b : Nat} (h : a ≤ b) : cmpS a b ≤ 0 := by
  rcases Nat.lt_or_eq_of_le h with h | h
  · rw [cmpS_lt h]; omega
  · rw [cmpS_eq h]; omega

/-- the rest of an int by bits + 1, as the program reckons it -/
def lessN (less bits : Int) : Int := wrap64 ((IntKind.u64.wrap less).tmod (bits + 1))
theorem lessN_in {less bits : Int} (h : 0 ≤ bits) (h' : bits ≤ 128) : 0 ≤ lessN less bits ∧ lessN less bits ≤ bits := by
  unfold lessN
  have h0 := wrap_u64_nonneg less
  rw [Int.tmod_eq_emod_of_nonneg h0]
  have h1 := Int.emod_nonneg (IntKind.u64.wrap less) (show bits + 1 ≠ 0 by omega)
  have h2 := Int.emod_lt_of_pos (IntKind.u64.wrap less) (show 0 < bits + 1 by omega)
  rw [IntWalk.wrap64_in _ ⟨by omega, by omega⟩]
  omega

set_option maxRecDepth 100000 in
set_option maxHeartbeats 1000000 in
theorem clips_no {a : Nat} (ha : Fits a) (bits less : Int) (hn : ¬ (0 ≤ bits ∧ bits ≤ 128)) (w : World) : Calls Try.prog 8 #[A a, .int .i64 bits, .int .i64 less] w (Gives (.bool true) w) := by
  have k1 : okN bits = false := by unfold okN; simp; omega
  have k2 : clipA a bits = 0 := by unfold clipA; rw [k1]; rfl
  have k3 : clipN bits = 0 := by unfold clipN; rw [k1]; rfl
  have z1 := hi_zero
  have z2 := lo_zero
  rcases (show bits < 0 ∨ 128 < bits by omega) with h | h
  · go_enter Try.func8, Try.ntmps8
    go_wp2_with fail
    refine (awake_any _).mono ?_
    rintro e w1 ⟨rfl, hb1⟩
    obtain ⟨hc1, hf1⟩ := bcell hb1
    have hs1 := hb1.size
    (try simp at hs1)
    have z1x0 : w.heap.size < w1.heap.size := by omega
    go_wp2_with fail
    refine (clip_any ha bits _).mono ?_
    rintro e w2 ⟨rfl, hb2⟩
    obtain ⟨hc2, hf2⟩ := bcell hb2
    have hs2 := hb2.size
    (try simp at hs2)
    have z2x0 : w.heap.size < w2.heap.size := by omega
    go_wp2_with fail
    go_ret
    exact ⟨rfl, ((chain (chain ((Below.refl _ _).alloc (Nat.le_refl _) _) hb1) hb2).alloc (by omega) _)⟩
  · go_enter Try.func8, Try.ntmps8
    go_wp2_with fail
    refine (awake_any _).mono ?_
    rintro e w1 ⟨rfl, hb1⟩
    obtain ⟨hc1, hf1⟩ := bcell hb1
    have hs1 := hb1.size
    (try simp at hs1)
    have z1x0 : w.heap.size < w1.heap.size := by omega
    go_wp2_with fail
    refine (clip_any ha bits _).mono ?_
    rintro e w2 ⟨rfl, hb2⟩
    obtain ⟨hc2, hf2⟩ := bcell hb2
    have hs2 := hb2.size
    (try simp at hs2)
    have z2x0 : w.heap.size < w2.heap.size := by omega
    go_wp2_with fail
    go_ret
    exact ⟨rfl, ((chain (chain ((Below.refl _ _).alloc (Nat.le_refl _) _) hb1) hb2).alloc (by omega) _)⟩

set_option maxRecDepth 100000 in
set_option maxHeartbeats 2000000 in
theorem clips_yes {a : Nat} (ha : Fits a) (bits less : Int) (h0 : 0 ≤ bits) (h1 : bits ≤ 128) (w : World) : Calls Try.prog 8 #[A a, .int .i64 bits, .int .i64 less] w (Gives (.bool true) w) := by
  have k1 : okN bits = true := by unfold okN; simp; omega
  have hl := lessN_in (less := less) h0 h1
  have k4 : okN (lessN less bits) = true := by unfold okN; simp; omega
  have hl0 := hl.1
  have hl1 := hl.2
  clear hl
  obtain ⟨p, hp⟩ : ∃ p, p = clipS a bits.toNat := ⟨_, rfl⟩
  have fp : Fits p := by rw [hp]; exact fits_clipS ha _
  have k2 : clipA a bits = p := by unfold clipA; rw [k1, hp]; rfl
  have k3 : clipN bits = bits := clipN_ok k1
  have s1 : soundS p bits = true := sound_iff.2 ⟨⟨h0, h1⟩, by rw [hp]; exact clip_twice⟩
  have f1 : firstA p bits = p := by unfold firstA; rw [if_pos s1]
  obtain ⟨l, hl⟩ : ∃ l, l = lastS p bits.toNat := ⟨_, rfl⟩
  have f2 : lastA p bits = l := by unfold lastA; rw [if_pos s1, hl]
  have fl : Fits l := by rw [hl]; exact fits_lastS fp (by rw [hp]; exact clip_twice) (by omega)
  have k5 : clipA p bits = p := by unfold clipA; rw [k1, hp]; exact clip_twice
  have k6 : clipA l bits = p := by unfold clipA; rw [k1, hl, hp]; exact clip_last _ _
  obtain ⟨q, hq⟩ : ∃ q, q = clipS a (lessN less bits).toNat := ⟨_, rfl⟩
  have fq : Fits q := by rw [hq]; exact fits_clipS ha _
  have k7 : clipA a (lessN less bits) = q := by unfold clipA; rw [k4, hq]; rfl
  have k8 : clipN (lessN less bits) = lessN less bits := clipN_ok k4
  have s2 : hasS p bits a = true := has_iff.2 ⟨⟨h0, h1⟩, hp.symm⟩
  have c1 : cmpS p a ≤ 0 := cmp_le (by rw [hp]; exact clipS_le _ _)
  have c2 : cmpS a l ≤ 0 := cmp_le (by rw [hl, hp]; exact le_last _ _)
  have s3 : coversS q (lessN less bits) p bits = true := by
    unfold coversS
    rw [s1, Bool.true_and, Bool.and_eq_true]
    refine ⟨by simpa using hl1, has_iff.2 ⟨⟨hl0, by omega⟩, ?_⟩⟩
    rw [hp, hq]; exact clip_more (by omega)
  have e1 : wrap64 ((IntKind.u64.wrap less).tmod (bits + 1)) = lessN less bits := rfl
  clear hp hl hq
  go_enter Try.func8, Try.ntmps8
  go_wp2_with fail
  refine (awake_any _).mono ?_
  rintro e w1 ⟨rfl, hb1⟩
  obtain ⟨hc1, hf1⟩ := bcell hb1
  have hs1 := hb1.size
  (try simp at hs1)
  have z1x0 : w.heap.size < w1.heap.size := by omega
  go_wp2_with fail
  refine (clip_any ha bits _).mono ?_
  rintro e w2 ⟨rfl, hb2⟩
  obtain ⟨hc2, hf2⟩ := bcell hb2
  have hs2 := hb2.size
  (try simp at hs2)
  have z2x0 : w.heap.size < w2.heap.size := by omega
  go_wp2_with fail
  refine (span_any fp bits _).mono ?_
  rintro e w3 ⟨rfl, hb3⟩
  obtain ⟨hc3, hf3⟩ := bcell hb3
  have hs3 := hb3.size
  (try simp at hs3)
  have z3x0 : w.heap.size < w3.heap.size := by omega
  have z3x1 : w2.heap.size < w3.heap.size := by omega
  go_wp2_with fail
  refine (clip_any fp bits _).mono ?_
  rintro e w4 ⟨rfl, hb4⟩
  obtain ⟨hc4, hf4⟩ := bcell hb4
  have hs4 := hb4.size
  (try simp at hs4)
  have z4x0 : w.heap.size < w4.heap.size := by omega
  have z4x1 : w2.heap.size < w4.heap.size := by omega
  have z4x2 : w3.heap.size < w4.heap.size := by omega
  go_wp2_with fail
  refine (clip_any fl bits _).mono ?_
  rintro e w5 ⟨rfl, hb5⟩
  obtain ⟨hc5, hf5⟩ := bcell hb5
  have hs5 := hb5.size
  (try simp at hs5)
  have z5x0 : w.heap.size < w5.heap.size := by omega
  have z5x1 : w2.heap.size < w5.heap.size := by omega
  have z5x2 : w3.heap.size < w5.heap.size := by omega
  have z5x3 : w4.heap.size < w5.heap.size := by omega
  go_wp2_with fail
  refine (clip_any ha (lessN less bits) _).mono ?_
  rintro e w6 ⟨rfl, hb6⟩
  obtain ⟨hc6, hf6⟩ := bcell hb6
  have hs6 := hb6.size
  (try simp at hs6)
  have z6x0 : w.heap.size < w6.heap.size := by omega
  have z6x1 : w2.heap.size < w6.heap.size := by omega
  have z6x2 : w3.heap.size < w6.heap.size := by omega
  have z6x3 : w4.heap.size < w6.heap.size := by omega
  have z6x4 : w5.heap.size < w6.heap.size := by omega
  go_wp2_with fail
  refine (sound_any fp bits _).mono ?_
  rintro e w7 ⟨rfl, hb7⟩
  obtain ⟨hc7, hf7⟩ := bcell hb7
  have hs7 := hb7.size
  (try simp at hs7)
  have z7x0 : w.heap.size < w7.heap.size := by omega
  have z7x1 : w2.heap.size < w7.heap.size := by omega
  have z7x2 : w3.heap.size < w7.heap.size := by omega
  have z7x3 : w4.heap.size < w7.heap.size := by omega
  have z7x4 : w5.heap.size < w7.heap.size := by omega
  have z7x5 : w6.heap.size < w7.heap.size := by omega
  go_wp2_with fail
  refine (has_any (p := p) ha bits _).mono ?_
  rintro e w8 ⟨rfl, hb8⟩
  obtain ⟨hc8, hf8⟩ := bcell hb8
  have hs8 := hb8.size
  (try simp at hs8)
  have z8x0 : w.heap.size < w8.heap.size := by omega
  have z8x1 : w2.heap.size < w8.heap.size := by omega
  have z8x2 : w3.heap.size < w8.heap.size := by omega
  have z8x3 : w4.heap.size < w8.heap.size := by omega
  have z8x4 : w5.heap.size < w8.heap.size := by omega
  have z8x5 : w6.heap.size < w8.heap.size := by omega
  go_wp2_with fail
  refine (cmp_any _ _ _).mono ?_
  rintro e w9 ⟨rfl, hb9⟩
  obtain ⟨hc9, hf9⟩ := bcell hb9
  have hs9 := hb9.size
  (try simp at hs9)
  have z9x0 : w.heap.size < w9.heap.size := by omega
  have z9x1 : w2.heap.size < w9.heap.size := by omega
  have z9x2 : w3.heap.size < w9.heap.size := by omega
  have z9x3 : w4.heap.size < w9.heap.size := by omega
  have z9x4 : w5.heap.size < w9.heap.size := by omega
  have z9x5 : w6.heap.size < w9.heap.size := by omega
  go_wp2_with fail
  refine (cmp_any _ _ _).mono ?_
  rintro e w10 ⟨rfl, hb10⟩
  obtain ⟨hc10, hf10⟩ := bcell hb10
  have hs10 := hb10.size
  (try simp at hs10)
  have z10x0 : w.heap.size < w10.heap.size := by omega
  have z10x1 : w2.heap.size < w10.heap.size := by omega
  have z10x2 : w3.heap.size < w10.heap.size := by omega
  have z10x3 : w4.heap.size < w10.heap.size := by omega
  have z10x4 : w5.heap.size < w10.heap.size := by omega
  have z10x5 : w6.heap.size < w10.heap.size := by omega
  go_wp2_with fail
  refine (covers_any (p := q) fp (lessN less bits) bits _).mono ?_
  rintro e w11 ⟨rfl, hb11⟩
  obtain ⟨hc11, hf11⟩ := bcell hb11
  have hs11 := hb11.size
  (try simp at hs11)
  have z11x0 : w.heap.size < w11.heap.size := by omega
  have z11x1 : w2.heap.size < w11.heap.size := by omega
  have z11x2 : w3.heap.size < w11.heap.size := by omega
  have z11x3 : w4.heap.size < w11.heap.size := by omega
  have z11x4 : w5.heap.size < w11.heap.size := by omega
  have z11x5 : w6.heap.size < w11.heap.size := by omega
  go_wp2_with fail
  go_ret
  exact ⟨rfl, (chain (chain (chain (chain (chainA (chainA (chainA (chainA (chainA (chain (chain ((Below.refl _ _).alloc (Nat.le_refl _) _) hb1) hb2) hb3) hb4) hb5) hb6) hb7) hb8) hb9) hb10) hb11)⟩
theorem clips_any {a : Nat} (ha : Fits a) (bits less : Int) (w : World) : Calls Try.prog 8 #[A a, .int .i64 bits, .int .i64 less] w (Gives (.bool true) w) := by
  by_cases h : 0 ≤ bits ∧ bits ≤ 128
  · exact clips_yes ha bits less h.1 h.2 w
  · exact clips_no ha bits less h w
end Go.Proofs.Ytimlcfklmghdhaa
