/-
  Contracts of the document's own Compare and Meets of leases: they return what the program's return. Conditions: the words are words of 64 bits (every value of the type is such).
-/
import Derived.Test.YtgioifdmmneapaaLRs
import Derived.Test.YtgioifdmmneapaaLC
import Derived.Test.YtgioifdmmneapaaLMm
namespace Go.Proofs.Ytgioifdmmneapaa
open Go.RowKit Go.Joins

set_option maxRecDepth 100000 in
set_option maxHeartbeats 2000000 in
theorem rcompare3_any (k : Int) {p : Nat} (hp : Fits p) (n : Int) (j : Int) {q : Nat} (hq : Fits q) (m : Int) (w : World) :
    Calls Try.prog 17 #[.int .i64 k, Pv p n, .int .i64 j, Pv q m] w (Gives (.int .i64 (compareS k p n j q m)) w) := by
  have H := pb_new w p n q m 26
  have C := hide (fun W => rcmp_any hp hq W)
  rcases Int.lt_trichotomy k j with h | h | h
  · have R := hide (show compareS k p n j q m = -1 by unfold compareS; rw [cmpI_lt h]; rfl)
    have E1 : (k != j) = true := by simp; omega
    go_enter Try.func17, Try.ntmps17
    go_wp2_with fail
    generalize (w.alloc (.cells #[.int .u64 (hi p : Nat), .int .u64 (lo p : Nat), .int .i64 n] 26)).alloc (.cells #[.int .u64 (hi q : Nat), .int .u64 (lo q : Nat), .int .i64 m] 26) = V at *
    obtain ⟨_, ⟨a0, a1, a2⟩, b0, b1, b2⟩ := id H
    go_wp2
    go_ret
    exact ⟨congrArg Ending.returned (i64_eq R.out.symm), H.1⟩
  · subst h
    have E1 : (k != k) = false := by simp
    rcases Nat.lt_trichotomy p q with g | g | g
    · have R := hide (show compareS k p n k q m = -1 by unfold compareS; rw [cmpI_eq, cmpS_lt g]; rfl)
      rw [cmpS_lt g] at C
      clear g
      go_enter Try.func17, Try.ntmps17
      go_wp2_with fail
      generalize (w.alloc (.cells #[.int .u64 (hi p : Nat), .int .u64 (lo p : Nat), .int .i64 n] 26)).alloc (.cells #[.int .u64 (hi q : Nat), .int .u64 (lo q : Nat), .int .i64 m] 26) = V at *
      obtain ⟨_, ⟨a0, a1, a2⟩, b0, b1, b2⟩ := id H
      go_wp2_with fail
      refine (C.out _).mono ?_
      rintro e w1 ⟨rfl, hb1⟩
      have H1 := H.step hb1
      clear a0 a1 a2 b0 b1 b2
      obtain ⟨_, ⟨a0, a1, a2⟩, b0, b1, b2⟩ := id H1
      go_wp2
      go_ret
      exact ⟨congrArg Ending.returned (i64_eq R.out.symm), H1.1⟩
    · rw [cmpS_eq g] at C
      rcases Int.lt_trichotomy n m with i | i | i
      · have R := hide (show compareS k p n k q m = -1 by unfold compareS; rw [cmpI_eq, cmpS_eq g, cmpI_lt i]; rfl)
        have E2 : (n == m) = false := by simp; omega
        clear g
        go_enter Try.func17, Try.ntmps17
        go_wp2_with fail
        generalize (w.alloc (.cells #[.int .u64 (hi p : Nat), .int .u64 (lo p : Nat), .int .i64 n] 26)).alloc (.cells #[.int .u64 (hi q : Nat), .int .u64 (lo q : Nat), .int .i64 m] 26) = V at *
        obtain ⟨_, ⟨a0, a1, a2⟩, b0, b1, b2⟩ := id H
        go_wp2_with fail
        refine (C.out _).mono ?_
        rintro e w1 ⟨rfl, hb1⟩
        have H1 := H.step hb1
        clear a0 a1 a2 b0 b1 b2
        obtain ⟨_, ⟨a0, a1, a2⟩, b0, b1, b2⟩ := id H1
        go_wp2
        go_ret
        exact ⟨congrArg Ending.returned (i64_eq R.out.symm), H1.1⟩
      · subst i
        have R := hide (show compareS k p n k q n = 0 by unfold compareS; rw [cmpI_eq, cmpS_eq g, cmpI_eq]; rfl)
        clear g
        go_enter Try.func17, Try.ntmps17
        go_wp2_with fail
        generalize (w.alloc (.cells #[.int .u64 (hi p : Nat), .int .u64 (lo p : Nat), .int .i64 n] 26)).alloc (.cells #[.int .u64 (hi q : Nat), .int .u64 (lo q : Nat), .int .i64 n] 26) = V at *
        obtain ⟨_, ⟨a0, a1, a2⟩, b0, b1, b2⟩ := id H
        go_wp2_with fail
        refine (C.out _).mono ?_
        rintro e w1 ⟨rfl, hb1⟩
        have H1 := H.step hb1
        clear a0 a1 a2 b0 b1 b2
        obtain ⟨_, ⟨a0, a1, a2⟩, b0, b1, b2⟩ := id H1
        go_wp2
        go_ret
        exact ⟨congrArg Ending.returned (i64_eq R.out.symm), H1.1⟩
      · have R := hide (show compareS k p n k q m = 1 by unfold compareS; rw [cmpI_eq, cmpS_eq g, cmpI_gt i]; rfl)
        have E2 : (n == m) = false := by simp; omega
        have E3 : ¬ n < m := by omega
        clear g
        go_enter Try.func17, Try.ntmps17
        go_wp2_with fail
        generalize (w.alloc (.cells #[.int .u64 (hi p : Nat), .int .u64 (lo p : Nat), .int .i64 n] 26)).alloc (.cells #[.int .u64 (hi q : Nat), .int .u64 (lo q : Nat), .int .i64 m] 26) = V at *
        obtain ⟨_, ⟨a0, a1, a2⟩, b0, b1, b2⟩ := id H
        go_wp2_with fail
        refine (C.out _).mono ?_
        rintro e w1 ⟨rfl, hb1⟩
        have H1 := H.step hb1
        clear a0 a1 a2 b0 b1 b2
        obtain ⟨_, ⟨a0, a1, a2⟩, b0, b1, b2⟩ := id H1
        go_wp2
        go_ret
        exact ⟨congrArg Ending.returned (i64_eq R.out.symm), H1.1⟩
    · have R := hide (show compareS k p n k q m = 1 by unfold compareS; rw [cmpI_eq, cmpS_gt g]; rfl)
      rw [cmpS_gt g] at C
      clear g
      go_enter Try.func17, Try.ntmps17
      go_wp2_with fail
      generalize (w.alloc (.cells #[.int .u64 (hi p : Nat), .int .u64 (lo p : Nat), .int .i64 n] 26)).alloc (.cells #[.int .u64 (hi q : Nat), .int .u64 (lo q : Nat), .int .i64 m] 26) = V at *
      obtain ⟨_, ⟨a0, a1, a2⟩, b0, b1, b2⟩ := id H
      go_wp2_with fail
      refine (C.out _).mono ?_
      rintro e w1 ⟨rfl, hb1⟩
      have H1 := H.step hb1
      clear a0 a1 a2 b0 b1 b2
      obtain ⟨_, ⟨a0, a1, a2⟩, b0, b1, b2⟩ := id H1
      go_wp2
      go_ret
      exact ⟨congrArg Ending.returned (i64_eq R.out.symm), H1.1⟩
  · have R := hide (show compareS k p n j q m = 1 by unfold compareS; rw [cmpI_gt h]; rfl)
    have E1 : (k != j) = true := by simp; omega
    have E2 : ¬ k < j := by omega
    go_enter Try.func17, Try.ntmps17
    go_wp2_with fail
    generalize (w.alloc (.cells #[.int .u64 (hi p : Nat), .int .u64 (lo p : Nat), .int .i64 n] 26)).alloc (.cells #[.int .u64 (hi q : Nat), .int .u64 (lo q : Nat), .int .i64 m] 26) = V at *
    obtain ⟨_, ⟨a0, a1, a2⟩, b0, b1, b2⟩ := id H
    go_wp2
    go_ret
    exact ⟨congrArg Ending.returned (i64_eq R.out.symm), H.1⟩

set_option maxRecDepth 100000 in
set_option maxHeartbeats 4000000 in
theorem rmeet_any (k : Int) {p : Nat} (hp : Fits p) (n : Int) (j : Int) {q : Nat} (hq : Fits q) (m : Int) (w : World) :
    Calls Try.prog 19 #[.int .i64 k, Pv p n, .int .i64 j, Pv q m] w (Gives (.bool (meetS k p n j q m)) w) := by
  have R1 := hide (fun W => rright_any k hp n W)
  have R2 := hide (fun W => rright_any j hq m W)
  have H := pb_new w p n q m 26
  cases h1 : rightS k p n with
  | false =>
    have K := hide (meet_right (k := k) (p := p) (n := n) (j := j) (q := q) (m := m) (Or.inl h1))
    rw [h1] at R1
    clear h1
    go_enter Try.func19, Try.ntmps19
    go_wp2_with fail
    generalize (w.alloc (.cells #[.int .u64 (hi p : Nat), .int .u64 (lo p : Nat), .int .i64 n] 26)).alloc (.cells #[.int .u64 (hi q : Nat), .int .u64 (lo q : Nat), .int .i64 m] 26) = V at *
    obtain ⟨_, ⟨a0, a1, a2⟩, b0, b1, b2⟩ := id H
    go_wp2_with fail
    refine (R1.out _).mono ?_
    rintro e w1 ⟨rfl, hb⟩
    have H1 := H.step hb
    clear hb a0 a1 a2 b0 b1 b2
    obtain ⟨_, ⟨a0, a1, a2⟩, b0, b1, b2⟩ := id H1
    go_wp2
    go_ret
    exact ⟨congrArg Ending.returned (bool_eq K.out.symm), H1.1⟩
  | true =>
    cases h2 : rightS j q m with
    | false =>
      have K := hide (meet_right (k := k) (p := p) (n := n) (j := j) (q := q) (m := m) (Or.inr h2))
      rw [h1] at R1
      rw [h2] at R2
      clear h1 h2
      go_enter Try.func19, Try.ntmps19
      go_wp2_with fail
      generalize (w.alloc (.cells #[.int .u64 (hi p : Nat), .int .u64 (lo p : Nat), .int .i64 n] 26)).alloc (.cells #[.int .u64 (hi q : Nat), .int .u64 (lo q : Nat), .int .i64 m] 26) = V at *
      obtain ⟨_, ⟨a0, a1, a2⟩, b0, b1, b2⟩ := id H
      go_wp2_with fail
      refine (R1.out _).mono ?_
      rintro e w1 ⟨rfl, hb⟩
      have H1 := H.step hb
      clear hb a0 a1 a2 b0 b1 b2
      obtain ⟨_, ⟨a0, a1, a2⟩, b0, b1, b2⟩ := id H1
      go_wp2_with fail
      refine (R2.out _).mono ?_
      rintro e w2 ⟨rfl, hb⟩
      have H2 := H1.step hb
      clear hb a0 a1 a2 b0 b1 b2
      obtain ⟨_, ⟨a0, a1, a2⟩, b0, b1, b2⟩ := id H2
      go_wp2
      go_ret
      exact ⟨congrArg Ending.returned (bool_eq K.out.symm), H2.1⟩
    | true =>
      rw [h1] at R1
      rw [h2] at R2
      by_cases hk : k = 1 ∨ j = 1
      · have K0 := meet_v4 h1 h2 hk
        clear h1 h2
        by_cases hkj : k = j
        · subst hkj
          have hk1 : k = 1 := by omega
          subst hk1
          have F : Hid (∀ (W' : World) (b : Bool), Below w.heap.size w W' → b = decide (p = q ∧ n = m) → Gives (.bool (meetS 1 p n 1 q m)) w (.returned (.bool b)) W') := hide (fun W' b h e => ⟨by rw [e, K0]; simp, h⟩)
          clear K0 hk
          go_enter Try.func19, Try.ntmps19
          go_wp2_with fail
          generalize (w.alloc (.cells #[.int .u64 (hi p : Nat), .int .u64 (lo p : Nat), .int .i64 n] 26)).alloc (.cells #[.int .u64 (hi q : Nat), .int .u64 (lo q : Nat), .int .i64 m] 26) = V at *
          obtain ⟨_, ⟨a0, a1, a2⟩, b0, b1, b2⟩ := id H
          go_wp2_with fail
          refine (R1.out _).mono ?_
          rintro e w1 ⟨rfl, hb⟩
          have H1 := H.step hb
          clear hb a0 a1 a2 b0 b1 b2
          obtain ⟨_, ⟨a0, a1, a2⟩, b0, b1, b2⟩ := id H1
          go_wp2_with fail
          refine (R2.out _).mono ?_
          rintro e w2 ⟨rfl, hb⟩
          have H2 := H1.step hb
          clear hb a0 a1 a2 b0 b1 b2
          obtain ⟨_, ⟨a0, a1, a2⟩, b0, b1, b2⟩ := id H2
          go_wp2
          all_goals go_ret
          all_goals refine F.out _ _ H2.1 ?_
          all_goals by_cases e : p = q ∧ n = m
          all_goals first
            | (rw [decide_eq_true e]; done)
            | (rw [decide_eq_true e]; rfl)
            | (rw [decide_eq_true e]; obtain ⟨e2, e3⟩ := e; have e4 := congrArg hi e2; have e5 := congrArg lo e2; simp [*]; done)
            | (obtain ⟨e2, e3⟩ := e; exfalso; have e4 := congrArg hi e2; have e5 := congrArg lo e2; omega)
            | (rw [decide_eq_false e]; done)
            | (rw [decide_eq_false e]; rfl)
            | (exfalso; apply e; exact ⟨eq_of_words (by omega) (by omega), by omega⟩)
        · have K := hide (show meetS k p n j q m = false by rw [K0]; exact decide_eq_false (fun e => hkj e.1))
          have E3 : (k == j) = false := by simpa using hkj
          clear K0 hkj
          by_cases hk1 : k = 1
          · subst hk1
            go_enter Try.func19, Try.ntmps19
            go_wp2_with fail
            generalize (w.alloc (.cells #[.int .u64 (hi p : Nat), .int .u64 (lo p : Nat), .int .i64 n] 26)).alloc (.cells #[.int .u64 (hi q : Nat), .int .u64 (lo q : Nat), .int .i64 m] 26) = V at *
            obtain ⟨_, ⟨a0, a1, a2⟩, b0, b1, b2⟩ := id H
            go_wp2_with fail
            refine (R1.out _).mono ?_
            rintro e w1 ⟨rfl, hb⟩
            have H1 := H.step hb
            clear hb a0 a1 a2 b0 b1 b2
            obtain ⟨_, ⟨a0, a1, a2⟩, b0, b1, b2⟩ := id H1
            go_wp2_with fail
            refine (R2.out _).mono ?_
            rintro e w2 ⟨rfl, hb⟩
            have H2 := H1.step hb
            clear hb a0 a1 a2 b0 b1 b2
            obtain ⟨_, ⟨a0, a1, a2⟩, b0, b1, b2⟩ := id H2
            go_wp2
            go_ret
            exact ⟨congrArg Ending.returned (bool_eq K.out.symm), H2.1⟩
          · have hj1 : j = 1 := hk.resolve_left hk1
            subst hj1
            have E1 : (k == 1) = false := by simpa using hk1
            clear hk
            go_enter Try.func19, Try.ntmps19
            go_wp2_with fail
            generalize (w.alloc (.cells #[.int .u64 (hi p : Nat), .int .u64 (lo p : Nat), .int .i64 n] 26)).alloc (.cells #[.int .u64 (hi q : Nat), .int .u64 (lo q : Nat), .int .i64 m] 26) = V at *
            obtain ⟨_, ⟨a0, a1, a2⟩, b0, b1, b2⟩ := id H
            go_wp2_with fail
            refine (R1.out _).mono ?_
            rintro e w1 ⟨rfl, hb⟩
            have H1 := H.step hb
            clear hb a0 a1 a2 b0 b1 b2
            obtain ⟨_, ⟨a0, a1, a2⟩, b0, b1, b2⟩ := id H1
            go_wp2_with fail
            refine (R2.out _).mono ?_
            rintro e w2 ⟨rfl, hb⟩
            have H2 := H1.step hb
            clear hb a0 a1 a2 b0 b1 b2
            obtain ⟨_, ⟨a0, a1, a2⟩, b0, b1, b2⟩ := id H2
            go_wp2
            go_ret
            exact ⟨congrArg Ending.returned (bool_eq K.out.symm), H2.1⟩
      · have K := hide (show meetS k p n j q m = meetsS p n q m by unfold meetS; rw [h1, h2, decide_eq_true (by omega)]; rfl)
        have MM := hide (fun W => rmeets_any hp hq n m W)
        have E1 : (k == 1) = false := by simp; omega
        have E2 : (j == 1) = false := by simp; omega
        clear hk h1 h2
        generalize meetsS p n q m = mm at *
        go_enter Try.func19, Try.ntmps19
        go_wp2_with fail
        generalize (w.alloc (.cells #[.int .u64 (hi p : Nat), .int .u64 (lo p : Nat), .int .i64 n] 26)).alloc (.cells #[.int .u64 (hi q : Nat), .int .u64 (lo q : Nat), .int .i64 m] 26) = V at *
        obtain ⟨_, ⟨a0, a1, a2⟩, b0, b1, b2⟩ := id H
        go_wp2_with fail
        refine (R1.out _).mono ?_
        rintro e w1 ⟨rfl, hb⟩
        have H1 := H.step hb
        clear hb a0 a1 a2 b0 b1 b2
        obtain ⟨_, ⟨a0, a1, a2⟩, b0, b1, b2⟩ := id H1
        go_wp2_with fail
        refine (R2.out _).mono ?_
        rintro e w2 ⟨rfl, hb⟩
        have H2 := H1.step hb
        clear hb a0 a1 a2 b0 b1 b2
        obtain ⟨_, ⟨a0, a1, a2⟩, b0, b1, b2⟩ := id H2
        go_wp2_with fail
        refine (MM.out _).mono ?_
        rintro e w3 ⟨rfl, hb⟩
        have H3 := H2.step hb
        clear hb a0 a1 a2 b0 b1 b2
        obtain ⟨_, ⟨a0, a1, a2⟩, b0, b1, b2⟩ := id H3
        go_wp2
        go_ret
        exact ⟨congrArg Ending.returned (bool_eq K.out.symm), H3.1⟩
end Go.Proofs.Ytgioifdmmneapaa
