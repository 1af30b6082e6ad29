/-
  Contracts of the document's own Right, Sound, Change, Compare, Meets of layer 8. Conditions: a word is a word of 64 bits, an int is an int of 64 bits (every value of the types is such).
-/
import Derived.Test.YtpldkgollhbolaaGreatRef1
import Derived.Test.YtpldkgollhbolaaGreatL0
import Derived.StillTailTactics
namespace Go.Proofs.YtpldkgollhbolaaGreat
open Go.RowKit Go.Joins

set_option maxRecDepth 100000 in
set_option maxHeartbeats 2000000 in
theorem rright_any (k : Int) {p : Nat} (hp : Fits p) (n : Int) (w : World) :
    Calls Tryz.prog 70 #[.int .i64 k, Pv p n] w (Gives (.bool (rightS k p n)) w) := by
  have F : Hid (∀ (w' : World) (b : Bool), Below w.heap.size w w' → b = rightS k p n → Gives (.bool (rightS k p n)) w (.returned (.bool b)) w') := fun w' b h e => ⟨by rw [e], h⟩
  have S := hide (fun W => rsound_any hp n W)
  cases hs : soundS p n with
  | false =>
    rw [hs] at S
    have K : Hid (∀ b, b = false → b = rightS k p n) := hide (fun b e => by rw [e]; unfold rightS; rw [hs]; rfl)
    clear hs
    go_enter Tryz.func70, Tryz.ntmps70
    go_wp2_with fail
    refine (S.out _).mono ?_
    rintro e w' ⟨rfl, hb⟩
    obtain ⟨hc, hf⟩ := bcell hb
    have hz : w.heap.size < w'.heap.size := by have := hb.size; simp at this; omega
    go_wp2
    all_goals go_ret
    all_goals refine F.out _ _ (((Below.refl _ _).alloc (Nat.le_refl _) _).trans (hb.mono (by simp))) (K.out _ ?_)
    all_goals rfl
  | true =>
    rw [hs] at S
    have K : Hid (∀ b, b = (if k = 1 then to4O p && decide (n = 128) else if k = 2 ∨ k = 3 then decide (n = 128) else if k = 4 then decide (0 < n ∧ n < 128) else false) → b = rightS k p n) := by
      intro b e; rw [e]; unfold rightS; rw [hs, Bool.true_and]
    clear hs
    by_cases h1 : k = 1
    · subst h1
      have hl := lo_lt p
      have e := hi_lo p
      by_cases hn : n = 128
      · subst hn
        by_cases hh : hi p = 0
        · by_cases h4 : lo p < 4294967296
          · have K2 : Hid (true = rightS 1 p 128) := hide (K.out _ (by rw [if_pos rfl, show to4O p = true from decide_eq_true (by omega)]; rfl))
            have h5 := hide (show (lo p : Int) < 4294967296 by omega)
            have h6 := hide (show (hi p : Int) = 0 by omega)
            clear K hl e hh h4
            go_enter Tryz.func70, Tryz.ntmps70
            go_wp2_with fail
            refine (S.out _).mono ?_
            rintro e w' ⟨rfl, hb⟩
            obtain ⟨hc, hf⟩ := bcell hb
            have hz : w.heap.size < w'.heap.size := by have := hb.size; simp at this; omega
            have h5 := h5.out
            have h6 := h6.out
            go_wp2
            all_goals go_ret
            all_goals exact F.out _ _ (((Below.refl _ _).alloc (Nat.le_refl _) _).trans (hb.mono (by simp))) K2.out
          · have K2 : Hid (false = rightS 1 p 128) := hide (K.out _ (by rw [if_pos rfl, show to4O p = false from decide_eq_false (by omega)]; rfl))
            have h5 := hide (show ¬ (lo p : Int) < 4294967296 by omega)
            have G5 := hide (decide_eq_false h5.out)
            have h6 := hide (show (hi p : Int) = 0 by omega)
            clear K hl e hh h4
            go_enter Tryz.func70, Tryz.ntmps70
            go_wp2_with fail
            refine (S.out _).mono ?_
            rintro e w' ⟨rfl, hb⟩
            obtain ⟨hc, hf⟩ := bcell hb
            have hz : w.heap.size < w'.heap.size := by have := hb.size; simp at this; omega
            have h5 := h5.out
            have h6 := h6.out
            go_wp2
            all_goals go_ret
            all_goals (refine F.out _ _ (((Below.refl _ _).alloc (Nat.le_refl _) _).trans (hb.mono (by simp))) ?_; first | (rw [G5.out]; exact K2.out) | exact K2.out)
        · have K2 : Hid (false = rightS 1 p 128) := hide (K.out _ (by rw [if_pos rfl, show to4O p = false from by unfold to4O; exact decide_eq_false (fun h => hh (hi_small (Nat.lt_trans h (by decide))))]; rfl))
          have h6 := hide (show ¬ (hi p : Int) = 0 by omega)
          have h5 := hide True.intro
          clear K hl e hh
          go_enter Tryz.func70, Tryz.ntmps70
          go_wp2_with fail
          refine (S.out _).mono ?_
          rintro e w' ⟨rfl, hb⟩
          obtain ⟨hc, hf⟩ := bcell hb
          have hz : w.heap.size < w'.heap.size := by have := hb.size; simp at this; omega
          have h5 := h5.out
          have h6 := h6.out
          go_wp2
          all_goals go_ret
          all_goals exact F.out _ _ (((Below.refl _ _).alloc (Nat.le_refl _) _).trans (hb.mono (by simp))) K2.out
      · have K2 : Hid (false = rightS 1 p n) := hide (K.out _ (by rw [if_pos rfl, decide_eq_false hn, Bool.and_false]))
        have h5 := hide True.intro
        have h6 := hide True.intro
        clear K hl e
        go_enter Tryz.func70, Tryz.ntmps70
        go_wp2_with fail
        refine (S.out _).mono ?_
        rintro e w' ⟨rfl, hb⟩
        obtain ⟨hc, hf⟩ := bcell hb
        have hz : w.heap.size < w'.heap.size := by have := hb.size; simp at this; omega
        have h5 := h5.out
        have h6 := h6.out
        go_wp2
        all_goals go_ret
        all_goals exact F.out _ _ (((Below.refl _ _).alloc (Nat.le_refl _) _).trans (hb.mono (by simp))) K2.out
    have e1 : (k == 1) = false := by simpa using h1
    by_cases h2 : k = 2
    · subst h2
      go_enter Tryz.func70, Tryz.ntmps70
      go_wp2_with fail
      refine (S.out _).mono ?_
      rintro e w' ⟨rfl, hb⟩
      obtain ⟨hc, hf⟩ := bcell hb
      have hz : w.heap.size < w'.heap.size := by have := hb.size; simp at this; omega
      go_wp2
      all_goals go_ret
      all_goals refine F.out _ _ (((Below.refl _ _).alloc (Nat.le_refl _) _).trans (hb.mono (by simp))) (K.out _ ?_)
      all_goals exact beq_dec _ _
    have e2 : (k == 2) = false := by simpa using h2
    by_cases h3 : k = 3
    · subst h3
      go_enter Tryz.func70, Tryz.ntmps70
      go_wp2_with fail
      refine (S.out _).mono ?_
      rintro e w' ⟨rfl, hb⟩
      obtain ⟨hc, hf⟩ := bcell hb
      have hz : w.heap.size < w'.heap.size := by have := hb.size; simp at this; omega
      go_wp2
      all_goals go_ret
      all_goals refine F.out _ _ (((Below.refl _ _).alloc (Nat.le_refl _) _).trans (hb.mono (by simp))) (K.out _ ?_)
      all_goals exact beq_dec _ _
    have e3 : (k == 3) = false := by simpa using h3
    by_cases h4 : k = 4
    · subst h4
      go_enter Tryz.func70, Tryz.ntmps70
      go_wp2_with fail
      refine (S.out _).mono ?_
      rintro e w' ⟨rfl, hb⟩
      obtain ⟨hc, hf⟩ := bcell hb
      have hz : w.heap.size < w'.heap.size := by have := hb.size; simp at this; omega
      go_wp2
      all_goals go_ret
      all_goals refine F.out _ _ (((Below.refl _ _).alloc (Nat.le_refl _) _).trans (hb.mono (by simp))) (K.out _ ?_)
      all_goals rw [if_neg (by decide), if_neg (by decide), if_pos (by trivial)]
      all_goals first | exact decide_eq_decide.2 (by omega) | exact (decide_eq_false (by omega)).symm
    · have e4 : (k == 4) = false := by simpa using h4
      go_enter Tryz.func70, Tryz.ntmps70
      go_wp2_with fail
      refine (S.out _).mono ?_
      rintro e w' ⟨rfl, hb⟩
      obtain ⟨hc, hf⟩ := bcell hb
      have hz : w.heap.size < w'.heap.size := by have := hb.size; simp at this; omega
      go_wp2
      all_goals go_ret
      all_goals refine F.out _ _ (((Below.refl _ _).alloc (Nat.le_refl _) _).trans (hb.mono (by simp))) (K.out _ ?_)
      all_goals rw [if_neg h1, if_neg (by simp [h2, h3]), if_neg h4]

set_option maxRecDepth 100000 in
set_option maxHeartbeats 2000000 in
theorem rlease_any (x : Ls) (hx : Fits x.p) (w : World) :
    Calls Tryz.prog 69 #[Lv x] w (Gives (.bool (leaseS x)) w) := by
  have F : Hid (∀ (w' : World) (b : Bool), Below w.heap.size w w' → b = leaseS x → Gives (.bool (leaseS x)) w (.returned (.bool b)) w') := fun w' b h e => ⟨by rw [e], h⟩
  have S := hide (fun W => rright_any x.kind hx x.n W)
  have D : Hid (leaseS x = (rightS x.kind x.p x.n && (decide (0 ≤ x.un ∧ x.un ≤ 1099511627776) && stateS x))) := hide rfl
  have E : Hid (stateS x = (if x.st = 1 then decide (x.cl.size ≠ 0 ∧ x.cl.size ≤ 130 ∧ (x.kind ≠ 1 ∨ x.ia = 0)) else if x.st = 2 then decide (x.cl.size = 0 ∧ x.ia = 0 ∧ x.kind ≠ 4) else false)) := hide rfl
  generalize hb0 : rightS x.kind x.p x.n = r at *
  generalize leaseS x = res at *
  generalize stateS x = stt at *
  obtain ⟨kind, p, n, st, cl, ia, un⟩ := x
  simp only at *
  clear hb0 hx
  cases r with
  | false =>
    have K := hide (show res = false by rw [D.out]; rfl)
    clear D E
    go_enter Tryz.func69, Tryz.ntmps69
    go_wp2_with fail
    refine (S.out _).mono ?_
    rintro e w' ⟨rfl, hb⟩
    obtain ⟨hc, hf⟩ := bcell hb
    have hz : w.heap.size < w'.heap.size := by have := hb.size; simp at this; omega
    go_wp2
    go_ret
    exact F.out _ _ (((Below.refl _ _).alloc (Nat.le_refl _) _).trans (hb.mono (by simp))) (by first | exact K.out.symm | (rw [K.out]; simp [*]))
  | true =>
    by_cases n1 : un < 0
    · have K := hide (show res = false by rw [D.out, decide_eq_false (by omega)]; rfl)
      clear D E
      go_enter Tryz.func69, Tryz.ntmps69
      go_wp2_with fail
      refine (S.out _).mono ?_
      rintro e w' ⟨rfl, hb⟩
      obtain ⟨hc, hf⟩ := bcell hb
      have hz : w.heap.size < w'.heap.size := by have := hb.size; simp at this; omega
      go_wp2
      go_ret
      exact F.out _ _ (((Below.refl _ _).alloc (Nat.le_refl _) _).trans (hb.mono (by simp))) (by first | exact K.out.symm | (rw [K.out]; simp [*]))
    by_cases n2 : 1099511627776 < un
    · have K := hide (show res = false by rw [D.out, decide_eq_false (by omega)]; rfl)
      clear D E
      go_enter Tryz.func69, Tryz.ntmps69
      go_wp2_with fail
      refine (S.out _).mono ?_
      rintro e w' ⟨rfl, hb⟩
      obtain ⟨hc, hf⟩ := bcell hb
      have hz : w.heap.size < w'.heap.size := by have := hb.size; simp at this; omega
      go_wp2
      go_ret
      exact F.out _ _ (((Below.refl _ _).alloc (Nat.le_refl _) _).trans (hb.mono (by simp))) (by first | exact K.out.symm | (rw [K.out]; simp [*]))
    have D2 : Hid (res = stt) := hide (by rw [D.out, decide_eq_true (by omega)]; rfl)
    clear D
    by_cases h1 : st = 1
    · subst h1
      have G : Hid (∀ b : Bool, decide (cl.size ≠ 0 ∧ cl.size ≤ 130 ∧ (kind ≠ 1 ∨ ia = 0)) = b → res = b) := hide (fun b e => by rw [← e, D2.out, E.out]; rfl)
      clear E D2
      by_cases hcl : cl.toList = []
      · have z1 := toList_zero.1 hcl
        have z2 : (cl.size : Int) = 0 := by omega
        have K := hide (G.out false (decide_eq_false (by omega)))
        clear G z1
        go_enter Tryz.func69, Tryz.ntmps69
        go_wp2_with fail
        refine (S.out _).mono ?_
        rintro e w' ⟨rfl, hb⟩
        obtain ⟨hc, hf⟩ := bcell hb
        have hz : w.heap.size < w'.heap.size := by have := hb.size; simp at this; omega
        go_wp2
        go_ret
        exact F.out _ _ (((Below.refl _ _).alloc (Nat.le_refl _) _).trans (hb.mono (by simp))) (by first | exact K.out.symm | (rw [K.out]; simp [*]))
      have hcz : cl.size ≠ 0 := mt toList_zero.2 hcl
      have hcz2 : 1 ≤ (cl.size : Int) := by omega
      by_cases h130 : (cl.size : Int) ≤ 130
      · by_cases hk : kind = 1
        · by_cases hi0 : ia = 0
          · have K := hide (G.out true (decide_eq_true (by omega)))
            clear G hcz
            subst hk hi0
            go_enter Tryz.func69, Tryz.ntmps69
            go_wp2_with fail
            refine (S.out _).mono ?_
            rintro e w' ⟨rfl, hb⟩
            obtain ⟨hc, hf⟩ := bcell hb
            have hz : w.heap.size < w'.heap.size := by have := hb.size; simp at this; omega
            go_wp2
            go_ret
            exact F.out _ _ (((Below.refl _ _).alloc (Nat.le_refl _) _).trans (hb.mono (by simp))) (by first | exact K.out.symm | (rw [K.out]; simp [*]))
          · have K := hide (G.out false (decide_eq_false (by omega)))
            clear G hcz
            have hi1 : ¬ (ia : Int) = 0 := by omega
            subst hk
            go_enter Tryz.func69, Tryz.ntmps69
            go_wp2_with fail
            refine (S.out _).mono ?_
            rintro e w' ⟨rfl, hb⟩
            obtain ⟨hc, hf⟩ := bcell hb
            have hz : w.heap.size < w'.heap.size := by have := hb.size; simp at this; omega
            go_wp2
            go_ret
            exact F.out _ _ (((Below.refl _ _).alloc (Nat.le_refl _) _).trans (hb.mono (by simp))) (by first | exact K.out.symm | (rw [K.out]; simp [*]))
        · have K := hide (G.out true (decide_eq_true (by omega)))
          clear G hcz
          go_enter Tryz.func69, Tryz.ntmps69
          go_wp2_with fail
          refine (S.out _).mono ?_
          rintro e w' ⟨rfl, hb⟩
          obtain ⟨hc, hf⟩ := bcell hb
          have hz : w.heap.size < w'.heap.size := by have := hb.size; simp at this; omega
          go_wp2
          go_ret
          exact F.out _ _ (((Below.refl _ _).alloc (Nat.le_refl _) _).trans (hb.mono (by simp))) (by first | exact K.out.symm | (rw [K.out]; simp [*]))
      · have K := hide (G.out false (decide_eq_false (by omega)))
        clear G hcz
        go_enter Tryz.func69, Tryz.ntmps69
        go_wp2_with fail
        refine (S.out _).mono ?_
        rintro e w' ⟨rfl, hb⟩
        obtain ⟨hc, hf⟩ := bcell hb
        have hz : w.heap.size < w'.heap.size := by have := hb.size; simp at this; omega
        go_wp2
        go_ret
        exact F.out _ _ (((Below.refl _ _).alloc (Nat.le_refl _) _).trans (hb.mono (by simp))) (by first | exact K.out.symm | (rw [K.out]; simp [*]))
    by_cases h2 : st = 2
    · subst h2
      have G : Hid (∀ b : Bool, decide (cl.size = 0 ∧ ia = 0 ∧ kind ≠ 4) = b → res = b) := hide (fun b e => by rw [← e, D2.out, E.out]; rfl)
      clear E D2
      by_cases hcl : cl.toList = []
      · have hcz : cl.size = 0 := toList_zero.1 hcl
        have K1 := hide (fun e => G.out false (decide_eq_false e))
        have K2 := hide (fun e => G.out true (decide_eq_true e))
        clear G
        by_cases hi0 : ia = 0
        · by_cases hk : kind = 4
          · have K := hide (K1.out (by omega))
            clear K1 K2 hcz
            subst hk hi0
            go_enter Tryz.func69, Tryz.ntmps69
            go_wp2_with fail
            refine (S.out _).mono ?_
            rintro e w' ⟨rfl, hb⟩
            obtain ⟨hc, hf⟩ := bcell hb
            have hz : w.heap.size < w'.heap.size := by have := hb.size; simp at this; omega
            go_wp2
            go_ret
            exact F.out _ _ (((Below.refl _ _).alloc (Nat.le_refl _) _).trans (hb.mono (by simp))) (by first | exact K.out.symm | (rw [K.out]; simp [*]))
          · have K := hide (K2.out (by omega))
            clear K1 K2 hcz
            subst hi0
            go_enter Tryz.func69, Tryz.ntmps69
            go_wp2_with fail
            refine (S.out _).mono ?_
            rintro e w' ⟨rfl, hb⟩
            obtain ⟨hc, hf⟩ := bcell hb
            have hz : w.heap.size < w'.heap.size := by have := hb.size; simp at this; omega
            go_wp2
            go_ret
            exact F.out _ _ (((Below.refl _ _).alloc (Nat.le_refl _) _).trans (hb.mono (by simp))) (by first | exact K.out.symm | (rw [K.out]; simp [*]))
        · have K := hide (K1.out (by omega))
          have hi1 : ¬ (ia : Int) = 0 := by omega
          clear K1 K2 hcz
          by_cases hk : kind = 4
          · subst hk
            go_enter Tryz.func69, Tryz.ntmps69
            go_wp2_with fail
            refine (S.out _).mono ?_
            rintro e w' ⟨rfl, hb⟩
            obtain ⟨hc, hf⟩ := bcell hb
            have hz : w.heap.size < w'.heap.size := by have := hb.size; simp at this; omega
            go_wp2
            go_ret
            exact F.out _ _ (((Below.refl _ _).alloc (Nat.le_refl _) _).trans (hb.mono (by simp))) (by first | exact K.out.symm | (rw [K.out]; simp [*]))
          ·
            go_enter Tryz.func69, Tryz.ntmps69
            go_wp2_with fail
            refine (S.out _).mono ?_
            rintro e w' ⟨rfl, hb⟩
            obtain ⟨hc, hf⟩ := bcell hb
            have hz : w.heap.size < w'.heap.size := by have := hb.size; simp at this; omega
            go_wp2
            go_ret
            exact F.out _ _ (((Below.refl _ _).alloc (Nat.le_refl _) _).trans (hb.mono (by simp))) (by first | exact K.out.symm | (rw [K.out]; simp [*]))
      · have hcz : cl.size ≠ 0 := mt toList_zero.2 hcl
        have K := hide (G.out false (decide_eq_false (by omega)))
        clear G hcz
        by_cases hk : kind = 4
        · subst hk
          go_enter Tryz.func69, Tryz.ntmps69
          go_wp2_with fail
          refine (S.out _).mono ?_
          rintro e w' ⟨rfl, hb⟩
          obtain ⟨hc, hf⟩ := bcell hb
          have hz : w.heap.size < w'.heap.size := by have := hb.size; simp at this; omega
          go_wp2
          go_ret
          exact F.out _ _ (((Below.refl _ _).alloc (Nat.le_refl _) _).trans (hb.mono (by simp))) (by first | exact K.out.symm | (rw [K.out]; simp [*]))
        ·
          go_enter Tryz.func69, Tryz.ntmps69
          go_wp2_with fail
          refine (S.out _).mono ?_
          rintro e w' ⟨rfl, hb⟩
          obtain ⟨hc, hf⟩ := bcell hb
          have hz : w.heap.size < w'.heap.size := by have := hb.size; simp at this; omega
          go_wp2
          go_ret
          exact F.out _ _ (((Below.refl _ _).alloc (Nat.le_refl _) _).trans (hb.mono (by simp))) (by first | exact K.out.symm | (rw [K.out]; simp [*]))
    have K := hide (show res = false by rw [D2.out, E.out, if_neg h1, if_neg h2])
    clear E D2
    go_enter Tryz.func69, Tryz.ntmps69
    go_wp2_with fail
    refine (S.out _).mono ?_
    rintro e w' ⟨rfl, hb⟩
    obtain ⟨hc, hf⟩ := bcell hb
    have hz : w.heap.size < w'.heap.size := by have := hb.size; simp at this; omega
    go_wp2
    go_ret
    exact F.out _ _ (((Below.refl _ _).alloc (Nat.le_refl _) _).trans (hb.mono (by simp))) (by first | exact K.out.symm | (rw [K.out]; simp [*]))

set_option maxRecDepth 100000 in
set_option maxHeartbeats 2000000 in
theorem rchangeC_any (c : Ch) (hc : Fits c.l.p) (w : World) :
    Calls Tryz.prog 51 #[Cv c] w (Gives (.bool (changeS c)) w) := by
  have F : Hid (∀ (w' : World) (b : Bool), Below w.heap.size w w' → b = changeS c → Gives (.bool (changeS c)) w (.returned (.bool b)) w') := fun w' b h e => ⟨by rw [e], h⟩
  have R := hide (fun W => rright_any c.l.kind hc c.l.n W)
  have S := hide (fun W => rlease_any c.l hc W)
  have D : Hid (changeS c = if c.gone = true then rightS c.l.kind c.l.p c.l.n && bareS c.l else leaseS c.l) := hide rfl
  have E : Hid (bareS c.l = decide (c.l.st = 0 ∧ c.l.cl.size = 0 ∧ c.l.ia = 0 ∧ c.l.un = 0)) := hide rfl
  generalize rightS c.l.kind c.l.p c.l.n = r at *
  generalize bareS c.l = bare at *
  generalize leaseS c.l = ls at *
  generalize changeS c = res at *
  obtain ⟨gone, kind, p, n, st, cl, ia, un⟩ := c
  simp only at *
  clear hc
  cases gone with
  | false =>
    have K := hide (show res = ls by rw [D.out]; rfl)
    clear D E R
    go_enter Tryz.func51, Tryz.ntmps51
    go_wp2_with fail
    refine (S.out _).mono ?_
    rintro e w' ⟨rfl, hb⟩
    obtain ⟨hc, hf⟩ := bcell hb
    have hz : w.heap.size < w'.heap.size := by have := hb.size; simp at this; omega
    go_wp2
    go_ret
    exact F.out _ _ ((((Below.refl _ _).alloc (Nat.le_refl _) _).alloc (by simp) _).trans (hb.mono (by simp; omega))) (by first | exact K.out.symm | (rw [K.out]; simp [*]))
  | true =>
    have D2 := hide (show res = (r && bare) by rw [D.out]; rfl)
    clear D S
    cases r with
    | false =>
      have K := hide (show res = false by rw [D2.out]; rfl)
      clear D2 E
      go_enter Tryz.func51, Tryz.ntmps51
      go_wp2_with fail
      refine (R.out _).mono ?_
      rintro e w' ⟨rfl, hb⟩
      obtain ⟨hc, hf⟩ := bcell hb
      have hz : w.heap.size < w'.heap.size := by have := hb.size; simp at this; omega
      go_wp2
      go_ret
      exact F.out _ _ ((((Below.refl _ _).alloc (Nat.le_refl _) _).alloc (by simp) _).trans (hb.mono (by simp; omega))) (by first | exact K.out.symm | (rw [K.out]; simp [*]))
    | true =>
      have G : Hid (∀ b : Bool, decide (st = 0 ∧ cl.size = 0 ∧ ia = 0 ∧ un = 0) = b → res = b) := hide (fun b e => by rw [← e, D2.out, E.out]; rfl)
      clear D2 E
      by_cases h1 : st = 0
      · by_cases h2 : cl.toList = []
        · have hcz : cl.size = 0 := toList_zero.1 h2
          by_cases h3 : ia = 0
          · by_cases h4 : un = 0
            · have K := hide (G.out true (decide_eq_true (by omega)))
              clear G hcz
              subst h1 h3 h4
              go_enter Tryz.func51, Tryz.ntmps51
              go_wp2_with fail
              refine (R.out _).mono ?_
              rintro e w' ⟨rfl, hb⟩
              obtain ⟨hc, hf⟩ := bcell hb
              have hz : w.heap.size < w'.heap.size := by have := hb.size; simp at this; omega
              go_wp2
              go_ret
              exact F.out _ _ ((((Below.refl _ _).alloc (Nat.le_refl _) _).alloc (by simp) _).trans (hb.mono (by simp; omega))) (by first | exact K.out.symm | (rw [K.out]; simp [*]))
            · have K := hide (G.out false (decide_eq_false (by omega)))
              clear G hcz
              subst h1 h3
              go_enter Tryz.func51, Tryz.ntmps51
              go_wp2_with fail
              refine (R.out _).mono ?_
              rintro e w' ⟨rfl, hb⟩
              obtain ⟨hc, hf⟩ := bcell hb
              have hz : w.heap.size < w'.heap.size := by have := hb.size; simp at this; omega
              go_wp2
              go_ret
              exact F.out _ _ ((((Below.refl _ _).alloc (Nat.le_refl _) _).alloc (by simp) _).trans (hb.mono (by simp; omega))) (by first | exact K.out.symm | (rw [K.out]; simp [*]))
          · have K := hide (G.out false (decide_eq_false (by omega)))
            have h5 : ¬ (ia : Int) = 0 := by omega
            clear G hcz
            subst h1
            go_enter Tryz.func51, Tryz.ntmps51
            go_wp2_with fail
            refine (R.out _).mono ?_
            rintro e w' ⟨rfl, hb⟩
            obtain ⟨hc, hf⟩ := bcell hb
            have hz : w.heap.size < w'.heap.size := by have := hb.size; simp at this; omega
            go_wp2
            go_ret
            exact F.out _ _ ((((Below.refl _ _).alloc (Nat.le_refl _) _).alloc (by simp) _).trans (hb.mono (by simp; omega))) (by first | exact K.out.symm | (rw [K.out]; simp [*]))
        · have hcz : cl.size ≠ 0 := mt toList_zero.2 h2
          have K := hide (G.out false (decide_eq_false (by omega)))
          clear G hcz
          subst h1
          go_enter Tryz.func51, Tryz.ntmps51
          go_wp2_with fail
          refine (R.out _).mono ?_
          rintro e w' ⟨rfl, hb⟩
          obtain ⟨hc, hf⟩ := bcell hb
          have hz : w.heap.size < w'.heap.size := by have := hb.size; simp at this; omega
          go_wp2
          go_ret
          exact F.out _ _ ((((Below.refl _ _).alloc (Nat.le_refl _) _).alloc (by simp) _).trans (hb.mono (by simp; omega))) (by first | exact K.out.symm | (rw [K.out]; simp [*]))
      · have K := hide (G.out false (decide_eq_false (by omega)))
        clear G
        go_enter Tryz.func51, Tryz.ntmps51
        go_wp2_with fail
        refine (R.out _).mono ?_
        rintro e w' ⟨rfl, hb⟩
        obtain ⟨hc, hf⟩ := bcell hb
        have hz : w.heap.size < w'.heap.size := by have := hb.size; simp at this; omega
        go_wp2
        go_ret
        exact F.out _ _ ((((Below.refl _ _).alloc (Nat.le_refl _) _).alloc (by simp) _).trans (hb.mono (by simp; omega))) (by first | exact K.out.symm | (rw [K.out]; simp [*]))
end Go.Proofs.YtpldkgollhbolaaGreat
namespace Go.Proofs.YtpldkgollhbolaaGreat
open Go.RowKit Go.Joins

set_option maxRecDepth 100000 in
set_option maxHeartbeats 2000000 in
theorem rcompare3_any (k : Int) {p : Nat} (hp : Fits p) (n : Int) (j : Int) {q : Nat} (hq : Fits q) (m : Int) (w : World) :
    Calls Tryz.prog 73 #[.int .i64 k, Pv p n, .int .i64 j, Pv q m] w (Gives (.int .i64 (compareS k p n j q m)) w) := by
  have H := pb_new w p n q m 27
  have C := hide (fun W => rcmp_any hp hq W)
  rcases Int.lt_trichotomy k j with h | h | h
  · have R := hide (show compareS k p n j q m = -1 by unfold compareS; rw [cmpI_lt h]; rfl)
    have E1 : (k != j) = true := by simp; omega
    go_enter Tryz.func73, Tryz.ntmps73
    go_wp2_with fail
    generalize (w.alloc (.cells #[.int .u64 (hi p : Nat), .int .u64 (lo p : Nat), .int .i64 n] 27)).alloc (.cells #[.int .u64 (hi q : Nat), .int .u64 (lo q : Nat), .int .i64 m] 27) = V at *
    obtain ⟨_, ⟨a0, a1, a2⟩, b0, b1, b2⟩ := id H
    go_wp2
    go_ret
    exact ⟨congrArg Ending.returned (i64_eq R.out.symm), H.1⟩
  · subst h
    have E1 : (k != k) = false := by simp
    rcases Nat.lt_trichotomy p q with g | g | g
    · have R := hide (show compareS k p n k q m = -1 by unfold compareS; rw [cmpI_eq, cmpS_lt g]; rfl)
      rw [cmpS_lt g] at C
      clear g
      go_enter Tryz.func73, Tryz.ntmps73
      go_wp2_with fail
      generalize (w.alloc (.cells #[.int .u64 (hi p : Nat), .int .u64 (lo p : Nat), .int .i64 n] 27)).alloc (.cells #[.int .u64 (hi q : Nat), .int .u64 (lo q : Nat), .int .i64 m] 27) = V at *
      obtain ⟨_, ⟨a0, a1, a2⟩, b0, b1, b2⟩ := id H
      go_wp2_with fail
      refine (C.out _).mono ?_
      rintro e w1 ⟨rfl, hb1⟩
      have H1 := H.step hb1
      clear a0 a1 a2 b0 b1 b2
      obtain ⟨_, ⟨a0, a1, a2⟩, b0, b1, b2⟩ := id H1
      go_wp2
      go_ret
      exact ⟨congrArg Ending.returned (i64_eq R.out.symm), H1.1⟩
    · rw [cmpS_eq g] at C
      rcases Int.lt_trichotomy n m with i | i | i
      · have R := hide (show compareS k p n k q m = -1 by unfold compareS; rw [cmpI_eq, cmpS_eq g, cmpI_lt i]; rfl)
        have E2 : (n == m) = false := by simp; omega
        clear g
        go_enter Tryz.func73, Tryz.ntmps73
        go_wp2_with fail
        generalize (w.alloc (.cells #[.int .u64 (hi p : Nat), .int .u64 (lo p : Nat), .int .i64 n] 27)).alloc (.cells #[.int .u64 (hi q : Nat), .int .u64 (lo q : Nat), .int .i64 m] 27) = V at *
        obtain ⟨_, ⟨a0, a1, a2⟩, b0, b1, b2⟩ := id H
        go_wp2_with fail
        refine (C.out _).mono ?_
        rintro e w1 ⟨rfl, hb1⟩
        have H1 := H.step hb1
        clear a0 a1 a2 b0 b1 b2
        obtain ⟨_, ⟨a0, a1, a2⟩, b0, b1, b2⟩ := id H1
        go_wp2
        go_ret
        exact ⟨congrArg Ending.returned (i64_eq R.out.symm), H1.1⟩
      · subst i
        have R := hide (show compareS k p n k q n = 0 by unfold compareS; rw [cmpI_eq, cmpS_eq g, cmpI_eq]; rfl)
        clear g
        go_enter Tryz.func73, Tryz.ntmps73
        go_wp2_with fail
        generalize (w.alloc (.cells #[.int .u64 (hi p : Nat), .int .u64 (lo p : Nat), .int .i64 n] 27)).alloc (.cells #[.int .u64 (hi q : Nat), .int .u64 (lo q : Nat), .int .i64 n] 27) = V at *
        obtain ⟨_, ⟨a0, a1, a2⟩, b0, b1, b2⟩ := id H
        go_wp2_with fail
        refine (C.out _).mono ?_
        rintro e w1 ⟨rfl, hb1⟩
        have H1 := H.step hb1
        clear a0 a1 a2 b0 b1 b2
        obtain ⟨_, ⟨a0, a1, a2⟩, b0, b1, b2⟩ := id H1
        go_wp2
        go_ret
        exact ⟨congrArg Ending.returned (i64_eq R.out.symm), H1.1⟩
      · have R := hide (show compareS k p n k q m = 1 by unfold compareS; rw [cmpI_eq, cmpS_eq g, cmpI_gt i]; rfl)
        have E2 : (n == m) = false := by simp; omega
        have E3 : ¬ n < m := by omega
        clear g
        go_enter Tryz.func73, Tryz.ntmps73
        go_wp2_with fail
        generalize (w.alloc (.cells #[.int .u64 (hi p : Nat), .int .u64 (lo p : Nat), .int .i64 n] 27)).alloc (.cells #[.int .u64 (hi q : Nat), .int .u64 (lo q : Nat), .int .i64 m] 27) = V at *
        obtain ⟨_, ⟨a0, a1, a2⟩, b0, b1, b2⟩ := id H
        go_wp2_with fail
        refine (C.out _).mono ?_
        rintro e w1 ⟨rfl, hb1⟩
        have H1 := H.step hb1
        clear a0 a1 a2 b0 b1 b2
        obtain ⟨_, ⟨a0, a1, a2⟩, b0, b1, b2⟩ := id H1
        go_wp2
        go_ret
        exact ⟨congrArg Ending.returned (i64_eq R.out.symm), H1.1⟩
    · have R := hide (show compareS k p n k q m = 1 by unfold compareS; rw [cmpI_eq, cmpS_gt g]; rfl)
      rw [cmpS_gt g] at C
      clear g
      go_enter Tryz.func73, Tryz.ntmps73
      go_wp2_with fail
      generalize (w.alloc (.cells #[.int .u64 (hi p : Nat), .int .u64 (lo p : Nat), .int .i64 n] 27)).alloc (.cells #[.int .u64 (hi q : Nat), .int .u64 (lo q : Nat), .int .i64 m] 27) = V at *
      obtain ⟨_, ⟨a0, a1, a2⟩, b0, b1, b2⟩ := id H
      go_wp2_with fail
      refine (C.out _).mono ?_
      rintro e w1 ⟨rfl, hb1⟩
      have H1 := H.step hb1
      clear a0 a1 a2 b0 b1 b2
      obtain ⟨_, ⟨a0, a1, a2⟩, b0, b1, b2⟩ := id H1
      go_wp2
      go_ret
      exact ⟨congrArg Ending.returned (i64_eq R.out.symm), H1.1⟩
  · have R := hide (show compareS k p n j q m = 1 by unfold compareS; rw [cmpI_gt h]; rfl)
    have E1 : (k != j) = true := by simp; omega
    have E2 : ¬ k < j := by omega
    go_enter Tryz.func73, Tryz.ntmps73
    go_wp2_with fail
    generalize (w.alloc (.cells #[.int .u64 (hi p : Nat), .int .u64 (lo p : Nat), .int .i64 n] 27)).alloc (.cells #[.int .u64 (hi q : Nat), .int .u64 (lo q : Nat), .int .i64 m] 27) = V at *
    obtain ⟨_, ⟨a0, a1, a2⟩, b0, b1, b2⟩ := id H
    go_wp2
    go_ret
    exact ⟨congrArg Ending.returned (i64_eq R.out.symm), H.1⟩

set_option maxRecDepth 100000 in
set_option maxHeartbeats 4000000 in
theorem rmeet_any (k : Int) {p : Nat} (hp : Fits p) (n : Int) (j : Int) {q : Nat} (hq : Fits q) (m : Int) (w : World) :
    Calls Tryz.prog 53 #[.int .i64 k, Pv p n, .int .i64 j, Pv q m] w (Gives (.bool (meetS k p n j q m)) w) := by
  have R1 := hide (fun W => rright_any k hp n W)
  have R2 := hide (fun W => rright_any j hq m W)
  have H := pb_new w p n q m 27
  cases h1 : rightS k p n with
  | false =>
    have K := hide (meet_right (k := k) (p := p) (n := n) (j := j) (q := q) (m := m) (Or.inl h1))
    rw [h1] at R1
    clear h1
    go_enter Tryz.func53, Tryz.ntmps53
    go_wp2_with fail
    generalize (w.alloc (.cells #[.int .u64 (hi p : Nat), .int .u64 (lo p : Nat), .int .i64 n] 27)).alloc (.cells #[.int .u64 (hi q : Nat), .int .u64 (lo q : Nat), .int .i64 m] 27) = V at *
    obtain ⟨_, ⟨a0, a1, a2⟩, b0, b1, b2⟩ := id H
    go_wp2_with fail
    refine (R1.out _).mono ?_
    rintro e w1 ⟨rfl, hb⟩
    have H1 := H.step hb
    clear hb a0 a1 a2 b0 b1 b2
    obtain ⟨_, ⟨a0, a1, a2⟩, b0, b1, b2⟩ := id H1
    go_wp2
    go_ret
    exact ⟨congrArg Ending.returned (bool_eq K.out.symm), H1.1⟩
  | true =>
    cases h2 : rightS j q m with
    | false =>
      have K := hide (meet_right (k := k) (p := p) (n := n) (j := j) (q := q) (m := m) (Or.inr h2))
      rw [h1] at R1
      rw [h2] at R2
      clear h1 h2
      go_enter Tryz.func53, Tryz.ntmps53
      go_wp2_with fail
      generalize (w.alloc (.cells #[.int .u64 (hi p : Nat), .int .u64 (lo p : Nat), .int .i64 n] 27)).alloc (.cells #[.int .u64 (hi q : Nat), .int .u64 (lo q : Nat), .int .i64 m] 27) = V at *
      obtain ⟨_, ⟨a0, a1, a2⟩, b0, b1, b2⟩ := id H
      go_wp2_with fail
      refine (R1.out _).mono ?_
      rintro e w1 ⟨rfl, hb⟩
      have H1 := H.step hb
      clear hb a0 a1 a2 b0 b1 b2
      obtain ⟨_, ⟨a0, a1, a2⟩, b0, b1, b2⟩ := id H1
      go_wp2_with fail
      refine (R2.out _).mono ?_
      rintro e w2 ⟨rfl, hb⟩
      have H2 := H1.step hb
      clear hb a0 a1 a2 b0 b1 b2
      obtain ⟨_, ⟨a0, a1, a2⟩, b0, b1, b2⟩ := id H2
      go_wp2
      go_ret
      exact ⟨congrArg Ending.returned (bool_eq K.out.symm), H2.1⟩
    | true =>
      rw [h1] at R1
      rw [h2] at R2
      by_cases hk : k = 1 ∨ j = 1
      · have K0 := meet_v4 h1 h2 hk
        clear h1 h2
        by_cases hkj : k = j
        · subst hkj
          have hk1 : k = 1 := by omega
          subst hk1
          have F : Hid (∀ (W' : World) (b : Bool), Below w.heap.size w W' → b = decide (p = q ∧ n = m) → Gives (.bool (meetS 1 p n 1 q m)) w (.returned (.bool b)) W') := hide (fun W' b h e => ⟨by rw [e, K0]; simp, h⟩)
          clear K0 hk
          go_enter Tryz.func53, Tryz.ntmps53
          go_wp2_with fail
          generalize (w.alloc (.cells #[.int .u64 (hi p : Nat), .int .u64 (lo p : Nat), .int .i64 n] 27)).alloc (.cells #[.int .u64 (hi q : Nat), .int .u64 (lo q : Nat), .int .i64 m] 27) = V at *
          obtain ⟨_, ⟨a0, a1, a2⟩, b0, b1, b2⟩ := id H
          go_wp2_with fail
          refine (R1.out _).mono ?_
          rintro e w1 ⟨rfl, hb⟩
          have H1 := H.step hb
          clear hb a0 a1 a2 b0 b1 b2
          obtain ⟨_, ⟨a0, a1, a2⟩, b0, b1, b2⟩ := id H1
          go_wp2_with fail
          refine (R2.out _).mono ?_
          rintro e w2 ⟨rfl, hb⟩
          have H2 := H1.step hb
          clear hb a0 a1 a2 b0 b1 b2
          obtain ⟨_, ⟨a0, a1, a2⟩, b0, b1, b2⟩ := id H2
          go_wp2
          all_goals go_ret
          all_goals refine F.out _ _ H2.1 ?_
          all_goals by_cases e : p = q ∧ n = m
          all_goals first
            | (rw [decide_eq_true e]; done)
            | (rw [decide_eq_true e]; rfl)
            | (rw [decide_eq_true e]; obtain ⟨e2, e3⟩ := e; have e4 := congrArg hi e2; have e5 := congrArg lo e2; simp [*]; done)
            | (obtain ⟨e2, e3⟩ := e; exfalso; have e4 := congrArg hi e2; have e5 := congrArg lo e2; omega)
            | (rw [decide_eq_false e]; done)
            | (rw [decide_eq_false e]; rfl)
            | (exfalso; apply e; exact ⟨eq_of_words (by omega) (by omega), by omega⟩)
        · have K := hide (show meetS k p n j q m = false by rw [K0]; exact decide_eq_false (fun e => hkj e.1))
          have E3 : (k == j) = false := by simpa using hkj
          clear K0 hkj
          by_cases hk1 : k = 1
          · subst hk1
            go_enter Tryz.func53, Tryz.ntmps53
            go_wp2_with fail
            generalize (w.alloc (.cells #[.int .u64 (hi p : Nat), .int .u64 (lo p : Nat), .int .i64 n] 27)).alloc (.cells #[.int .u64 (hi q : Nat), .int .u64 (lo q : Nat), .int .i64 m] 27) = V at *
            obtain ⟨_, ⟨a0, a1, a2⟩, b0, b1, b2⟩ := id H
            go_wp2_with fail
            refine (R1.out _).mono ?_
            rintro e w1 ⟨rfl, hb⟩
            have H1 := H.step hb
            clear hb a0 a1 a2 b0 b1 b2
            obtain ⟨_, ⟨a0, a1, a2⟩, b0, b1, b2⟩ := id H1
            go_wp2_with fail
            refine (R2.out _).mono ?_
            rintro e w2 ⟨rfl, hb⟩
            have H2 := H1.step hb
            clear hb a0 a1 a2 b0 b1 b2
            obtain ⟨_, ⟨a0, a1, a2⟩, b0, b1, b2⟩ := id H2
            go_wp2
            go_ret
            exact ⟨congrArg Ending.returned (bool_eq K.out.symm), H2.1⟩
          · have hj1 : j = 1 := hk.resolve_left hk1
            subst hj1
            have E1 : (k == 1) = false := by simpa using hk1
            clear hk
            go_enter Tryz.func53, Tryz.ntmps53
            go_wp2_with fail
            generalize (w.alloc (.cells #[.int .u64 (hi p : Nat), .int .u64 (lo p : Nat), .int .i64 n] 27)).alloc (.cells #[.int .u64 (hi q : Nat), .int .u64 (lo q : Nat), .int .i64 m] 27) = V at *
            obtain ⟨_, ⟨a0, a1, a2⟩, b0, b1, b2⟩ := id H
            go_wp2_with fail
            refine (R1.out _).mono ?_
            rintro e w1 ⟨rfl, hb⟩
            have H1 := H.step hb
            clear hb a0 a1 a2 b0 b1 b2
            obtain ⟨_, ⟨a0, a1, a2⟩, b0, b1, b2⟩ := id H1
            go_wp2_with fail
            refine (R2.out _).mono ?_
            rintro e w2 ⟨rfl, hb⟩
            have H2 := H1.step hb
            clear hb a0 a1 a2 b0 b1 b2
            obtain ⟨_, ⟨a0, a1, a2⟩, b0, b1, b2⟩ := id H2
            go_wp2
            go_ret
            exact ⟨congrArg Ending.returned (bool_eq K.out.symm), H2.1⟩
      · have K := hide (show meetS k p n j q m = meetsS p n q m by unfold meetS; rw [h1, h2, decide_eq_true (by omega)]; rfl)
        have MM := hide (fun W => rmeets_any hp hq n m W)
        have E1 : (k == 1) = false := by simp; omega
        have E2 : (j == 1) = false := by simp; omega
        clear hk h1 h2
        generalize meetsS p n q m = mm at *
        go_enter Tryz.func53, Tryz.ntmps53
        go_wp2_with fail
        generalize (w.alloc (.cells #[.int .u64 (hi p : Nat), .int .u64 (lo p : Nat), .int .i64 n] 27)).alloc (.cells #[.int .u64 (hi q : Nat), .int .u64 (lo q : Nat), .int .i64 m] 27) = V at *
        obtain ⟨_, ⟨a0, a1, a2⟩, b0, b1, b2⟩ := id H
        go_wp2_with fail
        refine (R1.out _).mono ?_
        rintro e w1 ⟨rfl, hb⟩
        have H1 := H.step hb
        clear hb a0 a1 a2 b0 b1 b2
        obtain ⟨_, ⟨a0, a1, a2⟩, b0, b1, b2⟩ := id H1
        go_wp2_with fail
        refine (R2.out _).mono ?_
        rintro e w2 ⟨rfl, hb⟩
        have H2 := H1.step hb
        clear hb a0 a1 a2 b0 b1 b2
        obtain ⟨_, ⟨a0, a1, a2⟩, b0, b1, b2⟩ := id H2
        go_wp2_with fail
        refine (MM.out _).mono ?_
        rintro e w3 ⟨rfl, hb⟩
        have H3 := H2.step hb
        clear hb a0 a1 a2 b0 b1 b2
        obtain ⟨_, ⟨a0, a1, a2⟩, b0, b1, b2⟩ := id H3
        go_wp2
        go_ret
        exact ⟨congrArg Ending.returned (bool_eq K.out.symm), H3.1⟩
end Go.Proofs.YtpldkgollhbolaaGreat
