/-
  Contracts of lease.Sound and Change: what each returns for every value of the types; no memory that existed is changed. Conditions: the words are words of 64 bits (every value of the type is such).
-/
import Derived.Test.YtpldkgollhbolaaLR
namespace Go.Proofs.Ytpldkgollhbolaa
open Go.RowKit Go.Joins
theorem toList_zero {s : ByteArray} : s.toList = [] ↔ s.size = 0 := by
  rw [ByteArray.toList_eq]
  constructor
  · intro h
    have h2 : s.data.toList.length = 0 := by rw [h]; rfl
    exact h2
  · intro h
    exact List.eq_nil_of_length_eq_zero h

set_option maxRecDepth 100000 in
set_option maxHeartbeats 2000000 in
theorem lease_any (x : Ls) (hx : Fits x.p) (w : World) :
    Calls Try.prog 10 #[Lv x] w (Gives (.bool (leaseS x)) w) := by
  have F : Hid (∀ (w' : World) (b : Bool), Below w.heap.size w w' → b = leaseS x → Gives (.bool (leaseS x)) w (.returned (.bool b)) w') := fun w' b h e => ⟨by rw [e], h⟩
  have S := hide (fun W => right_any x.kind hx x.n W)
  have D : Hid (leaseS x = (rightS x.kind x.p x.n && (decide (0 ≤ x.un ∧ x.un ≤ 1099511627776) && stateS x))) := hide rfl
  have E : Hid (stateS x = (if x.st = 1 then decide (x.cl.size ≠ 0 ∧ x.cl.size ≤ 130 ∧ (x.kind ≠ 1 ∨ x.ia = 0)) else if x.st = 2 then decide (x.cl.size = 0 ∧ x.ia = 0 ∧ x.kind ≠ 4) else false)) := hide rfl
  generalize hb0 : rightS x.kind x.p x.n = r at *
  generalize leaseS x = res at *
  generalize stateS x = stt at *
  obtain ⟨kind, p, n, st, cl, ia, un⟩ := x
  simp only at *
  clear hb0 hx
  cases r with
  | false =>
    have K := hide (show res = false by rw [D.out]; rfl)
    clear D E
    go_enter Try.func10, Try.ntmps10
    go_wp2_with fail
    refine (S.out _).mono ?_
    rintro e w' ⟨rfl, hb⟩
    obtain ⟨hc, hf⟩ := bcell hb
    have hz : w.heap.size < w'.heap.size := by have := hb.size; simp at this; omega
    go_wp2
    go_ret
    exact F.out _ _ (((Below.refl _ _).alloc (Nat.le_refl _) _).trans (hb.mono (by simp))) (by first | exact K.out.symm | (rw [K.out]; simp [*]))
  | true =>
    by_cases n1 : un < 0
    · have K := hide (show res = false by rw [D.out, decide_eq_false (by omega)]; rfl)
      clear D E
      go_enter Try.func10, Try.ntmps10
      go_wp2_with fail
      refine (S.out _).mono ?_
      rintro e w' ⟨rfl, hb⟩
      obtain ⟨hc, hf⟩ := bcell hb
      have hz : w.heap.size < w'.heap.size := by have := hb.size; simp at this; omega
      go_wp2
      go_ret
      exact F.out _ _ (((Below.refl _ _).alloc (Nat.le_refl _) _).trans (hb.mono (by simp))) (by first | exact K.out.symm | (rw [K.out]; simp [*]))
    by_cases n2 : 1099511627776 < un
    · have K := hide (show res = false by rw [D.out, decide_eq_false (by omega)]; rfl)
      clear D E
      go_enter Try.func10, Try.ntmps10
      go_wp2_with fail
      refine (S.out _).mono ?_
      rintro e w' ⟨rfl, hb⟩
      obtain ⟨hc, hf⟩ := bcell hb
      have hz : w.heap.size < w'.heap.size := by have := hb.size; simp at this; omega
      go_wp2
      go_ret
      exact F.out _ _ (((Below.refl _ _).alloc (Nat.le_refl _) _).trans (hb.mono (by simp))) (by first | exact K.out.symm | (rw [K.out]; simp [*]))
    have D2 : Hid (res = stt) := hide (by rw [D.out, decide_eq_true (by omega)]; rfl)
    clear D
    by_cases h1 : st = 1
    · subst h1
      have G : Hid (∀ b : Bool, decide (cl.size ≠ 0 ∧ cl.size ≤ 130 ∧ (kind ≠ 1 ∨ ia = 0)) = b → res = b) := hide (fun b e => by rw [← e, D2.out, E.out]; rfl)
      clear E D2
      by_cases hcl : cl.toList = []
      · have z1 := toList_zero.1 hcl
        have z2 : (cl.size : Int) = 0 := by omega
        have K := hide (G.out false (decide_eq_false (by omega)))
        clear G z1
        go_enter Try.func10, Try.ntmps10
        go_wp2_with fail
        refine (S.out _).mono ?_
        rintro e w' ⟨rfl, hb⟩
        obtain ⟨hc, hf⟩ := bcell hb
        have hz : w.heap.size < w'.heap.size := by have := hb.size; simp at this; omega
        go_wp2
        go_ret
        exact F.out _ _ (((Below.refl _ _).alloc (Nat.le_refl _) _).trans (hb.mono (by simp))) (by first | exact K.out.symm | (rw [K.out]; simp [*]))
      have hcz : cl.size ≠ 0 := mt toList_zero.2 hcl
      have hcz2 : 1 ≤ (cl.size : Int) := by omega
      by_cases h130 : (cl.size : Int) ≤ 130
      · by_cases hk : kind = 1
        · by_cases hi0 : ia = 0
          · have K := hide (G.out true (decide_eq_true (by omega)))
            clear G hcz
            subst hk hi0
            go_enter Try.func10, Try.ntmps10
            go_wp2_with fail
            refine (S.out _).mono ?_
            rintro e w' ⟨rfl, hb⟩
            obtain ⟨hc, hf⟩ := bcell hb
            have hz : w.heap.size < w'.heap.size := by have := hb.size; simp at this; omega
            go_wp2
            go_ret
            exact F.out _ _ (((Below.refl _ _).alloc (Nat.le_refl _) _).trans (hb.mono (by simp))) (by first | exact K.out.symm | (rw [K.out]; simp [*]))
          · have K := hide (G.out false (decide_eq_false (by omega)))
            clear G hcz
            have hi1 : ¬ (ia : Int) = 0 := by omega
            subst hk
            go_enter Try.func10, Try.ntmps10
            go_wp2_with fail
            refine (S.out _).mono ?_
            rintro e w' ⟨rfl, hb⟩
            obtain ⟨hc, hf⟩ := bcell hb
            have hz : w.heap.size < w'.heap.size := by have := hb.size; simp at this; omega
            go_wp2
            go_ret
            exact F.out _ _ (((Below.refl _ _).alloc (Nat.le_refl _) _).trans (hb.mono (by simp))) (by first | exact K.out.symm | (rw [K.out]; simp [*]))
        · have K := hide (G.out true (decide_eq_true (by omega)))
          clear G hcz
          go_enter Try.func10, Try.ntmps10
          go_wp2_with fail
          refine (S.out _).mono ?_
          rintro e w' ⟨rfl, hb⟩
          obtain ⟨hc, hf⟩ := bcell hb
          have hz : w.heap.size < w'.heap.size := by have := hb.size; simp at this; omega
          go_wp2
          go_ret
          exact F.out _ _ (((Below.refl _ _).alloc (Nat.le_refl _) _).trans (hb.mono (by simp))) (by first | exact K.out.symm | (rw [K.out]; simp [*]))
      · have K := hide (G.out false (decide_eq_false (by omega)))
        clear G hcz
        go_enter Try.func10, Try.ntmps10
        go_wp2_with fail
        refine (S.out _).mono ?_
        rintro e w' ⟨rfl, hb⟩
        obtain ⟨hc, hf⟩ := bcell hb
        have hz : w.heap.size < w'.heap.size := by have := hb.size; simp at this; omega
        go_wp2
        go_ret
        exact F.out _ _ (((Below.refl _ _).alloc (Nat.le_refl _) _).trans (hb.mono (by simp))) (by first | exact K.out.symm | (rw [K.out]; simp [*]))
    by_cases h2 : st = 2
    · subst h2
      have G : Hid (∀ b : Bool, decide (cl.size = 0 ∧ ia = 0 ∧ kind ≠ 4) = b → res = b) := hide (fun b e => by rw [← e, D2.out, E.out]; rfl)
      clear E D2
      by_cases hcl : cl.toList = []
      · have hcz : cl.size = 0 := toList_zero.1 hcl
        have K1 := hide (fun e => G.out false (decide_eq_false e))
        have K2 := hide (fun e => G.out true (decide_eq_true e))
        clear G
        by_cases hi0 : ia = 0
        · by_cases hk : kind = 4
          · have K := hide (K1.out (by omega))
            clear K1 K2 hcz
            subst hk hi0
            go_enter Try.func10, Try.ntmps10
            go_wp2_with fail
            refine (S.out _).mono ?_
            rintro e w' ⟨rfl, hb⟩
            obtain ⟨hc, hf⟩ := bcell hb
            have hz : w.heap.size < w'.heap.size := by have := hb.size; simp at this; omega
            go_wp2
            go_ret
            exact F.out _ _ (((Below.refl _ _).alloc (Nat.le_refl _) _).trans (hb.mono (by simp))) (by first | exact K.out.symm | (rw [K.out]; simp [*]))
          · have K := hide (K2.out (by omega))
            clear K1 K2 hcz
            subst hi0
            go_enter Try.func10, Try.ntmps10
            go_wp2_with fail
            refine (S.out _).mono ?_
            rintro e w' ⟨rfl, hb⟩
            obtain ⟨hc, hf⟩ := bcell hb
            have hz : w.heap.size < w'.heap.size := by have := hb.size; simp at this; omega
            go_wp2
            go_ret
            exact F.out _ _ (((Below.refl _ _).alloc (Nat.le_refl _) _).trans (hb.mono (by simp))) (by first | exact K.out.symm | (rw [K.out]; simp [*]))
        · have K := hide (K1.out (by omega))
          have hi1 : ¬ (ia : Int) = 0 := by omega
          clear K1 K2 hcz
          by_cases hk : kind = 4
          · subst hk
            go_enter Try.func10, Try.ntmps10
            go_wp2_with fail
            refine (S.out _).mono ?_
            rintro e w' ⟨rfl, hb⟩
            obtain ⟨hc, hf⟩ := bcell hb
            have hz : w.heap.size < w'.heap.size := by have := hb.size; simp at this; omega
            go_wp2
            go_ret
            exact F.out _ _ (((Below.refl _ _).alloc (Nat.le_refl _) _).trans (hb.mono (by simp))) (by first | exact K.out.symm | (rw [K.out]; simp [*]))
          ·
            go_enter Try.func10, Try.ntmps10
            go_wp2_with fail
            refine (S.out _).mono ?_
            rintro e w' ⟨rfl, hb⟩
            obtain ⟨hc, hf⟩ := bcell hb
            have hz : w.heap.size < w'.heap.size := by have := hb.size; simp at this; omega
            go_wp2
            go_ret
            exact F.out _ _ (((Below.refl _ _).alloc (Nat.le_refl _) _).trans (hb.mono (by simp))) (by first | exact K.out.symm | (rw [K.out]; simp [*]))
      · have hcz : cl.size ≠ 0 := mt toList_zero.2 hcl
        have K := hide (G.out false (decide_eq_false (by omega)))
        clear G hcz
        by_cases hk : kind = 4
        · subst hk
          go_enter Try.func10, Try.ntmps10
          go_wp2_with fail
          refine (S.out _).mono ?_
          rintro e w' ⟨rfl, hb⟩
          obtain ⟨hc, hf⟩ := bcell hb
          have hz : w.heap.size < w'.heap.size := by have := hb.size; simp at this; omega
          go_wp2
          go_ret
          exact F.out _ _ (((Below.refl _ _).alloc (Nat.le_refl _) _).trans (hb.mono (by simp))) (by first | exact K.out.symm | (rw [K.out]; simp [*]))
        ·
          go_enter Try.func10, Try.ntmps10
          go_wp2_with fail
          refine (S.out _).mono ?_
          rintro e w' ⟨rfl, hb⟩
          obtain ⟨hc, hf⟩ := bcell hb
          have hz : w.heap.size < w'.heap.size := by have := hb.size; simp at this; omega
          go_wp2
          go_ret
          exact F.out _ _ (((Below.refl _ _).alloc (Nat.le_refl _) _).trans (hb.mono (by simp))) (by first | exact K.out.symm | (rw [K.out]; simp [*]))
    have K := hide (show res = false by rw [D2.out, E.out, if_neg h1, if_neg h2])
    clear E D2
    go_enter Try.func10, Try.ntmps10
    go_wp2_with fail
    refine (S.out _).mono ?_
    rintro e w' ⟨rfl, hb⟩
    obtain ⟨hc, hf⟩ := bcell hb
    have hz : w.heap.size < w'.heap.size := by have := hb.size; simp at this; omega
    go_wp2
    go_ret
    exact F.out _ _ (((Below.refl _ _).alloc (Nat.le_refl _) _).trans (hb.mono (by simp))) (by first | exact K.out.symm | (rw [K.out]; simp [*]))

set_option maxRecDepth 100000 in
set_option maxHeartbeats 2000000 in
theorem change_any (c : Ch) (hc : Fits c.l.p) (w : World) :
    Calls Try.prog 54 #[Cv c] w (Gives (.bool (changeS c)) w) := by
  have F : Hid (∀ (w' : World) (b : Bool), Below w.heap.size w w' → b = changeS c → Gives (.bool (changeS c)) w (.returned (.bool b)) w') := fun w' b h e => ⟨by rw [e], h⟩
  have R := hide (fun W => right_any c.l.kind hc c.l.n W)
  have S := hide (fun W => lease_any c.l hc W)
  have D : Hid (changeS c = if c.gone = true then rightS c.l.kind c.l.p c.l.n && bareS c.l else leaseS c.l) := hide rfl
  have E : Hid (bareS c.l = decide (c.l.st = 0 ∧ c.l.cl.size = 0 ∧ c.l.ia = 0 ∧ c.l.un = 0)) := hide rfl
  generalize rightS c.l.kind c.l.p c.l.n = r at *
  generalize bareS c.l = bare at *
  generalize leaseS c.l = ls at *
  generalize changeS c = res at *
  obtain ⟨gone, kind, p, n, st, cl, ia, un⟩ := c
  simp only at *
  clear hc
  cases gone with
  | false =>
    have K := hide (show res = ls by rw [D.out]; rfl)
    clear D E R
    go_enter Try.func54, Try.ntmps54
    go_wp2_with fail
    refine (S.out _).mono ?_
    rintro e w' ⟨rfl, hb⟩
    obtain ⟨hc, hf⟩ := bcell hb
    have hz : w.heap.size < w'.heap.size := by have := hb.size; simp at this; omega
    go_wp2
    go_ret
    exact F.out _ _ ((((Below.refl _ _).alloc (Nat.le_refl _) _).alloc (by simp) _).trans (hb.mono (by simp; omega))) (by first | exact K.out.symm | (rw [K.out]; simp [*]))
  | true =>
    have D2 := hide (show res = (r && bare) by rw [D.out]; rfl)
    clear D S
    cases r with
    | false =>
      have K := hide (show res = false by rw [D2.out]; rfl)
      clear D2 E
      go_enter Try.func54, Try.ntmps54
      go_wp2_with fail
      refine (R.out _).mono ?_
      rintro e w' ⟨rfl, hb⟩
      obtain ⟨hc, hf⟩ := bcell hb
      have hz : w.heap.size < w'.heap.size := by have := hb.size; simp at this; omega
      go_wp2
      go_ret
      exact F.out _ _ ((((Below.refl _ _).alloc (Nat.le_refl _) _).alloc (by simp) _).trans (hb.mono (by simp; omega))) (by first | exact K.out.symm | (rw [K.out]; simp [*]))
    | true =>
      have G : Hid (∀ b : Bool, decide (st = 0 ∧ cl.size = 0 ∧ ia = 0 ∧ un = 0) = b → res = b) := hide (fun b e => by rw [← e, D2.out, E.out]; rfl)
      clear D2 E
      by_cases h1 : st = 0
      · by_cases h2 : cl.toList = []
        · have hcz : cl.size = 0 := toList_zero.1 h2
          by_cases h3 : ia = 0
          · by_cases h4 : un = 0
            · have K := hide (G.out true (decide_eq_true (by omega)))
              clear G hcz
              subst h1 h3 h4
              go_enter Try.func54, Try.ntmps54
              go_wp2_with fail
              refine (R.out _).mono ?_
              rintro e w' ⟨rfl, hb⟩
              obtain ⟨hc, hf⟩ := bcell hb
              have hz : w.heap.size < w'.heap.size := by have := hb.size; simp at this; omega
              go_wp2
              go_ret
              exact F.out _ _ ((((Below.refl _ _).alloc (Nat.le_refl _) _).alloc (by simp) _).trans (hb.mono (by simp; omega))) (by first | exact K.out.symm | (rw [K.out]; simp [*]))
            · have K := hide (G.out false (decide_eq_false (by omega)))
              clear G hcz
              subst h1 h3
              go_enter Try.func54, Try.ntmps54
              go_wp2_with fail
              refine (R.out _).mono ?_
              rintro e w' ⟨rfl, hb⟩
              obtain ⟨hc, hf⟩ := bcell hb
              have hz : w.heap.size < w'.heap.size := by have := hb.size; simp at this; omega
              go_wp2
              go_ret
              exact F.out _ _ ((((Below.refl _ _).alloc (Nat.le_refl _) _).alloc (by simp) _).trans (hb.mono (by simp; omega))) (by first | exact K.out.symm | (rw [K.out]; simp [*]))
          · have K := hide (G.out false (decide_eq_false (by omega)))
            have h5 : ¬ (ia : Int) = 0 := by omega
            clear G hcz
            subst h1
            go_enter Try.func54, Try.ntmps54
            go_wp2_with fail
            refine (R.out _).mono ?_
            rintro e w' ⟨rfl, hb⟩
            obtain ⟨hc, hf⟩ := bcell hb
            have hz : w.heap.size < w'.heap.size := by have := hb.size; simp at this; omega
            go_wp2
            go_ret
            exact F.out _ _ ((((Below.refl _ _).alloc (Nat.le_refl _) _).alloc (by simp) _).trans (hb.mono (by simp; omega))) (by first | exact K.out.symm | (rw [K.out]; simp [*]))
        · have hcz : cl.size ≠ 0 := mt toList_zero.2 h2
          have K := hide (G.out false (decide_eq_false (by omega)))
          clear G hcz
          subst h1
          go_enter Try.func54, Try.ntmps54
          go_wp2_with fail
          refine (R.out _).mono ?_
          rintro e w' ⟨rfl, hb⟩
          obtain ⟨hc, hf⟩ := bcell hb
          have hz : w.heap.size < w'.heap.size := by have := hb.size; simp at this; omega
          go_wp2
          go_ret
          exact F.out _ _ ((((Below.refl _ _).alloc (Nat.le_refl _) _).alloc (by simp) _).trans (hb.mono (by simp; omega))) (by first | exact K.out.symm | (rw [K.out]; simp [*]))
      · have K := hide (G.out false (decide_eq_false (by omega)))
        clear G
        go_enter Try.func54, Try.ntmps54
        go_wp2_with fail
        refine (R.out _).mono ?_
        rintro e w' ⟨rfl, hb⟩
        obtain ⟨hc, hf⟩ := bcell hb
        have hz : w.heap.size < w'.heap.size := by have := hb.size; simp at this; omega
        go_wp2
        go_ret
        exact F.out _ _ ((((Below.refl _ _).alloc (Nat.le_refl _) _).alloc (by simp) _).trans (hb.mono (by simp; omega))) (by first | exact K.out.symm | (rw [K.out]; simp [*]))
end Go.Proofs.Ytpldkgollhbolaa
