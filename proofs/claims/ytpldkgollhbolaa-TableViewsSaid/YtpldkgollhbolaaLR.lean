/-
  Contracts of lease.Right, Sound and Change: what each returns for every value of the types; no memory that existed is changed. Conditions: the words are words of 64 bits (every value of the type is such).
-/
import Derived.Test.YtpldkgollhbolaaLM
import Derived.Test.YtpldkgollhbolaaLBase
import Derived.StillTailTactics
namespace Go.Proofs.Ytpldkgollhbolaa
open Go.RowKit Go.Joins

theorem beq_dec (a b : Int) : (a == b) = decide (a = b) := rfl

set_option maxRecDepth 100000 in
set_option maxHeartbeats 1000000 in
theorem right_any (k : Int) {p : Nat} (hp : Fits p) (n : Int) (w : World) :
    Calls Try.prog 27 #[.int .i64 k, Pv p n] w (Gives (.bool (rightS k p n)) w) := by
  have F : Hid (∀ (w' : World) (b : Bool), Below w.heap.size w w' → b = rightS k p n → Gives (.bool (rightS k p n)) w (.returned (.bool b)) w') := fun w' b h e => ⟨by rw [e], h⟩
  have S := hide (fun W => sound_any hp n W)
  have T := hide (fun W => to4_any p W)
  cases hs : soundS p n with
  | false =>
    rw [hs] at S
    have K := hide (show rightS k p n = false by unfold rightS; rw [hs]; rfl)
    clear hs
    go_enter Try.func27, Try.ntmps27
    go_wp2_with fail
    refine (S.out _).mono ?_
    rintro e w' ⟨rfl, hb⟩
    obtain ⟨hc, hf⟩ := bcell hb
    have hz : w.heap.size < w'.heap.size := by have := hb.size; simp at this; omega
    go_wp2
    go_ret
    exact F.out _ _ (((Below.refl _ _).alloc (Nat.le_refl _) _).trans (hb.mono (by simp))) K.out.symm
  | true =>
    rw [hs] at S
    have K : Hid (∀ b, b = (if k = 1 then to4O p && decide (n = 128) else if k = 2 ∨ k = 3 then decide (n = 128) else if k = 4 then decide (0 < n ∧ n < 128) else false) → b = rightS k p n) := by
      intro b e; rw [e]; unfold rightS; rw [hs, Bool.true_and]
    clear hs
    by_cases h1 : k = 1
    · subst h1
      generalize ho : to4O p = o at *
      go_enter Try.func27, Try.ntmps27
      go_wp2_with fail
      refine (S.out _).mono ?_
      rintro e w' ⟨rfl, hb⟩
      obtain ⟨hc, hf⟩ := bcell hb
      have hz : w.heap.size < w'.heap.size := by have := hb.size; simp at this; omega
      go_wp2_with fail
      refine (T.out _).mono ?_
      rintro e w2 ⟨rfl, hb2⟩
      obtain ⟨hc2, hf2⟩ := bcell hb2
      have hz2 : w.heap.size < w2.heap.size := by have := hb2.size; omega
      cases o
      all_goals go_wp2
      all_goals go_ret
      all_goals refine F.out _ _ ((((Below.refl _ _).alloc (Nat.le_refl _) _).trans (hb.mono (by simp))).trans (hb2.mono (by omega))) (K.out _ ?_)
      all_goals (simp [*]; try exact beq_dec _ _)
    have e1 : (k == 1) = false := by simpa using h1
    by_cases h2 : k = 2
    · subst h2
      go_enter Try.func27, Try.ntmps27
      go_wp2_with fail
      refine (S.out _).mono ?_
      rintro e w' ⟨rfl, hb⟩
      obtain ⟨hc, hf⟩ := bcell hb
      have hz : w.heap.size < w'.heap.size := by have := hb.size; simp at this; omega
      go_wp2
      go_ret
      refine F.out _ _ (((Below.refl _ _).alloc (Nat.le_refl _) _).trans (hb.mono (by simp))) (K.out _ ?_)
      exact beq_dec _ _
    have e2 : (k == 2) = false := by simpa using h2
    by_cases h3 : k = 3
    · subst h3
      go_enter Try.func27, Try.ntmps27
      go_wp2_with fail
      refine (S.out _).mono ?_
      rintro e w' ⟨rfl, hb⟩
      obtain ⟨hc, hf⟩ := bcell hb
      have hz : w.heap.size < w'.heap.size := by have := hb.size; simp at this; omega
      go_wp2
      go_ret
      refine F.out _ _ (((Below.refl _ _).alloc (Nat.le_refl _) _).trans (hb.mono (by simp))) (K.out _ ?_)
      exact beq_dec _ _
    have e3 : (k == 3) = false := by simpa using h3
    by_cases h4 : k = 4
    · subst h4
      go_enter Try.func27, Try.ntmps27
      go_wp2_with fail
      refine (S.out _).mono ?_
      rintro e w' ⟨rfl, hb⟩
      obtain ⟨hc, hf⟩ := bcell hb
      have hz : w.heap.size < w'.heap.size := by have := hb.size; simp at this; omega
      go_wp2
      all_goals go_ret
      all_goals refine F.out _ _ (((Below.refl _ _).alloc (Nat.le_refl _) _).trans (hb.mono (by simp))) (K.out _ ?_)
      all_goals (simp [*]; try omega)
    · have e4 : (k == 4) = false := by simpa using h4
      go_enter Try.func27, Try.ntmps27
      go_wp2_with fail
      refine (S.out _).mono ?_
      rintro e w' ⟨rfl, hb⟩
      obtain ⟨hc, hf⟩ := bcell hb
      have hz : w.heap.size < w'.heap.size := by have := hb.size; simp at this; omega
      go_wp2
      go_ret
      refine F.out _ _ (((Below.refl _ _).alloc (Nat.le_refl _) _).trans (hb.mono (by simp))) (K.out _ ?_)
      rw [if_neg h1, if_neg (by simp [h2, h3]), if_neg h4]
end Go.Proofs.Ytpldkgollhbolaa
