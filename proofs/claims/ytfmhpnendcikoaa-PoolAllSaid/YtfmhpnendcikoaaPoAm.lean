/-
  As many draws as something has free addresses pick each of them once; taken one by one they are fewer by one each time: arithmetic and lists only.
-/
import Derived.Test.YtfmhpnendcikoaaPoPm
namespace Go.Proofs.Ytfmhpnendcikoaa
open Go.RowKit Go.Joins

theorem free_nil {F : List Rg} (hs : Snd F) (hf : FitL F) : freeS F [] = F := by
  obtain ⟨a, _, _, d⟩ := free_spec hs hf (t := []) (fun a h => by cases h)
  refine snd_ext a hs (fun x => ?_)
  rw [d x]
  simp
theorem mem_one_addr (a x : Nat) : memL [(a, a)] x ↔ x = a := by
  rw [mem_one]
  unfold inR
  simp only
  omega
/-- one more taken is one fewer free -/
theorem cnt_step {F : List Rg} {g : List Nat} {a : Nat} (hs : Snd F) (hf : FitL F) (fg : ∀ x ∈ g, Fits x) (fa : Fits a) (ha : memL (freeS F g) a) : cntL (freeS F (g ++ [a])) + 1 = cntL (freeS F g) := by
  have fg2 : ∀ x ∈ g ++ [a], Fits x := fun x hx => by
    rcases List.mem_append.1 hx with h | h
    · exact fg x h
    · rw [List.mem_singleton.1 h]; exact fa
  obtain ⟨a1, a2, _, a4⟩ := free_spec hs hf fg
  obtain ⟨b1, b2, _, b4⟩ := free_spec hs hf fg2
  have h1 := (a4 a).1 ha
  have := cnt_sum (o := freeS F g) (l := freeS F (g ++ [a])) (m := [(a, a)]) a1 b1 (snd_one (Nat.le_refl a)) a2 b2 (fit_one ⟨fa, fa⟩) (fun x => by
    rw [a4 x, b4 x, mem_one_addr]
    simp only [List.mem_append, List.mem_singleton, not_or]
    constructor
    · rintro ⟨h2, h3⟩
      by_cases e : x = a
      · exact Or.inr e
      · exact Or.inl ⟨h2, h3, e⟩
    · rintro (⟨h2, h3, _⟩ | rfl)
      · exact ⟨h2, h3⟩
      · exact h1) (fun x hx hm => by
    rw [mem_one_addr] at hm
    subst hm
    have := (b4 x).1 hx
    simp at this)
  have e : cntL [(a, a)] = 1 := by simp [cntL]
  omega
/-- what stands behind i takings -/
def SInv (F : List Rg) (g : List Nat) (i : Nat) (b : Bool) (left : Nat) : Prop :=
  (∀ a ∈ g, Fits a) ∧ g.length = i ∧ left = cntL (freeS F g) % 340282366920938463463374607431768211456 ∧ b = decide (cntL (freeS F g) = 340282366920938463463374607431768211456)
theorem sinv_start {F : List Rg} (hs : Snd F) (hf : FitL F) : SInv F [] 0 (cntO F) (cntV F) := by
  have e := free_nil hs hf
  have h1 := tot_cnt hs hf
  refine ⟨fun a h => (by cases h), rfl, ?_, ?_⟩
  · rw [e]
    unfold cntV
    rw [if_pos (sound_snd.2 hs), h1]
  · rw [e]
    have := cntO_iff hs hf
    cases h : cntO F with
    | true => exact (decide_eq_true (this.1 h)).symm
    | false => exact (decide_eq_false (fun e => by rw [this.2 e] at h; cases h)).symm
theorem sinv_none {F : List Rg} {g : List Nat} {i : Nat} {b : Bool} {left : Nat} (h : SInv F g i b left) (he : freeS F g = []) : left = 0 ∧ b = false := by
  obtain ⟨h1, h2, h3, h4⟩ := h
  rw [he] at h3 h4
  exact ⟨by rw [h3]; rfl, by rw [h4]; rfl⟩
theorem sinv_some {F : List Rg} {g : List Nat} {i : Nat} {b : Bool} {left : Nat} (hs : Snd F) (hf : FitL F) (h : SInv F g i b left) (he : freeS F g ≠ []) (hb : b = false) : left ≠ 0 := by
  obtain ⟨h1, h2, h3, h4⟩ := h
  obtain ⟨a1, a2, _, _⟩ := free_spec hs hf h1
  have hp := cnt_pos a1 he
  have hle := cnt_le a1 a2
  rw [hb] at h4
  have := of_decide_eq_false h4.symm
  omega
theorem sinv_next {F : List Rg} {g : List Nat} {i : Nat} {b : Bool} {left a : Nat} (hs : Snd F) (hf : FitL F) (h : SInv F g i b left) (fa : Fits a) (ha : memL (freeS F g) a) :
    SInv F (g ++ [a]) (i + 1) false (subS left 1) ∧ cntV (freeS F (g ++ [a])) = subS left 1 := by
  obtain ⟨h1, h2, h3, h4⟩ := h
  have hst := cnt_step hs hf h1 fa ha
  have fg2 : ∀ x ∈ g ++ [a], Fits x := fun x hx => by
    rcases List.mem_append.1 hx with h | h
    · exact h1 x h
    · rw [List.mem_singleton.1 h]; exact fa
  obtain ⟨a1, a2, _, _⟩ := free_spec hs hf h1
  obtain ⟨b1, b2, _, _⟩ := free_spec hs hf fg2
  have hle := cnt_le a1 a2
  have hl : subS left 1 = cntL (freeS F (g ++ [a])) % 340282366920938463463374607431768211456 := by
    rw [h3]
    unfold subS
    omega
  refine ⟨⟨fg2, by rw [List.length_append, h2]; rfl, hl, ?_⟩, ?_⟩
  · symm
    rw [decide_eq_false_iff_not]
    omega
  · have h5 := tot_cnt b1 b2
    unfold cntV
    rw [if_pos (sound_snd.2 b1), h5, hl]
/-- the address number k -/
theorem pick_k {F : List Rg} (hs : Snd F) (hf : FitL F) (ho : cntO F = false) {k : Nat} (hk : k < cntV F) (h64 : cntV F < 18446744073709551616) :
    F ≠ [] ∧ pickN F k = k ∧ nthO F k = true ∧ rankS F (nthV F k) = k ∧ Fits (nthV F k) ∧ pickN F (k + cntV F) = k := by
  obtain ⟨h1, h2⟩ := cntV_eq hs hf ho
  have hne : F ≠ [] := fun e => by subst e; rw [h1] at hk; simp [cntL] at hk
  have e1 : pickN F k = k := by
    unfold pickN
    rw [if_neg (by rw [ho]; simp), if_neg (by omega), Nat.mod_eq_of_lt hk]
  have e2 : pickN F (k + cntV F) = k := by
    unfold pickN
    rw [if_neg (by rw [ho]; simp), if_neg (by omega), Nat.add_mod_right, Nat.mod_eq_of_lt hk]
  obtain ⟨p1, _, p3⟩ := pick_spec hs hf (d := k) (by omega)
  obtain ⟨m, b, f⟩ := p3 hne
  rw [e1] at p1 m b f
  refine ⟨hne, e1, ?_, ?_, f, e2⟩
  · rw [p1]
    exact decide_eq_true (Nat.pos_of_ne_zero (fun e => hne (List.length_eq_zero_iff.1 e)))
  · rw [rank_bel hs hf f, b]
theorem cntV_fits (F : List Rg) : Fits (cntV F) := by
  unfold cntV
  split
  · exact fits_tot F 0 (by unfold Fits; omega)
  · unfold Fits; omega
end Go.Proofs.Ytfmhpnendcikoaa
