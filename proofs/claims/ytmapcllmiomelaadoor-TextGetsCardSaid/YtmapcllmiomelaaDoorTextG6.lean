/-
  Mathematics of Get6: the first '::', both sides' groups, and the eight groups as two words. No program.
-/
import Derived.Test.YtmapcllmiomelaaDoorTextG4
namespace Go.Proofs.YtmapcllmiomelaaDoor
open Go.RowKit Go.Joins

theorem occ_two {s : ByteArray} {i : Nat} (h : i + 1 < s.size) : Lib.occAt s.data.toList [58, 58] i = ((58 == s[i]) && (58 == s[i + 1])) := by
  unfold Lib.occAt
  rw [drop_one (show i < s.size by omega), drop_one h]
  simp [List.isPrefixOf]
theorem occ_end {s : ByteArray} {i : Nat} (h : ¬ i + 1 < s.size) : Lib.occAt s.data.toList [58, 58] i = false := by
  cases e : Lib.occAt s.data.toList [58, 58] i with
  | false => rfl
  | true =>
    rcases Lib.occAt_room e with h2 | h2
    · rw [show s.data.toList.length = s.size from rfl] at h2
      simp only [List.length_cons, List.length_nil] at h2
      omega
    · cases h2
theorem occ_is {s : ByteArray} {i : Nat} (h : i + 1 < s.size) (h0 : s[i] = 58) (h1 : s[i + 1] = 58) : Lib.occAt s.data.toList [58, 58] i = true := by
  rw [occ_two h, h0, h1]; rfl
theorem occ_no {s : ByteArray} {i : Nat} (h : i + 1 < s.size) (h0 : ¬ (s[i] = 58 ∧ s[i + 1] = 58)) : Lib.occAt s.data.toList [58, 58] i = false := by
  rw [occ_two h]
  cases e : ((58 == s[i]) && (58 == s[i + 1])) with
  | false => rfl
  | true =>
    rw [Bool.and_eq_true, beq_iff_eq, beq_iff_eq] at e
    exact absurd ⟨e.1.symm, e.2.symm⟩ h0
theorem side_hit {s : ByteArray} {i : Nat} (hi : i + 1 < s.size) (ho : Lib.occAt s.data.toList [58, 58] i = true) (hn : Lib.NoOcc s.data.toList [58, 58] i) :
    sideO s = true ∧ sideL s = s.extract 0 i ∧ sideR s = s.extract (i + 2) s.size := by
  have hx : Lib.index s.data.toList [58, 58] = (i : Int) := Lib.index_first (by show i ≤ s.size; omega) ho hn
  have hc : Lib.cut s.data.toList [58, 58] = (s.data.toList.take i, s.data.toList.drop (i + 2), true) := by
    unfold Lib.cut
    rw [hx, if_pos (by omega), Int.toNat_natCast]
    rfl
  refine ⟨by unfold sideO; rw [hc], ?_, ?_⟩
  · unfold sideL
    rw [hc]
    exact tail_eta (by rw [Lib.extract_data]; simp)
  · unfold sideR
    rw [hc]
    refine tail_eta ?_
    rw [Lib.extract_data]
    exact (List.take_of_length_le (by rw [List.length_drop]; exact Nat.le_refl _)).symm
theorem side_none {s : ByteArray} {i : Nat} (hi : ¬ i + 1 < s.size) (hn : Lib.NoOcc s.data.toList [58, 58] i) : sideO s = false ∧ sideL s = s ∧ sideR s = ⟨#[]⟩ := by
  have hx : Lib.index s.data.toList [58, 58] = -1 := Lib.index_none (fun j _ => by
    by_cases h : j < i
    · exact hn j h
    · exact occ_end (by omega))
  have hc : Lib.cut s.data.toList [58, 58] = (s.data.toList, [], false) := by
    unfold Lib.cut
    rw [hx, if_neg (by omega)]
  exact ⟨by unfold sideO; rw [hc], by unfold sideL; rw [hc], by unfold sideR; rw [hc]⟩
theorem get6_S (s : ByteArray) : get6 s = match rowS (sideL s), rowS (sideR s) with
    | some h, some t => if (sideO s = true ∧ h.length + t.length ≤ 7) ∨ (sideO s = false ∧ h.length + t.length = 8) then some (six h t) else none
    | _, _ => none := by
  by_cases hL : (splitS 58 (sideL s)).length ≤ 9
  · by_cases hR : (splitS 58 (sideR s)).length ≤ 9
    · unfold get6
      rw [rowS_small hL, rowS_small hR]
      cases rowS (sideL s) <;> cases rowS (sideR s) <;> rfl
    · obtain ⟨h1, h2⟩ := rowS_over (s := sideR s) (by omega)
      have e : get6 s = none := by
        unfold get6
        rw [h1]
        cases row6 (sideL s) <;> rfl
      rw [e]
      cases e1 : rowS (sideL s) with
      | none => rfl
      | some h =>
        cases e2 : rowS (sideR s) with
        | none => rfl
        | some t =>
          have := h2 t e2
          exact (if_neg (by omega)).symm
  · obtain ⟨h1, h2⟩ := rowS_over (s := sideL s) (by omega)
    have e : get6 s = none := by
      unfold get6
      rw [h1]
    rw [e]
    cases e1 : rowS (sideL s) with
    | none => rfl
    | some h =>
      cases e2 : rowS (sideR s) with
      | none => rfl
      | some t =>
        have := h2 h e1
        exact (if_neg (by omega)).symm
theorem rowS_lt {s : ByteArray} {l : List Nat} (h : rowS s = some l) : ∀ n ∈ l, n < 65536 := by
  unfold rowS at h
  split at h
  · cases h
    intro n hn
    simp at hn
  · exact mapAll_lt _ _ h
theorem rowS_len {s : ByteArray} {l : List Nat} (h : rowS s = some l) : l.length ≤ s.size + 1 := by
  unfold rowS at h
  split at h
  · cases h
    exact Nat.zero_le _
  · rw [mapAll_len _ _ h]
    exact splitS_len 58 s
theorem rowS_empty : rowS ⟨#[]⟩ = some [] := rfl
theorem part_eight (g : Nat → Nat) : part g 8 = part g 4 * 18446744073709551616 + part (fun j => g (4 + j)) 4 := by
  simp only [part, Nat.reduceAdd]
  omega
theorem part_four {g : Nat → Nat} (h : ∀ k, g k < 65536) : part g 4 < 18446744073709551616 := by
  have := part_lt h 4
  have e : (65536 : Nat) ^ 4 = 18446744073709551616 := by decide
  omega
theorem words_eight {g : Nat → Nat} (h : ∀ k, g k < 65536) : hi (part g 8) = part g 4 ∧ lo (part g 8) = part (fun j => g (4 + j)) 4 := by
  have h1 := part_four h
  have h2 := part_four (g := fun j => g (4 + j)) (fun k => h (4 + k))
  rw [part_eight]
  exact ⟨by rw [hi_mk h2], by rw [lo_mk h2]⟩
theorem part_step {g : Nat → Nat} (h : ∀ k, g k < 65536) {k : Nat} (hk : k < 4) : part g k * 65536 + g k < 18446744073709551616 := by
  have h1 := part_lt h (k + 1)
  have h2 : (65536 : Nat) ^ (k + 1) ≤ 65536 ^ 4 := Nat.pow_le_pow_right (by decide) (by omega)
  have e : (65536 : Nat) ^ 4 = 18446744073709551616 := by decide
  have e2 : part g (k + 1) = part g k * 65536 + g k := rfl
  omega
end Go.Proofs.YtmapcllmiomelaaDoor
