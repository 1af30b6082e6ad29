/-
  Mathematics of the statements about buddy: what is given back, in whatever order blocks are taken, sums. No program is named here. No condition beyond those in each theorem's own statement.
-/
import Derived.Test.YtpieddddckbfdaaBuO
import Derived.Test.YtpieddddckbfdaaBuL
namespace Go.Proofs.Ytpieddddckbfdaa
open Go

theorem snd_end {p : Bk} (fp : Fits p.1) (sp : sndB p = true) : endB p ≤ 340282366920938463463374607431768211456 := by
  obtain ⟨⟨h0, h1⟩, hc⟩ := snd_iff.1 sp
  have h := fits_lastS fp hc (by omega)
  have hp := pow_pos (128 - p.2.toNat)
  unfold lastS Fits at h
  unfold endB szB
  omega
theorem cov_fit {p x : Bk} (fp : Fits p.1) (h : covB p x = true) : FitB x := by
  obtain ⟨sp, sx, h1, h2⟩ := cov_iff.1 h
  have h3 := snd_end fp sp
  have h4 := end_pos x
  obtain ⟨⟨k0, k1⟩, _⟩ := snd_iff.1 sx
  exact ⟨by unfold Fits; omega, by unfold I64; omega⟩
theorem can_fit {p : Bk} {L : List Bk} (fp : Fits p.1) (h : ∀ x ∈ L, covB p x = true) : FitL L := fun x hx => cov_fit fp (h x hx)
theorem good_fit {p : Bk} {L : List Bk} (fp : Fits p.1) (h : goodL p L = true) : FitL L := can_fit fp (good_iff.1 h).2.1.1
theorem free_cases (p : Bk) (l : List Bk) : (∃ n, freeL p l = ([], n) ∧ (n = 1 ∨ n = 110)) ∨ ∃ F, freeL p l = (F, 0) ∧ sndB p = true ∧ (∀ x ∈ l, covB p x = true) ∧ goodL p F = true ∧ F.length ≤ 128 * l.length + 1 ∧ metsL l = false ∧ F = carveL 129 p (sortB l) := by
  have hsp := fun h1 h2 hm => (free_spec (p := p) (L := l) h1 h2 hm).1
  unfold freeL
  generalize hF : carveL 129 p (sortB l) = F at *
  cases h : (sndB p && l.all (covB p)) with
  | false => exact Or.inl ⟨1, if_neg (by simp), Or.inl rfl⟩
  | true =>
    rw [Bool.and_eq_true, List.all_eq_true] at h
    rw [if_pos rfl]
    cases hm : metsL l with
    | true => exact Or.inl ⟨110, if_pos rfl, Or.inr rfl⟩
    | false =>
      have f := hsp h.1 h.2 hm
      exact Or.inr ⟨F, if_neg (by simp), h.1, h.2, good_iff.2 ⟨h.1, f.can⟩, f.len, rfl, rfl⟩
theorem free_perm {p : Bk} {l m : List Bk} (h : m.Perm l) : freeL p m = freeL p l := by
  have e1 : m.all (covB p) = l.all (covB p) := by
    rw [Bool.eq_iff_iff, List.all_eq_true, List.all_eq_true]
    exact ⟨fun k x hx => k x (h.symm.subset hx), fun k x hx => k x (h.subset hx)⟩
  unfold freeL
  rw [e1, mets_perm h]
  cases hc : (sndB p && l.all (covB p)) with
  | false => rw [if_neg (by simp), if_neg (by simp)]
  | true =>
    rw [Bool.and_eq_true, List.all_eq_true] at hc
    rw [if_pos rfl, if_pos rfl]
    cases hm : metsL l with
    | true => rw [if_pos rfl, if_pos rfl]
    | false =>
      have e2 : sortB m = sortB l := ord_perm (p := p) (sort_ord (fun x hx => hc.2 x (h.subset hx)) (by rw [mets_perm h]; exact hm)) (sort_ord hc.2 hm) (((sort_perm m).trans h).trans (sort_perm l).symm)
      rw [e2]
theorem reserve_cases {p b : Bk} {L : List Bk} (hg : goodL p L = true) : (∃ n, reserveL p L b = ([], n) ∧ (n = 1 ∨ n = 110)) ∨ ∃ R, reserveL p L b = (R, 0) ∧ covB p b = true ∧ anyC L b = true ∧ IsFree p R (fun a => inL L a ∧ ¬ hasB b a = true) (sumB L - szB b) (L.length + 128) := by
  unfold reserveL
  rw [hg, Bool.true_and]
  cases hc : covB p b with
  | false => exact Or.inl ⟨1, by rw [if_neg (by simp)], Or.inl rfl⟩
  | true =>
    rw [if_pos rfl]
    cases hf : findC b L with
    | none => exact Or.inl ⟨110, rfl, Or.inr rfl⟩
    | some j =>
      refine Or.inr ⟨_, rfl, rfl, ?_, reserve_spec hg hf⟩
      cases e : anyC L b with
      | true => rfl
      | false => rw [find_none.2 e] at hf; cases hf
theorem free_good {p : Bk} {L : List Bk} {S : Nat → Prop} {m n : Nat} (sp : sndB p = true) (h : IsFree p L S m n) : goodL p L = true := good_iff.2 ⟨sp, h.can⟩
/-- where no address of a block is, none of the list meets it -/
theorem no_met {L : List Bk} {b : Bk} (h : ∀ a, inL L a → ¬ hasB b a = true) : anyM L b = false := by
  unfold anyM
  rw [List.any_eq_false]
  intro x hx hm
  obtain ⟨sx, sb⟩ := met_snd hm
  obtain ⟨h1, h2⟩ := (met_iff sx sb).1 hm
  have e1 := end_pos x
  have e2 := end_pos b
  rcases Nat.le_total x.1 b.1 with e | e
  · exact h b.1 ⟨x, hx, (has_int sx).2 ⟨e, h2⟩⟩ (has_self sb)
  · exact h x.1 ⟨x, hx, has_self sx⟩ ((has_int sb).2 ⟨e, h1⟩)
theorem cov_any {L : List Bk} {b : Bk} (h : anyC L b = true) : anyM L b = true := by
  unfold anyC at h
  unfold anyM
  rw [List.any_eq_true] at h ⊢
  obtain ⟨x, hx, hc⟩ := h
  exact ⟨x, hx, by rw [metB_or, hc]; rfl⟩
theorem no_cov {L : List Bk} {b : Bk} (h : anyM L b = false) : findC b L = none := by
  rw [find_none]
  cases e : anyC L b with
  | false => rfl
  | true => rw [cov_any e] at h; cases h
/-- a block that is reserved and given back -/
theorem back_spec {p b : Bk} {F R : List Bk} (hg : goodL p F = true) (hc : covB p b = true) (ha : anyC F b = true) (hR : IsFree p R (fun a => inL F a ∧ ¬ hasB b a = true) (sumB F - szB b) (F.length + 128)) :
    goodL p R = true ∧ giveL p R b = (F, 0) ∧ reserveL p R b = ([], 110) ∧ giveL p F b = ([], 110) := by
  obtain ⟨sp, cF⟩ := good_iff.1 hg
  have gR := free_good sp hR
  have nm : anyM R b = false := no_met (fun a k => ((hR.mem a).1 k).2)
  have gs := give_spec gR hc nm
  have hin : ∀ a, hasB b a = true → inL F a := by
    intro a k
    unfold anyC at ha
    rw [List.any_eq_true] at ha
    obtain ⟨x, hx, hcx⟩ := ha
    exact ⟨x, hx, covers_has hcx k⟩
  have e : growL 130 R (placeN R b.1) b (placeN R b.1) = F := can_eq sp gs.can cF (fun a => by
    rw [gs.mem, hR.mem]
    by_cases k : hasB b a = true
    · exact ⟨fun _ => hin a k, fun _ => Or.inr k⟩
    · exact ⟨fun h => h.elim (fun h => h.1) (fun h => absurd h k), fun h => Or.inl ⟨h, k⟩⟩)
  refine ⟨gR, ?_, ?_, ?_⟩
  · unfold giveL
    rw [gR, hc, nm, e]
    rfl
  · unfold reserveL
    rw [gR, hc, no_cov nm]
    rfl
  · unfold giveL
    rw [hg, hc, cov_any ha]
    rfl
/-- one element more of a list that is turned -/
theorem turn_next {l : List Bk} {k : Nat} {x : Bk} (hx : l[k]? = some x) : (l.drop k).reverse = (l.drop (k + 1)).reverse ++ [x] := by
  obtain ⟨hl, he⟩ := List.getElem?_eq_some_iff.1 hx
  rw [List.drop_eq_getElem_cons hl, he, List.reverse_cons]
end Go.Proofs.Ytpieddddckbfdaa
