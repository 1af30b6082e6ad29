/-
  What a draw picks, by members and counts: arithmetic and lists only.
-/
import Derived.Test.YtfmhpnendcikoaaPoW
namespace Go.Proofs.Ytfmhpnendcikoaa
open Go.RowKit Go.Joins

theorem cnt_zero {l : List Rg} (hs : Snd l) : cntL l = 0 ↔ l = [] := by
  constructor
  · intro h
    by_cases e : l = []
    · exact e
    · have := cnt_pos hs e
      omega
  · intro h; subst h; rfl
theorem cntO_iff {l : List Rg} (hs : Snd l) (hf : FitL l) : cntO l = true ↔ cntL l = 340282366920938463463374607431768211456 := by
  have h1 := tot_cnt hs hf
  have h2 := cnt_le hs hf
  unfold cntO
  rw [sound_snd.2 hs, h1]
  simp only [Bool.true_and, Bool.and_eq_true, decide_eq_true_eq]
  constructor
  · rintro ⟨a, b⟩
    have : cntL l ≠ 0 := fun e => by
      have := (cnt_zero hs).1 e
      rw [this] at a
      simp at a
    omega
  · intro h
    refine ⟨?_, by rw [h]⟩
    rcases Nat.eq_zero_or_pos l.length with e | e
    · have := List.length_eq_zero_iff.1 e
      rw [this] at h
      simp [cntL] at h
    · exact e
theorem cntV_eq {l : List Rg} (hs : Snd l) (hf : FitL l) (ho : cntO l = false) : cntV l = cntL l ∧ cntL l < 340282366920938463463374607431768211456 := by
  have h1 := tot_cnt hs hf
  have h2 := cnt_le hs hf
  have h3 : cntL l ≠ 340282366920938463463374607431768211456 := fun e => by rw [(cntO_iff hs hf).2 e] at ho; cases ho
  unfold cntV
  rw [if_pos (sound_snd.2 hs), h1]
  omega
theorem cntV_all {l : List Rg} (hs : Snd l) (hf : FitL l) (ho : cntO l = true) : cntV l = 0 := by
  have h1 := tot_cnt hs hf
  unfold cntV
  rw [if_pos (sound_snd.2 hs), h1, (cntO_iff hs hf).1 ho]
theorem pickN_lt {l : List Rg} (hs : Snd l) (hf : FitL l) (hne : l ≠ []) {d : Nat} (hd : d < 18446744073709551616) : pickN l d < cntL l ∧ Fits (pickN l d) := by
  have hp := cnt_pos hs hne
  unfold pickN
  cases ho : cntO l with
  | true =>
    rw [if_pos rfl]
    have := (cntO_iff hs hf).1 ho
    unfold Fits
    omega
  | false =>
    obtain ⟨h1, h2⟩ := cntV_eq hs hf ho
    rw [if_neg (by simp), h1, if_neg (by omega)]
    have := Nat.mod_lt d hp
    unfold Fits
    omega
/-- there is one just if something is free, and it is free -/
theorem pick_spec {l : List Rg} (hs : Snd l) (hf : FitL l) {d : Nat} (hd : d < 18446744073709551616) :
    nthO l (pickN l d) = decide (0 < l.length) ∧ (l = [] → nthV l (pickN l d) = 0) ∧ (l ≠ [] → memL l (nthV l (pickN l d)) ∧ bel (nthV l (pickN l d)) l = pickN l d ∧ Fits (nthV l (pickN l d))) := by
  by_cases hne : l = []
  · subst hne
    exact ⟨rfl, fun _ => rfl, fun h => absurd rfl h⟩
  · obtain ⟨h1, h2⟩ := pickN_lt hs hf hne hd
    obtain ⟨a, e, m, b, f⟩ := nth_at hs hf h2 h1
    obtain ⟨v, o⟩ := nth_some (sound_snd.2 hs) e
    refine ⟨?_, fun h => absurd h hne, fun _ => by rw [v]; exact ⟨m, b, f⟩⟩
    rw [o]
    symm
    rw [decide_eq_true_iff]
    exact Nat.pos_of_ne_zero (fun e => hne (List.length_eq_zero_iff.1 e))
theorem any_in {p : List Rg} {a : Nat} (h : memL p a) : p.any (fun x => inB x a) = true := by
  obtain ⟨x, hx, hi⟩ := h
  exact List.any_eq_true.2 ⟨x, hx, (in_iff x a).2 hi⟩
/-- all that PoolPicks asks -/
theorem picks_all {p : List Rg} {t1 t2 : List Nat} (ok : okL p = true) (fp : FitL p) (f1 : ∀ a ∈ t1, Fits a) (f2 : ∀ a ∈ t2, Fits a) {d : Nat} (hd : d < 18446744073709551616) :
    ∃ S F : List Rg, buildR p t1 = (S, 0) ∧ freeR S t2 = (F, 0) ∧ soundL F = true ∧ FitL S ∧ FitL F ∧ S.length ≤ 2 * p.length + t1.length ∧ F.length ≤ 2 * S.length + t2.length ∧ nthO F (pickN F d) = decide (0 < F.length) ∧
      (F = [] → nthV F (pickN F d) = 0) ∧ (F ≠ [] → (p.any (fun x => inB x (nthV F (pickN F d))) = true) ∧ nthV F (pickN F d) ∉ t1 ∧ nthV F (pickN F d) ∉ t2 ∧ hasB F (nthV F (pickN F d)) = true) := by
  obtain ⟨j1, j2, j3, j4⟩ := jn_spec (okL_iff.1 ok) fp
  obtain ⟨s1, s2, s3, s4⟩ := free_spec j1 j2 f1
  obtain ⟨g1, g2, g3, g4⟩ := free_spec s1 s2 f2
  refine ⟨freeS (jnL p) t1, freeS (freeS (jnL p) t1) t2, by unfold buildR; rw [if_pos ok], by unfold freeR; rw [if_pos (sound_snd.2 s1)], sound_snd.2 g1, s2, g2, by omega, g3, ?_, ?_, ?_⟩
  · exact (pick_spec g1 g2 hd).1
  · exact (pick_spec g1 g2 hd).2.1
  · intro hne
    obtain ⟨m, _, _⟩ := (pick_spec g1 g2 hd).2.2 hne
    have h1 := (g4 _).1 m
    have h2 := (s4 _).1 h1.1
    have h3 := (j4 _).1 h2.1
    exact ⟨any_in h3, h2.2, h1.2, (hasB_iff g1 _).2 m⟩
theorem lstA_take {q : Option Go.Addr} {c f : Nat} {l : List Nat} {W : World} (h : LstA (.slice q l.length c) l W) (hf : f ≤ l.length) : LstA (.slice q f c) (l.take f) W := by
  obtain ⟨_, h1, h2, h3⟩ := lstA_cap h
  have hlen : (l.take f).length = f := by rw [List.length_take]; omega
  rcases Nat.eq_zero_or_pos f with h0 | h0
  · subst h0
    exact Or.inl ⟨q, c, rfl, by simp, h3, h2⟩
  · rcases h with ⟨p', c', hv, rfl, _⟩ | ⟨b, o, c', hv, hr, hc, hne, hcb⟩
    · simp at hf; omega
    · cases hv
      refine Or.inr ⟨b, o, c, by rw [hlen], ⟨hr.1, fun j x hx => ?_⟩, by omega, fun e => by rw [e] at hlen; simp at hlen; omega, hcb⟩
      rw [List.getElem?_take] at hx
      split at hx
      · exact hr.2 j x hx
      · cases hx
theorem lstA_dropE {q : Option Go.Addr} {c i : Nat} {l : List Nat} {W : World} (h : LstA (.slice q l.length c) l W) (hi : i ≤ l.length) (hc : c = i) : LstA (.slice q (l.length - i) 0) (l.drop i) W := by
  obtain ⟨_, h2, h3, h4⟩ := lstA_cap h
  have e : l.drop i = [] := List.drop_eq_nil_of_le (by omega)
  rw [e, show l.length - i = 0 by omega]
  exact Or.inl ⟨_, _, rfl, rfl, fun _ => rfl, by omega⟩
theorem lstA_dropN {q : Option Go.Addr} {c i : Nat} {l : List Nat} {W : World} (h : LstA (.slice q l.length c) l W) (hi : i ≤ l.length) (hc : ¬ c = i) : LstA (.slice (Option.map (fun x => x.add (i * 2)) q) (l.length - i) (c - i)) (l.drop i) W := by
  obtain ⟨_, h2, h3, h4⟩ := lstA_cap h
  cases q with
  | none => exact absurd (h4 rfl) (by omega)
  | some ad =>
    by_cases hd : l.drop i = []
    · have hlen : (l.drop i).length = l.length - i := List.length_drop
      rw [hd] at hlen
      simp at hlen
      rw [hd, ← hlen]
      exact Or.inl ⟨_, _, rfl, rfl, fun e => (by cases e), by omega⟩
    · rcases h with ⟨p', c', hv, rfl, _⟩ | ⟨b', o', c', hv, hr, _⟩
      · simp at hd
      · cases hv
        have hlen : (l.drop i).length = l.length - i := List.length_drop
        have e : Option.map (fun x : Go.Addr => x.add (i * 2)) (some ⟨b', o', none⟩) = some ⟨b', o' + i * 2, none⟩ := by rw [Option.map_some, add_at]
        rw [e]
        refine Or.inr ⟨b', o' + i * 2, c - i, by rw [hlen], ⟨hr.1, fun j x hx => ?_⟩, by omega, hd, by omega⟩
        rw [List.getElem?_drop] at hx
        have := hr.2 (i + j) x hx
        rwa [show o' + (i + j) * 2 = o' + i * 2 + j * 2 by omega] at this
theorem take_drop_mem {t : List Nat} {h a : Nat} (h1 : a ∉ t.take h) (h2 : a ∉ t.drop h) : a ∉ t := fun hm => by
  rw [← List.take_append_drop h t] at hm
  rcases List.mem_append.1 hm with h | h
  · exact h1 h
  · exact h2 h
end Go.Proofs.Ytfmhpnendcikoaa
