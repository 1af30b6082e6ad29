/-
  The document's own answers of layer 11: what is free of a block, half by half; they are the program's. No program is named here. No condition beyond those in each theorem's own statement.
-/
import Derived.Test.YtpieddddckbfdaaBuO
namespace Go.Proofs.Ytpieddddckbfdaa
open Go

def restL : Nat → Bk → List Bk → List Bk → List Bk
  | 0, _, _, _ => []
  | k + 1, b, yes, no =>
    if !anyM yes b || anyC no b then []
    else if anyC yes b && !anyM no b then [b]
    else if restL k (lowB b) yes no = [lowB b] ∧ restL k (highB b) yes no = [highB b] then [b]
    else restL k (lowB b) yes no ++ restL k (highB b) yes no
/-- how many of a list lie in a block and aren't it -/
def properN (b : Bk) (l : List Bk) : Nat := l.countP (fun x => covB b x && !decide (x = b))
theorem proper_half {b : Bk} (hs : sndB b = true) (hb : b.2 < 128) : ∀ l : List Bk, properN (lowB b) l + properN (highB b) l ≤ properN b l
  | [] => by simp [properN]
  | x :: r => by
    have ih := proper_half hs hb r
    obtain ⟨f1, f2, f3, f4, f5⟩ := half_all hs hb
    obtain ⟨c1, c2⟩ := cov_low hs hb
    have u1 := end_pos (lowB b)
    have u2 := end_pos (highB b)
    unfold properN at *
    rw [List.countP_cons, List.countP_cons, List.countP_cons]
    have k1 : (covB (lowB b) x && !decide (x = lowB b)) = true → (covB b x && !decide (x = b)) = true ∧ ¬ (covB (highB b) x && !decide (x = highB b)) = true := by
      rw [Bool.and_eq_true]
      rintro ⟨h1, _⟩
      have h2 := cov_trans c1 h1
      have ne : x ≠ b := fun e => by
        rw [e] at h1
        have := cov_iff.1 h1; omega
      refine ⟨by simp [h2, ne], fun h3 => ?_⟩
      rw [Bool.and_eq_true] at h3
      have a := cov_iff.1 h1
      have c := cov_iff.1 h3.1
      have := end_pos x
      omega
    have k2 : (covB (highB b) x && !decide (x = highB b)) = true → (covB b x && !decide (x = b)) = true := by
      rw [Bool.and_eq_true]
      rintro ⟨h1, _⟩
      have h2 := cov_trans c2 h1
      have ne : x ≠ b := fun e => by
        rw [e] at h1
        have := cov_iff.1 h1
        have := low_1 b
        omega
      simp [h2, ne]
    split
    · rename_i h
      obtain ⟨k3, k4⟩ := k1 h
      rw [if_neg k4, if_pos k3]
      omega
    · split
      · rename_i h
        rw [if_pos (k2 h)]
        omega
      · omega
theorem anyM_iff {l : List Bk} {b : Bk} : anyM l b = true ↔ ∃ x ∈ l, metB x b = true := by unfold anyM; rw [List.any_eq_true]
theorem anyC_iff {l : List Bk} {b : Bk} : anyC l b = true ↔ ∃ x ∈ l, covB x b = true := by unfold anyC; rw [List.any_eq_true]
theorem covC_in {l : List Bk} {b : Bk} {a : Nat} (h : anyC l b = true) (k : hasB b a = true) : inL l a := by
  obtain ⟨x, hx, hc⟩ := anyC_iff.1 h
  exact ⟨x, hx, covers_has hc k⟩
theorem metM_in {l : List Bk} {b : Bk} {a : Nat} (sb : sndB b = true) (h : inL l a) (k : hasB b a = true) : anyM l b = true := by
  obtain ⟨x, hx, hc⟩ := h
  refine anyM_iff.2 ⟨x, hx, ?_⟩
  have a1 := (has_int (has_snd hc)).1 hc
  have a2 := (has_int sb).1 k
  exact (met_iff (has_snd hc) sb).2 ⟨by omega, by omega⟩
theorem met_proper {l : List Bk} {b : Bk} (h : anyM l b = true) (k : anyC l b = false) : 0 < properN b l := by
  obtain ⟨x, hx, hm⟩ := anyM_iff.1 h
  have hc : covB x b = false := by
    unfold anyC at k
    rw [List.any_eq_false] at k
    simpa using k x hx
  rw [metB_or, hc, Bool.false_or] at hm
  have ne : x ≠ b := fun e => by rw [e] at hm hc; rw [hm] at hc; cases hc
  unfold properN
  exact List.countP_pos_iff.2 ⟨x, hx, by simp [hm, ne]⟩
theorem proper_bits {l : List Bk} {b : Bk} (h : 0 < properN b l) : b.2 < 128 := by
  obtain ⟨x, _, hx⟩ := List.countP_pos_iff.1 h
  rw [Bool.and_eq_true] at hx
  exact (cov_half hx.1 (by simpa using hx.2)).1
theorem rest_spec : ∀ (k : Nat) (b : Bk) (yes no : List Bk), sndB b = true → 128 - b.2.toNat < k →
    CanL b (restL k b yes no) ∧ (∀ a, inL (restL k b yes no) a ↔ hasB b a = true ∧ inL yes a ∧ ¬ inL no a) ∧ (restL k b yes no).length ≤ (128 - b.2.toNat) * (properN b yes + properN b no) + 1
  | 0, b, yes, no, _, hk => by omega
  | k + 1, b, yes, no, sb, hk => by
    unfold restL
    cases h1 : anyM yes b with
    | false =>
      rw [if_pos (by simp)]
      refine ⟨can_nil _, fun a => ⟨fun h => absurd h inL_nil, fun ⟨h2, h3, _⟩ => ?_⟩, by simp⟩
      rw [metM_in sb h3 h2] at h1; cases h1
    | true =>
      cases h2 : anyC no b with
      | true =>
        rw [if_pos (by simp)]
        refine ⟨can_nil _, fun a => ⟨fun h => absurd h inL_nil, fun ⟨h3, _, h4⟩ => absurd (covC_in h2 h3) h4⟩, by simp⟩
      | false =>
        rw [if_neg (by simp)]
        by_cases h5 : (anyC yes b && !anyM no b) = true
        · rw [if_pos h5]
          rw [Bool.and_eq_true, Bool.not_eq_true'] at h5
          refine ⟨can_one (cov_self sb), fun a => ?_, by simp⟩
          rw [inL_one]
          refine ⟨fun h => ⟨h, covC_in h5.1 h, fun h6 => ?_⟩, fun h => h.1⟩
          rw [metM_in sb h6 h] at h5; cases h5.2
        · rw [if_neg h5]
          have hpos : 0 < properN b yes + properN b no := by
            cases h6 : anyC yes b with
            | false => have := met_proper h1 h6; omega
            | true =>
              rw [h6, Bool.true_and] at h5
              have := met_proper (l := no) (b := b) (by simpa using h5) h2
              omega
          have hb : b.2 < 128 := by
            rcases Nat.lt_or_ge 0 (properN b yes) with h | h
            · exact proper_bits h
            · exact proper_bits (l := no) (b := b) (by omega)
          obtain ⟨f1, f2, f3, f4, f5⟩ := half_all sb hb
          obtain ⟨⟨g0, g1⟩, _⟩ := snd_iff.1 sb
          have ih1 := rest_spec k (lowB b) yes no f1 (by rw [low_2]; omega)
          have ih2 := rest_spec k (highB b) yes no f2 (by rw [high_2]; omega)
          have p1 := proper_half sb hb yes
          have p2 := proper_half sb hb no
          have pm := fun a => par_mem sb hb a
          rw [low_2] at ih1
          rw [high_2] at ih2
          rw [show 128 - (b.2 + 1).toNat = 127 - b.2.toNat by omega] at ih1 ih2
          rw [show 128 - b.2.toNat = (127 - b.2.toNat) + 1 by omega]
          generalize restL k (lowB b) yes no = C at *
          generalize restL k (highB b) yes no = D at *
          generalize 127 - b.2.toNat = m at *
          obtain ⟨a1, a2, a3⟩ := ih1
          obtain ⟨b1, b2, b3⟩ := ih2
          have hmem : ∀ a, inL (C ++ D) a ↔ hasB b a = true ∧ inL yes a ∧ ¬ inL no a := by
            intro a
            rw [inL_append, a2, b2, pm]
            constructor
            · rintro (⟨x, y⟩ | ⟨x, y⟩)
              · exact ⟨Or.inl x, y⟩
              · exact ⟨Or.inr x, y⟩
            · rintro ⟨x | x, y⟩
              · exact Or.inl ⟨x, y⟩
              · exact Or.inr ⟨x, y⟩
          by_cases h7 : C = [lowB b] ∧ D = [highB b]
          · rw [if_pos h7]
            refine ⟨can_one (cov_self sb), fun a => ?_, by simp⟩
            rw [← hmem, h7.1, h7.2, inL_one, inL_append, inL_one, inL_one, pm]
          · rw [if_neg h7]
            refine ⟨can_concat sb hb a1 b1 h7, hmem, ?_⟩
            rw [List.length_append]
            have q1 := Nat.mul_le_mul_left m (show (properN (lowB b) yes + properN (lowB b) no) + (properN (highB b) yes + properN (highB b) no) ≤ properN b yes + properN b no by omega)
            rw [Nat.mul_add] at q1
            rw [Nat.add_mul, Nat.one_mul]
            omega
theorem proper_le (b : Bk) (l : List Bk) : properN b l ≤ l.length := List.countP_le_length
theorem rest_len (k : Nat) (b : Bk) (yes no : List Bk) (sb : sndB b = true) (hk : 128 - b.2.toNat < k) : (restL k b yes no).length ≤ 128 * (yes.length + no.length) + 1 := by
  have h := (rest_spec k b yes no sb hk).2.2
  have h1 := proper_le b yes
  have h2 := proper_le b no
  have h3 := Nat.mul_le_mul (show 128 - b.2.toNat ≤ 128 by omega) (show properN b yes + properN b no ≤ yes.length + no.length by omega)
  omega

/-! ### the document's calls are the program's -/
def rtakeL (p : Bk) (L : List Bk) (bits : Int) : List Bk × Bk × Int :=
  if goodL p L && (decide (p.2 ≤ bits) && decide (bits ≤ 128)) then
    match bestL L bits L.length with
    | none => ([], (0, 0), 110)
    | some j => (restL 129 p L [((L.getD j (0, 0)).1, bits)], ((L.getD j (0, 0)).1, bits), 0)
  else ([], (0, 0), 1)
def rreserveL (p : Bk) (L : List Bk) (b : Bk) : Ans :=
  if goodL p L && covB p b then
    if anyC L b then (restL 129 p L [b], 0) else ([], 110)
  else ([], 1)
def rgiveL (p : Bk) (L : List Bk) (b : Bk) : Ans :=
  if goodL p L && covB p b then
    if anyM L b then ([], 110) else (restL 129 p (b :: L) [], 0)
  else ([], 1)
def rfreeL (p : Bk) (L : List Bk) : Ans :=
  if sndB p && L.all (covB p) then
    if metsL L then ([], 110) else (restL 129 p [p] L, 0)
  else ([], 1)
theorem rest_eq {p : Bk} {M yes no : List Bk} {S : Nat → Prop} {m n : Nat} (sp : sndB p = true) (h : IsFree p M S m n) (hS : ∀ a, S a ↔ hasB p a = true ∧ inL yes a ∧ ¬ inL no a) : restL 129 p yes no = M := by
  obtain ⟨⟨z0, z1⟩, _⟩ := snd_iff.1 sp
  obtain ⟨r1, r2, _⟩ := rest_spec 129 p yes no sp (by omega)
  exact can_eq sp r1 h.can (fun a => by rw [r2, h.mem, hS])
theorem rtake_eq (p : Bk) (L : List Bk) (bits : Int) : rtakeL p L bits = takeL p L bits := by
  unfold rtakeL
  by_cases h : (goodL p L && (decide (p.2 ≤ bits) && decide (bits ≤ 128))) = true
  · rw [if_pos h]
    have h' := h
    rw [Bool.and_eq_true, Bool.and_eq_true, decide_eq_true_iff, decide_eq_true_iff] at h'
    obtain ⟨h1, h2, h3⟩ := h'
    cases hb : bestL L bits L.length with
    | none => unfold takeL; rw [if_pos h, hb]
    | some j =>
      obtain ⟨t1, t2, t3, t4, t5, _⟩ := take_spec h1 h2 h3 hb
      rw [t1]
      simp only
      have sp := (good_iff.1 h1)
      rw [rest_eq sp.1 t5 (fun a => ?_)]
      rw [inL_one]
      exact ⟨fun k => ⟨ord_in sp.2.1 k.1, k⟩, fun k => k.2⟩
  · rw [if_neg h]; unfold takeL; rw [if_neg h]
theorem rreserve_eq (p : Bk) (L : List Bk) (b : Bk) : rreserveL p L b = reserveL p L b := by
  unfold rreserveL reserveL
  by_cases h : (goodL p L && covB p b) = true
  · rw [if_pos h, if_pos h]
    rw [Bool.and_eq_true] at h
    have sp := (good_iff.1 h.1)
    cases hf : findC b L with
    | none => rw [find_none.1 hf]; rfl
    | some j =>
      have hc : anyC L b = true := by
        cases e : anyC L b with
        | true => rfl
        | false => rw [find_none.2 e] at hf; cases hf
      rw [hc, if_pos rfl]
      simp only
      rw [rest_eq sp.1 (reserve_spec h.1 hf) (fun a => ?_)]
      rw [inL_one]
      exact ⟨fun k => ⟨ord_in sp.2.1 k.1, k⟩, fun k => k.2⟩
  · rw [if_neg h, if_neg h]
theorem rgive_eq (p : Bk) (L : List Bk) (b : Bk) : rgiveL p L b = giveL p L b := by
  unfold rgiveL giveL
  by_cases h : (goodL p L && covB p b) = true
  · rw [if_pos h, if_pos h]
    rw [Bool.and_eq_true] at h
    have sp := (good_iff.1 h.1)
    cases hm : anyM L b with
    | true => rfl
    | false =>
      rw [if_neg (by simp), if_neg (by simp)]
      rw [rest_eq sp.1 (give_spec h.1 h.2 hm) (fun a => ?_)]
      rw [inL_cons]
      constructor
      · rintro (k | k)
        · exact ⟨ord_in sp.2.1 k, Or.inr k, inL_nil⟩
        · exact ⟨covers_has h.2 k, Or.inl k, inL_nil⟩
      · rintro ⟨_, k | k, _⟩
        · exact Or.inr k
        · exact Or.inl k
  · rw [if_neg h, if_neg h]
theorem rfree_eq (p : Bk) (L : List Bk) : rfreeL p L = freeL p L := by
  unfold rfreeL freeL
  by_cases h : (sndB p && L.all (covB p)) = true
  · rw [if_pos h, if_pos h]
    rw [Bool.and_eq_true, List.all_eq_true] at h
    cases hm : metsL L with
    | true => rfl
    | false =>
      rw [if_neg (by simp), if_neg (by simp)]
      rw [rest_eq h.1 (free_spec h.1 h.2 hm).1 (fun a => ?_)]
      rw [inL_one]
      exact ⟨fun k => ⟨k.1, k.1, k.2⟩, fun k => ⟨k.1, k.2.2⟩⟩
  · rw [if_neg h, if_neg h]
end Go.Proofs.Ytpieddddckbfdaa
