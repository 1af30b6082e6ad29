/-
  What buddy's functions answer, as functions over lists of blocks, and that these keep the words of the document: the one list of the set that is asked for, its sum, its length. No program is named here. No condition beyond those in each theorem's own statement.
-/
import Derived.Test.YtpieddddckbfdaaBuM
namespace Go.Proofs.Ytpieddddckbfdaa
open Go

/-! ### what is left of a block without holes -/
def carveL : Nat → Bk → List Bk → List Bk
  | 0, _, _ => []
  | k + 1, p, hs => if hs = [] then [p] else if hs.head? = some p then [] else carveL k (lowB p) (belowL hs (highB p).1) ++ carveL k (highB p) (fromL hs (highB p).1)
theorem carve_none (k : Nat) (p : Bk) : carveL (k + 1) p [] = [p] := by unfold carveL; rw [if_pos rfl]
theorem carve_top (k : Nat) (p : Bk) (r : List Bk) : carveL (k + 1) p (p :: r) = [] := by simp [carveL]
theorem carve_step {k : Nat} {p x : Bk} {r : List Bk} (h : x ≠ p) : carveL (k + 1) p (x :: r) = carveL k (lowB p) (belowL (x :: r) (highB p).1) ++ carveL k (highB p) (fromL (x :: r) (highB p).1) := by
  rw [carveL, if_neg (by simp), if_neg (by simpa using h)]
theorem carve_spec : ∀ (k : Nat) (p : Bk) (hs : List Bk), sndB p = true → 128 - p.2.toNat < k → OrdL p hs →
    CanL p (carveL k p hs) ∧ (∀ a, inL (carveL k p hs) a ↔ hasB p a = true ∧ ¬ inL hs a) ∧ sumB (carveL k p hs) + sumB hs = szB p ∧ (carveL k p hs).length ≤ (128 - p.2.toNat) * hs.length + 1
  | 0, p, hs, _, hk, _ => by omega
  | k + 1, p, [], sp, hk, ho => by
    rw [carve_none]
    refine ⟨can_one (cov_self sp), fun a => ?_, by simp [sumB], by simp⟩
    rw [inL_one]
    simp [inL_nil]
  | k + 1, p, x :: r, sp, hk, ho => by
    by_cases hx : x = p
    · subst hx
      have e := ord_whole ho (by simp)
      rw [carve_top, e]
      refine ⟨can_nil _, fun a => ?_, by simp [sumB], by simp⟩
      rw [inL_one]
      simp [inL_nil]
    · have hp : p ∉ x :: r := fun h => by
        have e := ord_whole ho h
        simp at e
        exact hx e.1
      have hb := (cov_half (ho.1 x (by simp)) hx).1
      obtain ⟨f1, f2, f3, f4, f5⟩ := half_all sp hb
      obtain ⟨⟨g0, g1⟩, _⟩ := snd_iff.1 sp
      obtain ⟨o1, o2⟩ := ord_split ho hp hb sp
      rw [carve_step hx]
      have ih1 := carve_spec k (lowB p) _ f1 (by rw [low_2]; omega) o1
      have ih2 := carve_spec k (highB p) _ f2 (by rw [high_2]; omega) o2
      have sp1 := fun a => (split_in ho hp hb sp a).1
      have sp2 := fun a => (split_in ho hp hb sp a).2
      have bf := below_from (x :: r) (highB p).1
      have hxs := has_self (cov_iff.1 (ho.1 x (by simp))).2.1
      have hix : inL (x :: r) x.1 := inL_cons.2 (Or.inl hxs)
      rw [low_2] at ih1
      rw [high_2] at ih2
      rw [show 128 - (p.2 + 1).toNat = 127 - p.2.toNat by omega] at ih1 ih2
      rw [show 128 - p.2.toNat = (127 - p.2.toNat) + 1 by omega]
      generalize belowL (x :: r) (highB p).1 = B at *
      generalize fromL (x :: r) (highB p).1 = F at *
      rw [← bf] at hix ⊢
      rw [← bf] at sp1 sp2
      clear bf ho hk
      generalize carveL k (lowB p) B = C at *
      generalize carveL k (highB p) F = D at *
      generalize 127 - p.2.toNat = m at *
      obtain ⟨a1, a2, a3, a4⟩ := ih1
      obtain ⟨b1, b2, b3, b4⟩ := ih2
      refine ⟨can_concat sp hb a1 b1 ?_, fun a => ?_, ?_, ?_⟩
      · rintro ⟨rfl, rfl⟩
        rcases inL_append.1 hix with k1 | k1
        · exact ((a2 _).1 (inL_one.2 (ord_in o1 k1))).2 k1
        · exact ((b2 _).1 (inL_one.2 (ord_in o2 k1))).2 k1
      · rw [inL_append, a2, b2, sp1, sp2, has_int f1, has_int f2, has_int sp]
        have := low_1 p
        have := end_pos (lowB p)
        have := end_pos (highB p)
        constructor
        · rintro (⟨h1, h2⟩ | ⟨h1, h2⟩)
          · exact ⟨by omega, fun h => h2 ⟨h, by omega⟩⟩
          · exact ⟨by omega, fun h => h2 ⟨h, by omega⟩⟩
        · rintro ⟨h1, h2⟩
          rcases Nat.lt_or_ge a (highB p).1 with l | l
          · exact Or.inl ⟨by omega, fun h => h2 h.1⟩
          · exact Or.inr ⟨by omega, fun h => h2 h.1⟩
      · rw [sumB_append, sumB_append]; omega
      · rw [List.length_append, List.length_append, Nat.add_mul, Nat.mul_add, Nat.one_mul]
        have : 0 < B.length + F.length := by
          rcases B with _ | ⟨u, v⟩
          · rcases F with _ | ⟨u, v⟩
            · exact absurd hix inL_nil
            · simp
          · simp; omega
        omega

/-! ### one block of a list in parts -/
theorem can_repl {p x : Bk} {s t C : List Bk} (h : CanL p (s ++ x :: t)) (hC : CanL x C) : CanL p (s ++ C ++ t) := by
  obtain ⟨⟨h1, h2⟩, h3⟩ := h
  have cx := h1 x (by simp)
  have sx := (cov_iff.1 cx).2.1
  rw [List.pairwise_append] at h2 h3
  obtain ⟨s2, t2, st2⟩ := h2
  obtain ⟨s3, t3, st3⟩ := h3
  have t2' := List.pairwise_cons.1 t2
  have t3' := List.pairwise_cons.1 t3
  have ex := end_pos x
  refine ⟨⟨fun y hy => ?_, ?_⟩, ?_⟩
  · rcases List.mem_append.1 hy with k | k
    · rcases List.mem_append.1 k with k | k
      · exact h1 y (by simp [k])
      · exact cov_trans cx (hC.1.1 y k)
    · exact h1 y (by simp [k])
  · rw [List.append_assoc, List.pairwise_append, List.pairwise_append]
    refine ⟨s2, ⟨hC.1.2, t2'.2, fun c hc d hd => ?_⟩, fun d hd c hc => ?_⟩
    · have a := cov_iff.1 (hC.1.1 c hc)
      have b := t2'.1 d hd
      omega
    · rcases List.mem_append.1 hc with k | k
      · have a := cov_iff.1 (hC.1.1 c k)
        have b := st2 d hd x (by simp)
        omega
      · exact st2 d hd c (by simp [k])
  · rw [List.append_assoc, List.pairwise_append, List.pairwise_append]
    refine ⟨s3, ⟨hC.2, t3'.2, fun c hc d hd => ?_⟩, fun d hd c hc => ?_⟩
    · by_cases e : c = x
      · rw [e]; exact t3'.1 d hd
      · have a := cov_iff.1 (hC.1.1 c hc)
        have b := t2'.1 d hd
        have sd := (cov_iff.1 (h1 d (by simp [hd]))).2.1
        cases hsb : sibB c d with
        | false => rfl
        | true =>
          exfalso
          obtain ⟨q, q1, q2, rfl, rfl⟩ := (sib_iff a.2.1 sd (by omega)).1 hsb
          obtain ⟨g1, g2, g3, g4, g5⟩ := half_all q1 q2
          have e4 := low_1 q
          have u1 := end_pos (lowB q)
          have u2 := end_pos (highB q)
          rcases nested q1 sx (by omega) (by omega) with n | n
          · by_cases eq : x = q
            · subst eq; omega
            · rcases (cov_half n eq).2 with m | m
              · exact e (cov_anti m (hC.1.1 _ hc))
              · have := cov_iff.1 m; omega
          · have := cov_iff.1 n; omega
    · rcases List.mem_append.1 hc with k | k
      · by_cases e : c = x
        · rw [e]; exact st3 d hd x (by simp)
        · have a := cov_iff.1 (hC.1.1 c k)
          have b := st2 d hd x (by simp)
          have sd := (cov_iff.1 (h1 d (by simp [hd]))).2.1
          cases hsb : sibB d c with
          | false => rfl
          | true =>
            exfalso
            obtain ⟨q, q1, q2, rfl, rfl⟩ := (sib_iff sd a.2.1 (by omega)).1 hsb
            obtain ⟨g1, g2, g3, g4, g5⟩ := half_all q1 q2
            have e4 := low_1 q
            have u1 := end_pos (lowB q)
            have u2 := end_pos (highB q)
            rcases nested q1 sx (by omega) (by omega) with n | n
            · by_cases eq : x = q
              · subst eq; omega
              · rcases (cov_half n eq).2 with m | m
                · have := cov_iff.1 m; omega
                · exact e (cov_anti m (hC.1.1 _ k))
            · have := cov_iff.1 n; omega
      · exact st3 d hd c (by simp [k])
def withoutL (L : List Bk) (i : Nat) (x b : Bk) : List Bk := L.take i ++ carveL 129 x [b] ++ L.drop (i + 1)
theorem cut_at {L : List Bk} {i : Nat} {x : Bk} (h : L[i]? = some x) : L = L.take i ++ x :: L.drop (i + 1) := by
  obtain ⟨hl, e⟩ := List.getElem?_eq_some_iff.1 h
  rw [← e, ← List.drop_eq_getElem_cons hl, List.take_append_drop]
theorem without_spec {p : Bk} {L : List Bk} {i : Nat} {x b : Bk} (hc : CanL p L) (hx : L[i]? = some x) (hb : covB x b = true) :
    CanL p (withoutL L i x b) ∧ (∀ a, inL (withoutL L i x b) a ↔ inL L a ∧ ¬ hasB b a = true) ∧ sumB (withoutL L i x b) + szB b = sumB L ∧ (withoutL L i x b).length ≤ L.length + 128 := by
  have hcut := cut_at hx
  unfold withoutL
  generalize L.take i = s at *
  generalize L.drop (i + 1) = t at *
  subst hcut
  obtain ⟨sx, sb, _⟩ := cov_iff.1 hb
  obtain ⟨⟨g0, g1⟩, _⟩ := snd_iff.1 sx
  obtain ⟨c1, c2, c3, c4⟩ := carve_spec 129 x [b] sx (by omega) (can_one hb).1
  simp only [List.length_singleton, Nat.mul_one] at c4
  generalize carveL 129 x [b] = C at *
  refine ⟨can_repl hc c1, fun a => ?_, ?_, ?_⟩
  · rw [inL_append, inL_append, inL_append, inL_cons, c2, inL_one]
    have o := hc.1
    obtain ⟨o1, o2⟩ := o
    rw [List.pairwise_append] at o2
    obtain ⟨_, o3, o4⟩ := o2
    have n1 : inL s a → ¬ hasB b a = true := by
      rintro ⟨y, hy, hya⟩ hba
      have k1 := o4 y hy x (by simp)
      have k2 := (has_int (has_snd hya)).1 hya
      have k3 := (has_int sx).1 (covers_has hb hba)
      omega
    have n2 : inL t a → ¬ hasB b a = true := by
      rintro ⟨y, hy, hya⟩ hba
      have k1 := (List.pairwise_cons.1 o3).1 y hy
      have k2 := (has_int (has_snd hya)).1 hya
      have k3 := (has_int sx).1 (covers_has hb hba)
      omega
    constructor
    · rintro ((h | h) | h)
      · exact ⟨Or.inl h, n1 h⟩
      · exact ⟨Or.inr (Or.inl h.1), h.2⟩
      · exact ⟨Or.inr (Or.inr h), n2 h⟩
    · rintro ⟨h | h | h, k⟩
      · exact Or.inl (Or.inl h)
      · exact Or.inl (Or.inr ⟨h, k⟩)
      · exact Or.inr h
  · rw [sumB_append, sumB_append, sumB_append]
    simp only [sumB] at c3 ⊢
    omega
  · simp only [List.length_append, List.length_cons]
    omega

/-! ### a block that grows together with its other halves -/
def lastSib (L : List Bk) : Nat → Bk → Bool
  | 0, _ => false
  | i + 1, b => match L[i]? with
    | some x => sibB x b
    | none => false
theorem last_succ (L : List Bk) (i : Nat) (b : Bk) : lastSib L (i + 1) b = (match L[i]? with
    | some x => sibB x b
    | none => false) := rfl
def firstSib (L : List Bk) (j : Nat) (b : Bk) : Bool := match L[j]? with
  | some x => sibB b x
  | none => false
def growL : Nat → List Bk → Nat → Bk → Nat → List Bk
  | 0, L, i, b, j => L.take i ++ b :: L.drop j
  | k + 1, L, i, b, j => if lastSib L i b then growL k L (i - 1) (parB b) j else if firstSib L j b then growL k L i (parB b) (j + 1) else L.take i ++ b :: L.drop j
theorem cov_par {p q : Bk} (h1 : sndB q = true) (h2 : q.2 < 128) (a : covB p (lowB q) = true) (b : covB p (highB q) = true) : covB p q = true := by
  obtain ⟨g1, g2, g3, g4, g5⟩ := half_all h1 h2
  have c := cov_iff.1 a
  have d := cov_iff.1 b
  have e4 := low_1 q
  exact cov_iff.2 ⟨c.1, h1, by omega, by omega⟩
theorem merge {p x y q : Bk} {S T : List Bk} (h1 : sndB q = true) (h2 : q.2 < 128) (ex : x = lowB q) (ey : y = highB q) (h : OrdL p (S ++ x :: y :: T)) : OrdL p (S ++ q :: T) := by
  subst ex ey
  obtain ⟨g1, g2, g3, g4, g5⟩ := half_all h1 h2
  obtain ⟨a, b⟩ := h
  rw [List.pairwise_append] at b
  obtain ⟨b1, b2, b3⟩ := b
  have b4 := List.pairwise_cons.1 b2
  have b5 := List.pairwise_cons.1 b4.2
  refine ⟨fun z hz => ?_, ?_⟩
  · rcases List.mem_append.1 hz with k | k
    · exact a z (by simp [k])
    · rcases List.mem_cons.1 k with k | k
      · rw [k]; exact cov_par h1 h2 (a _ (by simp)) (a _ (by simp))
      · exact a z (by simp [k])
  · rw [List.pairwise_append]
    refine ⟨b1, List.pairwise_cons.2 ⟨fun z hz => ?_, b5.2⟩, fun z hz w hw => ?_⟩
    · have := b5.1 z hz; omega
    · rcases List.mem_cons.1 hw with k | k
      · subst k
        have := b3 z hz (lowB w) (by simp)
        rw [low_1] at this
        exact this
      · exact b3 z hz w (by simp [k])
theorem par_mem {q : Bk} (h1 : sndB q = true) (h2 : q.2 < 128) (a : Nat) : hasB q a = true ↔ hasB (lowB q) a = true ∨ hasB (highB q) a = true := by
  obtain ⟨g1, g2, g3, g4, g5⟩ := half_all h1 h2
  rw [has_int h1, has_int g1, has_int g2, low_1]
  have := end_pos (lowB q)
  have := end_pos (highB q)
  have := low_1 q
  omega
theorem grow_spec : ∀ (k : Nat) {p : Bk} (L : List Bk) (i : Nat) (b : Bk) (j : Nat), b.2.toNat < k → OrdL p (L.take i ++ b :: L.drop j) → (L.take i ++ L.drop j).Pairwise (fun x y => sibB x y = false) → i ≤ L.length →
    CanL p (growL k L i b j) ∧ (∀ a, inL (growL k L i b j) a ↔ inL (L.take i) a ∨ hasB b a = true ∨ inL (L.drop j) a) ∧ sumB (growL k L i b j) = sumB (L.take i) + szB b + sumB (L.drop j) ∧ (growL k L i b j).length ≤ (L.take i).length + 1 + (L.drop j).length
  | 0, p, L, i, b, j, hk, _, _, _ => by omega
  | k + 1, p, L, i, b, j, hk, ho, hn, hi => by
    have cb := ho.1 b (by simp)
    have sb := (cov_iff.1 cb).2.1
    obtain ⟨⟨z0, z1⟩, _⟩ := snd_iff.1 sb
    unfold growL
    cases hl : lastSib L i b with
    | true =>
      rw [if_pos rfl]
      cases i with
      | zero => cases hl
      | succ i =>
        rw [last_succ] at hl
        cases hx : L[i]? with
        | none => rw [hx] at hl; cases hl
        | some x =>
          rw [hx] at hl
          simp only at hl
          have et : L.take (i + 1) = L.take i ++ [x] := by rw [List.take_add_one, hx]; rfl
          rw [et] at ho hn ⊢
          have cx := ho.1 x (by simp)
          have ox : endB x ≤ b.1 := by
            have := ho.2
            rw [List.pairwise_append] at this
            exact this.2.2 x (by simp) b (by simp)
          obtain ⟨q, q1, q2, e1, e2⟩ := (sib_iff (cov_iff.1 cx).2.1 sb ox).1 hl
          have e3 : parB b = q := by rw [e2]; exact (par_low q1 q2).2.2.2
          have e4 : b.2 = q.2 + 1 := by rw [e2]; rfl
          obtain ⟨⟨y0, y1⟩, _⟩ := snd_iff.1 q1
          rw [e3, Nat.add_sub_cancel]
          have ho' : OrdL p (L.take i ++ q :: L.drop j) := merge q1 q2 e1 e2 (by simpa using ho)
          have ih := grow_spec k L i q j (by omega) ho' (hn.sublist (by simp)) (by omega)
          refine ⟨ih.1, fun a => ?_, ?_, ?_⟩
          · rw [ih.2.1, inL_append, inL_one, par_mem q1 q2, e1, e2, or_assoc, or_assoc]
          · rw [ih.2.2.1, sumB_append, e1, e2]
            have := (half_all q1 q2).2.2.2.2
            simp only [sumB]
            omega
          · have := ih.2.2.2
            simp only [List.length_append, List.length_singleton]
            omega
    | false =>
      rw [if_neg (by simp)]
      cases hf : firstSib L j b with
      | true =>
        rw [if_pos rfl]
        unfold firstSib at hf
        cases hx : L[j]? with
        | none => rw [hx] at hf; cases hf
        | some x =>
          rw [hx] at hf
          simp only at hf
          obtain ⟨hjl, hje⟩ := List.getElem?_eq_some_iff.1 hx
          have et : L.drop j = x :: L.drop (j + 1) := by rw [← hje]; exact List.drop_eq_getElem_cons hjl
          rw [et] at ho hn ⊢
          have cx := ho.1 x (by simp)
          have ox : endB b ≤ x.1 := by
            have := ho.2
            rw [List.pairwise_append] at this
            exact (List.pairwise_cons.1 this.2.1).1 x (by simp)
          obtain ⟨q, q1, q2, e1, e2⟩ := (sib_iff sb (cov_iff.1 cx).2.1 ox).1 hf
          have e3 : parB b = q := by rw [e1]; exact (par_low q1 q2).2.1
          have e4 : b.2 = q.2 + 1 := by rw [e1]; rfl
          obtain ⟨⟨y0, y1⟩, _⟩ := snd_iff.1 q1
          rw [e3]
          have ho' : OrdL p (L.take i ++ q :: L.drop (j + 1)) := merge q1 q2 e1 e2 ho
          have ih := grow_spec k L i q (j + 1) (by omega) ho' (hn.sublist (by simp)) hi
          refine ⟨ih.1, fun a => ?_, ?_, ?_⟩
          · rw [ih.2.1, inL_cons, par_mem q1 q2, e1, e2, or_assoc]
          · rw [ih.2.2.1, e1, e2]
            have := (half_all q1 q2).2.2.2.2
            simp only [sumB]
            omega
          · have := ih.2.2.2
            simp only [List.length_cons]
            omega
      | false =>
        rw [if_neg (by simp)]
        refine ⟨⟨ho, ?_⟩, fun a => ?_, ?_, ?_⟩
        · obtain ⟨o1, o2⟩ := ho
          rw [List.pairwise_append] at o2 hn ⊢
          obtain ⟨o3, o4, o5⟩ := o2
          obtain ⟨n1, n2, n3⟩ := hn
          have o6 := List.pairwise_cons.1 o4
          refine ⟨n1, List.pairwise_cons.2 ⟨fun y hy => ?_, n2⟩, fun x hx y hy => ?_⟩
          · have sy := (cov_iff.1 (o1 y (by simp [hy]))).2.1
            have oy := o6.1 y hy
            cases hsb : sibB b y with
            | false => rfl
            | true =>
              exfalso
              obtain ⟨q, q1, q2, e1, e2⟩ := (sib_iff sb sy oy).1 hsb
              have adj : endB b = y.1 := by rw [e1, e2]; exact (half_all q1 q2).2.2.1
              unfold firstSib at hf
              cases hx : L[j]? with
              | none =>
                have : L.drop j = [] := List.drop_eq_nil_of_le (List.getElem?_eq_none_iff.1 hx)
                rw [this] at hy; simp at hy
              | some z =>
                rw [hx] at hf
                simp only at hf
                obtain ⟨hjl, hje⟩ := List.getElem?_eq_some_iff.1 hx
                have et : L.drop j = z :: L.drop (j + 1) := by rw [← hje]; exact List.drop_eq_getElem_cons hjl
                rw [et] at hy o6
                rcases List.mem_cons.1 hy with e | e
                · rw [e, hf] at hsb; cases hsb
                · have a1 := o6.1 z (by simp)
                  have a2 := (List.pairwise_cons.1 o6.2).1 y e
                  have := end_pos z
                  omega
          · rcases List.mem_cons.1 hy with e | e
            · subst e
              have sx := (cov_iff.1 (o1 x (by simp [hx]))).2.1
              have ox := o5 x hx y (by simp)
              cases hsb : sibB x y with
              | false => rfl
              | true =>
                exfalso
                obtain ⟨q, q1, q2, e1, e2⟩ := (sib_iff sx sb ox).1 hsb
                have adj : endB x = y.1 := by rw [e1, e2]; exact (half_all q1 q2).2.2.1
                cases i with
                | zero => simp at hx
                | succ i =>
                  rw [last_succ] at hl
                  cases hz : L[i]? with
                  | none =>
                    have := List.getElem?_eq_none_iff.1 hz
                    omega
                  | some z =>
                    rw [hz] at hl
                    simp only at hl
                    have et : L.take (i + 1) = L.take i ++ [z] := by rw [List.take_add_one, hz]; rfl
                    rw [et] at hx o3 o5
                    rcases List.mem_append.1 hx with e | e
                    · rw [List.pairwise_append] at o3
                      have a1 := o3.2.2 x e z (by simp)
                      have a2 := o5 z (by simp) y (by simp)
                      have := end_pos z
                      omega
                    · simp at e
                      rw [e, hl] at hsb; cases hsb
            · exact n3 x hx y e
        · rw [inL_append, inL_cons]
        · rw [sumB_append]; simp only [sumB]; omega
        · simp only [List.length_append, List.length_cons]; omega
end Go.Proofs.Ytpieddddckbfdaa
