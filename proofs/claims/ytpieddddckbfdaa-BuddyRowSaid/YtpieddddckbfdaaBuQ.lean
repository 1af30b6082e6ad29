/-
  Mathematics of BuddyRow: what stays true through takings and givings back; one element of a row replaced by the last; rows of a call's own that are written or cut. Conditions: those of each theorem's own statement.
-/
import Derived.Test.YtpieddddckbfdaaBuH
import Derived.Test.YtpieddddckbfdaaBuP
import Derived.Test.YtpieddddckbfdaaBuY
import Derived.Test.YtpieddddckbfdaaBuK
namespace Go.Proofs.Ytpieddddckbfdaa
open Go.RowKit Go.Joins

theorem met_share {x y : Bk} (h : metB x y = true) : ∃ a, hasB x a = true ∧ hasB y a = true := by
  obtain ⟨sx, sy⟩ := met_snd h
  obtain ⟨h1, h2⟩ := (met_iff sx sy).1 h
  have e1 := end_pos x
  have e2 := end_pos y
  rcases Nat.le_total x.1 y.1 with e | e
  · exact ⟨y.1, (has_int sx).2 ⟨e, h2⟩, has_self sy⟩
  · exact ⟨x.1, has_self sx, (has_int sy).2 ⟨e, h1⟩⟩
theorem share_met {x y : Bk} {a : Nat} (h : hasB x a = true) (k : hasB y a = true) : metB x y = true := by
  have a1 := (has_int (has_snd h)).1 h
  have a2 := (has_int (has_snd k)).1 k
  exact (met_iff (has_snd h) (has_snd k)).2 ⟨by omega, by omega⟩
/-- what is free and what is taken are the whole, and don't meet -/
structure Keeps (p : Bk) (F T : List Bk) : Prop where
  good : goodL p F = true
  cov : ∀ x ∈ T, covB p x = true
  met : metsL (F ++ T) = false
  sum : sumB (F ++ T) = szB p
  all : ∀ a, hasB p a = true → inL (F ++ T) a
theorem mets_append {F T : List Bk} : metsL (F ++ T) = false ↔ metsL F = false ∧ metsL T = false ∧ ∀ x ∈ F, ∀ y ∈ T, metB x y = false := by
  rw [mets_iff, mets_iff, mets_iff, List.pairwise_append]
theorem mets_cons {x : Bk} {T : List Bk} : metsL (x :: T) = false ↔ (∀ y ∈ T, metB x y = false) ∧ metsL T = false := by
  rw [mets_iff, mets_iff, List.pairwise_cons]
theorem keeps_new {p : Bk} (sp : sndB p = true) : Keeps p [p] [] :=
  ⟨good_iff.2 ⟨sp, can_one (cov_self sp)⟩, fun x hx => by simp at hx, by rw [List.append_nil]; exact ord_mets (can_one (cov_self sp)).1, by simp [sumB], fun a h => by rw [List.append_nil, inL_one]; exact h⟩
theorem keeps_perm {p : Bk} {F T U : List Bk} (h : Keeps p F T) (k : U.Perm T) : Keeps p F U :=
  have e : (F ++ U).Perm (F ++ T) := k.append_left F
  ⟨h.good, fun x hx => h.cov x (k.subset hx), by rw [mets_perm e]; exact h.met, by rw [sumB_perm e]; exact h.sum, fun a ha => (inL_perm e a).2 (h.all a ha)⟩
theorem keeps_give {p x : Bk} {F T : List Bk} (h : Keeps p F (x :: T)) : ∃ G, giveL p F x = (G, 0) ∧ Keeps p G T ∧ G.length ≤ F.length + 1 := by
  have hc := h.cov x (by simp)
  obtain ⟨m1, m2, m3⟩ := mets_append.1 h.met
  obtain ⟨m4, m5⟩ := mets_cons.1 m2
  have hm : anyM F x = false := by
    unfold anyM
    rw [List.any_eq_false]
    intro z hz
    rw [m3 z hz x (by simp)]
    decide
  have gs := give_spec h.good hc hm
  have sp := (good_iff.1 h.good).1
  rw [give_ok h.good hc, hm]
  refine ⟨_, rfl, ?_, gs.len⟩
  generalize growL 130 F (placeN F x.1) x (placeN F x.1) = G at *
  refine ⟨free_good sp gs, fun y hy => h.cov y (by simp [hy]), ?_, ?_, ?_⟩
  · refine mets_append.2 ⟨ord_mets gs.can.1, m5, fun z hz y hy => ?_⟩
    cases e : metB z y with
    | false => rfl
    | true =>
      obtain ⟨a, k1, k2⟩ := met_share e
      rcases (gs.mem a).1 ⟨z, hz, k1⟩ with ⟨z', hz', k3⟩ | k3
      · have := share_met k3 k2
        rw [m3 z' hz' y (by simp [hy])] at this; cases this
      · have := share_met k3 k2
        rw [m4 y hy] at this; cases this
  · have h1 := h.sum
    rw [sumB_append] at h1 ⊢
    rw [gs.sum]
    simp only [sumB] at h1
    omega
  · intro a ha
    rw [inL_append, gs.mem]
    rcases inL_append.1 (h.all a ha) with k | k
    · exact Or.inl (Or.inl k)
    · rcases inL_cons.1 k with k | k
      · exact Or.inl (Or.inr k)
      · exact Or.inr k
theorem keeps_take {p : Bk} {F T : List Bk} {bits : Int} {j : Nat} (h : Keeps p F T) (h1 : p.2 ≤ bits) (h2 : bits ≤ 128) (hb : bestL F bits F.length = some j) :
    ∃ G x, takeL p F bits = (G, x, 0) ∧ x.2 = bits ∧ covB p x = true ∧ Keeps p G (T ++ [x]) ∧ G.length ≤ F.length + 128 := by
  obtain ⟨t1, t2, t3, t4, t5, t6⟩ := take_spec h.good h1 h2 hb
  have sp := (good_iff.1 h.good).1
  refine ⟨_, _, t1, rfl, t2, ?_, t5.len⟩
  generalize withoutL F j (F.getD j (0, 0)) ((F.getD j (0, 0)).1, bits) = G at *
  generalize F.getD j (0, 0) = z at *
  generalize (z.1, bits) = x at *
  have hz := List.mem_of_getElem? t4
  obtain ⟨m1, m2, m3⟩ := mets_append.1 h.met
  refine ⟨free_good sp t5, fun y hy => ?_, ?_, ?_, ?_⟩
  · rcases List.mem_append.1 hy with k | k
    · exact h.cov y k
    · simp at k; subst k; exact t2
  · refine mets_append.2 ⟨ord_mets t5.can.1, mets_append.2 ⟨m2, by simp [metsL], fun y hy u hu => ?_⟩, fun u hu y hy => ?_⟩
    · simp at hu; subst hu
      cases e : metB y u with
      | false => rfl
      | true =>
        obtain ⟨a, k1, k2⟩ := met_share e
        have := share_met (covers_has t3 k2) k1
        rw [m3 z hz y hy] at this; cases this
    · cases e : metB u y with
      | false => rfl
      | true =>
        obtain ⟨a, k1, k2⟩ := met_share e
        obtain ⟨⟨z', hz', k3⟩, k4⟩ := (t5.mem a).1 ⟨u, hu, k1⟩
        rcases List.mem_append.1 hy with k | k
        · have := share_met k3 k2
          rw [m3 z' hz' y k] at this; cases this
        · simp at k; subst k; exact absurd k2 k4
  · have h3 := h.sum
    rw [sumB_append] at h3
    rw [sumB_append, sumB_append, t5.sum]
    simp only [sumB]
    omega
  · intro a ha
    rw [inL_append, inL_append, t5.mem, inL_one]
    rcases inL_append.1 (h.all a ha) with k | k
    · by_cases e : hasB x a = true
      · exact Or.inr (Or.inr e)
      · exact Or.inl ⟨k, e⟩
    · exact Or.inr (Or.inl k)
theorem keeps_end {p : Bk} {F : List Bk} (h : Keeps p F []) : F = [p] := by
  obtain ⟨sp, hc⟩ := good_iff.1 h.good
  obtain ⟨⟨z0, z1⟩, _⟩ := snd_iff.1 sp
  refine can_full _ p F sp (Nat.le_refl _) hc (fun a ha => ?_)
  have := h.all a ha
  rwa [List.append_nil] at this
theorem keeps_fit {p : Bk} {F T : List Bk} (fp : Fits p.1) (h : Keeps p F T) : FitL F ∧ FitL T := ⟨good_fit fp h.good, can_fit fp h.cov⟩

/-! ### one element replaced by the last -/
theorem set_perm (z : Bk) : ∀ (A : List Bk) (k : Nat) (hk : k < A.length), (z :: A).Perm (A[k] :: A.set k z)
  | [], k, hk => by simp at hk
  | a :: r, 0, _ => by simp; exact List.Perm.swap a z r
  | a :: r, k + 1, hk => by
    have ih := set_perm z r k (by simpa using hk)
    simp only [List.getElem_cons_succ, List.set_cons_succ]
    exact ((List.Perm.swap a z r).trans (ih.cons a)).trans (List.Perm.swap _ _ _)
/-- the row with element k given away: the last one takes its place -/
def dropK (T : List Bk) (k : Nat) : List Bk := (T.set k (T.getD (T.length - 1) (0, 0))).take (T.length - 1)
theorem dropK_len (T : List Bk) (k : Nat) : (dropK T k).length = T.length - 1 := by unfold dropK; rw [List.length_take, List.length_set]; omega
theorem dropK_perm {T : List Bk} {k : Nat} {x : Bk} (hx : T[k]? = some x) : T.Perm (x :: dropK T k) := by
  have hk := lt_of_some hx
  obtain ⟨z, A, e⟩ : ∃ z A, T = A ++ [z] := by
    have hne : T ≠ [] := by intro e; rw [e] at hk; simp at hk
    exact ⟨T.getLast hne, T.dropLast, (List.dropLast_concat_getLast hne).symm⟩
  subst e
  unfold dropK
  have hl : (A ++ [z]).length - 1 = A.length := by simp
  have hd : (A ++ [z]).getD A.length (0, 0) = z := by simp
  rw [hl, hd]
  simp only [List.length_append, List.length_singleton] at hk
  by_cases h : k < A.length
  · rw [List.set_append_left _ _ h, List.take_left' (by simp)]
    have e1 : A[k] = x := by
      rw [List.getElem?_append_left h, List.getElem?_eq_getElem h] at hx
      exact Option.some.inj hx
    rw [← e1]
    exact (List.perm_append_singleton z A).trans (set_perm z A k h)
  · obtain rfl : k = A.length := by omega
    have e1 : z = x := by simpa using hx
    subst e1
    have e2 : (A ++ [z]).set A.length z = A ++ [z] := by
      rw [List.set_append_right _ _ (Nat.le_refl _)]
      simp
    rw [e2, List.take_left' rfl]
    exact List.perm_append_singleton z A
theorem keeps_drop {p x : Bk} {F T : List Bk} {k : Nat} (h : Keeps p F T) (hx : T[k]? = some x) : Keeps p F (x :: dropK T k) := keeps_perm h (dropK_perm hx).symm

/-! ### rows of a call's own -/
theorem cellsP_set : ∀ (T : List Bk) (k : Nat) (y : Bk), k < T.length → (((cellsP T).set (k * 3) (.int .u64 (hi y.1 : Nat))).set (k * 3 + 1) (.int .u64 (lo y.1 : Nat))).set (k * 3 + 2) (.int .i64 y.2) = cellsP (T.set k y)
  | [], k, y, h => by simp at h
  | a :: r, 0, y, _ => by
    rw [List.set_cons_zero, cellsP_cons, cellsP_cons]
    simp [cells3]
  | a :: r, k + 1, y, h => by
    have ih := cellsP_set r k y (by simpa using h)
    rw [List.set_cons_succ, cellsP_cons, cellsP_cons, ← ih]
    rw [show (k + 1) * 3 = k * 3 + 1 + 1 + 1 by omega, show k * 3 + 1 + 1 + 1 + 1 = k * 3 + 1 + 1 + 1 + 1 from rfl]
    rw [show k * 3 + 1 + 1 + 1 + 2 = (k * 3 + 2) + 1 + 1 + 1 by omega, show k * 3 + 1 + 1 + 1 + 1 = (k * 3 + 1) + 1 + 1 + 1 by omega]
    simp only [cells3, List.cons_append, List.nil_append, List.set_cons_succ]
theorem cellsP_take (T : List Bk) (m : Nat) : (cellsP T).take (m * 3) = cellsP (T.take m) := by
  induction T generalizing m with
  | nil => simp [cellsP]
  | cons a r ih =>
    cases m with
    | zero => simp [cellsP]
    | succ m =>
      rw [List.take_succ_cons, cellsP_cons, cellsP_cons, ← ih m, show (m + 1) * 3 = m * 3 + 1 + 1 + 1 by omega]
      simp only [cells3, List.cons_append, List.nil_append, List.take_succ_cons]
theorem own_cut {W : World} {base g n cap m : Nat} {T : List Bk} (h : Own W base (.slice (some ⟨g, 0, none⟩) n cap) T) (_hn : n = T.length) (hm : m ≤ T.length) : Own W base (.slice (some ⟨g, 0, none⟩) m cap) (T.take m) := by
  have e : (T.take m).length = m := by rw [List.length_take]; omega
  unfold Own
  rw [e]
  refine ⟨by rw [cellsP_len, e], ?_⟩
  rcases h.2 with ⟨h', _⟩ | ⟨g', cap', cur, h', hb, hg, hnc, hcm, hcs, ht⟩
  · simp at h'
  · simp only [Value.slice.injEq, Option.some.injEq, Addr.mk.injEq, and_true] at h'
    obtain ⟨rfl, _, rfl⟩ := h'
    refine Or.inr ⟨g, cap, cur, rfl, hb, hg, by omega, hcm, hcs, ?_⟩
    rw [← cellsP_take, ← ht, List.take_take, Nat.min_eq_left (by omega)]
theorem own_put {W : World} {base g n cap k : Nat} {T : List Bk} (h : Own W base (.slice (some ⟨g, 0, none⟩) n cap) T) (hn : n = T.length) (hk : k < T.length) (y : Bk) :
    Own (((W.setCell ⟨g, k * 3, none⟩ (.int .u64 (hi y.1 : Nat))).setCell ⟨g, k * 3 + 1, none⟩ (.int .u64 (lo y.1 : Nat))).setCell ⟨g, k * 3 + 2, none⟩ (.int .i64 y.2)) base (.slice (some ⟨g, 0, none⟩) n cap) (T.set k y) := by
  subst hn
  have h3 := ((h.stored (k * 3) (.int .u64 (hi y.1 : Nat))).1.stored (k * 3 + 1) (.int .u64 (lo y.1 : Nat))).1.stored (k * 3 + 2) (.int .i64 y.2)
  have h4 := h3.1
  rw [cellsP_set T k y hk] at h4
  unfold Own
  rwa [List.length_set]
/-- two rows in blocks of their own -/
def Sep (v u : Value) : Prop := ∀ k, v.ownBlock = some k → u.ownBlock ≠ some k
theorem own_set {W : World} {base : Nat} {v : Value} {l : List Bk} (h : Own W base v l) {q : Go.Addr} (hq : v.ownBlock ≠ some q.block) (u : Value) : Own (W.setCell q u) base v l := by
  refine ⟨h.1, ?_⟩
  rcases h.2 with hn | ⟨g, cap, cur, rfl, h2, h3, h4⟩
  · exact Or.inl hn
  · exact Or.inr ⟨g, cap, cur, rfl, h2, by rw [Below.heap_setCell W q u g (fun e => hq (by simp [Value.ownBlock, e]))]; exact h3, h4⟩
end Go.Proofs.Ytpieddddckbfdaa
