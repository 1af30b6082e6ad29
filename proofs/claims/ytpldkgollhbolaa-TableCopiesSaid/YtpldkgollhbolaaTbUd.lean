/-
  What takes a row of changes back, as mathematics; the blocks of a table, and what writes none of them. No condition beyond those in each theorem's own statement.
-/
import Derived.Test.YtpldkgollhbolaaTbQ
import Derived.RangeFuncNested
namespace Go.Proofs.Ytpldkgollhbolaa
open Go.RowKit Go.Joins Go.Maps

/-- changes that may be made, one after another -/
def okB : List Ls → List Ch → Prop
  | _, [] => True
  | L, c :: cs => (c.l.ok ∧ (c.gone = false → GoodL (c.l :: restL L c.l))) ∧ okB (chgL L c) cs
/-- what takes each of the changes back, in the order in which they were made -/
def backs : List Ls → List Ch → List Ch
  | _, [] => []
  | L, c :: cs => backL L c :: backs (chgL L c) cs
theorem applyG_append : ∀ (L : List Ls) (a b : List Ch), applyG L (a ++ b) = applyG (applyG L a) b
  | _, [], _ => rfl
  | L, c :: a, b => applyG_append (chgL L c) a b
theorem okB_append : ∀ (L : List Ls) (a b : List Ch), okB L (a ++ b) ↔ okB L a ∧ okB (applyG L a) b
  | _, [], _ => ⟨fun h => ⟨trivial, h⟩, fun h => h.2⟩
  | L, c :: a, b => by
    show (_ ∧ okB (chgL L c) (a ++ b)) ↔ (_ ∧ okB (chgL L c) a) ∧ _
    rw [okB_append (chgL L c) a b]
    exact ⟨fun ⟨x, y, z⟩ => ⟨⟨x, y⟩, z⟩, fun ⟨⟨x, y⟩, z⟩ => ⟨x, y, z⟩⟩
theorem backs_snoc : ∀ (L : List Ls) (a : List Ch) (c : Ch), backs L (a ++ [c]) = backs L a ++ [backL (applyG L a) c]
  | _, [], _ => rfl
  | L, x :: a, c => by
    show backL L x :: backs (chgL L x) (a ++ [c]) = _
    rw [backs_snoc (chgL L x) a c]; rfl
theorem backs_len : ∀ (L : List Ls) (a : List Ch), (backs L a).length = a.length
  | _, [] => rfl
  | L, x :: a => by show (backs (chgL L x) a).length + 1 = _; rw [backs_len]; rfl
theorem applyE_snoc : ∀ (L : List Ls) (a : List Ch) (c : Ch), applyE L a = 0 → applyE L (a ++ [c]) = errL (applyG L a) c
  | L, [], c, _ => by
    show (if errL L c = 0 then applyE (chgL L c) [] else errL L c) = errL L c
    split
    · rename_i h; rw [h]; rfl
    · rfl
  | L, x :: a, c, h => by
    unfold applyE at h
    show (if errL L x = 0 then applyE (chgL L x) (a ++ [c]) else errL L x) = _
    by_cases h0 : errL L x = 0
    · rw [if_pos h0] at h ⊢
      exact applyE_snoc (chgL L x) a c h
    · rw [if_neg h0] at h; exact absurd h h0
theorem applyE_stop : ∀ (L : List Ls) (a : List Ch) (c : Ch) (b : List Ch), applyE L a = 0 → errL (applyG L a) c ≠ 0 → applyE L (a ++ c :: b) = errL (applyG L a) c
  | L, [], c, b, _, hc => by
    exact if_neg hc
  | L, x :: a, c, b, h, hc => by
    unfold applyE at h
    show (if errL L x = 0 then applyE (chgL L x) (a ++ c :: b) else errL L x) = _
    by_cases h0 : errL L x = 0
    · rw [if_pos h0] at h ⊢
      exact applyE_stop (chgL L x) a c b h hc
    · rw [if_neg h0] at h; exact absurd h h0
/-- what can be made, once its error is none -/
theorem chg_may {L : List Ls} {c : Ch} (h : TabL L) (ho : c.l.ok) (he : errL L c = 0) : c.gone = false → GoodL (c.l :: restL L c.l) := fun hg => by
  have t := (chg_tab h ho he).good
  unfold chgL at t
  rw [if_neg (by rw [hg]; simp)] at t
  exact t.perm (putL_perm ..)
/-- the row of what takes changes back may be made from its end on, and leaves what was there -/
theorem take_back : ∀ (cs : List Ch) {L : List Ls}, TabL L → (∀ c ∈ cs, c.l.ok) → applyE L cs = 0 → okB (applyG L cs) (backs L cs).reverse ∧ applyG (applyG L cs) (backs L cs).reverse = L
  | [], L, _, _, _ => ⟨trivial, rfl⟩
  | c :: cs, L, h, ho, he => by
    unfold applyE at he
    by_cases h0 : errL L c = 0
    · rw [if_pos h0] at he
      have hc := ho c List.mem_cons_self
      obtain ⟨i1, i2⟩ := take_back cs (chg_tab h hc h0) (fun x hx => ho x (List.mem_cons_of_mem _ hx)) he
      have hb := back_chg h h0
      have hk := (back_ok h hc).1
      have e : (backs L (c :: cs)).reverse = (backs (chgL L c) cs).reverse ++ [backL L c] := List.reverse_cons
      have e2 : applyG L (c :: cs) = applyG (chgL L c) cs := rfl
      rw [e, e2]
      refine ⟨(okB_append ..).2 ⟨i1, ?_⟩, ?_⟩
      · rw [i2]
        refine ⟨⟨hk, fun hg => ?_⟩, trivial⟩
        have t := h.good
        rw [← hb] at t
        unfold chgL at t
        rw [if_neg (by rw [hg]; simp)] at t
        exact t.perm (putL_perm ..)
      · rw [applyG_append, i2]; exact hb
    · rw [if_neg h0] at he; exact absurd he h0

variable {w w' W W' : World} {t km om : Nat} {O : Nat → Prop} {v : Value} {E : List En} {L : List Ls}
/-- the blocks of a table -/
def Tg (t km om : Nat) (v : Value) (E : List En) : Nat → Prop := fun k => k = t ∨ k = km ∨ k = om ∨ v.ownBlock = some k ∨ ∃ e ∈ E, e.1 = k
theorem TabE.tight (h : TabE w t km om O v E) : TabE w t km om (Tg t km om v E) v E :=
  ⟨⟨h.ends.tab, h.ends.row, h.ends.node, ⟨Or.inl rfl, fun k hk => Or.inr (Or.inr (Or.inr (Or.inl hk))), fun e he => Or.inr (Or.inr (Or.inr (Or.inr ⟨e, he, rfl⟩)))⟩,
    fun k hk => by
      rcases hk with rfl | rfl | rfl | hk | ⟨e, he, rfl⟩
      · exact h.ends.lt _ h.ends.own.1
      · exact h.ends.lt _ h.ownK.1
      · exact h.ends.lt _ h.ownK.2
      · exact h.ends.lt _ (h.ends.own.2.1 _ hk)
      · exact h.ends.lt _ (h.ends.own.2.2 e he), h.ends.len, h.ends.frm⟩, h.keys, h.owns, h.heap, h.good, ⟨Or.inr (Or.inl rfl), Or.inr (Or.inr (Or.inl rfl))⟩, h.ne⟩
theorem TabE.tgO (h : TabE w t km om O v E) : ∀ k, Tg t km om v E k → O k := fun k hk => by
  rcases hk with rfl | rfl | rfl | hk | ⟨e, he, rfl⟩
  · exact h.ends.own.1
  · exact h.ownK.1
  · exact h.ownK.2
  · exact h.ends.own.2.1 _ hk
  · exact h.ends.own.2.2 e he
/-- but for its two maps a table's blocks are cells -/
theorem TabE.tgCells (h : TabE w t km om O v E) : ∀ k, Tg t km om v E k → k = km ∨ k = om ∨ ∃ cur ty fz, w.heap[k]? = some (.cells cur ty fz) := fun k hk => by
  rcases hk with rfl | rfl | rfl | hk | ⟨e, he, rfl⟩
  · exact Or.inr (Or.inr ⟨_, _, _, h.ends.tab⟩)
  · exact Or.inl rfl
  · exact Or.inr (Or.inl rfl)
  · obtain ⟨g, cap, hv⟩ := h.ends.frm
    subst hv
    obtain ⟨cur, hg⟩ := h.ends.rowT
    obtain rfl : g = k := by simpa [Value.ownBlock] using hk
    exact Or.inr (Or.inr ⟨_, _, _, hg⟩)
  · obtain ⟨i, hi⟩ := List.mem_iff_getElem?.1 he
    exact Or.inr (Or.inr ⟨_, _, _, h.ends.node i e hi⟩)
/-- what writes only the table's blocks leaves what is no cells and lies behind its maps -/
theorem KeepsFrom.ofTab {B : Nat} (h : TabE w t km om O v E) (f : Fr (Tg t km om v E) w w') (hk : km < B) (ho : om < B) : KeepsFrom B w w' := by
  refine ⟨f.size, fun k o hB hk2 hc => f.keep hk2 (fun ht => ?_)⟩
  rcases h.tgCells k ht with e | e | ⟨cur, ty, fz, e⟩
  · omega
  · omega
  · rw [hk2] at e; cases e; cases hc
/-- a table abides what the walk's own blocks go through -/
theorem TabE.abides {B : Nat} (h : TabE w t km om O v E) (hk : km < B) (ho : om < B) {row : Option Nat} (hg : w.grownBy w' row) (hr : ∀ r, row = some r → B ≤ r ∧ ∃ o : Obj, w.heap[r]? = some o ∧ o.isCells = false) : TabE w' t km om O v E := by
  have f := Fr.grown hg
  refine (h.tight.fr f (fun k ht e => ?_)).wider h.tgO (fun k hO => Nat.lt_of_lt_of_le (h.ends.lt k hO) f.size)
  obtain ⟨hB, o, h1, h2⟩ := hr k e.symm
  rcases h.tgCells k ht with e | e | ⟨cur, ty, fz, e⟩
  · omega
  · omega
  · rw [h1] at e; cases e; cases h2
end Go.Proofs.Ytpldkgollhbolaa
