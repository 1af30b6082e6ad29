/-
  append of a list that is read to a list of the call's own, for ranges, at a region that goes in the text's order. Condition: at most 1000000 ranges in all.
-/
import Derived.Test.YtfmhpnendcikoaaGreatSpanA
namespace Go.Proofs.YtfmhpnendcikoaaGreat
open Go.RowKit Go.Joins

theorem wpList_append_lst {w : World} {ops : Array Oper} {rest : List Oper} {o : Oper} {a : Act} {Q : Exit → Act → World → Prop} (hgd : o.guard = none) (s x : Operand)
    (ho : o.op = .call { callee := .builtin .append, args := #[s, x], argTypes := #[22, 22] })
    (base : Nat) (v : Value) (pre : List Rg) (hs : a.eval s = v) (hown : Own w base v pre) (vx : Value) (l : List Rg) (hx : a.eval x = vx) (hl : Lst vx l w)
    (hn : pre.length + l.length ≤ 1000000) (hbase : base ≤ w.heap.size)
    (h : ∀ v' w', Own w' base v' (pre ++ l) → Below base w w' → w.grownBy w' v.ownBlock → wpList Tryz.prog ops Q rest (a.put o.dst v') w') : wpList Tryz.prog ops Q (o :: rest) a w := by
  obtain ⟨i0, hi, hz0, hz1, hz2⟩ := info_parts infoR
  have fin : ∀ v' w', w'.ownsRow base 36 4 v' (pre.length + l.length) (cellsR pre ++ cellsR l) → w.grownBy w' v.ownBlock → wpList Tryz.prog ops Q rest (a.put o.dst v') w' := by
    intro v' w' h1 h2
    refine h v' w' ?_ ((Below.refl _ _).grown h2 hbase (fun j hj => (hown.lt j hj).1)) h2
    unfold Own
    rw [List.length_append, cellsR_append]
    exact h1
  rcases hl with ⟨p, c, rfl, rfl, hpc, _⟩ | ⟨b, ofs, c, rfl, hr, _⟩
  · cases p with
    | none =>
      obtain rfl := hpc rfl
      refine wpList_append_own_none hgd s x 22 ho base 36 i0 4 Tryz.underlying22 hi v pre.length (cellsR pre) hs hown hx ?_
      exact h v w (by rw [List.append_nil]; exact hown) (Below.refl _ _) (World.grownBy.refl _ _)
    | some ad =>
      refine wpList_append_own w hgd s x 22 ho base 36 i0 (.agg #[.int .u64 0, .int .u64 0, .int .u64 0, .int .u64 0]) 4 32 Tryz.underlying22 hi hz0 hz1 hz2 rfl (by decide) v pre.length (cellsR pre) hs hown ad 0 c [] hx rfl (fun j u h => by simp at h) (fun u h => by simp at h) (by unfold maxLen; omega) (by omega) hbase ?_
      intro v2 w2 h1 h2 _
      exact fin v2 w2 (by simpa [cellsR] using h1) h2
  · refine wpList_append_own w hgd s x 22 ho base 36 i0 (.agg #[.int .u64 0, .int .u64 0, .int .u64 0, .int .u64 0]) 4 32 Tryz.underlying22 hi hz0 hz1 hz2 rfl (by decide) v pre.length (cellsR pre) hs hown ⟨b, ofs, none⟩ l.length c (cellsR l) hx (cellsR_len l) (row_cells hr) (cellsR_one l) (by unfold maxLen; omega) (by omega) hbase ?_
    intro v2 w2 h1 h2 _
    exact fin v2 w2 h1 h2
/-- an empty composite is a row of the call's own -/
theorem own_empty (W : World) : Own (W.alloc (.cells #[] 36)) W.heap.size (.slice (some ⟨W.heap.size, 0, none⟩) 0 0) [] :=
  World.ownsRow_lit W #[] 0 (Nat.le_refl _) (by unfold maxLen; omega) rfl
/-- the beginning of a list -/
theorem lst_cut {p : Option Go.Addr} {c f : Nat} {l : List Rg} {W : World} (h : Lst (.slice p l.length c) l W) (hf : f ≤ l.length) : Lst (.slice p f c) (l.take f) W := by
  rcases Nat.eq_zero_or_pos l.length with h0 | h0
  · have e : l = [] := List.length_eq_zero_iff.1 h0
    have f0 : f = 0 := by omega
    subst e f0
    exact h
  · rcases h with ⟨_, _, _, rfl, _⟩ | ⟨b, o, c', hv, hr⟩
    · simp at h0
    · cases hv
      exact lst_take (Or.inr ⟨b, o, _, rfl, hr⟩) hf
theorem lst_cap {p : Option Go.Addr} {n c : Nat} {l : List Rg} {W : World} (h : Lst (.slice p n c) l W) : n ≤ c ∧ c ≤ 9223372036854775807 ∧ (p = none → c = 0) := by
  rcases h with ⟨p', c', hv, _, h1, h2⟩ | ⟨b, o, c', hv, _, h1, _, h2⟩
  · cases hv; exact ⟨Nat.zero_le _, h2, h1⟩
  · cases hv; exact ⟨h1, h2, fun e => by cases e⟩
end Go.Proofs.YtfmhpnendcikoaaGreat
