/-
  What TableWhole's walk wants: a list with a change at its end that is refused; a list's changes one by one; append of a list that is read to a list of the call's own. Condition: at most 1000000 changes in all.
-/
import Derived.Test.YtpldkgollhbolaaTbKp
import Derived.Laws.AppendOwnNone
namespace Go.Proofs.Ytpldkgollhbolaa
open Go.RowKit Go.Joins Go.Maps

variable {w w' V W W' : World} {t km om : Nat} {O : Nat → Prop} {v : Value} {E : List En} {L : List Ls}
abbrev zC : Ch := ⟨false, zLs⟩
theorem zC_err (L : List Ls) : errL L zC = 80 := by
  unfold errL
  rw [if_pos (show changeS zC = false by kernel_rfl)]
theorem bad_err : ∀ (l : List Ch) (L : List Ls), applyE L (l ++ [zC]) ≠ 0
  | [], L => by
    rw [List.nil_append]
    unfold applyE
    rw [zC_err, if_neg (by omega)]
    omega
  | c :: cs, L => by
    rw [List.cons_append]
    unfold applyE
    by_cases h : errL L c = 0
    · rw [if_pos h]; exact bad_err cs _
    · rw [if_neg h]; exact h
theorem bad_list (l : List Ch) (L : List Ls) : applyL L (l ++ [zC]) = L := by
  unfold applyL
  rw [if_neg (bad_err l L)]
theorem one_err (N : List Ls) (x : Ch) : applyE N [x] = errL N x := by
  unfold applyE
  by_cases h : errL N x = 0
  · rw [if_pos h, h]; rfl
  · rw [if_neg h]
theorem one_list {N : List Ls} {x : Ch} (h : errL N x = 0) : applyL N [x] = applyG N [x] := by
  unfold applyL
  rw [if_pos (by rw [one_err]; exact h)]
theorem whole_step {L N : List Ls} {l : List Ch} {k : Nat} {x : Ch} (hx : l[k]? = some x) (h0 : applyE L (l.take k) = 0) (hN : N = applyG L (l.take k)) :
    applyE N [x] = applyE L (l.take (k + 1)) ∧ (applyE N [x] = 0 → applyL N [x] = applyG L (l.take (k + 1))) ∧ (applyE N [x] ≠ 0 → applyE L l = applyE N [x]) := by
  have e : l.take (k + 1) = l.take k ++ [x] := by rw [List.take_add_one, hx]; rfl
  subst hN
  have hk := (List.getElem?_eq_some_iff.1 hx).1
  have hx2 : l[k] = x := (List.getElem?_eq_some_iff.1 hx).2
  have e2 : l = l.take k ++ x :: l.drop (k + 1) := by
    rw [← hx2, List.getElem_cons_drop]
    exact (List.take_append_drop k l).symm
  refine ⟨by rw [one_err, e, applyE_snoc L _ x h0], fun h => ?_, fun h => ?_⟩
  · rw [one_err] at h
    rw [one_list h, e, applyG_append]
  · rw [one_err] at h ⊢
    conv => lhs; rw [e2]
    exact applyE_stop L _ x _ h0 h
theorem lstC_cells {b o : Nat} {l : List Ch} (h : LstC (some ⟨b, o, none⟩) l W) : ∀ j u, (cellsC l)[j]? = some u → W.cell? ((⟨b, o, none⟩ : Go.Addr).add j) = some u := by
  intro j u hj
  have hlen : ∀ l : List Ch, (cellsC l).length = l.length * 9 := fun l => by
    induction l with
    | nil => rfl
    | cons x r ih =>
      unfold cellsC at *
      simp only [List.map_cons, List.flatten_cons, List.length_append, ih, List.length_cons]
      have : (wdC x).length = 9 := rfl
      omega
  have hj9 : j < l.length * 9 := by have := (List.getElem?_eq_some_iff.1 hj).1; rwa [hlen] at this
  obtain ⟨x, hx⟩ : ∃ x, l[j / 9]? = some x := ⟨_, List.getElem?_eq_getElem (by omega)⟩
  have e := cellsC_at l (j / 9) (j % 9) x hx (Nat.mod_lt _ (by omega))
  have ej : j / 9 * 9 + j % 9 = j := by omega
  rw [ej, hj] at e
  obtain ⟨b2, o2, e2, h0, h1, h2, h3, h4, h5, h6, h7, h8⟩ := h (j / 9) x hx
  cases e2
  have ha : (⟨b, o, none⟩ : Go.Addr).add j = ⟨b, o + j / 9 * 9 + j % 9, none⟩ := by
    rw [show o + j / 9 * 9 + j % 9 = o + j by omega]
    cases j <;> simp [Addr.add]
  rw [ha]
  have hm := Nat.mod_lt j (show 0 < 9 by omega)
  generalize j % 9 = i at *
  match i, hm with
  | 0, _ => simp [wdC, wdL] at e; rw [e]; exact h0
  | 1, _ => simp [wdC, wdL] at e; rw [e]; exact h1
  | 2, _ => simp [wdC, wdL] at e; rw [e]; exact h2
  | 3, _ => simp [wdC, wdL] at e; rw [e]; exact h3
  | 4, _ => simp [wdC, wdL] at e; rw [e]; exact h4
  | 5, _ => simp [wdC, wdL] at e; rw [e]; exact h5
  | 6, _ => simp [wdC, wdL] at e; rw [e]; exact h6
  | 7, _ => simp [wdC, wdL] at e; rw [e]; exact h7
  | 8, _ => simp [wdC, wdL] at e; rw [e]; exact h8
theorem cellsC_len (l : List Ch) : (cellsC l).length = l.length * 9 := by
  induction l with
  | nil => rfl
  | cons x r ih =>
    unfold cellsC at *
    simp only [List.map_cons, List.flatten_cons, List.length_append, ih, List.length_cons]
    have : (wdC x).length = 9 := rfl
    omega
theorem cellsC_one (l : List Ch) : ∀ u ∈ cellsC l, u.oneCell' = true := by
  intro u hu
  unfold cellsC at hu
  obtain ⟨c, hc, hu⟩ := List.mem_flatten.1 hu
  obtain ⟨x, _, rfl⟩ := List.mem_map.1 hc
  exact wd_cell x u hu
theorem cellsC_append (a b : List Ch) : cellsC (a ++ b) = cellsC a ++ cellsC b := by unfold cellsC; simp
/-- append of a list that is read to a row of the call's own -/
theorem wpList_append_lstC {w : World} {ops : Array Oper} {rest : List Oper} {o : Oper} {a : Act} {Q : Exit → Act → World → Prop} (hgd : o.guard = none) (s x : Operand)
    (ho : o.op = .call { callee := .builtin .append, args := #[s, x], argTypes := #[51, 51] })
    (base : Nat) (v : Value) (pre : List Ch) (hs : a.eval s = v) (hown : OwnC w base v pre) (q : Option Go.Addr) (l : List Ch) (c : Nat) (hx : a.eval x = .slice q l.length c) (hq : q = none → c = 0) (hl : LstC q l w)
    (hn : pre.length + l.length ≤ 1000000) (hbase : base ≤ w.heap.size)
    (h : ∀ v' w', OwnC w' base v' (pre ++ l) → Below base w w' → w.grownBy w' v.ownBlock → wpList Try.prog ops Q rest (a.put o.dst v') w') : wpList Try.prog ops Q (o :: rest) a w := by
  obtain ⟨i0, hi, hz0, hz1, hz2⟩ := info_parts infoC
  have own_lt : ∀ j, v.ownBlock = some j → base ≤ j := fun j hj => (hown.type j hj).1
  cases q with
  | none =>
    have hl0 : l = [] := by
      cases l with
      | nil => rfl
      | cons y r => obtain ⟨_, _, e, _⟩ := hl 0 y rfl; cases e
    subst hl0
    obtain rfl := hq rfl
    refine wpList_append_own_none hgd s x 51 ho base 54 i0 9 Try.underlying51 hi v pre.length (cellsC pre) hs hown hx ?_
    exact h v w (by rw [List.append_nil]; exact hown) (Below.refl _ _) (World.grownBy.refl _ _)
  | some ad =>
    refine wpList_append_own w hgd s x 51 ho base 54 i0 (.agg #[.bool false, .int .i64 0, .int .u64 0, .int .u64 0, .int .i64 0, .int .i64 0, .string ⟨#[]⟩, .int .u32 0, .int .i64 0]) 9 80 Try.underlying51 hi hz0 hz1 hz2 rfl (by decide) v pre.length (cellsC pre) hs hown ad l.length c (cellsC l) hx (cellsC_len l) (fun j u hj => ?_) (cellsC_one l) (by unfold maxLen; omega) (by omega) hbase ?_
    · cases l with
      | nil => simp [cellsC] at hj
      | cons y r =>
        obtain ⟨b, o, e, _⟩ := hl 0 y rfl
        cases e
        exact lstC_cells hl j u hj
    · intro v2 w2 h1 h2 _
      refine h v2 w2 ?_ ((Below.refl _ _).grown h2 hbase (fun j hj => own_lt j hj)) h2
      unfold OwnC
      rw [List.length_append, cellsC_append]
      exact h1
/-- one change out of a list -/
theorem cut_run (b o n c k : Nat) (hk : k < n) (hc : n ≤ c) (W : World) : (Instr.sliceAt 51 (.slice (some ⟨b, o, none⟩) n c) (some (.int .i64 (k : Int))) (some (.int .i64 ((k : Int) + 1))) none).run Try.prog W = .ok (.slice (some ⟨b, o + k * 9, none⟩) 1 (c - k)) W := by
  have hu : Try.prog.underlying 51 = some (.slice (Try.prog.elem 51)) := by kernel_rfl
  have hs : (sizeOf (Try.prog.elem 51)).run Try.prog W = .ok 9 W := by
    obtain ⟨i0, hi, hz0, hz1, hz2⟩ := info_parts infoC
    have he : Try.prog.elem 51 = 54 := by kernel_rfl
    rw [he]
    exact Try.sizeOf54 W
  rw [run_sliceAt_slice _ _ _ _ _ _ hu, run_slice_lh _ _ _ _ _ hu _ _ _ _ (by omega) (by omega) (by omega), hs]
  simp only [Result.andThen, sliced]
  rw [if_neg (by omega)]
  have e1 : ((k : Int) + 1).toNat - (k : Int).toNat = 1 := by omega
  have e2 : (k : Int).toNat = k := by omega
  rw [e1, e2]
  have e3 : (⟨b, o, none⟩ : Go.Addr).add (k * 9) = ⟨b, o + k * 9, none⟩ := by cases k * 9 <;> simp [Addr.add]
  simp only [Option.map_some, e3]
theorem lst_one {b o k : Nat} {l : List Ch} {x : Ch} (h : LstC (some ⟨b, o, none⟩) l W) (hx : l[k]? = some x) : LstC (some ⟨b, o + k * 9, none⟩) [x] W := fun j c hj => by
  cases j with
  | zero =>
    simp at hj; subst hj
    obtain ⟨b2, o2, e, h2⟩ := h k x hx
    cases e
    exact ⟨b, o + k * 9, rfl, by rw [Nat.zero_mul, Nat.add_zero]; exact h2⟩
  | succ j => simp at hj
/-- room for a list of the call's own -/
theorem run_mc (n : Nat) (h : n ≤ 2000) (W : World) : (Instr.makeSlice 51 (.int .i64 0) (.int .i64 (n : Int))).run Try.prog W = .ok (.slice (some ⟨W.heap.size, 0, none⟩) 0 n) (W.alloc (.cells (madeCells #[.bool false, .int .i64 0, .int .u64 0, .int .u64 0, .int .i64 0, .int .i64 0, .string ⟨#[]⟩, .int .u32 0, .int .i64 0] (n * 9)) 54)) := by
  obtain ⟨i, hi, hz0, hz1, hz2⟩ := info_parts infoC
  have := run_make (P := Try.prog) W 51 54 i _ Try.underlying51 hi hz0 .i64 .i64 0 (n : Int) (by omega) (by omega) (by rw [hz2]; omega) (by omega)
  rw [hz1, Int.toNat_natCast] at this
  simpa [Value.cells] using this
theorem own_made (n : Nat) (h : n ≤ 2000) (W : World) : OwnC (W.alloc (.cells (madeCells #[.bool false, .int .i64 0, .int .u64 0, .int .u64 0, .int .i64 0, .int .i64 0, .string ⟨#[]⟩, .int .u32 0, .int .i64 0] (n * 9)) 54)) W.heap.size (.slice (some ⟨W.heap.size, 0, none⟩) 0 n) [] :=
  ⟨by simp [cellsC], .inr ⟨W.heap.size, n, _, rfl, Nat.le_refl _, heap_alloc_new W _, Nat.zero_le _, by unfold maxLen; omega, by rw [size_madeCells], by simp [cellsC]⟩⟩
end Go.Proofs.Ytpldkgollhbolaa
