/-
  The contracts of slices.DeleteFunc at options (in the row's own memory) and of Without. Condition: a row of options takes at most 2^47 bytes.
-/
import Derived.Test.YtmoklodaeicpgaaOpN
import Derived.Lib.SliceRun
import Derived.Laws.IdiomCopy
namespace Go.Proofs.Ytmoklodaeicpgaa
open Go.RowKit Go.Joins Go.Maps

def kept (c : UInt8) (l : List Opt) : List Opt := l.filter (fun x => !decide (x.1 = c))
theorem kept_take {c : UInt8} {R : List Opt} {k : Nat} {x : Opt} (h : R[k]? = some x) : kept c (R.take (k + 1)) = if x.1 = c then kept c (R.take k) else kept c (R.take k) ++ [x] := by
  unfold kept
  rw [List.take_add_one, h, List.filter_append]
  by_cases e : x.1 = c
  · rw [if_pos e]; simp [e]
  · rw [if_neg e]; simp [e]
theorem kept_none {c : UInt8} {R : List Opt} (h : ∀ j, j < R.length → decide ((R.getD j ((0, ⟨#[]⟩) : Opt)).1 = c) = false) : kept c R = R := by
  unfold kept
  rw [List.filter_eq_self]
  intro x hx
  obtain ⟨j, hj, rfl⟩ := List.getElem_of_mem hx
  have := h j hj
  rw [List.getD_eq_getElem?_getD, List.getElem?_eq_getElem hj] at this
  simpa using this
theorem kept_no {c : UInt8} {R : List Opt} (h : findI R c = -1) : kept c R = R := by
  rcases find_at (l := R) (c := c) with ⟨_, _, h3⟩ | ⟨k, x, _, h2, _⟩
  · unfold kept
    rw [List.filter_eq_self]
    intro x hx
    unfold hasC at h3
    rw [List.any_eq_false] at h3
    simpa using h3 x hx
  · omega
theorem kept_first {c : UInt8} {R : List Opt} {k : Nat} (h : findI R c = (k : Int)) : k < R.length ∧ kept c (R.take (k + 1)) = R.take k := by
  unfold findI idxI at h
  cases h2 : R.findIdx? (fun x => decide (x.1 = c)) with
  | none => rw [h2] at h; simp at h
  | some i =>
    rw [h2] at h
    have e : i = k := by simp at h; omega
    subst e
    obtain ⟨hi, h3, h4⟩ := List.findIdx?_eq_some_iff_getElem.1 h2
    refine ⟨hi, ?_⟩
    have h3 : R[i].1 = c := by simpa using h3
    rw [kept_take (List.getElem?_eq_getElem hi), if_pos h3]
    unfold kept
    rw [List.filter_eq_self]
    intro x hx
    obtain ⟨j, hj, rfl⟩ := List.getElem_of_mem hx
    rw [List.length_take] at hj
    rw [List.getElem_take]
    have := h4 j (by omega)
    simpa using this
theorem cellsO_take (l : List Opt) (k : Nat) : (cellsO l).take (k * 2) = cellsO (l.take k) := by
  induction l generalizing k with
  | nil => simp [cellsO]
  | cons x r ih =>
    cases k with
    | zero => simp [cellsO]
    | succ k => rw [cellsO_cons, show (k + 1) * 2 = k * 2 + 1 + 1 by omega, List.take_succ_cons, List.take_succ_cons, ih, List.take_succ_cons, cellsO_cons]
theorem own_short {W : World} {base g n cap k : Nat} {xs : List Value} {l : List Opt} (h : W.ownsRow base 47 2 (.slice (some ⟨g, 0, none⟩) n cap) n xs) (hk : k ≤ n) (hx : xs.take (k * 2) = cellsO l) (hl : l.length = k) : OwnO W base (.slice (some ⟨g, 0, none⟩) k cap) l := by
  rcases h.2 with ⟨h', _⟩ | ⟨g', cap', cur, h', hb, hg, hnc, hcm, hcs, htake⟩
  · simp at h'
  · simp only [Value.slice.injEq, Option.some.injEq, Addr.mk.injEq, and_true, true_and] at h'
    obtain ⟨rfl, rfl⟩ := h'
    refine ⟨by rw [cellsO_len], Or.inr ⟨g, cap, cur, by rw [hl], hb, hg, by omega, hcm, hcs, ?_⟩⟩
    rw [hl, ← hx, ← htake, List.take_take, show min (k * 2) (n * 2) = k * 2 by omega]
theorem own_cleared {base g n cap : Nat} : ∀ (vs : List Value) (j : Nat) (W : World) (xs : List Value), W.ownsRow base 47 2 (.slice (some ⟨g, 0, none⟩) n cap) n xs →
    ∃ xs', (W.setCells g j vs).ownsRow base 47 2 (.slice (some ⟨g, 0, none⟩) n cap) n xs' ∧ xs'.take j = xs.take j ∧ Below base W (W.setCells g j vs)
  | [], j, W, xs, h => ⟨xs, h, rfl, Below.refl _ _⟩
  | v :: r, j, W, xs, h => by
    obtain ⟨xs', h1, h2, h3⟩ := own_cleared r (j + 1) (W.setCell ⟨g, j, none⟩ v) (xs.set j v) (h.stored j v).1
    refine ⟨xs', h1, ?_, ((Below.refl base W).setCell (h.lt g rfl).1 v).trans h3⟩
    have := congrArg (List.take j) h2
    rw [List.take_take, List.take_take, show min j (j + 1) = j by omega] at this
    rw [this, List.take_set_of_le (Nat.le_refl _)]
abbrev zeroO : Opt := (0, ⟨#[]⟩)
theorem zero_cells (n : Nat) : (Builtin.zeroCells (Value.agg #[.int .u8 0, .string ⟨#[]⟩]).cells n).toList = cellsO (List.replicate n zeroO) := by
  show (Builtin.zeroCells (#[.int .u8 0, .string ⟨#[]⟩] : Array Value) n).toList = _
  apply List.ext_getElem?
  intro i
  by_cases hi : i < n * 2
  · have hx : (List.replicate n zeroO)[i / 2]? = some zeroO := by rw [List.getElem?_replicate, if_pos (by omega)]
    obtain ⟨c0, c1⟩ := cellsO_at hx
    unfold Builtin.zeroCells
    simp only [Array.toList_map, List.getElem?_map]
    rcases (show i % 2 = 0 ∨ i % 2 = 1 by omega) with e | e
    · rw [show i / 2 * 2 = i by omega] at c0
      rw [c0]
      simp [e, hi]
    · rw [show i / 2 * 2 + 1 = i by omega] at c1
      rw [c1]
      simp [e, hi]
  · rw [List.getElem?_eq_none (by simp [Builtin.zeroCells]; omega), List.getElem?_eq_none (by rw [cellsO_len, List.length_replicate]; omega)]
theorem clear_opt (w : World) (ty : TypeId) (b o n c : Nat) (hn : 0 < n) (hc : ∀ j, j < n * 2 → (w.cell? ⟨b, o + j, none⟩).isSome = true) (hf : ∀ j, j < n * 2 → w.frozen? ⟨b, o + j, none⟩ = false) :
    (Builtin.clear_ #[24] ty #[.slice (some ⟨b, o, none⟩) n c]).run Try.prog w = .ok (.tuple #[]) (w.setCells b o (cellsO (List.replicate n zeroO))) := by
  have hv : ∀ w, (zeroValue 47).run Try.prog w = .ok (.agg #[.int .u8 0, .string ⟨#[]⟩]) w := fun w => by kernel_rfl
  have hst := run_storeCells_cells (P := Try.prog) b o (cellsO (List.replicate n zeroO)) 0 w (by simpa [cellsO_len] using hc) (by simpa [cellsO_len] using hf) (cellsO_one _)
  simp only [Nat.add_zero] at hst
  have hz := zero_cells n
  obtain ⟨m, rfl⟩ : ∃ m, n = m + 1 := ⟨n - 1, by omega⟩
  have ht := Try.underlying24
  simp [Builtin.clear_, run_underlying ht, hv, hz, hst]
end Go.Proofs.Ytmoklodaeicpgaa
