/-
  Rows of ranges that a call owns; contracts of slices.Grow and slices.Concat at ranges. Conditions: the words are words of 64 bits; at most 1000000 ranges in all.
-/
import Derived.Test.YtfmhpnendcikoaaSpanT
import Derived.Lib.AppendZeros
import Derived.Laws.AppendOwnNone
namespace Go.Proofs.Ytfmhpnendcikoaa
open Go.RowKit Go.Joins

theorem infoR : (Try.prog.info? 40).map (fun i => (i.zero, i.size, i.bytes)) = some (some (.agg #[.int .u64 0, .int .u64 0, .int .u64 0, .int .u64 0]), 4, 32) := by kernel_rfl
def cells4 (x : Rg) : List Value := [.int .u64 (hi x.1 : Nat), .int .u64 (lo x.1 : Nat), .int .u64 (hi x.2 : Nat), .int .u64 (lo x.2 : Nat)]
def cellsR (l : List Rg) : List Value := l.flatMap cells4
theorem cellsR_cons (x : Rg) (l : List Rg) : cellsR (x :: l) = cells4 x ++ cellsR l := by unfold cellsR; rw [List.flatMap_cons]
theorem cellsR_append (l m : List Rg) : cellsR (l ++ m) = cellsR l ++ cellsR m := by unfold cellsR; rw [List.flatMap_append]
theorem cellsR_len (l : List Rg) : (cellsR l).length = l.length * 4 := by
  induction l with
  | nil => rfl
  | cons x r ih => rw [cellsR_cons, List.length_append, ih, List.length_cons]; simp [cells4]; omega
theorem cellsR_at {l : List Rg} {j : Nat} {x : Rg} (h : l[j]? = some x) (i : Nat) (hi : i < 4) : (cellsR l)[j * 4 + i]? = (cells4 x)[i]? := by
  induction l generalizing j with
  | nil => simp at h
  | cons y r ih =>
    rw [cellsR_cons]
    cases j with
    | zero =>
      simp at h; subst h
      rw [Nat.zero_mul, Nat.zero_add, List.getElem?_append_left (by simp [cells4]; omega)]
    | succ j =>
      rw [List.getElem?_append_right (by simp [cells4]; omega), show (j + 1) * 4 + i - (cells4 y).length = j * 4 + i by simp [cells4]; omega]
      exact ih (by simpa using h)
theorem cellsR_one (l : List Rg) : ∀ u ∈ cellsR l, u.oneCell' = true := by
  intro u hu
  unfold cellsR at hu
  obtain ⟨x, _, hx⟩ := List.mem_flatMap.1 hu
  simp only [cells4, List.mem_cons, List.not_mem_nil, or_false] at hx
  rcases hx with rfl | rfl | rfl | rfl <;> rfl
theorem add_at (b o j : Nat) : (⟨b, o, none⟩ : Go.Addr).add j = ⟨b, o + j, none⟩ := by cases j <;> simp [Addr.add]
theorem row_cells {b o : Nat} {l : List Rg} {W : World} (h : RowR b o l W) : ∀ (j : Nat) (u : Value), (cellsR l)[j]? = some u → W.cell? ((⟨b, o, none⟩ : Go.Addr).add j) = some u := by
  intro j u hj
  have hl : j < l.length * 4 := by
    rcases Nat.lt_or_ge j (cellsR l).length with h' | h'
    · rwa [cellsR_len] at h'
    · rw [List.getElem?_eq_none h'] at hj; cases hj
  obtain ⟨x, hx⟩ := get_some (show j / 4 < l.length by omega)
  have hc := cellsR_at hx (j % 4) (by omega)
  rw [show j / 4 * 4 + j % 4 = j by omega, hj] at hc
  obtain ⟨a0, a1, a2, a3⟩ := h.2 _ x hx
  rw [add_at]
  have : j % 4 = 0 ∨ j % 4 = 1 ∨ j % 4 = 2 ∨ j % 4 = 3 := by omega
  rcases this with e | e | e | e
  · rw [e] at hc; simp [cells4] at hc; subst hc; rw [show o + j = o + j / 4 * 4 by omega]; exact a0
  · rw [e] at hc; simp [cells4] at hc; subst hc; rw [show o + j = o + j / 4 * 4 + 1 by omega]; exact a1
  · rw [e] at hc; simp [cells4] at hc; subst hc; rw [show o + j = o + j / 4 * 4 + 2 by omega]; exact a2
  · rw [e] at hc; simp [cells4] at hc; subst hc; rw [show o + j = o + j / 4 * 4 + 3 by omega]; exact a3
/-- a slice of the call's own that reads as a list -/
abbrev Own (w : World) (base : Nat) (v : Value) (l : List Rg) : Prop := w.ownsRow base 40 4 v l.length (cellsR l)
theorem own_lst {W : World} {base : Nat} {v : Value} {l : List Rg} (h : Own W base v l) : Lst v l W := by
  rcases h.2 with ⟨rfl, hn⟩ | ⟨g, cap, cur, rfl, hb, hg, hnc, hm, hcs, ht⟩
  · exact Or.inl ⟨none, 0, rfl, List.length_eq_zero_iff.1 hn, fun _ => rfl, by omega⟩
  · have hcap : cap ≤ 9223372036854775807 := by unfold maxLen at hm; exact hm
    by_cases hl : l = []
    · subst hl
      exact Or.inl ⟨_, cap, rfl, rfl, fun e => (by cases e), hcap⟩
    · have gl : g < W.heap.size := by
        rcases Nat.lt_or_ge g W.heap.size with h' | h'
        · exact h'
        · rw [Array.getElem?_eq_none h'] at hg; cases hg
      have A : ∀ (j : Nat) (u : Value), (cellsR l)[j]? = some u → W.cell? ⟨g, j, none⟩ = some u := by
        intro j u hu
        have := h.cells (g := g) rfl j u hu
        rwa [add_at, Nat.zero_add] at this
      refine Or.inr ⟨g, 0, cap, rfl, ⟨gl, fun j x hx => ?_⟩, hnc, hl, hcap⟩
      have C := fun i hi => cellsR_at hx i hi
      refine ⟨A _ _ ?_, A _ _ ?_, A _ _ ?_, A _ _ ?_⟩
      · have := C 0 (by omega); simpa [cells4] using this
      · have := C 1 (by omega); simpa [cells4] using this
      · have := C 2 (by omega); simpa [cells4] using this
      · have := C 3 (by omega); simpa [cells4] using this

/-- what Grow gives: an empty slice of the call's own -/
def Grown (w : World) (e : Ending) (w' : World) : Prop := ∃ v, e = .returned v ∧ Below w.heap.size w w' ∧ Own w' w.heap.size v []
/-- the slices that Concat is given, and their lists -/
def Parts (g : Nat) (vs : List Value) (ls : List (List Rg)) (W : World) : Prop := g < W.heap.size ∧ vs.length = ls.length ∧ (∀ (j : Nat) (v : Value), vs[j]? = some v → W.cell? ⟨g, j, none⟩ = some v) ∧ ∀ (j : Nat) (v : Value) (l : List Rg), vs[j]? = some v → ls[j]? = some l → Lst v l W
theorem Parts.step {g : Nat} {vs : List Value} {ls : List (List Rg)} {W w2 : World} (h : Parts g vs ls W) (hb : Below W.heap.size W w2) : Parts g vs ls w2 :=
  ⟨Nat.lt_of_lt_of_le h.1 hb.size, h.2.1, fun j v hj => keep_cell hb (h.2.2.1 j v hj), fun j v l hv hl => (h.2.2.2 j v l hv hl).step hb⟩
def sumLen : List (List Rg) → Nat
  | [] => 0
  | l :: r => l.length + sumLen r
theorem sumLen_snoc : ∀ (ls : List (List Rg)) (l : List Rg), sumLen (ls ++ [l]) = sumLen ls + l.length
  | [], l => by simp [sumLen]
  | m :: r, l => by rw [List.cons_append]; unfold sumLen; rw [sumLen_snoc r l]; omega
theorem sumLen_le : ∀ (ls : List (List Rg)) (k : Nat), sumLen (ls.take k) ≤ sumLen ls
  | [], k => by simp [sumLen]
  | m :: r, 0 => by simp [sumLen]
  | m :: r, k + 1 => by rw [List.take_succ_cons]; unfold sumLen; have := sumLen_le r k; omega
theorem sumLen_flat : ∀ ls : List (List Rg), ls.flatten.length = sumLen ls
  | [] => rfl
  | m :: r => by rw [List.flatten_cons, List.length_append, sumLen_flat r]; rfl
/-- a value that the call made, that reads as a list -/
def Makes (l : List Rg) (w : World) (e : Ending) (w' : World) : Prop := ∃ v, e = .returned v ∧ Below w.heap.size w w' ∧ Own w' w.heap.size v l
theorem take_next {ls : List (List Rg)} {k : Nat} {l : List Rg} (h : ls[k]? = some l) : ls.take (k + 1) = ls.take k ++ [l] := by rw [List.take_add_one, h]; rfl
theorem base_le {w : World} {base g n cap size : Nat} {e : TypeId} {xs : List Value} (h : w.ownsRow base e size (.slice (some ⟨g, 0, none⟩) n cap) n xs) : base ≤ g := (h.lt g rfl).1
end Go.Proofs.Ytfmhpnendcikoaa
