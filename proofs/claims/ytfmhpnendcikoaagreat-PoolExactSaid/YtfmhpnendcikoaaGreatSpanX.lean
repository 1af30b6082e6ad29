/-
  Contracts of slices.MinFunc and slices.MaxFunc at two addresses and Cmp. Condition: the words are words of 64 bits.
  Rows of ranges that a call owns; contracts of slices.Grow and slices.Concat at ranges. Conditions: the words are words of 64 bits; at most 1000000 ranges in all.
  Contract of Put. Conditions: the words are words of 64 bits; a slice has at most 100000 ranges.
-/
import Derived.Test.YtfmhpnendcikoaaGreatSpanT
import Derived.Lib.AppendZeros
import Derived.Laws.AppendOwnNone
import Derived.Deep.RegionHeld3
import Derived.Deep.DeepCutAuto
namespace Go.Proofs.YtfmhpnendcikoaaGreat
open Go.RowKit Go.Joins

/-- the row of two, the result's block -/
def HMn (w : World) (g : Nat) (x : Rg) (r : Nat) (W : World) : Prop := Below w.heap.size w W ∧ Two w.heap.size r W ∧ Four g x W
/-- and the block of the least or greatest so far -/
def HMn2 (w : World) (g : Nat) (x : Rg) (m : Nat) (W : World) : Prop := Below w.heap.size w W ∧ Two w.heap.size 0 W ∧ Two (w.heap.size + 1) m W ∧ Four g x W
theorem HMn2.step {w : World} {g : Nat} {x : Rg} {m : Nat} {W w2 : World} (h : HMn2 w g x m W) (hb : Below W.heap.size W w2) : HMn2 w g x m w2 := ⟨h.1.trans (hb.mono h.1.size), h.2.1.step hb, h.2.2.1.step hb, h.2.2.2.step hb⟩
theorem HMn2.drew {w : World} {g : Nat} {x : Rg} {m : Nat} {W : World} (h : HMn2 w g x m W) : HMn2 w g x m { W with drawn := W.drawn + 1 } := h.step (Below.refl _ _).drew
theorem mn_new {w : World} {g : Nat} {x : Rg} (h : HMn w g x 0 (w.alloc (.cells #[.int .u64 0, .int .u64 0] 31))) (a : Nat) : HMn2 w g x a ((w.alloc (.cells #[.int .u64 0, .int .u64 0] 31)).alloc (.cells #[.int .u64 (hi a : Nat), .int .u64 (lo a : Nat)] 31)) := by
  have h2 := two_new (w.alloc (.cells #[.int .u64 0, .int .u64 0] 31)) a 31
  rw [World.size_alloc] at h2
  exact ⟨chain h.1 (below_alloc _ _), h.2.1.step (below_alloc _ _), h2, h.2.2.step (below_alloc _ _)⟩
theorem HMn2.put {w : World} {g : Nat} {x : Rg} {m : Nat} {W : World} (h : HMn2 w g x m W) (hg : g < w.heap.size) (y : Nat) : HMn2 w g x y ((W.setCell ⟨w.heap.size + 1, 0, none⟩ (.int .u64 (hi y : Nat))).setCell ⟨w.heap.size + 1, 1, none⟩ (.int .u64 (lo y : Nat))) :=
  ⟨(h.1.setCell (by dsimp only; omega) _).setCell (by dsimp only; omega) _, (h.2.1.set (by dsimp only; omega) _).set (by dsimp only; omega) _, h.2.2.1.put y, (h.2.2.2.set (by dsimp only; omega) _).set (by dsimp only; omega) _⟩
def MinR (w : World) (g : Nat) (x : Rg) (a m : Nat) (i : Value) (W : World) : Prop := (i = .int .i64 1 ∧ HMn2 w g x a W) ∨ (i = .int .i64 2 ∧ HMn2 w g x m W)
theorem cmp_lt (a b : Nat) : decide (cmpS a b < 0) = decide (a < b) := by
  unfold cmpS
  rw [decide_eq_decide]
  repeat' split
  all_goals omega

end Go.Proofs.YtfmhpnendcikoaaGreat
namespace Go.Proofs.YtfmhpnendcikoaaGreat
open Go.RowKit Go.Joins

theorem infoR : (Tryz.prog.info? 36).map (fun i => (i.zero, i.size, i.bytes)) = some (some (.agg #[.int .u64 0, .int .u64 0, .int .u64 0, .int .u64 0]), 4, 32) := by kernel_rfl
def cells4 (x : Rg) : List Value := [.int .u64 (hi x.1 : Nat), .int .u64 (lo x.1 : Nat), .int .u64 (hi x.2 : Nat), .int .u64 (lo x.2 : Nat)]
def cellsR (l : List Rg) : List Value := l.flatMap cells4
theorem cellsR_cons (x : Rg) (l : List Rg) : cellsR (x :: l) = cells4 x ++ cellsR l := by unfold cellsR; rw [List.flatMap_cons]
theorem cellsR_append (l m : List Rg) : cellsR (l ++ m) = cellsR l ++ cellsR m := by unfold cellsR; rw [List.flatMap_append]
theorem cellsR_len (l : List Rg) : (cellsR l).length = l.length * 4 := by
  induction l with
  | nil => rfl
  | cons x r ih => rw [cellsR_cons, List.length_append, ih, List.length_cons]; simp [cells4]; omega
theorem cellsR_at {l : List Rg} {j : Nat} {x : Rg} (h : l[j]? = some x) (i : Nat) (hi : i < 4) : (cellsR l)[j * 4 + i]? = (cells4 x)[i]? := by
  induction l generalizing j with
  | nil => simp at h
  | cons y r ih =>
    rw [cellsR_cons]
    cases j with
    | zero =>
      simp at h; subst h
      rw [Nat.zero_mul, Nat.zero_add, List.getElem?_append_left (by simp [cells4]; omega)]
    | succ j =>
      rw [List.getElem?_append_right (by simp [cells4]; omega), show (j + 1) * 4 + i - (cells4 y).length = j * 4 + i by simp [cells4]; omega]
      exact ih (by simpa using h)
theorem cellsR_one (l : List Rg) : ∀ u ∈ cellsR l, u.oneCell' = true := by
  intro u hu
  unfold cellsR at hu
  obtain ⟨x, _, hx⟩ := List.mem_flatMap.1 hu
  simp only [cells4, List.mem_cons, List.not_mem_nil, or_false] at hx
  rcases hx with rfl | rfl | rfl | rfl <;> rfl
theorem add_at (b o j : Nat) : (⟨b, o, none⟩ : Go.Addr).add j = ⟨b, o + j, none⟩ := by cases j <;> simp [Addr.add]
theorem row_cells {b o : Nat} {l : List Rg} {W : World} (h : RowR b o l W) : ∀ (j : Nat) (u : Value), (cellsR l)[j]? = some u → W.cell? ((⟨b, o, none⟩ : Go.Addr).add j) = some u := by
  intro j u hj
  have hl : j < l.length * 4 := by
    rcases Nat.lt_or_ge j (cellsR l).length with h' | h'
    · rwa [cellsR_len] at h'
    · rw [List.getElem?_eq_none h'] at hj; cases hj
  obtain ⟨x, hx⟩ := get_some (show j / 4 < l.length by omega)
  have hc := cellsR_at hx (j % 4) (by omega)
  rw [show j / 4 * 4 + j % 4 = j by omega, hj] at hc
  obtain ⟨a0, a1, a2, a3⟩ := h.2 _ x hx
  rw [add_at]
  have : j % 4 = 0 ∨ j % 4 = 1 ∨ j % 4 = 2 ∨ j % 4 = 3 := by omega
  rcases this with e | e | e | e
  · rw [e] at hc; simp [cells4] at hc; subst hc; rw [show o + j = o + j / 4 * 4 by omega]; exact a0
  · rw [e] at hc; simp [cells4] at hc; subst hc; rw [show o + j = o + j / 4 * 4 + 1 by omega]; exact a1
  · rw [e] at hc; simp [cells4] at hc; subst hc; rw [show o + j = o + j / 4 * 4 + 2 by omega]; exact a2
  · rw [e] at hc; simp [cells4] at hc; subst hc; rw [show o + j = o + j / 4 * 4 + 3 by omega]; exact a3
/-- a slice of the call's own that reads as a list -/
abbrev Own (w : World) (base : Nat) (v : Value) (l : List Rg) : Prop := w.ownsRow base 36 4 v l.length (cellsR l)
theorem own_lst {W : World} {base : Nat} {v : Value} {l : List Rg} (h : Own W base v l) : Lst v l W := by
  rcases h.2 with ⟨rfl, hn⟩ | ⟨g, cap, cur, rfl, hb, hg, hnc, hm, hcs, ht⟩
  · exact Or.inl ⟨none, 0, rfl, List.length_eq_zero_iff.1 hn, fun _ => rfl, by omega⟩
  · have hcap : cap ≤ 9223372036854775807 := by unfold maxLen at hm; exact hm
    by_cases hl : l = []
    · subst hl
      exact Or.inl ⟨_, cap, rfl, rfl, fun e => (by cases e), hcap⟩
    · have gl : g < W.heap.size := by
        rcases Nat.lt_or_ge g W.heap.size with h' | h'
        · exact h'
        · rw [Array.getElem?_eq_none h'] at hg; cases hg
      have A : ∀ (j : Nat) (u : Value), (cellsR l)[j]? = some u → W.cell? ⟨g, j, none⟩ = some u := by
        intro j u hu
        have := h.cells (g := g) rfl j u hu
        rwa [add_at, Nat.zero_add] at this
      refine Or.inr ⟨g, 0, cap, rfl, ⟨gl, fun j x hx => ?_⟩, hnc, hl, hcap⟩
      have C := fun i hi => cellsR_at hx i hi
      refine ⟨A _ _ ?_, A _ _ ?_, A _ _ ?_, A _ _ ?_⟩
      · have := C 0 (by omega); simpa [cells4] using this
      · have := C 1 (by omega); simpa [cells4] using this
      · have := C 2 (by omega); simpa [cells4] using this
      · have := C 3 (by omega); simpa [cells4] using this

/-- what Grow gives: an empty slice of the call's own -/
def Grown (w : World) (e : Ending) (w' : World) : Prop := ∃ v, e = .returned v ∧ Below w.heap.size w w' ∧ Own w' w.heap.size v []
/-- the slices that Concat is given, and their lists -/
def Parts (g : Nat) (vs : List Value) (ls : List (List Rg)) (W : World) : Prop := g < W.heap.size ∧ vs.length = ls.length ∧ (∀ (j : Nat) (v : Value), vs[j]? = some v → W.cell? ⟨g, j, none⟩ = some v) ∧ ∀ (j : Nat) (v : Value) (l : List Rg), vs[j]? = some v → ls[j]? = some l → Lst v l W
theorem Parts.step {g : Nat} {vs : List Value} {ls : List (List Rg)} {W w2 : World} (h : Parts g vs ls W) (hb : Below W.heap.size W w2) : Parts g vs ls w2 :=
  ⟨Nat.lt_of_lt_of_le h.1 hb.size, h.2.1, fun j v hj => keep_cell hb (h.2.2.1 j v hj), fun j v l hv hl => (h.2.2.2 j v l hv hl).step hb⟩
def sumLen : List (List Rg) → Nat
  | [] => 0
  | l :: r => l.length + sumLen r
theorem sumLen_snoc : ∀ (ls : List (List Rg)) (l : List Rg), sumLen (ls ++ [l]) = sumLen ls + l.length
  | [], l => by simp [sumLen]
  | m :: r, l => by rw [List.cons_append]; unfold sumLen; rw [sumLen_snoc r l]; omega
theorem sumLen_le : ∀ (ls : List (List Rg)) (k : Nat), sumLen (ls.take k) ≤ sumLen ls
  | [], k => by simp [sumLen]
  | m :: r, 0 => by simp [sumLen]
  | m :: r, k + 1 => by rw [List.take_succ_cons]; unfold sumLen; have := sumLen_le r k; omega
theorem sumLen_flat : ∀ ls : List (List Rg), ls.flatten.length = sumLen ls
  | [] => rfl
  | m :: r => by rw [List.flatten_cons, List.length_append, sumLen_flat r]; rfl
/-- a value that the call made, that reads as a list -/
def Makes (l : List Rg) (w : World) (e : Ending) (w' : World) : Prop := ∃ v, e = .returned v ∧ Below w.heap.size w w' ∧ Own w' w.heap.size v l
theorem take_next {ls : List (List Rg)} {k : Nat} {l : List Rg} (h : ls[k]? = some l) : ls.take (k + 1) = ls.take k ++ [l] := by rw [List.take_add_one, h]; rfl
theorem base_le {w : World} {base g n cap size : Nat} {e : TypeId} {xs : List Value} (h : w.ownsRow base e size (.slice (some ⟨g, 0, none⟩) n cap) n xs) : base ≤ g := (h.lt g rfl).1
end Go.Proofs.YtfmhpnendcikoaaGreat
namespace Go.Proofs.YtfmhpnendcikoaaGreat
open Go.RowKit Go.Joins

/-- what Put keeps -/
def HP (w : World) (v : Value) (l : List Rg) (r : Rg) (W : World) : Prop := Below w.heap.size w W ∧ Four w.heap.size r W ∧ Lst v l W
theorem HP.step {w : World} {v : Value} {l : List Rg} {r : Rg} {W w2 : World} (h : HP w v l r W) (hb : Below W.heap.size W w2) : HP w v l r w2 := ⟨h.1.trans (hb.mono h.1.size), h.2.1.step hb, h.2.2.step hb⟩
theorem HP.drew {w : World} {v : Value} {l : List Rg} {r : Rg} {W : World} (h : HP w v l r W) : HP w v l r W.drew := h.step (below_drew W)
theorem HP.alloc {w : World} {v : Value} {l : List Rg} {r : Rg} {W : World} (h : HP w v l r W) (o : Obj) : HP w v l r (W.alloc o) := h.step (below_alloc W o)
theorem hp_new (w : World) {v : Value} {l : List Rg} (r : Rg) (hl : Lst v l w) : HP w v l r (w.alloc (.cells #[.int .u64 (hi r.1 : Nat), .int .u64 (lo r.1 : Nat), .int .u64 (hi r.2 : Nat), .int .u64 (lo r.2 : Nat)] 36)) := ⟨below_alloc _ _, four_new _ _ _, hl.step (below_alloc _ _)⟩
/-- what the two regions that merge keep -/
theorem hp_all {w : World} {b o c : Nat} {l : List Rg} {r x : Rg} {k : Nat} (hx : l[k]? = some x) {W : World} (h : HP w (.slice (some ⟨b, o, none⟩) l.length c) l r W) :
    HP w (.slice (some ⟨b, o, none⟩) l.length c) l r W ∧ (W.cell? ⟨w.heap.size, 0, none⟩ = some (.int .u64 (hi r.1 : Nat)) ∧ W.cell? ⟨w.heap.size, 1, none⟩ = some (.int .u64 (lo r.1 : Nat)) ∧ W.cell? ⟨w.heap.size, 2, none⟩ = some (.int .u64 (hi r.2 : Nat)) ∧ W.cell? ⟨w.heap.size, 3, none⟩ = some (.int .u64 (lo r.2 : Nat)))∧ (W.frozen? ⟨w.heap.size, 0, none⟩ = false ∧ W.frozen? ⟨w.heap.size, 1, none⟩ = false ∧ W.frozen? ⟨w.heap.size, 2, none⟩ = false ∧ W.frozen? ⟨w.heap.size, 3, none⟩ = false) ∧
      W.cell? ⟨b, o + k * 4, none⟩ = some (.int .u64 (hi x.1 : Nat)) ∧ W.cell? ⟨b, o + k * 4 + 1, none⟩ = some (.int .u64 (lo x.1 : Nat)) ∧ W.cell? ⟨b, o + k * 4 + 2, none⟩ = some (.int .u64 (hi x.2 : Nat)) ∧ W.cell? ⟨b, o + k * 4 + 3, none⟩ = some (.int .u64 (lo x.2 : Nat)) := by
  refine ⟨h, h.2.1.2.1, h.2.1.2.2, ?_⟩
  rcases h.2.2 with ⟨p, c', hv, rfl, _⟩ | ⟨b', o', c', hv, hr, _⟩
  · simp at hx
  · cases hv
    exact hr.2 k x hx
theorem lst_set {b o c : Nat} {l : List Rg} {n : Nat} {W : World} (h : Lst (.slice (some ⟨b, o, none⟩) n c) l W) {p : Go.Addr} (hp : b ≠ p.block) (u : Value) : Lst (.slice (some ⟨b, o, none⟩) n c) l (W.setCell p u) := by
  rcases h with h | ⟨b', o', c', hv, hr, h⟩
  · exact Or.inl h
  · have hv' := hv
    cases hv'
    exact Or.inr ⟨b, o, c, rfl, hr.set hp u, h⟩
theorem HP.put1 {w : World} {b o c n : Nat} {l : List Rg} {r : Rg} {W : World} (hb : b < w.heap.size) (h : HP w (.slice (some ⟨b, o, none⟩) n c) l r W) (y : Nat) : HP w (.slice (some ⟨b, o, none⟩) n c) l (y, r.2) ((W.setCell ⟨w.heap.size, 0, none⟩ (.int .u64 (hi y : Nat))).setCell ⟨w.heap.size, 1, none⟩ (.int .u64 (lo y : Nat))) :=
  ⟨(h.1.setCell (by dsimp only; omega) _).setCell (by dsimp only; omega) _, h.2.1.put1 y, lst_set (lst_set h.2.2 (by dsimp only; omega) _) (by dsimp only; omega) _⟩
theorem HP.put2 {w : World} {b o c n : Nat} {l : List Rg} {r : Rg} {W : World} (hb : b < w.heap.size) (h : HP w (.slice (some ⟨b, o, none⟩) n c) l r W) (y : Nat) : HP w (.slice (some ⟨b, o, none⟩) n c) l (r.1, y) ((W.setCell ⟨w.heap.size, 2, none⟩ (.int .u64 (hi y : Nat))).setCell ⟨w.heap.size, 3, none⟩ (.int .u64 (lo y : Nat))) :=
  ⟨(h.1.setCell (by dsimp only; omega) _).setCell (by dsimp only; omega) _, h.2.1.put2 y, lst_set (lst_set h.2.2 (by dsimp only; omega) _) (by dsimp only; omega) _⟩
theorem four_later {V : World} {t : TypeId} (a b : Nat) : Four V.heap.size (a, b) (V.alloc (.cells #[.int .u64 (hi a : Nat), .int .u64 (lo a : Nat), .int .u64 (hi b : Nat), .int .u64 (lo b : Nat)] t)).drew := (four_new V (a, b) t).step (below_drew _)
/-- what Put gives: a list of the call's own, and no error -/
def PutGives (l : List Rg) (w : World) (e : Ending) (w' : World) : Prop := ∃ v, e = .returned (.tuple #[v, .int .i64 0]) ∧ Below w.heap.size w w' ∧ Own w' w.heap.size v l
theorem midR_lt {l : List Rg} {r x y : Rg} {f t : Nat} (h : f < t) (hx : l[f]? = some x) (hy : l[t - 1]? = some y) : midR l r f t = (min r.1 x.1, max r.2 y.2) := by unfold midR; rw [if_pos h, getD_some hx, getD_some hy]
theorem midR_ge {l : List Rg} {r : Rg} {f t : Nat} (h : ¬ f < t) : midR l r f t = r := by unfold midR; rw [if_neg h]

theorem lst_take {b o c n f : Nat} {l : List Rg} {W : World} (h : Lst (.slice (some ⟨b, o, none⟩) n c) l W) (hf : f ≤ l.length) : Lst (.slice (some ⟨b, o, none⟩) f c) (l.take f) W := by
  rcases Nat.eq_zero_or_pos f with rfl | hp
  · rcases h with ⟨p, c', hv, _, _, hb⟩ | ⟨b', o', c', hv, _, _, _, hb⟩
    · cases hv; exact Or.inl ⟨_, _, rfl, by simp, fun e => (by cases e), hb⟩
    · cases hv; exact Or.inl ⟨_, _, rfl, by simp, fun e => (by cases e), hb⟩
  · rcases h with ⟨p, c', hv, rfl, _⟩ | ⟨b', o', c', hv, hr, hc, hne, hb⟩
    · simp at hf; omega
    · cases hv
      have hlen : (l.take f).length = f := by rw [List.length_take]; omega
      refine Or.inr ⟨b, o, c, by rw [hlen], ⟨hr.1, fun j x hx => ?_⟩, by omega, fun e => by rw [e] at hlen; simp at hlen; omega, hb⟩
      rw [List.getElem?_take] at hx
      split at hx
      · exact hr.2 j x hx
      · cases hx
theorem lst_drop {b o c n t : Nat} {l : List Rg} {W : World} (h : Lst (.slice (some ⟨b, o, none⟩) n c) l W) (_ht : t ≤ l.length) : Lst (.slice (some ⟨b, o + t * 4, none⟩) (l.length - t) (c - t)) (l.drop t) W := by
  have hlen : (l.drop t).length = l.length - t := List.length_drop
  by_cases hd : l.drop t = []
  · rw [hd] at hlen
    simp at hlen
    rcases h with ⟨p, c', hv, _, _, hb⟩ | ⟨b', o', c', hv, _, _, _, hb⟩
    · cases hv; exact Or.inl ⟨_, _, by rw [← hlen], hd, fun e => (by cases e), by omega⟩
    · cases hv; exact Or.inl ⟨_, _, by rw [← hlen], hd, fun e => (by cases e), by omega⟩
  · rcases h with ⟨p, c', hv, rfl, _⟩ | ⟨b', o', c', hv, hr, hc, hne, hb⟩
    · simp at hd
    · cases hv
      refine Or.inr ⟨b, o + t * 4, c - t, by rw [hlen], ⟨hr.1, fun j x hx => ?_⟩, by omega, hd, by omega⟩
      rw [List.getElem?_drop] at hx
      have := hr.2 (t + j) x hx
      rwa [show o + (t + j) * 4 = o + t * 4 + j * 4 by omega] at this
theorem lst_end {b o n t : Nat} {l : List Rg} {W : World} (h : Lst (.slice (some ⟨b, o, none⟩) n t) l W) : Lst (.slice (some ⟨b, o, none⟩) 0 0) (l.drop t) W := by
  have hle : l.length ≤ t := by
    rcases h with ⟨p, c', hv, rfl, _⟩ | ⟨b', o', c', hv, hr, hc, hne, hb⟩
    · simp
    · cases hv; omega
  exact Or.inl ⟨_, _, rfl, List.drop_eq_nil_of_le hle, fun e => (by cases e), by omega⟩
theorem lst_one {g : Nat} {m : Rg} {W : World} (h : Four g m W) : Lst (.slice (some ⟨g, 0, none⟩) 1 1) [m] W := by
  refine Or.inr ⟨g, 0, 1, rfl, ⟨h.1, fun j x hx => ?_⟩, by simp, by simp, by omega⟩
  cases j with
  | zero => simp at hx; subst hx; exact h.2.1
  | succ j => simp at hx
theorem parts_new {wc : World} {v0 v2 : Value} {l0 l2 : List Rg} {m : Rg} {t1 t2 : TypeId} (h0 : Lst v0 l0 wc) (h2 : Lst v2 l2 wc) :
    Parts (wc.heap.size + 1) [v0, .slice (some ⟨wc.heap.size, 0, none⟩) 1 1, v2] [l0, [m], l2] ((wc.alloc (.cells #[.int .u64 (hi m.1 : Nat), .int .u64 (lo m.1 : Nat), .int .u64 (hi m.2 : Nat), .int .u64 (lo m.2 : Nat)] t1)).alloc (.cells #[v0, .slice (some ⟨wc.heap.size, 0, none⟩) 1 1, v2] t2)) := by
  have h1 := lst_one (four_new wc m t1)
  have hb : Below wc.heap.size wc (wc.alloc (.cells #[.int .u64 (hi m.1 : Nat), .int .u64 (lo m.1 : Nat), .int .u64 (hi m.2 : Nat), .int .u64 (lo m.2 : Nat)] t1)) := below_alloc _ _
  have hs : (wc.alloc (.cells #[.int .u64 (hi m.1 : Nat), .int .u64 (lo m.1 : Nat), .int .u64 (hi m.2 : Nat), .int .u64 (lo m.2 : Nat)] t1)).heap.size = wc.heap.size + 1 := by simp
  generalize wc.alloc (.cells #[.int .u64 (hi m.1 : Nat), .int .u64 (lo m.1 : Nat), .int .u64 (hi m.2 : Nat), .int .u64 (lo m.2 : Nat)] t1) = V at h1 hb hs ⊢
  rw [← hs]
  refine ⟨by simp, rfl, fun j v hj => ?_, fun j v l hv hl => ?_⟩
  · match j, hj with
    | 0, hj => simp at hj; subst hj; simp [go_sem]
    | 1, hj => simp at hj; subst hj; simp [go_sem]
    | 2, hj => simp at hj; subst hj; simp [go_sem]
    | j + 3, hj => simp at hj
  · match j, hv, hl with
    | 0, hv, hl => simp at hv hl; subst hv hl; exact (h0.step hb).step (below_alloc _ _)
    | 1, hv, hl => simp at hv hl; subst hv hl; exact h1.step (below_alloc _ _)
    | 2, hv, hl => simp at hv hl; subst hv hl; exact (h2.step hb).step (below_alloc _ _)
    | j + 3, hv, hl => simp at hv
theorem own_base {W : World} {base base' : Nat} {v : Value} {l : List Rg} (h : Own W base v l) (hb : base' ≤ base) : Own W base' v l := by
  refine ⟨h.1, ?_⟩
  rcases h.2 with hn | ⟨g, cap, cur, h1, h2, h3⟩
  · exact Or.inl hn
  · exact Or.inr ⟨g, cap, cur, h1, Nat.le_trans hb h2, h3⟩

/-- the box of Put's range, no list at hand -/
theorem put_nil {r : Rg} : putL [] r = [r] := by unfold putL midR fromS toS; simp
end Go.Proofs.YtfmhpnendcikoaaGreat
