/-
  How a prefix and a slice of prefixes lie in memory; rows of a call's own; append of a list that is read. Conditions: the words are words of 64 bits, an int is an int of 64 bits; fewer than 1000000 prefixes.
-/
import Derived.Test.YtpieddddckbfdaaBBase
import Derived.Test.YtpieddddckbfdaaBuM
import Derived.Lib.AppendZeros
import Derived.Laws.AppendOwnNone
namespace Go.Proofs.Ytpieddddckbfdaa
open Go.RowKit Go.Joins

/-- a prefix that the program can hold -/
def FitB (x : Bk) : Prop := Fits x.1 ∧ I64 x.2
def FitL (l : List Bk) : Prop := ∀ x ∈ l, FitB x
abbrev Bv (x : Bk) : Value := Pv x.1 x.2
/-- one prefix at a place of a block -/
def At (b o : Nat) (x : Bk) (W : World) : Prop := W.cell? ⟨b, o, none⟩ = some (.int .u64 (hi x.1 : Nat)) ∧ W.cell? ⟨b, o + 1, none⟩ = some (.int .u64 (lo x.1 : Nat)) ∧ W.cell? ⟨b, o + 2, none⟩ = some (.int .i64 x.2)
theorem At.step {b o : Nat} {x : Bk} {W w2 : World} (h : At b o x W) (hb : Below W.heap.size W w2) : At b o x w2 := ⟨keep_cell hb h.1, keep_cell hb h.2.1, keep_cell hb h.2.2⟩
/-- a prefix in a block of its own, that may be written -/
def Box (g : Nat) (x : Bk) (W : World) : Prop := g < W.heap.size ∧ At g 0 x W ∧ W.frozen? ⟨g, 0, none⟩ = false ∧ W.frozen? ⟨g, 1, none⟩ = false ∧ W.frozen? ⟨g, 2, none⟩ = false
theorem Box.step {g : Nat} {x : Bk} {W w2 : World} (h : Box g x W) (hb : Below W.heap.size W w2) : Box g x w2 :=
  ⟨Nat.lt_of_lt_of_le h.1 hb.size, h.2.1.step hb, keep_free hb h.1 h.2.2.1, keep_free hb h.1 h.2.2.2.1, keep_free hb h.1 h.2.2.2.2⟩
abbrev cellsV (x : Bk) : Array Value := #[.int .u64 (hi x.1 : Nat), .int .u64 (lo x.1 : Nat), .int .i64 x.2]
theorem box_new (V : World) (x : Bk) (t : TypeId) : Box V.heap.size x (V.alloc (.cells #[.int .u64 (hi x.1 : Nat), .int .u64 (lo x.1 : Nat), .int .i64 x.2] t)) := by
  refine ⟨by simp, ⟨?_, ?_, ?_⟩, ?_, ?_, ?_⟩ <;> simp [go_sem]
theorem Box.all {g : Nat} {x : Bk} {W : World} (h : Box g x W) : g < W.heap.size ∧ (W.cell? ⟨g, 0, none⟩ = some (.int .u64 (hi x.1 : Nat)) ∧ W.cell? ⟨g, 1, none⟩ = some (.int .u64 (lo x.1 : Nat)) ∧ W.cell? ⟨g, 2, none⟩ = some (.int .i64 x.2)) ∧
    W.frozen? ⟨g, 0, none⟩ = false ∧ W.frozen? ⟨g, 1, none⟩ = false ∧ W.frozen? ⟨g, 2, none⟩ = false := h
theorem Box.set {g : Nat} {x : Bk} {W : World} (h : Box g x W) {q : Go.Addr} (hq : g ≠ q.block) (u : Value) : Box g x (W.setCell q u) := by
  have hb := Below.heap_setCell W q u g hq
  have c : ∀ o, (W.setCell q u).cell? ⟨g, o, none⟩ = W.cell? ⟨g, o, none⟩ := fun o => World.cell?_of_block (w := W) hb
  have f : ∀ o, (W.setCell q u).frozen? ⟨g, o, none⟩ = W.frozen? ⟨g, o, none⟩ := fun o => World.frozen?_of_block (w := W) hb
  unfold Box At
  rw [c, c, c, f, f, f]
  exact ⟨by simp; exact h.1, h.2⟩
theorem Box.put {g : Nat} {x : Bk} {W : World} (h : Box g x W) (y : Bk) : Box g y (((W.setCell ⟨g, 0, none⟩ (.int .u64 (hi y.1 : Nat))).setCell ⟨g, 1, none⟩ (.int .u64 (lo y.1 : Nat))).setCell ⟨g, 2, none⟩ (.int .i64 y.2)) := by
  obtain ⟨h0, ⟨h1, h2, h3⟩, f1, f2, f3⟩ := h
  refine ⟨by simp; exact h0, ⟨?_, ?_, ?_⟩, ?_, ?_, ?_⟩
  all_goals simp [go_sem, *]
/-- a row of prefixes from a place of a block on -/
def RowR (b o : Nat) (l : List Bk) (W : World) : Prop := b < W.heap.size ∧ ∀ (j : Nat) (x : Bk), l[j]? = some x → At b (o + j * 3) x W
theorem RowR.step {b o : Nat} {l : List Bk} {W w2 : World} (h : RowR b o l W) (hb : Below W.heap.size W w2) : RowR b o l w2 := ⟨Nat.lt_of_lt_of_le h.1 hb.size, fun j x hj => (h.2 j x hj).step hb⟩
/-- a slice value that reads as a list of prefixes -/
def Lst (v : Value) (l : List Bk) (W : World) : Prop := (∃ p c, v = .slice p 0 c ∧ l = [] ∧ (p = none → c = 0) ∧ c ≤ 9223372036854775807) ∨ ∃ b o c, v = .slice (some ⟨b, o, none⟩) l.length c ∧ RowR b o l W ∧ l.length ≤ c ∧ l ≠ [] ∧ c ≤ 9223372036854775807
theorem Lst.step {v : Value} {l : List Bk} {W w2 : World} (h : Lst v l W) (hb : Below W.heap.size W w2) : Lst v l w2 := by
  rcases h with h | ⟨b, o, c, h1, h2, h3⟩
  · exact Or.inl h
  · exact Or.inr ⟨b, o, c, h1, h2.step hb, h3⟩
theorem get_some {l : List Bk} {k : Nat} (h : k < l.length) : ∃ x, l[k]? = some x := ⟨_, List.getElem?_eq_getElem h⟩
theorem getD_some {l : List Bk} {i : Nat} {x : Bk} (h : l[i]? = some x) : l.getD i (0, 0) = x := by rw [List.getD_eq_getElem?_getD, h]; rfl
theorem lt_of_some {l : List Bk} {i : Nat} {x : Bk} (h : l[i]? = some x) : i < l.length := (List.getElem?_eq_some_iff.1 h).1
theorem fit_at {l : List Bk} (hf : FitL l) {k : Nat} {x : Bk} (h : l[k]? = some x) : FitB x := hf x (List.mem_of_getElem? h)
theorem lst_len {v : Value} {l : List Bk} {W : World} (h : Lst v l W) : ∃ p c, v = .slice p l.length c := by
  rcases h with ⟨p, c, h1, h2, _⟩ | ⟨b, o, c, h1, _⟩
  · exact ⟨p, c, by rw [h1, h2]; rfl⟩
  · exact ⟨_, _, h1⟩
theorem lst_nil (w : World) : Lst (.slice none 0 0) [] w := Or.inl ⟨none, 0, rfl, rfl, fun _ => rfl, by omega⟩
theorem lst_cap {p : Option Go.Addr} {n c : Nat} {l : List Bk} {W : World} (h : Lst (.slice p n c) l W) : n = l.length ∧ n ≤ c ∧ c ≤ 9223372036854775807 ∧ (p = none → c = 0) := by
  rcases h with ⟨p', c', hv, h0, h1, h2⟩ | ⟨b, o, c', hv, _, h1, _, h2⟩
  · cases hv; exact ⟨by rw [h0]; rfl, Nat.zero_le _, h2, h1⟩
  · cases hv; exact ⟨rfl, h1, h2, fun e => by cases e⟩
/-- what stands at a place -/
theorem lst_at {p : Option Go.Addr} {n c : Nat} {l : List Bk} {W : World} {k : Nat} {x : Bk} (h : Lst (.slice p n c) l W) (hx : l[k]? = some x) : ∃ b o, p = some ⟨b, o, none⟩ ∧ RowR b o l W ∧ At b (o + k * 3) x W := by
  rcases h with ⟨p', c', hv, rfl, _⟩ | ⟨b, o, c', hv, hr, _⟩
  · simp at hx
  · cases hv; exact ⟨b, o, rfl, hr, hr.2 k x hx⟩
theorem lst_take {p : Option Go.Addr} {c f n : Nat} {l : List Bk} {W : World} (h : Lst (.slice p n c) l W) (hf : f ≤ l.length) : Lst (.slice p f c) (l.take f) W := by
  rcases Nat.eq_zero_or_pos f with rfl | hp
  · rcases h with ⟨p', c', hv, _, ha, hb⟩ | ⟨b', o', c', hv, _, _, _, hb⟩
    · cases hv; exact Or.inl ⟨_, _, rfl, by simp, ha, hb⟩
    · cases hv; exact Or.inl ⟨_, _, rfl, by simp, fun e => (by cases e), hb⟩
  · rcases h with ⟨p, c', hv, rfl, _⟩ | ⟨b', o', c', hv, hr, hc, hne, hb⟩
    · simp at hf; omega
    · cases hv
      have hlen : (l.take f).length = f := by rw [List.length_take]; omega
      refine Or.inr ⟨b', o', c, by rw [hlen], ⟨hr.1, fun j x hx => ?_⟩, by omega, fun e => by rw [e] at hlen; simp at hlen; omega, hb⟩
      rw [List.getElem?_take] at hx
      split at hx
      · exact hr.2 j x hx
      · cases hx
theorem lst_drop {b o c n t : Nat} {l : List Bk} {W : World} (h : Lst (.slice (some ⟨b, o, none⟩) n c) l W) : Lst (.slice (some ⟨b, o + t * 3, none⟩) (l.length - t) (c - t)) (l.drop t) W := by
  have hlen : (l.drop t).length = l.length - t := List.length_drop
  by_cases hd : l.drop t = []
  · rw [hd] at hlen
    simp at hlen
    rcases h with ⟨p, c', hv, _, _, hb⟩ | ⟨b', o', c', hv, _, _, _, hb⟩
    · cases hv; exact Or.inl ⟨_, _, by rw [← hlen], hd, fun e => (by cases e), by omega⟩
    · cases hv; exact Or.inl ⟨_, _, by rw [← hlen], hd, fun e => (by cases e), by omega⟩
  · rcases h with ⟨p, c', hv, rfl, _⟩ | ⟨b', o', c', hv, hr, hc, hne, hb⟩
    · simp at hd
    · cases hv
      refine Or.inr ⟨b, o + t * 3, c - t, by rw [hlen], ⟨hr.1, fun j x hx => ?_⟩, by omega, hd, by omega⟩
      rw [List.getElem?_drop] at hx
      have := hr.2 (t + j) x hx
      rwa [show o + (t + j) * 3 = o + t * 3 + j * 3 by omega] at this
/-- any slice of no prefixes -/
theorem lst_empty {p : Option Go.Addr} {c : Nat} {W : World} (h1 : p = none → c = 0) (h2 : c ≤ 9223372036854775807) : Lst (.slice p 0 c) [] W := Or.inl ⟨p, c, rfl, rfl, h1, h2⟩
theorem row_one {g : Nat} {x : Bk} {W : World} (h : Box g x W) : RowR g 0 [x] W := ⟨h.1, fun j y hy => by
  cases j with
  | zero => simp at hy; subst hy; exact h.2.1
  | succ j => simp at hy⟩
theorem lst_one {g : Nat} {m : Bk} {W : World} (h : Box g m W) : Lst (.slice (some ⟨g, 0, none⟩) 1 1) [m] W :=
  Or.inr ⟨g, 0, 1, rfl, row_one h, by simp, by simp, by omega⟩
theorem row_get {b o : Nat} {l : List Bk} {W : World} {k : Nat} {x : Bk} (h : RowR b o l W) (hx : l[k]? = some x) : At b (o + k * 3) x W := h.2 k x hx

/-! ### rows of a call's own -/
theorem infoP : (Try.prog.info? 26).map (fun i => (i.zero, i.size, i.bytes)) = some (some (.agg #[.int .u64 0, .int .u64 0, .int .i64 0]), 3, 24) := by kernel_rfl
def cells3 (x : Bk) : List Value := [.int .u64 (hi x.1 : Nat), .int .u64 (lo x.1 : Nat), .int .i64 x.2]
def cellsP (l : List Bk) : List Value := l.flatMap cells3
theorem cellsP_cons (x : Bk) (l : List Bk) : cellsP (x :: l) = cells3 x ++ cellsP l := by unfold cellsP; rw [List.flatMap_cons]
theorem cellsP_append (l m : List Bk) : cellsP (l ++ m) = cellsP l ++ cellsP m := by unfold cellsP; rw [List.flatMap_append]
theorem cellsP_len (l : List Bk) : (cellsP l).length = l.length * 3 := by
  induction l with
  | nil => rfl
  | cons x r ih => rw [cellsP_cons, List.length_append, ih, List.length_cons]; simp [cells3]; omega
theorem cellsP_at {l : List Bk} {j : Nat} {x : Bk} (h : l[j]? = some x) (i : Nat) (hi : i < 3) : (cellsP l)[j * 3 + i]? = (cells3 x)[i]? := by
  induction l generalizing j with
  | nil => simp at h
  | cons y r ih =>
    rw [cellsP_cons]
    cases j with
    | zero =>
      simp at h; subst h
      rw [Nat.zero_mul, Nat.zero_add, List.getElem?_append_left (by simp [cells3]; omega)]
    | succ j =>
      rw [List.getElem?_append_right (by simp [cells3]; omega), show (j + 1) * 3 + i - (cells3 y).length = j * 3 + i by simp [cells3]; omega]
      exact ih (by simpa using h)
theorem cellsP_one (l : List Bk) : ∀ u ∈ cellsP l, u.oneCell' = true := by
  intro u hu
  unfold cellsP at hu
  obtain ⟨x, _, hx⟩ := List.mem_flatMap.1 hu
  simp only [cells3, List.mem_cons, List.not_mem_nil, or_false] at hx
  rcases hx with rfl | rfl | rfl <;> rfl
theorem add_at (b o j : Nat) : (⟨b, o, none⟩ : Go.Addr).add j = ⟨b, o + j, none⟩ := by cases j <;> simp [Addr.add]
theorem row_cells {b o : Nat} {l : List Bk} {W : World} (h : RowR b o l W) : ∀ (j : Nat) (u : Value), (cellsP l)[j]? = some u → W.cell? ((⟨b, o, none⟩ : Go.Addr).add j) = some u := by
  intro j u hj
  have hl : j < l.length * 3 := by
    rcases Nat.lt_or_ge j (cellsP l).length with h' | h'
    · rwa [cellsP_len] at h'
    · rw [List.getElem?_eq_none h'] at hj; cases hj
  obtain ⟨x, hx⟩ := get_some (show j / 3 < l.length by omega)
  have hc := cellsP_at hx (j % 3) (by omega)
  rw [show j / 3 * 3 + j % 3 = j by omega, hj] at hc
  obtain ⟨a0, a1, a2⟩ := h.2 _ x hx
  rw [add_at]
  have : j % 3 = 0 ∨ j % 3 = 1 ∨ j % 3 = 2 := by omega
  rcases this with e | e | e
  · rw [e] at hc; simp [cells3] at hc; subst hc; rw [show o + j = o + j / 3 * 3 by omega]; exact a0
  · rw [e] at hc; simp [cells3] at hc; subst hc; rw [show o + j = o + j / 3 * 3 + 1 by omega]; exact a1
  · rw [e] at hc; simp [cells3] at hc; subst hc; rw [show o + j = o + j / 3 * 3 + 2 by omega]; exact a2
/-- a slice of the call's own that reads as a list -/
abbrev Own (w : World) (base : Nat) (v : Value) (l : List Bk) : Prop := w.ownsRow base 26 3 v l.length (cellsP l)
theorem own_row {W : World} {base g n cap : Nat} {l : List Bk} (h : Own W base (.slice (some ⟨g, 0, none⟩) n cap) l) (hl : g < W.heap.size) : RowR g 0 l W := by
  have A : ∀ (j : Nat) (u : Value), (cellsP l)[j]? = some u → W.cell? ⟨g, j, none⟩ = some u := by
    intro j u hu
    have := h.cells (g := g) rfl j u hu
    rwa [add_at, Nat.zero_add] at this
  refine ⟨hl, fun j x hx => ?_⟩
  have C := fun i hi => cellsP_at hx i hi
  refine ⟨A _ _ ?_, A _ _ ?_, A _ _ ?_⟩
  · have := C 0 (by omega); simpa [cells3] using this
  · have := C 1 (by omega); simpa [cells3] using this
  · have := C 2 (by omega); simpa [cells3] using this
theorem own_lst {W : World} {base : Nat} {v : Value} {l : List Bk} (h : Own W base v l) : Lst v l W := by
  have h0 := h
  rcases h.2 with ⟨rfl, hn⟩ | ⟨g, cap, cur, rfl, hb, hg, hnc, hm, hcs, ht⟩
  · exact Or.inl ⟨none, 0, rfl, List.length_eq_zero_iff.1 hn, fun _ => rfl, by omega⟩
  · have hcap : cap ≤ 9223372036854775807 := by unfold maxLen at hm; exact hm
    by_cases hl : l = []
    · subst hl
      exact Or.inl ⟨_, cap, rfl, rfl, fun e => (by cases e), hcap⟩
    · have gl : g < W.heap.size := by
        rcases Nat.lt_or_ge g W.heap.size with h' | h'
        · exact h'
        · rw [Array.getElem?_eq_none h'] at hg; cases hg
      exact Or.inr ⟨g, 0, cap, rfl, own_row h0 gl, hnc, hl, hcap⟩
theorem own_base {W : World} {base base' : Nat} {v : Value} {l : List Bk} (h : Own W base v l) (hb : base' ≤ base) : Own W base' v l := by
  refine ⟨h.1, ?_⟩
  rcases h.2 with hn | ⟨g, cap, cur, h1, h2, h3⟩
  · exact Or.inl hn
  · exact Or.inr ⟨g, cap, cur, h1, Nat.le_trans hb h2, h3⟩
theorem own_nil (W : World) (base : Nat) : Own W base (.slice none 0 0) [] := World.ownsRow_nil _ _ _ _
theorem own_keep {W w2 : World} {base n size : Nat} {e : TypeId} {v : Value} {xs : List Value} (h : W.ownsRow base e size v n xs) (hb : Below W.heap.size W w2) : w2.ownsRow base e size v n xs := by
  refine ⟨h.1, ?_⟩
  rcases h.2 with hn | ⟨g, cap, cur, h1, h2, h3, h4⟩
  · exact Or.inl hn
  · have hl : g < W.heap.size := by
      rcases Nat.lt_or_ge g W.heap.size with h' | h'
      · exact h'
      · rw [Array.getElem?_eq_none h'] at h3; cases h3
    exact Or.inr ⟨g, cap, cur, h1, h2, by rw [hb.block g hl]; exact h3, h4⟩
/-- a row of the call's own, as a new literal of one prefix -/
theorem own_lit (W : World) (x : Bk) : Own (W.alloc (.cells #[.int .u64 (hi x.1 : Nat), .int .u64 (lo x.1 : Nat), .int .i64 x.2] 26)) W.heap.size (.slice (some ⟨W.heap.size, 0, none⟩) 1 1) [x] :=
  World.ownsRow_lit (base := W.heap.size) (e := 26) (size := 3) W #[.int .u64 (hi x.1 : Nat), .int .u64 (lo x.1 : Nat), .int .i64 x.2] 1 (Nat.le_refl _) (by unfold maxLen; omega) rfl
theorem own_empty (W : World) : Own (W.alloc (.cells #[] 26)) W.heap.size (.slice (some ⟨W.heap.size, 0, none⟩) 0 0) [] :=
  World.ownsRow_lit W #[] 0 (Nat.le_refl _) (by unfold maxLen; omega) rfl
/-- a value that the call made, that reads as a list -/
def Makes (l : List Bk) (w : World) (e : Ending) (w' : World) : Prop := ∃ v, e = .returned v ∧ Below w.heap.size w w' ∧ Own w' w.heap.size v l
/-- append of a list that is read to a list of the call's own -/
theorem wpList_append_lst {w : World} {ops : Array Oper} {rest : List Oper} {o : Oper} {a : Act} {Q : Exit → Act → World → Prop} (hgd : o.guard = none) (s x : Operand)
    (ho : o.op = .call { callee := .builtin .append, args := #[s, x], argTypes := #[27, 27] })
    (base : Nat) (v : Value) (pre : List Bk) (hs : a.eval s = v) (hown : Own w base v pre) (vx : Value) (l : List Bk) (hx : a.eval x = vx) (hl : Lst vx l w)
    (hn : pre.length + l.length ≤ 1000000) (hbase : base ≤ w.heap.size)
    (h : ∀ v' w', Own w' base v' (pre ++ l) → Below base w w' → w.grownBy w' v.ownBlock → wpList Try.prog ops Q rest (a.put o.dst v') w') : wpList Try.prog ops Q (o :: rest) a w := by
  obtain ⟨i0, hi, hz0, hz1, hz2⟩ := info_parts infoP
  have fin : ∀ v' w', w'.ownsRow base 26 3 v' (pre.length + l.length) (cellsP pre ++ cellsP l) → w.grownBy w' v.ownBlock → wpList Try.prog ops Q rest (a.put o.dst v') w' := by
    intro v' w' h1 h2
    refine h v' w' ?_ ((Below.refl _ _).grown h2 hbase (fun j hj => (hown.lt j hj).1)) h2
    unfold Own
    rw [List.length_append, cellsP_append]
    exact h1
  rcases hl with ⟨p, c, rfl, rfl, hpc, _⟩ | ⟨b, ofs, c, rfl, hr, _⟩
  · cases p with
    | none =>
      obtain rfl := hpc rfl
      refine wpList_append_own_none hgd s x 27 ho base 26 i0 3 Try.underlying27 hi v pre.length (cellsP pre) hs hown hx ?_
      exact h v w (by rw [List.append_nil]; exact hown) (Below.refl _ _) (World.grownBy.refl _ _)
    | some ad =>
      refine wpList_append_own w hgd s x 27 ho base 26 i0 (.agg #[.int .u64 0, .int .u64 0, .int .i64 0]) 3 24 Try.underlying27 hi hz0 hz1 hz2 rfl (by decide) v pre.length (cellsP pre) hs hown ad 0 c [] hx rfl (fun j u h => by simp at h) (fun u h => by simp at h) (by unfold maxLen; omega) (by omega) hbase ?_
      intro v2 w2 h1 h2 _
      exact fin v2 w2 (by simpa [cellsP] using h1) h2
  · refine wpList_append_own w hgd s x 27 ho base 26 i0 (.agg #[.int .u64 0, .int .u64 0, .int .i64 0]) 3 24 Try.underlying27 hi hz0 hz1 hz2 rfl (by decide) v pre.length (cellsP pre) hs hown ⟨b, ofs, none⟩ l.length c (cellsP l) hx (cellsP_len l) (row_cells hr) (cellsP_one l) (by unfold maxLen; omega) (by omega) hbase ?_
    intro v2 w2 h1 h2 _
    exact fin v2 w2 h1 h2
end Go.Proofs.Ytpieddddckbfdaa
