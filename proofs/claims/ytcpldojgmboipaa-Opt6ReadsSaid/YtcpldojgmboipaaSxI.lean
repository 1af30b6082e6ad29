/-
  What an identity association has, in memory: rows as a call owns them and as they are read; append of one; its box. Conditions: a row takes at most 2^47 bytes.
-/
import Derived.Test.YtcpldojgmboipaaSxE
namespace Go.Proofs.Ytcpldojgmboipaa
open Go.RowKit Go.Joins

abbrev cellsV (x : In) : List Value := [.int .u64 (hi x.addr : Nat), .int .u64 (lo x.addr : Nat), .int .i64 x.bits, .int .u32 (x.pref.toNat : Int), .int .u32 (x.valid.toNat : Int), .int .i64 x.code]
abbrev IV (x : In) : Value := .agg #[.int .u64 (hi x.addr : Nat), .int .u64 (lo x.addr : Nat), .int .i64 x.bits, .int .u32 (x.pref.toNat : Int), .int .u32 (x.valid.toNat : Int), .int .i64 x.code]
theorem infoN : (Try.prog.info? 74).map (fun i => (i.zero, i.size, i.bytes)) = some (some (.agg #[.int .u64 0, .int .u64 0, .int .i64 0, .int .u32 0, .int .u32 0, .int .i64 0]), 6, 40) := by kernel_rfl
def cellsI (l : List In) : List Value := l.flatMap cellsV
theorem cellsI_cons (x : In) (l : List In) : cellsI (x :: l) = cellsV x ++ cellsI l := by unfold cellsI; rw [List.flatMap_cons]
theorem cellsI_append (l m : List In) : cellsI (l ++ m) = cellsI l ++ cellsI m := by unfold cellsI; rw [List.flatMap_append]
theorem cellsI_len (l : List In) : (cellsI l).length = l.length * 6 := by
  induction l with
  | nil => rfl
  | cons x r ih => rw [cellsI_cons, List.length_append, ih, List.length_cons]; simp; omega
theorem cellsI_at {l : List In} {j : Nat} {x : In} (h : l[j]? = some x) (i : Nat) (hi : i < 6) : (cellsI l)[j * 6 + i]? = (cellsV x)[i]? := by
  induction l generalizing j with
  | nil => simp at h
  | cons y r ih =>
    rw [cellsI_cons]
    cases j with
    | zero =>
      simp at h; subst h
      rw [Nat.zero_mul, Nat.zero_add, List.getElem?_append_left (by simpa using hi)]
    | succ j =>
      rw [List.getElem?_append_right (by simp; omega), show (j + 1) * 6 + i - (cellsV y).length = j * 6 + i by simp; omega]
      exact ih (by simpa using h)
theorem cellsI_one (l : List In) : ∀ u ∈ cellsI l, u.oneCell' = true := by
  intro u hu
  unfold cellsI at hu
  obtain ⟨x, _, hx⟩ := List.mem_flatMap.1 hu
  simp only [List.mem_cons, List.not_mem_nil, or_false] at hx
  rcases hx with rfl | rfl | rfl | rfl | rfl | rfl <;> rfl
/-- a row of the call's own -/
abbrev OwnI (w : World) (base : Nat) (v : Value) (l : List In) : Prop := w.ownsRow base 74 6 v l.length (cellsI l)
theorem own_six {W : World} {x : In} {t : TypeId} : ∀ j u, (cellsI [x])[j]? = some u → (W.alloc (.cells (cellsV x).toArray t)).cell? ((⟨W.heap.size, 0, none⟩ : Go.Addr).add j) = some u := by
  intro j u hj
  rw [add_at, Nat.zero_add, cell_at (heap_alloc_new W (.cells (cellsV x).toArray t)), ← hj]
  simp [cellsI]
/-- append of one to a row of the call's own, and where the new row lies -/
theorem wpList_append_oneI {w : World} {ops : Array Oper} {rest : List Oper} {o : Oper} {a : Act} {Q : Exit → Act → World → Prop} (hgd : o.guard = none) (s x : Operand)
    (ho : o.op = .call { callee := .builtin .append, args := #[s, x], argTypes := #[35, 35] })
    (base : Nat) (v : Value) (pre : List In) (hs : a.eval s = v) (hown : OwnI w base v pre) (b c : Nat) (y : In) (hx : a.eval x = .slice (some ⟨b, 0, none⟩) 1 c) (hl : ∀ j u, (cellsI [y])[j]? = some u → w.cell? ((⟨b, 0, none⟩ : Go.Addr).add j) = some u)
    (hn : (pre.length + 1) * 40 ≤ 140737488355328) (hbase : base ≤ w.heap.size)
    (h : ∀ g cap w', OwnI w' base (.slice (some ⟨g, 0, none⟩) (pre.length + 1) cap) (pre ++ [y]) → Below base w w' → w.grownBy w' v.ownBlock → (v.ownBlock = some g ∨ w.heap.size ≤ g) → wpList Try.prog ops Q rest (a.put o.dst (.slice (some ⟨g, 0, none⟩) (pre.length + 1) cap)) w') : wpList Try.prog ops Q (o :: rest) a w := by
  obtain ⟨i0, hi, hz0, hz1, hz2⟩ := info_parts infoN
  refine wpList_append_lies w hgd s x 35 ho base 74 i0 (.agg #[.int .u64 0, .int .u64 0, .int .i64 0, .int .u32 0, .int .u32 0, .int .i64 0]) 6 40 Try.underlying35 hi hz0 hz1 hz2 rfl (by decide) v pre.length (cellsI pre) hs hown ⟨b, 0, none⟩ 1 c (cellsI [y]) hx (cellsI_len [y]) hl (cellsI_one [y]) (by omega) (by unfold maxLen; omega) (by omega) hbase _ rfl ?_
  intro g cap w' h1 h2 h3 _
  refine h g cap w' ?_ ((Below.refl _ _).grown h2 hbase (fun j hj => (hown.lt j hj).1)) h2 (h3.imp id (fun e => by rw [e]; exact Nat.le_refl _))
  unfold OwnI
  rw [List.length_append, cellsI_append]
  exact h1
/-! ### rows that are read -/
def AtI (b o : Nat) (x : In) (W : World) : Prop := ∀ i, i < 6 → W.cell? ⟨b, o + i, none⟩ = (cellsV x)[i]?
theorem AtI.step {b o : Nat} {x : In} {W w2 : World} (h : AtI b o x W) (hb : Below W.heap.size W w2) : AtI b o x w2 := fun i hi => by
  have e := h i hi
  rw [List.getElem?_eq_getElem (show i < (cellsV x).length from hi)] at e ⊢
  exact keep_cell hb e
theorem AtI.cells {b o : Nat} {x : In} {W : World} (h : AtI b o x W) : W.cell? ⟨b, o, none⟩ = some (.int .u64 (hi x.addr : Nat)) ∧ W.cell? ⟨b, o + 1, none⟩ = some (.int .u64 (lo x.addr : Nat)) ∧ W.cell? ⟨b, o + 2, none⟩ = some (.int .i64 x.bits) ∧ W.cell? ⟨b, o + 3, none⟩ = some (.int .u32 (x.pref.toNat : Int)) ∧ W.cell? ⟨b, o + 4, none⟩ = some (.int .u32 (x.valid.toNat : Int)) ∧ W.cell? ⟨b, o + 5, none⟩ = some (.int .i64 x.code) :=
  ⟨h 0 (by omega), h 1 (by omega), h 2 (by omega), h 3 (by omega), h 4 (by omega), h 5 (by omega)⟩
def RowI (b o : Nat) (l : List In) (W : World) : Prop := b < W.heap.size ∧ ∀ (j : Nat) (x : In), l[j]? = some x → AtI b (o + j * 6) x W
theorem RowI.step {b o : Nat} {l : List In} {W w2 : World} (h : RowI b o l W) (hb : Below W.heap.size W w2) : RowI b o l w2 := ⟨Nat.lt_of_lt_of_le h.1 hb.size, fun j x hj => (h.2 j x hj).step hb⟩
/-- a slice that reads as a list -/
def LstI (v : Value) (l : List In) (W : World) : Prop := (∃ p c, v = .slice p 0 c ∧ l = [] ∧ (p = none → c = 0) ∧ c ≤ 9223372036854775807) ∨ ∃ b o c, v = .slice (some ⟨b, o, none⟩) l.length c ∧ RowI b o l W ∧ l.length ≤ c ∧ l ≠ [] ∧ c ≤ 9223372036854775807
theorem LstI.step {v : Value} {l : List In} {W w2 : World} (h : LstI v l W) (hb : Below W.heap.size W w2) : LstI v l w2 := by
  rcases h with h | ⟨b, o, c, h1, h2, h3⟩
  · exact Or.inl h
  · exact Or.inr ⟨b, o, c, h1, h2.step hb, h3⟩
theorem lstI_len {v : Value} {l : List In} {W : World} (h : LstI v l W) : ∃ p c, v = .slice p l.length c := by
  rcases h with ⟨p, c, h, rfl, _⟩ | ⟨b, o, c, h, _⟩
  · exact ⟨p, c, h⟩
  · exact ⟨_, _, h⟩
theorem getI_some {l : List In} {k : Nat} (h : k < l.length) : ∃ x, l[k]? = some x := ⟨_, List.getElem?_eq_getElem h⟩
theorem lstI_at {p : Option Go.Addr} {n c : Nat} {l : List In} {W : World} (h : LstI (.slice p n c) l W) {k : Nat} {x : In} (hx : l[k]? = some x) : ∃ b o, p = some ⟨b, o, none⟩ ∧ b < W.heap.size ∧ AtI b (o + k * 6) x W := by
  rcases h with ⟨_, _, _, rfl, _⟩ | ⟨b, o, c', hv, hr, _⟩
  · simp at hx
  · cases hv
    exact ⟨b, o, rfl, hr.1, hr.2 k x hx⟩
theorem lstI_cap {p : Option Go.Addr} {n c : Nat} {l : List In} {W : World} (h : LstI (.slice p n c) l W) : n = l.length ∧ n ≤ c ∧ c ≤ 9223372036854775807 ∧ (p = none → c = 0) := by
  rcases h with ⟨p', c', hv, rfl, h1, h2⟩ | ⟨b, o, c', hv, _, h1, _, h2⟩
  · cases hv; exact ⟨rfl, Nat.zero_le _, h2, h1⟩
  · cases hv; exact ⟨rfl, h1, h2, fun e => by cases e⟩
theorem ownI_nil (w : World) (base : Nat) : OwnI w base (.slice none 0 0) [] := World.ownsRow_nil w base _ _
theorem ownI_at {W : World} {base g c n : Nat} {l : List In} (h : OwnI W base (.slice (some ⟨g, 0, none⟩) n c) l) {k : Nat} {x : In} (hx : l[k]? = some x) : AtI g (0 + k * 6) x W := by
  have hk : k < l.length := (List.getElem?_eq_some_iff.1 hx).1
  have e : n = l.length := by rcases h.2 with ⟨h1, _⟩ | ⟨_, _, _, h1, _⟩ <;> cases h1 <;> rfl
  subst e
  intro i hi
  rw [Nat.zero_add]
  exact (h.cellAt (k * 6 + i) (by omega)).trans (cellsI_at hx i hi)
theorem ownI_lst {W : World} {base : Nat} {v : Value} {l : List In} (h : OwnI W base v l) : LstI v l W := by
  rcases h.2 with ⟨rfl, hn⟩ | ⟨g, cap, cur, rfl, hb, hg, hnc, hm, hcs, ht⟩
  · exact Or.inl ⟨none, 0, rfl, List.length_eq_zero_iff.1 hn, fun _ => rfl, by omega⟩
  · have hcap : cap ≤ 9223372036854775807 := by unfold maxLen at hm; exact hm
    by_cases hl : l = []
    · subst hl
      exact Or.inl ⟨_, cap, rfl, rfl, fun e => (by cases e), hcap⟩
    · exact Or.inr ⟨g, 0, cap, rfl, ⟨lt_of_block hg, fun j x hx => ownI_at h hx⟩, hnc, hl, hcap⟩
theorem ownI_base {W : World} {base base' : Nat} {v : Value} {l : List In} (h : OwnI W base v l) (hb : base' ≤ base) : OwnI W base' v l := by
  refine ⟨h.1, ?_⟩
  rcases h.2 with hn | ⟨g, cap, cur, h1, h2, h3⟩
  · exact Or.inl hn
  · exact Or.inr ⟨g, cap, cur, h1, Nat.le_trans hb h2, h3⟩
/-- an identity association as a value -/
abbrev cellsA (a : IA) (v : Value) : Array Value := #[.int .i64 a.kind, .int .u32 (a.iaid.toNat : Int), .int .u32 (a.t1.toNat : Int), .int .u32 (a.t2.toNat : Int), v, .int .i64 a.code]
abbrev AV (a : IA) (v : Value) : Value := .agg #[.int .i64 a.kind, .int .u32 (a.iaid.toNat : Int), .int .u32 (a.t1.toNat : Int), .int .u32 (a.t2.toNat : Int), v, .int .i64 a.code]
theorem cellsA_one (a : IA) {v : Value} (hv : v.oneCell' = true) : (cellsA a v).all (·.oneCell') = true :=
  Array.all_eq_true_iff_forall_mem.2 fun u hu => by
    simp only [List.mem_toArray, List.mem_cons, List.not_mem_nil, or_false] at hu
    rcases hu with rfl | rfl | rfl | rfl | rfl | rfl
    all_goals first | rfl | exact hv
end Go.Proofs.Ytcpldojgmboipaa
