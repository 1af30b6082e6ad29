/-
  Lists of changes in memory. No condition beyond those in each theorem's own statement.
-/
import Derived.Test.YtpldkgollhbolaaTbQ
namespace Go.Proofs.Ytpldkgollhbolaa
open Go.RowKit Go.Joins

/-- one change at a place of a block -/
def AtC (b o : Nat) (c : Ch) (W : World) : Prop := W.cell? ⟨b, o, none⟩ = some (.bool c.gone) ∧ W.cell? ⟨b, o + 1, none⟩ = some (.int .i64 c.l.kind) ∧ W.cell? ⟨b, o + 2, none⟩ = some (.int .u64 (hi c.l.p : Nat)) ∧ W.cell? ⟨b, o + 3, none⟩ = some (.int .u64 (lo c.l.p : Nat)) ∧
  W.cell? ⟨b, o + 4, none⟩ = some (.int .i64 c.l.n) ∧ W.cell? ⟨b, o + 5, none⟩ = some (.int .i64 c.l.st) ∧ W.cell? ⟨b, o + 6, none⟩ = some (.string c.l.cl) ∧ W.cell? ⟨b, o + 7, none⟩ = some (.int .u32 (c.l.ia : Int)) ∧ W.cell? ⟨b, o + 8, none⟩ = some (.int .i64 c.l.un)
theorem AtC.step {b o : Nat} {c : Ch} {W w2 : World} (h : AtC b o c W) (hb : Below W.heap.size W w2) : AtC b o c w2 := by
  obtain ⟨h0, h1, h2, h3, h4, h5, h6, h7, h8⟩ := h
  exact ⟨keep_cell hb h0, keep_cell hb h1, keep_cell hb h2, keep_cell hb h3, keep_cell hb h4, keep_cell hb h5, keep_cell hb h6, keep_cell hb h7, keep_cell hb h8⟩
/-- a slice that reads as a list -/
def LstC (p : Option Go.Addr) (l : List Ch) (W : World) : Prop := ∀ (k : Nat) (c : Ch), l[k]? = some c → ∃ b o, p = some ⟨b, o, none⟩ ∧ AtC b (o + k * 9) c W
theorem LstC.step {p : Option Go.Addr} {l : List Ch} {W w2 : World} (h : LstC p l W) (hb : Below W.heap.size W w2) : LstC p l w2 := fun k c hk => by
  obtain ⟨b, o, h1, h2⟩ := h k c hk
  exact ⟨b, o, h1, h2.step hb⟩
def okL (l : List Ch) : Prop := ∀ c ∈ l, c.l.ok
def cellsC (l : List Ch) : List Value := (l.map wdC).flatten
theorem cellsC_snoc (l : List Ch) (c : Ch) : cellsC (l ++ [c]) = cellsC l ++ wdC c := by unfold cellsC; simp
theorem cellsC_at : ∀ (l : List Ch) (k i : Nat) (c : Ch), l[k]? = some c → i < 9 → (cellsC l)[k * 9 + i]? = (wdC c)[i]?
  | [], _, _, _, h, _ => by cases h
  | x :: l, 0, i, c, h, hi => by
    simp at h; subst h
    unfold cellsC
    rw [List.map_cons, List.flatten_cons, List.getElem?_append_left (by show 0 * 9 + i < 9; omega), Nat.zero_mul, Nat.zero_add]
  | x :: l, k + 1, i, c, h, hi => by
    have := cellsC_at l k i c (by simpa using h) hi
    unfold cellsC at *
    rw [List.map_cons, List.flatten_cons, List.getElem?_append_right (by show 9 ≤ _; omega)]
    have e : (k + 1) * 9 + i - (wdC x).length = k * 9 + i := by show (k + 1) * 9 + i - 9 = _; omega
    rw [e]; exact this
theorem infoC : (Try.prog.info? 54).map (fun i => (i.zero, i.size, i.bytes)) = some (some (.agg #[.bool false, .int .i64 0, .int .u64 0, .int .u64 0, .int .i64 0, .int .i64 0, .string ⟨#[]⟩, .int .u32 0, .int .i64 0]), 9, 80) := by kernel_rfl
/-- a list of the call's own -/
def OwnC (w : World) (base : Nat) (v : Value) (l : List Ch) : Prop := w.ownsRow base 54 9 v l.length (cellsC l)
theorem own_frC {S : Nat → Prop} {a b : World} {base : Nat} {v : Value} {l : List Ch} (h : OwnC a base v l) (k : Fr S a b) (hn : ∀ i, base ≤ i → ¬ S i) : OwnC b base v l := by
  refine ⟨h.1, ?_⟩
  rcases h.2 with hn2 | ⟨g, cap, cur, rfl, h2, h3, h4⟩
  · exact Or.inl hn2
  · exact Or.inr ⟨g, cap, cur, rfl, h2, k.keep h3 (hn g h2), h4⟩
theorem own_list {w : World} {base c : Nat} {p : Option Go.Addr} {l : List Ch} (h : OwnC w base (.slice p l.length c) l) : LstC p l w := by
  intro k x hk
  have hkl : k < l.length := (List.getElem?_eq_some_iff.1 hk).1
  have h2 := h
  unfold OwnC at h2
  rcases h.2 with ⟨hn, h0⟩ | ⟨g, cap, cur, hv, hb, hg, hr⟩
  · have h0 : l.length = 0 := by
      simp at hn
      omega
    omega
  · cases hv
    refine ⟨g, 0, rfl, ?_⟩
    have C : ∀ i, i < 9 → w.cell? ⟨g, 0 + k * 9 + i, none⟩ = (wdC x)[i]? := fun i hi => by
      rw [Nat.zero_add, h2.cellAt (k * 9 + i) (by omega), cellsC_at l k i x hk hi]
    exact ⟨C 0 (by omega), C 1 (by omega), C 2 (by omega), C 3 (by omega), C 4 (by omega), C 5 (by omega), C 6 (by omega), C 7 (by omega), C 8 (by omega)⟩
theorem wd_cell (c : Ch) : ∀ u ∈ wdC c, u.oneCell' = true := by
  intro u hu
  unfold wdC wdL at hu
  simp at hu
  rcases hu with rfl | rfl | rfl | rfl | rfl | rfl | rfl | rfl | rfl <;> rfl
theorem wd_at (W : World) (c : Ch) (t : TypeId) : ∀ j u, (wdC c)[j]? = some u → (W.alloc (.cells #[.bool c.gone, .int .i64 c.l.kind, .int .u64 (hi c.l.p : Nat), .int .u64 (lo c.l.p : Nat), .int .i64 c.l.n, .int .i64 c.l.st, .string c.l.cl, .int .u32 (c.l.ia : Int), .int .i64 c.l.un] t)).cell? ((⟨W.heap.size, 0, none⟩ : Go.Addr).add j) = some u := by
  intro j u hj
  have ha : (⟨W.heap.size, 0, none⟩ : Go.Addr).add j = ⟨W.heap.size, j, none⟩ := by cases j <;> simp [Addr.add]
  rw [ha]
  have h := heap_alloc_new W (.cells #[.bool c.gone, .int .i64 c.l.kind, .int .u64 (hi c.l.p : Nat), .int .u64 (lo c.l.p : Nat), .int .i64 c.l.n, .int .i64 c.l.st, .string c.l.cl, .int .u32 (c.l.ia : Int), .int .i64 c.l.un] t)
  rw [cell_at h j, ← hj, ← Array.getElem?_toList]
  rfl
end Go.Proofs.Ytpldkgollhbolaa
