/-
  Rows of options: as a call owns them and as they are read; append of one option. Conditions: an option's data are no longer than an int; a row takes at most 2^47 bytes.
-/
import Derived.Test.YtcpldojgmboipaaSxB
import Derived.OwnWalk
import Derived.Deep.AppendLies
import Derived.Lib.AppendStr
namespace Go.Proofs.Ytcpldojgmboipaa
open Go.RowKit Go.Joins

abbrev OV (x : Opt) : Value := .agg #[.int .u16 (x.1.toNat : Int), .string x.2]
theorem infoO : (Try.prog.info? 40).map (fun i => (i.zero, i.size, i.bytes)) = some (some (.agg #[.int .u16 0, .string ⟨#[]⟩]), 2, 24) := by kernel_rfl
def cells2 (x : Opt) : List Value := [.int .u16 (x.1.toNat : Int), .string x.2]
def cellsO (l : List Opt) : List Value := l.flatMap cells2
theorem cellsO_cons (x : Opt) (l : List Opt) : cellsO (x :: l) = .int .u16 (x.1.toNat : Int) :: .string x.2 :: cellsO l := by unfold cellsO; rw [List.flatMap_cons]; rfl
theorem cellsO_append (l m : List Opt) : cellsO (l ++ m) = cellsO l ++ cellsO m := by unfold cellsO; rw [List.flatMap_append]
theorem cellsO_len (l : List Opt) : (cellsO l).length = l.length * 2 := by
  induction l with
  | nil => rfl
  | cons x r ih => rw [cellsO_cons, List.length_cons, List.length_cons, ih, List.length_cons]; omega
theorem cellsO_at {l : List Opt} {j : Nat} {x : Opt} (h : l[j]? = some x) : (cellsO l)[j * 2]? = some (.int .u16 (x.1.toNat : Int)) ∧ (cellsO l)[j * 2 + 1]? = some (.string x.2) := by
  induction l generalizing j with
  | nil => simp at h
  | cons y r ih =>
    rw [cellsO_cons]
    cases j with
    | zero => simp at h; subst h; exact ⟨rfl, rfl⟩
    | succ j =>
      rw [show (j + 1) * 2 = j * 2 + 1 + 1 by omega]
      simp only [List.getElem?_cons_succ] at h ⊢
      exact ih h
theorem cellsO_set {l : List Opt} {j : Nat} {y : Opt} : ((cellsO l).set (j * 2) (.int .u16 (y.1.toNat : Int))).set (j * 2 + 1) (.string y.2) = cellsO (l.set j y) := by
  induction l generalizing j with
  | nil => rfl
  | cons x r ih =>
    cases j with
    | zero => rw [List.set_cons_zero, cellsO_cons, cellsO_cons]; rfl
    | succ j =>
      rw [show (j + 1) * 2 = j * 2 + 1 + 1 by omega, List.set_cons_succ, cellsO_cons, cellsO_cons, List.set_cons_succ, List.set_cons_succ, List.set_cons_succ, List.set_cons_succ, ih]
theorem cellsO_one (l : List Opt) : ∀ u ∈ cellsO l, u.oneCell' = true := by
  intro u hu
  unfold cellsO at hu
  obtain ⟨x, _, hx⟩ := List.mem_flatMap.1 hu
  simp only [cells2, List.mem_cons, List.not_mem_nil, or_false] at hx
  rcases hx with rfl | rfl <;> rfl
/-- a slice of options of the call's own -/
abbrev OwnO (w : World) (base : Nat) (v : Value) (l : List Opt) : Prop := w.ownsRow base 40 2 v l.length (cellsO l)
def MakesO (base : Nat) (l : List Opt) (w : World) (e : Ending) (w' : World) : Prop := ∃ v, e = .returned v ∧ Below base w w' ∧ OwnO w' base v l
theorem lenO {w : World} {base : Nat} {v : Value} {l : List Opt} (h : OwnO w base v l) : ∃ p c, v = .slice p l.length c ∧ l.length ≤ c ∧ c ≤ 9223372036854775807 := by
  rcases h.2 with ⟨rfl, h0⟩ | ⟨g, cap, cur, rfl, _, _, hc, hm, _⟩
  · exact ⟨none, 0, by rw [h0], by omega, by omega⟩
  · unfold maxLen at hm; exact ⟨_, cap, rfl, hc, hm⟩
theorem own_two {W : World} {x : Opt} {t : TypeId} : ∀ j u, (cellsO [x])[j]? = some u → (W.alloc (.cells #[.int .u16 (x.1.toNat : Int), .string x.2] t)).cell? ((⟨W.heap.size, 0, none⟩ : Go.Addr).add j) = some u := by
  intro j u hj
  rw [add_at, Nat.zero_add]
  match j, hj with
  | 0, hj => simp [cellsO, cells2] at hj; subst hj; simp [go_sem]
  | 1, hj => simp [cellsO, cells2] at hj; subst hj; simp [go_sem]
  | j + 2, hj => simp [cellsO, cells2] at hj
theorem own_grow {w w' : World} {base base' : Nat} {t : TypeId} {n size : Nat} {v : Value} {xs : List Value} {row : Option Nat} (h : w.ownsRow base t size v n xs) (hg : w.grownBy w' row) (hne : ∀ k, v.ownBlock = some k → row ≠ some k) (hb : base' ≤ base) : w'.ownsRow base' t size v n xs := by
  refine ⟨h.1, ?_⟩
  rcases h.2 with hn | ⟨g, cap, cur, h1, h2, h3, h4⟩
  · exact Or.inl hn
  · have hl : g < w.heap.size := by
      rcases Nat.lt_or_ge g w.heap.size with h' | h'
      · exact h'
      · rw [Array.getElem?_eq_none h'] at h3; cases h3
    exact Or.inr ⟨g, cap, cur, h1, Nat.le_trans hb h2, (hg.block g hl (fun e => hne g (by rw [h1]; rfl) e.symm)).trans h3, h4⟩
/-- append of one option to a row of the call's own, and where the new row lies -/
theorem wpList_append_oneO {w : World} {ops : Array Oper} {rest : List Oper} {o : Oper} {a : Act} {Q : Exit → Act → World → Prop} (hgd : o.guard = none) (s x : Operand)
    (ho : o.op = .call { callee := .builtin .append, args := #[s, x], argTypes := #[22, 22] })
    (base : Nat) (v : Value) (pre : List Opt) (hs : a.eval s = v) (hown : OwnO w base v pre) (b c : Nat) (y : Opt) (hx : a.eval x = .slice (some ⟨b, 0, none⟩) 1 c) (hl : ∀ j u, (cellsO [y])[j]? = some u → w.cell? ((⟨b, 0, none⟩ : Go.Addr).add j) = some u)
    (hn : (pre.length + 1) * 24 ≤ 140737488355328) (hbase : base ≤ w.heap.size)
    (h : ∀ g cap w', OwnO w' base (.slice (some ⟨g, 0, none⟩) (pre.length + 1) cap) (pre ++ [y]) → Below base w w' → w.grownBy w' v.ownBlock → (v.ownBlock = some g ∨ w.heap.size ≤ g) → wpList Try.prog ops Q rest (a.put o.dst (.slice (some ⟨g, 0, none⟩) (pre.length + 1) cap)) w') : wpList Try.prog ops Q (o :: rest) a w := by
  obtain ⟨i0, hi, hz0, hz1, hz2⟩ := info_parts infoO
  refine wpList_append_lies w hgd s x 22 ho base 40 i0 (.agg #[.int .u16 0, .string ⟨#[]⟩]) 2 24 Try.underlying22 hi hz0 hz1 hz2 rfl (by decide) v pre.length (cellsO pre) hs hown ⟨b, 0, none⟩ 1 c (cellsO [y]) hx (cellsO_len [y]) hl (cellsO_one [y]) (by omega) (by unfold maxLen; omega) (by omega) hbase _ rfl ?_
  intro g cap w' h1 h2 h3 _
  refine h g cap w' ?_ ((Below.refl _ _).grown h2 hbase (fun j hj => (hown.lt j hj).1)) h2 (h3.imp id (fun e => by rw [e]; exact Nat.le_refl _))
  unfold OwnO
  rw [List.length_append, cellsO_append]
  exact h1
/-! ### rows of options that are read -/
def AtO2 (b o : Nat) (x : Opt) (W : World) : Prop := W.cell? ⟨b, o, none⟩ = some (.int .u16 (x.1.toNat : Int)) ∧ W.cell? ⟨b, o + 1, none⟩ = some (.string x.2)
def RowO (b o : Nat) (l : List Opt) (W : World) : Prop := b < W.heap.size ∧ ∀ (j : Nat) (x : Opt), l[j]? = some x → AtO2 b (o + j * 2) x W
theorem AtO2.step {b o : Nat} {x : Opt} {W w2 : World} (h : AtO2 b o x W) (hb : Below W.heap.size W w2) : AtO2 b o x w2 := ⟨keep_cell hb h.1, keep_cell hb h.2⟩
theorem RowO.step {b o : Nat} {l : List Opt} {W w2 : World} (h : RowO b o l W) (hb : Below W.heap.size W w2) : RowO b o l w2 := ⟨Nat.lt_of_lt_of_le h.1 hb.size, fun j x hj => (h.2 j x hj).step hb⟩
/-- a slice that reads as a list of options -/
def LstO (v : Value) (l : List Opt) (W : World) : Prop := (∃ p c, v = .slice p 0 c ∧ l = [] ∧ (p = none → c = 0) ∧ c ≤ 9223372036854775807) ∨ ∃ b o c, v = .slice (some ⟨b, o, none⟩) l.length c ∧ RowO b o l W ∧ l.length ≤ c ∧ l ≠ [] ∧ c ≤ 9223372036854775807
theorem LstO.step {v : Value} {l : List Opt} {W w2 : World} (h : LstO v l W) (hb : Below W.heap.size W w2) : LstO v l w2 := by
  rcases h with h | ⟨b, o, c, h1, h2, h3⟩
  · exact Or.inl h
  · exact Or.inr ⟨b, o, c, h1, h2.step hb, h3⟩
theorem lstO_len {v : Value} {l : List Opt} {W : World} (h : LstO v l W) : ∃ p c, v = .slice p l.length c := by
  rcases h with ⟨p, c, h, rfl, _⟩ | ⟨b, o, c, h, _⟩
  · exact ⟨p, c, h⟩
  · exact ⟨_, _, h⟩
theorem getO_some {l : List Opt} {k : Nat} (h : k < l.length) : ∃ x, l[k]? = some x := ⟨_, List.getElem?_eq_getElem h⟩
theorem lstO_at {p : Option Go.Addr} {n c : Nat} {l : List Opt} {W : World} (h : LstO (.slice p n c) l W) {k : Nat} {x : Opt} (hx : l[k]? = some x) : ∃ b o, p = some ⟨b, o, none⟩ ∧ b < W.heap.size ∧ AtO2 b (o + k * 2) x W := by
  rcases h with ⟨_, _, _, rfl, _⟩ | ⟨b, o, c', hv, hr, _⟩
  · simp at hx
  · cases hv
    exact ⟨b, o, rfl, hr.1, hr.2 k x hx⟩
theorem lstO_cap {p : Option Go.Addr} {n c : Nat} {l : List Opt} {W : World} (h : LstO (.slice p n c) l W) : n = l.length ∧ n ≤ c ∧ c ≤ 9223372036854775807 ∧ (p = none → c = 0) := by
  rcases h with ⟨p', c', hv, rfl, h1, h2⟩ | ⟨b, o, c', hv, _, h1, _, h2⟩
  · cases hv; exact ⟨rfl, Nat.zero_le _, h2, h1⟩
  · cases hv; exact ⟨rfl, h1, h2, fun e => by cases e⟩
theorem ownO_nil (w : World) (base : Nat) : OwnO w base (.slice none 0 0) [] := World.ownsRow_nil w base _ _
theorem ownO_at {W : World} {base g c n : Nat} {l : List Opt} (h : OwnO W base (.slice (some ⟨g, 0, none⟩) n c) l) {k : Nat} {x : Opt} (hx : l[k]? = some x) : AtO2 g (0 + k * 2) x W := by
  have hk : k < l.length := (List.getElem?_eq_some_iff.1 hx).1
  have e : n = l.length := by rcases h.2 with ⟨h1, _⟩ | ⟨_, _, _, h1, _⟩ <;> cases h1 <;> rfl
  subst e
  refine ⟨?_, ?_⟩
  · rw [Nat.zero_add]; exact (h.cellAt (k * 2) (by omega)).trans (cellsO_at hx).1
  · rw [Nat.zero_add]; exact (h.cellAt (k * 2 + 1) (by omega)).trans (cellsO_at hx).2
theorem ownO_lst {W : World} {base : Nat} {v : Value} {l : List Opt} (h : OwnO W base v l) : LstO v l W := by
  rcases h.2 with ⟨rfl, hn⟩ | ⟨g, cap, cur, rfl, hb, hg, hnc, hm, hcs, ht⟩
  · exact Or.inl ⟨none, 0, rfl, List.length_eq_zero_iff.1 hn, fun _ => rfl, by omega⟩
  · have hcap : cap ≤ 9223372036854775807 := by unfold maxLen at hm; exact hm
    by_cases hl : l = []
    · subst hl
      exact Or.inl ⟨_, cap, rfl, rfl, fun e => (by cases e), hcap⟩
    · have gl : g < W.heap.size := by
        rcases Nat.lt_or_ge g W.heap.size with h' | h'
        · exact h'
        · rw [Array.getElem?_eq_none h'] at hg; cases hg
      exact Or.inr ⟨g, 0, cap, rfl, ⟨gl, fun j x hx => ownO_at h hx⟩, hnc, hl, hcap⟩
theorem ownO_base {W : World} {base base' : Nat} {v : Value} {l : List Opt} (h : OwnO W base v l) (hb : base' ≤ base) : OwnO W base' v l := by
  refine ⟨h.1, ?_⟩
  rcases h.2 with hn | ⟨g, cap, cur, h1, h2, h3⟩
  · exact Or.inl hn
  · exact Or.inr ⟨g, cap, cur, h1, Nat.le_trans hb h2, h3⟩
theorem takeO_same {l m : List Opt} {k : Nat} {x : Opt} (h : l.take k = m.take k) (hx : l[k]? = some x) (hy : m[k]? = some x) : l.take (k + 1) = m.take (k + 1) := by
  rw [List.take_add_one, List.take_add_one, h, hx, hy]
end Go.Proofs.Ytcpldojgmboipaa
