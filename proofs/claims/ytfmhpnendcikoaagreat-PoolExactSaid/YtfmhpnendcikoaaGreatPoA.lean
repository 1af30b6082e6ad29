/-
  Rows of addresses: as a call owns them and as they are read; append of one address or one range; the laws' own list and few; pool's singles. Conditions: the words are words of 64 bits; at most 1000000 elements.
-/
import Derived.Test.YtfmhpnendcikoaaGreatPoM
import Derived.Test.YtfmhpnendcikoaaGreatSpanAp
import Derived.Test.YtfmhpnendcikoaaGreatSpanB
import Derived.Test.YtfmhpnendcikoaaGreatAddrU
import Derived.OwnWalk
import Derived.Deep.AppendLies
namespace Go.Proofs.YtfmhpnendcikoaaGreat
open Go.RowKit Go.Joins

theorem infoA : (Tryz.prog.info? 31).map (fun i => (i.zero, i.size, i.bytes)) = some (some (.agg #[.int .u64 0, .int .u64 0]), 2, 16) := by kernel_rfl
def cells2 (x : Nat) : List Value := [.int .u64 (hi x : Nat), .int .u64 (lo x : Nat)]
def cellsA (l : List Nat) : List Value := l.flatMap cells2
theorem cellsA_cons (x : Nat) (l : List Nat) : cellsA (x :: l) = .int .u64 (hi x : Nat) :: .int .u64 (lo x : Nat) :: cellsA l := by unfold cellsA; rw [List.flatMap_cons]; rfl
theorem cellsA_append (l m : List Nat) : cellsA (l ++ m) = cellsA l ++ cellsA m := by unfold cellsA; rw [List.flatMap_append]
theorem cellsA_len (l : List Nat) : (cellsA l).length = l.length * 2 := by
  induction l with
  | nil => rfl
  | cons x r ih => rw [cellsA_cons, List.length_cons, List.length_cons, ih, List.length_cons]; omega
theorem cellsA_at {l : List Nat} {j x : Nat} (h : l[j]? = some x) : (cellsA l)[j * 2]? = some (.int .u64 (hi x : Nat)) ∧ (cellsA l)[j * 2 + 1]? = some (.int .u64 (lo x : Nat)) := by
  induction l generalizing j with
  | nil => simp at h
  | cons y r ih =>
    rw [cellsA_cons]
    cases j with
    | zero => simp at h; subst h; exact ⟨rfl, rfl⟩
    | succ j =>
      rw [show (j + 1) * 2 = j * 2 + 1 + 1 by omega]
      simp only [List.getElem?_cons_succ] at h ⊢
      exact ih h
theorem cellsA_set {l : List Nat} {j y : Nat} : ((cellsA l).set (j * 2) (.int .u64 (hi y : Nat))).set (j * 2 + 1) (.int .u64 (lo y : Nat)) = cellsA (l.set j y) := by
  induction l generalizing j with
  | nil => rfl
  | cons x r ih =>
    cases j with
    | zero => rw [List.set_cons_zero, cellsA_cons, cellsA_cons]; rfl
    | succ j =>
      rw [show (j + 1) * 2 = j * 2 + 1 + 1 by omega, List.set_cons_succ, cellsA_cons, cellsA_cons, List.set_cons_succ, List.set_cons_succ, List.set_cons_succ, List.set_cons_succ, ih]
theorem cellsA_one (l : List Nat) : ∀ u ∈ cellsA l, u.oneCell' = true := by
  intro u hu
  unfold cellsA at hu
  obtain ⟨x, _, hx⟩ := List.mem_flatMap.1 hu
  simp only [cells2, List.mem_cons, List.not_mem_nil, or_false] at hx
  rcases hx with rfl | rfl <;> rfl
/-- a slice of addresses of the call's own -/
abbrev OwnA (w : World) (base : Nat) (v : Value) (l : List Nat) : Prop := w.ownsRow base 31 2 v l.length (cellsA l)
def MakesA (base : Nat) (l : List Nat) (w : World) (e : Ending) (w' : World) : Prop := ∃ v, e = .returned v ∧ Below base w w' ∧ OwnA w' base v l
theorem lenA {w : World} {base : Nat} {v : Value} {l : List Nat} (h : OwnA w base v l) : ∃ p c, v = .slice p l.length c ∧ l.length ≤ c ∧ c ≤ 9223372036854775807 := by
  rcases h.2 with ⟨rfl, h0⟩ | ⟨g, cap, cur, rfl, _, _, hc, hm, _⟩
  · exact ⟨none, 0, by rw [h0], by omega, by omega⟩
  · unfold maxLen at hm; exact ⟨_, cap, rfl, hc, hm⟩
theorem own_two {W : World} {x : Nat} {t : TypeId} : ∀ j u, (cellsA [x])[j]? = some u → (W.alloc (.cells #[.int .u64 (hi x : Nat), .int .u64 (lo x : Nat)] t)).cell? ((⟨W.heap.size, 0, none⟩ : Go.Addr).add j) = some u := by
  intro j u hj
  rw [add_at, Nat.zero_add]
  match j, hj with
  | 0, hj => simp [cellsA, cells2] at hj; subst hj; simp [go_sem]
  | 1, hj => simp [cellsA, cells2] at hj; subst hj; simp [go_sem]
  | j + 2, hj => simp [cellsA, cells2] at hj
theorem Two.grown {g x : Nat} {W W' : World} {row : Option Nat} (h : Two g x W) (hg : W.grownBy W' row) (hne : some g ≠ row) : Two g x W' := by
  have hb := hg.block g h.1 hne
  have c : ∀ o, W'.cell? ⟨g, o, none⟩ = W.cell? ⟨g, o, none⟩ := fun o => World.cell?_of_block (w := W) hb
  have f : ∀ o, W'.frozen? ⟨g, o, none⟩ = W.frozen? ⟨g, o, none⟩ := fun o => World.frozen?_of_block (w := W) hb
  unfold Two
  rw [c, c, f, f]
  exact ⟨Nat.lt_of_lt_of_le h.1 hg.size, h.2⟩

theorem own_grow {w w' : World} {base base' : Nat} {t : TypeId} {n size : Nat} {v : Value} {xs : List Value} {row : Option Nat} (h : w.ownsRow base t size v n xs) (hg : w.grownBy w' row) (hne : ∀ k, v.ownBlock = some k → row ≠ some k) (hb : base' ≤ base) : w'.ownsRow base' t size v n xs := by
  refine ⟨h.1, ?_⟩
  rcases h.2 with hn | ⟨g, cap, cur, h1, h2, h3, h4⟩
  · exact Or.inl hn
  · have hl : g < w.heap.size := by
      rcases Nat.lt_or_ge g w.heap.size with h' | h'
      · exact h'
      · rw [Array.getElem?_eq_none h'] at h3; cases h3
    exact Or.inr ⟨g, cap, cur, h1, Nat.le_trans hb h2, (hg.block g hl (fun e => hne g (by rw [h1]; rfl) e.symm)).trans h3, h4⟩
theorem grow_cell1 (W : World) (g j : Nat) (v : Value) : W.grownBy (W.setCell ⟨g, j, none⟩ v) (some g) :=
  ⟨rfl, rfl, rfl, by simp, fun k _ hne => Below.heap_setCell W ⟨g, j, none⟩ v k (fun e => hne (by rw [e]))⟩
/-- append of one address to a row of the call's own, and where the new row lies -/
theorem wpList_append_oneA {w : World} {ops : Array Oper} {rest : List Oper} {o : Oper} {a : Act} {Q : Exit → Act → World → Prop} (hgd : o.guard = none) (s x : Operand)
    (ho : o.op = .call { callee := .builtin .append, args := #[s, x], argTypes := #[23, 23] })
    (base : Nat) (v : Value) (pre : List Nat) (hs : a.eval s = v) (hown : OwnA w base v pre) (b c : Nat) (y : Nat) (hx : a.eval x = .slice (some ⟨b, 0, none⟩) 1 c) (hl : ∀ j u, (cellsA [y])[j]? = some u → w.cell? ((⟨b, 0, none⟩ : Go.Addr).add j) = some u)
    (hn : pre.length + 1 ≤ 1000000) (hbase : base ≤ w.heap.size)
    (h : ∀ g cap w', OwnA w' base (.slice (some ⟨g, 0, none⟩) (pre.length + 1) cap) (pre ++ [y]) → Below base w w' → w.grownBy w' v.ownBlock → (v.ownBlock = some g ∨ w.heap.size ≤ g) → wpList Tryz.prog ops Q rest (a.put o.dst (.slice (some ⟨g, 0, none⟩) (pre.length + 1) cap)) w') : wpList Tryz.prog ops Q (o :: rest) a w := by
  obtain ⟨i0, hi, hz0, hz1, hz2⟩ := info_parts infoA
  refine wpList_append_lies w hgd s x 23 ho base 31 i0 (.agg #[.int .u64 0, .int .u64 0]) 2 16 Tryz.underlying23 hi hz0 hz1 hz2 rfl (by decide) v pre.length (cellsA pre) hs hown ⟨b, 0, none⟩ 1 c (cellsA [y]) hx (cellsA_len [y]) hl (cellsA_one [y]) (by omega) (by unfold maxLen; omega) (by omega) hbase _ rfl ?_
  intro g cap w' h1 h2 h3 _
  refine h g cap w' ?_ ((Below.refl _ _).grown h2 hbase (fun j hj => (hown.lt j hj).1)) h2 (h3.imp id (fun e => by rw [e]; exact Nat.le_refl _))
  unfold OwnA
  rw [List.length_append, cellsA_append]
  exact h1
/-- append of one range to a row of the call's own, and where the new row lies -/
theorem wpList_append_oneR {w : World} {ops : Array Oper} {rest : List Oper} {o : Oper} {a : Act} {Q : Exit → Act → World → Prop} (hgd : o.guard = none) (s x : Operand)
    (ho : o.op = .call { callee := .builtin .append, args := #[s, x], argTypes := #[22, 22] })
    (base : Nat) (v : Value) (pre : List Rg) (hs : a.eval s = v) (hown : Own w base v pre) (b c : Nat) (y : Rg) (hx : a.eval x = .slice (some ⟨b, 0, none⟩) 1 c) (hl : RowR b 0 [y] w)
    (hn : pre.length + 1 ≤ 1000000) (hbase : base ≤ w.heap.size)
    (h : ∀ g cap w', Own w' base (.slice (some ⟨g, 0, none⟩) (pre.length + 1) cap) (pre ++ [y]) → Below base w w' → w.grownBy w' v.ownBlock → (v.ownBlock = some g ∨ w.heap.size ≤ g) → wpList Tryz.prog ops Q rest (a.put o.dst (.slice (some ⟨g, 0, none⟩) (pre.length + 1) cap)) w') : wpList Tryz.prog ops Q (o :: rest) a w := by
  obtain ⟨i0, hi, hz0, hz1, hz2⟩ := info_parts infoR
  refine wpList_append_lies w hgd s x 22 ho base 36 i0 (.agg #[.int .u64 0, .int .u64 0, .int .u64 0, .int .u64 0]) 4 32 Tryz.underlying22 hi hz0 hz1 hz2 rfl (by decide) v pre.length (cellsR pre) hs hown ⟨b, 0, none⟩ 1 c (cellsR [y]) hx (cellsR_len [y]) (row_cells hl) (cellsR_one [y]) (by omega) (by unfold maxLen; omega) (by omega) hbase _ rfl ?_
  intro g cap w' h1 h2 h3 _
  refine h g cap w' ?_ ((Below.refl _ _).grown h2 hbase (fun j hj => (hown.lt j hj).1)) h2 (h3.imp id (fun e => by rw [e]; exact Nat.le_refl _))
  unfold Own
  rw [List.length_append, cellsR_append]
  exact h1

/-! ### rows of addresses that are read -/
def At2 (b o x : Nat) (W : World) : Prop := W.cell? ⟨b, o, none⟩ = some (.int .u64 (hi x : Nat)) ∧ W.cell? ⟨b, o + 1, none⟩ = some (.int .u64 (lo x : Nat))
def RowA (b o : Nat) (l : List Nat) (W : World) : Prop := b < W.heap.size ∧ ∀ (j x : Nat), l[j]? = some x → At2 b (o + j * 2) x W
theorem At2.step {b o x : Nat} {W w2 : World} (h : At2 b o x W) (hb : Below W.heap.size W w2) : At2 b o x w2 := ⟨keep_cell hb h.1, keep_cell hb h.2⟩
theorem RowA.step {b o : Nat} {l : List Nat} {W w2 : World} (h : RowA b o l W) (hb : Below W.heap.size W w2) : RowA b o l w2 := ⟨Nat.lt_of_lt_of_le h.1 hb.size, fun j x hj => (h.2 j x hj).step hb⟩
/-- a slice that reads as a list of addresses -/
def LstA (v : Value) (l : List Nat) (W : World) : Prop := (∃ p c, v = .slice p 0 c ∧ l = [] ∧ (p = none → c = 0) ∧ c ≤ 9223372036854775807) ∨ ∃ b o c, v = .slice (some ⟨b, o, none⟩) l.length c ∧ RowA b o l W ∧ l.length ≤ c ∧ l ≠ [] ∧ c ≤ 9223372036854775807
theorem LstA.step {v : Value} {l : List Nat} {W w2 : World} (h : LstA v l W) (hb : Below W.heap.size W w2) : LstA v l w2 := by
  rcases h with h | ⟨b, o, c, h1, h2, h3⟩
  · exact Or.inl h
  · exact Or.inr ⟨b, o, c, h1, h2.step hb, h3⟩
theorem lstA_len {v : Value} {l : List Nat} {W : World} (h : LstA v l W) : ∃ p c, v = .slice p l.length c := by
  rcases h with ⟨p, c, h, rfl, _⟩ | ⟨b, o, c, h, _⟩
  · exact ⟨p, c, h⟩
  · exact ⟨_, _, h⟩
theorem getA_some {l : List Nat} {k : Nat} (h : k < l.length) : ∃ x, l[k]? = some x := ⟨_, List.getElem?_eq_getElem h⟩
theorem lstA_at {p : Option Go.Addr} {n c : Nat} {l : List Nat} {W : World} (h : LstA (.slice p n c) l W) {k x : Nat} (hx : l[k]? = some x) : ∃ b o, p = some ⟨b, o, none⟩ ∧ b < W.heap.size ∧ At2 b (o + k * 2) x W := by
  rcases h with ⟨_, _, _, rfl, _⟩ | ⟨b, o, c', hv, hr, _⟩
  · simp at hx
  · cases hv
    exact ⟨b, o, rfl, hr.1, hr.2 k x hx⟩
theorem lstA_cap {p : Option Go.Addr} {n c : Nat} {l : List Nat} {W : World} (h : LstA (.slice p n c) l W) : n = l.length ∧ n ≤ c ∧ c ≤ 9223372036854775807 ∧ (p = none → c = 0) := by
  rcases h with ⟨p', c', hv, rfl, h1, h2⟩ | ⟨b, o, c', hv, _, h1, _, h2⟩
  · cases hv; exact ⟨rfl, Nat.zero_le _, h2, h1⟩
  · cases hv; exact ⟨rfl, h1, h2, fun e => by cases e⟩
theorem ownA_nil (w : World) (base : Nat) : OwnA w base (.slice none 0 0) [] := World.ownsRow_nil w base _ _
theorem ownA_at {W : World} {base g c n : Nat} {l : List Nat} (h : OwnA W base (.slice (some ⟨g, 0, none⟩) n c) l) {k x : Nat} (hx : l[k]? = some x) : At2 g (0 + k * 2) x W := by
  have hk : k < l.length := (List.getElem?_eq_some_iff.1 hx).1
  have e : n = l.length := by rcases h.2 with ⟨h1, _⟩ | ⟨_, _, _, h1, _⟩ <;> cases h1 <;> rfl
  subst e
  refine ⟨?_, ?_⟩
  · rw [Nat.zero_add]; exact (h.cellAt (k * 2) (by omega)).trans (cellsA_at hx).1
  · rw [Nat.zero_add]; exact (h.cellAt (k * 2 + 1) (by omega)).trans (cellsA_at hx).2
theorem ownA_lst {W : World} {base : Nat} {v : Value} {l : List Nat} (h : OwnA W base v l) : LstA v l W := by
  rcases h.2 with ⟨rfl, hn⟩ | ⟨g, cap, cur, rfl, hb, hg, hnc, hm, hcs, ht⟩
  · exact Or.inl ⟨none, 0, rfl, List.length_eq_zero_iff.1 hn, fun _ => rfl, by omega⟩
  · have hcap : cap ≤ 9223372036854775807 := by unfold maxLen at hm; exact hm
    by_cases hl : l = []
    · subst hl
      exact Or.inl ⟨_, cap, rfl, rfl, fun e => (by cases e), hcap⟩
    · have gl : g < W.heap.size := by
        rcases Nat.lt_or_ge g W.heap.size with h' | h'
        · exact h'
        · rw [Array.getElem?_eq_none h'] at hg; cases hg
      exact Or.inr ⟨g, 0, cap, rfl, ⟨gl, fun j x hx => ownA_at h hx⟩, hnc, hl, hcap⟩
theorem ownA_base {W : World} {base base' : Nat} {v : Value} {l : List Nat} (h : OwnA W base v l) (hb : base' ≤ base) : OwnA W base' v l := by
  refine ⟨h.1, ?_⟩
  rcases h.2 with hn | ⟨g, cap, cur, h1, h2, h3⟩
  · exact Or.inl hn
  · exact Or.inr ⟨g, cap, cur, h1, Nat.le_trans hb h2, h3⟩
theorem addr_ne {x y : Nat} (hxy : ¬ x = y) : (¬ hi x = hi y) ∨ (hi x = hi y ∧ ¬ lo x = lo y) := by
  by_cases h1 : hi x = hi y
  · by_cases h2 : lo x = lo y
    · exact absurd (words_eq h1 h2) hxy
    · exact Or.inr ⟨h1, h2⟩
  · exact Or.inl h1
theorem takeA_same {l m : List Nat} {k x : Nat} (h : l.take k = m.take k) (hx : l[k]? = some x) (hy : m[k]? = some x) : l.take (k + 1) = m.take (k + 1) := by
  rw [List.take_add_one, List.take_add_one, h, hx, hy]
/-- two rows of addresses beside one another -/
def H2A (w : World) (va vb : Value) (l m : List Nat) (W : World) : Prop := Below w.heap.size w W ∧ LstA va l W ∧ LstA vb m W
theorem H2A.step {w : World} {va vb : Value} {l m : List Nat} {W w2 : World} (h : H2A w va vb l m W) (hb : Below W.heap.size W w2) : H2A w va vb l m w2 := ⟨chain h.1 hb, h.2.1.step hb, h.2.2.step hb⟩
theorem H2A.drew {w : World} {va vb : Value} {l m : List Nat} {W : World} (h : H2A w va vb l m W) : H2A w va vb l m { W with drawn := W.drawn + 1 } := h.step (Below.refl _ _).drew
set_option maxRecDepth 100000 in
set_option maxHeartbeats 1000000 in
theorem list_any {va vb : Value} {l m : List Nat} (hl : l.length ≤ 1000000) (w : World) (ha : LstA va l w) (hb : LstA vb m w) :
    Calls Tryz.prog 15 #[va, vb] w (Gives (.bool (decide (l = m))) w) := by
  obtain ⟨p, c, rfl⟩ := lstA_len ha
  obtain ⟨q, d, rfl⟩ := lstA_len hb
  by_cases hlen : l.length = m.length
  · go_enter Tryz.func15, Tryz.ntmps15
    have HL := hide hlen
    have E : ((l.length : Int) != (m.length : Int)) = false := by rw [hlen]; simp
    clear hlen
    have H0 : H2A w (.slice p l.length c) (.slice q m.length d) l m w := ⟨Below.refl _ _, ha, hb⟩
    clear ha hb
    go_wp2
    go_loopw [5] (fun i wr => ∃ k : Nat, k ≤ l.length ∧ i = .int .i64 (k : Nat) ∧ H2A w (.slice p l.length c) (.slice q m.length d) l m wr ∧ l.take k = m.take k) (fun i _ => l.length - (intOf i).toNat)
    case atStart => exact ⟨0, Nat.zero_le _, rfl, H0, by simp⟩
    case round =>
      obtain ⟨k, hk, rfl, HH, he⟩ := hrel
      have HE := hide he
      clear he E H0
      by_cases hlt : k < l.length
      · obtain ⟨x, hx⟩ := getA_some hlt
        have hlm : k < m.length := by have := HL.out; omega
        obtain ⟨y, hy⟩ := getA_some hlm
        obtain ⟨b, o, rfl, _, _⟩ := lstA_at HH.2.1 hx
        obtain ⟨b2, o2, rfl, _, _⟩ := lstA_at HH.2.2 hy
        have RX := hide (fun W (H : H2A w (.slice (some ⟨b, o, none⟩) l.length c) (.slice (some ⟨b2, o2, none⟩) m.length d) l m W) => lstA_at H.2.1 hx)
        have RY := hide (fun W (H : H2A w (.slice (some ⟨b, o, none⟩) l.length c) (.slice (some ⟨b2, o2, none⟩) m.length d) l m W) => lstA_at H.2.2 hy)
        by_cases hxy : x = y
        · subst hxy
          have TK := hide (takeA_same HE.out hx hy)
          clear hx hy
          go_wp2_with fail
          refine wp_region_quiet (C := H2A w (.slice (some ⟨b, o, none⟩) l.length c) (.slice (some ⟨b2, o2, none⟩) m.length d) l m) (by kernel_rfl) (by kernel_rfl) HH.drew (wpQuiet_step (fun K0 hK0 => ?_))
          go_simp
          first | (with_reducible refine hK0 _ (wpQuiet_step (fun K1 hK1 => ?_))) | (with_reducible refine ⟨_, fun _ _ => rfl, hK0 _ (wpQuiet_step (fun K1 hK1 => ?_))⟩) | (rw [if_neg (by intro e; cases e)]; with_reducible refine hK0 _ (wpQuiet_step (fun K1 hK1 => ?_)))
          clear hK0 K0
          go_simp
          first | (with_reducible refine hK1 _ (wpQuiet_step (fun K0 hK0 => ?_))) | (with_reducible refine ⟨_, fun _ _ => rfl, hK1 _ (wpQuiet_step (fun K0 hK0 => ?_))⟩) | (rw [if_neg (by intro e; cases e)]; with_reducible refine hK1 _ (wpQuiet_step (fun K0 hK0 => ?_)))
          clear hK1 K1
          go_simp
          first | (with_reducible refine hK0 _ (wpQuiet_step (fun K1 hK1 => ?_))) | (with_reducible refine ⟨_, fun _ _ => rfl, hK0 _ (wpQuiet_step (fun K1 hK1 => ?_))⟩) | (rw [if_neg (by intro e; cases e)]; with_reducible refine hK0 _ (wpQuiet_step (fun K1 hK1 => ?_)))
          clear hK0 K0
          go_simp
          refine ⟨A x, fun W hW => ?_, hK1 _ (wpQuiet_step (fun K0 hK0 => ?_))⟩
          · ((obtain ⟨_, _, e, _, u0, u1⟩ := RX.out W hW; cases e; simp [go_sem, u0, u1]))
          clear hK1 K1
          go_simp
          first | (with_reducible refine hK0 _ (wpQuiet_step (fun K1 hK1 => ?_))) | (with_reducible refine ⟨_, fun _ _ => rfl, hK0 _ (wpQuiet_step (fun K1 hK1 => ?_))⟩) | (rw [if_neg (by intro e; cases e)]; with_reducible refine hK0 _ (wpQuiet_step (fun K1 hK1 => ?_)))
          clear hK0 K0
          go_simp
          first | (with_reducible refine hK1 _ (wpQuiet_step (fun K0 hK0 => ?_))) | (with_reducible refine ⟨_, fun _ _ => rfl, hK1 _ (wpQuiet_step (fun K0 hK0 => ?_))⟩) | (rw [if_neg (by intro e; cases e)]; with_reducible refine hK1 _ (wpQuiet_step (fun K0 hK0 => ?_)))
          clear hK1 K1
          go_simp
          first | (with_reducible refine hK0 _ (wpQuiet_step (fun K1 hK1 => ?_))) | (with_reducible refine ⟨_, fun _ _ => rfl, hK0 _ (wpQuiet_step (fun K1 hK1 => ?_))⟩) | (rw [if_neg (by intro e; cases e)]; with_reducible refine hK0 _ (wpQuiet_step (fun K1 hK1 => ?_)))
          clear hK0 K0
          go_simp
          refine ⟨A x, fun W hW => ?_, hK1 _ (wpQuiet_step (fun K0 hK0 => ?_))⟩
          · ((obtain ⟨_, _, e, _, u0, u1⟩ := RY.out W hW; cases e; simp [go_sem, u0, u1]))
          clear hK1 K1
          go_simp
          first | (with_reducible refine hK0 _ (wpQuiet_nil ?_)) | (with_reducible refine ⟨_, fun _ _ => rfl, hK0 _ (wpQuiet_nil ?_)⟩) | (rw [if_neg (by intro e; cases e)]; with_reducible refine hK0 _ (wpQuiet_nil ?_))
          clear hK0 K0
          intro w2 H2
          go_wp2
          go_roundw
          case rel => exact ⟨k + 1, hlt, by go_num, H2, TK.out⟩
          case measure => simp [intOf]; omega
        · have NE := hide (show l ≠ m by intro e; rw [e, hy] at hx; exact hxy (Option.some.inj hx).symm)
          clear hx hy
          have DN := hide (addr_ne hxy)
          clear hxy
          go_wp2_with fail
          refine wp_region_quiet (C := H2A w (.slice (some ⟨b, o, none⟩) l.length c) (.slice (some ⟨b2, o2, none⟩) m.length d) l m) (by kernel_rfl) (by kernel_rfl) HH.drew (wpQuiet_step (fun K0 hK0 => ?_))
          go_simp
          first | (with_reducible refine hK0 _ (wpQuiet_step (fun K1 hK1 => ?_))) | (with_reducible refine ⟨_, fun _ _ => rfl, hK0 _ (wpQuiet_step (fun K1 hK1 => ?_))⟩) | (rw [if_neg (by intro e; cases e)]; with_reducible refine hK0 _ (wpQuiet_step (fun K1 hK1 => ?_)))
          clear hK0 K0
          go_simp
          first | (with_reducible refine hK1 _ (wpQuiet_step (fun K0 hK0 => ?_))) | (with_reducible refine ⟨_, fun _ _ => rfl, hK1 _ (wpQuiet_step (fun K0 hK0 => ?_))⟩) | (rw [if_neg (by intro e; cases e)]; with_reducible refine hK1 _ (wpQuiet_step (fun K0 hK0 => ?_)))
          clear hK1 K1
          go_simp
          first | (with_reducible refine hK0 _ (wpQuiet_step (fun K1 hK1 => ?_))) | (with_reducible refine ⟨_, fun _ _ => rfl, hK0 _ (wpQuiet_step (fun K1 hK1 => ?_))⟩) | (rw [if_neg (by intro e; cases e)]; with_reducible refine hK0 _ (wpQuiet_step (fun K1 hK1 => ?_)))
          clear hK0 K0
          go_simp
          refine ⟨A x, fun W hW => ?_, hK1 _ (wpQuiet_step (fun K0 hK0 => ?_))⟩
          · ((obtain ⟨_, _, e, _, u0, u1⟩ := RX.out W hW; cases e; simp [go_sem, u0, u1]))
          clear hK1 K1
          go_simp
          first | (with_reducible refine hK0 _ (wpQuiet_step (fun K1 hK1 => ?_))) | (with_reducible refine ⟨_, fun _ _ => rfl, hK0 _ (wpQuiet_step (fun K1 hK1 => ?_))⟩) | (rw [if_neg (by intro e; cases e)]; with_reducible refine hK0 _ (wpQuiet_step (fun K1 hK1 => ?_)))
          clear hK0 K0
          go_simp
          first | (with_reducible refine hK1 _ (wpQuiet_step (fun K0 hK0 => ?_))) | (with_reducible refine ⟨_, fun _ _ => rfl, hK1 _ (wpQuiet_step (fun K0 hK0 => ?_))⟩) | (rw [if_neg (by intro e; cases e)]; with_reducible refine hK1 _ (wpQuiet_step (fun K0 hK0 => ?_)))
          clear hK1 K1
          go_simp
          first | (with_reducible refine hK0 _ (wpQuiet_step (fun K1 hK1 => ?_))) | (with_reducible refine ⟨_, fun _ _ => rfl, hK0 _ (wpQuiet_step (fun K1 hK1 => ?_))⟩) | (rw [if_neg (by intro e; cases e)]; with_reducible refine hK0 _ (wpQuiet_step (fun K1 hK1 => ?_)))
          clear hK0 K0
          go_simp
          refine ⟨A y, fun W hW => ?_, hK1 _ (wpQuiet_step (fun K0 hK0 => ?_))⟩
          · ((obtain ⟨_, _, e, _, u0, u1⟩ := RY.out W hW; cases e; simp [go_sem, u0, u1]))
          clear hK1 K1
          go_simp
          refine ⟨.bool true, fun W hW => ?_, hK0 _ (wpQuiet_nil ?_)⟩
          · ((rcases DN.out with h1 | ⟨h1, h2⟩; (rw [if_neg (by omega)]; exact ⟨rfl, rfl⟩); (rw [if_pos (by omega), if_neg (by omega)]; exact ⟨rfl, rfl⟩)))
          clear hK0 K0
          intro w2 H2
          go_wp2
          go_ret
          exact ⟨by rw [decide_eq_false NE.out]; rfl, H2.1⟩
      · have e : l = m := by
          have h1 := HE.out
          rw [List.take_of_length_le (by omega), List.take_of_length_le (by have := HL.out; omega)] at h1
          exact h1
        have D := hide (decide_eq_true e)
        clear e
        go_wp2
        go_ret
        exact ⟨by rw [D.out]; rfl, HH.1⟩
  · have NE := hide (show l ≠ m by intro e; exact hlen (by rw [e]))
    have E : ((l.length : Int) != (m.length : Int)) = true := by simp; omega
    clear hlen
    go_enter Tryz.func15, Tryz.ntmps15
    go_wp2
    go_ret
    exact ⟨by rw [decide_eq_false NE.out]; rfl, Below.refl _ _⟩
end Go.Proofs.YtfmhpnendcikoaaGreat
