/-
  Rows of strings of the call's own: append, and what Join gives. Conditions: a row has at most 2^20 strings; together at most 2^47 bytes.
-/
import Derived.Test.YtmoklodaeicpgaaWD
namespace Go.Proofs.Ytmoklodaeicpgaa
open Go.RowKit Go.Joins

abbrev SV (s : ByteArray) : Value := .string s
theorem infoSt : (Try.prog.info? 9).map (fun i => (i.zero, i.size, i.bytes)) = some (some (.string ⟨#[]⟩), 1, 16) := by kernel_rfl
/-- a row of strings of the call's own -/
def OwnS (w : World) (base : Nat) (v : Value) (l : List ByteArray) : Prop := w.ownsRow base 9 1 v l.length (l.map SV)
theorem OwnS.step {W W2 : World} {base : Nat} {v : Value} {l : List ByteArray} (h : OwnS W base v l) (hb : Below W.heap.size W W2) : OwnS W2 base v l := own_keep h hb
theorem OwnS.lst {W : World} {base : Nat} {v : Value} {l : List ByteArray} (h : OwnS W base v l) : LstS v l W := by
  rcases h.2 with ⟨rfl, h0⟩ | ⟨g, cap, cur, rfl, hb, hg, _⟩
  · exact Or.inl ⟨none, 0, rfl, List.length_eq_zero_iff.1 h0⟩
  · refine Or.inr ⟨g, 0, cap, rfl, lt_of_block hg, fun j s hj => ?_⟩
    have hl : j < l.length := (List.getElem?_eq_some_iff.1 hj).1
    have := World.ownsRow.cellAt h j (by omega)
    rw [Nat.zero_add, this, List.getElem?_map, hj]; rfl
theorem OwnS.base {W : World} {base base' : Nat} {v : Value} {l : List ByteArray} (h : OwnS W base v l) (hb : base' ≤ base) : OwnS W base' v l := by
  refine ⟨h.1, ?_⟩
  rcases h.2 with hn | ⟨g, cap, cur, h1, h2, h3⟩
  · exact Or.inl hn
  · exact Or.inr ⟨g, cap, cur, h1, Nat.le_trans hb h2, h3⟩
theorem ownS_nil (W : World) (base : Nat) : OwnS W base (.slice none 0 0) [] := World.ownsRow_nil W base _ _
theorem ownS_one (W : World) (s : ByteArray) : OwnS (W.alloc (.cells #[.string s] 9)) W.heap.size (.slice (some ⟨W.heap.size, 0, none⟩) 1 1) [s] :=
  World.ownsRow_lit W #[.string s] 1 (Nat.le_refl _) (by unfold maxLen; omega) rfl
theorem sv_one (l : List ByteArray) : ∀ u ∈ l.map SV, u.oneCell' = true := by
  intro u hu
  obtain ⟨x, _, rfl⟩ := List.mem_map.1 hu
  rfl
theorem sv_new (W : World) (l : List ByteArray) (cs : Array Value) (t : TypeId) (hc : cs.toList = l.map SV) : ∀ j u, (l.map SV)[j]? = some u → (W.alloc (.cells cs t)).cell? ((⟨W.heap.size, 0, none⟩ : Go.Addr).add j) = some u := by
  intro j u hj
  rw [add_at, Nat.zero_add, cell_at (heap_alloc_new W (.cells cs t)), ← hj, ← hc]
  simp
/-- append of strings that stand in a new block -/
theorem wpList_append_S {w : World} {ops : Array Oper} {rest : List Oper} {o : Oper} {a : Act} {Q : Exit → Act → World → Prop} (hgd : o.guard = none) (s x : Operand)
    (ho : o.op = .call { callee := .builtin .append, args := #[s, x], argTypes := #[49, 49] })
    (base : Nat) (v : Value) (pre : List ByteArray) (hs : a.eval s = v) (hown : OwnS w base v pre) (b c : Nat) (y : ByteArray) (r : List ByteArray) (hx : a.eval x = .slice (some ⟨b, 0, none⟩) (r.length + 1) c) (hl : ∀ j u, ((y :: r).map SV)[j]? = some u → w.cell? ((⟨b, 0, none⟩ : Go.Addr).add j) = some u)
    (hn : pre.length + (r.length + 1) ≤ 1048576) (hbase : base ≤ w.heap.size)
    (h : ∀ v2 w', OwnS w' base v2 (pre ++ y :: r) → w.grownBy w' v.ownBlock → Below base w w' → wpList Try.prog ops Q rest (a.put o.dst v2) w') : wpList Try.prog ops Q (o :: rest) a w := by
  obtain ⟨i0, hi, hz0, hz1, hz2⟩ := info_parts infoSt
  refine wpList_append_lies w hgd s x 49 ho base 9 i0 (.string ⟨#[]⟩) 1 16 Try.underlying49 hi hz0 hz1 hz2 rfl (by decide) v pre.length (pre.map SV) hs hown ⟨b, 0, none⟩ (r.length + 1) c ((y :: r).map SV) hx (by simp) hl (sv_one _) (by omega) (by unfold maxLen; omega) (by omega) hbase _ rfl ?_
  intro g cap w' h1 h2 h3 _
  refine h _ w' ?_ h2 ((Below.refl _ _).grown h2 hbase (fun j hj => (hown.lt j hj).1))
  unfold OwnS
  rw [List.length_append, List.map_append]
  exact h1
theorem join_flat (xs : List (List UInt8)) : Lib.join xs [] = xs.flatten := by
  cases xs with
  | nil => rfl
  | cons x r =>
    rw [Lib.join_cons, List.flatten_cons]
    unfold Lib.joinTail
    congr 2
    have : (fun y : List UInt8 => [] ++ y) = id := by funext y; rfl
    rw [this, List.map_id]
theorem join_S {base : Nat} {v : Value} {l : List ByteArray} {W : World} (h : OwnS W base v l) (hn : l.length ≤ 1048576) (hx : (l.map lb).flatten.length ≤ 140737488355328) :
    Calls Try.prog 25 #[v, .string ⟨#[]⟩] W (Gives (.string (bs (l.map lb).flatten)) W) := by
  have J : Lib.join (l.map lb) (ByteArray.mk #[]).data.toList = (l.map lb).flatten := join_flat _
  rcases h.2 with ⟨rfl, h0⟩ | ⟨g, cap, cur, rfl, hb, hg, hc, _⟩
  · have e : l = [] := List.length_eq_zero_iff.1 h0
    subst e
    refine (Try.strings_Join_none none 0 ⟨#[]⟩ W).mono ?_
    rintro e w2 ⟨rfl, rfl⟩
    exact ⟨rfl, Below.refl _ _⟩
  · have := Try.strings_Join g 0 cap l ⟨#[]⟩ W (fun j s hj => by
        have hl : j < l.length := (List.getElem?_eq_some_iff.1 hj).1
        have := World.ownsRow.cellAt h j (by omega)
        rw [Nat.zero_add, this, List.getElem?_map, hj]; rfl) (lt_of_block hg) (by omega) hc (by rw [show l.map (·.data.toList) = l.map lb from rfl, J]; exact hx)
    rw [show l.map (·.data.toList) = l.map lb from rfl, J] at this
    exact this
end Go.Proofs.Ytmoklodaeicpgaa
