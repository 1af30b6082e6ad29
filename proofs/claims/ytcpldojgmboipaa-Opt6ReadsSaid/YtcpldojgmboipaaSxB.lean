/-
  What stays of memory while other memory is written; a box of one cell; rows of strings of the call's own and what Join gives; Clone. Conditions: a row has at most 2^20 strings; together at most 2^47 bytes; a string is no longer than an int.
-/
import Derived.Test.YtcpldojgmboipaaSxN
import Derived.Test.YtcpldojgmboipaaLRef
import Derived.Test.YtcpldojgmboipaaShelf
import Derived.OwnWalk
import Derived.Deep.AppendLies
import Derived.Lib.AppendStr
import Derived.Lib.Hide
import Derived.Laws.Tables
import Derived.Laws.Rows
import Derived.Defers
import Derived.Recover
namespace Go.Proofs.Ytcpldojgmboipaa
open Go.RowKit Go.Joins

theorem add_at (b o j : Nat) : (⟨b, o, none⟩ : Go.Addr).add j = ⟨b, o + j, none⟩ := by cases j <;> simp [Addr.add]
/-- only the blocks of S have been written, and new ones made -/
structure Fr (S : Nat → Prop) (w w' : World) : Prop where
  os : w'.os = w.os
  tape : w'.tape = w.tape
  output : w'.output = w.output
  size : w.heap.size ≤ w'.heap.size
  block : ∀ k, k < w.heap.size → ¬ S k → w'.heap[k]? = w.heap[k]?
abbrev No : Nat → Prop := fun _ => False
theorem Fr.refl (S : Nat → Prop) (w : World) : Fr S w w := ⟨rfl, rfl, rfl, Nat.le_refl _, fun _ _ _ => rfl⟩
theorem Fr.trans {S S2 : Nat → Prop} {a b c : World} (h : Fr S a b) (k : Fr S2 b c) (hs : ∀ i, i < a.heap.size → S2 i → S i) : Fr S a c :=
  ⟨k.os.trans h.os, k.tape.trans h.tape, k.output.trans h.output, Nat.le_trans h.size k.size, fun i hi hn => (k.block i (Nat.lt_of_lt_of_le hi h.size) (fun e => hn (hs i hi e))).trans (h.block i hi hn)⟩
theorem Fr.mono {S S2 : Nat → Prop} {a b : World} (h : Fr S a b) (hs : ∀ i, i < a.heap.size → S i → S2 i) : Fr S2 a b :=
  ⟨h.os, h.tape, h.output, h.size, fun i hi hn => h.block i hi (fun e => hn (hs i hi e))⟩
theorem Fr.no {S : Nat → Prop} {a b : World} (h : Fr No a b) : Fr S a b := h.mono (fun _ _ e => e.elim)
theorem Fr.andNo {S : Nat → Prop} {a b c : World} (h : Fr S a b) (k : Fr No b c) : Fr S a c := h.trans k (fun _ _ e => e.elim)
theorem Fr.grown {a b : World} {row : Option Nat} (h : a.grownBy b row) : Fr (fun k => some k = row) a b := ⟨h.os, h.tape, h.output, h.size, h.block⟩
theorem Fr.ofBelow {a b : World} (h : Below a.heap.size a b) : Fr No a b := ⟨h.os, h.tape, h.output, h.size, fun k hk _ => h.block k hk⟩
theorem Fr.toBelow {a b : World} (h : Fr No a b) : Below a.heap.size a b := ⟨h.os, h.tape, h.output, h.size, fun k hk => h.block k hk (fun e => e)⟩
theorem Fr.below {S : Nat → Prop} {a b : World} (h : Fr S a b) {B : Nat} (hB : B ≤ a.heap.size) (hS : ∀ k, S k → B ≤ k) : Below B a b :=
  ⟨h.os, h.tape, h.output, h.size, fun k hk => h.block k (Nat.lt_of_lt_of_le hk hB) (fun e => Nat.lt_irrefl k (Nat.lt_of_lt_of_le hk (hS k e)))⟩
theorem Fr.alloc (w : World) (o : Obj) : Fr No w (w.alloc o) := ⟨rfl, rfl, rfl, by simp, fun k hk _ => Below.heap_alloc w o k hk⟩
theorem Fr.drew (w : World) : Fr No w w.drew := ⟨rfl, rfl, rfl, Nat.le_refl _, fun _ _ _ => rfl⟩
theorem Fr.drewN (w : World) (n : Nat) : Fr No w (w.drewN n) := ⟨rfl, rfl, rfl, Nat.le_refl _, fun _ _ _ => rfl⟩
theorem Fr.set (w : World) (a : Go.Addr) (u : Value) : Fr (fun k => k = a.block) w (w.setCell a u) := ⟨rfl, rfl, rfl, by simp, fun k _ hn => Below.heap_setCell w a u k hn⟩
theorem lt_of_block {w : World} {b : Nat} {o : Obj} (h : w.heap[b]? = some o) : b < w.heap.size := (Array.getElem?_eq_some_iff.1 h).1
theorem Fr.keep {S : Nat → Prop} {a b : World} (h : Fr S a b) {k : Nat} {o : Obj} (hk : a.heap[k]? = some o) (hn : ¬ S k) : b.heap[k]? = some o := by
  rw [h.block k (lt_of_block hk) hn, hk]
theorem cell_at {w : World} {b : Nat} {cur : Array Value} {t : TypeId} {fz : Nat × Nat} (h : w.heap[b]? = some (.cells cur t fz)) (i : Nat) : w.cell? ⟨b, i, none⟩ = cur[i]? := by
  simp [World.cell?, h]
theorem free_at {w : World} {b : Nat} {cur : Array Value} {t : TypeId} (h : w.heap[b]? = some (.cells cur t (0, 0))) (i : Nat) : w.frozen? ⟨b, i, none⟩ = false := by
  simp [World.frozen?, h]
theorem set_block {w : World} {b : Nat} {cur : Array Value} {t : TypeId} {fz : Nat × Nat} (h : w.heap[b]? = some (.cells cur t fz)) (i : Nat) (v : Value) :
    (w.setCell ⟨b, i, none⟩ v).heap[b]? = some (.cells (cur.setIfInBounds i v) t fz) := by
  unfold World.setCell
  show (w.heap.modify b _)[b]? = _
  rw [Array.getElem?_modify, if_pos rfl, h]
  rfl
theorem own_fr {S : Nat → Prop} {a b : World} {base n size : Nat} {e : TypeId} {v : Value} {xs : List Value} (h : a.ownsRow base e size v n xs) (k : Fr S a b) (hn : ∀ i, v.ownBlock = some i → ¬ S i) : b.ownsRow base e size v n xs := by
  refine ⟨h.1, ?_⟩
  rcases h.2 with hn2 | ⟨g, cap, cur, rfl, h2, h3, h4⟩
  · exact Or.inl hn2
  · exact Or.inr ⟨g, cap, cur, rfl, h2, k.keep h3 (hn g rfl), h4⟩
theorem own_keep {W w2 : World} {base n size : Nat} {e : TypeId} {v : Value} {xs : List Value} (h : W.ownsRow base e size v n xs) (hb : Below W.heap.size W w2) : w2.ownsRow base e size v n xs := by
  refine ⟨h.1, ?_⟩
  rcases h.2 with hn | ⟨g, cap, cur, h1, h2, h3, h4⟩
  · exact Or.inl hn
  · have hl : g < W.heap.size := by
      rcases Nat.lt_or_ge g W.heap.size with h' | h'
      · exact h'
      · rw [Array.getElem?_eq_none h'] at h3; cases h3
    exact Or.inr ⟨g, cap, cur, h1, h2, by rw [hb.block g hl]; exact h3, h4⟩
abbrev SV (s : ByteArray) : Value := .string s
theorem infoSt : (Try.prog.info? 9).map (fun i => (i.zero, i.size, i.bytes)) = some (some (.string ⟨#[]⟩), 1, 16) := by kernel_rfl
/-- a row of strings of the call's own -/
def OwnS (w : World) (base : Nat) (v : Value) (l : List ByteArray) : Prop := w.ownsRow base 9 1 v l.length (l.map SV)
theorem OwnS.step {W W2 : World} {base : Nat} {v : Value} {l : List ByteArray} (h : OwnS W base v l) (hb : Below W.heap.size W W2) : OwnS W2 base v l := own_keep h hb
theorem OwnS.base {W : World} {base base' : Nat} {v : Value} {l : List ByteArray} (h : OwnS W base v l) (hb : base' ≤ base) : OwnS W base' v l := by
  refine ⟨h.1, ?_⟩
  rcases h.2 with hn | ⟨g, cap, cur, h1, h2, h3⟩
  · exact Or.inl hn
  · exact Or.inr ⟨g, cap, cur, h1, Nat.le_trans hb h2, h3⟩
theorem ownS_nil (W : World) (base : Nat) : OwnS W base (.slice none 0 0) [] := World.ownsRow_nil W base _ _
theorem ownS_one (W : World) (s : ByteArray) : OwnS (W.alloc (.cells #[.string s] 9)) W.heap.size (.slice (some ⟨W.heap.size, 0, none⟩) 1 1) [s] :=
  World.ownsRow_lit W #[.string s] 1 (Nat.le_refl _) (by unfold maxLen; omega) rfl
theorem sv_one (l : List ByteArray) : ∀ u ∈ l.map SV, u.oneCell' = true := by
  intro u hu
  obtain ⟨x, _, rfl⟩ := List.mem_map.1 hu
  rfl
theorem sv_new (W : World) (l : List ByteArray) (cs : Array Value) (t : TypeId) (hc : cs.toList = l.map SV) : ∀ j u, (l.map SV)[j]? = some u → (W.alloc (.cells cs t)).cell? ((⟨W.heap.size, 0, none⟩ : Go.Addr).add j) = some u := by
  intro j u hj
  rw [add_at, Nat.zero_add, cell_at (heap_alloc_new W (.cells cs t)), ← hj, ← hc]
  simp
/-- append of strings that stand in a new block -/
theorem wpList_append_S {w : World} {ops : Array Oper} {rest : List Oper} {o : Oper} {a : Act} {Q : Exit → Act → World → Prop} (hgd : o.guard = none) (s x : Operand)
    (ho : o.op = .call { callee := .builtin .append, args := #[s, x], argTypes := #[60, 60] })
    (base : Nat) (v : Value) (pre : List ByteArray) (hs : a.eval s = v) (hown : OwnS w base v pre) (b c : Nat) (y : ByteArray) (r : List ByteArray) (hx : a.eval x = .slice (some ⟨b, 0, none⟩) (r.length + 1) c) (hl : ∀ j u, ((y :: r).map SV)[j]? = some u → w.cell? ((⟨b, 0, none⟩ : Go.Addr).add j) = some u)
    (hn : pre.length + (r.length + 1) ≤ 1048576) (hbase : base ≤ w.heap.size)
    (h : ∀ v2 w', OwnS w' base v2 (pre ++ y :: r) → w.grownBy w' v.ownBlock → Below base w w' → wpList Try.prog ops Q rest (a.put o.dst v2) w') : wpList Try.prog ops Q (o :: rest) a w := by
  obtain ⟨i0, hi, hz0, hz1, hz2⟩ := info_parts infoSt
  refine wpList_append_lies w hgd s x 60 ho base 9 i0 (.string ⟨#[]⟩) 1 16 Try.underlying60 hi hz0 hz1 hz2 rfl (by decide) v pre.length (pre.map SV) hs hown ⟨b, 0, none⟩ (r.length + 1) c ((y :: r).map SV) hx (by simp) hl (sv_one _) (by omega) (by unfold maxLen; omega) (by omega) hbase _ rfl ?_
  intro g cap w' h1 h2 h3 _
  refine h _ w' ?_ h2 ((Below.refl _ _).grown h2 hbase (fun j hj => (hown.lt j hj).1))
  unfold OwnS
  rw [List.length_append, List.map_append]
  exact h1
theorem join_flat (xs : List (List UInt8)) : Lib.join xs [] = xs.flatten := by
  cases xs with
  | nil => rfl
  | cons x r =>
    rw [Lib.join_cons, List.flatten_cons]
    unfold Lib.joinTail
    congr 2
    have : (fun y : List UInt8 => [] ++ y) = id := by funext y; rfl
    rw [this, List.map_id]
theorem join_S {base : Nat} {v : Value} {l : List ByteArray} {W : World} (h : OwnS W base v l) (hn : l.length ≤ 1048576) (hx : (l.map lb).flatten.length ≤ 140737488355328) :
    Calls Try.prog 33 #[v, .string ⟨#[]⟩] W (Gives (.string (bs (l.map lb).flatten)) W) := by
  have J : Lib.join (l.map lb) (ByteArray.mk #[]).data.toList = (l.map lb).flatten := join_flat _
  rcases h.2 with ⟨rfl, h0⟩ | ⟨g, cap, cur, rfl, hb, hg, hc, _⟩
  · have e : l = [] := List.length_eq_zero_iff.1 h0
    subst e
    refine (Try.strings_Join_none none 0 ⟨#[]⟩ W).mono ?_
    rintro e w2 ⟨rfl, rfl⟩
    exact ⟨rfl, Below.refl _ _⟩
  · have := Try.strings_Join g 0 cap l ⟨#[]⟩ W (fun j s hj => by
        have hl : j < l.length := (List.getElem?_eq_some_iff.1 hj).1
        have := World.ownsRow.cellAt h j (by omega)
        rw [Nat.zero_add, this, List.getElem?_map, hj]; rfl) (lt_of_block hg) (by omega) hc (by rw [show l.map (·.data.toList) = l.map lb from rfl, J]; exact hx)
    rw [show l.map (·.data.toList) = l.map lb from rfl, J] at this
    exact this
theorem clone_str (s : ByteArray) (hs : s.size ≤ 281474976710656) (w : World) : Calls Try.prog 84 #[.string s] w (Gives (.string s) w) := by
  have C := hide (Try.stringslite_Clone s w hs)
  clear hs
  go_enter Try.func84, Try.ntmps84
  go_wp2_with fail
  refine C.out.mono ?_
  rintro en w' ⟨rfl, hb⟩
  go_wp2
  go_ret
  exact ⟨rfl, hb⟩
end Go.Proofs.Ytcpldojgmboipaa
