/-
  Rows of leases of a call's own; the document's own same, without, with of layer 9. Conditions: at most 3000 leases in a list; the words are words of 64 bits, a text is no longer than an int (every value of the types is such).
-/
import Derived.Test.YtpldkgollhbolaaGreatTbKp
import Derived.Deep.DeepCutAuto
import Derived.BigQuiet
namespace Go.Proofs.YtpldkgollhbolaaGreat
open Go.RowKit Go.Joins Go.Maps

variable {w w' V W W' : World} {L : List Ls} {v : Value}
/-- a row of leases of the call's own -/
def OwnL (W : World) (base : Nat) (v : Value) (l : List Ls) : Prop := W.ownsRow base 30 8 v l.length (cellsL l)
theorem ownL_fr {S : Nat → Prop} {base : Nat} {l : List Ls} (h : OwnL W base v l) (k : Fr S W W') (hn : ∀ i, base ≤ i → ¬ S i) : OwnL W' base v l := own_fr h k (fun i hi => hn i (World.ownsRow.lt h i hi).1)
theorem ownL_below {base : Nat} {l : List Ls} (h : OwnL W base v l) (hb : Below W.heap.size W W') : OwnL W' base v l := own_fr h (Fr.ofBelow hb) (fun _ _ e => e)
theorem ownL_empty (W : World) : OwnL (W.alloc (.cells #[] 30)) W.heap.size (.slice (some ⟨W.heap.size, 0, none⟩) 0 0) [] :=
  World.ownsRow_lit W #[] 0 (Nat.le_refl _) (by unfold maxLen; omega) rfl
theorem ownL_res {l : List Ls} (h : OwnL W w.heap.size v l) : ResL w W v l := by
  rcases ownsRow_forms h with ⟨rfl, h0⟩ | ⟨g, cap, rfl⟩
  · obtain rfl : l = [] := List.eq_nil_of_length_eq_zero h0
    exact ⟨none, 0, rfl, Or.inl rfl⟩
  · have hl := World.ownsRow.lt h g rfl
    exact ⟨some ⟨g, 0, none⟩, cap, rfl, Or.inr ⟨g, rfl, hl.1, hl.2, holds_own h⟩⟩
theorem ownL_nil {base : Nat} {l : List Ls} (h : OwnL W base v l) : ∀ n c, v = .slice none n c → c = 0 := fun n c e => by
  rcases ownsRow_forms h with ⟨rfl, _⟩ | ⟨g, cap, rfl⟩
  · cases e; rfl
  · cases e
/-- a list of leases in new memory; a nil one has no room -/
def LsPost2 (w : World) (R : List Ls) (e : Ending) (w' : World) : Prop := ∃ v, e = .returned v ∧ ResL w w' v R ∧ Below w.heap.size w w' ∧ ∀ n c, v = .slice none n c → c = 0
theorem LsPost2.weak {R : List Ls} {e : Ending} (h : LsPost2 w R e w') : LsPost w R e w' := by
  obtain ⟨v, h1, h2, h3, _⟩ := h
  exact ⟨v, h1, h2, h3⟩
theorem atL_new (W : World) (x : Ls) (T : TypeId) : AtL W.heap.size 0 x (W.alloc (.cells (leaseC x) T)) := by
  have h := heap_alloc_new W (.cells (leaseC x) T)
  exact ⟨cell_at h 0, cell_at h 1, cell_at h 2, cell_at h 3, cell_at h 4, cell_at h 5, cell_at h 6, cell_at h 7⟩
theorem AtL.st {b o : Nat} {x : Ls} (h : AtL b o x W) (hb : Below W.heap.size W W') : AtL b o x W' := h.fr (Fr.ofBelow hb) (fun e => e)
/-- append of one lease to a row of the call's own -/
theorem wpList_pushL {w : World} {ops : Array Oper} {rest : List Oper} {o : Oper} {a : Act} {Q : Exit → Act → World → Prop} (hgd : o.guard = none) (s x : Operand)
    (ho : o.op = .call { callee := .builtin .append, args := #[s, x], argTypes := #[43, 43] })
    (base : Nat) (v : Value) (pre : List Ls) (hs : a.eval s = v) (y : Ls) (W : World) (hw : w = W.alloc (.cells (leaseC y) 30)) (hown : OwnL W base v pre) (hx : a.eval x = .slice (some ⟨W.heap.size, 0, none⟩) 1 1)
    (hn : pre.length ≤ 5000) (hbase : base ≤ W.heap.size)
    (h : ∀ v' w', OwnL w' base v' (pre ++ [y]) → Below base W w' → wpList Tryz.prog ops Q rest (a.put o.dst v') w') : wpList Tryz.prog ops Q (o :: rest) a w := by
  obtain ⟨i0, hi, hz0, hz1, hz2⟩ := info_parts infoL
  subst hw
  have O2 : (W.alloc (.cells (leaseC y) 30)).ownsRow base 30 8 v pre.length (cellsL pre) := own_fr hown (Fr.alloc W _) (fun _ _ e => e)
  refine wpList_append_lies _ hgd s x 43 ho base 30 i0 zLv 8 72 Tryz.underlying43 hi hz0 hz1 hz2 rfl (by decide) v pre.length (cellsL pre) hs O2 ⟨W.heap.size, 0, none⟩ 1 1 (wdL y) hx rfl (fun j u hu => World.news_of_block (alloc_at (W := W) (.cells (leaseC y) 30) rfl) j u hu) (wdL_cell y) (by decide) (by unfold maxLen; omega) (by omega) (by simp; omega) _ rfl ?_
  intro g2 cap2 w5 O5 G5 _ _
  refine h _ _ ?_ (((Below.refl base W).alloc hbase _).grown G5 (by simp; omega) (fun j e => (World.ownsRow.lt O2 j e).1))
  unfold OwnL
  rw [cellsL_snoc, List.length_append]
  exact O5
theorem eq_pre (p q : Nat) (n m : Int) (w : World) : (binOp .eql 27 (Pv p n) (Pv q m)).run Tryz.prog w = .ok (.bool (((((hi p : Nat) : Int) == ((hi q : Nat) : Int)) && (((lo p : Nat) : Int) == ((lo q : Nat) : Int))) && (n == m))) w := by
  rw [run_eql_struct, show (10000 : Nat) = 9997 + 1 + 1 + 1 from rfl, eq_prefix]
  rfl
theorem keyB_parts (x y : Ls) : keyB x y = (x.kind == y.kind && (((((hi x.p : Nat) : Int) == ((hi y.p : Nat) : Int)) && (((lo x.p : Nat) : Int) == ((lo y.p : Nat) : Int))) && (x.n == y.n))) := by
  unfold keyB
  rw [Bool.eq_iff_iff, decide_eq_true_iff, hilo]
  simp only [Bool.and_eq_true, beq_iff_eq]
  omega
set_option maxRecDepth 100000 in
theorem rsame_any (x y : Ls) (w : World) : Calls Tryz.prog 71 #[Lv x, Lv y] w (Gives (.bool (keyB x y)) w) := by
  have EQ := fun W => eq_pre x.p y.p x.n y.n W
  have KP := hide (keyB_parts x y)
  generalize (((((hi x.p : Nat) : Int) == ((hi y.p : Nat) : Int)) && (((lo x.p : Nat) : Int) == ((lo y.p : Nat) : Int))) && (x.n == y.n)) = r at *
  have B : Hid (Below w.heap.size w ((w.alloc (.cells (leaseC x) 30)).alloc (.cells (leaseC y) 30))) := hide (chain (below_alloc _ _) (below_alloc _ _))
  by_cases h : x.kind = y.kind
  · have h1 : (x.kind == y.kind) = true := by rw [beq_iff_eq]; exact h
    rw [h1] at KP
    clear h
    go_enter Tryz.func71, Tryz.ntmps71
    go_wp2
    go_ret
    exact ⟨by rw [KP.out]; rfl, B.out⟩
  · have h1 : (x.kind == y.kind) = false := by rw [beq_eq_false_iff_ne]; exact h
    rw [h1] at KP
    clear h
    go_enter Tryz.func71, Tryz.ntmps71
    go_wp2
    go_ret
    exact ⟨by rw [KP.out]; rfl, B.out⟩
end Go.Proofs.YtpldkgollhbolaaGreat
