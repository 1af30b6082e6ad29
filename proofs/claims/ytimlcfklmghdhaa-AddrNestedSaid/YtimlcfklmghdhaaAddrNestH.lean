/-
  The blocks that the walk of AddrNested reads, kept over calls. No condition.
-/
import Derived.Test.YtimlcfklmghdhaaAddrF
import Derived.Test.YtimlcfklmghdhaaAddrNestM
namespace Go.Proofs.Ytimlcfklmghdhaa
open Go.RowKit
def HeldN (w : World) (p : Nat) (n : Int) (q : Nat) (m : Int) (a : Nat) (W : World) : Prop := Below w.heap.size w W ∧
  Three w.heap.size (.int .u64 (hi p : Nat)) (.int .u64 (lo p : Nat)) (.int .i64 n) W ∧ Three (w.heap.size + 1) (.int .u64 (hi q : Nat)) (.int .u64 (lo q : Nat)) (.int .i64 m) W ∧
  (W.cell? ⟨w.heap.size + 1 + 1, 0, none⟩ = some (.int .u64 (hi a : Nat)) ∧ W.cell? ⟨w.heap.size + 1 + 1, 1, none⟩ = some (.int .u64 (lo a : Nat)) ∧ w.heap.size + 1 + 1 < W.heap.size)
theorem HeldN.step2 {w : World} {p : Nat} {n : Int} {q : Nat} {m : Int} {a : Nat} {W w2 : World} (hb : Below W.heap.size W w2) (h : HeldN w p n q m a W) : HeldN w p n q m a w2 := by
  obtain ⟨h1, h2, h3, h4, h5, h6⟩ := h
  have z := hb.size
  exact ⟨h1.trans (hb.mono h1.size), h2.step hb, h3.step hb, cell_keep hb h4, cell_keep hb h5, by omega⟩
theorem HeldN.drew {w : World} {p : Nat} {n : Int} {q : Nat} {m : Int} {a : Nat} {W : World} (h : HeldN w p n q m a W) : HeldN w p n q m a W.drew := HeldN.step2 (below_drew W) h
theorem heldN_new (w : World) (p : Nat) (n : Int) (q : Nat) (m : Int) (a : Nat) (t u : TypeId) :
    HeldN w p n q m a (((w.alloc (.cells #[.int .u64 (hi p : Nat), .int .u64 (lo p : Nat), .int .i64 n] t)).alloc (.cells #[.int .u64 (hi q : Nat), .int .u64 (lo q : Nat), .int .i64 m] t)).alloc (.cells #[.int .u64 (hi a : Nat), .int .u64 (lo a : Nat)] u)) := by
  refine ⟨(((Below.refl _ _).alloc (Nat.le_refl _) _).alloc (by simp) _).alloc (by simp; omega) _, ((three_new w _ _ _ _).step (below_alloc _ _)).step (below_alloc _ _), ?_, by simp [go_sem], by simp [go_sem], by simp⟩
  have := (three_new (w.alloc (.cells #[.int .u64 (hi p : Nat), .int .u64 (lo p : Nat), .int .i64 n] t)) (.int .u64 (hi q : Nat)) (.int .u64 (lo q : Nat)) (.int .i64 m) t).step (below_alloc _ (.cells #[.int .u64 (hi a : Nat), .int .u64 (lo a : Nat)] u))
  simpa using this
theorem heldN_all {w : World} {p : Nat} {n : Int} {q : Nat} {m : Int} {a : Nat} {W : World} (h : HeldN w p n q m a W) : HeldN w p n q m a W ∧
    W.cell? ⟨w.heap.size, 0, none⟩ = some (.int .u64 (hi p : Nat)) ∧ W.cell? ⟨w.heap.size, 1, none⟩ = some (.int .u64 (lo p : Nat)) ∧ W.cell? ⟨w.heap.size, 2, none⟩ = some (.int .i64 n) ∧
    W.cell? ⟨w.heap.size + 1, 0, none⟩ = some (.int .u64 (hi q : Nat)) ∧ W.cell? ⟨w.heap.size + 1, 1, none⟩ = some (.int .u64 (lo q : Nat)) ∧ W.cell? ⟨w.heap.size + 1, 2, none⟩ = some (.int .i64 m) := by
  have h' := h
  obtain ⟨_, ⟨a0, a1, a2, _⟩, ⟨b0, b1, b2, _⟩, _⟩ := h'
  exact ⟨h, a0, a1, a2, b0, b1, b2⟩
theorem chainAA {w v v' : World} {o o' : Obj} (h : Below w.heap.size w v) (k : Below ((v.alloc o).alloc o').heap.size ((v.alloc o).alloc o') v') : Below w.heap.size w v' := chain ((h.alloc h.size o).alloc (Nat.le_trans h.size (by simp)) o') k
end Go.Proofs.Ytimlcfklmghdhaa
