/-
  The blocks that the walk of AddrNested reads once the halves lie there, kept over calls. No condition.
-/
import Derived.Test.YtimlcfklmghdhaaAddrNestH
namespace Go.Proofs.Ytimlcfklmghdhaa
open Go.RowKit
def HeldM (w : World) (p : Nat) (n : Int) (q : Nat) (m : Int) (a : Nat) (k : Nat) (x y z x' y' z' : Value) (W : World) : Prop := HeldN w p n q m a W ∧ Three k x y z W ∧ Three (k + 1) x' y' z' W
theorem HeldM.step2 {w : World} {p : Nat} {n : Int} {q : Nat} {m : Int} {a : Nat} {k : Nat} {x y z x' y' z' : Value} {W w2 : World} (hb : Below W.heap.size W w2) (h : HeldM w p n q m a k x y z x' y' z' W) : HeldM w p n q m a k x y z x' y' z' w2 :=
  ⟨HeldN.step2 hb h.1, h.2.1.step hb, h.2.2.step hb⟩
theorem heldM_new {w : World} {p : Nat} {n : Int} {q : Nat} {m : Int} {a : Nat} {x y z x' y' z' : Value} {t t' : TypeId} {W w2 : World} (h : HeldN w p n q m a W)
    (hb : Below ((W.alloc (.cells #[x, y, z] t)).alloc (.cells #[x', y', z'] t')).heap.size ((W.alloc (.cells #[x, y, z] t)).alloc (.cells #[x', y', z'] t')) w2) : HeldM w p n q m a W.heap.size x y z x' y' z' w2 := by
  refine HeldM.step2 hb ⟨HeldN.step2 (below_alloc _ _) (HeldN.step2 (below_alloc _ _) h), (three_new W x y z t).step (below_alloc _ _), ?_⟩
  have := three_new (W.alloc (.cells #[x, y, z] t)) x' y' z' t'
  simpa using this
end Go.Proofs.Ytimlcfklmghdhaa
