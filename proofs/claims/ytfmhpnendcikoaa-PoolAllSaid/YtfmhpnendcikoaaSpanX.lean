/-
  Contracts of slices.MinFunc and slices.MaxFunc at two addresses and Cmp. Condition: the words are words of 64 bits.
-/
import Derived.Test.YtfmhpnendcikoaaSpanT
namespace Go.Proofs.Ytfmhpnendcikoaa
open Go.RowKit Go.Joins

/-- the row of two, the result's block -/
def HMn (w : World) (g : Nat) (x : Rg) (r : Nat) (W : World) : Prop := Below w.heap.size w W ∧ Two w.heap.size r W ∧ Four g x W
/-- and the block of the least or greatest so far -/
def HMn2 (w : World) (g : Nat) (x : Rg) (m : Nat) (W : World) : Prop := Below w.heap.size w W ∧ Two w.heap.size 0 W ∧ Two (w.heap.size + 1) m W ∧ Four g x W
theorem HMn2.step {w : World} {g : Nat} {x : Rg} {m : Nat} {W w2 : World} (h : HMn2 w g x m W) (hb : Below W.heap.size W w2) : HMn2 w g x m w2 := ⟨h.1.trans (hb.mono h.1.size), h.2.1.step hb, h.2.2.1.step hb, h.2.2.2.step hb⟩
theorem HMn2.drew {w : World} {g : Nat} {x : Rg} {m : Nat} {W : World} (h : HMn2 w g x m W) : HMn2 w g x m { W with drawn := W.drawn + 1 } := h.step (Below.refl _ _).drew
theorem mn_new {w : World} {g : Nat} {x : Rg} (h : HMn w g x 0 (w.alloc (.cells #[.int .u64 0, .int .u64 0] 35))) (a : Nat) : HMn2 w g x a ((w.alloc (.cells #[.int .u64 0, .int .u64 0] 35)).alloc (.cells #[.int .u64 (hi a : Nat), .int .u64 (lo a : Nat)] 35)) := by
  have h2 := two_new (w.alloc (.cells #[.int .u64 0, .int .u64 0] 35)) a 35
  rw [World.size_alloc] at h2
  exact ⟨chain h.1 (below_alloc _ _), h.2.1.step (below_alloc _ _), h2, h.2.2.step (below_alloc _ _)⟩
theorem HMn2.put {w : World} {g : Nat} {x : Rg} {m : Nat} {W : World} (h : HMn2 w g x m W) (hg : g < w.heap.size) (y : Nat) : HMn2 w g x y ((W.setCell ⟨w.heap.size + 1, 0, none⟩ (.int .u64 (hi y : Nat))).setCell ⟨w.heap.size + 1, 1, none⟩ (.int .u64 (lo y : Nat))) :=
  ⟨(h.1.setCell (by dsimp only; omega) _).setCell (by dsimp only; omega) _, (h.2.1.set (by dsimp only; omega) _).set (by dsimp only; omega) _, h.2.2.1.put y, (h.2.2.2.set (by dsimp only; omega) _).set (by dsimp only; omega) _⟩
def MinR (w : World) (g : Nat) (x : Rg) (a m : Nat) (i : Value) (W : World) : Prop := (i = .int .i64 1 ∧ HMn2 w g x a W) ∨ (i = .int .i64 2 ∧ HMn2 w g x m W)
theorem cmp_lt (a b : Nat) : decide (cmpS a b < 0) = decide (a < b) := by
  unfold cmpS
  rw [decide_eq_decide]
  repeat' split
  all_goals omega

end Go.Proofs.Ytfmhpnendcikoaa
