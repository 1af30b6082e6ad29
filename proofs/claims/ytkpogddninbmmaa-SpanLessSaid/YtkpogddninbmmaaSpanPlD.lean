/-
  Boxes of addresses. No condition.
-/
import Derived.Test.YtkpogddninbmmaaSpanCn
namespace Go.Proofs.Ytkpogddninbmmaa
open Go.RowKit Go.Joins

/-- boxes of addresses -/
def Bx (w : World) (bs : List (Nat × Nat)) (W : World) : Prop := Below w.heap.size w W ∧ ∀ q ∈ bs, Two q.1 q.2 W
theorem Bx.step {w : World} {bs : List (Nat × Nat)} {W w2 : World} (h : Bx w bs W) (hb : Below W.heap.size W w2) : Bx w bs w2 := ⟨h.1.trans (hb.mono h.1.size), fun q hq => (h.2 q hq).step hb⟩
theorem Bx.new {w : World} {bs : List (Nat × Nat)} {W : World} (h : Bx w bs W) (a : Nat) : Bx w ((W.heap.size, a) :: bs) (W.alloc (.cells #[.int .u64 (hi a : Nat), .int .u64 (lo a : Nat)] 25)) := by
  have h1 := h.step (below_alloc W (.cells #[.int .u64 (hi a : Nat), .int .u64 (lo a : Nat)] 25))
  refine ⟨h1.1, fun q hq => ?_⟩
  rcases List.mem_cons.1 hq with rfl | hq
  · exact two_new W a _
  · exact h1.2 q hq
def Pk (w : World) (bs : List (Nat × Nat)) (vs : Value) (s : List Rg) (W : World) : Prop := Bx w bs W ∧ Lst vs s W
theorem Pk.step {w : World} {bs : List (Nat × Nat)} {vs : Value} {s : List Rg} {W w2 : World} (h : Pk w bs vs s W) (hb : Below W.heap.size W w2) : Pk w bs vs s w2 := ⟨h.1.step hb, h.2.step hb⟩
theorem Pk.drew {w : World} {bs : List (Nat × Nat)} {vs : Value} {s : List Rg} {W : World} (h : Pk w bs vs s W) : Pk w bs vs s { W with drawn := W.drawn + 1 } := h.step (Below.refl _ _).drew
theorem bx_nil (w : World) : Bx w [] w := ⟨Below.refl _ _, (fun q hq => by cases hq)⟩
theorem bx_three {w : World} {q0 q1 q2 : Nat × Nat} {r : List (Nat × Nat)} {W : World} (h : Bx w (q0 :: q1 :: q2 :: r) W) : Two q0.1 q0.2 W ∧ Two q1.1 q1.2 W ∧ Two q2.1 q2.2 W := ⟨h.2 _ (by simp), h.2 _ (by simp), h.2 _ (by simp)⟩
theorem bx_four {w : World} {q0 q1 q2 q3 : Nat × Nat} {r : List (Nat × Nat)} {W : World} (h : Bx w (q0 :: q1 :: q2 :: q3 :: r) W) : Two q0.1 q0.2 W ∧ Two q1.1 q1.2 W ∧ Two q2.1 q2.2 W ∧ Two q3.1 q3.2 W := ⟨h.2 _ (by simp), h.2 _ (by simp), h.2 _ (by simp), h.2 _ (by simp)⟩
theorem bx_five {w : World} {q0 q1 q2 q3 q4 : Nat × Nat} {r : List (Nat × Nat)} {W : World} (h : Bx w (q0 :: q1 :: q2 :: q3 :: q4 :: r) W) : Two q0.1 q0.2 W ∧ Two q3.1 q3.2 W := ⟨h.2 _ (by simp), h.2 _ (by simp)⟩
theorem bx_six {w : World} {q0 q1 q2 q3 q4 q5 : Nat × Nat} {r : List (Nat × Nat)} {W : World} (h : Bx w (q0 :: q1 :: q2 :: q3 :: q4 :: q5 :: r) W) : Two q0.1 q0.2 W ∧ Two q4.1 q4.2 W := ⟨h.2 _ (by simp), h.2 _ (by simp)⟩
end Go.Proofs.Ytkpogddninbmmaa
