/-
  The blocks of one address each that the loops of the document's own answers read and write, kept over calls; the contract of one bit, by its value. Condition: the words are words of 64 bits (every value of the type is such).
-/
import Derived.Test.YtfmhpnendcikoaaGreatAddrU
import Derived.Test.YtfmhpnendcikoaaGreatAddrT
namespace Go.Proofs.YtfmhpnendcikoaaGreat
open Go.RowKit

def RTwo (g a : Nat) (W : World) : Prop := W.cell? ⟨g, 0, none⟩ = some (.int .u64 (hi a : Nat)) ∧ W.cell? ⟨g, 1, none⟩ = some (.int .u64 (lo a : Nat)) ∧
  W.frozen? ⟨g, 0, none⟩ = false ∧ W.frozen? ⟨g, 1, none⟩ = false ∧ g < W.heap.size
theorem RTwo.step {g a : Nat} {W w2 : World} (h : RTwo g a W) (hb : Below W.heap.size W w2) : RTwo g a w2 := by
  obtain ⟨h1, h2, h3, h4, h5⟩ := h
  have z := hb.size
  exact ⟨keep_cell hb h1, keep_cell hb h2, keep_free hb h5 h3, keep_free hb h5 h4, by omega⟩
theorem rtwo_new (V : World) (a : Nat) (t : TypeId) : RTwo V.heap.size a (V.alloc (.cells #[.int .u64 (hi a : Nat), .int .u64 (lo a : Nat)] t)) := by
  refine ⟨by simp, by simp, ?_, ?_, by simp⟩ <;> simp [go_sem]
theorem rtwo_zero (V : World) (t : TypeId) : RTwo V.heap.size 0 (V.alloc (.cells #[.int .u64 0, .int .u64 0] t)) := rtwo_new V 0 t
theorem RTwo.put {g a : Nat} {W : World} (h : RTwo g a W) (y : Nat) : RTwo g y ((W.setCell ⟨g, 0, none⟩ (.int .u64 (hi y : Nat))).setCell ⟨g, 1, none⟩ (.int .u64 (lo y : Nat))) := by
  obtain ⟨h1, h2, h3, h4, h5⟩ := h
  refine ⟨?_, ?_, ?_, ?_, by simp; exact h5⟩
  all_goals simp [go_sem, *]
theorem RTwo.set {g a : Nat} {W : World} (h : RTwo g a W) {p : Addr} (hp : g ≠ p.block) (u : Value) : RTwo g a (W.setCell p u) := by
  obtain ⟨h1, h2, h3, h4, h5⟩ := h
  have k : ∀ o, (W.setCell p u).cell? ⟨g, o, none⟩ = W.cell? ⟨g, o, none⟩ := fun o => World.cell?_of_block (w := W) (Below.heap_setCell W p u g hp)
  have f : ∀ o, (W.setCell p u).frozen? ⟨g, o, none⟩ = W.frozen? ⟨g, o, none⟩ := fun o => World.frozen?_of_block (w := W) (Below.heap_setCell W p u g hp)
  exact ⟨by rw [k]; exact h1, by rw [k]; exact h2, by rw [f]; exact h3, by rw [f]; exact h4, by simp; exact h5⟩

/-- one box -/
def H1 (w : World) (a : Nat) (W : World) : Prop := Below w.heap.size w W ∧ RTwo w.heap.size a W
theorem H1.step {w : World} {a : Nat} {W w2 : World} (hb : Below W.heap.size W w2) (h : H1 w a W) : H1 w a w2 := ⟨h.1.trans (hb.mono h.1.size), h.2.step hb⟩
/-- two boxes -/
def H2 (w : World) (a b : Nat) (W : World) : Prop := Below w.heap.size w W ∧ RTwo w.heap.size a W ∧ RTwo (w.heap.size + 1) b W
theorem H2.step {w : World} {a b : Nat} {W w2 : World} (hb : Below W.heap.size W w2) (h : H2 w a b W) : H2 w a b w2 := ⟨h.1.trans (hb.mono h.1.size), h.2.1.step hb, h.2.2.step hb⟩
theorem H2.drew {w : World} {a b : Nat} {W : World} (h : H2 w a b W) : H2 w a b W.drew := H2.step (below_drew W) h
/-- two boxes, the result's place and the number that is made -/
def H4 (w : World) (a b x : Nat) (W : World) : Prop := H2 w a b W ∧ RTwo (w.heap.size + 1 + 1) 0 W ∧ RTwo (w.heap.size + 1 + 1 + 1) x W
theorem H4.step {w : World} {a b x : Nat} {W w2 : World} (hb : Below W.heap.size W w2) (h : H4 w a b x W) : H4 w a b x w2 := ⟨H2.step hb h.1, h.2.1.step hb, h.2.2.step hb⟩
theorem H4.drew {w : World} {a b x : Nat} {W : World} (h : H4 w a b x W) : H4 w a b x W.drew := H4.step (below_drew W) h
theorem H4.put {w : World} {a b x : Nat} {W : World} (h : H4 w a b x W) (y : Nat) : H4 w a b y ((W.setCell ⟨w.heap.size + 1 + 1 + 1, 0, none⟩ (.int .u64 (hi y : Nat))).setCell ⟨w.heap.size + 1 + 1 + 1, 1, none⟩ (.int .u64 (lo y : Nat))) := by
  obtain ⟨⟨h1, h2, h3⟩, h4, h5⟩ := h
  exact ⟨⟨(h1.setCell (by simp; omega) _).setCell (by simp; omega) _, (h2.set (by simp; omega) _).set (by simp; omega) _, (h3.set (by simp) _).set (by simp) _⟩, (h4.set (by simp) _).set (by simp) _, h5.put y⟩
/-- one box, the result's place and the number that is made -/
def H3 (w : World) (a x : Nat) (W : World) : Prop := H1 w a W ∧ RTwo (w.heap.size + 1) 0 W ∧ RTwo (w.heap.size + 1 + 1) x W
theorem H3.step {w : World} {a x : Nat} {W w2 : World} (hb : Below W.heap.size W w2) (h : H3 w a x W) : H3 w a x w2 := ⟨H1.step hb h.1, h.2.1.step hb, h.2.2.step hb⟩
theorem H3.put {w : World} {a x : Nat} {W : World} (h : H3 w a x W) (y : Nat) : H3 w a y ((W.setCell ⟨w.heap.size + 1 + 1, 0, none⟩ (.int .u64 (hi y : Nat))).setCell ⟨w.heap.size + 1 + 1, 1, none⟩ (.int .u64 (lo y : Nat))) := by
  obtain ⟨⟨h1, h2⟩, h4, h5⟩ := h
  exact ⟨⟨(h1.setCell (by simp; omega) _).setCell (by simp; omega) _, (h2.set (by simp; omega) _).set (by simp; omega) _⟩, (h4.set (by simp) _).set (by simp) _, h5.put y⟩

theorem h1_new (w : World) (a : Nat) (t : TypeId) : H1 w a (w.alloc (.cells #[.int .u64 (hi a : Nat), .int .u64 (lo a : Nat)] t)) := ⟨below_alloc _ _, rtwo_new w a t⟩
theorem h2_new (w : World) (a b : Nat) (t : TypeId) : H2 w a b ((w.alloc (.cells #[.int .u64 (hi a : Nat), .int .u64 (lo a : Nat)] t)).alloc (.cells #[.int .u64 (hi b : Nat), .int .u64 (lo b : Nat)] t)) := by
  refine ⟨(below_alloc w _).alloc (by simp) _, (rtwo_new w a t).step (below_alloc _ _), ?_⟩
  have := rtwo_new (w.alloc (.cells #[.int .u64 (hi a : Nat), .int .u64 (lo a : Nat)] t)) b t
  simpa using this
theorem h4_new (w : World) (a b : Nat) (t : TypeId) : H4 w a b 0 ((((w.alloc (.cells #[.int .u64 (hi a : Nat), .int .u64 (lo a : Nat)] t)).alloc (.cells #[.int .u64 (hi b : Nat), .int .u64 (lo b : Nat)] t)).alloc (.cells #[.int .u64 0, .int .u64 0] t)).alloc (.cells #[.int .u64 0, .int .u64 0] t)) := by
  have h := h2_new w a b t
  generalize hv : (w.alloc (.cells #[.int .u64 (hi a : Nat), .int .u64 (lo a : Nat)] t)).alloc (.cells #[.int .u64 (hi b : Nat), .int .u64 (lo b : Nat)] t) = V at *
  have hs : V.heap.size = w.heap.size + 1 + 1 := by rw [← hv]; simp
  have h3 := rtwo_zero V t
  have h4 := rtwo_zero (V.alloc (.cells #[.int .u64 0, .int .u64 0] t)) t
  rw [hs] at h3
  rw [show (V.alloc (.cells #[.int .u64 0, .int .u64 0] t)).heap.size = w.heap.size + 1 + 1 + 1 by simp [hs]] at h4
  exact ⟨H2.step (below_alloc _ _) (H2.step (below_alloc _ _) h), h3.step (below_alloc _ _), h4⟩
theorem h3_new (w : World) (a : Nat) (t : TypeId) : H3 w a 0 (((w.alloc (.cells #[.int .u64 (hi a : Nat), .int .u64 (lo a : Nat)] t)).alloc (.cells #[.int .u64 0, .int .u64 0] t)).alloc (.cells #[.int .u64 0, .int .u64 0] t)) := by
  have h := h1_new w a t
  generalize hv : w.alloc (.cells #[.int .u64 (hi a : Nat), .int .u64 (lo a : Nat)] t) = V at *
  have hs : V.heap.size = w.heap.size + 1 := by rw [← hv]; simp
  have h3 := rtwo_zero V t
  have h4 := rtwo_zero (V.alloc (.cells #[.int .u64 0, .int .u64 0] t)) t
  rw [hs] at h3
  rw [show (V.alloc (.cells #[.int .u64 0, .int .u64 0] t)).heap.size = w.heap.size + 1 + 1 by simp [hs]] at h4
  exact ⟨H1.step (below_alloc _ _) (H1.step (below_alloc _ _) h), h3.step (below_alloc _ _), h4⟩

/-! ### one bit, by its value -/
theorem bit_nat {a : Nat} (ha : Fits a) (k v : Nat) (h : k < 128) (e : bitS a k = v) (w : World) :
    Calls Tryz.prog 55 #[A a, .int .i64 (k : Nat)] w (Gives (.int .u64 (v : Nat)) w) := by
  subst e
  have := bit_any ha (k : Int) (by omega) (by omega) w
  rwa [Int.toNat_natCast] at this
theorem with_nat {a : Nat} (ha : Fits a) (k : Nat) (h : k < 128) (w : World) :
    Calls Tryz.prog 57 #[A a, .int .i64 (k : Nat)] w (Gives (A (withS a k)) w) := by
  have := with_any ha (k : Int) (by omega) (by omega) w
  rwa [Int.toNat_natCast] at this
theorem bit_low {a : Nat} (ha : Fits a) (k v : Nat) (h : k < 128) (e : bitL a k = v) (w : World) :
    Calls Tryz.prog 55 #[A a, .int .i64 (127 - (k : Nat))] w (Gives (.int .u64 (v : Nat)) w) := by
  subst e
  have := bit_any ha (127 - (k : Int)) (by omega) (by omega) w
  rwa [show (127 - (k : Int)).toNat = 127 - k by omega, bitL_eq a h] at this
theorem with_low' {a : Nat} (ha : Fits a) (k : Nat) (h : k < 128) (w : World) :
    Calls Tryz.prog 57 #[A a, .int .i64 (127 - (k : Nat))] w (Gives (A (withS a (127 - k))) w) := by
  have := with_any ha (127 - (k : Int)) (by omega) (by omega) w
  rwa [show (127 - (k : Int)).toNat = 127 - k by omega] at this
theorem words_pos {b : Nat} (h : b ≠ 0) : 0 < hi b ∨ (hi b = 0 ∧ 0 < lo b) := by have := hi_lo b; omega
end Go.Proofs.YtfmhpnendcikoaaGreat
