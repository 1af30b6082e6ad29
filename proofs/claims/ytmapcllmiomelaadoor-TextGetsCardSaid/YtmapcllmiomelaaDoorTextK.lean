/-
  Contract of split: the eight groups of an address. Condition: the words are words of 64 bits (every value of the type is such).
-/
import Derived.Test.YtmapcllmiomelaaDoorTextI
import Derived.Test.YtmapcllmiomelaaDoorTextF
namespace Go.Proofs.YtmapcllmiomelaaDoor
open Go.RowKit Go.Joins

/-- group k of a, 0 the highest -/
def grpA (a k : Nat) : Nat := a / 2 ^ ((7 - k) * 16) % 65536
theorem grpA_lt (a k : Nat) : grpA a k < 65536 := by unfold grpA; omega
/-- eight cells of 16 bits -/
def Row8 (g : Nat) (f : Nat → Nat) (W : World) : Prop := g < W.heap.size ∧ ∀ j, j < 8 → W.cell? ⟨g, j, none⟩ = some (.int .u16 (f j : Nat)) ∧ W.frozen? ⟨g, j, none⟩ = false
theorem Row8.step {g : Nat} {f : Nat → Nat} {W w2 : World} (h : Row8 g f W) (hb : Below W.heap.size W w2) : Row8 g f w2 :=
  ⟨Nat.lt_of_lt_of_le h.1 hb.size, fun j hj => ⟨keep_cell hb (h.2 j hj).1, keep_free hb h.1 (h.2 j hj).2⟩⟩
theorem row8_new (w : World) (t : TypeId) : Row8 w.heap.size (fun _ => 0) (w.alloc (.cells #[.int .u16 0, .int .u16 0, .int .u16 0, .int .u16 0, .int .u16 0, .int .u16 0, .int .u16 0, .int .u16 0] t)) := by
  refine ⟨by simp, fun j hj => ?_⟩
  have : j = 0 ∨ j = 1 ∨ j = 2 ∨ j = 3 ∨ j = 4 ∨ j = 5 ∨ j = 6 ∨ j = 7 := by omega
  rcases this with rfl | rfl | rfl | rfl | rfl | rfl | rfl | rfl <;> simp [go_sem]
theorem Row8.set {g : Nat} {f : Nat → Nat} {W : World} (h : Row8 g f W) {p : Go.Addr} (hp : g ≠ p.block) (u : Value) : Row8 g f (W.setCell p u) := by
  refine ⟨by simp; exact h.1, fun j hj => ?_⟩
  rw [World.cell?_of_block (w := W) (Below.heap_setCell W p u g hp), World.frozen?_of_block (w := W) (Below.heap_setCell W p u g hp)]
  exact h.2 j hj
/-- the first k groups, then zeros -/
def firstK (f : Nat → Nat) (k j : Nat) : Nat := if j < k then f j else 0
theorem Row8.put {g k : Nat} {f : Nat → Nat} {W : World} (h : Row8 g (firstK f k) W) (hk : k < 8) : Row8 g (firstK f (k + 1)) (W.setCell ⟨g, k, none⟩ (.int .u16 (f k : Nat))) := by
  refine ⟨by simp; exact h.1, fun j hj => ?_⟩
  obtain ⟨c, fr⟩ := h.2 j hj
  obtain ⟨c', fr'⟩ := h.2 k hk
  by_cases e : j = k
  · subst e
    constructor
    · unfold firstK
      rw [if_pos (by omega)]
      simp [go_sem, *]
    · simp [go_sem, *]
  · constructor
    · have : firstK f (k + 1) j = firstK f k j := by
        unfold firstK
        by_cases l : j < k
        · rw [if_pos l, if_pos (by omega)]
        · rw [if_neg l, if_neg (by omega)]
      rw [this]
      simp [go_sem, *]
    · simp [go_sem, *]
theorem Row8.full {g : Nat} {f : Nat → Nat} {W : World} (h : Row8 g (firstK f 8) W) : Row8 g f W := ⟨h.1, fun j hj => by
  have := h.2 j hj
  unfold firstK at this
  rwa [if_pos hj] at this⟩

/-- the blocks of split -/
def HSp (w : World) (a : Nat) (f : Nat → Nat) (W : World) : Prop := Below w.heap.size w W ∧ Two w.heap.size a W ∧ Row8 (w.heap.size + 1) (fun _ => 0) W ∧ Row8 (w.heap.size + 1 + 1) f W
theorem HSp.step {w : World} {a : Nat} {f : Nat → Nat} {W w2 : World} (h : HSp w a f W) (hb : Below W.heap.size W w2) : HSp w a f w2 := ⟨h.1.trans (hb.mono h.1.size), h.2.1.step hb, h.2.2.1.step hb, h.2.2.2.step hb⟩
theorem hsp_new (w : World) (a : Nat) (f : Nat → Nat) (t u : TypeId) : HSp w a (firstK f 0) (((w.alloc (.cells #[.int .u64 (hi a : Nat), .int .u64 (lo a : Nat)] t)).alloc (.cells #[.int .u16 0, .int .u16 0, .int .u16 0, .int .u16 0, .int .u16 0, .int .u16 0, .int .u16 0, .int .u16 0] u)).alloc (.cells #[.int .u16 0, .int .u16 0, .int .u16 0, .int .u16 0, .int .u16 0, .int .u16 0, .int .u16 0, .int .u16 0] u)) := by
  have h := two_new w a t
  have hb := below_alloc w (.cells #[.int .u64 (hi a : Nat), .int .u64 (lo a : Nat)] t)
  generalize hv : w.alloc (.cells #[.int .u64 (hi a : Nat), .int .u64 (lo a : Nat)] t) = V at *
  have hs : V.heap.size = w.heap.size + 1 := by rw [← hv]; simp
  have h3 := row8_new V u
  have h4 := row8_new (V.alloc (.cells #[.int .u16 0, .int .u16 0, .int .u16 0, .int .u16 0, .int .u16 0, .int .u16 0, .int .u16 0, .int .u16 0] u)) u
  rw [hs] at h3
  rw [show (V.alloc (.cells #[.int .u16 0, .int .u16 0, .int .u16 0, .int .u16 0, .int .u16 0, .int .u16 0, .int .u16 0, .int .u16 0] u)).heap.size = w.heap.size + 1 + 1 by simp [hs]] at h4
  have e : firstK f 0 = fun _ => 0 := by funext j; unfold firstK; rw [if_neg (by omega)]
  rw [e]
  exact ⟨(hb.alloc hb.size _).alloc (by simp; omega) _, (h.step (below_alloc _ _)).step (below_alloc _ _), h3.step (below_alloc _ _), h4⟩
theorem HSp.put {w : World} {a k : Nat} {f : Nat → Nat} {W : World} (h : HSp w a (firstK f k) W) (hk : k < 8) : HSp w a (firstK f (k + 1)) (W.setCell ⟨w.heap.size + 1 + 1, k, none⟩ (.int .u16 (f k : Nat))) :=
  ⟨h.1.setCell (by dsimp only; omega) _, h.2.1.set (by dsimp only; omega) _, h.2.2.1.set (by dsimp only; omega) _, h.2.2.2.put hk⟩
theorem field_lo (x : Nat) (W : World) : (Instr.field 28 (A x) 1).run Tryd.prog W = .ok (.int .u64 (lo x : Nat)) W := by kernel_rfl
theorem down_grp {a k : Nat} : lo (downS a ((7 - k) * 16)) % 65536 = grpA a k := by
  unfold lo downS grpA
  omega

set_option maxRecDepth 100000 in
set_option maxHeartbeats 1000000 in
theorem split_any {a : Nat} (ha : Fits a) (w : World) :
    Calls Tryd.prog 39 #[A a] w (Gives (arr8 (grpA a)) w) := by
  go_enter Tryd.func39, Tryd.ntmps39
  go_wp2_with fail
  go_loopw [5] (fun i wr => ∃ k : Nat, k ≤ 8 ∧ i = .int .i64 (k : Nat) ∧ HSp w a (firstK (grpA a) k) wr) (fun i _ => 8 - (intOf i).toNat)
  case atStart => exact ⟨0, by omega, rfl, hsp_new w a _ _ _⟩
  case round =>
    obtain ⟨k, hk, rfl, HH⟩ := hrel
    obtain ⟨HB, ⟨a0, a1, a2, a3, a4⟩, R1, R2⟩ := id HH
    by_cases hlt : k < 8
    · have D := hide (down_any ha ((7 - (k : Int)) * 16) (by unfold I63; omega))
      have E := hide (show ((7 - (k : Int)) * 16).toNat = (7 - k) * 16 by omega)
      rw [E.out] at D
      have G := hide (down_grp (a := a) (k := k))
      generalize downS a ((7 - k) * 16) = x at D G
      clear R1 R2
      go_wp2_with fail
      refine (D.out _).mono ?_
      rintro e w2 ⟨rfl, hb2⟩
      have HF := HH.step hb2
      obtain ⟨CZ, FZ⟩ := HF.2.2.2.2 k hlt
      have GZ := HF.2.2.2.1
      have FL := field_lo x
      go_wp2
      rw [show IntKind.u16.wrap ((lo x : Nat) : Int) = ((grpA a k : Nat) : Int) by rw [← G.out, IntKind.wrap_u16]; omega]
      go_roundw
      case rel => exact ⟨k + 1, by omega, by go_num, HF.put hlt⟩
      case measure => simp [intOf]; omega
    · have e : k = 8 := by omega
      subst e
      have RF := R2.full
      obtain ⟨c0, f0⟩ := R1.2 0 (by omega)
      obtain ⟨d0, _⟩ := RF.2 0 (by omega)
      obtain ⟨c1, f1⟩ := R1.2 1 (by omega)
      obtain ⟨d1, _⟩ := RF.2 1 (by omega)
      obtain ⟨c2, f2⟩ := R1.2 2 (by omega)
      obtain ⟨d2, _⟩ := RF.2 2 (by omega)
      obtain ⟨c3, f3⟩ := R1.2 3 (by omega)
      obtain ⟨d3, _⟩ := RF.2 3 (by omega)
      obtain ⟨c4, f4⟩ := R1.2 4 (by omega)
      obtain ⟨d4, _⟩ := RF.2 4 (by omega)
      obtain ⟨c5, f5⟩ := R1.2 5 (by omega)
      obtain ⟨d5, _⟩ := RF.2 5 (by omega)
      obtain ⟨c6, f6⟩ := R1.2 6 (by omega)
      obtain ⟨d6, _⟩ := RF.2 6 (by omega)
      obtain ⟨c7, f7⟩ := R1.2 7 (by omega)
      obtain ⟨d7, _⟩ := RF.2 7 (by omega)
      clear R1 R2 RF HH
      go_wp2
      refine bodyPost_ret (v := arr8 (grpA a)) ?_ rfl ⟨rfl, ((((((((HB.setCell (by simp) _).setCell (by simp) _).setCell (by simp) _).setCell (by simp) _).setCell (by simp) _).setCell (by simp) _).setCell (by simp) _).setCell (by simp) _)⟩
      simp [results, Tryd.results39, go_sem, arr8, c0, c1, c2, c3, c4, c5, c6, c7]
end Go.Proofs.YtmapcllmiomelaaDoor
