/-
  Contract of join: the address that eight groups of 16 bits are. Condition: each group is one of 16 bits.
-/
import Derived.Test.YtmapcllmiomelaaDoorTextR
namespace Go.Proofs.YtmapcllmiomelaaDoor
open Go.RowKit Go.Joins

def Two (g a : Nat) (W : World) : Prop := W.cell? ⟨g, 0, none⟩ = some (.int .u64 (hi a : Nat)) ∧ W.cell? ⟨g, 1, none⟩ = some (.int .u64 (lo a : Nat)) ∧
  W.frozen? ⟨g, 0, none⟩ = false ∧ W.frozen? ⟨g, 1, none⟩ = false ∧ g < W.heap.size
theorem Two.step {g a : Nat} {W w2 : World} (h : Two g a W) (hb : Below W.heap.size W w2) : Two g a w2 := by
  obtain ⟨h1, h2, h3, h4, h5⟩ := h
  have z := hb.size
  exact ⟨keep_cell hb h1, keep_cell hb h2, keep_free hb h5 h3, keep_free hb h5 h4, by omega⟩
theorem two_new (V : World) (a : Nat) (t : TypeId) : Two V.heap.size a (V.alloc (.cells #[.int .u64 (hi a : Nat), .int .u64 (lo a : Nat)] t)) := by
  refine ⟨by simp, by simp, ?_, ?_, by simp⟩ <;> simp [go_sem]
theorem two_zero (V : World) (t : TypeId) : Two V.heap.size 0 (V.alloc (.cells #[.int .u64 0, .int .u64 0] t)) := two_new V 0 t
theorem Two.put {g a : Nat} {W : World} (h : Two g a W) (y : Nat) : Two g y ((W.setCell ⟨g, 0, none⟩ (.int .u64 (hi y : Nat))).setCell ⟨g, 1, none⟩ (.int .u64 (lo y : Nat))) := by
  obtain ⟨h1, h2, h3, h4, h5⟩ := h
  refine ⟨?_, ?_, ?_, ?_, by simp; exact h5⟩
  all_goals simp [go_sem, *]
theorem Two.set {g a : Nat} {W : World} (h : Two g a W) {p : Go.Addr} (hp : g ≠ p.block) (u : Value) : Two g a (W.setCell p u) := by
  obtain ⟨h1, h2, h3, h4, h5⟩ := h
  have k : ∀ o, (W.setCell p u).cell? ⟨g, o, none⟩ = W.cell? ⟨g, o, none⟩ := fun o => World.cell?_of_block (w := W) (Below.heap_setCell W p u g hp)
  have f : ∀ o, (W.setCell p u).frozen? ⟨g, o, none⟩ = W.frozen? ⟨g, o, none⟩ := fun o => World.frozen?_of_block (w := W) (Below.heap_setCell W p u g hp)
  exact ⟨by rw [k]; exact h1, by rw [k]; exact h2, by rw [f]; exact h3, by rw [f]; exact h4, by simp; exact h5⟩
theorem Two.low {g a : Nat} {W : World} (h : Two g a W) (y : Nat) (e : hi y = hi a) : Two g y (W.setCell ⟨g, 1, none⟩ (.int .u64 (lo y : Nat))) := by
  obtain ⟨h1, h2, h3, h4, h5⟩ := h
  refine ⟨?_, ?_, ?_, ?_, by simp; exact h5⟩
  all_goals simp [go_sem, *]

/-- the number of the first k groups -/
def part (g : Nat → Nat) : Nat → Nat
  | 0 => 0
  | k + 1 => part g k * 65536 + g k
theorem part_lt {g : Nat → Nat} (h : ∀ k, g k < 65536) : ∀ k, part g k < 65536 ^ k
  | 0 => by simp [part]
  | k + 1 => by
    have := part_lt h k
    have := h k
    rw [Nat.pow_succ]
    simp only [part]
    generalize 65536 ^ k = p at *
    omega
theorem part_small {g : Nat → Nat} (h : ∀ k, g k < 65536) {k : Nat} (hk : k < 8) : part g k < 5192296858534827628530496329220096 :=
  Nat.lt_of_lt_of_le (part_lt h k) (Nat.le_trans (Nat.pow_le_pow_right (by omega) (show k ≤ 7 by omega)) (by decide))
theorem up16_any {a : Nat} (h : a < 5192296858534827628530496329220096) (w : World) : Calls Tryd.prog 48 #[A a, .int .i64 16] w (Gives (A (a * 65536)) w) := by
  have := up_any (a := a) (by unfold Fits; omega) 16 (by unfold I63; omega) w
  rwa [show upS a (16 : Int).toNat = a * 65536 by unfold upS; rw [show (16 : Int).toNat = 16 from rfl]; omega] at this
theorem low16 {a g : Nat} (hg : g < 65536) : bits .or .u64 ((lo (a * 65536) : Nat) : Int) (g : Int) = ((lo (a * 65536 + g) : Nat) : Int) ∧ hi (a * 65536 + g) = hi (a * 65536) := by
  constructor
  · have e : lo (a * 65536) = 2 ^ 16 * (a % 281474976710656) := by unfold lo; omega
    rw [e, u64_or_nat _ _ (by omega) (by omega), ← Nat.two_pow_add_eq_or_of_lt (i := 16) (by omega)]
    congr 1
    unfold lo; omega
  · unfold hi; omega

def arr8 (g : Nat → Nat) : Value := .agg #[.int .u16 (g 0 : Nat), .int .u16 (g 1 : Nat), .int .u16 (g 2 : Nat), .int .u16 (g 3 : Nat), .int .u16 (g 4 : Nat), .int .u16 (g 5 : Nat), .int .u16 (g 6 : Nat), .int .u16 (g 7 : Nat)]
theorem ix8_0 (g0 g1 g2 g3 g4 g5 g6 g7 : Nat) (W : World) : (Instr.index 60 (.agg #[.int .u16 (g0 : Nat), .int .u16 (g1 : Nat), .int .u16 (g2 : Nat), .int .u16 (g3 : Nat), .int .u16 (g4 : Nat), .int .u16 (g5 : Nat), .int .u16 (g6 : Nat), .int .u16 (g7 : Nat)]) (.int .i64 0)).run Tryd.prog W = .ok (.int .u16 (g0 : Nat)) W := by kernel_rfl
theorem ix8_1 (g0 g1 g2 g3 g4 g5 g6 g7 : Nat) (W : World) : (Instr.index 60 (.agg #[.int .u16 (g0 : Nat), .int .u16 (g1 : Nat), .int .u16 (g2 : Nat), .int .u16 (g3 : Nat), .int .u16 (g4 : Nat), .int .u16 (g5 : Nat), .int .u16 (g6 : Nat), .int .u16 (g7 : Nat)]) (.int .i64 1)).run Tryd.prog W = .ok (.int .u16 (g1 : Nat)) W := by kernel_rfl
theorem ix8_2 (g0 g1 g2 g3 g4 g5 g6 g7 : Nat) (W : World) : (Instr.index 60 (.agg #[.int .u16 (g0 : Nat), .int .u16 (g1 : Nat), .int .u16 (g2 : Nat), .int .u16 (g3 : Nat), .int .u16 (g4 : Nat), .int .u16 (g5 : Nat), .int .u16 (g6 : Nat), .int .u16 (g7 : Nat)]) (.int .i64 2)).run Tryd.prog W = .ok (.int .u16 (g2 : Nat)) W := by kernel_rfl
theorem ix8_3 (g0 g1 g2 g3 g4 g5 g6 g7 : Nat) (W : World) : (Instr.index 60 (.agg #[.int .u16 (g0 : Nat), .int .u16 (g1 : Nat), .int .u16 (g2 : Nat), .int .u16 (g3 : Nat), .int .u16 (g4 : Nat), .int .u16 (g5 : Nat), .int .u16 (g6 : Nat), .int .u16 (g7 : Nat)]) (.int .i64 3)).run Tryd.prog W = .ok (.int .u16 (g3 : Nat)) W := by kernel_rfl
theorem ix8_4 (g0 g1 g2 g3 g4 g5 g6 g7 : Nat) (W : World) : (Instr.index 60 (.agg #[.int .u16 (g0 : Nat), .int .u16 (g1 : Nat), .int .u16 (g2 : Nat), .int .u16 (g3 : Nat), .int .u16 (g4 : Nat), .int .u16 (g5 : Nat), .int .u16 (g6 : Nat), .int .u16 (g7 : Nat)]) (.int .i64 4)).run Tryd.prog W = .ok (.int .u16 (g4 : Nat)) W := by kernel_rfl
theorem ix8_5 (g0 g1 g2 g3 g4 g5 g6 g7 : Nat) (W : World) : (Instr.index 60 (.agg #[.int .u16 (g0 : Nat), .int .u16 (g1 : Nat), .int .u16 (g2 : Nat), .int .u16 (g3 : Nat), .int .u16 (g4 : Nat), .int .u16 (g5 : Nat), .int .u16 (g6 : Nat), .int .u16 (g7 : Nat)]) (.int .i64 5)).run Tryd.prog W = .ok (.int .u16 (g5 : Nat)) W := by kernel_rfl
theorem ix8_6 (g0 g1 g2 g3 g4 g5 g6 g7 : Nat) (W : World) : (Instr.index 60 (.agg #[.int .u16 (g0 : Nat), .int .u16 (g1 : Nat), .int .u16 (g2 : Nat), .int .u16 (g3 : Nat), .int .u16 (g4 : Nat), .int .u16 (g5 : Nat), .int .u16 (g6 : Nat), .int .u16 (g7 : Nat)]) (.int .i64 6)).run Tryd.prog W = .ok (.int .u16 (g6 : Nat)) W := by kernel_rfl
theorem ix8_7 (g0 g1 g2 g3 g4 g5 g6 g7 : Nat) (W : World) : (Instr.index 60 (.agg #[.int .u16 (g0 : Nat), .int .u16 (g1 : Nat), .int .u16 (g2 : Nat), .int .u16 (g3 : Nat), .int .u16 (g4 : Nat), .int .u16 (g5 : Nat), .int .u16 (g6 : Nat), .int .u16 (g7 : Nat)]) (.int .i64 7)).run Tryd.prog W = .ok (.int .u16 (g7 : Nat)) W := by kernel_rfl
/-- the result's place and the number that is made -/
def HJ (w : World) (x : Nat) (W : World) : Prop := Below w.heap.size w W ∧ Two (w.heap.size + 1) 0 W ∧ Two (w.heap.size + 1 + 1) x W
theorem HJ.step {w : World} {x : Nat} {W w2 : World} (hb : Below W.heap.size W w2) (h : HJ w x W) : HJ w x w2 := ⟨h.1.trans (hb.mono h.1.size), h.2.1.step hb, h.2.2.step hb⟩
theorem hj_new (w : World) (cs : Array Value) (t u : TypeId) : HJ w 0 (((w.alloc (.cells cs t)).alloc (.cells #[.int .u64 0, .int .u64 0] u)).alloc (.cells #[.int .u64 0, .int .u64 0] u)) := by
  have hs : (w.alloc (.cells cs t)).heap.size = w.heap.size + 1 := by simp
  generalize hv : w.alloc (.cells cs t) = V at *
  have h3 := two_zero V u
  have h4 := two_zero (V.alloc (.cells #[.int .u64 0, .int .u64 0] u)) u
  rw [hs] at h3
  rw [show (V.alloc (.cells #[.int .u64 0, .int .u64 0] u)).heap.size = w.heap.size + 1 + 1 by simp [hs]] at h4
  have hb : Below w.heap.size w V := by rw [← hv]; exact below_alloc _ _
  exact ⟨(hb.alloc hb.size _).alloc (by simp; omega) _, h3.step (below_alloc _ _), h4⟩
theorem HJ.next {w : World} {x : Nat} {W : World} (h : HJ w x W) (y g : Nat) (hg : g < 65536) : HJ w (y * 65536 + g) (((W.setCell ⟨w.heap.size + 1 + 1, 0, none⟩ (.int .u64 (hi (y * 65536) : Nat))).setCell ⟨w.heap.size + 1 + 1, 1, none⟩ (.int .u64 (lo (y * 65536) : Nat))).setCell ⟨w.heap.size + 1 + 1, 1, none⟩ (.int .u64 (bits .or .u64 ((lo (y * 65536) : Nat) : Int) (g : Int)))) := by
  obtain ⟨h1, h2, h3⟩ := h
  rw [(low16 hg).1]
  exact ⟨((h1.setCell (by dsimp only; omega) _).setCell (by dsimp only; omega) _).setCell (by dsimp only; omega) _, ((h2.set (by dsimp only; omega) _).set (by dsimp only; omega) _).set (by dsimp only; omega) _, (h3.put (y * 65536)).low _ (low16 hg).2⟩

set_option maxRecDepth 100000 in
set_option maxHeartbeats 1000000 in
theorem join_any (g : Nat → Nat) (hg : ∀ k, g k < 65536) (w : World) :
    Calls Tryd.prog 30 #[arr8 g] w (Gives (A (part g 8)) w) := by
  have PG := hide (fun k (h : k < 8) => part_small hg (k := k) h)
  have H0 := hide (hg 0)
  have H1 := hide (hg 1)
  have H2 := hide (hg 2)
  have H3 := hide (hg 3)
  have H4 := hide (hg 4)
  have H5 := hide (hg 5)
  have H6 := hide (hg 6)
  have H7 := hide (hg 7)
  have S0 := hide (show part g (0 + 1) = part g 0 * 65536 + g 0 from rfl)
  have S1 := hide (show part g (1 + 1) = part g 1 * 65536 + g 1 from rfl)
  have S2 := hide (show part g (2 + 1) = part g 2 * 65536 + g 2 from rfl)
  have S3 := hide (show part g (3 + 1) = part g 3 * 65536 + g 3 from rfl)
  have S4 := hide (show part g (4 + 1) = part g 4 * 65536 + g 4 from rfl)
  have S5 := hide (show part g (5 + 1) = part g 5 * 65536 + g 5 from rfl)
  have S6 := hide (show part g (6 + 1) = part g 6 * 65536 + g 6 from rfl)
  have S7 := hide (show part g (7 + 1) = part g 7 * 65536 + g 7 from rfl)
  unfold arr8
  generalize g 0 = g0 at H0 S0 ⊢
  generalize g 1 = g1 at H1 S1 ⊢
  generalize g 2 = g2 at H2 S2 ⊢
  generalize g 3 = g3 at H3 S3 ⊢
  generalize g 4 = g4 at H4 S4 ⊢
  generalize g 5 = g5 at H5 S5 ⊢
  generalize g 6 = g6 at H6 S6 ⊢
  generalize g 7 = g7 at H7 S7 ⊢
  clear hg
  go_enter Tryd.func30, Tryd.ntmps30
  go_wp2_with fail
  go_loopw [8] (fun i wr => ∃ k x : Nat, k ≤ 8 ∧ i = .int .i64 (k : Nat) ∧ Hid (x = part g k) ∧ HJ w x wr) (fun i _ => 8 - (intOf i).toNat)
  case atStart => exact ⟨0, 0, by omega, rfl, hide rfl, hj_new w _ _ _⟩
  case round =>
    obtain ⟨k, x, hk, rfl, E, HH⟩ := hrel
    obtain ⟨HB, ⟨c0, c1, c2, c3, c4⟩, d0, d1, d2, d3, d4⟩ := id HH
    by_cases hlt : k < 8
    · have XS := hide (show x < 5192296858534827628530496329220096 by rw [E.out]; exact PG.out k hlt)
      have hkk : k = 0 ∨ k = 1 ∨ k = 2 ∨ k = 3 ∨ k = 4 ∨ k = 5 ∨ k = 6 ∨ k = 7 := by omega
      rcases hkk with rfl | rfl | rfl | rfl | rfl | rfl | rfl | rfl
      · have IX := ix8_0 g0 g1 g2 g3 g4 g5 g6 g7
        go_wp2_with fail
        refine (up16_any XS.out _).mono ?_
        rintro e w2 ⟨rfl, hb2⟩
        clear HB c0 c1 c2 c3 c4 d0 d1 d2 d3 d4
        have HF := HJ.step hb2 HH
        obtain ⟨HB, ⟨c0, c1, c2, c3, c4⟩, d0, d1, d2, d3, d4⟩ := id HF
        have gl : (g0 : Int) < 65536 := by have := H0.out; omega
        go_wp2
        go_roundw
        case rel => exact ⟨1, x * 65536 + g0, by omega, rfl, hide (by rw [E.out]; exact S0.out.symm), HF.next x g0 H0.out⟩
        case measure => simp [intOf]
      · have IX := ix8_1 g0 g1 g2 g3 g4 g5 g6 g7
        go_wp2_with fail
        refine (up16_any XS.out _).mono ?_
        rintro e w2 ⟨rfl, hb2⟩
        clear HB c0 c1 c2 c3 c4 d0 d1 d2 d3 d4
        have HF := HJ.step hb2 HH
        obtain ⟨HB, ⟨c0, c1, c2, c3, c4⟩, d0, d1, d2, d3, d4⟩ := id HF
        have gl : (g1 : Int) < 65536 := by have := H1.out; omega
        go_wp2
        go_roundw
        case rel => exact ⟨2, x * 65536 + g1, by omega, rfl, hide (by rw [E.out]; exact S1.out.symm), HF.next x g1 H1.out⟩
        case measure => simp [intOf]
      · have IX := ix8_2 g0 g1 g2 g3 g4 g5 g6 g7
        go_wp2_with fail
        refine (up16_any XS.out _).mono ?_
        rintro e w2 ⟨rfl, hb2⟩
        clear HB c0 c1 c2 c3 c4 d0 d1 d2 d3 d4
        have HF := HJ.step hb2 HH
        obtain ⟨HB, ⟨c0, c1, c2, c3, c4⟩, d0, d1, d2, d3, d4⟩ := id HF
        have gl : (g2 : Int) < 65536 := by have := H2.out; omega
        go_wp2
        go_roundw
        case rel => exact ⟨3, x * 65536 + g2, by omega, rfl, hide (by rw [E.out]; exact S2.out.symm), HF.next x g2 H2.out⟩
        case measure => simp [intOf]
      · have IX := ix8_3 g0 g1 g2 g3 g4 g5 g6 g7
        go_wp2_with fail
        refine (up16_any XS.out _).mono ?_
        rintro e w2 ⟨rfl, hb2⟩
        clear HB c0 c1 c2 c3 c4 d0 d1 d2 d3 d4
        have HF := HJ.step hb2 HH
        obtain ⟨HB, ⟨c0, c1, c2, c3, c4⟩, d0, d1, d2, d3, d4⟩ := id HF
        have gl : (g3 : Int) < 65536 := by have := H3.out; omega
        go_wp2
        go_roundw
        case rel => exact ⟨4, x * 65536 + g3, by omega, rfl, hide (by rw [E.out]; exact S3.out.symm), HF.next x g3 H3.out⟩
        case measure => simp [intOf]
      · have IX := ix8_4 g0 g1 g2 g3 g4 g5 g6 g7
        go_wp2_with fail
        refine (up16_any XS.out _).mono ?_
        rintro e w2 ⟨rfl, hb2⟩
        clear HB c0 c1 c2 c3 c4 d0 d1 d2 d3 d4
        have HF := HJ.step hb2 HH
        obtain ⟨HB, ⟨c0, c1, c2, c3, c4⟩, d0, d1, d2, d3, d4⟩ := id HF
        have gl : (g4 : Int) < 65536 := by have := H4.out; omega
        go_wp2
        go_roundw
        case rel => exact ⟨5, x * 65536 + g4, by omega, rfl, hide (by rw [E.out]; exact S4.out.symm), HF.next x g4 H4.out⟩
        case measure => simp [intOf]
      · have IX := ix8_5 g0 g1 g2 g3 g4 g5 g6 g7
        go_wp2_with fail
        refine (up16_any XS.out _).mono ?_
        rintro e w2 ⟨rfl, hb2⟩
        clear HB c0 c1 c2 c3 c4 d0 d1 d2 d3 d4
        have HF := HJ.step hb2 HH
        obtain ⟨HB, ⟨c0, c1, c2, c3, c4⟩, d0, d1, d2, d3, d4⟩ := id HF
        have gl : (g5 : Int) < 65536 := by have := H5.out; omega
        go_wp2
        go_roundw
        case rel => exact ⟨6, x * 65536 + g5, by omega, rfl, hide (by rw [E.out]; exact S5.out.symm), HF.next x g5 H5.out⟩
        case measure => simp [intOf]
      · have IX := ix8_6 g0 g1 g2 g3 g4 g5 g6 g7
        go_wp2_with fail
        refine (up16_any XS.out _).mono ?_
        rintro e w2 ⟨rfl, hb2⟩
        clear HB c0 c1 c2 c3 c4 d0 d1 d2 d3 d4
        have HF := HJ.step hb2 HH
        obtain ⟨HB, ⟨c0, c1, c2, c3, c4⟩, d0, d1, d2, d3, d4⟩ := id HF
        have gl : (g6 : Int) < 65536 := by have := H6.out; omega
        go_wp2
        go_roundw
        case rel => exact ⟨7, x * 65536 + g6, by omega, rfl, hide (by rw [E.out]; exact S6.out.symm), HF.next x g6 H6.out⟩
        case measure => simp [intOf]
      · have IX := ix8_7 g0 g1 g2 g3 g4 g5 g6 g7
        go_wp2_with fail
        refine (up16_any XS.out _).mono ?_
        rintro e w2 ⟨rfl, hb2⟩
        clear HB c0 c1 c2 c3 c4 d0 d1 d2 d3 d4
        have HF := HJ.step hb2 HH
        obtain ⟨HB, ⟨c0, c1, c2, c3, c4⟩, d0, d1, d2, d3, d4⟩ := id HF
        have gl : (g7 : Int) < 65536 := by have := H7.out; omega
        go_wp2
        go_roundw
        case rel => exact ⟨8, x * 65536 + g7, by omega, rfl, hide (by rw [E.out]; exact S7.out.symm), HF.next x g7 H7.out⟩
        case measure => simp [intOf]
    · have e : k = 8 := by omega
      subst e
      have hx : x = part g 8 := E.out
      subst hx
      go_wp2
      refine bodyPost_ret (v := A (part g 8)) ?_ rfl ⟨rfl, (HB.setCell (by simp) _).setCell (by simp) _⟩
      simp [results, Tryd.results30, go_sem, c0, c1]
end Go.Proofs.YtmapcllmiomelaaDoor
