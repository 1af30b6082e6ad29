/-
  The contracts of the laws' same and ias at values that are the same. Condition: a row takes at most 2^47 bytes.
-/
import Derived.Test.YtcpldojgmboipaaSxG
import Derived.BigQuiet
import Derived.Lib.Hide
namespace Go.Proofs.Ytcpldojgmboipaa
open Go.RowKit Go.Joins

def H2O (w : World) (va vb : Value) (l : List Opt) (W : World) : Prop := Below w.heap.size w W ∧ LstO va l W ∧ LstO vb l W
theorem H2O.step {w : World} {va vb : Value} {l : List Opt} {W w2 : World} (h : H2O w va vb l W) (hb : Below W.heap.size W w2) : H2O w va vb l w2 := ⟨chain h.1 hb, h.2.1.step hb, h.2.2.step hb⟩
theorem H2O.drew {w : World} {va vb : Value} {l : List Opt} {W : World} (h : H2O w va vb l W) : H2O w va vb l { W with drawn := W.drawn + 1 } := h.step (Below.refl _ _).drew
set_option maxRecDepth 100000 in
set_option maxHeartbeats 4000000 in
theorem same_yes {va vb : Value} {l : List Opt} (hl : l.length * 24 ≤ 140737488355328) (w : World) (ha : LstO va l w) (hb : LstO vb l w) :
    Calls Try.prog 12 #[va, vb] w (Gives (.bool true) w) := by
  obtain ⟨p, c, rfl⟩ := lstO_len ha
  obtain ⟨q, d, rfl⟩ := lstO_len hb
  have H0 : H2O w (.slice p l.length c) (.slice q l.length d) l w := ⟨Below.refl _ _, ha, hb⟩
  clear ha hb
  go_enter Try.func12, Try.ntmps12
  go_wp2
  go_loopw [5] (fun i wr => ∃ k : Nat, k ≤ l.length ∧ i = .int .i64 (k : Nat) ∧ H2O w (.slice p l.length c) (.slice q l.length d) l wr) (fun i _ => l.length - (intOf i).toNat)
  case atStart => exact ⟨0, Nat.zero_le _, rfl, H0⟩
  case round =>
    obtain ⟨k, hk, rfl, HH⟩ := hrel
    clear H0
    by_cases hlt : k < l.length
    · obtain ⟨x, hx⟩ := getO_some hlt
      obtain ⟨b, o, rfl, _, _⟩ := lstO_at HH.2.1 hx
      obtain ⟨b2, o2, rfl, _, _⟩ := lstO_at HH.2.2 hx
      have c1 := (lstO_cap HH.2.1).2.1
      have c2 := (lstO_cap HH.2.2).2.1
      have RX := hide (fun W (H : H2O w (.slice (some ⟨b, o, none⟩) l.length c) (.slice (some ⟨b2, o2, none⟩) l.length d) l W) => lstO_at H.2.1 hx)
      have RY := hide (fun W (H : H2O w (.slice (some ⟨b, o, none⟩) l.length c) (.slice (some ⟨b2, o2, none⟩) l.length d) l W) => lstO_at H.2.2 hx)
      clear hx
      go_wp2_with fail
      refine wp_region_quiet (C := H2O w (.slice (some ⟨b, o, none⟩) l.length c) (.slice (some ⟨b2, o2, none⟩) l.length d) l) (by kernel_rfl) (by kernel_rfl) HH.drew (wpQuiet_step (fun K0 hK0 => ?_))
      go_simp
      first | (with_reducible refine hK0 _ (wpQuiet_step (fun K1 hK1 => ?_))) | (with_reducible refine ⟨_, fun _ _ => rfl, hK0 _ (wpQuiet_step (fun K1 hK1 => ?_))⟩) | (rw [if_neg (by intro e; cases e)]; with_reducible refine hK0 _ (wpQuiet_step (fun K1 hK1 => ?_)))
      clear hK0 K0
      go_simp
      first | (with_reducible refine hK1 _ (wpQuiet_step (fun K0 hK0 => ?_))) | (with_reducible refine ⟨_, fun _ _ => rfl, hK1 _ (wpQuiet_step (fun K0 hK0 => ?_))⟩) | (rw [if_neg (by intro e; cases e)]; with_reducible refine hK1 _ (wpQuiet_step (fun K0 hK0 => ?_)))
      clear hK1 K1
      go_simp
      first | (with_reducible refine hK0 _ (wpQuiet_step (fun K1 hK1 => ?_))) | (with_reducible refine ⟨_, fun _ _ => rfl, hK0 _ (wpQuiet_step (fun K1 hK1 => ?_))⟩) | (rw [if_neg (by intro e; cases e)]; with_reducible refine hK0 _ (wpQuiet_step (fun K1 hK1 => ?_)))
      clear hK0 K0
      go_simp
      refine ⟨OV x, fun W hW => ?_, hK1 _ (wpQuiet_step (fun K0 hK0 => ?_))⟩
      · ((obtain ⟨_, _, e, _, u0, u1⟩ := RX.out W hW; cases e; simp [go_sem, u0, u1]))
      clear hK1 K1
      go_simp
      first | (with_reducible refine hK0 _ (wpQuiet_step (fun K1 hK1 => ?_))) | (with_reducible refine ⟨_, fun _ _ => rfl, hK0 _ (wpQuiet_step (fun K1 hK1 => ?_))⟩) | (rw [if_neg (by intro e; cases e)]; with_reducible refine hK0 _ (wpQuiet_step (fun K1 hK1 => ?_)))
      clear hK0 K0
      go_simp
      first | (with_reducible refine hK1 _ (wpQuiet_step (fun K0 hK0 => ?_))) | (with_reducible refine ⟨_, fun _ _ => rfl, hK1 _ (wpQuiet_step (fun K0 hK0 => ?_))⟩) | (rw [if_neg (by intro e; cases e)]; with_reducible refine hK1 _ (wpQuiet_step (fun K0 hK0 => ?_)))
      clear hK1 K1
      go_simp
      first | (with_reducible refine hK0 _ (wpQuiet_step (fun K1 hK1 => ?_))) | (with_reducible refine ⟨_, fun _ _ => rfl, hK0 _ (wpQuiet_step (fun K1 hK1 => ?_))⟩) | (rw [if_neg (by intro e; cases e)]; with_reducible refine hK0 _ (wpQuiet_step (fun K1 hK1 => ?_)))
      clear hK0 K0
      go_simp
      refine ⟨OV x, fun W hW => ?_, hK1 _ (wpQuiet_step (fun K0 hK0 => ?_))⟩
      · ((obtain ⟨_, _, e, _, u0, u1⟩ := RY.out W hW; cases e; simp [go_sem, u0, u1]))
      clear hK1 K1
      go_simp
      first | (with_reducible refine hK0 _ (wpQuiet_nil ?_)) | (with_reducible refine ⟨_, fun _ _ => rfl, hK0 _ (wpQuiet_nil ?_)⟩) | (rw [if_neg (by intro e; cases e)]; with_reducible refine hK0 _ (wpQuiet_nil ?_))
      clear hK0 K0
      intro w2 H2
      go_wp2
      go_roundw
      case rel => exact ⟨k + 1, hlt, by go_num, H2⟩
      case measure => simp [intOf]; omega
    · go_wp2
      go_ret
      exact ⟨rfl, HH.1⟩
def H2I (w : World) (ba bb : Nat) (a : IA) (va vb : Value) (W : World) : Prop := Below w.heap.size w W ∧ Bx ba 37 (cellsA a va) W ∧ Bx bb 37 (cellsA a vb) W ∧ LstI va a.has W ∧ LstI vb a.has W
theorem H2I.step {w : World} {ba bb : Nat} {a : IA} {va vb : Value} {W w2 : World} (h : H2I w ba bb a va vb W) (hb : Below W.heap.size W w2) : H2I w ba bb a va vb w2 := ⟨chain h.1 hb, h.2.1.step hb, h.2.2.1.step hb, h.2.2.2.1.step hb, h.2.2.2.2.step hb⟩
theorem H2I.drew {w : World} {ba bb : Nat} {a : IA} {va vb : Value} {W : World} (h : H2I w ba bb a va vb W) : H2I w ba bb a va vb { W with drawn := W.drawn + 1 } := h.step (Below.refl _ _).drew
set_option maxRecDepth 100000 in
set_option maxHeartbeats 8000000 in
theorem ias_yes (a : IA) {va vb : Value} (hl : a.has.length * 40 ≤ 140737488355328) (w : World) (ha : LstI va a.has w) (hb : LstI vb a.has w) :
    Calls Try.prog 25 #[AV a va, AV a vb] w (Gives (.bool true) w) := by
  obtain ⟨p, c, rfl⟩ := lstI_len ha
  obtain ⟨q, d, rfl⟩ := lstI_len hb
  have A0 := bx_new w 37 (cellsA a (.slice p a.has.length c))
  have D1 := below_alloc w (.cells (cellsA a (.slice p a.has.length c)) 37)
  have B0 := bx_new (w.alloc (.cells (cellsA a (.slice p a.has.length c)) 37)) 37 (cellsA a (.slice q a.has.length d))
  have D2 := below_alloc (w.alloc (.cells (cellsA a (.slice p a.has.length c)) 37)) (.cells (cellsA a (.slice q a.has.length d)) 37)
  have H0 := hide (show H2I w w.heap.size (w.alloc (.cells (cellsA a (.slice p a.has.length c)) 37)).heap.size a (.slice p a.has.length c) (.slice q a.has.length d) _ from ⟨chain D1 D2, A0.step D2, B0, (ha.step D1).step D2, (hb.step D1).step D2⟩)
  clear A0 B0 D1 D2 ha hb
  go_enter Try.func25, Try.ntmps25
  go_wp2_with fail
  have HA : (w.alloc (.cells (cellsA a (.slice p a.has.length c)) 37)).heap.size = w.heap.size + 1 := by simp
  rw [HA] at H0
  generalize hW : (w.alloc (.cells (cellsA a (.slice p a.has.length c)) 37)).alloc (.cells (cellsA a (.slice q a.has.length d)) 37) = W0 at *
  clear hW HA
  generalize w.heap.size + 1 = bb at *
  generalize hw : w.heap.size = ba at *
  have H1 := H0.out
  clear H0
  go_loopw [5] (fun i wr => ∃ k : Nat, k ≤ a.has.length ∧ i = .int .i64 (k : Nat) ∧ H2I w ba bb a (.slice p a.has.length c) (.slice q a.has.length d) wr) (fun i _ => a.has.length - (intOf i).toNat)
  case atStart => exact ⟨0, Nat.zero_le _, rfl, H1⟩
  case round =>
    obtain ⟨k, hk, rfl, HH⟩ := hrel
    clear H1
    have A4 := hide (fun W (h : H2I w ba bb a (.slice p a.has.length c) (.slice q a.has.length d) W) => (show W.cell? ⟨ba, 4, none⟩ = some (.slice p a.has.length c) from h.2.1.cell 4))
    have B4 := hide (fun W (h : H2I w ba bb a (.slice p a.has.length c) (.slice q a.has.length d) W) => (show W.cell? ⟨bb, 4, none⟩ = some (.slice q a.has.length d) from h.2.2.1.cell 4))
    have c4 := A4.out _ HH
    by_cases hlt : k < a.has.length
    · obtain ⟨x, hx⟩ := getI_some hlt
      obtain ⟨e1, o1, rfl, _, _⟩ := lstI_at HH.2.2.2.1 hx
      obtain ⟨e2, o2, rfl, _, _⟩ := lstI_at HH.2.2.2.2 hx
      have RX := hide (fun W (H : H2I w ba bb a (.slice (some ⟨e1, o1, none⟩) a.has.length c) (.slice (some ⟨e2, o2, none⟩) a.has.length d) W) => lstI_at H.2.2.2.1 hx)
      have RY := hide (fun W (H : H2I w ba bb a (.slice (some ⟨e1, o1, none⟩) a.has.length c) (.slice (some ⟨e2, o2, none⟩) a.has.length d) W) => lstI_at H.2.2.2.2 hx)
      have c1 := (lstI_cap HH.2.2.2.1).2.1
      have c2 := (lstI_cap HH.2.2.2.2).2.1
      clear hx
      go_wp2_with fail
      refine wp_region_quiet (C := H2I w ba bb a (.slice (some ⟨e1, o1, none⟩) a.has.length c) (.slice (some ⟨e2, o2, none⟩) a.has.length d)) (by kernel_rfl) (by kernel_rfl) HH.drew (wpQuiet_step (fun K0 hK0 => ?_))
      go_simp
      first | (with_reducible refine hK0 _ (wpQuiet_step (fun K1 hK1 => ?_))) | (with_reducible refine ⟨_, fun _ _ => rfl, hK0 _ (wpQuiet_step (fun K1 hK1 => ?_))⟩) | (rw [if_neg (by intro e; cases e)]; with_reducible refine hK0 _ (wpQuiet_step (fun K1 hK1 => ?_)))
      clear hK0 K0
      go_simp
      refine ⟨.slice (some ⟨e1, o1, none⟩) a.has.length c, fun W hW => ?_, hK1 _ (wpQuiet_step (fun K0 hK0 => ?_))⟩
      · ((simp [go_sem, A4.out W hW]))
      clear hK1 K1
      go_simp
      first | (with_reducible refine hK0 _ (wpQuiet_step (fun K1 hK1 => ?_))) | (with_reducible refine ⟨_, fun _ _ => rfl, hK0 _ (wpQuiet_step (fun K1 hK1 => ?_))⟩) | (rw [if_neg (by intro e; cases e)]; with_reducible refine hK0 _ (wpQuiet_step (fun K1 hK1 => ?_)))
      clear hK0 K0
      go_simp
      first | (with_reducible refine hK1 _ (wpQuiet_step (fun K0 hK0 => ?_))) | (with_reducible refine ⟨_, fun _ _ => rfl, hK1 _ (wpQuiet_step (fun K0 hK0 => ?_))⟩) | (rw [if_neg (by intro e; cases e)]; with_reducible refine hK1 _ (wpQuiet_step (fun K0 hK0 => ?_)))
      clear hK1 K1
      go_simp
      refine ⟨IV x, fun W hW => ?_, hK0 _ (wpQuiet_step (fun K1 hK1 => ?_))⟩
      · ((obtain ⟨_, _, e, _, hat⟩ := RX.out W hW; cases e; obtain ⟨u0, u1, u2, u3, u4, u5⟩ := hat.cells; simp [go_sem, u0, u1, u2, u3, u4, u5]))
      clear hK0 K0
      go_simp
      first | (with_reducible refine hK1 _ (wpQuiet_step (fun K0 hK0 => ?_))) | (with_reducible refine ⟨_, fun _ _ => rfl, hK1 _ (wpQuiet_step (fun K0 hK0 => ?_))⟩) | (rw [if_neg (by intro e; cases e)]; with_reducible refine hK1 _ (wpQuiet_step (fun K0 hK0 => ?_)))
      clear hK1 K1
      go_simp
      refine ⟨.slice (some ⟨e2, o2, none⟩) a.has.length d, fun W hW => ?_, hK0 _ (wpQuiet_step (fun K1 hK1 => ?_))⟩
      · ((simp [go_sem, B4.out W hW]))
      clear hK0 K0
      go_simp
      first | (with_reducible refine hK1 _ (wpQuiet_step (fun K0 hK0 => ?_))) | (with_reducible refine ⟨_, fun _ _ => rfl, hK1 _ (wpQuiet_step (fun K0 hK0 => ?_))⟩) | (rw [if_neg (by intro e; cases e)]; with_reducible refine hK1 _ (wpQuiet_step (fun K0 hK0 => ?_)))
      clear hK1 K1
      go_simp
      first | (with_reducible refine hK0 _ (wpQuiet_step (fun K1 hK1 => ?_))) | (with_reducible refine ⟨_, fun _ _ => rfl, hK0 _ (wpQuiet_step (fun K1 hK1 => ?_))⟩) | (rw [if_neg (by intro e; cases e)]; with_reducible refine hK0 _ (wpQuiet_step (fun K1 hK1 => ?_)))
      clear hK0 K0
      go_simp
      refine ⟨IV x, fun W hW => ?_, hK1 _ (wpQuiet_step (fun K0 hK0 => ?_))⟩
      · ((obtain ⟨_, _, e, _, hat⟩ := RY.out W hW; cases e; obtain ⟨u0, u1, u2, u3, u4, u5⟩ := hat.cells; simp [go_sem, u0, u1, u2, u3, u4, u5]))
      clear hK1 K1
      go_simp
      first | (with_reducible refine hK0 _ (wpQuiet_nil ?_)) | (with_reducible refine ⟨_, fun _ _ => rfl, hK0 _ (wpQuiet_nil ?_)⟩) | (rw [if_neg (by intro e; cases e)]; with_reducible refine hK0 _ (wpQuiet_nil ?_))
      clear hK0 K0
      intro w2 H2
      go_wp2
      go_roundw
      case rel => exact ⟨k + 1, hlt, by go_num, H2⟩
      case measure => simp [intOf]; omega
    · go_wp2
      go_ret
      exact ⟨rfl, HH.1⟩
end Go.Proofs.Ytcpldojgmboipaa
