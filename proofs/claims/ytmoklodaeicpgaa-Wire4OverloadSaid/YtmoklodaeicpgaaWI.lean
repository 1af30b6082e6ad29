/-
  The contract of the law's same, at two messages that are the same. Condition: a row of options takes at most 2^47 bytes.
-/
import Derived.Test.YtmoklodaeicpgaaWG
import Derived.BigQuiet
import Derived.Lib.Hide
namespace Go.Proofs.Ytmoklodaeicpgaa
open Go.RowKit Go.Joins

/-- two messages in boxes -/
def H2M (w : World) (a b : Nat) (m : Hd) (va vb : Value) (l : List Opt) (W : World) : Prop := Below w.heap.size w W ∧ BoxM a m va W ∧ BoxM b m vb W ∧ LstO va l W ∧ LstO vb l W
theorem H2M.step {w : World} {a b : Nat} {m : Hd} {va vb : Value} {l : List Opt} {W w2 : World} (h : H2M w a b m va vb l W) (hb : Below W.heap.size W w2) : H2M w a b m va vb l w2 := ⟨chain h.1 hb, h.2.1.step hb, h.2.2.1.step hb, h.2.2.2.1.step hb, h.2.2.2.2.step hb⟩
theorem H2M.drew {w : World} {a b : Nat} {m : Hd} {va vb : Value} {l : List Opt} {W : World} (h : H2M w a b m va vb l W) : H2M w a b m va vb l { W with drawn := W.drawn + 1 } := h.step (Below.refl _ _).drew
theorem BoxM.all {b : Nat} {m : Hd} {v : Value} {W : World} (h : BoxM b m v W) (k : Nat) : W.cell? ⟨b, k, none⟩ = (cellsM m v)[k]? := cell_at h k
set_option maxRecDepth 100000 in
set_option maxHeartbeats 8000000 in
theorem same_yes (m : Hd) {va vb : Value} {l : List Opt} (hl : l.length * 24 ≤ 140737488355328) (w : World) (ha : LstO va l w) (hb : LstO vb l w) :
    Calls Try.prog 9 #[MV m va, MV m vb] w (Gives (.bool true) w) := by
  obtain ⟨p, c, rfl⟩ := lstO_len ha
  obtain ⟨q, d, rfl⟩ := lstO_len hb
  have A0 := box_new w m (.slice p l.length c)
  have B0 := box_new (w.alloc (.cells (cellsM m (.slice p l.length c)) 26)) m (.slice q l.length d)
  have D1 := below_alloc w (.cells (cellsM m (.slice p l.length c)) 26)
  have D2 := below_alloc (w.alloc (.cells (cellsM m (.slice p l.length c)) 26)) (.cells (cellsM m (.slice q l.length d)) 26)
  have H0 := hide (show H2M w w.heap.size (w.alloc (.cells (cellsM m (.slice p l.length c)) 26)).heap.size m (.slice p l.length c) (.slice q l.length d) l _ from ⟨D1.trans (D2.mono D1.size), A0.step D2, B0, (ha.step D1).step D2, (hb.step D1).step D2⟩)
  clear A0 B0 D1 D2 ha hb
  go_enter Try.func9, Try.ntmps9
  go_wp2_with fail
  have HA : (w.alloc (.cells (cellsM m (.slice p l.length c)) 26)).heap.size = w.heap.size + 1 := by simp
  rw [HA] at H0
  generalize hW : (w.alloc (.cells (cellsM m (.slice p l.length c)) 26)).alloc (.cells (cellsM m (.slice q l.length d)) 26) = W0 at *
  clear hW HA
  generalize w.heap.size + 1 = b at *
  generalize hw : w.heap.size = a at *
  have H1 := H0.out
  clear H0
  go_loopw [5] (fun i wr => ∃ k : Nat, k ≤ l.length ∧ i = .int .i64 (k : Nat) ∧ H2M w a b m (.slice p l.length c) (.slice q l.length d) l wr) (fun i _ => l.length - (intOf i).toNat)
  case atStart => exact ⟨0, Nat.zero_le _, rfl, H1⟩
  case round =>
    obtain ⟨k, hk, rfl, HH⟩ := hrel
    clear H1
    have A14 : ∀ W, H2M w a b m (.slice p l.length c) (.slice q l.length d) l W → W.cell? ⟨a, 14, none⟩ = some (.slice p l.length c) := fun W h => h.2.1.all 14
    have B14 : ∀ W, H2M w a b m (.slice p l.length c) (.slice q l.length d) l W → W.cell? ⟨b, 14, none⟩ = some (.slice q l.length d) := fun W h => h.2.2.1.all 14
    have A14 := hide A14
    have B14 := hide B14
    have c14 := A14.out _ HH
    by_cases hlt : k < l.length
    · obtain ⟨x, hx⟩ := getO_some hlt
      obtain ⟨e1, o1, rfl, _, x1, x2⟩ := lstO_at HH.2.2.2.1 hx
      obtain ⟨e2, o2, rfl, _, y1, y2⟩ := lstO_at HH.2.2.2.2 hx
      have RX := hide (fun W (H : H2M w a b m (.slice (some ⟨e1, o1, none⟩) l.length c) (.slice (some ⟨e2, o2, none⟩) l.length d) l W) => lstO_at H.2.2.2.1 hx)
      have RY := hide (fun W (H : H2M w a b m (.slice (some ⟨e1, o1, none⟩) l.length c) (.slice (some ⟨e2, o2, none⟩) l.length d) l W) => lstO_at H.2.2.2.2 hx)
      have c1 := (lstO_cap HH.2.2.2.1).2.1
      have c2 := (lstO_cap HH.2.2.2.2).2.1
      clear hx x1 x2 y1 y2
      go_wp2_with fail
      refine wp_region_quiet (C := H2M w a b m (.slice (some ⟨e1, o1, none⟩) l.length c) (.slice (some ⟨e2, o2, none⟩) l.length d) l) (by kernel_rfl) (by kernel_rfl) HH.drew (wpQuiet_step (fun K0 hK0 => ?_))
      go_simp
      first | (with_reducible refine hK0 _ (wpQuiet_step (fun K1 hK1 => ?_))) | (with_reducible refine ⟨_, fun _ _ => rfl, hK0 _ (wpQuiet_step (fun K1 hK1 => ?_))⟩) | (rw [if_neg (by intro e; cases e)]; with_reducible refine hK0 _ (wpQuiet_step (fun K1 hK1 => ?_)))
      clear hK0 K0
      go_simp
      refine ⟨.slice (some ⟨e1, o1, none⟩) l.length c, fun W hW => ?_, hK1 _ (wpQuiet_step (fun K0 hK0 => ?_))⟩
      · ((simp [go_sem, A14.out W hW]))
      clear hK1 K1
      go_simp
      first | (with_reducible refine hK0 _ (wpQuiet_step (fun K1 hK1 => ?_))) | (with_reducible refine ⟨_, fun _ _ => rfl, hK0 _ (wpQuiet_step (fun K1 hK1 => ?_))⟩) | (rw [if_neg (by intro e; cases e)]; with_reducible refine hK0 _ (wpQuiet_step (fun K1 hK1 => ?_)))
      clear hK0 K0
      go_simp
      first | (with_reducible refine hK1 _ (wpQuiet_step (fun K0 hK0 => ?_))) | (with_reducible refine ⟨_, fun _ _ => rfl, hK1 _ (wpQuiet_step (fun K0 hK0 => ?_))⟩) | (rw [if_neg (by intro e; cases e)]; with_reducible refine hK1 _ (wpQuiet_step (fun K0 hK0 => ?_)))
      clear hK1 K1
      go_simp
      refine ⟨OV x, fun W hW => ?_, hK0 _ (wpQuiet_step (fun K1 hK1 => ?_))⟩
      · ((obtain ⟨_, _, e, _, u0, u1⟩ := RX.out W hW; cases e; simp [go_sem, u0, u1]))
      clear hK0 K0
      go_simp
      first | (with_reducible refine hK1 _ (wpQuiet_step (fun K0 hK0 => ?_))) | (with_reducible refine ⟨_, fun _ _ => rfl, hK1 _ (wpQuiet_step (fun K0 hK0 => ?_))⟩) | (rw [if_neg (by intro e; cases e)]; with_reducible refine hK1 _ (wpQuiet_step (fun K0 hK0 => ?_)))
      clear hK1 K1
      go_simp
      refine ⟨.slice (some ⟨e2, o2, none⟩) l.length d, fun W hW => ?_, hK0 _ (wpQuiet_step (fun K1 hK1 => ?_))⟩
      · ((simp [go_sem, B14.out W hW]))
      clear hK0 K0
      go_simp
      first | (with_reducible refine hK1 _ (wpQuiet_step (fun K0 hK0 => ?_))) | (with_reducible refine ⟨_, fun _ _ => rfl, hK1 _ (wpQuiet_step (fun K0 hK0 => ?_))⟩) | (rw [if_neg (by intro e; cases e)]; with_reducible refine hK1 _ (wpQuiet_step (fun K0 hK0 => ?_)))
      clear hK1 K1
      go_simp
      first | (with_reducible refine hK0 _ (wpQuiet_step (fun K1 hK1 => ?_))) | (with_reducible refine ⟨_, fun _ _ => rfl, hK0 _ (wpQuiet_step (fun K1 hK1 => ?_))⟩) | (rw [if_neg (by intro e; cases e)]; with_reducible refine hK0 _ (wpQuiet_step (fun K1 hK1 => ?_)))
      clear hK0 K0
      go_simp
      refine ⟨OV x, fun W hW => ?_, hK1 _ (wpQuiet_step (fun K0 hK0 => ?_))⟩
      · ((obtain ⟨_, _, e, _, u0, u1⟩ := RY.out W hW; cases e; simp [go_sem, u0, u1]))
      clear hK1 K1
      go_simp
      first | (with_reducible refine hK0 _ (wpQuiet_nil ?_)) | (with_reducible refine ⟨_, fun _ _ => rfl, hK0 _ (wpQuiet_nil ?_)⟩) | (rw [if_neg (by intro e; cases e)]; with_reducible refine hK0 _ (wpQuiet_nil ?_))
      clear hK0 K0
      intro w2 H2
      go_wp2
      go_roundw
      case rel => exact ⟨k + 1, hlt, by go_num, H2⟩
      case measure => simp [intOf]; omega
    · go_wp2
      go_ret
      exact ⟨rfl, HH.1⟩
end Go.Proofs.Ytmoklodaeicpgaa
