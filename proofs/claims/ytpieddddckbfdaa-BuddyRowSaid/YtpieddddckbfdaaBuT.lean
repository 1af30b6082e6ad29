/-
  Contracts of closest and Take. Conditions: the words are words of 64 bits, an int is an int of 64 bits; at most 100000 prefixes.
-/
import Derived.Test.YtpieddddckbfdaaBuW
namespace Go.Proofs.Ytpieddddckbfdaa
open Go.RowKit Go.Joins

def bestI : Option Nat → Int
  | none => -1
  | some j => (j : Int)
theorem best_no {l : List Bk} {bits : Int} {k : Nat} {x : Bk} (hx : l[k]? = some x) (h : ¬ x.2 ≤ bits) : bestL l bits (k + 1) = bestL l bits k := by
  rw [bestL, if_neg]
  unfold better
  rw [getD_some hx, decide_eq_false h, Bool.false_and]
  decide
theorem best_first {l : List Bk} {bits : Int} {k : Nat} {x : Bk} (hx : l[k]? = some x) (h : x.2 ≤ bits) (hn : bestL l bits k = none) : bestL l bits (k + 1) = some k := by
  rw [bestL, if_pos]
  unfold better
  rw [getD_some hx, decide_eq_true h, hn]
  rfl
theorem best_next {l : List Bk} {bits : Int} {k j : Nat} {x y : Bk} (hx : l[k]? = some x) (hy : l[j]? = some y) (h : x.2 ≤ bits) (hn : bestL l bits k = some j) : bestL l bits (k + 1) = if y.2 < x.2 then some k else some j := by
  rw [bestL]
  unfold better
  rw [getD_some hx, decide_eq_true h, hn]
  simp only [getD_some hy, Bool.true_and, decide_eq_true_iff]
/-- what the region of closest keeps -/
def HC3 (w : World) (g : Nat) (x : Bk) (v : Value) (l : List Bk) (W : World) : Prop := Below w.heap.size w W ∧ Box g x W ∧ Lst v l W
theorem HC3.step {w : World} {g : Nat} {x : Bk} {v : Value} {l : List Bk} {W w2 : World} (h : HC3 w g x v l W) (hb : Below W.heap.size W w2) : HC3 w g x v l w2 := ⟨h.1.trans (hb.mono h.1.size), h.2.1.step hb, h.2.2.step hb⟩
theorem HC3.drew {w : World} {g : Nat} {x : Bk} {v : Value} {l : List Bk} {W : World} (h : HC3 w g x v l W) : HC3 w g x v l { W with drawn := W.drawn + 1 } := h.step (Below.refl _ _).drew
set_option maxRecDepth 100000 in
set_option maxHeartbeats 1000000 in
theorem closest_any {v : Value} {l : List Bk} (hl : l.length ≤ 1000000) (bits : Int) (w : World) (hv : Lst v l w) :
    Calls Try.prog 33 #[v, .int .i64 bits] w (Gives (.int .i64 (bestI (bestL l bits l.length))) w) := by
  have HN : Below w.heap.size w w := Below.refl _ _
  have HV := hide (fun W (H : Below w.heap.size w W) => hv.step H)
  obtain ⟨q, c, rfl⟩ := lst_len hv
  clear hv
  go_enter Try.func33, Try.ntmps33
  go_wp2
  go_loopw [5, 10] (fun s i wr => ∃ k : Nat, k ≤ l.length ∧ i = .int .i64 (k : Nat) ∧ s = .int .i64 (bestI (bestL l bits k)) ∧ Below w.heap.size w wr) (fun _ i _ => l.length - (intOf i).toNat)
  case atStart => exact ⟨0, Nat.zero_le _, rfl, rfl, HN⟩
  case round =>
    obtain ⟨k, hk, rfl, rfl, HB⟩ := hrel
    clear HN
    by_cases hlt : k < l.length
    · obtain ⟨x, hx⟩ := get_some hlt
      obtain ⟨b, o, rfl, _, x1, x2, x3⟩ := lst_at (HV.out _ HB) hx
      have F0 : HC3 w wr.heap.size x (.slice (some ⟨b, o, none⟩) l.length c) l (wr.alloc (.cells #[.int .u64 (hi x.1 : Nat), .int .u64 (lo x.1 : Nat), .int .i64 x.2] 26)) := ⟨chain HB (below_alloc _ _), box_new _ _ _, (HV.out _ HB).step (below_alloc _ _)⟩
      by_cases P : x.2 ≤ bits
      · cases hb : bestL l bits k with
        | none =>
          have R := hide (best_first hx P hb)
          rw [show bestI none = -1 from rfl]
          clear hx hb
          go_wp2_with fail
          clear x1 x2 x3
          generalize wr.heap.size = g at F0 ⊢
          refine wp_region_quiet (C := HC3 w g x (.slice (some ⟨b, o, none⟩) l.length c) l) (by kernel_rfl) (by kernel_rfl) F0.drew (wpQuiet_step (fun K0 hK0 => ?_))
          go_simp
          first | (with_reducible refine hK0 _ (wpQuiet_step (fun K1 hK1 => ?_))) | (with_reducible refine ⟨_, fun _ _ => rfl, hK0 _ (wpQuiet_step (fun K1 hK1 => ?_))⟩) | (rw [if_neg (by intro e; cases e)]; with_reducible refine hK0 _ (wpQuiet_step (fun K1 hK1 => ?_)))
          clear hK0 K0
          go_simp
          refine ⟨.int .i64 x.2, fun W hW => ?_, hK1 _ (wpQuiet_step (fun K0 hK0 => ?_))⟩
          · ((obtain ⟨_, ⟨_, ⟨u0, u1, u2⟩, _⟩, _⟩ := hW; simp [go_sem, u2]))
          clear hK1 K1
          go_simp
          first | (with_reducible refine hK0 _ (wpQuiet_step (fun K1 hK1 => ?_))) | (with_reducible refine ⟨_, fun _ _ => rfl, hK0 _ (wpQuiet_step (fun K1 hK1 => ?_))⟩) | (rw [if_neg (by intro e; cases e)]; with_reducible refine hK0 _ (wpQuiet_step (fun K1 hK1 => ?_)))
          clear hK0 K0
          go_simp
          first | (with_reducible refine hK1 _ (wpQuiet_step (fun K0 hK0 => ?_))) | (with_reducible refine ⟨_, fun _ _ => rfl, hK1 _ (wpQuiet_step (fun K0 hK0 => ?_))⟩) | (rw [if_neg (by intro e; cases e)]; with_reducible refine hK1 _ (wpQuiet_step (fun K0 hK0 => ?_)))
          clear hK1 K1
          go_simp
          first | (with_reducible refine hK0 _ (wpQuiet_step (fun K1 hK1 => ?_))) | (with_reducible refine ⟨_, fun _ _ => rfl, hK0 _ (wpQuiet_step (fun K1 hK1 => ?_))⟩) | (rw [if_neg (by intro e; cases e)]; with_reducible refine hK0 _ (wpQuiet_step (fun K1 hK1 => ?_)))
          clear hK0 K0
          go_simp
          first | (with_reducible refine hK1 _ (wpQuiet_step (fun K0 hK0 => ?_))) | (with_reducible refine ⟨_, fun _ _ => rfl, hK1 _ (wpQuiet_step (fun K0 hK0 => ?_))⟩) | (rw [if_neg (by intro e; cases e)]; with_reducible refine hK1 _ (wpQuiet_step (fun K0 hK0 => ?_)))
          clear hK1 K1
          go_simp
          first | (with_reducible refine hK0 _ (wpQuiet_step (fun K1 hK1 => ?_))) | (with_reducible refine ⟨_, fun _ _ => rfl, hK0 _ (wpQuiet_step (fun K1 hK1 => ?_))⟩) | (rw [if_neg (by intro e; cases e)]; with_reducible refine hK0 _ (wpQuiet_step (fun K1 hK1 => ?_)))
          clear hK0 K0
          go_simp
          first | (with_reducible refine hK1 _ (wpQuiet_step (fun K0 hK0 => ?_))) | (with_reducible refine ⟨_, fun _ _ => rfl, hK1 _ (wpQuiet_step (fun K0 hK0 => ?_))⟩) | (rw [if_neg (by intro e; cases e)]; with_reducible refine hK1 _ (wpQuiet_step (fun K0 hK0 => ?_)))
          clear hK1 K1
          go_simp
          first | (with_reducible refine hK0 _ (wpQuiet_step (fun K1 hK1 => ?_))) | (with_reducible refine ⟨_, fun _ _ => rfl, hK0 _ (wpQuiet_step (fun K1 hK1 => ?_))⟩) | (rw [if_neg (by intro e; cases e)]; with_reducible refine hK0 _ (wpQuiet_step (fun K1 hK1 => ?_)))
          clear hK0 K0
          go_simp
          first | (with_reducible refine hK1 _ (wpQuiet_step (fun K0 hK0 => ?_))) | (with_reducible refine ⟨_, fun _ _ => rfl, hK1 _ (wpQuiet_step (fun K0 hK0 => ?_))⟩) | (rw [if_neg (by intro e; cases e)]; with_reducible refine hK1 _ (wpQuiet_step (fun K0 hK0 => ?_)))
          clear hK1 K1
          go_simp
          first | (with_reducible refine hK0 _ (wpQuiet_step (fun K1 hK1 => ?_))) | (with_reducible refine ⟨_, fun _ _ => rfl, hK0 _ (wpQuiet_step (fun K1 hK1 => ?_))⟩) | (rw [if_neg (by intro e; cases e)]; with_reducible refine hK0 _ (wpQuiet_step (fun K1 hK1 => ?_)))
          clear hK0 K0
          go_simp
          first | (with_reducible refine hK1 _ (wpQuiet_step (fun K0 hK0 => ?_))) | (with_reducible refine ⟨_, fun _ _ => rfl, hK1 _ (wpQuiet_step (fun K0 hK0 => ?_))⟩) | (rw [if_neg (by intro e; cases e)]; with_reducible refine hK1 _ (wpQuiet_step (fun K0 hK0 => ?_)))
          clear hK1 K1
          go_simp
          first | (with_reducible refine hK0 _ (wpQuiet_step (fun K1 hK1 => ?_))) | (with_reducible refine ⟨_, fun _ _ => rfl, hK0 _ (wpQuiet_step (fun K1 hK1 => ?_))⟩) | (rw [if_neg (by intro e; cases e)]; with_reducible refine hK0 _ (wpQuiet_step (fun K1 hK1 => ?_)))
          clear hK0 K0
          go_simp
          first | (with_reducible refine hK1 _ (wpQuiet_step (fun K0 hK0 => ?_))) | (with_reducible refine ⟨_, fun _ _ => rfl, hK1 _ (wpQuiet_step (fun K0 hK0 => ?_))⟩) | (rw [if_neg (by intro e; cases e)]; with_reducible refine hK1 _ (wpQuiet_step (fun K0 hK0 => ?_)))
          clear hK1 K1
          go_simp
          first | (with_reducible refine hK0 _ (wpQuiet_step (fun K1 hK1 => ?_))) | (with_reducible refine ⟨_, fun _ _ => rfl, hK0 _ (wpQuiet_step (fun K1 hK1 => ?_))⟩) | (rw [if_neg (by intro e; cases e)]; with_reducible refine hK0 _ (wpQuiet_step (fun K1 hK1 => ?_)))
          clear hK0 K0
          go_simp
          first | (with_reducible refine hK1 _ (wpQuiet_step (fun K0 hK0 => ?_))) | (with_reducible refine ⟨_, fun _ _ => rfl, hK1 _ (wpQuiet_step (fun K0 hK0 => ?_))⟩) | (rw [if_neg (by intro e; cases e)]; with_reducible refine hK1 _ (wpQuiet_step (fun K0 hK0 => ?_)))
          clear hK1 K1
          go_simp
          first | (with_reducible refine hK0 _ (wpQuiet_step (fun K1 hK1 => ?_))) | (with_reducible refine ⟨_, fun _ _ => rfl, hK0 _ (wpQuiet_step (fun K1 hK1 => ?_))⟩) | (rw [if_neg (by intro e; cases e)]; with_reducible refine hK0 _ (wpQuiet_step (fun K1 hK1 => ?_)))
          clear hK0 K0
          go_simp
          first | (with_reducible refine hK1 _ (wpQuiet_nil ?_)) | (with_reducible refine ⟨_, fun _ _ => rfl, hK1 _ (wpQuiet_nil ?_)⟩) | (rw [if_neg (by intro e; cases e)]; with_reducible refine hK1 _ (wpQuiet_nil ?_))
          clear hK1 K1
          intro w2 H2
          go_wp2
          go_roundw
          case rel => exact ⟨k + 1, hlt, by go_num, by rw [R.out]; rfl, H2.1⟩
          case measure => simp [intOf]; omega
        | some j =>
          have hj := (best_some hb).1
          obtain ⟨y, hy⟩ := get_some (show j < l.length by omega)
          have R := hide (best_next hx hy P hb)
          have HY := hide (fun W (H : HC3 w wr.heap.size x (.slice (some ⟨b, o, none⟩) l.length c) l W) => lst_at H.2.2 hy)
          rw [show bestI (some j) = (j : Int) from rfl]
          have J0 : j < l.length := by omega
          have J1 : ¬ (j : Int) < 0 := by omega
          clear hx hb hy
          by_cases P1 : y.2 < x.2
          · rw [if_pos P1] at R
            go_wp2_with fail
            clear x1 x2 x3
            generalize wr.heap.size = g at F0 HY ⊢
            refine wp_region_quiet (C := HC3 w g x (.slice (some ⟨b, o, none⟩) l.length c) l) (by kernel_rfl) (by kernel_rfl) F0.drew (wpQuiet_step (fun K0 hK0 => ?_))
            go_simp
            first | (with_reducible refine hK0 _ (wpQuiet_step (fun K1 hK1 => ?_))) | (with_reducible refine ⟨_, fun _ _ => rfl, hK0 _ (wpQuiet_step (fun K1 hK1 => ?_))⟩) | (rw [if_neg (by intro e; cases e)]; with_reducible refine hK0 _ (wpQuiet_step (fun K1 hK1 => ?_)))
            clear hK0 K0
            go_simp
            refine ⟨.int .i64 x.2, fun W hW => ?_, hK1 _ (wpQuiet_step (fun K0 hK0 => ?_))⟩
            · ((obtain ⟨_, ⟨_, ⟨u0, u1, u2⟩, _⟩, _⟩ := hW; simp [go_sem, u2]))
            clear hK1 K1
            go_simp
            first | (with_reducible refine hK0 _ (wpQuiet_step (fun K1 hK1 => ?_))) | (with_reducible refine ⟨_, fun _ _ => rfl, hK0 _ (wpQuiet_step (fun K1 hK1 => ?_))⟩) | (rw [if_neg (by intro e; cases e)]; with_reducible refine hK0 _ (wpQuiet_step (fun K1 hK1 => ?_)))
            clear hK0 K0
            go_simp
            first | (with_reducible refine hK1 _ (wpQuiet_step (fun K0 hK0 => ?_))) | (with_reducible refine ⟨_, fun _ _ => rfl, hK1 _ (wpQuiet_step (fun K0 hK0 => ?_))⟩) | (rw [if_neg (by intro e; cases e)]; with_reducible refine hK1 _ (wpQuiet_step (fun K0 hK0 => ?_)))
            clear hK1 K1
            go_simp
            first | (with_reducible refine hK0 _ (wpQuiet_step (fun K1 hK1 => ?_))) | (with_reducible refine ⟨_, fun _ _ => rfl, hK0 _ (wpQuiet_step (fun K1 hK1 => ?_))⟩) | (rw [if_neg (by intro e; cases e)]; with_reducible refine hK0 _ (wpQuiet_step (fun K1 hK1 => ?_)))
            clear hK0 K0
            go_simp
            first | (with_reducible refine hK1 _ (wpQuiet_step (fun K0 hK0 => ?_))) | (with_reducible refine ⟨_, fun _ _ => rfl, hK1 _ (wpQuiet_step (fun K0 hK0 => ?_))⟩) | (rw [if_neg (by intro e; cases e)]; with_reducible refine hK1 _ (wpQuiet_step (fun K0 hK0 => ?_)))
            clear hK1 K1
            go_simp
            first | (with_reducible refine hK0 _ (wpQuiet_step (fun K1 hK1 => ?_))) | (with_reducible refine ⟨_, fun _ _ => rfl, hK0 _ (wpQuiet_step (fun K1 hK1 => ?_))⟩) | (rw [if_neg (by intro e; cases e)]; with_reducible refine hK0 _ (wpQuiet_step (fun K1 hK1 => ?_)))
            clear hK0 K0
            go_simp
            first | (with_reducible refine hK1 _ (wpQuiet_step (fun K0 hK0 => ?_))) | (with_reducible refine ⟨_, fun _ _ => rfl, hK1 _ (wpQuiet_step (fun K0 hK0 => ?_))⟩) | (rw [if_neg (by intro e; cases e)]; with_reducible refine hK1 _ (wpQuiet_step (fun K0 hK0 => ?_)))
            clear hK1 K1
            go_simp
            first | (with_reducible refine hK0 _ (wpQuiet_step (fun K1 hK1 => ?_))) | (with_reducible refine ⟨_, fun _ _ => rfl, hK0 _ (wpQuiet_step (fun K1 hK1 => ?_))⟩) | (rw [if_neg (by intro e; cases e)]; with_reducible refine hK0 _ (wpQuiet_step (fun K1 hK1 => ?_)))
            clear hK0 K0
            go_simp
            refine ⟨.int .i64 x.2, fun W hW => ?_, hK1 _ (wpQuiet_step (fun K0 hK0 => ?_))⟩
            · ((obtain ⟨_, ⟨_, ⟨u0, u1, u2⟩, _⟩, _⟩ := hW; simp [go_sem, u2]))
            clear hK1 K1
            go_simp
            first | (with_reducible refine hK0 _ (wpQuiet_step (fun K1 hK1 => ?_))) | (with_reducible refine ⟨_, fun _ _ => rfl, hK0 _ (wpQuiet_step (fun K1 hK1 => ?_))⟩) | (rw [if_neg (by intro e; cases e)]; with_reducible refine hK0 _ (wpQuiet_step (fun K1 hK1 => ?_)))
            clear hK0 K0
            go_simp
            first | (with_reducible refine hK1 _ (wpQuiet_step (fun K0 hK0 => ?_))) | (with_reducible refine ⟨_, fun _ _ => rfl, hK1 _ (wpQuiet_step (fun K0 hK0 => ?_))⟩) | (rw [if_neg (by intro e; cases e)]; with_reducible refine hK1 _ (wpQuiet_step (fun K0 hK0 => ?_)))
            clear hK1 K1
            go_simp
            first | (with_reducible refine hK0 _ (wpQuiet_step (fun K1 hK1 => ?_))) | (with_reducible refine ⟨_, fun _ _ => rfl, hK0 _ (wpQuiet_step (fun K1 hK1 => ?_))⟩) | (rw [if_neg (by intro e; cases e)]; with_reducible refine hK0 _ (wpQuiet_step (fun K1 hK1 => ?_)))
            clear hK0 K0
            go_simp
            first | (with_reducible refine hK1 _ (wpQuiet_step (fun K0 hK0 => ?_))) | (with_reducible refine ⟨_, fun _ _ => rfl, hK1 _ (wpQuiet_step (fun K0 hK0 => ?_))⟩) | (rw [if_neg (by intro e; cases e)]; with_reducible refine hK1 _ (wpQuiet_step (fun K0 hK0 => ?_)))
            clear hK1 K1
            go_simp
            refine ⟨.int .i64 y.2, fun W hW => ?_, hK0 _ (wpQuiet_step (fun K1 hK1 => ?_))⟩
            · ((obtain ⟨_, _, eb, _, u0, u1, u2⟩ := HY.out W hW; cases eb; simp [go_sem, u2]))
            clear hK0 K0
            go_simp
            first | (with_reducible refine hK1 _ (wpQuiet_step (fun K0 hK0 => ?_))) | (with_reducible refine ⟨_, fun _ _ => rfl, hK1 _ (wpQuiet_step (fun K0 hK0 => ?_))⟩) | (rw [if_neg (by intro e; cases e)]; with_reducible refine hK1 _ (wpQuiet_step (fun K0 hK0 => ?_)))
            clear hK1 K1
            go_simp
            first | (with_reducible refine hK0 _ (wpQuiet_step (fun K1 hK1 => ?_))) | (with_reducible refine ⟨_, fun _ _ => rfl, hK0 _ (wpQuiet_step (fun K1 hK1 => ?_))⟩) | (rw [if_neg (by intro e; cases e)]; with_reducible refine hK0 _ (wpQuiet_step (fun K1 hK1 => ?_)))
            clear hK0 K0
            go_simp
            first | (with_reducible refine hK1 _ (wpQuiet_nil ?_)) | (with_reducible refine ⟨_, fun _ _ => rfl, hK1 _ (wpQuiet_nil ?_)⟩) | (rw [if_neg (by intro e; cases e)]; with_reducible refine hK1 _ (wpQuiet_nil ?_))
            clear hK1 K1
            intro w2 H2
            go_wp2
            go_roundw
            case rel => exact ⟨k + 1, hlt, by go_num, by rw [R.out]; rfl, H2.1⟩
            case measure => simp [intOf]; omega
          · rw [if_neg P1] at R
            go_wp2_with fail
            clear x1 x2 x3
            generalize wr.heap.size = g at F0 HY ⊢
            refine wp_region_quiet (C := HC3 w g x (.slice (some ⟨b, o, none⟩) l.length c) l) (by kernel_rfl) (by kernel_rfl) F0.drew (wpQuiet_step (fun K0 hK0 => ?_))
            go_simp
            first | (with_reducible refine hK0 _ (wpQuiet_step (fun K1 hK1 => ?_))) | (with_reducible refine ⟨_, fun _ _ => rfl, hK0 _ (wpQuiet_step (fun K1 hK1 => ?_))⟩) | (rw [if_neg (by intro e; cases e)]; with_reducible refine hK0 _ (wpQuiet_step (fun K1 hK1 => ?_)))
            clear hK0 K0
            go_simp
            refine ⟨.int .i64 x.2, fun W hW => ?_, hK1 _ (wpQuiet_step (fun K0 hK0 => ?_))⟩
            · ((obtain ⟨_, ⟨_, ⟨u0, u1, u2⟩, _⟩, _⟩ := hW; simp [go_sem, u2]))
            clear hK1 K1
            go_simp
            first | (with_reducible refine hK0 _ (wpQuiet_step (fun K1 hK1 => ?_))) | (with_reducible refine ⟨_, fun _ _ => rfl, hK0 _ (wpQuiet_step (fun K1 hK1 => ?_))⟩) | (rw [if_neg (by intro e; cases e)]; with_reducible refine hK0 _ (wpQuiet_step (fun K1 hK1 => ?_)))
            clear hK0 K0
            go_simp
            first | (with_reducible refine hK1 _ (wpQuiet_step (fun K0 hK0 => ?_))) | (with_reducible refine ⟨_, fun _ _ => rfl, hK1 _ (wpQuiet_step (fun K0 hK0 => ?_))⟩) | (rw [if_neg (by intro e; cases e)]; with_reducible refine hK1 _ (wpQuiet_step (fun K0 hK0 => ?_)))
            clear hK1 K1
            go_simp
            first | (with_reducible refine hK0 _ (wpQuiet_step (fun K1 hK1 => ?_))) | (with_reducible refine ⟨_, fun _ _ => rfl, hK0 _ (wpQuiet_step (fun K1 hK1 => ?_))⟩) | (rw [if_neg (by intro e; cases e)]; with_reducible refine hK0 _ (wpQuiet_step (fun K1 hK1 => ?_)))
            clear hK0 K0
            go_simp
            first | (with_reducible refine hK1 _ (wpQuiet_step (fun K0 hK0 => ?_))) | (with_reducible refine ⟨_, fun _ _ => rfl, hK1 _ (wpQuiet_step (fun K0 hK0 => ?_))⟩) | (rw [if_neg (by intro e; cases e)]; with_reducible refine hK1 _ (wpQuiet_step (fun K0 hK0 => ?_)))
            clear hK1 K1
            go_simp
            first | (with_reducible refine hK0 _ (wpQuiet_step (fun K1 hK1 => ?_))) | (with_reducible refine ⟨_, fun _ _ => rfl, hK0 _ (wpQuiet_step (fun K1 hK1 => ?_))⟩) | (rw [if_neg (by intro e; cases e)]; with_reducible refine hK0 _ (wpQuiet_step (fun K1 hK1 => ?_)))
            clear hK0 K0
            go_simp
            first | (with_reducible refine hK1 _ (wpQuiet_step (fun K0 hK0 => ?_))) | (with_reducible refine ⟨_, fun _ _ => rfl, hK1 _ (wpQuiet_step (fun K0 hK0 => ?_))⟩) | (rw [if_neg (by intro e; cases e)]; with_reducible refine hK1 _ (wpQuiet_step (fun K0 hK0 => ?_)))
            clear hK1 K1
            go_simp
            first | (with_reducible refine hK0 _ (wpQuiet_step (fun K1 hK1 => ?_))) | (with_reducible refine ⟨_, fun _ _ => rfl, hK0 _ (wpQuiet_step (fun K1 hK1 => ?_))⟩) | (rw [if_neg (by intro e; cases e)]; with_reducible refine hK0 _ (wpQuiet_step (fun K1 hK1 => ?_)))
            clear hK0 K0
            go_simp
            refine ⟨.int .i64 x.2, fun W hW => ?_, hK1 _ (wpQuiet_step (fun K0 hK0 => ?_))⟩
            · ((obtain ⟨_, ⟨_, ⟨u0, u1, u2⟩, _⟩, _⟩ := hW; simp [go_sem, u2]))
            clear hK1 K1
            go_simp
            first | (with_reducible refine hK0 _ (wpQuiet_step (fun K1 hK1 => ?_))) | (with_reducible refine ⟨_, fun _ _ => rfl, hK0 _ (wpQuiet_step (fun K1 hK1 => ?_))⟩) | (rw [if_neg (by intro e; cases e)]; with_reducible refine hK0 _ (wpQuiet_step (fun K1 hK1 => ?_)))
            clear hK0 K0
            go_simp
            first | (with_reducible refine hK1 _ (wpQuiet_step (fun K0 hK0 => ?_))) | (with_reducible refine ⟨_, fun _ _ => rfl, hK1 _ (wpQuiet_step (fun K0 hK0 => ?_))⟩) | (rw [if_neg (by intro e; cases e)]; with_reducible refine hK1 _ (wpQuiet_step (fun K0 hK0 => ?_)))
            clear hK1 K1
            go_simp
            first | (with_reducible refine hK0 _ (wpQuiet_step (fun K1 hK1 => ?_))) | (with_reducible refine ⟨_, fun _ _ => rfl, hK0 _ (wpQuiet_step (fun K1 hK1 => ?_))⟩) | (rw [if_neg (by intro e; cases e)]; with_reducible refine hK0 _ (wpQuiet_step (fun K1 hK1 => ?_)))
            clear hK0 K0
            go_simp
            first | (with_reducible refine hK1 _ (wpQuiet_step (fun K0 hK0 => ?_))) | (with_reducible refine ⟨_, fun _ _ => rfl, hK1 _ (wpQuiet_step (fun K0 hK0 => ?_))⟩) | (rw [if_neg (by intro e; cases e)]; with_reducible refine hK1 _ (wpQuiet_step (fun K0 hK0 => ?_)))
            clear hK1 K1
            go_simp
            refine ⟨.int .i64 y.2, fun W hW => ?_, hK0 _ (wpQuiet_step (fun K1 hK1 => ?_))⟩
            · ((obtain ⟨_, _, eb, _, u0, u1, u2⟩ := HY.out W hW; cases eb; simp [go_sem, u2]))
            clear hK0 K0
            go_simp
            first | (with_reducible refine hK1 _ (wpQuiet_step (fun K0 hK0 => ?_))) | (with_reducible refine ⟨_, fun _ _ => rfl, hK1 _ (wpQuiet_step (fun K0 hK0 => ?_))⟩) | (rw [if_neg (by intro e; cases e)]; with_reducible refine hK1 _ (wpQuiet_step (fun K0 hK0 => ?_)))
            clear hK1 K1
            go_simp
            first | (with_reducible refine hK0 _ (wpQuiet_step (fun K1 hK1 => ?_))) | (with_reducible refine ⟨_, fun _ _ => rfl, hK0 _ (wpQuiet_step (fun K1 hK1 => ?_))⟩) | (rw [if_neg (by intro e; cases e)]; with_reducible refine hK0 _ (wpQuiet_step (fun K1 hK1 => ?_)))
            clear hK0 K0
            go_simp
            first | (with_reducible refine hK1 _ (wpQuiet_nil ?_)) | (with_reducible refine ⟨_, fun _ _ => rfl, hK1 _ (wpQuiet_nil ?_)⟩) | (rw [if_neg (by intro e; cases e)]; with_reducible refine hK1 _ (wpQuiet_nil ?_))
            clear hK1 K1
            intro w2 H2
            go_wp2
            go_roundw
            case rel => exact ⟨k + 1, hlt, by go_num, by rw [R.out]; rfl, H2.1⟩
            case measure => simp [intOf]; omega
      · have R := hide (congrArg bestI (best_no hx P))
        have PD : decide (x.2 ≤ bits) = false := decide_eq_false P
        clear hx P
        generalize bestI (bestL l bits k) = sv at R ⊢
        go_wp2_with fail
        clear x1 x2 x3
        generalize wr.heap.size = g at F0 ⊢
        refine wp_region_quiet (C := HC3 w g x (.slice (some ⟨b, o, none⟩) l.length c) l) (by kernel_rfl) (by kernel_rfl) F0.drew (wpQuiet_step (fun K0 hK0 => ?_))
        go_simp
        first | (with_reducible refine hK0 _ (wpQuiet_step (fun K1 hK1 => ?_))) | (with_reducible refine ⟨_, fun _ _ => rfl, hK0 _ (wpQuiet_step (fun K1 hK1 => ?_))⟩) | (rw [if_neg (by intro e; cases e)]; with_reducible refine hK0 _ (wpQuiet_step (fun K1 hK1 => ?_)))
        clear hK0 K0
        go_simp
        refine ⟨.int .i64 x.2, fun W hW => ?_, hK1 _ (wpQuiet_step (fun K0 hK0 => ?_))⟩
        · ((obtain ⟨_, ⟨_, ⟨u0, u1, u2⟩, _⟩, _⟩ := hW; simp [go_sem, u2]))
        clear hK1 K1
        go_simp
        first | (with_reducible refine hK0 _ (wpQuiet_step (fun K1 hK1 => ?_))) | (with_reducible refine ⟨_, fun _ _ => rfl, hK0 _ (wpQuiet_step (fun K1 hK1 => ?_))⟩) | (rw [if_neg (by intro e; cases e)]; with_reducible refine hK0 _ (wpQuiet_step (fun K1 hK1 => ?_)))
        clear hK0 K0
        go_simp
        first | (with_reducible refine hK1 _ (wpQuiet_step (fun K0 hK0 => ?_))) | (with_reducible refine ⟨_, fun _ _ => rfl, hK1 _ (wpQuiet_step (fun K0 hK0 => ?_))⟩) | (rw [if_neg (by intro e; cases e)]; with_reducible refine hK1 _ (wpQuiet_step (fun K0 hK0 => ?_)))
        clear hK1 K1
        go_simp
        first | (with_reducible refine hK0 _ (wpQuiet_step (fun K1 hK1 => ?_))) | (with_reducible refine ⟨_, fun _ _ => rfl, hK0 _ (wpQuiet_step (fun K1 hK1 => ?_))⟩) | (rw [if_neg (by intro e; cases e)]; with_reducible refine hK0 _ (wpQuiet_step (fun K1 hK1 => ?_)))
        clear hK0 K0
        go_simp
        first | (with_reducible refine hK1 _ (wpQuiet_step (fun K0 hK0 => ?_))) | (with_reducible refine ⟨_, fun _ _ => rfl, hK1 _ (wpQuiet_step (fun K0 hK0 => ?_))⟩) | (rw [if_neg (by intro e; cases e)]; with_reducible refine hK1 _ (wpQuiet_step (fun K0 hK0 => ?_)))
        clear hK1 K1
        go_simp
        first | (with_reducible refine hK0 _ (wpQuiet_step (fun K1 hK1 => ?_))) | (with_reducible refine ⟨_, fun _ _ => rfl, hK0 _ (wpQuiet_step (fun K1 hK1 => ?_))⟩) | (rw [if_neg (by intro e; cases e)]; with_reducible refine hK0 _ (wpQuiet_step (fun K1 hK1 => ?_)))
        clear hK0 K0
        go_simp
        first | (with_reducible refine hK1 _ (wpQuiet_step (fun K0 hK0 => ?_))) | (with_reducible refine ⟨_, fun _ _ => rfl, hK1 _ (wpQuiet_step (fun K0 hK0 => ?_))⟩) | (rw [if_neg (by intro e; cases e)]; with_reducible refine hK1 _ (wpQuiet_step (fun K0 hK0 => ?_)))
        clear hK1 K1
        go_simp
        first | (with_reducible refine hK0 _ (wpQuiet_step (fun K1 hK1 => ?_))) | (with_reducible refine ⟨_, fun _ _ => rfl, hK0 _ (wpQuiet_step (fun K1 hK1 => ?_))⟩) | (rw [if_neg (by intro e; cases e)]; with_reducible refine hK0 _ (wpQuiet_step (fun K1 hK1 => ?_)))
        clear hK0 K0
        go_simp
        first | (with_reducible refine hK1 _ (wpQuiet_step (fun K0 hK0 => ?_))) | (with_reducible refine ⟨_, fun _ _ => rfl, hK1 _ (wpQuiet_step (fun K0 hK0 => ?_))⟩) | (rw [if_neg (by intro e; cases e)]; with_reducible refine hK1 _ (wpQuiet_step (fun K0 hK0 => ?_)))
        clear hK1 K1
        go_simp
        first | (with_reducible refine hK0 _ (wpQuiet_step (fun K1 hK1 => ?_))) | (with_reducible refine ⟨_, fun _ _ => rfl, hK0 _ (wpQuiet_step (fun K1 hK1 => ?_))⟩) | (rw [if_neg (by intro e; cases e)]; with_reducible refine hK0 _ (wpQuiet_step (fun K1 hK1 => ?_)))
        clear hK0 K0
        go_simp
        first | (with_reducible refine hK1 _ (wpQuiet_step (fun K0 hK0 => ?_))) | (with_reducible refine ⟨_, fun _ _ => rfl, hK1 _ (wpQuiet_step (fun K0 hK0 => ?_))⟩) | (rw [if_neg (by intro e; cases e)]; with_reducible refine hK1 _ (wpQuiet_step (fun K0 hK0 => ?_)))
        clear hK1 K1
        go_simp
        first | (with_reducible refine hK0 _ (wpQuiet_step (fun K1 hK1 => ?_))) | (with_reducible refine ⟨_, fun _ _ => rfl, hK0 _ (wpQuiet_step (fun K1 hK1 => ?_))⟩) | (rw [if_neg (by intro e; cases e)]; with_reducible refine hK0 _ (wpQuiet_step (fun K1 hK1 => ?_)))
        clear hK0 K0
        go_simp
        first | (with_reducible refine hK1 _ (wpQuiet_step (fun K0 hK0 => ?_))) | (with_reducible refine ⟨_, fun _ _ => rfl, hK1 _ (wpQuiet_step (fun K0 hK0 => ?_))⟩) | (rw [if_neg (by intro e; cases e)]; with_reducible refine hK1 _ (wpQuiet_step (fun K0 hK0 => ?_)))
        clear hK1 K1
        go_simp
        first | (with_reducible refine hK0 _ (wpQuiet_step (fun K1 hK1 => ?_))) | (with_reducible refine ⟨_, fun _ _ => rfl, hK0 _ (wpQuiet_step (fun K1 hK1 => ?_))⟩) | (rw [if_neg (by intro e; cases e)]; with_reducible refine hK0 _ (wpQuiet_step (fun K1 hK1 => ?_)))
        clear hK0 K0
        go_simp
        first | (with_reducible refine hK1 _ (wpQuiet_step (fun K0 hK0 => ?_))) | (with_reducible refine ⟨_, fun _ _ => rfl, hK1 _ (wpQuiet_step (fun K0 hK0 => ?_))⟩) | (rw [if_neg (by intro e; cases e)]; with_reducible refine hK1 _ (wpQuiet_step (fun K0 hK0 => ?_)))
        clear hK1 K1
        go_simp
        first | (with_reducible refine hK0 _ (wpQuiet_step (fun K1 hK1 => ?_))) | (with_reducible refine ⟨_, fun _ _ => rfl, hK0 _ (wpQuiet_step (fun K1 hK1 => ?_))⟩) | (rw [if_neg (by intro e; cases e)]; with_reducible refine hK0 _ (wpQuiet_step (fun K1 hK1 => ?_)))
        clear hK0 K0
        go_simp
        first | (with_reducible refine hK1 _ (wpQuiet_nil ?_)) | (with_reducible refine ⟨_, fun _ _ => rfl, hK1 _ (wpQuiet_nil ?_)⟩) | (rw [if_neg (by intro e; cases e)]; with_reducible refine hK1 _ (wpQuiet_nil ?_))
        clear hK1 K1
        intro w2 H2
        go_wp2
        go_roundw
        case rel => exact ⟨k + 1, hlt, by go_num, by rw [R.out], H2.1⟩
        case measure => simp [intOf]; omega
    · obtain rfl : k = l.length := by omega
      go_wp2
      go_ret
      exact ⟨rfl, HB⟩
theorem own_far {W : World} {base : Nat} {v : Value} {l : List Bk} (h : Own W base v l) {p : Go.Addr} (hp : p.block < base) (u : Value) : Own (W.setCell p u) base v l := by
  refine ⟨h.1, ?_⟩
  rcases h.2 with hn | ⟨g, cap, cur, rfl, h2, h3, h4⟩
  · exact Or.inl hn
  · exact Or.inr ⟨g, cap, cur, rfl, h2, by rw [Below.heap_setCell W p u g (by omega)]; exact h3, h4⟩
/-- what Take gives: a list of the call's own, a block, an error -/
def Gives3 (l : List Bk) (b : Bk) (n : Int) (w : World) (e : Ending) (w' : World) : Prop := ∃ v, e = .returned (.tuple #[v, Bv b, .int .i64 n]) ∧ Below w.heap.size w w' ∧ Own w' w.heap.size v l
theorem take_bad {p : Bk} {L : List Bk} {bits : Int} (h : goodL p L = false ∨ bits < p.2 ∨ 128 < bits) : takeL p L bits = ([], (0, 0), 1) := by
  unfold takeL
  rw [if_neg]
  rw [Bool.and_eq_true, Bool.and_eq_true, decide_eq_true_iff, decide_eq_true_iff]
  rintro ⟨h1, h2, h3⟩
  rcases h with h | h | h
  · rw [h] at h1; cases h1
  · omega
  · omega
theorem take_none {p : Bk} {L : List Bk} {bits : Int} (h1 : goodL p L = true) (h2 : p.2 ≤ bits) (h3 : bits ≤ 128) (hb : bestL L bits L.length = none) : takeL p L bits = ([], (0, 0), 110) := by
  unfold takeL
  rw [h1, decide_eq_true h2, decide_eq_true h3, hb]
  rfl
/-- the two boxes of Take and its list -/
def HT (w : World) (p : Bk) (v : Value) (l : List Bk) (W : World) : Prop := HH w p (0, 0) W ∧ Lst v l W
theorem HT.step {w : World} {p : Bk} {v : Value} {l : List Bk} {W w2 : World} (h : HT w p v l W) (hb : Below W.heap.size W w2) : HT w p v l w2 := ⟨h.1.step hb, h.2.step hb⟩
theorem ht_new (w : World) (p : Bk) {v : Value} {l : List Bk} (h : Lst v l w) : HT w p v l ((w.alloc (.cells #[.int .u64 (hi p.1 : Nat), .int .u64 (lo p.1 : Nat), .int .i64 p.2] 26)).alloc (.cells #[.int .u64 0, .int .u64 0, .int .i64 0] 26)) :=
  ⟨hh_new w p (0, 0) _, h.step (hh_new w p (0, 0) 26).1⟩
def HT2 (w : World) (p : Bk) (g : Nat) (b : Bk) (v : Value) (l : List Bk) (W : World) : Prop := HT w p v l W ∧ Box g b W
theorem HT2.step {w : World} {p : Bk} {g : Nat} {b : Bk} {v : Value} {l : List Bk} {W w2 : World} (h : HT2 w p g b v l W) (hb : Below W.heap.size W w2) : HT2 w p g b v l w2 := ⟨h.1.step hb, h.2.step hb⟩
theorem HH.more {w : World} {x y : Bk} {W : World} (h : HH w x y W) : w.heap.size + 1 < W.heap.size ∧ (W.cell? ⟨w.heap.size + 1, 0, none⟩ = some (.int .u64 (hi y.1 : Nat)) ∧ W.cell? ⟨w.heap.size + 1, 1, none⟩ = some (.int .u64 (lo y.1 : Nat)) ∧ W.cell? ⟨w.heap.size + 1, 2, none⟩ = some (.int .i64 y.2)) ∧
    W.frozen? ⟨w.heap.size + 1, 0, none⟩ = false ∧ W.frozen? ⟨w.heap.size + 1, 1, none⟩ = false ∧ W.frozen? ⟨w.heap.size + 1, 2, none⟩ = false := h.2.2
set_option maxRecDepth 100000 in
set_option maxHeartbeats 2000000 in
theorem take_any {v : Value} {p : Bk} {l : List Bk} {bits : Int} (fp : FitB p) (hf : FitL l) (hl : l.length ≤ 100000) (w : World) (hv : Lst v l w) :
    Calls Try.prog 12 #[Bv p, v, .int .i64 bits] w (Gives3 (takeL p l bits).1 (takeL p l bits).2.1 (takeL p l bits).2.2 w) := by
  have GD := hide (fun W v (H : Lst v l W) => good_any fp hf (show l.length ≤ 1000000 by omega) W H)
  have CL := hide (fun W v (H : Lst v l W) => closest_any (show l.length ≤ 1000000 by omega) bits W H)
  have H0 := ht_new w p hv
  have hv0 := hide hv
  obtain ⟨q, c, rfl⟩ := lst_len hv
  clear hv
  cases hg : goodL p l with
  | false =>
    rw [hg] at GD
    rw [take_bad (Or.inl hg)]
    clear hg CL
    go_enter Try.func12, Try.ntmps12
    obtain ⟨z, ⟨x1, x2, x3⟩, _⟩ := H0.1.all
    go_wp2_with fail
    clear z x1 x2 x3
    refine (GD.out _ _ H0.2).mono ?_
    rintro e w1 ⟨rfl, hb1⟩
    have H1 := H0.step hb1
    clear H0 hb1
    have HB := H1.1.1
    obtain ⟨z, ⟨y1, y2, y3⟩, y4, y5, y6⟩ := H1.1.more
    go_wp2
    refine bodyPost_ret (v := .tuple #[.slice none 0 0, Bv (0, 0), .int .i64 1]) (by simp [results, Try.results12, go_sem, hi_zero, lo_zero, *]) rfl ⟨_, rfl, ?_, own_nil _ _⟩
    have hzB := HB.size
    repeat' (first | (with_reducible exact HB) | (with_reducible apply Below.drew) | (with_reducible apply Below.alloc) | (with_reducible apply Below.setCell))
    all_goals first | omega | (dsimp only; omega) | ((try simp); omega)
  | true =>
    rw [hg] at GD
    by_cases hA : bits < p.2
    · rw [take_bad (Or.inr (Or.inl hA))]
      clear hg CL
      go_enter Try.func12, Try.ntmps12
      obtain ⟨z, ⟨x1, x2, x3⟩, _⟩ := H0.1.all
      go_wp2_with fail
      clear z x1 x2 x3
      refine (GD.out _ _ H0.2).mono ?_
      rintro e w1 ⟨rfl, hb1⟩
      have H1 := H0.step hb1
      clear H0 hb1
      have HB := H1.1.1
      obtain ⟨z, ⟨y1, y2, y3⟩, y4, y5, y6⟩ := H1.1.more
      obtain ⟨_, ⟨x1, x2, x3⟩, _⟩ := H1.1.all
      go_wp2
      refine bodyPost_ret (v := .tuple #[.slice none 0 0, Bv (0, 0), .int .i64 1]) (by simp [results, Try.results12, go_sem, hi_zero, lo_zero, *]) rfl ⟨_, rfl, ?_, own_nil _ _⟩
      have hzB := HB.size
      repeat' (first | (with_reducible exact HB) | (with_reducible apply Below.drew) | (with_reducible apply Below.alloc) | (with_reducible apply Below.setCell))
      all_goals first | omega | (dsimp only; omega) | ((try simp); omega)
    by_cases hB : 128 < bits
    · rw [take_bad (Or.inr (Or.inr hB))]
      clear hg CL
      go_enter Try.func12, Try.ntmps12
      obtain ⟨z, ⟨x1, x2, x3⟩, _⟩ := H0.1.all
      go_wp2_with fail
      clear z x1 x2 x3
      refine (GD.out _ _ H0.2).mono ?_
      rintro e w1 ⟨rfl, hb1⟩
      have H1 := H0.step hb1
      clear H0 hb1
      have HB := H1.1.1
      obtain ⟨z, ⟨y1, y2, y3⟩, y4, y5, y6⟩ := H1.1.more
      obtain ⟨_, ⟨x1, x2, x3⟩, _⟩ := H1.1.all
      go_wp2
      refine bodyPost_ret (v := .tuple #[.slice none 0 0, Bv (0, 0), .int .i64 1]) (by simp [results, Try.results12, go_sem, hi_zero, lo_zero, *]) rfl ⟨_, rfl, ?_, own_nil _ _⟩
      have hzB := HB.size
      repeat' (first | (with_reducible exact HB) | (with_reducible apply Below.drew) | (with_reducible apply Below.alloc) | (with_reducible apply Below.setCell))
      all_goals first | omega | (dsimp only; omega) | ((try simp); omega)
    · cases hb : bestL l bits l.length with
      | none =>
        rw [take_none hg (by omega) (by omega) hb]
        rw [hb, show bestI none = -1 from rfl] at CL
        clear hg hb
        go_enter Try.func12, Try.ntmps12
        obtain ⟨z, ⟨x1, x2, x3⟩, _⟩ := H0.1.all
        go_wp2_with fail
        clear z x1 x2 x3
        refine (GD.out _ _ H0.2).mono ?_
        rintro e w1 ⟨rfl, hb1⟩
        have H1 := H0.step hb1
        clear H0 hb1
        obtain ⟨z, ⟨x1, x2, x3⟩, _⟩ := H1.1.all
        go_wp2_with fail
        clear z x1 x2 x3
        refine (CL.out _ _ H1.2).mono ?_
        rintro e w2 ⟨rfl, hb2⟩
        have H2 := H1.step hb2
        clear H1 hb2
        have HB := H2.1.1
        obtain ⟨z, ⟨y1, y2, y3⟩, y4, y5, y6⟩ := H2.1.more
        go_wp2
        refine bodyPost_ret (v := .tuple #[.slice none 0 0, Bv (0, 0), .int .i64 110]) (by simp [results, Try.results12, go_sem, hi_zero, lo_zero, *]) rfl ⟨_, rfl, ?_, own_nil _ _⟩
        have hzB := HB.size
        repeat' (first | (with_reducible exact HB) | (with_reducible apply Below.drew) | (with_reducible apply Below.alloc) | (with_reducible apply Below.setCell))
        all_goals first | omega | (dsimp only; omega) | ((try simp); omega)
      | some j =>
        obtain ⟨t1, _, t3, t4, _, _⟩ := take_spec hg (show p.2 ≤ bits by omega) (show bits ≤ 128 by omega) hb
        rw [t1]
        rw [hb, show bestI (some j) = (j : Int) from rfl] at CL
        have fx := fit_at hf t4
        have hj := lt_of_some t4
        generalize l.getD j (0, 0) = x at *
        have WO := hide (fun W v (H : Lst v l W) => without_any t4 fx.1 t3 hl W H)
        obtain ⟨b, o, rfl, _⟩ := lst_at H0.2 t4
        have HX := hide (fun W (H : HT w p (.slice (some ⟨b, o, none⟩) l.length c) l W) => lst_at H.2 t4)
        clear hg hb t1 t3 t4
        have J1 : ¬ (j : Int) < 0 := by omega
        generalize withoutL l j x (x.1, bits) = M at *
        go_enter Try.func12, Try.ntmps12
        obtain ⟨z, ⟨x1, x2, x3⟩, _⟩ := H0.1.all
        go_wp2_with fail
        clear z x1 x2 x3
        refine (GD.out _ _ H0.2).mono ?_
        rintro e w1 ⟨rfl, hb1⟩
        have H1 := H0.step hb1
        clear H0 hb1
        obtain ⟨z, ⟨x1, x2, x3⟩, _⟩ := H1.1.all
        go_wp2_with fail
        clear z x1 x2 x3
        refine (CL.out _ _ H1.2).mono ?_
        rintro e w2 ⟨rfl, hb2⟩
        have H2 := H1.step hb2
        clear H1 hb2
        obtain ⟨_, _, eb, _, x1, x2, x3⟩ := HX.out _ H2
        cases eb
        go_wp2_with fail
        clear x1 x2 x3
        have H3 : HT2 w p w2.heap.size (x.1, bits) (.slice (some ⟨b, o, none⟩) l.length c) l (w2.alloc (.cells #[.int .u64 (hi x.1 : Nat), .int .u64 (lo x.1 : Nat), .int .i64 bits] 26)) := ⟨H2.step (below_alloc _ _), box_new w2 (x.1, bits) _⟩
        have GB := H2.1.2.2.1
        generalize w2.heap.size = g at *
        refine wp_region_relT 6 2 (HT2 w p g (x.1, bits) (.slice (some ⟨b, o, none⟩) l.length c) l) [some 39, some 40, some 41, some 42, some 43, some 6] [fun yy _ => yy = .slice (some ⟨b, o, none⟩) l.length c, fun yy _ => yy = .int .i64 (j : Nat), fun yy _ => yy = Bv (x.1, bits), fun yy W => Own W g yy M, fun yy _ => yy = Bv (x.1, bits), fun yy W => Own W g yy M] 44 (by kernel_rfl) rfl (by omega) (by kernel_rfl) (by kernel_rfl) rfl rfl (H3.step (Below.refl _ _).drew) ?_ ?_
        · refine ⟨⟨fun _ _ _ h _ => h, fun a' W K hC hd hf hK => ?_⟩, ⟨fun _ _ _ h _ => h, fun a' W K hC hd hf hK => ?_⟩, ⟨fun _ _ _ h _ => h, fun a' W K hC hd hf hK => ?_⟩, ⟨fun _ _ _ h hb => own_keep h hb, fun a' W K hC hd hf hK => ?_⟩, ⟨fun _ _ _ h _ => h, fun a' W K hC hd hf hK => ?_⟩, ⟨fun _ _ _ h hb => own_keep h hb, fun a' W K hC hd hf hK => ?_⟩, trivial⟩
          · refine op_plain rfl ?_
            have f1 : a'.tmps[1]?.getD undef = .slice (some ⟨b, o, none⟩) l.length c := (hf.out 1 (by kernel_rfl)).trans (by simp)
            go_simp
            exact hK.out _ _ hC (Below.refl _ _) rfl
          · refine op_plain rfl ?_
            have f9 : a'.tmps[9]?.getD undef = .int .i64 (j : Nat) := (hf.out 9 (by kernel_rfl)).trans (by simp)
            go_simp
            exact hK.out _ _ hC (Below.refl _ _) rfl
          · refine op_plain rfl ?_
            have f10 : a'.tmps[10]?.getD undef = .pointer (some ⟨g, 0, none⟩) := (hf.out 10 (by kernel_rfl)).trans (by simp)
            obtain ⟨_, ⟨z1, ⟨a0, a1, a2⟩, _⟩⟩ := id hC
            (try simp only at a0 a1 a2)
            go_simp
            exact hK.out _ _ hC (Below.refl _ _) rfl
          · refine op_plain rfl ?_
            have d39 : a'.tmps[39]?.getD undef = .slice (some ⟨b, o, none⟩) l.length c := hd.out 0 39 (by kernel_rfl) rfl
            have d40 : a'.tmps[40]?.getD undef = .int .i64 (j : Nat) := hd.out 1 40 (by kernel_rfl) rfl
            have d41 : a'.tmps[41]?.getD undef = Bv (x.1, bits) := hd.out 2 41 (by kernel_rfl) rfl
            go_simp
            refine (WO.out W _ hC.1.2).mono ?_
            rintro e W2 ⟨yy, rfl, hbW, hO⟩
            exact hK.out _ _ (HT2.step hC hbW) hbW (own_base hO (Nat.le_of_lt hC.2.1))
          · refine op_plain rfl ?_
            have f10 : a'.tmps[10]?.getD undef = .pointer (some ⟨g, 0, none⟩) := (hf.out 10 (by kernel_rfl)).trans (by simp)
            obtain ⟨_, ⟨z1, ⟨a0, a1, a2⟩, _⟩⟩ := id hC
            (try simp only at a0 a1 a2)
            go_simp
            exact hK.out _ _ hC (Below.refl _ _) rfl
          · refine op_plain rfl ?_
            have d42 := hd.out 3 42 (by kernel_rfl) rfl
            go_simp
            exact hK.out _ _ hC (Below.refl _ _) d42
        · intro vs W5 hC hR
          have q0 : vs 0 = .slice (some ⟨b, o, none⟩) l.length c := hR.out 0 (by decide)
          have q1 : vs 1 = .int .i64 (j : Nat) := hR.out 1 (by decide)
          have q2 : vs 2 = Bv (x.1, bits) := hR.out 2 (by decide)
          have r3 := hR.out 3 (by decide)
          generalize hq3 : vs 3 = q3 at *
          change (fun yy W => Own W g yy M) q3 W5 at r3
          have q4 : vs 4 = Bv (x.1, bits) := hR.out 4 (by decide)
          have r5 := hR.out 5 (by decide)
          generalize hq5 : vs 5 = q5 at *
          change (fun yy W => Own W g yy M) q5 W5 at r5
          simp only [List.drop_succ_cons, List.drop_zero, fillF, Act.put, List.setIfInBounds_toArray, List.set_cons_zero, List.set_cons_succ, Nat.reduceAdd, q0, q1, q2, hq3, q4, hq5]
          clear hR q0 q1 q2 hq3 q4 hq5
          have HB := hC.1.1.1
          have GW : w.heap.size + 1 < g := GB
          obtain ⟨z, ⟨y1, y2, y3⟩, y4, y5, y6⟩ := hC.1.1.more
          clear H3 H2 WO HX hC
          go_wp2
          refine bodyPost_ret (v := .tuple #[q5, Bv (x.1, bits), .int .i64 0]) (by simp [results, Try.results12, go_sem, *]) rfl ⟨_, rfl, ?_, ?_⟩
          · skip
            have hzB := HB.size
            repeat' (first | (with_reducible exact HB) | (with_reducible apply Below.drew) | (with_reducible apply Below.alloc) | (with_reducible apply Below.setCell))
            all_goals first | omega | (dsimp only; omega) | ((try simp); omega)
          · exact own_base (own_far (own_far (own_far r5 (by dsimp only; omega) _) (by dsimp only; omega) _) (by dsimp only; omega) _) (by omega)
end Go.Proofs.Ytpieddddckbfdaa
