/-
  How a slice of ranges lies in memory; the contract of Sound. Conditions: the words are words of 64 bits; a slice has fewer than 2^32 ranges.
-/
import Derived.Test.YtfmhpnendcikoaaGreatSpanS
namespace Go.Proofs.YtfmhpnendcikoaaGreat
open Go.RowKit Go.Joins

/-- one range at a place of a block -/
def At (b o : Nat) (x : Rg) (W : World) : Prop := W.cell? ⟨b, o, none⟩ = some (.int .u64 (hi x.1 : Nat)) ∧ W.cell? ⟨b, o + 1, none⟩ = some (.int .u64 (lo x.1 : Nat)) ∧ W.cell? ⟨b, o + 2, none⟩ = some (.int .u64 (hi x.2 : Nat)) ∧ W.cell? ⟨b, o + 3, none⟩ = some (.int .u64 (lo x.2 : Nat))
/-- a row of ranges from a place of a block on -/
def RowR (b o : Nat) (l : List Rg) (W : World) : Prop := b < W.heap.size ∧ ∀ (j : Nat) (x : Rg), l[j]? = some x → At b (o + j * 4) x W
theorem At.step {b o : Nat} {x : Rg} {W w2 : World} (h : At b o x W) (hb : Below W.heap.size W w2) : At b o x w2 := ⟨keep_cell hb h.1, keep_cell hb h.2.1, keep_cell hb h.2.2.1, keep_cell hb h.2.2.2⟩
theorem RowR.step {b o : Nat} {l : List Rg} {W w2 : World} (h : RowR b o l W) (hb : Below W.heap.size W w2) : RowR b o l w2 := ⟨Nat.lt_of_lt_of_le h.1 hb.size, fun j x hj => (h.2 j x hj).step hb⟩
/-- a slice value that reads as a list of ranges -/
def Lst (v : Value) (l : List Rg) (W : World) : Prop := (∃ p c, v = .slice p 0 c ∧ l = [] ∧ (p = none → c = 0) ∧ c ≤ 9223372036854775807) ∨ ∃ b o c, v = .slice (some ⟨b, o, none⟩) l.length c ∧ RowR b o l W ∧ l.length ≤ c ∧ l ≠ [] ∧ c ≤ 9223372036854775807
theorem Lst.step {v : Value} {l : List Rg} {W w2 : World} (h : Lst v l W) (hb : Below W.heap.size W w2) : Lst v l w2 := by
  rcases h with h | ⟨b, o, c, h1, h2, h3⟩
  · exact Or.inl h
  · exact Or.inr ⟨b, o, c, h1, h2.step hb, h3⟩

theorem get_some {l : List Rg} {k : Nat} (h : k < l.length) : ∃ x, l[k]? = some x := ⟨_, List.getElem?_eq_getElem h⟩
theorem good_eq {l : List Rg} {k : Nat} {x : Rg} (h : l[k]? = some x) : goodAt l k = (okR x && (decide (k = 0) || gapB (l.getD (k - 1) (0, 0)).2 x.1)) := by unfold goodAt; rw [getD_some h]
theorem good_next {l : List Rg} {k : Nat} (h : ∀ j, j < k → goodAt l j = true) (hk : goodAt l k = true) : ∀ j, j < k + 1 → goodAt l j = true := by
  intro j hj
  by_cases e : j = k
  · rw [e]; exact hk
  · exact h j (by omega)
/-- what the region of Sound keeps -/
def HSd (w : World) (g : Nat) (x : Rg) (b o : Nat) (l : List Rg) (W : World) : Prop := Below w.heap.size w W ∧ Four g x W ∧ RowR b o l W
theorem HSd.step {w : World} {g : Nat} {x : Rg} {b o : Nat} {l : List Rg} {W w2 : World} (h : HSd w g x b o l W) (hb : Below W.heap.size W w2) : HSd w g x b o l w2 := ⟨h.1.trans (hb.mono h.1.size), h.2.1.step hb, h.2.2.step hb⟩
theorem HSd.drew {w : World} {g : Nat} {x : Rg} {b o : Nat} {l : List Rg} {W : World} (h : HSd w g x b o l W) : HSd w g x b o l { W with drawn := W.drawn + 1 } := h.step (Below.refl _ _).drew
theorem fit_at {l : List Rg} (hf : FitL l) {k : Nat} {x : Rg} (h : l[k]? = some x) : FitR x := hf x (List.mem_of_getElem? h)

set_option maxRecDepth 100000 in
set_option maxHeartbeats 400000 in
theorem sound_some (b o c : Nat) (l : List Rg) (hf : FitL l) (hl : l.length ≤ 1000000) (w : World) (hr : RowR b o l w) :
    Calls Tryz.prog 38 #[.slice (some ⟨b, o, none⟩) l.length c] w (Gives (.bool (soundL l)) w) := by
  go_enter Tryz.func38, Tryz.ntmps38
  go_wp2
  go_loopw [7] (fun i wr => ∃ k : Nat, k ≤ l.length ∧ i = .int .i64 (k : Nat) ∧ (∀ j, j < k → goodAt l j = true) ∧ Below w.heap.size w wr) (fun i _ => l.length - (intOf i).toNat)
  case atStart => exact ⟨0, Nat.zero_le _, rfl, fun j h => absurd h (Nat.not_lt_zero _), Below.refl _ _⟩
  case round =>
    obtain ⟨k, hk, rfl, hg, HB⟩ := hrel
    have HG := hide hg
    clear hg
    by_cases hlt : k < l.length
    · obtain ⟨x, hx⟩ := get_some hlt
      have fx := fit_at hf hx
      have HR := hr.step HB
      have GE := hide (good_eq hx)
      have IR := hide (fun W => isRange_any x W)
      obtain ⟨x1, x2, x3, x4⟩ := HR.2 k _ hx
      clear hx
      have F0 : HSd w wr.heap.size x b o l (wr.alloc (.cells #[.int .u64 (hi x.1 : Nat), .int .u64 (lo x.1 : Nat), .int .u64 (hi x.2 : Nat), .int .u64 (lo x.2 : Nat)] 36)) := ⟨chain HB (below_alloc _ _), four_new _ _ _, HR.step (below_alloc _ _)⟩
      cases e1 : okR x with
      | false =>
        have R := hide (sound_false hlt (by rw [GE.out, e1]; rfl))
        have E1 := hide e1
        clear e1
        go_wp2_with fail
        clear x1 x2 x3 x4
        generalize wr.heap.size = g at F0 ⊢
        refine wp_region_quiet (C := HSd w g x b o l) (by kernel_rfl) (by kernel_rfl) F0.drew (wpQuiet_step (fun K0 hK0 => ?_))
        go_simp
        refine ⟨RV x, fun W hW => ?_, hK0 _ (wpQuiet_step (fun K1 hK1 => ?_))⟩
        · ((obtain ⟨_, ⟨_, ⟨u0, u1, u2, u3⟩, _⟩, _⟩ := hW; simp [go_sem, u0, u1, u2, u3]))
        clear hK0 K0
        go_simp
        refine ⟨.bool false, fun W hW => ?_, hK1 _ (wpQuiet_step (fun K0 hK0 => ?_))⟩
        · exact (IR.out W).mono fun e w2 ⟨he, hb⟩ => ⟨by rw [he, E1.out], HSd.step hW hb⟩
        clear hK1 K1
        go_simp
        first | (with_reducible refine hK0 _ (wpQuiet_step (fun K1 hK1 => ?_))) | (with_reducible refine ⟨_, fun _ _ => rfl, hK0 _ (wpQuiet_step (fun K1 hK1 => ?_))⟩) | (rw [if_neg (by intro e; cases e)]; with_reducible refine hK0 _ (wpQuiet_step (fun K1 hK1 => ?_)))
        clear hK0 K0
        go_simp
        first | (with_reducible refine hK1 _ (wpQuiet_step (fun K0 hK0 => ?_))) | (with_reducible refine ⟨_, fun _ _ => rfl, hK1 _ (wpQuiet_step (fun K0 hK0 => ?_))⟩) | (rw [if_neg (by intro e; cases e)]; with_reducible refine hK1 _ (wpQuiet_step (fun K0 hK0 => ?_)))
        clear hK1 K1
        go_simp
        first | (with_reducible refine hK0 _ (wpQuiet_step (fun K1 hK1 => ?_))) | (with_reducible refine ⟨_, fun _ _ => rfl, hK0 _ (wpQuiet_step (fun K1 hK1 => ?_))⟩) | (rw [if_neg (by intro e; cases e)]; with_reducible refine hK0 _ (wpQuiet_step (fun K1 hK1 => ?_)))
        clear hK0 K0
        go_simp
        first | (with_reducible refine hK1 _ (wpQuiet_step (fun K0 hK0 => ?_))) | (with_reducible refine ⟨_, fun _ _ => rfl, hK1 _ (wpQuiet_step (fun K0 hK0 => ?_))⟩) | (rw [if_neg (by intro e; cases e)]; with_reducible refine hK1 _ (wpQuiet_step (fun K0 hK0 => ?_)))
        clear hK1 K1
        go_simp
        first | (with_reducible refine hK0 _ (wpQuiet_step (fun K1 hK1 => ?_))) | (with_reducible refine ⟨_, fun _ _ => rfl, hK0 _ (wpQuiet_step (fun K1 hK1 => ?_))⟩) | (rw [if_neg (by intro e; cases e)]; with_reducible refine hK0 _ (wpQuiet_step (fun K1 hK1 => ?_)))
        clear hK0 K0
        go_simp
        first | (with_reducible refine hK1 _ (wpQuiet_step (fun K0 hK0 => ?_))) | (with_reducible refine ⟨_, fun _ _ => rfl, hK1 _ (wpQuiet_step (fun K0 hK0 => ?_))⟩) | (rw [if_neg (by intro e; cases e)]; with_reducible refine hK1 _ (wpQuiet_step (fun K0 hK0 => ?_)))
        clear hK1 K1
        go_simp
        first | (with_reducible refine hK0 _ (wpQuiet_step (fun K1 hK1 => ?_))) | (with_reducible refine ⟨_, fun _ _ => rfl, hK0 _ (wpQuiet_step (fun K1 hK1 => ?_))⟩) | (rw [if_neg (by intro e; cases e)]; with_reducible refine hK0 _ (wpQuiet_step (fun K1 hK1 => ?_)))
        clear hK0 K0
        go_simp
        first | (with_reducible refine hK1 _ (wpQuiet_step (fun K0 hK0 => ?_))) | (with_reducible refine ⟨_, fun _ _ => rfl, hK1 _ (wpQuiet_step (fun K0 hK0 => ?_))⟩) | (rw [if_neg (by intro e; cases e)]; with_reducible refine hK1 _ (wpQuiet_step (fun K0 hK0 => ?_)))
        clear hK1 K1
        go_simp
        first | (with_reducible refine hK0 _ (wpQuiet_step (fun K1 hK1 => ?_))) | (with_reducible refine ⟨_, fun _ _ => rfl, hK0 _ (wpQuiet_step (fun K1 hK1 => ?_))⟩) | (rw [if_neg (by intro e; cases e)]; with_reducible refine hK0 _ (wpQuiet_step (fun K1 hK1 => ?_)))
        clear hK0 K0
        go_simp
        first | (with_reducible refine hK1 _ (wpQuiet_step (fun K0 hK0 => ?_))) | (with_reducible refine ⟨_, fun _ _ => rfl, hK1 _ (wpQuiet_step (fun K0 hK0 => ?_))⟩) | (rw [if_neg (by intro e; cases e)]; with_reducible refine hK1 _ (wpQuiet_step (fun K0 hK0 => ?_)))
        clear hK1 K1
        go_simp
        first | (with_reducible refine hK0 _ (wpQuiet_step (fun K1 hK1 => ?_))) | (with_reducible refine ⟨_, fun _ _ => rfl, hK0 _ (wpQuiet_step (fun K1 hK1 => ?_))⟩) | (rw [if_neg (by intro e; cases e)]; with_reducible refine hK0 _ (wpQuiet_step (fun K1 hK1 => ?_)))
        clear hK0 K0
        go_simp
        first | (with_reducible refine hK1 _ (wpQuiet_step (fun K0 hK0 => ?_))) | (with_reducible refine ⟨_, fun _ _ => rfl, hK1 _ (wpQuiet_step (fun K0 hK0 => ?_))⟩) | (rw [if_neg (by intro e; cases e)]; with_reducible refine hK1 _ (wpQuiet_step (fun K0 hK0 => ?_)))
        clear hK1 K1
        go_simp
        first | (with_reducible refine hK0 _ (wpQuiet_step (fun K1 hK1 => ?_))) | (with_reducible refine ⟨_, fun _ _ => rfl, hK0 _ (wpQuiet_step (fun K1 hK1 => ?_))⟩) | (rw [if_neg (by intro e; cases e)]; with_reducible refine hK0 _ (wpQuiet_step (fun K1 hK1 => ?_)))
        clear hK0 K0
        go_simp
        first | (with_reducible refine hK1 _ (wpQuiet_step (fun K0 hK0 => ?_))) | (with_reducible refine ⟨_, fun _ _ => rfl, hK1 _ (wpQuiet_step (fun K0 hK0 => ?_))⟩) | (rw [if_neg (by intro e; cases e)]; with_reducible refine hK1 _ (wpQuiet_step (fun K0 hK0 => ?_)))
        clear hK1 K1
        go_simp
        first | (with_reducible refine hK0 _ (wpQuiet_step (fun K1 hK1 => ?_))) | (with_reducible refine ⟨_, fun _ _ => rfl, hK0 _ (wpQuiet_step (fun K1 hK1 => ?_))⟩) | (rw [if_neg (by intro e; cases e)]; with_reducible refine hK0 _ (wpQuiet_step (fun K1 hK1 => ?_)))
        clear hK0 K0
        go_simp
        first | (with_reducible refine hK1 _ (wpQuiet_step (fun K0 hK0 => ?_))) | (with_reducible refine ⟨_, fun _ _ => rfl, hK1 _ (wpQuiet_step (fun K0 hK0 => ?_))⟩) | (rw [if_neg (by intro e; cases e)]; with_reducible refine hK1 _ (wpQuiet_step (fun K0 hK0 => ?_)))
        clear hK1 K1
        go_simp
        first | (with_reducible refine hK0 _ (wpQuiet_nil ?_)) | (with_reducible refine ⟨_, fun _ _ => rfl, hK0 _ (wpQuiet_nil ?_)⟩) | (rw [if_neg (by intro e; cases e)]; with_reducible refine hK0 _ (wpQuiet_nil ?_))
        clear hK0 K0
        intro w2 H2
        go_wp2
        go_ret
        exact ⟨by rw [R.out]; rfl, H2.1⟩
      | true =>
        have E1 := hide e1
        by_cases h0 : k = 0
        · have GK := hide (show goodAt l k = true by rw [GE.out, e1, decide_eq_true h0]; rfl)
          have P0 : ¬ 0 < k := by omega
          clear e1 h0
          go_wp2_with fail
          clear x1 x2 x3 x4
          generalize wr.heap.size = g at F0 ⊢
          refine wp_region_quiet (C := HSd w g x b o l) (by kernel_rfl) (by kernel_rfl) F0.drew (wpQuiet_step (fun K0 hK0 => ?_))
          go_simp
          refine ⟨RV x, fun W hW => ?_, hK0 _ (wpQuiet_step (fun K1 hK1 => ?_))⟩
          · ((obtain ⟨_, ⟨_, ⟨u0, u1, u2, u3⟩, _⟩, _⟩ := hW; simp [go_sem, u0, u1, u2, u3]))
          clear hK0 K0
          go_simp
          refine ⟨.bool true, fun W hW => ?_, hK1 _ (wpQuiet_step (fun K0 hK0 => ?_))⟩
          · exact (IR.out W).mono fun e w2 ⟨he, hb⟩ => ⟨by rw [he, E1.out], HSd.step hW hb⟩
          clear hK1 K1
          go_simp
          first | (with_reducible refine hK0 _ (wpQuiet_step (fun K1 hK1 => ?_))) | (with_reducible refine ⟨_, fun _ _ => rfl, hK0 _ (wpQuiet_step (fun K1 hK1 => ?_))⟩) | (rw [if_neg (by intro e; cases e)]; with_reducible refine hK0 _ (wpQuiet_step (fun K1 hK1 => ?_)))
          clear hK0 K0
          go_simp
          first | (with_reducible refine hK1 _ (wpQuiet_step (fun K0 hK0 => ?_))) | (with_reducible refine ⟨_, fun _ _ => rfl, hK1 _ (wpQuiet_step (fun K0 hK0 => ?_))⟩) | (rw [if_neg (by intro e; cases e)]; with_reducible refine hK1 _ (wpQuiet_step (fun K0 hK0 => ?_)))
          clear hK1 K1
          go_simp
          first | (with_reducible refine hK0 _ (wpQuiet_step (fun K1 hK1 => ?_))) | (with_reducible refine ⟨_, fun _ _ => rfl, hK0 _ (wpQuiet_step (fun K1 hK1 => ?_))⟩) | (rw [if_neg (by intro e; cases e)]; with_reducible refine hK0 _ (wpQuiet_step (fun K1 hK1 => ?_)))
          clear hK0 K0
          go_simp
          first | (with_reducible refine hK1 _ (wpQuiet_step (fun K0 hK0 => ?_))) | (with_reducible refine ⟨_, fun _ _ => rfl, hK1 _ (wpQuiet_step (fun K0 hK0 => ?_))⟩) | (rw [if_neg (by intro e; cases e)]; with_reducible refine hK1 _ (wpQuiet_step (fun K0 hK0 => ?_)))
          clear hK1 K1
          go_simp
          first | (with_reducible refine hK0 _ (wpQuiet_step (fun K1 hK1 => ?_))) | (with_reducible refine ⟨_, fun _ _ => rfl, hK0 _ (wpQuiet_step (fun K1 hK1 => ?_))⟩) | (rw [if_neg (by intro e; cases e)]; with_reducible refine hK0 _ (wpQuiet_step (fun K1 hK1 => ?_)))
          clear hK0 K0
          go_simp
          first | (with_reducible refine hK1 _ (wpQuiet_step (fun K0 hK0 => ?_))) | (with_reducible refine ⟨_, fun _ _ => rfl, hK1 _ (wpQuiet_step (fun K0 hK0 => ?_))⟩) | (rw [if_neg (by intro e; cases e)]; with_reducible refine hK1 _ (wpQuiet_step (fun K0 hK0 => ?_)))
          clear hK1 K1
          go_simp
          first | (with_reducible refine hK0 _ (wpQuiet_step (fun K1 hK1 => ?_))) | (with_reducible refine ⟨_, fun _ _ => rfl, hK0 _ (wpQuiet_step (fun K1 hK1 => ?_))⟩) | (rw [if_neg (by intro e; cases e)]; with_reducible refine hK0 _ (wpQuiet_step (fun K1 hK1 => ?_)))
          clear hK0 K0
          go_simp
          first | (with_reducible refine hK1 _ (wpQuiet_step (fun K0 hK0 => ?_))) | (with_reducible refine ⟨_, fun _ _ => rfl, hK1 _ (wpQuiet_step (fun K0 hK0 => ?_))⟩) | (rw [if_neg (by intro e; cases e)]; with_reducible refine hK1 _ (wpQuiet_step (fun K0 hK0 => ?_)))
          clear hK1 K1
          go_simp
          first | (with_reducible refine hK0 _ (wpQuiet_step (fun K1 hK1 => ?_))) | (with_reducible refine ⟨_, fun _ _ => rfl, hK0 _ (wpQuiet_step (fun K1 hK1 => ?_))⟩) | (rw [if_neg (by intro e; cases e)]; with_reducible refine hK0 _ (wpQuiet_step (fun K1 hK1 => ?_)))
          clear hK0 K0
          go_simp
          first | (with_reducible refine hK1 _ (wpQuiet_step (fun K0 hK0 => ?_))) | (with_reducible refine ⟨_, fun _ _ => rfl, hK1 _ (wpQuiet_step (fun K0 hK0 => ?_))⟩) | (rw [if_neg (by intro e; cases e)]; with_reducible refine hK1 _ (wpQuiet_step (fun K0 hK0 => ?_)))
          clear hK1 K1
          go_simp
          first | (with_reducible refine hK0 _ (wpQuiet_step (fun K1 hK1 => ?_))) | (with_reducible refine ⟨_, fun _ _ => rfl, hK0 _ (wpQuiet_step (fun K1 hK1 => ?_))⟩) | (rw [if_neg (by intro e; cases e)]; with_reducible refine hK0 _ (wpQuiet_step (fun K1 hK1 => ?_)))
          clear hK0 K0
          go_simp
          first | (with_reducible refine hK1 _ (wpQuiet_step (fun K0 hK0 => ?_))) | (with_reducible refine ⟨_, fun _ _ => rfl, hK1 _ (wpQuiet_step (fun K0 hK0 => ?_))⟩) | (rw [if_neg (by intro e; cases e)]; with_reducible refine hK1 _ (wpQuiet_step (fun K0 hK0 => ?_)))
          clear hK1 K1
          go_simp
          first | (with_reducible refine hK0 _ (wpQuiet_step (fun K1 hK1 => ?_))) | (with_reducible refine ⟨_, fun _ _ => rfl, hK0 _ (wpQuiet_step (fun K1 hK1 => ?_))⟩) | (rw [if_neg (by intro e; cases e)]; with_reducible refine hK0 _ (wpQuiet_step (fun K1 hK1 => ?_)))
          clear hK0 K0
          go_simp
          first | (with_reducible refine hK1 _ (wpQuiet_step (fun K0 hK0 => ?_))) | (with_reducible refine ⟨_, fun _ _ => rfl, hK1 _ (wpQuiet_step (fun K0 hK0 => ?_))⟩) | (rw [if_neg (by intro e; cases e)]; with_reducible refine hK1 _ (wpQuiet_step (fun K0 hK0 => ?_)))
          clear hK1 K1
          go_simp
          first | (with_reducible refine hK0 _ (wpQuiet_step (fun K1 hK1 => ?_))) | (with_reducible refine ⟨_, fun _ _ => rfl, hK0 _ (wpQuiet_step (fun K1 hK1 => ?_))⟩) | (rw [if_neg (by intro e; cases e)]; with_reducible refine hK0 _ (wpQuiet_step (fun K1 hK1 => ?_)))
          clear hK0 K0
          go_simp
          first | (with_reducible refine hK1 _ (wpQuiet_step (fun K0 hK0 => ?_))) | (with_reducible refine ⟨_, fun _ _ => rfl, hK1 _ (wpQuiet_step (fun K0 hK0 => ?_))⟩) | (rw [if_neg (by intro e; cases e)]; with_reducible refine hK1 _ (wpQuiet_step (fun K0 hK0 => ?_)))
          clear hK1 K1
          go_simp
          first | (with_reducible refine hK0 _ (wpQuiet_nil ?_)) | (with_reducible refine ⟨_, fun _ _ => rfl, hK0 _ (wpQuiet_nil ?_)⟩) | (rw [if_neg (by intro e; cases e)]; with_reducible refine hK0 _ (wpQuiet_nil ?_))
          clear hK0 K0
          intro w2 H2
          go_wp2
          go_roundw
          case rel => exact ⟨k + 1, hlt, by go_num, good_next HG.out GK.out, H2.1⟩
          case measure => simp [intOf]; omega
        · obtain ⟨y, hy⟩ := get_some (show k - 1 < l.length by omega)
          have fy := fit_at hf hy
          have AP := hide (fun W => apart_any fy.2 fx.1 W)
          have YD := hide (getD_some hy)
          have HY := hide (fun W (H : HSd w wr.heap.size x b o l W) => H.2.2.2 (k - 1) y hy)
          have P0 : 0 < k := by omega
          have B0 : 0 ≤ (k : Int) - 1 := by omega
          have B1 : 1 ≤ (k : Int) := by omega
          have WS : IntKind.i64.wrap ((k : Int) - 1) = (k : Int) - 1 := IntWalk.i64_in _ ⟨by omega, by omega⟩
          have BL : (k : Int) - 1 < (l.length : Int) := by omega
          have BN : ((k : Int) - 1).toNat = k - 1 := by omega
          clear hy
          cases e2 : gapB y.2 x.1 with
          | false =>
            have R := hide (sound_false hlt (by rw [GE.out, YD.out, e2, decide_eq_false h0]; simp))
            have E2 := hide e2
            clear e1 e2 h0
            go_wp2_with fail
            clear x1 x2 x3 x4
            generalize wr.heap.size = g at F0 HY ⊢
            refine wp_region_quiet (C := HSd w g x b o l) (by kernel_rfl) (by kernel_rfl) F0.drew (wpQuiet_step (fun K0 hK0 => ?_))
            go_simp
            refine ⟨RV x, fun W hW => ?_, hK0 _ (wpQuiet_step (fun K1 hK1 => ?_))⟩
            · ((obtain ⟨_, ⟨_, ⟨u0, u1, u2, u3⟩, _⟩, _⟩ := hW; simp [go_sem, u0, u1, u2, u3]))
            clear hK0 K0
            go_simp
            refine ⟨.bool true, fun W hW => ?_, hK1 _ (wpQuiet_step (fun K0 hK0 => ?_))⟩
            · exact (IR.out W).mono fun e w2 ⟨he, hb⟩ => ⟨by rw [he, E1.out], HSd.step hW hb⟩
            clear hK1 K1
            go_simp
            first | (with_reducible refine hK0 _ (wpQuiet_step (fun K1 hK1 => ?_))) | (with_reducible refine ⟨_, fun _ _ => rfl, hK0 _ (wpQuiet_step (fun K1 hK1 => ?_))⟩) | (rw [if_neg (by intro e; cases e)]; with_reducible refine hK0 _ (wpQuiet_step (fun K1 hK1 => ?_)))
            clear hK0 K0
            go_simp
            first | (with_reducible refine hK1 _ (wpQuiet_step (fun K0 hK0 => ?_))) | (with_reducible refine ⟨_, fun _ _ => rfl, hK1 _ (wpQuiet_step (fun K0 hK0 => ?_))⟩) | (rw [if_neg (by intro e; cases e)]; with_reducible refine hK1 _ (wpQuiet_step (fun K0 hK0 => ?_)))
            clear hK1 K1
            go_simp
            first | (with_reducible refine hK0 _ (wpQuiet_step (fun K1 hK1 => ?_))) | (with_reducible refine ⟨_, fun _ _ => rfl, hK0 _ (wpQuiet_step (fun K1 hK1 => ?_))⟩) | (rw [if_neg (by intro e; cases e)]; with_reducible refine hK0 _ (wpQuiet_step (fun K1 hK1 => ?_)))
            clear hK0 K0
            go_simp
            first | (with_reducible refine hK1 _ (wpQuiet_step (fun K0 hK0 => ?_))) | (with_reducible refine ⟨_, fun _ _ => rfl, hK1 _ (wpQuiet_step (fun K0 hK0 => ?_))⟩) | (rw [if_neg (by intro e; cases e)]; with_reducible refine hK1 _ (wpQuiet_step (fun K0 hK0 => ?_)))
            clear hK1 K1
            go_simp
            first | (with_reducible refine hK0 _ (wpQuiet_step (fun K1 hK1 => ?_))) | (with_reducible refine ⟨_, fun _ _ => rfl, hK0 _ (wpQuiet_step (fun K1 hK1 => ?_))⟩) | (rw [if_neg (by intro e; cases e)]; with_reducible refine hK0 _ (wpQuiet_step (fun K1 hK1 => ?_)))
            clear hK0 K0
            go_simp
            first | (with_reducible refine hK1 _ (wpQuiet_step (fun K0 hK0 => ?_))) | (with_reducible refine ⟨_, fun _ _ => rfl, hK1 _ (wpQuiet_step (fun K0 hK0 => ?_))⟩) | (rw [if_neg (by intro e; cases e)]; with_reducible refine hK1 _ (wpQuiet_step (fun K0 hK0 => ?_)))
            clear hK1 K1
            go_simp
            first | (with_reducible refine hK0 _ (wpQuiet_step (fun K1 hK1 => ?_))) | (with_reducible refine ⟨_, fun _ _ => rfl, hK0 _ (wpQuiet_step (fun K1 hK1 => ?_))⟩) | (rw [if_neg (by intro e; cases e)]; with_reducible refine hK0 _ (wpQuiet_step (fun K1 hK1 => ?_)))
            clear hK0 K0
            go_simp
            first | (with_reducible refine hK1 _ (wpQuiet_step (fun K0 hK0 => ?_))) | (with_reducible refine ⟨_, fun _ _ => rfl, hK1 _ (wpQuiet_step (fun K0 hK0 => ?_))⟩) | (rw [if_neg (by intro e; cases e)]; with_reducible refine hK1 _ (wpQuiet_step (fun K0 hK0 => ?_)))
            clear hK1 K1
            go_simp
            first | (with_reducible refine hK0 _ (wpQuiet_step (fun K1 hK1 => ?_))) | (with_reducible refine ⟨_, fun _ _ => rfl, hK0 _ (wpQuiet_step (fun K1 hK1 => ?_))⟩) | (rw [if_neg (by intro e; cases e)]; with_reducible refine hK0 _ (wpQuiet_step (fun K1 hK1 => ?_)))
            clear hK0 K0
            go_simp
            first | (with_reducible refine hK1 _ (wpQuiet_step (fun K0 hK0 => ?_))) | (with_reducible refine ⟨_, fun _ _ => rfl, hK1 _ (wpQuiet_step (fun K0 hK0 => ?_))⟩) | (rw [if_neg (by intro e; cases e)]; with_reducible refine hK1 _ (wpQuiet_step (fun K0 hK0 => ?_)))
            clear hK1 K1
            go_simp
            refine ⟨A y.2, fun W hW => ?_, hK0 _ (wpQuiet_step (fun K1 hK1 => ?_))⟩
            · ((obtain ⟨u0, u1, u2, u3⟩ := HY.out W hW; simp [go_sem, u2, u3]))
            clear hK0 K0
            go_simp
            first | (with_reducible refine hK1 _ (wpQuiet_step (fun K0 hK0 => ?_))) | (with_reducible refine ⟨_, fun _ _ => rfl, hK1 _ (wpQuiet_step (fun K0 hK0 => ?_))⟩) | (rw [if_neg (by intro e; cases e)]; with_reducible refine hK1 _ (wpQuiet_step (fun K0 hK0 => ?_)))
            clear hK1 K1
            go_simp
            refine ⟨A x.1, fun W hW => ?_, hK0 _ (wpQuiet_step (fun K1 hK1 => ?_))⟩
            · ((obtain ⟨_, ⟨_, ⟨u0, u1, u2, u3⟩, _⟩, _⟩ := hW; simp [go_sem, u0, u1]))
            clear hK0 K0
            go_simp
            refine ⟨.bool false, fun W hW => ?_, hK1 _ (wpQuiet_step (fun K0 hK0 => ?_))⟩
            · exact (AP.out W).mono fun e w2 ⟨he, hb⟩ => ⟨by rw [he, E2.out], HSd.step hW hb⟩
            clear hK1 K1
            go_simp
            first | (with_reducible refine hK0 _ (wpQuiet_step (fun K1 hK1 => ?_))) | (with_reducible refine ⟨_, fun _ _ => rfl, hK0 _ (wpQuiet_step (fun K1 hK1 => ?_))⟩) | (rw [if_neg (by intro e; cases e)]; with_reducible refine hK0 _ (wpQuiet_step (fun K1 hK1 => ?_)))
            clear hK0 K0
            go_simp
            first | (with_reducible refine hK1 _ (wpQuiet_step (fun K0 hK0 => ?_))) | (with_reducible refine ⟨_, fun _ _ => rfl, hK1 _ (wpQuiet_step (fun K0 hK0 => ?_))⟩) | (rw [if_neg (by intro e; cases e)]; with_reducible refine hK1 _ (wpQuiet_step (fun K0 hK0 => ?_)))
            clear hK1 K1
            go_simp
            first | (with_reducible refine hK0 _ (wpQuiet_nil ?_)) | (with_reducible refine ⟨_, fun _ _ => rfl, hK0 _ (wpQuiet_nil ?_)⟩) | (rw [if_neg (by intro e; cases e)]; with_reducible refine hK0 _ (wpQuiet_nil ?_))
            clear hK0 K0
            intro w2 H2
            go_wp2
            go_ret
            exact ⟨by rw [R.out]; rfl, H2.1⟩
          | true =>
            have GK := hide (show goodAt l k = true by rw [GE.out, YD.out, e1, e2]; simp)
            have E2 := hide e2
            clear e1 e2 h0
            go_wp2_with fail
            clear x1 x2 x3 x4
            generalize wr.heap.size = g at F0 HY ⊢
            refine wp_region_quiet (C := HSd w g x b o l) (by kernel_rfl) (by kernel_rfl) F0.drew (wpQuiet_step (fun K0 hK0 => ?_))
            go_simp
            refine ⟨RV x, fun W hW => ?_, hK0 _ (wpQuiet_step (fun K1 hK1 => ?_))⟩
            · ((obtain ⟨_, ⟨_, ⟨u0, u1, u2, u3⟩, _⟩, _⟩ := hW; simp [go_sem, u0, u1, u2, u3]))
            clear hK0 K0
            go_simp
            refine ⟨.bool true, fun W hW => ?_, hK1 _ (wpQuiet_step (fun K0 hK0 => ?_))⟩
            · exact (IR.out W).mono fun e w2 ⟨he, hb⟩ => ⟨by rw [he, E1.out], HSd.step hW hb⟩
            clear hK1 K1
            go_simp
            first | (with_reducible refine hK0 _ (wpQuiet_step (fun K1 hK1 => ?_))) | (with_reducible refine ⟨_, fun _ _ => rfl, hK0 _ (wpQuiet_step (fun K1 hK1 => ?_))⟩) | (rw [if_neg (by intro e; cases e)]; with_reducible refine hK0 _ (wpQuiet_step (fun K1 hK1 => ?_)))
            clear hK0 K0
            go_simp
            first | (with_reducible refine hK1 _ (wpQuiet_step (fun K0 hK0 => ?_))) | (with_reducible refine ⟨_, fun _ _ => rfl, hK1 _ (wpQuiet_step (fun K0 hK0 => ?_))⟩) | (rw [if_neg (by intro e; cases e)]; with_reducible refine hK1 _ (wpQuiet_step (fun K0 hK0 => ?_)))
            clear hK1 K1
            go_simp
            first | (with_reducible refine hK0 _ (wpQuiet_step (fun K1 hK1 => ?_))) | (with_reducible refine ⟨_, fun _ _ => rfl, hK0 _ (wpQuiet_step (fun K1 hK1 => ?_))⟩) | (rw [if_neg (by intro e; cases e)]; with_reducible refine hK0 _ (wpQuiet_step (fun K1 hK1 => ?_)))
            clear hK0 K0
            go_simp
            first | (with_reducible refine hK1 _ (wpQuiet_step (fun K0 hK0 => ?_))) | (with_reducible refine ⟨_, fun _ _ => rfl, hK1 _ (wpQuiet_step (fun K0 hK0 => ?_))⟩) | (rw [if_neg (by intro e; cases e)]; with_reducible refine hK1 _ (wpQuiet_step (fun K0 hK0 => ?_)))
            clear hK1 K1
            go_simp
            first | (with_reducible refine hK0 _ (wpQuiet_step (fun K1 hK1 => ?_))) | (with_reducible refine ⟨_, fun _ _ => rfl, hK0 _ (wpQuiet_step (fun K1 hK1 => ?_))⟩) | (rw [if_neg (by intro e; cases e)]; with_reducible refine hK0 _ (wpQuiet_step (fun K1 hK1 => ?_)))
            clear hK0 K0
            go_simp
            first | (with_reducible refine hK1 _ (wpQuiet_step (fun K0 hK0 => ?_))) | (with_reducible refine ⟨_, fun _ _ => rfl, hK1 _ (wpQuiet_step (fun K0 hK0 => ?_))⟩) | (rw [if_neg (by intro e; cases e)]; with_reducible refine hK1 _ (wpQuiet_step (fun K0 hK0 => ?_)))
            clear hK1 K1
            go_simp
            first | (with_reducible refine hK0 _ (wpQuiet_step (fun K1 hK1 => ?_))) | (with_reducible refine ⟨_, fun _ _ => rfl, hK0 _ (wpQuiet_step (fun K1 hK1 => ?_))⟩) | (rw [if_neg (by intro e; cases e)]; with_reducible refine hK0 _ (wpQuiet_step (fun K1 hK1 => ?_)))
            clear hK0 K0
            go_simp
            first | (with_reducible refine hK1 _ (wpQuiet_step (fun K0 hK0 => ?_))) | (with_reducible refine ⟨_, fun _ _ => rfl, hK1 _ (wpQuiet_step (fun K0 hK0 => ?_))⟩) | (rw [if_neg (by intro e; cases e)]; with_reducible refine hK1 _ (wpQuiet_step (fun K0 hK0 => ?_)))
            clear hK1 K1
            go_simp
            first | (with_reducible refine hK0 _ (wpQuiet_step (fun K1 hK1 => ?_))) | (with_reducible refine ⟨_, fun _ _ => rfl, hK0 _ (wpQuiet_step (fun K1 hK1 => ?_))⟩) | (rw [if_neg (by intro e; cases e)]; with_reducible refine hK0 _ (wpQuiet_step (fun K1 hK1 => ?_)))
            clear hK0 K0
            go_simp
            first | (with_reducible refine hK1 _ (wpQuiet_step (fun K0 hK0 => ?_))) | (with_reducible refine ⟨_, fun _ _ => rfl, hK1 _ (wpQuiet_step (fun K0 hK0 => ?_))⟩) | (rw [if_neg (by intro e; cases e)]; with_reducible refine hK1 _ (wpQuiet_step (fun K0 hK0 => ?_)))
            clear hK1 K1
            go_simp
            refine ⟨A y.2, fun W hW => ?_, hK0 _ (wpQuiet_step (fun K1 hK1 => ?_))⟩
            · ((obtain ⟨u0, u1, u2, u3⟩ := HY.out W hW; simp [go_sem, u2, u3]))
            clear hK0 K0
            go_simp
            first | (with_reducible refine hK1 _ (wpQuiet_step (fun K0 hK0 => ?_))) | (with_reducible refine ⟨_, fun _ _ => rfl, hK1 _ (wpQuiet_step (fun K0 hK0 => ?_))⟩) | (rw [if_neg (by intro e; cases e)]; with_reducible refine hK1 _ (wpQuiet_step (fun K0 hK0 => ?_)))
            clear hK1 K1
            go_simp
            refine ⟨A x.1, fun W hW => ?_, hK0 _ (wpQuiet_step (fun K1 hK1 => ?_))⟩
            · ((obtain ⟨_, ⟨_, ⟨u0, u1, u2, u3⟩, _⟩, _⟩ := hW; simp [go_sem, u0, u1]))
            clear hK0 K0
            go_simp
            refine ⟨.bool true, fun W hW => ?_, hK1 _ (wpQuiet_step (fun K0 hK0 => ?_))⟩
            · exact (AP.out W).mono fun e w2 ⟨he, hb⟩ => ⟨by rw [he, E2.out], HSd.step hW hb⟩
            clear hK1 K1
            go_simp
            first | (with_reducible refine hK0 _ (wpQuiet_step (fun K1 hK1 => ?_))) | (with_reducible refine ⟨_, fun _ _ => rfl, hK0 _ (wpQuiet_step (fun K1 hK1 => ?_))⟩) | (rw [if_neg (by intro e; cases e)]; with_reducible refine hK0 _ (wpQuiet_step (fun K1 hK1 => ?_)))
            clear hK0 K0
            go_simp
            first | (with_reducible refine hK1 _ (wpQuiet_step (fun K0 hK0 => ?_))) | (with_reducible refine ⟨_, fun _ _ => rfl, hK1 _ (wpQuiet_step (fun K0 hK0 => ?_))⟩) | (rw [if_neg (by intro e; cases e)]; with_reducible refine hK1 _ (wpQuiet_step (fun K0 hK0 => ?_)))
            clear hK1 K1
            go_simp
            first | (with_reducible refine hK0 _ (wpQuiet_nil ?_)) | (with_reducible refine ⟨_, fun _ _ => rfl, hK0 _ (wpQuiet_nil ?_)⟩) | (rw [if_neg (by intro e; cases e)]; with_reducible refine hK0 _ (wpQuiet_nil ?_))
            clear hK0 K0
            intro w2 H2
            go_wp2
            go_roundw
            case rel => exact ⟨k + 1, hlt, by go_num, good_next HG.out GK.out, H2.1⟩
            case measure => simp [intOf]; omega
    · have R := hide (sound_true (l := l) (fun i hi => HG.out i (by omega)))
      go_wp2
      go_ret
      exact ⟨by rw [R.out]; rfl, HB⟩
set_option maxHeartbeats 400000 in
theorem sound_none (p : Option Go.Addr) (c : Nat) (w : World) : Calls Tryz.prog 38 #[.slice p 0 c] w (Gives (.bool true) w) := by
  go_enter Tryz.func38, Tryz.ntmps38
  go_wp2
  go_loop [7] (fun i => i = .int .i64 0) (fun _ => 0)
  case atStart => rfl
  case round =>
    obtain rfl := hrel
    go_wp2
    go_ret
    exact ⟨rfl, Below.refl _ _⟩
theorem lst_len {v : Value} {l : List Rg} {W : World} (h : Lst v l W) : ∃ p c, v = .slice p l.length c := by
  rcases h with ⟨p, c, h1, h2, _⟩ | ⟨b, o, c, h1, _⟩
  · exact ⟨p, c, by rw [h1, h2]; rfl⟩
  · exact ⟨_, _, h1⟩
theorem sound_any {v : Value} {l : List Rg} (hf : FitL l) (hl : l.length ≤ 1000000) (w : World) (h : Lst v l w) : Calls Tryz.prog 38 #[v] w (Gives (.bool (soundL l)) w) := by
  rcases h with ⟨p, c, rfl, rfl, _⟩ | ⟨b, o, c, rfl, hr, _⟩
  · exact sound_none p c w
  · exact sound_some b o c l hf hl w hr
end Go.Proofs.YtfmhpnendcikoaaGreat
