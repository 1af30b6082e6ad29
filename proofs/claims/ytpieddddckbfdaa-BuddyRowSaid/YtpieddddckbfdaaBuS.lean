/-
  Contract of Sound. Conditions: the words are words of 64 bits, an int is an int of 64 bits; a slice has at most 1000000 prefixes.
-/
import Derived.Test.YtpieddddckbfdaaBuB
namespace Go.Proofs.Ytpieddddckbfdaa
open Go.RowKit Go.Joins

/-- what the region of Sound keeps: the whole, the prefix of the round, the row -/
def HSd (w : World) (p : Bk) (g : Nat) (x : Bk) (v : Value) (l : List Bk) (W : World) : Prop := Below w.heap.size w W ∧ Box w.heap.size p W ∧ Box g x W ∧ Lst v l W
theorem HSd.step {w : World} {p : Bk} {g : Nat} {x : Bk} {v : Value} {l : List Bk} {W w2 : World} (h : HSd w p g x v l W) (hb : Below W.heap.size W w2) : HSd w p g x v l w2 := ⟨h.1.trans (hb.mono h.1.size), h.2.1.step hb, h.2.2.1.step hb, h.2.2.2.step hb⟩
theorem HSd.drew {w : World} {p : Bk} {g : Nat} {x : Bk} {v : Value} {l : List Bk} {W : World} (h : HSd w p g x v l W) : HSd w p g x v l { W with drawn := W.drawn + 1 } := h.step (Below.refl _ _).drew
/-- what the loop keeps -/
def HSk (w : World) (p : Bk) (v : Value) (l : List Bk) (W : World) : Prop := Below w.heap.size w W ∧ Box w.heap.size p W ∧ Lst v l W
theorem HSk.step {w : World} {p : Bk} {v : Value} {l : List Bk} {W w2 : World} (h : HSk w p v l W) (hb : Below W.heap.size W w2) : HSk w p v l w2 := ⟨h.1.trans (hb.mono h.1.size), h.2.1.step hb, h.2.2.step hb⟩
theorem HSd.k {w : World} {p : Bk} {g : Nat} {x : Bk} {v : Value} {l : List Bk} {W : World} (h : HSd w p g x v l W) : HSk w p v l W := ⟨h.1, h.2.1, h.2.2.2⟩
theorem hsd_new {w : World} {p : Bk} {v : Value} {l : List Bk} {W : World} (h : HSk w p v l W) (x : Bk) : HSd w p W.heap.size x v l (W.alloc (.cells #[.int .u64 (hi x.1 : Nat), .int .u64 (lo x.1 : Nat), .int .i64 x.2] 26)) :=
  ⟨chain h.1 (below_alloc _ _), h.2.1.step (below_alloc _ _), box_new _ _ _, h.2.2.step (below_alloc _ _)⟩
theorem hsk_new (w : World) (p : Bk) {v : Value} {l : List Bk} (h : Lst v l w) : HSk w p v l (w.alloc (.cells #[.int .u64 (hi p.1 : Nat), .int .u64 (lo p.1 : Nat), .int .i64 p.2] 26)) :=
  ⟨below_alloc _ _, box_new _ _ _, h.step (below_alloc _ _)⟩
theorem good_next {p : Bk} {l : List Bk} {k : Nat} (h : ∀ j, j < k → goodAt p l j = true) (hk : goodAt p l k = true) : ∀ j, j < k + 1 → goodAt p l j = true := by
  intro j hj
  by_cases e : j = k
  · rw [e]; exact hk
  · exact h j (by omega)
theorem good_false {p : Bk} {l : List Bk} {k : Nat} (hk : k < l.length) (h : goodAt p l k = false) : goodL p l = false := by
  unfold goodL
  cases e : (l.all (covB p) && adjB l) with
  | false => rw [Bool.and_false]
  | true =>
    rw [good_at.1 e k hk] at h
    cases h
theorem good_true {p : Bk} {l : List Bk} (h : ∀ j, j < l.length → goodAt p l j = true) : goodL p l = soundS p.1 p.2 := by
  unfold goodL
  rw [good_at.2 h, Bool.and_true]
  rfl
theorem good_eq {p : Bk} {l : List Bk} {k : Nat} {x : Bk} (h : l[k]? = some x) : goodAt p l k = (covB p x && (decide (k = 0) || apartB (l.getD (k - 1) (0, 0)) x)) := by unfold goodAt; rw [getD_some h]

set_option maxRecDepth 100000 in
set_option maxHeartbeats 1000000 in
theorem good_any {v : Value} {p : Bk} {l : List Bk} (fp : FitB p) (hf : FitL l) (hl : l.length ≤ 1000000) (w : World) (hv : Lst v l w) :
    Calls Try.prog 8 #[Bv p, v] w (Gives (.bool (goodL p l)) w) := by
  have HN := hsk_new w p hv
  obtain ⟨q, c, rfl⟩ := lst_len hv
  clear hv
  have SP := hide (fun W => sound_any (p := p.1) fp.1 p.2 W)
  go_enter Try.func8, Try.ntmps8
  go_wp2
  go_loopw [9] (fun i wr => ∃ k : Nat, k ≤ l.length ∧ i = .int .i64 (k : Nat) ∧ (∀ j, j < k → goodAt p l j = true) ∧ HSk w p (.slice q l.length c) l wr) (fun i _ => l.length - (intOf i).toNat)
  case atStart => exact ⟨0, Nat.zero_le _, rfl, fun j h => absurd h (Nat.not_lt_zero _), HN⟩
  case round =>
    obtain ⟨k, hk, rfl, hg, HB⟩ := hrel
    have HG := hide hg
    clear hg HN
    by_cases hlt : k < l.length
    · obtain ⟨x, hx⟩ := get_some hlt
      have fx := fit_at hf hx
      have GE := hide (good_eq (p := p) hx)
      have CV := hide (fun W => covers_any (p := p.1) fx.1 p.2 x.2 W)
      obtain ⟨b, o, rfl, _, x1, x2, x3⟩ := lst_at HB.2.2 hx
      have F0 := hsd_new HB x
      clear hx
      cases e1 : covB p x with
      | false =>
        have R := hide (good_false hlt (by rw [GE.out, e1]; rfl))
        have E1 := hide (show coversS p.1 p.2 x.1 x.2 = false from e1)
        clear e1 GE
        go_wp2_with fail
        clear x1 x2 x3 HB
        generalize wr.heap.size = g at F0 ⊢
        refine wp_region_quiet (C := HSd w p g x (.slice (some ⟨b, o, none⟩) l.length c) l) (by kernel_rfl) (by kernel_rfl) F0.drew (wpQuiet_step (fun K0 hK0 => ?_))
        go_simp
        refine ⟨Bv p, fun W hW => ?_, hK0 _ (wpQuiet_step (fun K1 hK1 => ?_))⟩
        · ((obtain ⟨_, ⟨_, ⟨u0, u1, u2⟩, _⟩, _⟩ := hW; simp [go_sem, u0, u1, u2]))
        clear hK0 K0
        go_simp
        refine ⟨Bv x, fun W hW => ?_, hK1 _ (wpQuiet_step (fun K0 hK0 => ?_))⟩
        · ((obtain ⟨_, _, ⟨_, ⟨u0, u1, u2⟩, _⟩, _⟩ := hW; simp [go_sem, u0, u1, u2]))
        clear hK1 K1
        go_simp
        refine ⟨.bool false, fun W hW => ?_, hK0 _ (wpQuiet_step (fun K1 hK1 => ?_))⟩
        · exact (CV.out W).mono fun e w2 ⟨he, hb⟩ => ⟨by rw [he, E1.out], HSd.step hW hb⟩
        clear hK0 K0
        go_simp
        first | (with_reducible refine hK1 _ (wpQuiet_step (fun K0 hK0 => ?_))) | (with_reducible refine ⟨_, fun _ _ => rfl, hK1 _ (wpQuiet_step (fun K0 hK0 => ?_))⟩) | (rw [if_neg (by intro e; cases e)]; with_reducible refine hK1 _ (wpQuiet_step (fun K0 hK0 => ?_)))
        clear hK1 K1
        go_simp
        first | (with_reducible refine hK0 _ (wpQuiet_step (fun K1 hK1 => ?_))) | (with_reducible refine ⟨_, fun _ _ => rfl, hK0 _ (wpQuiet_step (fun K1 hK1 => ?_))⟩) | (rw [if_neg (by intro e; cases e)]; with_reducible refine hK0 _ (wpQuiet_step (fun K1 hK1 => ?_)))
        clear hK0 K0
        go_simp
        first | (with_reducible refine hK1 _ (wpQuiet_step (fun K0 hK0 => ?_))) | (with_reducible refine ⟨_, fun _ _ => rfl, hK1 _ (wpQuiet_step (fun K0 hK0 => ?_))⟩) | (rw [if_neg (by intro e; cases e)]; with_reducible refine hK1 _ (wpQuiet_step (fun K0 hK0 => ?_)))
        clear hK1 K1
        go_simp
        first | (with_reducible refine hK0 _ (wpQuiet_step (fun K1 hK1 => ?_))) | (with_reducible refine ⟨_, fun _ _ => rfl, hK0 _ (wpQuiet_step (fun K1 hK1 => ?_))⟩) | (rw [if_neg (by intro e; cases e)]; with_reducible refine hK0 _ (wpQuiet_step (fun K1 hK1 => ?_)))
        clear hK0 K0
        go_simp
        first | (with_reducible refine hK1 _ (wpQuiet_step (fun K0 hK0 => ?_))) | (with_reducible refine ⟨_, fun _ _ => rfl, hK1 _ (wpQuiet_step (fun K0 hK0 => ?_))⟩) | (rw [if_neg (by intro e; cases e)]; with_reducible refine hK1 _ (wpQuiet_step (fun K0 hK0 => ?_)))
        clear hK1 K1
        go_simp
        first | (with_reducible refine hK0 _ (wpQuiet_step (fun K1 hK1 => ?_))) | (with_reducible refine ⟨_, fun _ _ => rfl, hK0 _ (wpQuiet_step (fun K1 hK1 => ?_))⟩) | (rw [if_neg (by intro e; cases e)]; with_reducible refine hK0 _ (wpQuiet_step (fun K1 hK1 => ?_)))
        clear hK0 K0
        go_simp
        first | (with_reducible refine hK1 _ (wpQuiet_step (fun K0 hK0 => ?_))) | (with_reducible refine ⟨_, fun _ _ => rfl, hK1 _ (wpQuiet_step (fun K0 hK0 => ?_))⟩) | (rw [if_neg (by intro e; cases e)]; with_reducible refine hK1 _ (wpQuiet_step (fun K0 hK0 => ?_)))
        clear hK1 K1
        go_simp
        first | (with_reducible refine hK0 _ (wpQuiet_step (fun K1 hK1 => ?_))) | (with_reducible refine ⟨_, fun _ _ => rfl, hK0 _ (wpQuiet_step (fun K1 hK1 => ?_))⟩) | (rw [if_neg (by intro e; cases e)]; with_reducible refine hK0 _ (wpQuiet_step (fun K1 hK1 => ?_)))
        clear hK0 K0
        go_simp
        first | (with_reducible refine hK1 _ (wpQuiet_step (fun K0 hK0 => ?_))) | (with_reducible refine ⟨_, fun _ _ => rfl, hK1 _ (wpQuiet_step (fun K0 hK0 => ?_))⟩) | (rw [if_neg (by intro e; cases e)]; with_reducible refine hK1 _ (wpQuiet_step (fun K0 hK0 => ?_)))
        clear hK1 K1
        go_simp
        first | (with_reducible refine hK0 _ (wpQuiet_step (fun K1 hK1 => ?_))) | (with_reducible refine ⟨_, fun _ _ => rfl, hK0 _ (wpQuiet_step (fun K1 hK1 => ?_))⟩) | (rw [if_neg (by intro e; cases e)]; with_reducible refine hK0 _ (wpQuiet_step (fun K1 hK1 => ?_)))
        clear hK0 K0
        go_simp
        first | (with_reducible refine hK1 _ (wpQuiet_step (fun K0 hK0 => ?_))) | (with_reducible refine ⟨_, fun _ _ => rfl, hK1 _ (wpQuiet_step (fun K0 hK0 => ?_))⟩) | (rw [if_neg (by intro e; cases e)]; with_reducible refine hK1 _ (wpQuiet_step (fun K0 hK0 => ?_)))
        clear hK1 K1
        go_simp
        first | (with_reducible refine hK0 _ (wpQuiet_step (fun K1 hK1 => ?_))) | (with_reducible refine ⟨_, fun _ _ => rfl, hK0 _ (wpQuiet_step (fun K1 hK1 => ?_))⟩) | (rw [if_neg (by intro e; cases e)]; with_reducible refine hK0 _ (wpQuiet_step (fun K1 hK1 => ?_)))
        clear hK0 K0
        go_simp
        first | (with_reducible refine hK1 _ (wpQuiet_step (fun K0 hK0 => ?_))) | (with_reducible refine ⟨_, fun _ _ => rfl, hK1 _ (wpQuiet_step (fun K0 hK0 => ?_))⟩) | (rw [if_neg (by intro e; cases e)]; with_reducible refine hK1 _ (wpQuiet_step (fun K0 hK0 => ?_)))
        clear hK1 K1
        go_simp
        first | (with_reducible refine hK0 _ (wpQuiet_step (fun K1 hK1 => ?_))) | (with_reducible refine ⟨_, fun _ _ => rfl, hK0 _ (wpQuiet_step (fun K1 hK1 => ?_))⟩) | (rw [if_neg (by intro e; cases e)]; with_reducible refine hK0 _ (wpQuiet_step (fun K1 hK1 => ?_)))
        clear hK0 K0
        go_simp
        first | (with_reducible refine hK1 _ (wpQuiet_nil ?_)) | (with_reducible refine ⟨_, fun _ _ => rfl, hK1 _ (wpQuiet_nil ?_)⟩) | (rw [if_neg (by intro e; cases e)]; with_reducible refine hK1 _ (wpQuiet_nil ?_))
        clear hK1 K1
        intro w2 H2
        go_wp2
        go_ret
        exact ⟨by rw [R.out]; rfl, H2.1⟩
      | true =>
        have E1 := hide (show coversS p.1 p.2 x.1 x.2 = true from e1)
        by_cases h0 : k = 0
        · have GK := hide (show goodAt p l k = true by rw [GE.out, e1, decide_eq_true h0]; rfl)
          have P0 : ¬ 0 < k := by omega
          clear e1 h0
          go_wp2_with fail
          clear x1 x2 x3 HB
          generalize wr.heap.size = g at F0 ⊢
          refine wp_region_quiet (C := HSd w p g x (.slice (some ⟨b, o, none⟩) l.length c) l) (by kernel_rfl) (by kernel_rfl) F0.drew (wpQuiet_step (fun K0 hK0 => ?_))
          go_simp
          refine ⟨Bv p, fun W hW => ?_, hK0 _ (wpQuiet_step (fun K1 hK1 => ?_))⟩
          · ((obtain ⟨_, ⟨_, ⟨u0, u1, u2⟩, _⟩, _⟩ := hW; simp [go_sem, u0, u1, u2]))
          clear hK0 K0
          go_simp
          refine ⟨Bv x, fun W hW => ?_, hK1 _ (wpQuiet_step (fun K0 hK0 => ?_))⟩
          · ((obtain ⟨_, _, ⟨_, ⟨u0, u1, u2⟩, _⟩, _⟩ := hW; simp [go_sem, u0, u1, u2]))
          clear hK1 K1
          go_simp
          refine ⟨.bool true, fun W hW => ?_, hK0 _ (wpQuiet_step (fun K1 hK1 => ?_))⟩
          · exact (CV.out W).mono fun e w2 ⟨he, hb⟩ => ⟨by rw [he, E1.out], HSd.step hW hb⟩
          clear hK0 K0
          go_simp
          first | (with_reducible refine hK1 _ (wpQuiet_step (fun K0 hK0 => ?_))) | (with_reducible refine ⟨_, fun _ _ => rfl, hK1 _ (wpQuiet_step (fun K0 hK0 => ?_))⟩) | (rw [if_neg (by intro e; cases e)]; with_reducible refine hK1 _ (wpQuiet_step (fun K0 hK0 => ?_)))
          clear hK1 K1
          go_simp
          first | (with_reducible refine hK0 _ (wpQuiet_step (fun K1 hK1 => ?_))) | (with_reducible refine ⟨_, fun _ _ => rfl, hK0 _ (wpQuiet_step (fun K1 hK1 => ?_))⟩) | (rw [if_neg (by intro e; cases e)]; with_reducible refine hK0 _ (wpQuiet_step (fun K1 hK1 => ?_)))
          clear hK0 K0
          go_simp
          first | (with_reducible refine hK1 _ (wpQuiet_step (fun K0 hK0 => ?_))) | (with_reducible refine ⟨_, fun _ _ => rfl, hK1 _ (wpQuiet_step (fun K0 hK0 => ?_))⟩) | (rw [if_neg (by intro e; cases e)]; with_reducible refine hK1 _ (wpQuiet_step (fun K0 hK0 => ?_)))
          clear hK1 K1
          go_simp
          first | (with_reducible refine hK0 _ (wpQuiet_step (fun K1 hK1 => ?_))) | (with_reducible refine ⟨_, fun _ _ => rfl, hK0 _ (wpQuiet_step (fun K1 hK1 => ?_))⟩) | (rw [if_neg (by intro e; cases e)]; with_reducible refine hK0 _ (wpQuiet_step (fun K1 hK1 => ?_)))
          clear hK0 K0
          go_simp
          first | (with_reducible refine hK1 _ (wpQuiet_step (fun K0 hK0 => ?_))) | (with_reducible refine ⟨_, fun _ _ => rfl, hK1 _ (wpQuiet_step (fun K0 hK0 => ?_))⟩) | (rw [if_neg (by intro e; cases e)]; with_reducible refine hK1 _ (wpQuiet_step (fun K0 hK0 => ?_)))
          clear hK1 K1
          go_simp
          first | (with_reducible refine hK0 _ (wpQuiet_step (fun K1 hK1 => ?_))) | (with_reducible refine ⟨_, fun _ _ => rfl, hK0 _ (wpQuiet_step (fun K1 hK1 => ?_))⟩) | (rw [if_neg (by intro e; cases e)]; with_reducible refine hK0 _ (wpQuiet_step (fun K1 hK1 => ?_)))
          clear hK0 K0
          go_simp
          first | (with_reducible refine hK1 _ (wpQuiet_step (fun K0 hK0 => ?_))) | (with_reducible refine ⟨_, fun _ _ => rfl, hK1 _ (wpQuiet_step (fun K0 hK0 => ?_))⟩) | (rw [if_neg (by intro e; cases e)]; with_reducible refine hK1 _ (wpQuiet_step (fun K0 hK0 => ?_)))
          clear hK1 K1
          go_simp
          first | (with_reducible refine hK0 _ (wpQuiet_step (fun K1 hK1 => ?_))) | (with_reducible refine ⟨_, fun _ _ => rfl, hK0 _ (wpQuiet_step (fun K1 hK1 => ?_))⟩) | (rw [if_neg (by intro e; cases e)]; with_reducible refine hK0 _ (wpQuiet_step (fun K1 hK1 => ?_)))
          clear hK0 K0
          go_simp
          first | (with_reducible refine hK1 _ (wpQuiet_step (fun K0 hK0 => ?_))) | (with_reducible refine ⟨_, fun _ _ => rfl, hK1 _ (wpQuiet_step (fun K0 hK0 => ?_))⟩) | (rw [if_neg (by intro e; cases e)]; with_reducible refine hK1 _ (wpQuiet_step (fun K0 hK0 => ?_)))
          clear hK1 K1
          go_simp
          first | (with_reducible refine hK0 _ (wpQuiet_step (fun K1 hK1 => ?_))) | (with_reducible refine ⟨_, fun _ _ => rfl, hK0 _ (wpQuiet_step (fun K1 hK1 => ?_))⟩) | (rw [if_neg (by intro e; cases e)]; with_reducible refine hK0 _ (wpQuiet_step (fun K1 hK1 => ?_)))
          clear hK0 K0
          go_simp
          first | (with_reducible refine hK1 _ (wpQuiet_step (fun K0 hK0 => ?_))) | (with_reducible refine ⟨_, fun _ _ => rfl, hK1 _ (wpQuiet_step (fun K0 hK0 => ?_))⟩) | (rw [if_neg (by intro e; cases e)]; with_reducible refine hK1 _ (wpQuiet_step (fun K0 hK0 => ?_)))
          clear hK1 K1
          go_simp
          first | (with_reducible refine hK0 _ (wpQuiet_step (fun K1 hK1 => ?_))) | (with_reducible refine ⟨_, fun _ _ => rfl, hK0 _ (wpQuiet_step (fun K1 hK1 => ?_))⟩) | (rw [if_neg (by intro e; cases e)]; with_reducible refine hK0 _ (wpQuiet_step (fun K1 hK1 => ?_)))
          clear hK0 K0
          go_simp
          first | (with_reducible refine hK1 _ (wpQuiet_step (fun K0 hK0 => ?_))) | (with_reducible refine ⟨_, fun _ _ => rfl, hK1 _ (wpQuiet_step (fun K0 hK0 => ?_))⟩) | (rw [if_neg (by intro e; cases e)]; with_reducible refine hK1 _ (wpQuiet_step (fun K0 hK0 => ?_)))
          clear hK1 K1
          go_simp
          first | (with_reducible refine hK0 _ (wpQuiet_step (fun K1 hK1 => ?_))) | (with_reducible refine ⟨_, fun _ _ => rfl, hK0 _ (wpQuiet_step (fun K1 hK1 => ?_))⟩) | (rw [if_neg (by intro e; cases e)]; with_reducible refine hK0 _ (wpQuiet_step (fun K1 hK1 => ?_)))
          clear hK0 K0
          go_simp
          first | (with_reducible refine hK1 _ (wpQuiet_nil ?_)) | (with_reducible refine ⟨_, fun _ _ => rfl, hK1 _ (wpQuiet_nil ?_)⟩) | (rw [if_neg (by intro e; cases e)]; with_reducible refine hK1 _ (wpQuiet_nil ?_))
          clear hK1 K1
          intro w2 H2
          go_wp2
          go_roundw
          case rel => exact ⟨k + 1, hlt, by go_num, good_next HG.out GK.out, H2.k⟩
          case measure => simp [intOf]; omega
        · obtain ⟨y, hy⟩ := get_some (show k - 1 < l.length by omega)
          have fy := fit_at hf hy
          have AP := hide (fun W => apart_any fy fx W)
          have YD := hide (getD_some hy)
          have HY := hide (fun W (H : HSd w p wr.heap.size x (.slice (some ⟨b, o, none⟩) l.length c) l W) => lst_at H.2.2.2 hy)
          have P0 : 0 < k := by omega
          have B0 : 0 ≤ (k : Int) - 1 := by omega
          have B1 : 1 ≤ (k : Int) := by omega
          have WS : IntKind.i64.wrap ((k : Int) - 1) = (k : Int) - 1 := IntWalk.i64_in _ ⟨by omega, by omega⟩
          have BL : (k : Int) - 1 < (l.length : Int) := by omega
          have BN : ((k : Int) - 1).toNat = k - 1 := by omega
          clear hy
          cases e2 : apartB y x with
          | false =>
            have R := hide (good_false hlt (by rw [GE.out, YD.out, e2, decide_eq_false h0]; simp))
            have E2 := hide e2
            clear e1 e2 h0
            go_wp2_with fail
            clear x1 x2 x3 HB
            generalize wr.heap.size = g at F0 HY ⊢
            refine wp_region_quiet (C := HSd w p g x (.slice (some ⟨b, o, none⟩) l.length c) l) (by kernel_rfl) (by kernel_rfl) F0.drew (wpQuiet_step (fun K0 hK0 => ?_))
            go_simp
            refine ⟨Bv p, fun W hW => ?_, hK0 _ (wpQuiet_step (fun K1 hK1 => ?_))⟩
            · ((obtain ⟨_, ⟨_, ⟨u0, u1, u2⟩, _⟩, _⟩ := hW; simp [go_sem, u0, u1, u2]))
            clear hK0 K0
            go_simp
            refine ⟨Bv x, fun W hW => ?_, hK1 _ (wpQuiet_step (fun K0 hK0 => ?_))⟩
            · ((obtain ⟨_, _, ⟨_, ⟨u0, u1, u2⟩, _⟩, _⟩ := hW; simp [go_sem, u0, u1, u2]))
            clear hK1 K1
            go_simp
            refine ⟨.bool true, fun W hW => ?_, hK0 _ (wpQuiet_step (fun K1 hK1 => ?_))⟩
            · exact (CV.out W).mono fun e w2 ⟨he, hb⟩ => ⟨by rw [he, E1.out], HSd.step hW hb⟩
            clear hK0 K0
            go_simp
            first | (with_reducible refine hK1 _ (wpQuiet_step (fun K0 hK0 => ?_))) | (with_reducible refine ⟨_, fun _ _ => rfl, hK1 _ (wpQuiet_step (fun K0 hK0 => ?_))⟩) | (rw [if_neg (by intro e; cases e)]; with_reducible refine hK1 _ (wpQuiet_step (fun K0 hK0 => ?_)))
            clear hK1 K1
            go_simp
            first | (with_reducible refine hK0 _ (wpQuiet_step (fun K1 hK1 => ?_))) | (with_reducible refine ⟨_, fun _ _ => rfl, hK0 _ (wpQuiet_step (fun K1 hK1 => ?_))⟩) | (rw [if_neg (by intro e; cases e)]; with_reducible refine hK0 _ (wpQuiet_step (fun K1 hK1 => ?_)))
            clear hK0 K0
            go_simp
            first | (with_reducible refine hK1 _ (wpQuiet_step (fun K0 hK0 => ?_))) | (with_reducible refine ⟨_, fun _ _ => rfl, hK1 _ (wpQuiet_step (fun K0 hK0 => ?_))⟩) | (rw [if_neg (by intro e; cases e)]; with_reducible refine hK1 _ (wpQuiet_step (fun K0 hK0 => ?_)))
            clear hK1 K1
            go_simp
            first | (with_reducible refine hK0 _ (wpQuiet_step (fun K1 hK1 => ?_))) | (with_reducible refine ⟨_, fun _ _ => rfl, hK0 _ (wpQuiet_step (fun K1 hK1 => ?_))⟩) | (rw [if_neg (by intro e; cases e)]; with_reducible refine hK0 _ (wpQuiet_step (fun K1 hK1 => ?_)))
            clear hK0 K0
            go_simp
            first | (with_reducible refine hK1 _ (wpQuiet_step (fun K0 hK0 => ?_))) | (with_reducible refine ⟨_, fun _ _ => rfl, hK1 _ (wpQuiet_step (fun K0 hK0 => ?_))⟩) | (rw [if_neg (by intro e; cases e)]; with_reducible refine hK1 _ (wpQuiet_step (fun K0 hK0 => ?_)))
            clear hK1 K1
            go_simp
            first | (with_reducible refine hK0 _ (wpQuiet_step (fun K1 hK1 => ?_))) | (with_reducible refine ⟨_, fun _ _ => rfl, hK0 _ (wpQuiet_step (fun K1 hK1 => ?_))⟩) | (rw [if_neg (by intro e; cases e)]; with_reducible refine hK0 _ (wpQuiet_step (fun K1 hK1 => ?_)))
            clear hK0 K0
            go_simp
            first | (with_reducible refine hK1 _ (wpQuiet_step (fun K0 hK0 => ?_))) | (with_reducible refine ⟨_, fun _ _ => rfl, hK1 _ (wpQuiet_step (fun K0 hK0 => ?_))⟩) | (rw [if_neg (by intro e; cases e)]; with_reducible refine hK1 _ (wpQuiet_step (fun K0 hK0 => ?_)))
            clear hK1 K1
            go_simp
            first | (with_reducible refine hK0 _ (wpQuiet_step (fun K1 hK1 => ?_))) | (with_reducible refine ⟨_, fun _ _ => rfl, hK0 _ (wpQuiet_step (fun K1 hK1 => ?_))⟩) | (rw [if_neg (by intro e; cases e)]; with_reducible refine hK0 _ (wpQuiet_step (fun K1 hK1 => ?_)))
            clear hK0 K0
            go_simp
            first | (with_reducible refine hK1 _ (wpQuiet_step (fun K0 hK0 => ?_))) | (with_reducible refine ⟨_, fun _ _ => rfl, hK1 _ (wpQuiet_step (fun K0 hK0 => ?_))⟩) | (rw [if_neg (by intro e; cases e)]; with_reducible refine hK1 _ (wpQuiet_step (fun K0 hK0 => ?_)))
            clear hK1 K1
            go_simp
            refine ⟨Bv y, fun W hW => ?_, hK0 _ (wpQuiet_step (fun K1 hK1 => ?_))⟩
            · ((obtain ⟨_, _, eb, _, u0, u1, u2⟩ := HY.out W hW; cases eb; simp [go_sem, u0, u1, u2]))
            clear hK0 K0
            go_simp
            refine ⟨Bv x, fun W hW => ?_, hK1 _ (wpQuiet_step (fun K0 hK0 => ?_))⟩
            · ((obtain ⟨_, _, ⟨_, ⟨u0, u1, u2⟩, _⟩, _⟩ := hW; simp [go_sem, u0, u1, u2]))
            clear hK1 K1
            go_simp
            refine ⟨.bool false, fun W hW => ?_, hK0 _ (wpQuiet_step (fun K1 hK1 => ?_))⟩
            · exact (AP.out W).mono fun e w2 ⟨he, hb⟩ => ⟨by rw [he, E2.out], HSd.step hW hb⟩
            clear hK0 K0
            go_simp
            first | (with_reducible refine hK1 _ (wpQuiet_step (fun K0 hK0 => ?_))) | (with_reducible refine ⟨_, fun _ _ => rfl, hK1 _ (wpQuiet_step (fun K0 hK0 => ?_))⟩) | (rw [if_neg (by intro e; cases e)]; with_reducible refine hK1 _ (wpQuiet_step (fun K0 hK0 => ?_)))
            clear hK1 K1
            go_simp
            first | (with_reducible refine hK0 _ (wpQuiet_step (fun K1 hK1 => ?_))) | (with_reducible refine ⟨_, fun _ _ => rfl, hK0 _ (wpQuiet_step (fun K1 hK1 => ?_))⟩) | (rw [if_neg (by intro e; cases e)]; with_reducible refine hK0 _ (wpQuiet_step (fun K1 hK1 => ?_)))
            clear hK0 K0
            go_simp
            first | (with_reducible refine hK1 _ (wpQuiet_nil ?_)) | (with_reducible refine ⟨_, fun _ _ => rfl, hK1 _ (wpQuiet_nil ?_)⟩) | (rw [if_neg (by intro e; cases e)]; with_reducible refine hK1 _ (wpQuiet_nil ?_))
            clear hK1 K1
            intro w2 H2
            go_wp2
            go_ret
            exact ⟨by rw [R.out]; rfl, H2.1⟩
          | true =>
            have GK := hide (show goodAt p l k = true by rw [GE.out, YD.out, e1, e2]; simp)
            have E2 := hide e2
            clear e1 e2 h0
            go_wp2_with fail
            clear x1 x2 x3 HB
            generalize wr.heap.size = g at F0 HY ⊢
            refine wp_region_quiet (C := HSd w p g x (.slice (some ⟨b, o, none⟩) l.length c) l) (by kernel_rfl) (by kernel_rfl) F0.drew (wpQuiet_step (fun K0 hK0 => ?_))
            go_simp
            refine ⟨Bv p, fun W hW => ?_, hK0 _ (wpQuiet_step (fun K1 hK1 => ?_))⟩
            · ((obtain ⟨_, ⟨_, ⟨u0, u1, u2⟩, _⟩, _⟩ := hW; simp [go_sem, u0, u1, u2]))
            clear hK0 K0
            go_simp
            refine ⟨Bv x, fun W hW => ?_, hK1 _ (wpQuiet_step (fun K0 hK0 => ?_))⟩
            · ((obtain ⟨_, _, ⟨_, ⟨u0, u1, u2⟩, _⟩, _⟩ := hW; simp [go_sem, u0, u1, u2]))
            clear hK1 K1
            go_simp
            refine ⟨.bool true, fun W hW => ?_, hK0 _ (wpQuiet_step (fun K1 hK1 => ?_))⟩
            · exact (CV.out W).mono fun e w2 ⟨he, hb⟩ => ⟨by rw [he, E1.out], HSd.step hW hb⟩
            clear hK0 K0
            go_simp
            first | (with_reducible refine hK1 _ (wpQuiet_step (fun K0 hK0 => ?_))) | (with_reducible refine ⟨_, fun _ _ => rfl, hK1 _ (wpQuiet_step (fun K0 hK0 => ?_))⟩) | (rw [if_neg (by intro e; cases e)]; with_reducible refine hK1 _ (wpQuiet_step (fun K0 hK0 => ?_)))
            clear hK1 K1
            go_simp
            first | (with_reducible refine hK0 _ (wpQuiet_step (fun K1 hK1 => ?_))) | (with_reducible refine ⟨_, fun _ _ => rfl, hK0 _ (wpQuiet_step (fun K1 hK1 => ?_))⟩) | (rw [if_neg (by intro e; cases e)]; with_reducible refine hK0 _ (wpQuiet_step (fun K1 hK1 => ?_)))
            clear hK0 K0
            go_simp
            first | (with_reducible refine hK1 _ (wpQuiet_step (fun K0 hK0 => ?_))) | (with_reducible refine ⟨_, fun _ _ => rfl, hK1 _ (wpQuiet_step (fun K0 hK0 => ?_))⟩) | (rw [if_neg (by intro e; cases e)]; with_reducible refine hK1 _ (wpQuiet_step (fun K0 hK0 => ?_)))
            clear hK1 K1
            go_simp
            first | (with_reducible refine hK0 _ (wpQuiet_step (fun K1 hK1 => ?_))) | (with_reducible refine ⟨_, fun _ _ => rfl, hK0 _ (wpQuiet_step (fun K1 hK1 => ?_))⟩) | (rw [if_neg (by intro e; cases e)]; with_reducible refine hK0 _ (wpQuiet_step (fun K1 hK1 => ?_)))
            clear hK0 K0
            go_simp
            first | (with_reducible refine hK1 _ (wpQuiet_step (fun K0 hK0 => ?_))) | (with_reducible refine ⟨_, fun _ _ => rfl, hK1 _ (wpQuiet_step (fun K0 hK0 => ?_))⟩) | (rw [if_neg (by intro e; cases e)]; with_reducible refine hK1 _ (wpQuiet_step (fun K0 hK0 => ?_)))
            clear hK1 K1
            go_simp
            first | (with_reducible refine hK0 _ (wpQuiet_step (fun K1 hK1 => ?_))) | (with_reducible refine ⟨_, fun _ _ => rfl, hK0 _ (wpQuiet_step (fun K1 hK1 => ?_))⟩) | (rw [if_neg (by intro e; cases e)]; with_reducible refine hK0 _ (wpQuiet_step (fun K1 hK1 => ?_)))
            clear hK0 K0
            go_simp
            first | (with_reducible refine hK1 _ (wpQuiet_step (fun K0 hK0 => ?_))) | (with_reducible refine ⟨_, fun _ _ => rfl, hK1 _ (wpQuiet_step (fun K0 hK0 => ?_))⟩) | (rw [if_neg (by intro e; cases e)]; with_reducible refine hK1 _ (wpQuiet_step (fun K0 hK0 => ?_)))
            clear hK1 K1
            go_simp
            first | (with_reducible refine hK0 _ (wpQuiet_step (fun K1 hK1 => ?_))) | (with_reducible refine ⟨_, fun _ _ => rfl, hK0 _ (wpQuiet_step (fun K1 hK1 => ?_))⟩) | (rw [if_neg (by intro e; cases e)]; with_reducible refine hK0 _ (wpQuiet_step (fun K1 hK1 => ?_)))
            clear hK0 K0
            go_simp
            first | (with_reducible refine hK1 _ (wpQuiet_step (fun K0 hK0 => ?_))) | (with_reducible refine ⟨_, fun _ _ => rfl, hK1 _ (wpQuiet_step (fun K0 hK0 => ?_))⟩) | (rw [if_neg (by intro e; cases e)]; with_reducible refine hK1 _ (wpQuiet_step (fun K0 hK0 => ?_)))
            clear hK1 K1
            go_simp
            refine ⟨Bv y, fun W hW => ?_, hK0 _ (wpQuiet_step (fun K1 hK1 => ?_))⟩
            · ((obtain ⟨_, _, eb, _, u0, u1, u2⟩ := HY.out W hW; cases eb; simp [go_sem, u0, u1, u2]))
            clear hK0 K0
            go_simp
            refine ⟨Bv x, fun W hW => ?_, hK1 _ (wpQuiet_step (fun K0 hK0 => ?_))⟩
            · ((obtain ⟨_, _, ⟨_, ⟨u0, u1, u2⟩, _⟩, _⟩ := hW; simp [go_sem, u0, u1, u2]))
            clear hK1 K1
            go_simp
            refine ⟨.bool true, fun W hW => ?_, hK0 _ (wpQuiet_step (fun K1 hK1 => ?_))⟩
            · exact (AP.out W).mono fun e w2 ⟨he, hb⟩ => ⟨by rw [he, E2.out], HSd.step hW hb⟩
            clear hK0 K0
            go_simp
            first | (with_reducible refine hK1 _ (wpQuiet_step (fun K0 hK0 => ?_))) | (with_reducible refine ⟨_, fun _ _ => rfl, hK1 _ (wpQuiet_step (fun K0 hK0 => ?_))⟩) | (rw [if_neg (by intro e; cases e)]; with_reducible refine hK1 _ (wpQuiet_step (fun K0 hK0 => ?_)))
            clear hK1 K1
            go_simp
            first | (with_reducible refine hK0 _ (wpQuiet_step (fun K1 hK1 => ?_))) | (with_reducible refine ⟨_, fun _ _ => rfl, hK0 _ (wpQuiet_step (fun K1 hK1 => ?_))⟩) | (rw [if_neg (by intro e; cases e)]; with_reducible refine hK0 _ (wpQuiet_step (fun K1 hK1 => ?_)))
            clear hK0 K0
            go_simp
            first | (with_reducible refine hK1 _ (wpQuiet_nil ?_)) | (with_reducible refine ⟨_, fun _ _ => rfl, hK1 _ (wpQuiet_nil ?_)⟩) | (rw [if_neg (by intro e; cases e)]; with_reducible refine hK1 _ (wpQuiet_nil ?_))
            clear hK1 K1
            intro w2 H2
            go_wp2
            go_roundw
            case rel => exact ⟨k + 1, hlt, by go_num, good_next HG.out GK.out, H2.k⟩
            case measure => simp [intOf]; omega
    · have R := hide (good_true (p := p) (l := l) (fun i hi => HG.out i (by omega)))
      obtain ⟨_, ⟨z, ⟨u0, u1, u2⟩, _⟩, _⟩ := id HB
      go_wp2_with fail
      refine (SP.out _).mono ?_
      rintro e w2 ⟨rfl, hb2⟩
      go_wp2
      go_ret
      exact ⟨congrArg Ending.returned (bool_eq R.out.symm), chain HB.1 hb2⟩
end Go.Proofs.Ytpieddddckbfdaa
