/-
  Contracts of the document's own covered, met, Fits, pair and Sound. Conditions: the words are words of 64 bits, an int is an int of 64 bits; a slice has at most 1000000 prefixes.
-/
import Derived.Test.YtpieddddckbfdaaBuI
import Derived.Test.YtpieddddckbfdaaBRef
namespace Go.Proofs.Ytpieddddckbfdaa
open Go.RowKit Go.Joins

/-- a box and a list that are read -/
def HQ3 (w : World) (b : Bk) (v : Value) (l : List Bk) (W : World) : Prop := Below w.heap.size w W ∧ Box w.heap.size b W ∧ Lst v l W
theorem HQ3.step {w : World} {b : Bk} {v : Value} {l : List Bk} {W w2 : World} (h : HQ3 w b v l W) (hb : Below W.heap.size W w2) : HQ3 w b v l w2 := ⟨h.1.trans (hb.mono h.1.size), h.2.1.step hb, h.2.2.step hb⟩
theorem HQ3.drew {w : World} {b : Bk} {v : Value} {l : List Bk} {W : World} (h : HQ3 w b v l W) : HQ3 w b v l { W with drawn := W.drawn + 1 } := h.step (Below.refl _ _).drew
theorem hq3_new (w : World) (b : Bk) {v : Value} {l : List Bk} (h : Lst v l w) : HQ3 w b v l (w.alloc (.cells #[.int .u64 (hi b.1 : Nat), .int .u64 (lo b.1 : Nat), .int .i64 b.2] 26)) :=
  ⟨below_alloc _ _, box_new _ _ _, h.step (below_alloc _ _)⟩
theorem any_yes {P : Bk → Bool} {l : List Bk} {k : Nat} {x : Bk} (hx : l[k]? = some x) (h : P x = true) : l.any P = true := List.any_eq_true.2 ⟨x, List.mem_of_getElem? hx, h⟩
theorem any_no {P : Bk → Bool} {l : List Bk} (h : ∀ j, j < l.length → P (l.getD j (0, 0)) = false) : l.any P = false := by
  rw [List.any_eq_false]
  intro x hx
  obtain ⟨j, hj, rfl⟩ := List.getElem_of_mem hx
  have := h j hj
  rw [List.getD_eq_getElem?_getD, List.getElem?_eq_getElem hj] at this
  simpa using this
theorem next_no {P : Bk → Bool} {l : List Bk} {k : Nat} {x : Bk} (hx : l.getD k (0, 0) = x) (h : P x = false) (hg : ∀ j, j < k → P (l.getD j (0, 0)) = false) : ∀ j, j < k + 1 → P (l.getD j (0, 0)) = false := by
  intro j hj
  by_cases e : j = k
  · rw [e, hx]; exact h
  · exact hg j (by omega)
set_option maxRecDepth 100000 in
set_option maxHeartbeats 1000000 in
theorem rcovered_any {v : Value} {l : List Bk} {b : Bk} (hf : FitL l) (fb : FitB b) (hl : l.length ≤ 1000000) (w : World) (hv : Lst v l w) :
    Calls Try.prog 38 #[v, Bv b] w (Gives (.bool (anyC l b)) w) := by
  have HN := hq3_new w b hv
  obtain ⟨q, c, rfl⟩ := lst_len hv
  clear hv
  go_enter Try.func38, Try.ntmps38
  go_wp2
  go_loopw [5] (fun i wr => ∃ k : Nat, k ≤ l.length ∧ i = .int .i64 (k : Nat) ∧ (∀ j, j < k → covB (l.getD j (0, 0)) b = false) ∧ HQ3 w b (.slice q l.length c) l wr) (fun i _ => l.length - (intOf i).toNat)
  case atStart => exact ⟨0, Nat.zero_le _, rfl, fun j h => absurd h (Nat.not_lt_zero _), HN⟩
  case round =>
    obtain ⟨k, hk, rfl, hg, HB⟩ := hrel
    have HG := hide hg
    clear hg HN
    by_cases hlt : k < l.length
    · obtain ⟨x, hx⟩ := get_some hlt
      have fx := fit_at hf hx
      have GX := hide (getD_some hx)
      obtain ⟨bb, o, rfl, _⟩ := lst_at HB.2.2 hx
      have HX := hide (fun W (H : HQ3 w b (.slice (some ⟨bb, o, none⟩) l.length c) l W) => lst_at H.2.2 hx)
      have CV := hide (fun W => rcovers_any fx.1 fb.1 x.2 b.2 W)
      cases e1 : covB x b with
      | true =>
        have R := hide (show anyC l b = true from any_yes hx e1)
        have E1 := hide e1
        clear hx e1
        go_wp2_with fail
        refine wp_region_quiet (C := HQ3 w b (.slice (some ⟨bb, o, none⟩) l.length c) l) (by kernel_rfl) (by kernel_rfl) HB.drew (wpQuiet_step (fun K0 hK0 => ?_))
        go_simp
        first | (with_reducible refine hK0 _ (wpQuiet_step (fun K1 hK1 => ?_))) | (with_reducible refine ⟨_, fun _ _ => rfl, hK0 _ (wpQuiet_step (fun K1 hK1 => ?_))⟩) | (rw [if_neg (by intro e; cases e)]; with_reducible refine hK0 _ (wpQuiet_step (fun K1 hK1 => ?_)))
        clear hK0 K0
        go_simp
        first | (with_reducible refine hK1 _ (wpQuiet_step (fun K0 hK0 => ?_))) | (with_reducible refine ⟨_, fun _ _ => rfl, hK1 _ (wpQuiet_step (fun K0 hK0 => ?_))⟩) | (rw [if_neg (by intro e; cases e)]; with_reducible refine hK1 _ (wpQuiet_step (fun K0 hK0 => ?_)))
        clear hK1 K1
        go_simp
        first | (with_reducible refine hK0 _ (wpQuiet_step (fun K1 hK1 => ?_))) | (with_reducible refine ⟨_, fun _ _ => rfl, hK0 _ (wpQuiet_step (fun K1 hK1 => ?_))⟩) | (rw [if_neg (by intro e; cases e)]; with_reducible refine hK0 _ (wpQuiet_step (fun K1 hK1 => ?_)))
        clear hK0 K0
        go_simp
        refine ⟨Bv x, fun W hW => ?_, hK1 _ (wpQuiet_step (fun K0 hK0 => ?_))⟩
        · ((obtain ⟨_, _, eb, _, u0, u1, u2⟩ := HX.out W hW; cases eb; simp [go_sem, u0, u1, u2]))
        clear hK1 K1
        go_simp
        refine ⟨Bv b, fun W hW => ?_, hK0 _ (wpQuiet_step (fun K1 hK1 => ?_))⟩
        · ((obtain ⟨_, ⟨_, ⟨u0, u1, u2⟩, _⟩, _⟩ := hW; simp [go_sem, u0, u1, u2]))
        clear hK0 K0
        go_simp
        refine ⟨.bool true, fun W hW => ?_, hK1 _ (wpQuiet_nil ?_)⟩
        · exact (CV.out W).mono fun e w2 ⟨he, hb⟩ => ⟨he.trans (congrArg Ending.returned (bool_eq E1.out)), HQ3.step hW hb⟩
        clear hK1 K1
        intro w2 H2
        go_wp2
        go_ret
        exact ⟨by rw [R.out]; rfl, H2.1⟩
      | false =>
        have E1 := hide e1
        clear hx e1
        go_wp2_with fail
        refine wp_region_quiet (C := HQ3 w b (.slice (some ⟨bb, o, none⟩) l.length c) l) (by kernel_rfl) (by kernel_rfl) HB.drew (wpQuiet_step (fun K0 hK0 => ?_))
        go_simp
        first | (with_reducible refine hK0 _ (wpQuiet_step (fun K1 hK1 => ?_))) | (with_reducible refine ⟨_, fun _ _ => rfl, hK0 _ (wpQuiet_step (fun K1 hK1 => ?_))⟩) | (rw [if_neg (by intro e; cases e)]; with_reducible refine hK0 _ (wpQuiet_step (fun K1 hK1 => ?_)))
        clear hK0 K0
        go_simp
        first | (with_reducible refine hK1 _ (wpQuiet_step (fun K0 hK0 => ?_))) | (with_reducible refine ⟨_, fun _ _ => rfl, hK1 _ (wpQuiet_step (fun K0 hK0 => ?_))⟩) | (rw [if_neg (by intro e; cases e)]; with_reducible refine hK1 _ (wpQuiet_step (fun K0 hK0 => ?_)))
        clear hK1 K1
        go_simp
        first | (with_reducible refine hK0 _ (wpQuiet_step (fun K1 hK1 => ?_))) | (with_reducible refine ⟨_, fun _ _ => rfl, hK0 _ (wpQuiet_step (fun K1 hK1 => ?_))⟩) | (rw [if_neg (by intro e; cases e)]; with_reducible refine hK0 _ (wpQuiet_step (fun K1 hK1 => ?_)))
        clear hK0 K0
        go_simp
        refine ⟨Bv x, fun W hW => ?_, hK1 _ (wpQuiet_step (fun K0 hK0 => ?_))⟩
        · ((obtain ⟨_, _, eb, _, u0, u1, u2⟩ := HX.out W hW; cases eb; simp [go_sem, u0, u1, u2]))
        clear hK1 K1
        go_simp
        refine ⟨Bv b, fun W hW => ?_, hK0 _ (wpQuiet_step (fun K1 hK1 => ?_))⟩
        · ((obtain ⟨_, ⟨_, ⟨u0, u1, u2⟩, _⟩, _⟩ := hW; simp [go_sem, u0, u1, u2]))
        clear hK0 K0
        go_simp
        refine ⟨.bool false, fun W hW => ?_, hK1 _ (wpQuiet_nil ?_)⟩
        · exact (CV.out W).mono fun e w2 ⟨he, hb⟩ => ⟨he.trans (congrArg Ending.returned (bool_eq E1.out)), HQ3.step hW hb⟩
        clear hK1 K1
        intro w2 H2
        go_wp2
        go_roundw
        case rel => exact ⟨k + 1, hlt, by go_num, next_no (P := fun x => covB x b) GX.out E1.out HG.out, H2⟩
        case measure => simp [intOf]; omega
    · have R := hide (show anyC l b = false from any_no (fun j hj => HG.out j (by omega)))
      go_wp2
      go_ret
      exact ⟨by rw [R.out]; rfl, HB.1⟩
set_option maxRecDepth 100000 in
set_option maxHeartbeats 1000000 in
theorem rmet_any {v : Value} {l : List Bk} {b : Bk} (hf : FitL l) (fb : FitB b) (hl : l.length ≤ 1000000) (w : World) (hv : Lst v l w) :
    Calls Try.prog 43 #[v, Bv b] w (Gives (.bool (anyM l b)) w) := by
  have HN := hq3_new w b hv
  obtain ⟨q, c, rfl⟩ := lst_len hv
  clear hv
  go_enter Try.func43, Try.ntmps43
  go_wp2
  go_loopw [5] (fun i wr => ∃ k : Nat, k ≤ l.length ∧ i = .int .i64 (k : Nat) ∧ (∀ j, j < k → metB (l.getD j (0, 0)) b = false) ∧ HQ3 w b (.slice q l.length c) l wr) (fun i _ => l.length - (intOf i).toNat)
  case atStart => exact ⟨0, Nat.zero_le _, rfl, fun j h => absurd h (Nat.not_lt_zero _), HN⟩
  case round =>
    obtain ⟨k, hk, rfl, hg, HB⟩ := hrel
    have HG := hide hg
    clear hg HN
    by_cases hlt : k < l.length
    · obtain ⟨x, hx⟩ := get_some hlt
      have fx := fit_at hf hx
      have GX := hide (getD_some hx)
      obtain ⟨bb, o, rfl, _⟩ := lst_at HB.2.2 hx
      have HX := hide (fun W (H : HQ3 w b (.slice (some ⟨bb, o, none⟩) l.length c) l W) => lst_at H.2.2 hx)
      have CV := hide (fun W => rmeets_any fx.1 fb.1 x.2 b.2 W)
      cases e1 : metB x b with
      | true =>
        have R := hide (show anyM l b = true from any_yes hx e1)
        have E1 := hide e1
        clear hx e1
        go_wp2_with fail
        refine wp_region_quiet (C := HQ3 w b (.slice (some ⟨bb, o, none⟩) l.length c) l) (by kernel_rfl) (by kernel_rfl) HB.drew (wpQuiet_step (fun K0 hK0 => ?_))
        go_simp
        first | (with_reducible refine hK0 _ (wpQuiet_step (fun K1 hK1 => ?_))) | (with_reducible refine ⟨_, fun _ _ => rfl, hK0 _ (wpQuiet_step (fun K1 hK1 => ?_))⟩) | (rw [if_neg (by intro e; cases e)]; with_reducible refine hK0 _ (wpQuiet_step (fun K1 hK1 => ?_)))
        clear hK0 K0
        go_simp
        first | (with_reducible refine hK1 _ (wpQuiet_step (fun K0 hK0 => ?_))) | (with_reducible refine ⟨_, fun _ _ => rfl, hK1 _ (wpQuiet_step (fun K0 hK0 => ?_))⟩) | (rw [if_neg (by intro e; cases e)]; with_reducible refine hK1 _ (wpQuiet_step (fun K0 hK0 => ?_)))
        clear hK1 K1
        go_simp
        first | (with_reducible refine hK0 _ (wpQuiet_step (fun K1 hK1 => ?_))) | (with_reducible refine ⟨_, fun _ _ => rfl, hK0 _ (wpQuiet_step (fun K1 hK1 => ?_))⟩) | (rw [if_neg (by intro e; cases e)]; with_reducible refine hK0 _ (wpQuiet_step (fun K1 hK1 => ?_)))
        clear hK0 K0
        go_simp
        refine ⟨Bv x, fun W hW => ?_, hK1 _ (wpQuiet_step (fun K0 hK0 => ?_))⟩
        · ((obtain ⟨_, _, eb, _, u0, u1, u2⟩ := HX.out W hW; cases eb; simp [go_sem, u0, u1, u2]))
        clear hK1 K1
        go_simp
        refine ⟨Bv b, fun W hW => ?_, hK0 _ (wpQuiet_step (fun K1 hK1 => ?_))⟩
        · ((obtain ⟨_, ⟨_, ⟨u0, u1, u2⟩, _⟩, _⟩ := hW; simp [go_sem, u0, u1, u2]))
        clear hK0 K0
        go_simp
        refine ⟨.bool true, fun W hW => ?_, hK1 _ (wpQuiet_nil ?_)⟩
        · exact (CV.out W).mono fun e w2 ⟨he, hb⟩ => ⟨he.trans (congrArg Ending.returned (bool_eq E1.out)), HQ3.step hW hb⟩
        clear hK1 K1
        intro w2 H2
        go_wp2
        go_ret
        exact ⟨by rw [R.out]; rfl, H2.1⟩
      | false =>
        have E1 := hide e1
        clear hx e1
        go_wp2_with fail
        refine wp_region_quiet (C := HQ3 w b (.slice (some ⟨bb, o, none⟩) l.length c) l) (by kernel_rfl) (by kernel_rfl) HB.drew (wpQuiet_step (fun K0 hK0 => ?_))
        go_simp
        first | (with_reducible refine hK0 _ (wpQuiet_step (fun K1 hK1 => ?_))) | (with_reducible refine ⟨_, fun _ _ => rfl, hK0 _ (wpQuiet_step (fun K1 hK1 => ?_))⟩) | (rw [if_neg (by intro e; cases e)]; with_reducible refine hK0 _ (wpQuiet_step (fun K1 hK1 => ?_)))
        clear hK0 K0
        go_simp
        first | (with_reducible refine hK1 _ (wpQuiet_step (fun K0 hK0 => ?_))) | (with_reducible refine ⟨_, fun _ _ => rfl, hK1 _ (wpQuiet_step (fun K0 hK0 => ?_))⟩) | (rw [if_neg (by intro e; cases e)]; with_reducible refine hK1 _ (wpQuiet_step (fun K0 hK0 => ?_)))
        clear hK1 K1
        go_simp
        first | (with_reducible refine hK0 _ (wpQuiet_step (fun K1 hK1 => ?_))) | (with_reducible refine ⟨_, fun _ _ => rfl, hK0 _ (wpQuiet_step (fun K1 hK1 => ?_))⟩) | (rw [if_neg (by intro e; cases e)]; with_reducible refine hK0 _ (wpQuiet_step (fun K1 hK1 => ?_)))
        clear hK0 K0
        go_simp
        refine ⟨Bv x, fun W hW => ?_, hK1 _ (wpQuiet_step (fun K0 hK0 => ?_))⟩
        · ((obtain ⟨_, _, eb, _, u0, u1, u2⟩ := HX.out W hW; cases eb; simp [go_sem, u0, u1, u2]))
        clear hK1 K1
        go_simp
        refine ⟨Bv b, fun W hW => ?_, hK0 _ (wpQuiet_step (fun K1 hK1 => ?_))⟩
        · ((obtain ⟨_, ⟨_, ⟨u0, u1, u2⟩, _⟩, _⟩ := hW; simp [go_sem, u0, u1, u2]))
        clear hK0 K0
        go_simp
        refine ⟨.bool false, fun W hW => ?_, hK1 _ (wpQuiet_nil ?_)⟩
        · exact (CV.out W).mono fun e w2 ⟨he, hb⟩ => ⟨he.trans (congrArg Ending.returned (bool_eq E1.out)), HQ3.step hW hb⟩
        clear hK1 K1
        intro w2 H2
        go_wp2
        go_roundw
        case rel => exact ⟨k + 1, hlt, by go_num, next_no (P := fun x => metB x b) GX.out E1.out HG.out, H2⟩
        case measure => simp [intOf]; omega
    · have R := hide (show anyM l b = false from any_no (fun j hj => HG.out j (by omega)))
      go_wp2
      go_ret
      exact ⟨by rw [R.out]; rfl, HB.1⟩
set_option maxRecDepth 100000 in
set_option maxHeartbeats 1000000 in
theorem rfits_any {v : Value} {l : List Bk} (hl : l.length ≤ 1000000) (bits : Int) (w : World) (hv : Lst v l w) :
    Calls Try.prog 11 #[v, .int .i64 bits] w (Gives (.bool (fitsL l bits)) w) := by
  have HV := hide (fun W (H : Below w.heap.size w W) => hv.step H)
  obtain ⟨q, c, rfl⟩ := lst_len hv
  clear hv
  go_enter Try.func11, Try.ntmps11
  go_wp2
  go_loopw [5] (fun i wr => ∃ k : Nat, k ≤ l.length ∧ i = .int .i64 (k : Nat) ∧ (∀ j, j < k → decide ((l.getD j (0, 0)).2 ≤ bits) = false) ∧ Below w.heap.size w wr) (fun i _ => l.length - (intOf i).toNat)
  case atStart => exact ⟨0, Nat.zero_le _, rfl, fun j h => absurd h (Nat.not_lt_zero _), Below.refl _ _⟩
  case round =>
    obtain ⟨k, hk, rfl, hg, HB⟩ := hrel
    have HG := hide hg
    clear hg
    by_cases hlt : k < l.length
    · obtain ⟨x, hx⟩ := get_some hlt
      have GX := hide (getD_some hx)
      obtain ⟨b, o, rfl, _, x1, x2, x3⟩ := lst_at (HV.out _ HB) hx
      by_cases P : x.2 ≤ bits
      · have R := hide (show fitsL l bits = true from any_yes hx (decide_eq_true P))
        clear hx
        go_wp2
        go_ret
        exact ⟨by rw [R.out]; rfl, HB⟩
      · have PD : decide (x.2 ≤ bits) = false := decide_eq_false P
        have PH := hide PD
        clear hx P
        go_wp2
        go_roundw
        case rel => exact ⟨k + 1, hlt, by go_num, next_no (P := fun x => decide (x.2 ≤ bits)) GX.out PH.out HG.out, HB⟩
        case measure => simp [intOf]; omega
    · have R := hide (show fitsL l bits = false from any_no (fun j hj => HG.out j (by omega)))
      go_wp2
      go_ret
      exact ⟨by rw [R.out]; rfl, HB⟩

/-! ### halves of one block, as the document asks -/
def pairB (x y : Bk) : Bool := (decide (x.2 = y.2) && !decide (x.2 = 0)) && (decide (parB x = parB y) && !decide (x = y))
theorem rparent_any {x : Bk} (hx : FitB x) (w : World) : Calls Try.prog 54 #[A x.1, .int .i64 (wrap64 (x.2 - 1))] w (Gives (.tuple #[Bv (parB x), .bool (isPar x)]) w) := by
  obtain ⟨k1, k2, k3⟩ := wrap_par hx.2
  exact via (rclip_any hx.1 (wrap64 (x.2 - 1)) w) (by rw [k1, k2, k3])
set_option maxRecDepth 100000 in
set_option maxHeartbeats 1000000 in
theorem rpair_any {x y : Bk} (hx : FitB x) (hy : FitB y) (w : World) : Calls Try.prog 30 #[Bv x, Bv y] w (Gives (.bool (pairB x y)) w) := by
  have H0 := hh_new w x y 26
  by_cases h1 : x.2 = y.2 ∧ x.2 ≠ 0
  · have R := hide (show pairB x y = (decide (parB x = parB y) && !decide (x = y)) by unfold pairB; rw [decide_eq_true h1.1, decide_eq_false h1.2]; rfl)
    have PX := hide (fun W => rparent_any hx W)
    have PY := hide (fun W => rparent_any hy W)
    have E1 : (x.2 != y.2) = false := by simpa using h1.1
    have E2 : (x.2 == 0) = false := by simpa using h1.2
    have EQ := hide (fun W => eq_run (parB x) (parB y) W)
    have NQ := hide (fun W => neq_run x y W)
    clear h1
    generalize parB x = p at *
    generalize parB y = q at *
    go_enter Try.func30, Try.ntmps30
    obtain ⟨z, ⟨x1, x2, x3⟩, ⟨y1, y2, y3⟩⟩ := H0.all
    go_wp2_with fail
    clear z x1 x2 x3 y1 y2 y3
    refine (PX.out _).mono ?_
    rintro e w1 ⟨rfl, hb1⟩
    have H1 := H0.step hb1
    clear hb1 H0
    obtain ⟨z, ⟨x1, x2, x3⟩, ⟨y1, y2, y3⟩⟩ := H1.all
    go_wp2_with fail
    clear z x1 x2 x3 y1 y2 y3
    have P0 := box_new w1 p 26
    have H2 := H1.step (below_alloc w1 (.cells #[.int .u64 (hi p.1 : Nat), .int .u64 (lo p.1 : Nat), .int .i64 p.2] 26))
    clear H1
    generalize w1.heap.size = g at *
    refine (PY.out _).mono ?_
    rintro e w2 ⟨rfl, hb2⟩
    have P1 := P0.step hb2
    have H3 := H2.step hb2
    clear hb2 H2 P0
    have HB := H3.1
    obtain ⟨z, ⟨x1, x2, x3⟩, ⟨y1, y2, y3⟩⟩ := H3.all
    have z0 : w.heap.size < w2.heap.size := by omega
    obtain ⟨zg, ⟨p1, p2, p3⟩, _⟩ := id P1
    have EQ := EQ.out
    have NQ := NQ.out
    clear E1 E2 P1 H3
    cases hd : decide (p = q) with
    | false =>
      rw [hd] at EQ
      rw [hd, Bool.false_and] at R
      clear hd
      go_wp2
      go_ret
      refine ⟨by rw [R.out]; rfl, ?_⟩
      have hzB := HB.size
      repeat' (first | (with_reducible exact HB) | (with_reducible apply Below.drew) | (with_reducible apply Below.alloc) | (with_reducible apply Below.setCell))
      all_goals first | omega | (dsimp only; omega) | ((try simp); omega)
    | true =>
      rw [hd] at EQ
      rw [hd, Bool.true_and] at R
      clear hd
      generalize decide (x = y) = d at *
      go_wp2
      go_ret
      refine ⟨by rw [R.out]; rfl, ?_⟩
      have hzB := HB.size
      repeat' (first | (with_reducible exact HB) | (with_reducible apply Below.drew) | (with_reducible apply Below.alloc) | (with_reducible apply Below.setCell))
      all_goals first | omega | (dsimp only; omega) | ((try simp); omega)
  · have R := hide (show pairB x y = false by
      unfold pairB
      by_cases k : x.2 = y.2
      · by_cases k2 : x.2 = 0
        · rw [decide_eq_true k2]; simp
        · exact absurd ⟨k, k2⟩ h1
      · rw [decide_eq_false k]; rfl)
    by_cases k : x.2 = y.2
    · have k2 : x.2 = 0 := by
        by_cases k2 : x.2 = 0
        · exact k2
        · exact absurd ⟨k, k2⟩ h1
      have E1 : (x.2 != y.2) = false := by simpa using k
      have E2 : (x.2 == 0) = true := by simpa using k2
      clear h1 k k2
      go_enter Try.func30, Try.ntmps30
      obtain ⟨z, ⟨x1, x2, x3⟩, ⟨y1, y2, y3⟩⟩ := H0.all
      go_wp2
      go_ret
      exact ⟨by rw [R.out]; rfl, H0.1⟩
    · have E1 : (x.2 != y.2) = true := by simpa using k
      clear h1 k
      go_enter Try.func30, Try.ntmps30
      obtain ⟨z, ⟨x1, x2, x3⟩, ⟨y1, y2, y3⟩⟩ := H0.all
      go_wp2
      go_ret
      exact ⟨by rw [R.out]; rfl, H0.1⟩
end Go.Proofs.Ytpieddddckbfdaa
