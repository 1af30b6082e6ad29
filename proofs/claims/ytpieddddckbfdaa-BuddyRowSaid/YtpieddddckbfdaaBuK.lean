/-
  Contract of awake: it returns true. Condition: none.
-/
import Derived.Test.YtpieddddckbfdaaBuJ
namespace Go.Proofs.Ytpieddddckbfdaa
open Go.RowKit Go.Joins

/-- what stands ahead of awake's last region -/
def HA6 (w : World) (g1 g3 : Nat) (x y : Bk) (v2 v5 v7 v9 : Value) (l2 l5 l7 l9 : List Bk) (W : World) : Prop := Below w.heap.size w W ∧ Box g1 x W ∧ Box g3 y W ∧ Lst v2 l2 W ∧ Lst v5 l5 W ∧ Lst v7 l7 W ∧ Lst v9 l9 W
theorem HA6.step {w : World} {g1 g3 : Nat} {x y : Bk} {v2 v5 v7 v9 : Value} {l2 l5 l7 l9 : List Bk} {W w2 : World} (h : HA6 w g1 g3 x y v2 v5 v7 v9 l2 l5 l7 l9 W) (hb : Below W.heap.size W w2) : HA6 w g1 g3 x y v2 v5 v7 v9 l2 l5 l7 l9 w2 :=
  ⟨h.1.trans (hb.mono h.1.size), h.2.1.step hb, h.2.2.1.step hb, h.2.2.2.1.step hb, h.2.2.2.2.1.step hb, h.2.2.2.2.2.1.step hb, h.2.2.2.2.2.2.step hb⟩
/-- a row of two in a new block -/
theorem row_two (V : World) (x y : Bk) (t : TypeId) : RowR V.heap.size 0 [x, y] (V.alloc (.cells #[.int .u64 (hi x.1 : Nat), .int .u64 (lo x.1 : Nat), .int .i64 x.2, .int .u64 (hi y.1 : Nat), .int .u64 (lo y.1 : Nat), .int .i64 y.2] t)) := by
  refine ⟨by simp, fun j z hz => ?_⟩
  match j, hz with
  | 0, hz => simp at hz; subst hz; refine ⟨?_, ?_, ?_⟩ <;> simp [go_sem]
  | 1, hz => simp at hz; subst hz; refine ⟨?_, ?_, ?_⟩ <;> simp [go_sem]
  | j + 2, hz => simp at hz
theorem lst_two (V : World) (x y : Bk) (t : TypeId) : Lst (.slice (some ⟨V.heap.size, 0, none⟩) 2 2) [x, y] (V.alloc (.cells #[.int .u64 (hi x.1 : Nat), .int .u64 (lo x.1 : Nat), .int .i64 x.2, .int .u64 (hi y.1 : Nat), .int .u64 (lo y.1 : Nat), .int .i64 y.2] t)) :=
  Or.inr ⟨V.heap.size, 0, 2, rfl, row_two V x y t, by simp, by simp, by omega⟩
theorem fit_one {x : Bk} (h : FitB x) : FitL [x] := fun y hy => by simp at hy; subst hy; exact h
theorem fit_two {x y : Bk} (h : FitB x) (k : FitB y) : FitL [x, y] := fun z hz => by simp at hz; rcases hz with rfl | rfl; exact h; exact k
set_option maxRecDepth 100000 in
set_option maxHeartbeats 4000000 in
theorem awake_walk {X48 X50 Y50 Y49 Z49 T50 U50 : Bk}
    (f48 : FitB X48) (f50 : FitB X50) (fy5 : FitB Y50) (fy4 : FitB Y49) (ft : FitB T50) (fu : FitB U50)
    (b48 : ∀ W, Calls Try.prog 24 #[.int .u64 0, .int .i64 48] W (Gives (Bv X48) W))
    (b50 : ∀ W, Calls Try.prog 24 #[.int .u64 0, .int .i64 50] W (Gives (Bv X50) W))
    (by5 : ∀ W, Calls Try.prog 24 #[.int .u64 16384, .int .i64 50] W (Gives (Bv Y50) W))
    (by4 : ∀ W, Calls Try.prog 24 #[.int .u64 32768, .int .i64 49] W (Gives (Bv Y49) W))
    (bz : ∀ W, Calls Try.prog 24 #[.int .u64 0, .int .i64 49] W (Gives (Bv Z49) W))
    (bt : ∀ W, Calls Try.prog 24 #[.int .u64 49152, .int .i64 50] W (Gives (Bv T50) W))
    (bu : ∀ W, Calls Try.prog 24 #[.int .u64 32768, .int .i64 50] W (Gives (Bv U50) W))
    (k1 : takeL X48 [X48] 50 = ([Y50, Y49], X50, 0)) (k2 : giveL X48 [Y50, Y49] X50 = ([X48], 0)) (k3 : reserveL X48 [X48] Y49 = ([Z49], 0)) (k4 : freeL X48 [X50, T50] = ([Y50, U50], 0))
    (k5 : fitsL [Y50, U50] 50 = true) (k6 : fitsL [Y50, U50] 49 = false) (k7 : goodL X48 [Y50, U50] = true) (w : World) :
    Calls Try.prog 7 #[] w (Gives (.bool true) w) := by
  have B48 := hide b48
  have B50 := hide b50
  have BY5 := hide by5
  have BY4 := hide by4
  have BZ := hide bz
  have BT := hide bt
  have BU := hide bu
  have TK := hide (fun W v (H : Lst v [X48] W) => take_any (bits := 50) f48 (fit_one f48) (by simp) W H)
  rw [k1] at TK
  have GV := hide (fun W v (H : Lst v [Y50, Y49] W) => give_any f48 f50 (fit_two fy5 fy4) (by simp) W H)
  rw [k2] at GV
  have RV := hide (fun W v (H : Lst v [X48] W) => reserve_any f48 fy4 (fit_one f48) (by simp) W H)
  rw [k3] at RV
  have FV := hide (fun W v (H : Lst v [X50, T50] W) => free_any f48 (fit_two f50 ft) (by simp) W H)
  rw [k4] at FV
  have FT := hide (fun W v (H : Lst v [Y50, U50] W) => via (fits_any (by simp) 50 W H) (v' := .bool true) (by rw [k5]))
  have FF := hide (fun W v (H : Lst v [Y50, U50] W) => via (fits_any (by simp) 49 W H) (v' := .bool false) (by rw [k6]))
  have GD := hide (fun W v (H : Lst v [Y50, U50] W) => via (good_any f48 (fit_two fy5 fu) (by simp) W H) (v' := .bool true) (by rw [k7]))
  have S2 := hide (fun W v u (H : Lst v [Y50, Y49] W) (K : Lst u [Y50, Y49] W) => same_yes rfl (by simp) W H K)
  have S5 := hide (fun W v u (H : Lst v [X48] W) (K : Lst u [X48] W) => same_yes rfl (by simp) W H K)
  have S7 := hide (fun W v u (H : Lst v [Z49] W) (K : Lst u [Z49] W) => same_yes rfl (by simp) W H K)
  have S9 := hide (fun W v u (H : Lst v [Y50, U50] W) (K : Lst u [Y50, U50] W) => same_yes rfl (by simp) W H K)
  clear b48 b50 by5 by4 bz bt bu k1 k2 k3 k4 k5 k6 k7 f48 f50 fy5 fy4 ft fu
  go_enter Try.func7, Try.ntmps7
  go_wp2_with fail
  refine (B48.out _).mono ?_
  rintro e w1 ⟨rfl, hb1⟩
  have P1 := box_new w1 X48 26
  have B1 := chain hb1 (below_alloc w1 (.cells #[.int .u64 (hi X48.1 : Nat), .int .u64 (lo X48.1 : Nat), .int .i64 X48.2] 26))
  clear hb1
  go_wp2_with fail
  have hs : (w1.alloc (.cells #[.int .u64 (hi X48.1 : Nat), .int .u64 (lo X48.1 : Nat), .int .i64 X48.2] 26)).heap.size = w1.heap.size + 1 := by simp
  generalize w1.heap.size = g1 at *
  generalize w1.alloc (.cells #[.int .u64 (hi X48.1 : Nat), .int .u64 (lo X48.1 : Nat), .int .i64 X48.2] 26) = V1 at *
  have N1 := lst_one (box_new V1 X48 26)
  rw [hs] at N1
  have P2 := P1.step (below_alloc V1 (.cells #[.int .u64 (hi X48.1 : Nat), .int .u64 (lo X48.1 : Nat), .int .i64 X48.2] 26))
  have B2 := chain B1 (below_alloc V1 (.cells #[.int .u64 (hi X48.1 : Nat), .int .u64 (lo X48.1 : Nat), .int .i64 X48.2] 26))
  clear P1 B1 hs
  refine (TK.out _ _ N1).mono ?_
  rintro e w2 ⟨v2, rfl, hb2, O2⟩
  have L2 := own_lst O2
  have P3 := P2.step hb2
  have B3 := chain B2 hb2
  clear N1 P2 B2 hb2 O2 TK
  obtain ⟨z, ⟨x1, x2, x3⟩, _⟩ := id P3
  go_wp2_with fail
  clear z x1 x2 x3
  have Q4 := box_new w2 X50 26
  have b4 := below_alloc w2 (.cells #[.int .u64 (hi X50.1 : Nat), .int .u64 (lo X50.1 : Nat), .int .i64 X50.2] 26)
  have P4 := P3.step b4
  have L4 := L2.step b4
  have B4 := chain B3 b4
  clear P3 L2 B3 b4
  generalize w2.heap.size = g3 at *
  refine (GV.out _ _ L4).mono ?_
  rintro e w5 ⟨v5, rfl, hb5, O5⟩
  have M5 := own_lst O5
  have P5 := P4.step hb5
  have Q5 := Q4.step hb5
  have L5 := L4.step hb5
  have B5 := chain B4 hb5
  clear P4 Q4 L4 B4 hb5 O5 GV
  obtain ⟨z, ⟨x1, x2, x3⟩, _⟩ := id P5
  go_wp2_with fail
  clear z x1 x2 x3
  have H5 : HA6 w g1 g3 X48 X50 v2 v5 v5 v5 [Y50, Y49] [X48] [X48] [X48] w5 := ⟨B5, P5, Q5, L5, M5, M5, M5⟩
  clear B5 P5 Q5 L5 M5
  refine wp_region_rel (HA6 w g1 g3 X48 X50 v2 v5 v5 v5 [Y50, Y49] [X48] [X48] [X48]) [some 28, some 29, some 30, some 31, some 27, some 32, some 33, some 7, some 8] [fun yy _ => yy = Bv X48, fun yy _ => yy = v5, fun yy _ => yy = Bv Y49, fun yy W => ∃ v, yy = .tuple #[v, .int .i64 0] ∧ Lst v [Z49] W, fun yy W => ∃ v, yy = .tuple #[v, .int .i64 0] ∧ Lst v [Z49] W, fun yy W => Lst yy [Z49] W, fun yy _ => yy = .int .i64 0, fun yy W => Lst yy [Z49] W, fun yy _ => yy = .int .i64 0] 101 (by kernel_rfl) (by kernel_rfl) rfl rfl (H5.step (Below.refl _ _).drew) ?_ ?_
  · refine ⟨⟨fun _ _ _ h _ => h, fun a' W K hC hd hf hK => ?_⟩, ⟨fun _ _ _ h _ => h, fun a' W K hC hd hf hK => ?_⟩, ⟨fun _ _ _ h _ => h, fun a' W K hC hd hf hK => ?_⟩, ⟨fun _ _ _ h hb => by obtain ⟨v, e, hl⟩ := h; exact ⟨v, e, hl.step hb⟩, fun a' W K hC hd hf hK => ?_⟩, ⟨fun _ _ _ h hb => by obtain ⟨v, e, hl⟩ := h; exact ⟨v, e, hl.step hb⟩, fun a' W K hC hd hf hK => ?_⟩, ⟨fun _ _ _ h hb => h.step hb, fun a' W K hC hd hf hK => ?_⟩, ⟨fun _ _ _ h _ => h, fun a' W K hC hd hf hK => ?_⟩, ⟨fun _ _ _ h hb => h.step hb, fun a' W K hC hd hf hK => ?_⟩, ⟨fun _ _ _ h _ => h, fun a' W K hC hd hf hK => ?_⟩, trivial⟩
    · refine op_plain rfl ?_
      have f1 : a'.tmps[1]?.getD undef = .pointer (some ⟨g1, 0, none⟩) := (hf.out 1 (by kernel_rfl)).trans (by simp)
      obtain ⟨_, ⟨z1, ⟨a0, a1, a2⟩, _⟩, _⟩ := id hC
      go_simp
      exact hK.out _ _ hC (Below.refl _ _) rfl
    · refine op_plain rfl ?_
      have f5 : a'.tmps[5]?.getD undef = v5 := (hf.out 5 (by kernel_rfl)).trans (by simp)
      go_simp
      exact hK.out _ _ hC (Below.refl _ _) rfl
    · refine op_plain rfl ?_
      go_simp
      refine (BY4.out W).mono ?_
      rintro e W2 ⟨rfl, hbW⟩
      exact hK.out _ _ (HA6.step hC hbW) hbW rfl
    · refine op_plain rfl ?_
      have d28 : a'.tmps[28]?.getD undef = Bv X48 := hd.out 0 28 (by kernel_rfl) rfl
      have d29 : a'.tmps[29]?.getD undef = v5 := hd.out 1 29 (by kernel_rfl) rfl
      have d30 : a'.tmps[30]?.getD undef = Bv Y49 := hd.out 2 30 (by kernel_rfl) rfl
      go_simp
      refine (RV.out W _ hC.2.2.2.2.1).mono ?_
      rintro e W2 ⟨vv, rfl, hbW, hO⟩
      exact hK.out _ _ (HA6.step hC hbW) hbW ⟨vv, rfl, own_lst hO⟩
    · refine op_plain rfl ?_
      have d31 := hd.out 3 31 (by kernel_rfl) rfl
      go_simp
      exact hK.out _ _ hC (Below.refl _ _) d31
    · refine op_plain rfl ?_
      have d27 := hd.out 4 27 (by kernel_rfl) rfl
      obtain ⟨vv, e27, hL⟩ := d27
      go_simp
      exact hK.out _ _ hC (Below.refl _ _) hL
    · refine op_plain rfl ?_
      have d27 := hd.out 4 27 (by kernel_rfl) rfl
      obtain ⟨vv, e27, hL⟩ := d27
      go_simp
      exact hK.out _ _ hC (Below.refl _ _) rfl
    · refine op_plain rfl ?_
      have d32 := hd.out 5 32 (by kernel_rfl) rfl
      go_simp
      exact hK.out _ _ hC (Below.refl _ _) d32
    · refine op_plain rfl ?_
      have d33 : a'.tmps[33]?.getD undef = .int .i64 0 := hd.out 6 33 (by kernel_rfl) rfl
      go_simp
      exact hK.out _ _ hC (Below.refl _ _) rfl
  · intro vs W7 hC hR
    have q0 : vs 0 = Bv X48 := hR.out 0 (by decide)
    have q1 : vs 1 = v5 := hR.out 1 (by decide)
    have q2 : vs 2 = Bv Y49 := hR.out 2 (by decide)
    generalize hq3 : vs 3 = q3
    generalize hq4 : vs 4 = q4
    generalize hq5 : vs 5 = q5
    have q6 : vs 6 = .int .i64 0 := hR.out 6 (by decide)
    have L7 := hR.out 7 (by decide)
    generalize hq7 : vs 7 = q7 at *
    change (fun yy W => Lst yy [Z49] W) q7 W7 at L7
    have q8 : vs 8 = .int .i64 0 := hR.out 8 (by decide)
    simp only [fillF, Act.put, List.setIfInBounds_toArray, List.set_cons_zero, List.set_cons_succ, Nat.reduceAdd, q0, q1, q2, hq3, hq4, hq5, q6, hq7, q8]
    clear hR q0 q1 q2 hq3 hq4 hq5 q6 hq7 q8
    have H7 : HA6 w g1 g3 X48 X50 v2 v5 q7 q7 [Y50, Y49] [X48] [Z49] [Z49] W7 := ⟨hC.1, hC.2.1, hC.2.2.1, hC.2.2.2.1, hC.2.2.2.2.1, L7, L7⟩
    clear H5 hC L7 RV
    generalize q7 = v7 at *
    go_wp2_with fail
    refine wp_region_rel (HA6 w g1 g3 X48 X50 v2 v5 v7 v7 [Y50, Y49] [X48] [Z49] [Z49]) [some 35, some 36, some 37, some 38, some 39, some 34, some 40, some 41, some 9, some 10] [fun yy _ => yy = Bv X48, fun yy _ => yy = Bv X50, fun yy _ => yy = Bv T50, fun yy W => Lst yy [X50, T50] W, fun yy W => ∃ v, yy = .tuple #[v, .int .i64 0] ∧ Lst v [Y50, U50] W, fun yy W => ∃ v, yy = .tuple #[v, .int .i64 0] ∧ Lst v [Y50, U50] W, fun yy W => Lst yy [Y50, U50] W, fun yy _ => yy = .int .i64 0, fun yy W => Lst yy [Y50, U50] W, fun yy _ => yy = .int .i64 0] 101 (by kernel_rfl) (by kernel_rfl) rfl rfl (H7.step (Below.refl _ _).drew) ?_ ?_
    · refine ⟨⟨fun _ _ _ h _ => h, fun a' W K hC hd hf hK => ?_⟩, ⟨fun _ _ _ h _ => h, fun a' W K hC hd hf hK => ?_⟩, ⟨fun _ _ _ h _ => h, fun a' W K hC hd hf hK => ?_⟩, ⟨fun _ _ _ h hb => h.step hb, fun a' W K hC hd hf hK => ?_⟩, ⟨fun _ _ _ h hb => by obtain ⟨v, e, hl⟩ := h; exact ⟨v, e, hl.step hb⟩, fun a' W K hC hd hf hK => ?_⟩, ⟨fun _ _ _ h hb => by obtain ⟨v, e, hl⟩ := h; exact ⟨v, e, hl.step hb⟩, fun a' W K hC hd hf hK => ?_⟩, ⟨fun _ _ _ h hb => h.step hb, fun a' W K hC hd hf hK => ?_⟩, ⟨fun _ _ _ h _ => h, fun a' W K hC hd hf hK => ?_⟩, ⟨fun _ _ _ h hb => h.step hb, fun a' W K hC hd hf hK => ?_⟩, ⟨fun _ _ _ h _ => h, fun a' W K hC hd hf hK => ?_⟩, trivial⟩
      · refine op_plain rfl ?_
        have f1 : a'.tmps[1]?.getD undef = .pointer (some ⟨g1, 0, none⟩) := (hf.out 1 (by kernel_rfl)).trans (by simp)
        obtain ⟨_, ⟨z1, ⟨a0, a1, a2⟩, _⟩, _⟩ := id hC
        go_simp
        exact hK.out _ _ hC (Below.refl _ _) rfl
      · refine op_plain rfl ?_
        go_simp
        refine (B50.out W).mono ?_
        rintro e W2 ⟨rfl, hbW⟩
        exact hK.out _ _ (HA6.step hC hbW) hbW rfl
      · refine op_plain rfl ?_
        go_simp
        refine (BT.out W).mono ?_
        rintro e W2 ⟨rfl, hbW⟩
        exact hK.out _ _ (HA6.step hC hbW) hbW rfl
      · refine op_plain rfl ?_
        have d36 : a'.tmps[36]?.getD undef = Bv X50 := hd.out 1 36 (by kernel_rfl) rfl
        have d37 : a'.tmps[37]?.getD undef = Bv T50 := hd.out 2 37 (by kernel_rfl) rfl
        go_simp
        exact hK.out _ _ (HA6.step hC (below_alloc _ _)) (below_alloc _ _) (lst_two _ _ _ _)
      · refine op_plain rfl ?_
        have d35 : a'.tmps[35]?.getD undef = Bv X48 := hd.out 0 35 (by kernel_rfl) rfl
        have d38 := hd.out 3 38 (by kernel_rfl) rfl
        go_simp
        refine (FV.out W _ d38).mono ?_
        rintro e W2 ⟨vv, rfl, hbW, hO⟩
        exact hK.out _ _ (HA6.step hC hbW) hbW ⟨vv, rfl, own_lst hO⟩
      · refine op_plain rfl ?_
        have d39 := hd.out 4 39 (by kernel_rfl) rfl
        go_simp
        exact hK.out _ _ hC (Below.refl _ _) d39
      · refine op_plain rfl ?_
        have d34 := hd.out 5 34 (by kernel_rfl) rfl
        obtain ⟨vv, e34, hL⟩ := d34
        go_simp
        exact hK.out _ _ hC (Below.refl _ _) hL
      · refine op_plain rfl ?_
        have d34 := hd.out 5 34 (by kernel_rfl) rfl
        obtain ⟨vv, e34, hL⟩ := d34
        go_simp
        exact hK.out _ _ hC (Below.refl _ _) rfl
      · refine op_plain rfl ?_
        have d40 := hd.out 6 40 (by kernel_rfl) rfl
        go_simp
        exact hK.out _ _ hC (Below.refl _ _) d40
      · refine op_plain rfl ?_
        have d41 : a'.tmps[41]?.getD undef = .int .i64 0 := hd.out 7 41 (by kernel_rfl) rfl
        go_simp
        exact hK.out _ _ hC (Below.refl _ _) rfl
    · intro vs W9 hC hR
      have q0 : vs 0 = Bv X48 := hR.out 0 (by decide)
      have q1 : vs 1 = Bv X50 := hR.out 1 (by decide)
      have q2 : vs 2 = Bv T50 := hR.out 2 (by decide)
      generalize hq3 : vs 3 = q3
      generalize hq4 : vs 4 = q4
      generalize hq5 : vs 5 = q5
      generalize hq6 : vs 6 = q6
      have q7 : vs 7 = .int .i64 0 := hR.out 7 (by decide)
      have L9 := hR.out 8 (by decide)
      generalize hq8 : vs 8 = q8 at *
      change (fun yy W => Lst yy [Y50, U50] W) q8 W9 at L9
      have q9 : vs 9 = .int .i64 0 := hR.out 9 (by decide)
      simp only [fillF, Act.put, List.setIfInBounds_toArray, List.set_cons_zero, List.set_cons_succ, Nat.reduceAdd, q0, q1, q2, hq3, hq4, hq5, hq6, q7, hq8, q9]
      clear hR q0 q1 q2 hq3 hq4 hq5 hq6 q7 hq8 q9
      have H9 : HA6 w g1 g3 X48 X50 v2 v5 v7 q8 [Y50, Y49] [X48] [Z49] [Y50, U50] W9 := ⟨hC.1, hC.2.1, hC.2.2.1, hC.2.2.2.1, hC.2.2.2.2.1, hC.2.2.2.2.2.1, L9⟩
      clear H7 hC L9 FV
      generalize q8 = v9 at *
      go_wp2_with fail
      refine wp_region_rel (HA6 w g1 g3 X48 X50 v2 v5 v7 v9 [Y50, Y49] [X48] [Z49] [Y50, U50]) [some 42, some 43, some 44, some 45, some 46, some 47, some 48, some 49, some 50, some 51, some 52, some 53, some 54, some 55, some 56, some 57, some 58, some 59, some 60, some 61, some 62, some 63, some 64, some 65, some 66, some 67, some 68, some 69, some 70, some 71, some 72, some 73, some 74, some 75, some 76, some 77, some 78, some 79, some 80, some 81, some 82, some 83, some 84, some 85, some 86, some 87, some 88, some 89, some 90, some 91, some 92, some 93, some 94, some 95, some 96, some 97, some 98, some 99, some 100, some 0] [fun yy _ => yy = Bv X50, fun yy _ => yy = Bv X50, fun yy _ => yy = .bool true, fun yy _ => yy = .bool true, fun yy _ => yy = .int .i64 0, fun yy _ => yy = .bool true, fun yy _ => yy = .bool true, fun yy _ => yy = .bool true, fun yy _ => yy = v2, fun yy _ => yy = Bv Y50, fun yy _ => yy = Bv Y49, fun yy W => Lst yy [Y50, Y49] W, fun yy _ => yy = .bool true, fun yy _ => yy = .bool true, fun yy _ => yy = .bool true, fun yy _ => yy = .int .i64 0, fun yy _ => yy = .bool true, fun yy _ => yy = .bool true, fun yy _ => yy = .bool true, fun yy _ => yy = v5, fun yy _ => yy = Bv X48, fun yy W => Lst yy [X48] W, fun yy _ => yy = .bool true, fun yy _ => yy = .bool true, fun yy _ => yy = .bool true, fun yy _ => yy = .int .i64 0, fun yy _ => yy = .bool true, fun yy _ => yy = .bool true, fun yy _ => yy = .bool true, fun yy _ => yy = v7, fun yy _ => yy = Bv Z49, fun yy W => Lst yy [Z49] W, fun yy _ => yy = .bool true, fun yy _ => yy = .bool true, fun yy _ => yy = .bool true, fun yy _ => yy = .int .i64 0, fun yy _ => yy = .bool true, fun yy _ => yy = .bool true, fun yy _ => yy = .bool true, fun yy _ => yy = v9, fun yy _ => yy = Bv Y50, fun yy _ => yy = Bv U50, fun yy W => Lst yy [Y50, U50] W, fun yy _ => yy = .bool true, fun yy _ => yy = .bool true, fun yy _ => yy = .bool true, fun yy _ => yy = v9, fun yy _ => yy = .bool true, fun yy _ => yy = .bool true, fun yy _ => yy = .bool true, fun yy _ => yy = v9, fun yy _ => yy = .bool false, fun yy _ => yy = .bool true, fun yy _ => yy = .bool true, fun yy _ => yy = .bool true, fun yy _ => yy = Bv X48, fun yy _ => yy = v9, fun yy _ => yy = .bool true, fun yy _ => yy = .bool true, fun yy _ => yy = .bool true] 101 (by kernel_rfl) (by kernel_rfl) rfl rfl (H9.step (Below.refl _ _).drew) ?_ ?_
      · refine ⟨⟨fun _ _ _ h _ => h, fun a' W K hC hd hf hK => ?_⟩, ⟨fun _ _ _ h _ => h, fun a' W K hC hd hf hK => ?_⟩, ⟨fun _ _ _ h _ => h, fun a' W K hC hd hf hK => ?_⟩, ⟨fun _ _ _ h _ => h, fun a' W K hC hd hf hK => ?_⟩, ⟨fun _ _ _ h _ => h, fun a' W K hC hd hf hK => ?_⟩, ⟨fun _ _ _ h _ => h, fun a' W K hC hd hf hK => ?_⟩, ⟨fun _ _ _ h _ => h, fun a' W K hC hd hf hK => ?_⟩, ⟨fun _ _ _ h _ => h, fun a' W K hC hd hf hK => ?_⟩, ⟨fun _ _ _ h _ => h, fun a' W K hC hd hf hK => ?_⟩, ⟨fun _ _ _ h _ => h, fun a' W K hC hd hf hK => ?_⟩, ⟨fun _ _ _ h _ => h, fun a' W K hC hd hf hK => ?_⟩, ⟨fun _ _ _ h hb => h.step hb, fun a' W K hC hd hf hK => ?_⟩, ⟨fun _ _ _ h _ => h, fun a' W K hC hd hf hK => ?_⟩, ⟨fun _ _ _ h _ => h, fun a' W K hC hd hf hK => ?_⟩, ⟨fun _ _ _ h _ => h, fun a' W K hC hd hf hK => ?_⟩, ⟨fun _ _ _ h _ => h, fun a' W K hC hd hf hK => ?_⟩, ⟨fun _ _ _ h _ => h, fun a' W K hC hd hf hK => ?_⟩, ⟨fun _ _ _ h _ => h, fun a' W K hC hd hf hK => ?_⟩, ⟨fun _ _ _ h _ => h, fun a' W K hC hd hf hK => ?_⟩, ⟨fun _ _ _ h _ => h, fun a' W K hC hd hf hK => ?_⟩, ⟨fun _ _ _ h _ => h, fun a' W K hC hd hf hK => ?_⟩, ⟨fun _ _ _ h hb => h.step hb, fun a' W K hC hd hf hK => ?_⟩, ⟨fun _ _ _ h _ => h, fun a' W K hC hd hf hK => ?_⟩, ⟨fun _ _ _ h _ => h, fun a' W K hC hd hf hK => ?_⟩, ⟨fun _ _ _ h _ => h, fun a' W K hC hd hf hK => ?_⟩, ⟨fun _ _ _ h _ => h, fun a' W K hC hd hf hK => ?_⟩, ⟨fun _ _ _ h _ => h, fun a' W K hC hd hf hK => ?_⟩, ⟨fun _ _ _ h _ => h, fun a' W K hC hd hf hK => ?_⟩, ⟨fun _ _ _ h _ => h, fun a' W K hC hd hf hK => ?_⟩, ⟨fun _ _ _ h _ => h, fun a' W K hC hd hf hK => ?_⟩, ⟨fun _ _ _ h _ => h, fun a' W K hC hd hf hK => ?_⟩, ⟨fun _ _ _ h hb => h.step hb, fun a' W K hC hd hf hK => ?_⟩, ⟨fun _ _ _ h _ => h, fun a' W K hC hd hf hK => ?_⟩, ⟨fun _ _ _ h _ => h, fun a' W K hC hd hf hK => ?_⟩, ⟨fun _ _ _ h _ => h, fun a' W K hC hd hf hK => ?_⟩, ⟨fun _ _ _ h _ => h, fun a' W K hC hd hf hK => ?_⟩, ⟨fun _ _ _ h _ => h, fun a' W K hC hd hf hK => ?_⟩, ⟨fun _ _ _ h _ => h, fun a' W K hC hd hf hK => ?_⟩, ⟨fun _ _ _ h _ => h, fun a' W K hC hd hf hK => ?_⟩, ⟨fun _ _ _ h _ => h, fun a' W K hC hd hf hK => ?_⟩, ⟨fun _ _ _ h _ => h, fun a' W K hC hd hf hK => ?_⟩, ⟨fun _ _ _ h _ => h, fun a' W K hC hd hf hK => ?_⟩, ⟨fun _ _ _ h hb => h.step hb, fun a' W K hC hd hf hK => ?_⟩, ⟨fun _ _ _ h _ => h, fun a' W K hC hd hf hK => ?_⟩, ⟨fun _ _ _ h _ => h, fun a' W K hC hd hf hK => ?_⟩, ⟨fun _ _ _ h _ => h, fun a' W K hC hd hf hK => ?_⟩, ⟨fun _ _ _ h _ => h, fun a' W K hC hd hf hK => ?_⟩, ⟨fun _ _ _ h _ => h, fun a' W K hC hd hf hK => ?_⟩, ⟨fun _ _ _ h _ => h, fun a' W K hC hd hf hK => ?_⟩, ⟨fun _ _ _ h _ => h, fun a' W K hC hd hf hK => ?_⟩, ⟨fun _ _ _ h _ => h, fun a' W K hC hd hf hK => ?_⟩, ⟨fun _ _ _ h _ => h, fun a' W K hC hd hf hK => ?_⟩, ⟨fun _ _ _ h _ => h, fun a' W K hC hd hf hK => ?_⟩, ⟨fun _ _ _ h _ => h, fun a' W K hC hd hf hK => ?_⟩, ⟨fun _ _ _ h _ => h, fun a' W K hC hd hf hK => ?_⟩, ⟨fun _ _ _ h _ => h, fun a' W K hC hd hf hK => ?_⟩, ⟨fun _ _ _ h _ => h, fun a' W K hC hd hf hK => ?_⟩, ⟨fun _ _ _ h _ => h, fun a' W K hC hd hf hK => ?_⟩, ⟨fun _ _ _ h _ => h, fun a' W K hC hd hf hK => ?_⟩, ⟨fun _ _ _ h _ => h, fun a' W K hC hd hf hK => ?_⟩, trivial⟩
        · refine op_plain rfl ?_
          have f3 : a'.tmps[3]?.getD undef = .pointer (some ⟨g3, 0, none⟩) := (hf.out 3 (by kernel_rfl)).trans (by simp)
          obtain ⟨_, _, ⟨z1, ⟨a0, a1, a2⟩, _⟩, _⟩ := id hC
          go_simp
          exact hK.out _ _ hC (Below.refl _ _) rfl
        · refine op_plain rfl ?_
          go_simp
          refine (B50.out W).mono ?_
          rintro e W2 ⟨rfl, hbW⟩
          exact hK.out _ _ (HA6.step hC hbW) hbW rfl
        · refine op_plain rfl ?_
          have d42 : a'.tmps[42]?.getD undef = Bv X50 := hd.out 0 42 (by kernel_rfl) rfl
          have d43 : a'.tmps[43]?.getD undef = Bv X50 := hd.out 1 43 (by kernel_rfl) rfl
          have EQ := fun W => eq_run X50 X50 W
          rw [decide_eq_true rfl] at EQ
          go_simp
          exact hK.out _ _ hC (Below.refl _ _) rfl
        · refine op_plain rfl ?_
          have d44 : a'.tmps[44]?.getD undef = .bool true := hd.out 2 44 (by kernel_rfl) rfl
          go_simp
          exact hK.out _ _ hC (Below.refl _ _) rfl
        · have gd : a'.tmps[45]?.getD undef = .bool true := hd.out 3 45 (by kernel_rfl) rfl
          refine op_yes rfl (by kernel_rfl) gd ?_
          clear gd
          have f4 : a'.tmps[4]?.getD undef = .int .i64 0 := (hf.out 4 (by kernel_rfl)).trans (by simp)
          go_simp
          exact hK.out _ _ hC (Below.refl _ _) rfl
        · have gd : a'.tmps[45]?.getD undef = .bool true := hd.out 3 45 (by kernel_rfl) rfl
          refine op_yes rfl (by kernel_rfl) gd ?_
          clear gd
          have d46 : a'.tmps[46]?.getD undef = .int .i64 0 := hd.out 4 46 (by kernel_rfl) rfl
          go_simp
          exact hK.out _ _ hC (Below.refl _ _) rfl
        · refine op_plain rfl ?_
          have d45 : a'.tmps[45]?.getD undef = .bool true := hd.out 3 45 (by kernel_rfl) rfl
          have d47 : a'.tmps[47]?.getD undef = .bool true := hd.out 5 47 (by kernel_rfl) rfl
          go_simp
          exact hK.out _ _ hC (Below.refl _ _) rfl
        · refine op_plain rfl ?_
          have d48 : a'.tmps[48]?.getD undef = .bool true := hd.out 6 48 (by kernel_rfl) rfl
          go_simp
          exact hK.out _ _ hC (Below.refl _ _) rfl
        · have gd : a'.tmps[49]?.getD undef = .bool true := hd.out 7 49 (by kernel_rfl) rfl
          refine op_yes rfl (by kernel_rfl) gd ?_
          clear gd
          have f2 : a'.tmps[2]?.getD undef = v2 := (hf.out 2 (by kernel_rfl)).trans (by simp)
          go_simp
          exact hK.out _ _ hC (Below.refl _ _) rfl
        · have gd : a'.tmps[49]?.getD undef = .bool true := hd.out 7 49 (by kernel_rfl) rfl
          refine op_yes rfl (by kernel_rfl) gd ?_
          clear gd
          go_simp
          refine (BY5.out W).mono ?_
          rintro e W2 ⟨rfl, hbW⟩
          exact hK.out _ _ (HA6.step hC hbW) hbW rfl
        · have gd : a'.tmps[49]?.getD undef = .bool true := hd.out 7 49 (by kernel_rfl) rfl
          refine op_yes rfl (by kernel_rfl) gd ?_
          clear gd
          go_simp
          refine (BY4.out W).mono ?_
          rintro e W2 ⟨rfl, hbW⟩
          exact hK.out _ _ (HA6.step hC hbW) hbW rfl
        · have gd : a'.tmps[49]?.getD undef = .bool true := hd.out 7 49 (by kernel_rfl) rfl
          refine op_yes rfl (by kernel_rfl) gd ?_
          clear gd
          have d51 : a'.tmps[51]?.getD undef = Bv Y50 := hd.out 9 51 (by kernel_rfl) rfl
          have d52 : a'.tmps[52]?.getD undef = Bv Y49 := hd.out 10 52 (by kernel_rfl) rfl
          go_simp
          exact hK.out _ _ (HA6.step hC (below_alloc _ _)) (below_alloc _ _) (lst_two _ _ _ _)
        · have gd : a'.tmps[49]?.getD undef = .bool true := hd.out 7 49 (by kernel_rfl) rfl
          refine op_yes rfl (by kernel_rfl) gd ?_
          clear gd
          have d50 : a'.tmps[50]?.getD undef = v2 := hd.out 8 50 (by kernel_rfl) rfl
          have d53 := hd.out 11 53 (by kernel_rfl) rfl
          go_simp
          refine (S2.out W _ _ hC.2.2.2.1 d53).mono ?_
          rintro e W2 ⟨rfl, hbW⟩
          exact hK.out _ _ (HA6.step hC hbW) hbW rfl
        · refine op_plain rfl ?_
          have d49 : a'.tmps[49]?.getD undef = .bool true := hd.out 7 49 (by kernel_rfl) rfl
          have d54 : a'.tmps[54]?.getD undef = .bool true := hd.out 12 54 (by kernel_rfl) rfl
          go_simp
          exact hK.out _ _ hC (Below.refl _ _) rfl
        · refine op_plain rfl ?_
          have d55 : a'.tmps[55]?.getD undef = .bool true := hd.out 13 55 (by kernel_rfl) rfl
          go_simp
          exact hK.out _ _ hC (Below.refl _ _) rfl
        · have gd : a'.tmps[56]?.getD undef = .bool true := hd.out 14 56 (by kernel_rfl) rfl
          refine op_yes rfl (by kernel_rfl) gd ?_
          clear gd
          have f6 : a'.tmps[6]?.getD undef = .int .i64 0 := (hf.out 6 (by kernel_rfl)).trans (by simp)
          go_simp
          exact hK.out _ _ hC (Below.refl _ _) rfl
        · have gd : a'.tmps[56]?.getD undef = .bool true := hd.out 14 56 (by kernel_rfl) rfl
          refine op_yes rfl (by kernel_rfl) gd ?_
          clear gd
          have d57 : a'.tmps[57]?.getD undef = .int .i64 0 := hd.out 15 57 (by kernel_rfl) rfl
          go_simp
          exact hK.out _ _ hC (Below.refl _ _) rfl
        · refine op_plain rfl ?_
          have d56 : a'.tmps[56]?.getD undef = .bool true := hd.out 14 56 (by kernel_rfl) rfl
          have d58 : a'.tmps[58]?.getD undef = .bool true := hd.out 16 58 (by kernel_rfl) rfl
          go_simp
          exact hK.out _ _ hC (Below.refl _ _) rfl
        · refine op_plain rfl ?_
          have d59 : a'.tmps[59]?.getD undef = .bool true := hd.out 17 59 (by kernel_rfl) rfl
          go_simp
          exact hK.out _ _ hC (Below.refl _ _) rfl
        · have gd : a'.tmps[60]?.getD undef = .bool true := hd.out 18 60 (by kernel_rfl) rfl
          refine op_yes rfl (by kernel_rfl) gd ?_
          clear gd
          have f5 : a'.tmps[5]?.getD undef = v5 := (hf.out 5 (by kernel_rfl)).trans (by simp)
          go_simp
          exact hK.out _ _ hC (Below.refl _ _) rfl
        · have gd : a'.tmps[60]?.getD undef = .bool true := hd.out 18 60 (by kernel_rfl) rfl
          refine op_yes rfl (by kernel_rfl) gd ?_
          clear gd
          have f1 : a'.tmps[1]?.getD undef = .pointer (some ⟨g1, 0, none⟩) := (hf.out 1 (by kernel_rfl)).trans (by simp)
          obtain ⟨_, ⟨z1, ⟨a0, a1, a2⟩, _⟩, _⟩ := id hC
          go_simp
          exact hK.out _ _ hC (Below.refl _ _) rfl
        · have gd : a'.tmps[60]?.getD undef = .bool true := hd.out 18 60 (by kernel_rfl) rfl
          refine op_yes rfl (by kernel_rfl) gd ?_
          clear gd
          have d62 : a'.tmps[62]?.getD undef = Bv X48 := hd.out 20 62 (by kernel_rfl) rfl
          go_simp
          exact hK.out _ _ (HA6.step hC (below_alloc _ _)) (below_alloc _ _) (lst_one (box_new _ _ _))
        · have gd : a'.tmps[60]?.getD undef = .bool true := hd.out 18 60 (by kernel_rfl) rfl
          refine op_yes rfl (by kernel_rfl) gd ?_
          clear gd
          have d61 : a'.tmps[61]?.getD undef = v5 := hd.out 19 61 (by kernel_rfl) rfl
          have d63 := hd.out 21 63 (by kernel_rfl) rfl
          go_simp
          refine (S5.out W _ _ hC.2.2.2.2.1 d63).mono ?_
          rintro e W2 ⟨rfl, hbW⟩
          exact hK.out _ _ (HA6.step hC hbW) hbW rfl
        · refine op_plain rfl ?_
          have d60 : a'.tmps[60]?.getD undef = .bool true := hd.out 18 60 (by kernel_rfl) rfl
          have d64 : a'.tmps[64]?.getD undef = .bool true := hd.out 22 64 (by kernel_rfl) rfl
          go_simp
          exact hK.out _ _ hC (Below.refl _ _) rfl
        · refine op_plain rfl ?_
          have d65 : a'.tmps[65]?.getD undef = .bool true := hd.out 23 65 (by kernel_rfl) rfl
          go_simp
          exact hK.out _ _ hC (Below.refl _ _) rfl
        · have gd : a'.tmps[66]?.getD undef = .bool true := hd.out 24 66 (by kernel_rfl) rfl
          refine op_yes rfl (by kernel_rfl) gd ?_
          clear gd
          have f8 : a'.tmps[8]?.getD undef = .int .i64 0 := (hf.out 8 (by kernel_rfl)).trans (by simp)
          go_simp
          exact hK.out _ _ hC (Below.refl _ _) rfl
        · have gd : a'.tmps[66]?.getD undef = .bool true := hd.out 24 66 (by kernel_rfl) rfl
          refine op_yes rfl (by kernel_rfl) gd ?_
          clear gd
          have d67 : a'.tmps[67]?.getD undef = .int .i64 0 := hd.out 25 67 (by kernel_rfl) rfl
          go_simp
          exact hK.out _ _ hC (Below.refl _ _) rfl
        · refine op_plain rfl ?_
          have d66 : a'.tmps[66]?.getD undef = .bool true := hd.out 24 66 (by kernel_rfl) rfl
          have d68 : a'.tmps[68]?.getD undef = .bool true := hd.out 26 68 (by kernel_rfl) rfl
          go_simp
          exact hK.out _ _ hC (Below.refl _ _) rfl
        · refine op_plain rfl ?_
          have d69 : a'.tmps[69]?.getD undef = .bool true := hd.out 27 69 (by kernel_rfl) rfl
          go_simp
          exact hK.out _ _ hC (Below.refl _ _) rfl
        · have gd : a'.tmps[70]?.getD undef = .bool true := hd.out 28 70 (by kernel_rfl) rfl
          refine op_yes rfl (by kernel_rfl) gd ?_
          clear gd
          have f7 : a'.tmps[7]?.getD undef = v7 := (hf.out 7 (by kernel_rfl)).trans (by simp)
          go_simp
          exact hK.out _ _ hC (Below.refl _ _) rfl
        · have gd : a'.tmps[70]?.getD undef = .bool true := hd.out 28 70 (by kernel_rfl) rfl
          refine op_yes rfl (by kernel_rfl) gd ?_
          clear gd
          go_simp
          refine (BZ.out W).mono ?_
          rintro e W2 ⟨rfl, hbW⟩
          exact hK.out _ _ (HA6.step hC hbW) hbW rfl
        · have gd : a'.tmps[70]?.getD undef = .bool true := hd.out 28 70 (by kernel_rfl) rfl
          refine op_yes rfl (by kernel_rfl) gd ?_
          clear gd
          have d72 : a'.tmps[72]?.getD undef = Bv Z49 := hd.out 30 72 (by kernel_rfl) rfl
          go_simp
          exact hK.out _ _ (HA6.step hC (below_alloc _ _)) (below_alloc _ _) (lst_one (box_new _ _ _))
        · have gd : a'.tmps[70]?.getD undef = .bool true := hd.out 28 70 (by kernel_rfl) rfl
          refine op_yes rfl (by kernel_rfl) gd ?_
          clear gd
          have d71 : a'.tmps[71]?.getD undef = v7 := hd.out 29 71 (by kernel_rfl) rfl
          have d73 := hd.out 31 73 (by kernel_rfl) rfl
          go_simp
          refine (S7.out W _ _ hC.2.2.2.2.2.1 d73).mono ?_
          rintro e W2 ⟨rfl, hbW⟩
          exact hK.out _ _ (HA6.step hC hbW) hbW rfl
        · refine op_plain rfl ?_
          have d70 : a'.tmps[70]?.getD undef = .bool true := hd.out 28 70 (by kernel_rfl) rfl
          have d74 : a'.tmps[74]?.getD undef = .bool true := hd.out 32 74 (by kernel_rfl) rfl
          go_simp
          exact hK.out _ _ hC (Below.refl _ _) rfl
        · refine op_plain rfl ?_
          have d75 : a'.tmps[75]?.getD undef = .bool true := hd.out 33 75 (by kernel_rfl) rfl
          go_simp
          exact hK.out _ _ hC (Below.refl _ _) rfl
        · have gd : a'.tmps[76]?.getD undef = .bool true := hd.out 34 76 (by kernel_rfl) rfl
          refine op_yes rfl (by kernel_rfl) gd ?_
          clear gd
          have f10 : a'.tmps[10]?.getD undef = .int .i64 0 := (hf.out 10 (by kernel_rfl)).trans (by simp)
          go_simp
          exact hK.out _ _ hC (Below.refl _ _) rfl
        · have gd : a'.tmps[76]?.getD undef = .bool true := hd.out 34 76 (by kernel_rfl) rfl
          refine op_yes rfl (by kernel_rfl) gd ?_
          clear gd
          have d77 : a'.tmps[77]?.getD undef = .int .i64 0 := hd.out 35 77 (by kernel_rfl) rfl
          go_simp
          exact hK.out _ _ hC (Below.refl _ _) rfl
        · refine op_plain rfl ?_
          have d76 : a'.tmps[76]?.getD undef = .bool true := hd.out 34 76 (by kernel_rfl) rfl
          have d78 : a'.tmps[78]?.getD undef = .bool true := hd.out 36 78 (by kernel_rfl) rfl
          go_simp
          exact hK.out _ _ hC (Below.refl _ _) rfl
        · refine op_plain rfl ?_
          have d79 : a'.tmps[79]?.getD undef = .bool true := hd.out 37 79 (by kernel_rfl) rfl
          go_simp
          exact hK.out _ _ hC (Below.refl _ _) rfl
        · have gd : a'.tmps[80]?.getD undef = .bool true := hd.out 38 80 (by kernel_rfl) rfl
          refine op_yes rfl (by kernel_rfl) gd ?_
          clear gd
          have f9 : a'.tmps[9]?.getD undef = v9 := (hf.out 9 (by kernel_rfl)).trans (by simp)
          go_simp
          exact hK.out _ _ hC (Below.refl _ _) rfl
        · have gd : a'.tmps[80]?.getD undef = .bool true := hd.out 38 80 (by kernel_rfl) rfl
          refine op_yes rfl (by kernel_rfl) gd ?_
          clear gd
          go_simp
          refine (BY5.out W).mono ?_
          rintro e W2 ⟨rfl, hbW⟩
          exact hK.out _ _ (HA6.step hC hbW) hbW rfl
        · have gd : a'.tmps[80]?.getD undef = .bool true := hd.out 38 80 (by kernel_rfl) rfl
          refine op_yes rfl (by kernel_rfl) gd ?_
          clear gd
          go_simp
          refine (BU.out W).mono ?_
          rintro e W2 ⟨rfl, hbW⟩
          exact hK.out _ _ (HA6.step hC hbW) hbW rfl
        · have gd : a'.tmps[80]?.getD undef = .bool true := hd.out 38 80 (by kernel_rfl) rfl
          refine op_yes rfl (by kernel_rfl) gd ?_
          clear gd
          have d82 : a'.tmps[82]?.getD undef = Bv Y50 := hd.out 40 82 (by kernel_rfl) rfl
          have d83 : a'.tmps[83]?.getD undef = Bv U50 := hd.out 41 83 (by kernel_rfl) rfl
          go_simp
          exact hK.out _ _ (HA6.step hC (below_alloc _ _)) (below_alloc _ _) (lst_two _ _ _ _)
        · have gd : a'.tmps[80]?.getD undef = .bool true := hd.out 38 80 (by kernel_rfl) rfl
          refine op_yes rfl (by kernel_rfl) gd ?_
          clear gd
          have d81 : a'.tmps[81]?.getD undef = v9 := hd.out 39 81 (by kernel_rfl) rfl
          have d84 := hd.out 42 84 (by kernel_rfl) rfl
          go_simp
          refine (S9.out W _ _ hC.2.2.2.2.2.2 d84).mono ?_
          rintro e W2 ⟨rfl, hbW⟩
          exact hK.out _ _ (HA6.step hC hbW) hbW rfl
        · refine op_plain rfl ?_
          have d80 : a'.tmps[80]?.getD undef = .bool true := hd.out 38 80 (by kernel_rfl) rfl
          have d85 : a'.tmps[85]?.getD undef = .bool true := hd.out 43 85 (by kernel_rfl) rfl
          go_simp
          exact hK.out _ _ hC (Below.refl _ _) rfl
        · refine op_plain rfl ?_
          have d86 : a'.tmps[86]?.getD undef = .bool true := hd.out 44 86 (by kernel_rfl) rfl
          go_simp
          exact hK.out _ _ hC (Below.refl _ _) rfl
        · have gd : a'.tmps[87]?.getD undef = .bool true := hd.out 45 87 (by kernel_rfl) rfl
          refine op_yes rfl (by kernel_rfl) gd ?_
          clear gd
          have f9 : a'.tmps[9]?.getD undef = v9 := (hf.out 9 (by kernel_rfl)).trans (by simp)
          go_simp
          exact hK.out _ _ hC (Below.refl _ _) rfl
        · have gd : a'.tmps[87]?.getD undef = .bool true := hd.out 45 87 (by kernel_rfl) rfl
          refine op_yes rfl (by kernel_rfl) gd ?_
          clear gd
          have d88 : a'.tmps[88]?.getD undef = v9 := hd.out 46 88 (by kernel_rfl) rfl
          go_simp
          refine (FT.out W _ hC.2.2.2.2.2.2).mono ?_
          rintro e W2 ⟨rfl, hbW⟩
          exact hK.out _ _ (HA6.step hC hbW) hbW rfl
        · refine op_plain rfl ?_
          have d87 : a'.tmps[87]?.getD undef = .bool true := hd.out 45 87 (by kernel_rfl) rfl
          have d89 : a'.tmps[89]?.getD undef = .bool true := hd.out 47 89 (by kernel_rfl) rfl
          go_simp
          exact hK.out _ _ hC (Below.refl _ _) rfl
        · refine op_plain rfl ?_
          have d90 : a'.tmps[90]?.getD undef = .bool true := hd.out 48 90 (by kernel_rfl) rfl
          go_simp
          exact hK.out _ _ hC (Below.refl _ _) rfl
        · have gd : a'.tmps[91]?.getD undef = .bool true := hd.out 49 91 (by kernel_rfl) rfl
          refine op_yes rfl (by kernel_rfl) gd ?_
          clear gd
          have f9 : a'.tmps[9]?.getD undef = v9 := (hf.out 9 (by kernel_rfl)).trans (by simp)
          go_simp
          exact hK.out _ _ hC (Below.refl _ _) rfl
        · have gd : a'.tmps[91]?.getD undef = .bool true := hd.out 49 91 (by kernel_rfl) rfl
          refine op_yes rfl (by kernel_rfl) gd ?_
          clear gd
          have d92 : a'.tmps[92]?.getD undef = v9 := hd.out 50 92 (by kernel_rfl) rfl
          go_simp
          refine (FF.out W _ hC.2.2.2.2.2.2).mono ?_
          rintro e W2 ⟨rfl, hbW⟩
          exact hK.out _ _ (HA6.step hC hbW) hbW rfl
        · have gd : a'.tmps[91]?.getD undef = .bool true := hd.out 49 91 (by kernel_rfl) rfl
          refine op_yes rfl (by kernel_rfl) gd ?_
          clear gd
          have d93 : a'.tmps[93]?.getD undef = .bool false := hd.out 51 93 (by kernel_rfl) rfl
          go_simp
          exact hK.out _ _ hC (Below.refl _ _) rfl
        · refine op_plain rfl ?_
          have d91 : a'.tmps[91]?.getD undef = .bool true := hd.out 49 91 (by kernel_rfl) rfl
          have d94 : a'.tmps[94]?.getD undef = .bool true := hd.out 52 94 (by kernel_rfl) rfl
          go_simp
          exact hK.out _ _ hC (Below.refl _ _) rfl
        · refine op_plain rfl ?_
          have d95 : a'.tmps[95]?.getD undef = .bool true := hd.out 53 95 (by kernel_rfl) rfl
          go_simp
          exact hK.out _ _ hC (Below.refl _ _) rfl
        · have gd : a'.tmps[96]?.getD undef = .bool true := hd.out 54 96 (by kernel_rfl) rfl
          refine op_yes rfl (by kernel_rfl) gd ?_
          clear gd
          have f1 : a'.tmps[1]?.getD undef = .pointer (some ⟨g1, 0, none⟩) := (hf.out 1 (by kernel_rfl)).trans (by simp)
          obtain ⟨_, ⟨z1, ⟨a0, a1, a2⟩, _⟩, _⟩ := id hC
          go_simp
          exact hK.out _ _ hC (Below.refl _ _) rfl
        · have gd : a'.tmps[96]?.getD undef = .bool true := hd.out 54 96 (by kernel_rfl) rfl
          refine op_yes rfl (by kernel_rfl) gd ?_
          clear gd
          have f9 : a'.tmps[9]?.getD undef = v9 := (hf.out 9 (by kernel_rfl)).trans (by simp)
          go_simp
          exact hK.out _ _ hC (Below.refl _ _) rfl
        · have gd : a'.tmps[96]?.getD undef = .bool true := hd.out 54 96 (by kernel_rfl) rfl
          refine op_yes rfl (by kernel_rfl) gd ?_
          clear gd
          have d97 : a'.tmps[97]?.getD undef = Bv X48 := hd.out 55 97 (by kernel_rfl) rfl
          have d98 : a'.tmps[98]?.getD undef = v9 := hd.out 56 98 (by kernel_rfl) rfl
          go_simp
          refine (GD.out W _ hC.2.2.2.2.2.2).mono ?_
          rintro e W2 ⟨rfl, hbW⟩
          exact hK.out _ _ (HA6.step hC hbW) hbW rfl
        · refine op_plain rfl ?_
          have d96 : a'.tmps[96]?.getD undef = .bool true := hd.out 54 96 (by kernel_rfl) rfl
          have d99 : a'.tmps[99]?.getD undef = .bool true := hd.out 57 99 (by kernel_rfl) rfl
          go_simp
          exact hK.out _ _ hC (Below.refl _ _) rfl
        · refine op_plain rfl ?_
          have d100 : a'.tmps[100]?.getD undef = .bool true := hd.out 58 100 (by kernel_rfl) rfl
          go_simp
          exact hK.out _ _ hC (Below.refl _ _) rfl
      · intro vs WA hC hR
        have q0 : vs 0 = Bv X50 := hR.out 0 (by decide)
        have q1 : vs 1 = Bv X50 := hR.out 1 (by decide)
        have q2 : vs 2 = .bool true := hR.out 2 (by decide)
        have q3 : vs 3 = .bool true := hR.out 3 (by decide)
        have q4 : vs 4 = .int .i64 0 := hR.out 4 (by decide)
        have q5 : vs 5 = .bool true := hR.out 5 (by decide)
        have q6 : vs 6 = .bool true := hR.out 6 (by decide)
        have q7 : vs 7 = .bool true := hR.out 7 (by decide)
        have q8 : vs 8 = v2 := hR.out 8 (by decide)
        have q9 : vs 9 = Bv Y50 := hR.out 9 (by decide)
        have q10 : vs 10 = Bv Y49 := hR.out 10 (by decide)
        generalize hq11 : vs 11 = q11
        have q12 : vs 12 = .bool true := hR.out 12 (by decide)
        have q13 : vs 13 = .bool true := hR.out 13 (by decide)
        have q14 : vs 14 = .bool true := hR.out 14 (by decide)
        have q15 : vs 15 = .int .i64 0 := hR.out 15 (by decide)
        have q16 : vs 16 = .bool true := hR.out 16 (by decide)
        have q17 : vs 17 = .bool true := hR.out 17 (by decide)
        have q18 : vs 18 = .bool true := hR.out 18 (by decide)
        have q19 : vs 19 = v5 := hR.out 19 (by decide)
        have q20 : vs 20 = Bv X48 := hR.out 20 (by decide)
        generalize hq21 : vs 21 = q21
        have q22 : vs 22 = .bool true := hR.out 22 (by decide)
        have q23 : vs 23 = .bool true := hR.out 23 (by decide)
        have q24 : vs 24 = .bool true := hR.out 24 (by decide)
        have q25 : vs 25 = .int .i64 0 := hR.out 25 (by decide)
        have q26 : vs 26 = .bool true := hR.out 26 (by decide)
        have q27 : vs 27 = .bool true := hR.out 27 (by decide)
        have q28 : vs 28 = .bool true := hR.out 28 (by decide)
        have q29 : vs 29 = v7 := hR.out 29 (by decide)
        have q30 : vs 30 = Bv Z49 := hR.out 30 (by decide)
        generalize hq31 : vs 31 = q31
        have q32 : vs 32 = .bool true := hR.out 32 (by decide)
        have q33 : vs 33 = .bool true := hR.out 33 (by decide)
        have q34 : vs 34 = .bool true := hR.out 34 (by decide)
        have q35 : vs 35 = .int .i64 0 := hR.out 35 (by decide)
        have q36 : vs 36 = .bool true := hR.out 36 (by decide)
        have q37 : vs 37 = .bool true := hR.out 37 (by decide)
        have q38 : vs 38 = .bool true := hR.out 38 (by decide)
        have q39 : vs 39 = v9 := hR.out 39 (by decide)
        have q40 : vs 40 = Bv Y50 := hR.out 40 (by decide)
        have q41 : vs 41 = Bv U50 := hR.out 41 (by decide)
        generalize hq42 : vs 42 = q42
        have q43 : vs 43 = .bool true := hR.out 43 (by decide)
        have q44 : vs 44 = .bool true := hR.out 44 (by decide)
        have q45 : vs 45 = .bool true := hR.out 45 (by decide)
        have q46 : vs 46 = v9 := hR.out 46 (by decide)
        have q47 : vs 47 = .bool true := hR.out 47 (by decide)
        have q48 : vs 48 = .bool true := hR.out 48 (by decide)
        have q49 : vs 49 = .bool true := hR.out 49 (by decide)
        have q50 : vs 50 = v9 := hR.out 50 (by decide)
        have q51 : vs 51 = .bool false := hR.out 51 (by decide)
        have q52 : vs 52 = .bool true := hR.out 52 (by decide)
        have q53 : vs 53 = .bool true := hR.out 53 (by decide)
        have q54 : vs 54 = .bool true := hR.out 54 (by decide)
        have q55 : vs 55 = Bv X48 := hR.out 55 (by decide)
        have q56 : vs 56 = v9 := hR.out 56 (by decide)
        have q57 : vs 57 = .bool true := hR.out 57 (by decide)
        have q58 : vs 58 = .bool true := hR.out 58 (by decide)
        have q59 : vs 59 = .bool true := hR.out 59 (by decide)
        simp only [fillF, Act.put, List.setIfInBounds_toArray, List.set_cons_zero, List.set_cons_succ, Nat.reduceAdd, q0, q1, q2, q3, q4, q5, q6, q7, q8, q9, q10, hq11, q12, q13, q14, q15, q16, q17, q18, q19, q20, hq21, q22, q23, q24, q25, q26, q27, q28, q29, q30, hq31, q32, q33, q34, q35, q36, q37, q38, q39, q40, q41, hq42, q43, q44, q45, q46, q47, q48, q49, q50, q51, q52, q53, q54, q55, q56, q57, q58, q59]
        clear hR q0 q1 q2 q3 q4 q5 q6 q7 q8 q9 q10 hq11 q12 q13 q14 q15 q16 q17 q18 q19 q20 hq21 q22 q23 q24 q25 q26 q27 q28 q29 q30 hq31 q32 q33 q34 q35 q36 q37 q38 q39 q40 q41 hq42 q43 q44 q45 q46 q47 q48 q49 q50 q51 q52 q53 q54 q55 q56 q57 q58 q59
        have HB := hC.1
        clear H9 hC
        go_wp2
        go_ret
        exact ⟨rfl, HB⟩
theorem awake_any (w : World) : Calls Try.prog 7 #[] w (Gives (.bool true) w) :=
  awake_walk (X48 := blk 0 48) (X50 := blk 0 50) (Y50 := blk 16384 50) (Y49 := blk 32768 49) (Z49 := blk 0 49) (T50 := blk 49152 50) (U50 := blk 32768 50)
    (blk_fit (by omega) (by omega) (by omega)) (blk_fit (by omega) (by omega) (by omega)) (blk_fit (by omega) (by omega) (by omega)) (blk_fit (by omega) (by omega) (by omega)) (blk_fit (by omega) (by omega) (by omega)) (blk_fit (by omega) (by omega) (by omega))
    (fun W => block_any (g := 0) (by omega) 0 rfl 48 W) (fun W => block_any (g := 0) (by omega) 0 rfl 50 W) (fun W => block_any (g := 16384) (by omega) 16384 rfl 50 W) (fun W => block_any (g := 32768) (by omega) 32768 rfl 49 W) (fun W => block_any (g := 0) (by omega) 0 rfl 49 W) (fun W => block_any (g := 49152) (by omega) 49152 rfl 50 W) (fun W => block_any (g := 32768) (by omega) 32768 rfl 50 W)
    aw_take aw_give aw_reserve aw_free aw_fits.1 aw_fits.2.1 aw_fits.2.2 w
end Go.Proofs.Ytpieddddckbfdaa
