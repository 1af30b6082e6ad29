/-
  Contract of carve. Conditions: the words are words of 64 bits, an int is an int of 64 bits; at most 200 holes.
-/
import Derived.Test.YtpieddddckbfdaaBuG
import Derived.Test.YtpieddddckbfdaaRgT
namespace Go.Proofs.Ytpieddddckbfdaa
open Go.RowKit Go.Joins

/-- what carve keeps -/
def HV (w : World) (p : Bk) (v : Value) (l : List Bk) (W : World) : Prop := Below w.heap.size w W ∧ Box w.heap.size p W ∧ Lst v l W
theorem HV.step {w : World} {p : Bk} {v : Value} {l : List Bk} {W w2 : World} (h : HV w p v l W) (hb : Below W.heap.size W w2) : HV w p v l w2 := ⟨h.1.trans (hb.mono h.1.size), h.2.1.step hb, h.2.2.step hb⟩
theorem HV.drew {w : World} {p : Bk} {v : Value} {l : List Bk} {W : World} (h : HV w p v l W) : HV w p v l { W with drawn := W.drawn + 1 } := h.step (Below.refl _ _).drew
theorem hv_new (w : World) (p : Bk) {v : Value} {l : List Bk} (h : Lst v l w) : HV w p v l (w.alloc (.cells #[.int .u64 (hi p.1 : Nat), .int .u64 (lo p.1 : Nat), .int .i64 p.2] 26)) :=
  ⟨below_alloc _ _, box_new _ _ _, h.step (below_alloc _ _)⟩
set_option maxRecDepth 100000 in
set_option maxHeartbeats 1000000 in
theorem carve_zero (k : Nat) (p : Bk) {v : Value} (w : World) (hv : Lst v [] w) :
    Calls Try.prog 48 #[Bv p, v] w (Makes (carveL (k + 1) p []) w) := by
  rw [carve_none]
  have H0 := hv_new w p hv
  obtain ⟨q, c, rfl⟩ := lst_len hv
  clear hv
  go_enter Try.func48, Try.ntmps48
  obtain ⟨HB, ⟨z, ⟨u0, u1, u2⟩, _⟩, _⟩ := id H0
  go_wp2
  go_ret
  have O := own_lit (w.alloc (.cells #[.int .u64 (hi p.1 : Nat), .int .u64 (lo p.1 : Nat), .int .i64 p.2] 26)) p
  rw [World.size_alloc] at O
  refine ⟨_, rfl, ?_, own_base O (Nat.le_succ _)⟩
  have hzB := HB.size
  repeat' (first | (with_reducible exact HB) | (with_reducible apply Below.drew) | (with_reducible apply Below.alloc) | (with_reducible apply Below.setCell))
  all_goals first | omega | (dsimp only; omega) | ((try simp); omega)
set_option maxRecDepth 100000 in
set_option maxHeartbeats 1000000 in
theorem carve_same (k : Nat) (p : Bk) {r : List Bk} {v : Value} (w : World) (hv : Lst v (p :: r) w) :
    Calls Try.prog 48 #[Bv p, v] w (Makes (carveL (k + 1) p (p :: r)) w) := by
  rw [carve_top]
  have H0 := hv_new w p hv
  obtain ⟨q, c, rfl⟩ := lst_len hv
  have hx : (p :: r)[0]? = some p := rfl
  obtain ⟨b, o, rfl, _⟩ := lst_at hv hx
  have HX := hide (fun W (H : HV w p (.slice (some ⟨b, o, none⟩) (p :: r).length c) (p :: r) W) => lst_at H.2.2 hx)
  have P0 : 0 < (p :: r).length := by simp
  have EQ := fun W => eq_run p p W
  rw [decide_eq_true rfl] at EQ
  clear hv hx
  generalize (p :: r).length = n at *
  go_enter Try.func48, Try.ntmps48
  go_wp2_with fail
  refine wp_region_quiet (C := HV w p (.slice (some ⟨b, o, none⟩) n c) (p :: r)) (by kernel_rfl) (by kernel_rfl) H0.drew (wpQuiet_step (fun K0 hK0 => ?_))
  go_simp
  first | (with_reducible refine hK0 _ (wpQuiet_step (fun K1 hK1 => ?_))) | (with_reducible refine ⟨_, fun _ _ => rfl, hK0 _ (wpQuiet_step (fun K1 hK1 => ?_))⟩) | (rw [if_neg (by intro e; cases e)]; with_reducible refine hK0 _ (wpQuiet_step (fun K1 hK1 => ?_)))
  clear hK0 K0
  go_simp
  first | (with_reducible refine hK1 _ (wpQuiet_step (fun K0 hK0 => ?_))) | (with_reducible refine ⟨_, fun _ _ => rfl, hK1 _ (wpQuiet_step (fun K0 hK0 => ?_))⟩) | (rw [if_neg (by intro e; cases e)]; with_reducible refine hK1 _ (wpQuiet_step (fun K0 hK0 => ?_)))
  clear hK1 K1
  go_simp
  refine ⟨Bv p, fun W hW => ?_, hK0 _ (wpQuiet_step (fun K1 hK1 => ?_))⟩
  · ((obtain ⟨_, _, eb, _, u0, u1, u2⟩ := HX.out W hW; cases eb; simp [go_sem] at u0 u1 u2; simp [go_sem, u0, u1, u2]))
  clear hK0 K0
  go_simp
  refine ⟨Bv p, fun W hW => ?_, hK1 _ (wpQuiet_step (fun K0 hK0 => ?_))⟩
  · ((obtain ⟨_, ⟨_, ⟨u0, u1, u2⟩, _⟩, _⟩ := hW; simp [go_sem, u0, u1, u2]))
  clear hK1 K1
  go_simp
  first | (with_reducible refine hK0 _ (wpQuiet_nil ?_)) | (with_reducible refine ⟨_, fun _ _ => rfl, hK0 _ (wpQuiet_nil ?_)⟩) | (rw [if_neg (by intro e; cases e)]; with_reducible refine hK0 _ (wpQuiet_nil ?_))
  clear hK0 K0
  intro w2 H2
  go_wp2
  go_ret
  exact ⟨_, rfl, H2.1, own_nil _ _⟩
theorem half_vals {p : Bk} (hs : sndB p = true) (hb : p.2 < 128) : lowA p.1 p.2 = (lowB p).1 ∧ halfN p.1 p.2 = p.2 + 1 ∧ highA p.1 p.2 = (highB p).1 ∧ halfOk p.1 p.2 = true := by
  have ho : halfOk p.1 p.2 = true := by
    unfold halfOk
    rw [show soundS p.1 p.2 = true from hs, Bool.true_and]
    simp
    omega
  refine ⟨?_, ?_, ?_, ho⟩
  · unfold lowA; rw [if_pos ho]; rfl
  · unfold halfN; rw [if_pos ho]
  · unfold highA; rw [if_pos ho]; rfl
/-- the halves as the program holds them -/
theorem halves_at {p : Bk} (fp : Fits p.1) (hs : sndB p = true) (hb : p.2 < 128) (W : World) : Calls Try.prog 65 #[Bv p] W (Gives (.tuple #[Bv (lowB p), Bv (highB p), .bool true]) W) := by
  obtain ⟨h1, h2, h3, h4⟩ := half_vals hs hb
  have h := halves_any fp p.2 W
  rw [h1, h2, h3, h4] at h
  exact h
theorem high_fits {p : Bk} (fp : Fits p.1) (hs : sndB p = true) (hb : p.2 < 128) : Fits (highB p).1 := by
  obtain ⟨⟨h0, h1⟩, hc⟩ := snd_iff.1 hs
  exact fits_high fp hc (by omega)
/-- what the last region of carve keeps -/
def HV3 (w : World) (g : Nat) (x y : Bk) (v : Value) (l : List Bk) (W : World) : Prop := Below w.heap.size w W ∧ Box g x W ∧ Box (g + 1) y W ∧ Lst v l W
theorem HV3.step {w : World} {g : Nat} {x y : Bk} {v : Value} {l : List Bk} {W w2 : World} (h : HV3 w g x y v l W) (hb : Below W.heap.size W w2) : HV3 w g x y v l w2 := ⟨h.1.trans (hb.mono h.1.size), h.2.1.step hb, h.2.2.1.step hb, h.2.2.2.step hb⟩
theorem hv3_new {w W : World} {x y : Bk} {v : Value} {l : List Bk} (hB : Below w.heap.size w W) (h : Lst v l W) : HV3 w W.heap.size x y v l ((W.alloc (.cells #[.int .u64 (hi x.1 : Nat), .int .u64 (lo x.1 : Nat), .int .i64 x.2] 26)).alloc (.cells #[.int .u64 (hi y.1 : Nat), .int .u64 (lo y.1 : Nat), .int .i64 y.2] 26)) := by
  have h1 := hh_new W x y 26
  exact ⟨chain hB h1.1, h1.2.1, h1.2.2, h.step h1.1⟩
set_option maxRecDepth 100000 in
set_option maxHeartbeats 2000000 in
theorem carve_more (k : Nat) (p : Bk) {x : Bk} {r : List Bk} {v : Value} (fp : Fits p.1) (hs : sndB p = true) (hb : p.2 < 128) (hne : x ≠ p) (hr : (x :: r).Pairwise (fun a b => a.1 ≤ b.1)) (hl : (x :: r).length ≤ 200) (LM : (carveL k (lowB p) (belowL (x :: r) (highB p).1)).length + (carveL k (highB p) (fromL (x :: r) (highB p).1)).length ≤ 1000000) (w : World) (hv : Lst v (x :: r) w)
    (h1 : ∀ W v, Lst v (belowL (x :: r) (highB p).1) W → Calls Try.prog 48 #[Bv (lowB p), v] W (Makes (carveL k (lowB p) (belowL (x :: r) (highB p).1)) W))
    (h2 : ∀ W v, Lst v (fromL (x :: r) (highB p).1) W → Calls Try.prog 48 #[Bv (highB p), v] W (Makes (carveL k (highB p) (fromL (x :: r) (highB p).1)) W)) :
    Calls Try.prog 48 #[Bv p, v] w (Makes (carveL (k + 1) p (x :: r)) w) := by
  rw [carve_step hne]
  have PL := hide (fun W v (H : Lst v (x :: r) W) => place_any hr (by omega) (highB p).1 W H)
  have HA := hide (fun W => halves_at fp hs hb W)
  have C1 := hide h1
  have C2 := hide h2
  obtain ⟨tk1, tk2⟩ := take_place (x :: r) (highB p).1
  have pl := place_le (x :: r) (highB p).1
  rw [← tk1] at C1 LM ⊢
  rw [← tk2] at C2 LM ⊢
  clear h1 h2 tk1 tk2
  generalize placeN (x :: r) (highB p).1 = i at *
  have H0 := hv_new w p hv
  obtain ⟨q, c, rfl⟩ := lst_len hv
  obtain ⟨_, lc1, lc2, _⟩ := lst_cap hv
  have hx : (x :: r)[0]? = some x := rfl
  obtain ⟨b, o, rfl, _⟩ := lst_at hv hx
  have HX := hide (fun W (H : HV w p (.slice (some ⟨b, o, none⟩) (x :: r).length c) (x :: r) W) => lst_at H.2.2 hx)
  have P0 : 0 < (x :: r).length := by simp
  have EQ := fun W => eq_run x p W
  rw [decide_eq_false hne] at EQ
  clear hv hx hne hr
  generalize hL : x :: r = L at *
  clear hL
  generalize hn : L.length = n at *
  generalize lowB p = lw at *
  generalize highB p = hg at *
  go_enter Try.func48, Try.ntmps48
  go_wp2_with fail
  refine wp_region_quiet (C := HV w p (.slice (some ⟨b, o, none⟩) n c) L) (by kernel_rfl) (by kernel_rfl) H0.drew (wpQuiet_step (fun K0 hK0 => ?_))
  go_simp
  first | (with_reducible refine hK0 _ (wpQuiet_step (fun K1 hK1 => ?_))) | (with_reducible refine ⟨_, fun _ _ => rfl, hK0 _ (wpQuiet_step (fun K1 hK1 => ?_))⟩) | (rw [if_neg (by intro e; cases e)]; with_reducible refine hK0 _ (wpQuiet_step (fun K1 hK1 => ?_)))
  clear hK0 K0
  go_simp
  first | (with_reducible refine hK1 _ (wpQuiet_step (fun K0 hK0 => ?_))) | (with_reducible refine ⟨_, fun _ _ => rfl, hK1 _ (wpQuiet_step (fun K0 hK0 => ?_))⟩) | (rw [if_neg (by intro e; cases e)]; with_reducible refine hK1 _ (wpQuiet_step (fun K0 hK0 => ?_)))
  clear hK1 K1
  go_simp
  refine ⟨Bv x, fun W hW => ?_, hK0 _ (wpQuiet_step (fun K1 hK1 => ?_))⟩
  · ((obtain ⟨_, _, eb, _, u0, u1, u2⟩ := HX.out W hW; cases eb; simp [go_sem] at u0 u1 u2; simp [go_sem, u0, u1, u2]))
  clear hK0 K0
  go_simp
  refine ⟨Bv p, fun W hW => ?_, hK1 _ (wpQuiet_step (fun K0 hK0 => ?_))⟩
  · ((obtain ⟨_, ⟨_, ⟨u0, u1, u2⟩, _⟩, _⟩ := hW; simp [go_sem, u0, u1, u2]))
  clear hK1 K1
  go_simp
  first | (with_reducible refine hK0 _ (wpQuiet_nil ?_)) | (with_reducible refine ⟨_, fun _ _ => rfl, hK0 _ (wpQuiet_nil ?_)⟩) | (rw [if_neg (by intro e; cases e)]; with_reducible refine hK0 _ (wpQuiet_nil ?_))
  clear hK0 K0
  intro w2 H2
  clear H0 EQ HX
  obtain ⟨HB, ⟨z, ⟨u0, u1, u2⟩, _⟩, _⟩ := id H2
  go_wp2_with fail
  clear z u0 u1 u2
  refine (HA.out _).mono ?_
  rintro e w3 ⟨rfl, hb3⟩
  have H3 := hv3_new (x := lw) (y := hg) (chain HB hb3) (H2.2.2.step hb3)
  clear H2 HB hb3 HA
  obtain ⟨_, _, ⟨z, ⟨u0, u1, u2⟩, _⟩, _⟩ := id H3
  go_wp2_with fail
  clear z u0 u1 u2
  refine (PL.out _ _ H3.2.2.2).mono ?_
  rintro e w4 ⟨rfl, hb4⟩
  have H4 := H3.step hb4
  clear H3 hb4 PL
  go_wp2_with fail
  obtain ⟨TV, hTV⟩ : ∃ TV, Value.slice (if c = i then some ⟨b, o, none⟩ else some ⟨b, o + i * 3, none⟩) (n - i) (c - i) = TV := ⟨_, rfl⟩
  have HTV := hide hTV
  have TKL := hide (fun W (H : Lst (.slice (some ⟨b, o, none⟩) n c) L W) => lst_take H (show i ≤ L.length by omega))
  have TVL := hide (fun W (H : Lst (.slice (some ⟨b, o, none⟩) n c) L W) => (show Lst TV (L.drop i) W from hTV ▸ lst_dropV H (show i ≤ L.length by omega)))
  clear hTV
  have ic : i ≤ c := by omega
  generalize w3.heap.size = g at *
  refine wp_region_relT 10 2 (HV3 w g lw hg (.slice (some ⟨b, o, none⟩) n c) L) [some 29, some 30, some 31, some 32, some 33, some 34, some 35, some 36, some 37, some 38] [fun yy _ => yy = Bv lw, fun yy _ => yy = .slice (some ⟨b, o, none⟩) n c, fun yy _ => yy = .int .i64 (i : Nat), fun yy _ => yy = .slice (some ⟨b, o, none⟩) i c, fun yy W => Own W w.heap.size yy (carveL k lw (L.take i)), fun yy _ => yy = Bv hg, fun yy _ => yy = .slice (some ⟨b, o, none⟩) n c, fun yy _ => yy = .int .i64 (i : Nat), fun yy _ => yy = TV, fun yy W => Own W w.heap.size yy (carveL k hg (L.drop i))] 40 (by kernel_rfl) rfl (by omega) (by kernel_rfl) (by kernel_rfl) rfl rfl (H4.step (Below.refl _ _).drew) ?_ ?_
  · refine ⟨⟨fun _ _ _ h _ => h, fun a' W K hC hd hf hK => ?_⟩, ⟨fun _ _ _ h _ => h, fun a' W K hC hd hf hK => ?_⟩, ⟨fun _ _ _ h _ => h, fun a' W K hC hd hf hK => ?_⟩, ⟨fun _ _ _ h _ => h, fun a' W K hC hd hf hK => ?_⟩, ⟨fun _ _ _ h hb => own_keep h hb, fun a' W K hC hd hf hK => ?_⟩, ⟨fun _ _ _ h _ => h, fun a' W K hC hd hf hK => ?_⟩, ⟨fun _ _ _ h _ => h, fun a' W K hC hd hf hK => ?_⟩, ⟨fun _ _ _ h _ => h, fun a' W K hC hd hf hK => ?_⟩, ⟨fun _ _ _ h _ => h, fun a' W K hC hd hf hK => ?_⟩, ⟨fun _ _ _ h hb => own_keep h hb, fun a' W K hC hd hf hK => ?_⟩, trivial⟩
    · refine op_plain rfl ?_
      have f5 : a'.tmps[5]?.getD undef = .pointer (some ⟨g, 0, none⟩) := (hf.out 5 (by kernel_rfl)).trans (by simp)
      obtain ⟨_, ⟨z1, ⟨a0, a1, a2⟩, _⟩, ⟨z2, ⟨b0, b1, b2⟩, _⟩, _⟩ := id hC
      go_simp
      exact hK.out _ _ hC (Below.refl _ _) rfl
    · refine op_plain rfl ?_
      have f1 : a'.tmps[1]?.getD undef = .slice (some ⟨b, o, none⟩) n c := (hf.out 1 (by kernel_rfl)).trans (by simp)
      go_simp
      exact hK.out _ _ hC (Below.refl _ _) rfl
    · refine op_plain rfl ?_
      have f8 : a'.tmps[8]?.getD undef = .int .i64 (i : Nat) := (hf.out 8 (by kernel_rfl)).trans (by simp)
      go_simp
      exact hK.out _ _ hC (Below.refl _ _) rfl
    · refine op_plain rfl ?_
      have d30 : a'.tmps[30]?.getD undef = .slice (some ⟨b, o, none⟩) n c := hd.out 1 30 (by kernel_rfl) rfl
      have d31 : a'.tmps[31]?.getD undef = .int .i64 (i : Nat) := hd.out 2 31 (by kernel_rfl) rfl
      go_simp
      exact hK.out _ _ hC (Below.refl _ _) rfl
    · refine op_plain rfl ?_
      have d29 : a'.tmps[29]?.getD undef = Bv lw := hd.out 0 29 (by kernel_rfl) rfl
      have d32 : a'.tmps[32]?.getD undef = .slice (some ⟨b, o, none⟩) i c := hd.out 3 32 (by kernel_rfl) rfl
      go_simp
      refine (C1.out W _ (TKL.out _ hC.2.2.2)).mono ?_
      rintro e W2 ⟨yy, rfl, hbW, hO⟩
      exact hK.out _ _ (HV3.step hC hbW) hbW (own_base hO hC.1.size)
    · refine op_plain rfl ?_
      have f6 : a'.tmps[6]?.getD undef = .pointer (some ⟨g + 1, 0, none⟩) := (hf.out 6 (by kernel_rfl)).trans (by simp)
      obtain ⟨_, ⟨z1, ⟨a0, a1, a2⟩, _⟩, ⟨z2, ⟨b0, b1, b2⟩, _⟩, _⟩ := id hC
      go_simp
      exact hK.out _ _ hC (Below.refl _ _) rfl
    · refine op_plain rfl ?_
      have f1 : a'.tmps[1]?.getD undef = .slice (some ⟨b, o, none⟩) n c := (hf.out 1 (by kernel_rfl)).trans (by simp)
      go_simp
      exact hK.out _ _ hC (Below.refl _ _) rfl
    · refine op_plain rfl ?_
      have f8 : a'.tmps[8]?.getD undef = .int .i64 (i : Nat) := (hf.out 8 (by kernel_rfl)).trans (by simp)
      go_simp
      exact hK.out _ _ hC (Below.refl _ _) rfl
    · refine op_plain rfl ?_
      have d35 : a'.tmps[35]?.getD undef = .slice (some ⟨b, o, none⟩) n c := hd.out 6 35 (by kernel_rfl) rfl
      have d36 : a'.tmps[36]?.getD undef = .int .i64 (i : Nat) := hd.out 7 36 (by kernel_rfl) rfl
      go_simp
      rw [HTV.out]
      exact hK.out _ _ hC (Below.refl _ _) rfl
    · refine op_plain rfl ?_
      have d34 : a'.tmps[34]?.getD undef = Bv hg := hd.out 5 34 (by kernel_rfl) rfl
      have d37 : a'.tmps[37]?.getD undef = TV := hd.out 8 37 (by kernel_rfl) rfl
      go_simp
      refine (C2.out W _ (TVL.out _ hC.2.2.2)).mono ?_
      rintro e W2 ⟨yy, rfl, hbW, hO⟩
      exact hK.out _ _ (HV3.step hC hbW) hbW (own_base hO hC.1.size)
  · intro vs W5 hC hR
    have q0 : vs 0 = Bv lw := hR.out 0 (by decide)
    have q1 : vs 1 = .slice (some ⟨b, o, none⟩) n c := hR.out 1 (by decide)
    have q2 : vs 2 = .int .i64 (i : Nat) := hR.out 2 (by decide)
    have q3 : vs 3 = .slice (some ⟨b, o, none⟩) i c := hR.out 3 (by decide)
    have r4 := hR.out 4 (by decide)
    generalize hq4 : vs 4 = q4 at *
    change (fun yy W => Own W w.heap.size yy (carveL k lw (L.take i))) q4 W5 at r4
    have q5 : vs 5 = Bv hg := hR.out 5 (by decide)
    have q6 : vs 6 = .slice (some ⟨b, o, none⟩) n c := hR.out 6 (by decide)
    have q7 : vs 7 = .int .i64 (i : Nat) := hR.out 7 (by decide)
    have q8 : vs 8 = TV := hR.out 8 (by decide)
    have r9 := hR.out 9 (by decide)
    generalize hq9 : vs 9 = q9 at *
    change (fun yy W => Own W w.heap.size yy (carveL k hg (L.drop i))) q9 W5 at r9
    simp only [List.drop_succ_cons, List.drop_zero, fillF, Act.put, List.setIfInBounds_toArray, List.set_cons_zero, List.set_cons_succ, Nat.reduceAdd, q0, q1, q2, q3, hq4, q5, q6, q7, q8, hq9]
    clear hR q0 q1 q2 q3 hq4 q5 q6 q7 q8 hq9
    have HB5 := hC.1
    clear H4 C1 C2 TKL TVL HTV hC
    generalize carveL k lw (L.take i) = M1 at *
    generalize carveL k hg (L.drop i) = M2 at *
    have L9 := own_lst r9
    go_wp2_with (at_builtin; refine wpList_append_lst rfl (.tmp 33) (.tmp 38) rfl w.heap.size _ M1 rfl r4 _ M2 rfl L9 LM HB5.size ?_)
    intro v6 W6 O6 hb6 _
    go_wp2
    go_ret
    exact ⟨_, rfl, HB5.trans hb6, O6⟩
theorem carve_any : ∀ (k : Nat) (p : Bk) (hs : List Bk) {v : Value}, Fits p.1 → sndB p = true → 128 - p.2.toNat < k → OrdL p hs → hs.length ≤ 200 → ∀ (w : World), Lst v hs w →
    Calls Try.prog 48 #[Bv p, v] w (Makes (carveL k p hs) w)
  | 0, p, hs, _, _, _, hk, _, _, _, _ => by omega
  | k + 1, p, [], _, _, _, _, _, _, w, hv => carve_zero k p w hv
  | k + 1, p, x :: r, v, fp, sp, hk, ho, hl, w, hv => by
    by_cases hx : x = p
    · subst hx
      exact carve_same k x w hv
    · have hp : p ∉ x :: r := fun h => by
        have e := ord_whole ho h
        simp at e
        exact hx e.1
      have hb := (cov_half (ho.1 x (by simp)) hx).1
      obtain ⟨f1, f2, f3, f4, f5⟩ := half_all sp hb
      obtain ⟨⟨g0, g1⟩, _⟩ := snd_iff.1 sp
      obtain ⟨o1, o2⟩ := ord_split ho hp hb sp
      have l1 := (below_sub (x :: r) (highB p).1).length_le
      have l2 := (from_sub (x :: r) (highB p).1).length_le
      have k1 : 128 - (lowB p).2.toNat < k := by rw [low_2]; omega
      have k2 : 128 - (highB p).2.toNat < k := by rw [high_2]; omega
      have n1 := (carve_spec k (lowB p) _ f1 k1 o1).2.2.2
      have n2 := (carve_spec k (highB p) _ f2 k2 o2).2.2.2
      have m1 := Nat.mul_le_mul (show 128 - (lowB p).2.toNat ≤ 128 by omega) (show (belowL (x :: r) (highB p).1).length ≤ 200 by omega)
      have m2 := Nat.mul_le_mul (show 128 - (highB p).2.toNat ≤ 128 by omega) (show (fromL (x :: r) (highB p).1).length ≤ 200 by omega)
      refine carve_more k p fp sp hb hx (ord_rise ho) hl (by omega) w hv (fun W v hv' => ?_) (fun W v hv' => ?_)
      · exact carve_any k (lowB p) _ fp f1 k1 o1 (by omega) W hv'
      · exact carve_any k (highB p) _ (high_fits fp sp hb) f2 k2 o2 (by omega) W hv'
end Go.Proofs.Ytpieddddckbfdaa
