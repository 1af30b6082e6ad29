/-
  Contract of grow. Conditions: the words are words of 64 bits, an int is an int of 64 bits; at most 100000 prefixes.
-/
import Derived.Test.YtpieddddckbfdaaBuR
namespace Go.Proofs.Ytpieddddckbfdaa
open Go.RowKit Go.Joins

/-- what grow keeps -/
def HG (w : World) (b : Bk) (W : World) : Prop := Below w.heap.size w W ∧ Box w.heap.size b W
theorem HG.step {w : World} {b : Bk} {W w2 : World} (h : HG w b W) (hb : Below W.heap.size W w2) : HG w b w2 := ⟨h.1.trans (hb.mono h.1.size), h.2.step hb⟩
theorem HG.drew {w : World} {b : Bk} {W : World} (h : HG w b W) : HG w b { W with drawn := W.drawn + 1 } := h.step (Below.refl _ _).drew
theorem HG.put {w : World} {b : Bk} {W : World} (h : HG w b W) (y : Bk) : HG w y (((W.setCell ⟨w.heap.size, 0, none⟩ (.int .u64 (hi y.1 : Nat))).setCell ⟨w.heap.size, 1, none⟩ (.int .u64 (lo y.1 : Nat))).setCell ⟨w.heap.size, 2, none⟩ (.int .i64 y.2)) :=
  ⟨((h.1.setCell (Nat.le_refl _) _).setCell (Nat.le_refl _) _).setCell (Nat.le_refl _) _, h.2.put y⟩
theorem lst_now {w : World} {v : Value} {l : List Bk} (h : Lst v l w) {W : World} (hb : Below w.heap.size w W) : Lst v l W := h.step hb
theorem last_none (L : List Bk) (b : Bk) : lastSib L 0 b = false := rfl
theorem last_at {L : List Bk} {i : Nat} {x : Bk} (h0 : 0 < i) (hx : L[i - 1]? = some x) (b : Bk) : lastSib L i b = sibB x b := by
  cases i with
  | zero => omega
  | succ i => rw [last_succ]; rw [Nat.add_sub_cancel] at hx; rw [hx]
theorem first_none {L : List Bk} {j : Nat} (h : L.length ≤ j) (b : Bk) : firstSib L j b = false := by
  unfold firstSib
  rw [List.getElem?_eq_none h]
theorem first_at {L : List Bk} {j : Nat} {x : Bk} (hx : L[j]? = some x) (b : Bk) : firstSib L j b = sibB b x := by
  unfold firstSib
  rw [hx]
theorem grow_left {k : Nat} {L : List Bk} {i : Nat} {b : Bk} {j : Nat} (h : lastSib L i b = true) : growL (k + 1) L i b j = growL k L (i - 1) (parB b) j := by rw [growL, if_pos h]
theorem grow_right {k : Nat} {L : List Bk} {i : Nat} {b : Bk} {j : Nat} (h : lastSib L i b = false) (h2 : firstSib L j b = true) : growL (k + 1) L i b j = growL k L i (parB b) (j + 1) := by
  rw [growL, if_neg (by rw [h]; decide), if_pos h2]
theorem grow_end {k : Nat} {L : List Bk} {i : Nat} {b : Bk} {j : Nat} (h : lastSib L i b = false) (h2 : firstSib L j b = false) : growL (k + 1) L i b j = L.take i ++ [b] ++ L.drop j := by
  rw [growL, if_neg (by rw [h]; decide), if_neg (by rw [h2]; decide)]
  simp
theorem par_bits {b : Bk} (h : isPar b = true) : (parB b).2.toNat + 1 = b.2.toNat := by
  have ho : okN (b.2 - 1) = true := h
  have := okN_iff.1 ho
  unfold parB clipN
  rw [if_pos ho]
  simp only
  omega
theorem sib_par {x y : Bk} (h : sibB x y = true) : isPar x = true ∧ isPar y = true := by
  unfold sibB at h
  rw [Bool.and_eq_true, Bool.and_eq_true] at h
  exact h.1
/-- what stands at a round's head -/
def RelG (w : World) (L : List Bk) (R : List Bk) (kx : Nat) (s0 s2 : Value) (W : World) : Prop :=
  ∃ (k i j : Nat) (b : Bk) (q0 q2 : Option Go.Addr) (c0 c2 : Nat), s0 = .slice q0 i c0 ∧ s2 = .slice q2 (L.length - j) c2 ∧ Lst (.slice q0 i c0) (L.take i) w ∧ Lst (.slice q2 (L.length - j) c2) (L.drop j) w ∧ i ≤ L.length ∧ j ≤ L.length ∧
    HG w b W ∧ FitB b ∧ growL k L i b j = R ∧ b.2.toNat < k ∧ k ≤ kx

set_option maxRecDepth 100000 in
set_option maxHeartbeats 4000000 in
theorem grow_loop {v0 v2 : Value} {L : List Bk} {i0 j0 : Nat} {b0 : Bk} {k0 : Nat} (hf : FitL L) (fb : FitB b0) (hl : L.length ≤ 100000) (w : World) (h0 : Lst v0 (L.take i0) w) (h2 : Lst v2 (L.drop j0) w) (hil : i0 ≤ L.length) (hjl : j0 ≤ L.length) (hk : b0.2.toNat < k0) :
    Calls Try.prog 42 #[v0, Bv b0, v2] w (Makes (growL k0 L i0 b0 j0) w) := by
  have CC := hide (fun W g v0 v1 v2 i (b : Bk) j (H : Parts g [v0, v1, v2] [L.take i, [b], L.drop j] W) => concat3 (by rw [List.length_take, List.length_drop, List.length_singleton]; omega) W H)
  obtain ⟨q0, c0, rfl⟩ := lst_len h0
  obtain ⟨q2, c2, rfl⟩ := lst_len h2
  have e0 : (L.take i0).length = i0 := by rw [List.length_take]; omega
  have e2 : (L.drop j0).length = L.length - j0 := List.length_drop
  rw [e0] at h0 ⊢
  rw [e2] at h2 ⊢
  have H0 : RelG w L (growL k0 L i0 b0 j0) k0 (.slice q0 i0 c0) (.slice q2 (L.length - j0) c2) (w.alloc (.cells #[.int .u64 (hi b0.1 : Nat), .int .u64 (lo b0.1 : Nat), .int .i64 b0.2] 26)) :=
    ⟨k0, i0, j0, b0, q0, q2, c0, c2, rfl, rfl, h0, h2, hil, hjl, ⟨below_alloc _ _, box_new _ _ _⟩, fb, rfl, hk, Nat.le_refl _⟩
  generalize growL k0 L i0 b0 j0 = R at *
  clear h0 h2 hil hjl hk fb e0 e2
  go_enter Try.func42, Try.ntmps42
  go_wp2
  go_loopg [0, 2] k0 (fun kx s0 s2 wr => RelG w L R kx s0 s2 wr)
  case atStart => exact H0
  case round =>
    obtain ⟨k, i, j, b, q0, q2, c0, c2, rfl, rfl, L0, L2, hil, hjl, HB, fb, hR, hbits, hkx⟩ := hrel
    clear H0
    obtain ⟨k, rfl⟩ : ∃ k', k = k' + 1 := ⟨k - 1, by omega⟩
    have HR := hide hR
    have PA := hide (fun W => parent_any fb W)
    have pf := par_fit fb
    obtain ⟨-, ic, ic2, -⟩ := lst_cap L0
    obtain ⟨-, jc, jc2, -⟩ := lst_cap L2
    have LL0 := hide (fun W (H : HG w b W) => lst_now L0 H.1)
    have LL2 := hide (fun W (H : HG w b W) => lst_now L2 H.1)
    clear hR
    by_cases hi0 : 0 < i
    · obtain ⟨x, hx⟩ := get_some (show i - 1 < L.length by omega)
      have fx := fit_at hf hx
      have hx0 := hide (show (L.take i)[i - 1]? = some x by rw [List.getElem?_take, if_pos (by omega)]; exact hx)
      have HX := hide (fun W (H : HG w b W) => lst_at (LL0.out W H) hx0.out)
      obtain ⟨b1, o1, rfl, _⟩ := lst_at L0 hx0.out
      have B0 : 0 ≤ (i : Int) - 1 := by omega
      have B1 : 1 ≤ (i : Int) := by omega
      have WS : IntKind.i64.wrap ((i : Int) - 1) = (i : Int) - 1 := IntWalk.i64_in _ ⟨by omega, by omega⟩
      have BL : (i : Int) - 1 < (i : Int) := by omega
      have BN : ((i : Int) - 1).toNat = i - 1 := by omega
      cases hs1 : sibB x b with
      | true =>
        have LS := hide ((last_at hi0 hx b).trans hs1)
        have SX := hide (fun W => via (sib_any fx fb W) (v' := .bool true) (by rw [hs1]))
        have IP := hide (sib_par hs1).2
        have RE := hide ((grow_left (k := k) (j := j) LS.out).symm.trans HR.out)
        have BC : (i : Int) - 1 ≤ (c0 : Int) := by omega
        have LT := hide (show Lst (.slice (some ⟨b1, o1, none⟩) (i - 1) c0) (L.take (i - 1)) w from by
          have := lst_take L0 (f := i - 1) (by rw [List.length_take]; omega)
          rwa [List.take_take, Nat.min_eq_left (by omega)] at this)
        clear hx hs1
        go_wp2_with fail
        refine wp_region_quiet (C := HG w b) (by kernel_rfl) (by kernel_rfl) HB.drew (wpQuiet_step (fun K0 hK0 => ?_))
        go_simp
        first | (with_reducible refine hK0 _ (wpQuiet_step (fun K1 hK1 => ?_))) | (with_reducible refine ⟨_, fun _ _ => rfl, hK0 _ (wpQuiet_step (fun K1 hK1 => ?_))⟩) | (rw [if_neg (by intro e; cases e)]; with_reducible refine hK0 _ (wpQuiet_step (fun K1 hK1 => ?_)))
        clear hK0 K0
        go_simp
        first | (with_reducible refine hK1 _ (wpQuiet_step (fun K0 hK0 => ?_))) | (with_reducible refine ⟨_, fun _ _ => rfl, hK1 _ (wpQuiet_step (fun K0 hK0 => ?_))⟩) | (rw [if_neg (by intro e; cases e)]; with_reducible refine hK1 _ (wpQuiet_step (fun K0 hK0 => ?_)))
        clear hK1 K1
        go_simp
        first | (with_reducible refine hK0 _ (wpQuiet_step (fun K1 hK1 => ?_))) | (with_reducible refine ⟨_, fun _ _ => rfl, hK0 _ (wpQuiet_step (fun K1 hK1 => ?_))⟩) | (rw [if_neg (by intro e; cases e)]; with_reducible refine hK0 _ (wpQuiet_step (fun K1 hK1 => ?_)))
        clear hK0 K0
        go_simp
        first | (with_reducible refine hK1 _ (wpQuiet_step (fun K0 hK0 => ?_))) | (with_reducible refine ⟨_, fun _ _ => rfl, hK1 _ (wpQuiet_step (fun K0 hK0 => ?_))⟩) | (rw [if_neg (by intro e; cases e)]; with_reducible refine hK1 _ (wpQuiet_step (fun K0 hK0 => ?_)))
        clear hK1 K1
        go_simp
        first | (with_reducible refine hK0 _ (wpQuiet_step (fun K1 hK1 => ?_))) | (with_reducible refine ⟨_, fun _ _ => rfl, hK0 _ (wpQuiet_step (fun K1 hK1 => ?_))⟩) | (rw [if_neg (by intro e; cases e)]; with_reducible refine hK0 _ (wpQuiet_step (fun K1 hK1 => ?_)))
        clear hK0 K0
        go_simp
        first | (with_reducible refine hK1 _ (wpQuiet_step (fun K0 hK0 => ?_))) | (with_reducible refine ⟨_, fun _ _ => rfl, hK1 _ (wpQuiet_step (fun K0 hK0 => ?_))⟩) | (rw [if_neg (by intro e; cases e)]; with_reducible refine hK1 _ (wpQuiet_step (fun K0 hK0 => ?_)))
        clear hK1 K1
        go_simp
        refine ⟨Bv x, fun W hW => ?_, hK0 _ (wpQuiet_step (fun K1 hK1 => ?_))⟩
        · ((obtain ⟨_, _, eb, _, u0, u1, u2⟩ := HX.out W hW; cases eb; simp [go_sem, u0, u1, u2]))
        clear hK0 K0
        go_simp
        refine ⟨Bv b, fun W hW => ?_, hK1 _ (wpQuiet_step (fun K0 hK0 => ?_))⟩
        · ((obtain ⟨_, _, ⟨u0, u1, u2⟩, _⟩ := hW; simp [go_sem, u0, u1, u2]))
        clear hK1 K1
        go_simp
        refine ⟨.bool true, fun W hW => ?_, hK0 _ (wpQuiet_step (fun K1 hK1 => ?_))⟩
        · exact (SX.out W).mono fun e w2 ⟨he, hb⟩ => ⟨he, HG.step hW hb⟩
        clear hK0 K0
        go_simp
        first | (with_reducible refine hK1 _ (wpQuiet_step (fun K0 hK0 => ?_))) | (with_reducible refine ⟨_, fun _ _ => rfl, hK1 _ (wpQuiet_step (fun K0 hK0 => ?_))⟩) | (rw [if_neg (by intro e; cases e)]; with_reducible refine hK1 _ (wpQuiet_step (fun K0 hK0 => ?_)))
        clear hK1 K1
        go_simp
        first | (with_reducible refine hK0 _ (wpQuiet_nil ?_)) | (with_reducible refine ⟨_, fun _ _ => rfl, hK0 _ (wpQuiet_nil ?_)⟩) | (rw [if_neg (by intro e; cases e)]; with_reducible refine hK0 _ (wpQuiet_nil ?_))
        clear hK0 K0
        intro w3 H3
        have HW := H3
        clear H3 HB
        obtain ⟨_, z, ⟨u0, u1, u2⟩, _⟩ := id HW
        go_wp2_with fail
        clear z u0 u1 u2
        refine (PA.out _).mono ?_
        rintro e w7 ⟨rfl, hb7⟩
        have H7 := HW.step hb7
        clear hb7 PA
        obtain ⟨_, z, ⟨u0, u1, u2⟩, f0, f1, f2⟩ := id H7
        go_wp2
        go_roundg k
        case rel => exact ⟨k, i - 1, j, parB b, some ⟨b1, o1, none⟩, q2, c0, c2, rfl, rfl, LT.out, L2, by omega, hjl, H7.put (parB b), pf, RE.out, by have := par_bits IP.out; omega, Nat.le_refl _⟩
        case measure => omega
      | false =>
        have LS := hide ((last_at hi0 hx b).trans hs1)
        have SX := hide (fun W => via (sib_any fx fb W) (v' := .bool false) (by rw [hs1]))
        clear hx hs1
        by_cases hj0 : j < L.length
        · obtain ⟨y, hy⟩ := get_some hj0
          have fy := fit_at hf hy
          have hy0 := hide (show (L.drop j)[0]? = some y by rw [List.getElem?_drop]; simpa using hy)
          have HY := hide (fun W (H : HG w b W) => lst_at (LL2.out W H) hy0.out)
          have J0 : 0 < L.length - j := by omega
          obtain ⟨b2, o2, rfl, _⟩ := lst_at L2 hy0.out
          cases hs2 : sibB b y with
          | true =>
            have FQ := hide ((first_at hy b).trans hs2)
            have SY := hide (fun W => via (sib_any fb fy W) (v' := .bool true) (by rw [hs2]))
            have IP := hide (sib_par hs2).1
            clear hy hs2
            have RE := hide ((grow_right (k := k) LS.out FQ.out).symm.trans HR.out)
            have J2 : 1 ≤ c2 := by omega
            have LN := hide (show Lst (dropV b2 o2 (L.length - j) c2 1) (L.drop (j + 1)) w from by
              have := lst_dropV (i := 1) L2 (by rw [List.length_drop]; omega)
              rwa [List.drop_drop] at this)
            rcases Nat.lt_or_ge 1 c2 with hc2 | hc2
            · have LN2 : Lst (.slice (some ⟨b2, o2 + 3, none⟩) (L.length - (j + 1)) (c2 - 1)) (L.drop (j + 1)) w := by
                have e := LN.out
                unfold dropV at e
                rw [if_neg (by omega), Nat.one_mul, show L.length - j - 1 = L.length - (j + 1) by omega] at e
                exact e
              have NE : ¬ c2 = 1 := by omega
              have LH := hide LN2
              clear LN LN2
              go_wp2_with fail
              refine wp_region_quiet (C := HG w b) (by kernel_rfl) (by kernel_rfl) HB.drew (wpQuiet_step (fun K0 hK0 => ?_))
              go_simp
              first | (with_reducible refine hK0 _ (wpQuiet_step (fun K1 hK1 => ?_))) | (with_reducible refine ⟨_, fun _ _ => rfl, hK0 _ (wpQuiet_step (fun K1 hK1 => ?_))⟩) | (rw [if_neg (by intro e; cases e)]; with_reducible refine hK0 _ (wpQuiet_step (fun K1 hK1 => ?_)))
              clear hK0 K0
              go_simp
              first | (with_reducible refine hK1 _ (wpQuiet_step (fun K0 hK0 => ?_))) | (with_reducible refine ⟨_, fun _ _ => rfl, hK1 _ (wpQuiet_step (fun K0 hK0 => ?_))⟩) | (rw [if_neg (by intro e; cases e)]; with_reducible refine hK1 _ (wpQuiet_step (fun K0 hK0 => ?_)))
              clear hK1 K1
              go_simp
              first | (with_reducible refine hK0 _ (wpQuiet_step (fun K1 hK1 => ?_))) | (with_reducible refine ⟨_, fun _ _ => rfl, hK0 _ (wpQuiet_step (fun K1 hK1 => ?_))⟩) | (rw [if_neg (by intro e; cases e)]; with_reducible refine hK0 _ (wpQuiet_step (fun K1 hK1 => ?_)))
              clear hK0 K0
              go_simp
              first | (with_reducible refine hK1 _ (wpQuiet_step (fun K0 hK0 => ?_))) | (with_reducible refine ⟨_, fun _ _ => rfl, hK1 _ (wpQuiet_step (fun K0 hK0 => ?_))⟩) | (rw [if_neg (by intro e; cases e)]; with_reducible refine hK1 _ (wpQuiet_step (fun K0 hK0 => ?_)))
              clear hK1 K1
              go_simp
              first | (with_reducible refine hK0 _ (wpQuiet_step (fun K1 hK1 => ?_))) | (with_reducible refine ⟨_, fun _ _ => rfl, hK0 _ (wpQuiet_step (fun K1 hK1 => ?_))⟩) | (rw [if_neg (by intro e; cases e)]; with_reducible refine hK0 _ (wpQuiet_step (fun K1 hK1 => ?_)))
              clear hK0 K0
              go_simp
              first | (with_reducible refine hK1 _ (wpQuiet_step (fun K0 hK0 => ?_))) | (with_reducible refine ⟨_, fun _ _ => rfl, hK1 _ (wpQuiet_step (fun K0 hK0 => ?_))⟩) | (rw [if_neg (by intro e; cases e)]; with_reducible refine hK1 _ (wpQuiet_step (fun K0 hK0 => ?_)))
              clear hK1 K1
              go_simp
              refine ⟨Bv x, fun W hW => ?_, hK0 _ (wpQuiet_step (fun K1 hK1 => ?_))⟩
              · ((obtain ⟨_, _, eb, _, u0, u1, u2⟩ := HX.out W hW; cases eb; simp [go_sem, u0, u1, u2]))
              clear hK0 K0
              go_simp
              refine ⟨Bv b, fun W hW => ?_, hK1 _ (wpQuiet_step (fun K0 hK0 => ?_))⟩
              · ((obtain ⟨_, _, ⟨u0, u1, u2⟩, _⟩ := hW; simp [go_sem, u0, u1, u2]))
              clear hK1 K1
              go_simp
              refine ⟨.bool false, fun W hW => ?_, hK0 _ (wpQuiet_step (fun K1 hK1 => ?_))⟩
              · exact (SX.out W).mono fun e w2 ⟨he, hb⟩ => ⟨he, HG.step hW hb⟩
              clear hK0 K0
              go_simp
              first | (with_reducible refine hK1 _ (wpQuiet_step (fun K0 hK0 => ?_))) | (with_reducible refine ⟨_, fun _ _ => rfl, hK1 _ (wpQuiet_step (fun K0 hK0 => ?_))⟩) | (rw [if_neg (by intro e; cases e)]; with_reducible refine hK1 _ (wpQuiet_step (fun K0 hK0 => ?_)))
              clear hK1 K1
              go_simp
              first | (with_reducible refine hK0 _ (wpQuiet_nil ?_)) | (with_reducible refine ⟨_, fun _ _ => rfl, hK0 _ (wpQuiet_nil ?_)⟩) | (rw [if_neg (by intro e; cases e)]; with_reducible refine hK0 _ (wpQuiet_nil ?_))
              clear hK0 K0
              intro w3 H3
              clear HB
              go_wp2_with fail
              refine wp_region_quiet (C := HG w b) (by kernel_rfl) (by kernel_rfl) H3.drew (wpQuiet_step (fun K0 hK0 => ?_))
              go_simp
              first | (with_reducible refine hK0 _ (wpQuiet_step (fun K1 hK1 => ?_))) | (with_reducible refine ⟨_, fun _ _ => rfl, hK0 _ (wpQuiet_step (fun K1 hK1 => ?_))⟩) | (rw [if_neg (by intro e; cases e)]; with_reducible refine hK0 _ (wpQuiet_step (fun K1 hK1 => ?_)))
              clear hK0 K0
              go_simp
              first | (with_reducible refine hK1 _ (wpQuiet_step (fun K0 hK0 => ?_))) | (with_reducible refine ⟨_, fun _ _ => rfl, hK1 _ (wpQuiet_step (fun K0 hK0 => ?_))⟩) | (rw [if_neg (by intro e; cases e)]; with_reducible refine hK1 _ (wpQuiet_step (fun K0 hK0 => ?_)))
              clear hK1 K1
              go_simp
              first | (with_reducible refine hK0 _ (wpQuiet_step (fun K1 hK1 => ?_))) | (with_reducible refine ⟨_, fun _ _ => rfl, hK0 _ (wpQuiet_step (fun K1 hK1 => ?_))⟩) | (rw [if_neg (by intro e; cases e)]; with_reducible refine hK0 _ (wpQuiet_step (fun K1 hK1 => ?_)))
              clear hK0 K0
              go_simp
              first | (with_reducible refine hK1 _ (wpQuiet_step (fun K0 hK0 => ?_))) | (with_reducible refine ⟨_, fun _ _ => rfl, hK1 _ (wpQuiet_step (fun K0 hK0 => ?_))⟩) | (rw [if_neg (by intro e; cases e)]; with_reducible refine hK1 _ (wpQuiet_step (fun K0 hK0 => ?_)))
              clear hK1 K1
              go_simp
              refine ⟨Bv b, fun W hW => ?_, hK0 _ (wpQuiet_step (fun K1 hK1 => ?_))⟩
              · ((obtain ⟨_, _, ⟨u0, u1, u2⟩, _⟩ := hW; simp [go_sem, u0, u1, u2]))
              clear hK0 K0
              go_simp
              first | (with_reducible refine hK1 _ (wpQuiet_step (fun K0 hK0 => ?_))) | (with_reducible refine ⟨_, fun _ _ => rfl, hK1 _ (wpQuiet_step (fun K0 hK0 => ?_))⟩) | (rw [if_neg (by intro e; cases e)]; with_reducible refine hK1 _ (wpQuiet_step (fun K0 hK0 => ?_)))
              clear hK1 K1
              go_simp
              first | (with_reducible refine hK0 _ (wpQuiet_step (fun K1 hK1 => ?_))) | (with_reducible refine ⟨_, fun _ _ => rfl, hK0 _ (wpQuiet_step (fun K1 hK1 => ?_))⟩) | (rw [if_neg (by intro e; cases e)]; with_reducible refine hK0 _ (wpQuiet_step (fun K1 hK1 => ?_)))
              clear hK0 K0
              go_simp
              refine ⟨Bv y, fun W hW => ?_, hK1 _ (wpQuiet_step (fun K0 hK0 => ?_))⟩
              · ((obtain ⟨_, _, eb, _, u0, u1, u2⟩ := HY.out W hW; cases eb; simp [go_sem] at u0 u1 u2; simp [go_sem, u0, u1, u2]))
              clear hK1 K1
              go_simp
              refine ⟨.bool true, fun W hW => ?_, hK0 _ (wpQuiet_step (fun K1 hK1 => ?_))⟩
              · exact (SY.out W).mono fun e w2 ⟨he, hb⟩ => ⟨he, HG.step hW hb⟩
              clear hK0 K0
              go_simp
              first | (with_reducible refine hK1 _ (wpQuiet_step (fun K0 hK0 => ?_))) | (with_reducible refine ⟨_, fun _ _ => rfl, hK1 _ (wpQuiet_step (fun K0 hK0 => ?_))⟩) | (rw [if_neg (by intro e; cases e)]; with_reducible refine hK1 _ (wpQuiet_step (fun K0 hK0 => ?_)))
              clear hK1 K1
              go_simp
              first | (with_reducible refine hK0 _ (wpQuiet_nil ?_)) | (with_reducible refine ⟨_, fun _ _ => rfl, hK0 _ (wpQuiet_nil ?_)⟩) | (rw [if_neg (by intro e; cases e)]; with_reducible refine hK0 _ (wpQuiet_nil ?_))
              clear hK0 K0
              intro w5 H5
              have HW := H5
              clear H5 H3
              obtain ⟨_, z, ⟨u0, u1, u2⟩, _⟩ := id HW
              go_wp2_with fail
              clear z u0 u1 u2
              refine (PA.out _).mono ?_
              rintro e w7 ⟨rfl, hb7⟩
              have H7 := HW.step hb7
              clear hb7 PA
              obtain ⟨_, z, ⟨u0, u1, u2⟩, f0, f1, f2⟩ := id H7
              go_wp2
              go_roundg k
              case rel =>
                refine ⟨k, i, j + 1, parB b, _, _, _, _, rfl, ?_, L0, LH.out, hil, by omega, H7.put (parB b), pf, RE.out, by have := par_bits IP.out; omega, Nat.le_refl _⟩
                first | (rw [show L.length - (j + 1) = 0 by omega]; done) | rw [show L.length - (j + 1) = L.length - j - 1 by omega]
              case measure => omega
            · obtain rfl : c2 = 1 := by omega
              have LN2 : Lst (.slice (some ⟨b2, o2, none⟩) (L.length - (j + 1)) 0) (L.drop (j + 1)) w := by
                have e := LN.out
                unfold dropV at e
                rw [if_pos rfl, Nat.sub_self, show L.length - j - 1 = L.length - (j + 1) by omega] at e
                exact e
              have LH := hide LN2
              clear LN LN2
              go_wp2_with fail
              refine wp_region_quiet (C := HG w b) (by kernel_rfl) (by kernel_rfl) HB.drew (wpQuiet_step (fun K0 hK0 => ?_))
              go_simp
              first | (with_reducible refine hK0 _ (wpQuiet_step (fun K1 hK1 => ?_))) | (with_reducible refine ⟨_, fun _ _ => rfl, hK0 _ (wpQuiet_step (fun K1 hK1 => ?_))⟩) | (rw [if_neg (by intro e; cases e)]; with_reducible refine hK0 _ (wpQuiet_step (fun K1 hK1 => ?_)))
              clear hK0 K0
              go_simp
              first | (with_reducible refine hK1 _ (wpQuiet_step (fun K0 hK0 => ?_))) | (with_reducible refine ⟨_, fun _ _ => rfl, hK1 _ (wpQuiet_step (fun K0 hK0 => ?_))⟩) | (rw [if_neg (by intro e; cases e)]; with_reducible refine hK1 _ (wpQuiet_step (fun K0 hK0 => ?_)))
              clear hK1 K1
              go_simp
              first | (with_reducible refine hK0 _ (wpQuiet_step (fun K1 hK1 => ?_))) | (with_reducible refine ⟨_, fun _ _ => rfl, hK0 _ (wpQuiet_step (fun K1 hK1 => ?_))⟩) | (rw [if_neg (by intro e; cases e)]; with_reducible refine hK0 _ (wpQuiet_step (fun K1 hK1 => ?_)))
              clear hK0 K0
              go_simp
              first | (with_reducible refine hK1 _ (wpQuiet_step (fun K0 hK0 => ?_))) | (with_reducible refine ⟨_, fun _ _ => rfl, hK1 _ (wpQuiet_step (fun K0 hK0 => ?_))⟩) | (rw [if_neg (by intro e; cases e)]; with_reducible refine hK1 _ (wpQuiet_step (fun K0 hK0 => ?_)))
              clear hK1 K1
              go_simp
              first | (with_reducible refine hK0 _ (wpQuiet_step (fun K1 hK1 => ?_))) | (with_reducible refine ⟨_, fun _ _ => rfl, hK0 _ (wpQuiet_step (fun K1 hK1 => ?_))⟩) | (rw [if_neg (by intro e; cases e)]; with_reducible refine hK0 _ (wpQuiet_step (fun K1 hK1 => ?_)))
              clear hK0 K0
              go_simp
              first | (with_reducible refine hK1 _ (wpQuiet_step (fun K0 hK0 => ?_))) | (with_reducible refine ⟨_, fun _ _ => rfl, hK1 _ (wpQuiet_step (fun K0 hK0 => ?_))⟩) | (rw [if_neg (by intro e; cases e)]; with_reducible refine hK1 _ (wpQuiet_step (fun K0 hK0 => ?_)))
              clear hK1 K1
              go_simp
              refine ⟨Bv x, fun W hW => ?_, hK0 _ (wpQuiet_step (fun K1 hK1 => ?_))⟩
              · ((obtain ⟨_, _, eb, _, u0, u1, u2⟩ := HX.out W hW; cases eb; simp [go_sem, u0, u1, u2]))
              clear hK0 K0
              go_simp
              refine ⟨Bv b, fun W hW => ?_, hK1 _ (wpQuiet_step (fun K0 hK0 => ?_))⟩
              · ((obtain ⟨_, _, ⟨u0, u1, u2⟩, _⟩ := hW; simp [go_sem, u0, u1, u2]))
              clear hK1 K1
              go_simp
              refine ⟨.bool false, fun W hW => ?_, hK0 _ (wpQuiet_step (fun K1 hK1 => ?_))⟩
              · exact (SX.out W).mono fun e w2 ⟨he, hb⟩ => ⟨he, HG.step hW hb⟩
              clear hK0 K0
              go_simp
              first | (with_reducible refine hK1 _ (wpQuiet_step (fun K0 hK0 => ?_))) | (with_reducible refine ⟨_, fun _ _ => rfl, hK1 _ (wpQuiet_step (fun K0 hK0 => ?_))⟩) | (rw [if_neg (by intro e; cases e)]; with_reducible refine hK1 _ (wpQuiet_step (fun K0 hK0 => ?_)))
              clear hK1 K1
              go_simp
              first | (with_reducible refine hK0 _ (wpQuiet_nil ?_)) | (with_reducible refine ⟨_, fun _ _ => rfl, hK0 _ (wpQuiet_nil ?_)⟩) | (rw [if_neg (by intro e; cases e)]; with_reducible refine hK0 _ (wpQuiet_nil ?_))
              clear hK0 K0
              intro w3 H3
              clear HB
              go_wp2_with fail
              refine wp_region_quiet (C := HG w b) (by kernel_rfl) (by kernel_rfl) H3.drew (wpQuiet_step (fun K0 hK0 => ?_))
              go_simp
              first | (with_reducible refine hK0 _ (wpQuiet_step (fun K1 hK1 => ?_))) | (with_reducible refine ⟨_, fun _ _ => rfl, hK0 _ (wpQuiet_step (fun K1 hK1 => ?_))⟩) | (rw [if_neg (by intro e; cases e)]; with_reducible refine hK0 _ (wpQuiet_step (fun K1 hK1 => ?_)))
              clear hK0 K0
              go_simp
              first | (with_reducible refine hK1 _ (wpQuiet_step (fun K0 hK0 => ?_))) | (with_reducible refine ⟨_, fun _ _ => rfl, hK1 _ (wpQuiet_step (fun K0 hK0 => ?_))⟩) | (rw [if_neg (by intro e; cases e)]; with_reducible refine hK1 _ (wpQuiet_step (fun K0 hK0 => ?_)))
              clear hK1 K1
              go_simp
              first | (with_reducible refine hK0 _ (wpQuiet_step (fun K1 hK1 => ?_))) | (with_reducible refine ⟨_, fun _ _ => rfl, hK0 _ (wpQuiet_step (fun K1 hK1 => ?_))⟩) | (rw [if_neg (by intro e; cases e)]; with_reducible refine hK0 _ (wpQuiet_step (fun K1 hK1 => ?_)))
              clear hK0 K0
              go_simp
              first | (with_reducible refine hK1 _ (wpQuiet_step (fun K0 hK0 => ?_))) | (with_reducible refine ⟨_, fun _ _ => rfl, hK1 _ (wpQuiet_step (fun K0 hK0 => ?_))⟩) | (rw [if_neg (by intro e; cases e)]; with_reducible refine hK1 _ (wpQuiet_step (fun K0 hK0 => ?_)))
              clear hK1 K1
              go_simp
              refine ⟨Bv b, fun W hW => ?_, hK0 _ (wpQuiet_step (fun K1 hK1 => ?_))⟩
              · ((obtain ⟨_, _, ⟨u0, u1, u2⟩, _⟩ := hW; simp [go_sem, u0, u1, u2]))
              clear hK0 K0
              go_simp
              first | (with_reducible refine hK1 _ (wpQuiet_step (fun K0 hK0 => ?_))) | (with_reducible refine ⟨_, fun _ _ => rfl, hK1 _ (wpQuiet_step (fun K0 hK0 => ?_))⟩) | (rw [if_neg (by intro e; cases e)]; with_reducible refine hK1 _ (wpQuiet_step (fun K0 hK0 => ?_)))
              clear hK1 K1
              go_simp
              first | (with_reducible refine hK0 _ (wpQuiet_step (fun K1 hK1 => ?_))) | (with_reducible refine ⟨_, fun _ _ => rfl, hK0 _ (wpQuiet_step (fun K1 hK1 => ?_))⟩) | (rw [if_neg (by intro e; cases e)]; with_reducible refine hK0 _ (wpQuiet_step (fun K1 hK1 => ?_)))
              clear hK0 K0
              go_simp
              refine ⟨Bv y, fun W hW => ?_, hK1 _ (wpQuiet_step (fun K0 hK0 => ?_))⟩
              · ((obtain ⟨_, _, eb, _, u0, u1, u2⟩ := HY.out W hW; cases eb; simp [go_sem] at u0 u1 u2; simp [go_sem, u0, u1, u2]))
              clear hK1 K1
              go_simp
              refine ⟨.bool true, fun W hW => ?_, hK0 _ (wpQuiet_step (fun K1 hK1 => ?_))⟩
              · exact (SY.out W).mono fun e w2 ⟨he, hb⟩ => ⟨he, HG.step hW hb⟩
              clear hK0 K0
              go_simp
              first | (with_reducible refine hK1 _ (wpQuiet_step (fun K0 hK0 => ?_))) | (with_reducible refine ⟨_, fun _ _ => rfl, hK1 _ (wpQuiet_step (fun K0 hK0 => ?_))⟩) | (rw [if_neg (by intro e; cases e)]; with_reducible refine hK1 _ (wpQuiet_step (fun K0 hK0 => ?_)))
              clear hK1 K1
              go_simp
              first | (with_reducible refine hK0 _ (wpQuiet_nil ?_)) | (with_reducible refine ⟨_, fun _ _ => rfl, hK0 _ (wpQuiet_nil ?_)⟩) | (rw [if_neg (by intro e; cases e)]; with_reducible refine hK0 _ (wpQuiet_nil ?_))
              clear hK0 K0
              intro w5 H5
              have HW := H5
              clear H5 H3
              obtain ⟨_, z, ⟨u0, u1, u2⟩, _⟩ := id HW
              go_wp2_with fail
              clear z u0 u1 u2
              refine (PA.out _).mono ?_
              rintro e w7 ⟨rfl, hb7⟩
              have H7 := HW.step hb7
              clear hb7 PA
              obtain ⟨_, z, ⟨u0, u1, u2⟩, f0, f1, f2⟩ := id H7
              go_wp2
              go_roundg k
              case rel =>
                refine ⟨k, i, j + 1, parB b, _, _, _, _, rfl, ?_, L0, LH.out, hil, by omega, H7.put (parB b), pf, RE.out, by have := par_bits IP.out; omega, Nat.le_refl _⟩
                first | (rw [show L.length - (j + 1) = 0 by omega]; done) | rw [show L.length - (j + 1) = L.length - j - 1 by omega]
              case measure => omega
          | false =>
            have FQ := hide ((first_at hy b).trans hs2)
            have SY := hide (fun W => via (sib_any fb fy W) (v' := .bool false) (by rw [hs2]))
            clear hy hs2
            go_wp2_with fail
            refine wp_region_quiet (C := HG w b) (by kernel_rfl) (by kernel_rfl) HB.drew (wpQuiet_step (fun K0 hK0 => ?_))
            go_simp
            first | (with_reducible refine hK0 _ (wpQuiet_step (fun K1 hK1 => ?_))) | (with_reducible refine ⟨_, fun _ _ => rfl, hK0 _ (wpQuiet_step (fun K1 hK1 => ?_))⟩) | (rw [if_neg (by intro e; cases e)]; with_reducible refine hK0 _ (wpQuiet_step (fun K1 hK1 => ?_)))
            clear hK0 K0
            go_simp
            first | (with_reducible refine hK1 _ (wpQuiet_step (fun K0 hK0 => ?_))) | (with_reducible refine ⟨_, fun _ _ => rfl, hK1 _ (wpQuiet_step (fun K0 hK0 => ?_))⟩) | (rw [if_neg (by intro e; cases e)]; with_reducible refine hK1 _ (wpQuiet_step (fun K0 hK0 => ?_)))
            clear hK1 K1
            go_simp
            first | (with_reducible refine hK0 _ (wpQuiet_step (fun K1 hK1 => ?_))) | (with_reducible refine ⟨_, fun _ _ => rfl, hK0 _ (wpQuiet_step (fun K1 hK1 => ?_))⟩) | (rw [if_neg (by intro e; cases e)]; with_reducible refine hK0 _ (wpQuiet_step (fun K1 hK1 => ?_)))
            clear hK0 K0
            go_simp
            first | (with_reducible refine hK1 _ (wpQuiet_step (fun K0 hK0 => ?_))) | (with_reducible refine ⟨_, fun _ _ => rfl, hK1 _ (wpQuiet_step (fun K0 hK0 => ?_))⟩) | (rw [if_neg (by intro e; cases e)]; with_reducible refine hK1 _ (wpQuiet_step (fun K0 hK0 => ?_)))
            clear hK1 K1
            go_simp
            first | (with_reducible refine hK0 _ (wpQuiet_step (fun K1 hK1 => ?_))) | (with_reducible refine ⟨_, fun _ _ => rfl, hK0 _ (wpQuiet_step (fun K1 hK1 => ?_))⟩) | (rw [if_neg (by intro e; cases e)]; with_reducible refine hK0 _ (wpQuiet_step (fun K1 hK1 => ?_)))
            clear hK0 K0
            go_simp
            first | (with_reducible refine hK1 _ (wpQuiet_step (fun K0 hK0 => ?_))) | (with_reducible refine ⟨_, fun _ _ => rfl, hK1 _ (wpQuiet_step (fun K0 hK0 => ?_))⟩) | (rw [if_neg (by intro e; cases e)]; with_reducible refine hK1 _ (wpQuiet_step (fun K0 hK0 => ?_)))
            clear hK1 K1
            go_simp
            refine ⟨Bv x, fun W hW => ?_, hK0 _ (wpQuiet_step (fun K1 hK1 => ?_))⟩
            · ((obtain ⟨_, _, eb, _, u0, u1, u2⟩ := HX.out W hW; cases eb; simp [go_sem, u0, u1, u2]))
            clear hK0 K0
            go_simp
            refine ⟨Bv b, fun W hW => ?_, hK1 _ (wpQuiet_step (fun K0 hK0 => ?_))⟩
            · ((obtain ⟨_, _, ⟨u0, u1, u2⟩, _⟩ := hW; simp [go_sem, u0, u1, u2]))
            clear hK1 K1
            go_simp
            refine ⟨.bool false, fun W hW => ?_, hK0 _ (wpQuiet_step (fun K1 hK1 => ?_))⟩
            · exact (SX.out W).mono fun e w2 ⟨he, hb⟩ => ⟨he, HG.step hW hb⟩
            clear hK0 K0
            go_simp
            first | (with_reducible refine hK1 _ (wpQuiet_step (fun K0 hK0 => ?_))) | (with_reducible refine ⟨_, fun _ _ => rfl, hK1 _ (wpQuiet_step (fun K0 hK0 => ?_))⟩) | (rw [if_neg (by intro e; cases e)]; with_reducible refine hK1 _ (wpQuiet_step (fun K0 hK0 => ?_)))
            clear hK1 K1
            go_simp
            first | (with_reducible refine hK0 _ (wpQuiet_nil ?_)) | (with_reducible refine ⟨_, fun _ _ => rfl, hK0 _ (wpQuiet_nil ?_)⟩) | (rw [if_neg (by intro e; cases e)]; with_reducible refine hK0 _ (wpQuiet_nil ?_))
            clear hK0 K0
            intro w3 H3
            clear HB
            go_wp2_with fail
            refine wp_region_quiet (C := HG w b) (by kernel_rfl) (by kernel_rfl) H3.drew (wpQuiet_step (fun K0 hK0 => ?_))
            go_simp
            first | (with_reducible refine hK0 _ (wpQuiet_step (fun K1 hK1 => ?_))) | (with_reducible refine ⟨_, fun _ _ => rfl, hK0 _ (wpQuiet_step (fun K1 hK1 => ?_))⟩) | (rw [if_neg (by intro e; cases e)]; with_reducible refine hK0 _ (wpQuiet_step (fun K1 hK1 => ?_)))
            clear hK0 K0
            go_simp
            first | (with_reducible refine hK1 _ (wpQuiet_step (fun K0 hK0 => ?_))) | (with_reducible refine ⟨_, fun _ _ => rfl, hK1 _ (wpQuiet_step (fun K0 hK0 => ?_))⟩) | (rw [if_neg (by intro e; cases e)]; with_reducible refine hK1 _ (wpQuiet_step (fun K0 hK0 => ?_)))
            clear hK1 K1
            go_simp
            first | (with_reducible refine hK0 _ (wpQuiet_step (fun K1 hK1 => ?_))) | (with_reducible refine ⟨_, fun _ _ => rfl, hK0 _ (wpQuiet_step (fun K1 hK1 => ?_))⟩) | (rw [if_neg (by intro e; cases e)]; with_reducible refine hK0 _ (wpQuiet_step (fun K1 hK1 => ?_)))
            clear hK0 K0
            go_simp
            first | (with_reducible refine hK1 _ (wpQuiet_step (fun K0 hK0 => ?_))) | (with_reducible refine ⟨_, fun _ _ => rfl, hK1 _ (wpQuiet_step (fun K0 hK0 => ?_))⟩) | (rw [if_neg (by intro e; cases e)]; with_reducible refine hK1 _ (wpQuiet_step (fun K0 hK0 => ?_)))
            clear hK1 K1
            go_simp
            refine ⟨Bv b, fun W hW => ?_, hK0 _ (wpQuiet_step (fun K1 hK1 => ?_))⟩
            · ((obtain ⟨_, _, ⟨u0, u1, u2⟩, _⟩ := hW; simp [go_sem, u0, u1, u2]))
            clear hK0 K0
            go_simp
            first | (with_reducible refine hK1 _ (wpQuiet_step (fun K0 hK0 => ?_))) | (with_reducible refine ⟨_, fun _ _ => rfl, hK1 _ (wpQuiet_step (fun K0 hK0 => ?_))⟩) | (rw [if_neg (by intro e; cases e)]; with_reducible refine hK1 _ (wpQuiet_step (fun K0 hK0 => ?_)))
            clear hK1 K1
            go_simp
            first | (with_reducible refine hK0 _ (wpQuiet_step (fun K1 hK1 => ?_))) | (with_reducible refine ⟨_, fun _ _ => rfl, hK0 _ (wpQuiet_step (fun K1 hK1 => ?_))⟩) | (rw [if_neg (by intro e; cases e)]; with_reducible refine hK0 _ (wpQuiet_step (fun K1 hK1 => ?_)))
            clear hK0 K0
            go_simp
            refine ⟨Bv y, fun W hW => ?_, hK1 _ (wpQuiet_step (fun K0 hK0 => ?_))⟩
            · ((obtain ⟨_, _, eb, _, u0, u1, u2⟩ := HY.out W hW; cases eb; simp [go_sem] at u0 u1 u2; simp [go_sem, u0, u1, u2]))
            clear hK1 K1
            go_simp
            refine ⟨.bool false, fun W hW => ?_, hK0 _ (wpQuiet_step (fun K1 hK1 => ?_))⟩
            · exact (SY.out W).mono fun e w2 ⟨he, hb⟩ => ⟨he, HG.step hW hb⟩
            clear hK0 K0
            go_simp
            first | (with_reducible refine hK1 _ (wpQuiet_step (fun K0 hK0 => ?_))) | (with_reducible refine ⟨_, fun _ _ => rfl, hK1 _ (wpQuiet_step (fun K0 hK0 => ?_))⟩) | (rw [if_neg (by intro e; cases e)]; with_reducible refine hK1 _ (wpQuiet_step (fun K0 hK0 => ?_)))
            clear hK1 K1
            go_simp
            first | (with_reducible refine hK0 _ (wpQuiet_nil ?_)) | (with_reducible refine ⟨_, fun _ _ => rfl, hK0 _ (wpQuiet_nil ?_)⟩) | (rw [if_neg (by intro e; cases e)]; with_reducible refine hK0 _ (wpQuiet_nil ?_))
            clear hK0 K0
            intro w5 H5
            have RE := hide (HR.out.symm.trans (grow_end LS.out FQ.out))
            obtain ⟨_, z, ⟨u0, u1, u2⟩, _⟩ := id H5
            go_wp2_with fail
            clear z u0 u1 u2
            have N1 := lst_one (box_new w5 b 26)
            have HA := H5.step (below_alloc w5 (.cells #[.int .u64 (hi b.1 : Nat), .int .u64 (lo b.1 : Nat), .int .i64 b.2] 26))
            have PT := parts_three (t := 27) (LL0.out _ HA) N1 (LL2.out _ HA)
            rw [World.size_alloc] at PT
            refine (CC.out _ _ _ _ _ i b j PT).mono ?_
            rintro e w9 ⟨v9, rfl, hb9, O9⟩
            have HB9 : Below w.heap.size w w9 := chain (HA.step (below_alloc _ _)).1 hb9
            rw [← RE.out] at O9
            have O10 := own_base O9 (HA.step (below_alloc _ _)).1.size
            clear O9 PT HA N1 H5 CC
            go_wp2
            go_ret
            exact ⟨_, rfl, HB9, O10⟩

        · have FQ := hide (first_none (show L.length ≤ j by omega) b)
          obtain rfl : j = L.length := by omega
          rw [Nat.sub_self] at L2 jc LL2
          rw [Nat.sub_self]
          go_wp2_with fail
          refine wp_region_quiet (C := HG w b) (by kernel_rfl) (by kernel_rfl) HB.drew (wpQuiet_step (fun K0 hK0 => ?_))
          go_simp
          first | (with_reducible refine hK0 _ (wpQuiet_step (fun K1 hK1 => ?_))) | (with_reducible refine ⟨_, fun _ _ => rfl, hK0 _ (wpQuiet_step (fun K1 hK1 => ?_))⟩) | (rw [if_neg (by intro e; cases e)]; with_reducible refine hK0 _ (wpQuiet_step (fun K1 hK1 => ?_)))
          clear hK0 K0
          go_simp
          first | (with_reducible refine hK1 _ (wpQuiet_step (fun K0 hK0 => ?_))) | (with_reducible refine ⟨_, fun _ _ => rfl, hK1 _ (wpQuiet_step (fun K0 hK0 => ?_))⟩) | (rw [if_neg (by intro e; cases e)]; with_reducible refine hK1 _ (wpQuiet_step (fun K0 hK0 => ?_)))
          clear hK1 K1
          go_simp
          first | (with_reducible refine hK0 _ (wpQuiet_step (fun K1 hK1 => ?_))) | (with_reducible refine ⟨_, fun _ _ => rfl, hK0 _ (wpQuiet_step (fun K1 hK1 => ?_))⟩) | (rw [if_neg (by intro e; cases e)]; with_reducible refine hK0 _ (wpQuiet_step (fun K1 hK1 => ?_)))
          clear hK0 K0
          go_simp
          first | (with_reducible refine hK1 _ (wpQuiet_step (fun K0 hK0 => ?_))) | (with_reducible refine ⟨_, fun _ _ => rfl, hK1 _ (wpQuiet_step (fun K0 hK0 => ?_))⟩) | (rw [if_neg (by intro e; cases e)]; with_reducible refine hK1 _ (wpQuiet_step (fun K0 hK0 => ?_)))
          clear hK1 K1
          go_simp
          first | (with_reducible refine hK0 _ (wpQuiet_step (fun K1 hK1 => ?_))) | (with_reducible refine ⟨_, fun _ _ => rfl, hK0 _ (wpQuiet_step (fun K1 hK1 => ?_))⟩) | (rw [if_neg (by intro e; cases e)]; with_reducible refine hK0 _ (wpQuiet_step (fun K1 hK1 => ?_)))
          clear hK0 K0
          go_simp
          first | (with_reducible refine hK1 _ (wpQuiet_step (fun K0 hK0 => ?_))) | (with_reducible refine ⟨_, fun _ _ => rfl, hK1 _ (wpQuiet_step (fun K0 hK0 => ?_))⟩) | (rw [if_neg (by intro e; cases e)]; with_reducible refine hK1 _ (wpQuiet_step (fun K0 hK0 => ?_)))
          clear hK1 K1
          go_simp
          refine ⟨Bv x, fun W hW => ?_, hK0 _ (wpQuiet_step (fun K1 hK1 => ?_))⟩
          · ((obtain ⟨_, _, eb, _, u0, u1, u2⟩ := HX.out W hW; cases eb; simp [go_sem, u0, u1, u2]))
          clear hK0 K0
          go_simp
          refine ⟨Bv b, fun W hW => ?_, hK1 _ (wpQuiet_step (fun K0 hK0 => ?_))⟩
          · ((obtain ⟨_, _, ⟨u0, u1, u2⟩, _⟩ := hW; simp [go_sem, u0, u1, u2]))
          clear hK1 K1
          go_simp
          refine ⟨.bool false, fun W hW => ?_, hK0 _ (wpQuiet_step (fun K1 hK1 => ?_))⟩
          · exact (SX.out W).mono fun e w2 ⟨he, hb⟩ => ⟨he, HG.step hW hb⟩
          clear hK0 K0
          go_simp
          first | (with_reducible refine hK1 _ (wpQuiet_step (fun K0 hK0 => ?_))) | (with_reducible refine ⟨_, fun _ _ => rfl, hK1 _ (wpQuiet_step (fun K0 hK0 => ?_))⟩) | (rw [if_neg (by intro e; cases e)]; with_reducible refine hK1 _ (wpQuiet_step (fun K0 hK0 => ?_)))
          clear hK1 K1
          go_simp
          first | (with_reducible refine hK0 _ (wpQuiet_nil ?_)) | (with_reducible refine ⟨_, fun _ _ => rfl, hK0 _ (wpQuiet_nil ?_)⟩) | (rw [if_neg (by intro e; cases e)]; with_reducible refine hK0 _ (wpQuiet_nil ?_))
          clear hK0 K0
          intro w3 H3
          clear HB
          go_wp2_with fail
          refine wp_region_quiet (C := HG w b) (by kernel_rfl) (by kernel_rfl) H3.drew (wpQuiet_step (fun K0 hK0 => ?_))
          go_simp
          first | (with_reducible refine hK0 _ (wpQuiet_step (fun K1 hK1 => ?_))) | (with_reducible refine ⟨_, fun _ _ => rfl, hK0 _ (wpQuiet_step (fun K1 hK1 => ?_))⟩) | (rw [if_neg (by intro e; cases e)]; with_reducible refine hK0 _ (wpQuiet_step (fun K1 hK1 => ?_)))
          clear hK0 K0
          go_simp
          first | (with_reducible refine hK1 _ (wpQuiet_step (fun K0 hK0 => ?_))) | (with_reducible refine ⟨_, fun _ _ => rfl, hK1 _ (wpQuiet_step (fun K0 hK0 => ?_))⟩) | (rw [if_neg (by intro e; cases e)]; with_reducible refine hK1 _ (wpQuiet_step (fun K0 hK0 => ?_)))
          clear hK1 K1
          go_simp
          first | (with_reducible refine hK0 _ (wpQuiet_step (fun K1 hK1 => ?_))) | (with_reducible refine ⟨_, fun _ _ => rfl, hK0 _ (wpQuiet_step (fun K1 hK1 => ?_))⟩) | (rw [if_neg (by intro e; cases e)]; with_reducible refine hK0 _ (wpQuiet_step (fun K1 hK1 => ?_)))
          clear hK0 K0
          go_simp
          first | (with_reducible refine hK1 _ (wpQuiet_step (fun K0 hK0 => ?_))) | (with_reducible refine ⟨_, fun _ _ => rfl, hK1 _ (wpQuiet_step (fun K0 hK0 => ?_))⟩) | (rw [if_neg (by intro e; cases e)]; with_reducible refine hK1 _ (wpQuiet_step (fun K0 hK0 => ?_)))
          clear hK1 K1
          go_simp
          first | (with_reducible refine hK0 _ (wpQuiet_step (fun K1 hK1 => ?_))) | (with_reducible refine ⟨_, fun _ _ => rfl, hK0 _ (wpQuiet_step (fun K1 hK1 => ?_))⟩) | (rw [if_neg (by intro e; cases e)]; with_reducible refine hK0 _ (wpQuiet_step (fun K1 hK1 => ?_)))
          clear hK0 K0
          go_simp
          first | (with_reducible refine hK1 _ (wpQuiet_step (fun K0 hK0 => ?_))) | (with_reducible refine ⟨_, fun _ _ => rfl, hK1 _ (wpQuiet_step (fun K0 hK0 => ?_))⟩) | (rw [if_neg (by intro e; cases e)]; with_reducible refine hK1 _ (wpQuiet_step (fun K0 hK0 => ?_)))
          clear hK1 K1
          go_simp
          first | (with_reducible refine hK0 _ (wpQuiet_step (fun K1 hK1 => ?_))) | (with_reducible refine ⟨_, fun _ _ => rfl, hK0 _ (wpQuiet_step (fun K1 hK1 => ?_))⟩) | (rw [if_neg (by intro e; cases e)]; with_reducible refine hK0 _ (wpQuiet_step (fun K1 hK1 => ?_)))
          clear hK0 K0
          go_simp
          first | (with_reducible refine hK1 _ (wpQuiet_step (fun K0 hK0 => ?_))) | (with_reducible refine ⟨_, fun _ _ => rfl, hK1 _ (wpQuiet_step (fun K0 hK0 => ?_))⟩) | (rw [if_neg (by intro e; cases e)]; with_reducible refine hK1 _ (wpQuiet_step (fun K0 hK0 => ?_)))
          clear hK1 K1
          go_simp
          first | (with_reducible refine hK0 _ (wpQuiet_step (fun K1 hK1 => ?_))) | (with_reducible refine ⟨_, fun _ _ => rfl, hK0 _ (wpQuiet_step (fun K1 hK1 => ?_))⟩) | (rw [if_neg (by intro e; cases e)]; with_reducible refine hK0 _ (wpQuiet_step (fun K1 hK1 => ?_)))
          clear hK0 K0
          go_simp
          first | (with_reducible refine hK1 _ (wpQuiet_step (fun K0 hK0 => ?_))) | (with_reducible refine ⟨_, fun _ _ => rfl, hK1 _ (wpQuiet_step (fun K0 hK0 => ?_))⟩) | (rw [if_neg (by intro e; cases e)]; with_reducible refine hK1 _ (wpQuiet_step (fun K0 hK0 => ?_)))
          clear hK1 K1
          go_simp
          first | (with_reducible refine hK0 _ (wpQuiet_nil ?_)) | (with_reducible refine ⟨_, fun _ _ => rfl, hK0 _ (wpQuiet_nil ?_)⟩) | (rw [if_neg (by intro e; cases e)]; with_reducible refine hK0 _ (wpQuiet_nil ?_))
          clear hK0 K0
          intro w5 H5
          have RE := hide (HR.out.symm.trans (grow_end LS.out FQ.out))
          obtain ⟨_, z, ⟨u0, u1, u2⟩, _⟩ := id H5
          go_wp2_with fail
          clear z u0 u1 u2
          have N1 := lst_one (box_new w5 b 26)
          have HA := H5.step (below_alloc w5 (.cells #[.int .u64 (hi b.1 : Nat), .int .u64 (lo b.1 : Nat), .int .i64 b.2] 26))
          have PT := parts_three (t := 27) (LL0.out _ HA) N1 (LL2.out _ HA)
          rw [World.size_alloc] at PT
          refine (CC.out _ _ _ _ _ i b L.length PT).mono ?_
          rintro e w9 ⟨v9, rfl, hb9, O9⟩
          have HB9 : Below w.heap.size w w9 := chain (HA.step (below_alloc _ _)).1 hb9
          rw [← RE.out] at O9
          have O10 := own_base O9 (HA.step (below_alloc _ _)).1.size
          clear O9 PT HA N1 H5 CC
          go_wp2
          go_ret
          exact ⟨_, rfl, HB9, O10⟩

    · obtain rfl : i = 0 := by omega
      have LS := hide (last_none L b)
      by_cases hj0 : j < L.length
      · obtain ⟨y, hy⟩ := get_some hj0
        have fy := fit_at hf hy
        have hy0 := hide (show (L.drop j)[0]? = some y by rw [List.getElem?_drop]; simpa using hy)
        have HY := hide (fun W (H : HG w b W) => lst_at (LL2.out W H) hy0.out)
        have J0 : 0 < L.length - j := by omega
        obtain ⟨b2, o2, rfl, _⟩ := lst_at L2 hy0.out
        cases hs2 : sibB b y with
        | true =>
          have FQ := hide ((first_at hy b).trans hs2)
          have SY := hide (fun W => via (sib_any fb fy W) (v' := .bool true) (by rw [hs2]))
          have IP := hide (sib_par hs2).1
          clear hy hs2
          have RE := hide ((grow_right (k := k) LS.out FQ.out).symm.trans HR.out)
          have J2 : 1 ≤ c2 := by omega
          have LN := hide (show Lst (dropV b2 o2 (L.length - j) c2 1) (L.drop (j + 1)) w from by
            have := lst_dropV (i := 1) L2 (by rw [List.length_drop]; omega)
            rwa [List.drop_drop] at this)
          rcases Nat.lt_or_ge 1 c2 with hc2 | hc2
          · have LN2 : Lst (.slice (some ⟨b2, o2 + 3, none⟩) (L.length - (j + 1)) (c2 - 1)) (L.drop (j + 1)) w := by
              have e := LN.out
              unfold dropV at e
              rw [if_neg (by omega), Nat.one_mul, show L.length - j - 1 = L.length - (j + 1) by omega] at e
              exact e
            have NE : ¬ c2 = 1 := by omega
            have LH := hide LN2
            clear LN LN2
            go_wp2_with fail
            refine wp_region_quiet (C := HG w b) (by kernel_rfl) (by kernel_rfl) HB.drew (wpQuiet_step (fun K0 hK0 => ?_))
            go_simp
            first | (with_reducible refine hK0 _ (wpQuiet_step (fun K1 hK1 => ?_))) | (with_reducible refine ⟨_, fun _ _ => rfl, hK0 _ (wpQuiet_step (fun K1 hK1 => ?_))⟩) | (rw [if_neg (by intro e; cases e)]; with_reducible refine hK0 _ (wpQuiet_step (fun K1 hK1 => ?_)))
            clear hK0 K0
            go_simp
            first | (with_reducible refine hK1 _ (wpQuiet_step (fun K0 hK0 => ?_))) | (with_reducible refine ⟨_, fun _ _ => rfl, hK1 _ (wpQuiet_step (fun K0 hK0 => ?_))⟩) | (rw [if_neg (by intro e; cases e)]; with_reducible refine hK1 _ (wpQuiet_step (fun K0 hK0 => ?_)))
            clear hK1 K1
            go_simp
            first | (with_reducible refine hK0 _ (wpQuiet_step (fun K1 hK1 => ?_))) | (with_reducible refine ⟨_, fun _ _ => rfl, hK0 _ (wpQuiet_step (fun K1 hK1 => ?_))⟩) | (rw [if_neg (by intro e; cases e)]; with_reducible refine hK0 _ (wpQuiet_step (fun K1 hK1 => ?_)))
            clear hK0 K0
            go_simp
            first | (with_reducible refine hK1 _ (wpQuiet_step (fun K0 hK0 => ?_))) | (with_reducible refine ⟨_, fun _ _ => rfl, hK1 _ (wpQuiet_step (fun K0 hK0 => ?_))⟩) | (rw [if_neg (by intro e; cases e)]; with_reducible refine hK1 _ (wpQuiet_step (fun K0 hK0 => ?_)))
            clear hK1 K1
            go_simp
            first | (with_reducible refine hK0 _ (wpQuiet_step (fun K1 hK1 => ?_))) | (with_reducible refine ⟨_, fun _ _ => rfl, hK0 _ (wpQuiet_step (fun K1 hK1 => ?_))⟩) | (rw [if_neg (by intro e; cases e)]; with_reducible refine hK0 _ (wpQuiet_step (fun K1 hK1 => ?_)))
            clear hK0 K0
            go_simp
            first | (with_reducible refine hK1 _ (wpQuiet_step (fun K0 hK0 => ?_))) | (with_reducible refine ⟨_, fun _ _ => rfl, hK1 _ (wpQuiet_step (fun K0 hK0 => ?_))⟩) | (rw [if_neg (by intro e; cases e)]; with_reducible refine hK1 _ (wpQuiet_step (fun K0 hK0 => ?_)))
            clear hK1 K1
            go_simp
            first | (with_reducible refine hK0 _ (wpQuiet_step (fun K1 hK1 => ?_))) | (with_reducible refine ⟨_, fun _ _ => rfl, hK0 _ (wpQuiet_step (fun K1 hK1 => ?_))⟩) | (rw [if_neg (by intro e; cases e)]; with_reducible refine hK0 _ (wpQuiet_step (fun K1 hK1 => ?_)))
            clear hK0 K0
            go_simp
            first | (with_reducible refine hK1 _ (wpQuiet_step (fun K0 hK0 => ?_))) | (with_reducible refine ⟨_, fun _ _ => rfl, hK1 _ (wpQuiet_step (fun K0 hK0 => ?_))⟩) | (rw [if_neg (by intro e; cases e)]; with_reducible refine hK1 _ (wpQuiet_step (fun K0 hK0 => ?_)))
            clear hK1 K1
            go_simp
            first | (with_reducible refine hK0 _ (wpQuiet_step (fun K1 hK1 => ?_))) | (with_reducible refine ⟨_, fun _ _ => rfl, hK0 _ (wpQuiet_step (fun K1 hK1 => ?_))⟩) | (rw [if_neg (by intro e; cases e)]; with_reducible refine hK0 _ (wpQuiet_step (fun K1 hK1 => ?_)))
            clear hK0 K0
            go_simp
            first | (with_reducible refine hK1 _ (wpQuiet_step (fun K0 hK0 => ?_))) | (with_reducible refine ⟨_, fun _ _ => rfl, hK1 _ (wpQuiet_step (fun K0 hK0 => ?_))⟩) | (rw [if_neg (by intro e; cases e)]; with_reducible refine hK1 _ (wpQuiet_step (fun K0 hK0 => ?_)))
            clear hK1 K1
            go_simp
            first | (with_reducible refine hK0 _ (wpQuiet_nil ?_)) | (with_reducible refine ⟨_, fun _ _ => rfl, hK0 _ (wpQuiet_nil ?_)⟩) | (rw [if_neg (by intro e; cases e)]; with_reducible refine hK0 _ (wpQuiet_nil ?_))
            clear hK0 K0
            intro w3 H3
            clear HB
            go_wp2_with fail
            refine wp_region_quiet (C := HG w b) (by kernel_rfl) (by kernel_rfl) H3.drew (wpQuiet_step (fun K0 hK0 => ?_))
            go_simp
            first | (with_reducible refine hK0 _ (wpQuiet_step (fun K1 hK1 => ?_))) | (with_reducible refine ⟨_, fun _ _ => rfl, hK0 _ (wpQuiet_step (fun K1 hK1 => ?_))⟩) | (rw [if_neg (by intro e; cases e)]; with_reducible refine hK0 _ (wpQuiet_step (fun K1 hK1 => ?_)))
            clear hK0 K0
            go_simp
            first | (with_reducible refine hK1 _ (wpQuiet_step (fun K0 hK0 => ?_))) | (with_reducible refine ⟨_, fun _ _ => rfl, hK1 _ (wpQuiet_step (fun K0 hK0 => ?_))⟩) | (rw [if_neg (by intro e; cases e)]; with_reducible refine hK1 _ (wpQuiet_step (fun K0 hK0 => ?_)))
            clear hK1 K1
            go_simp
            first | (with_reducible refine hK0 _ (wpQuiet_step (fun K1 hK1 => ?_))) | (with_reducible refine ⟨_, fun _ _ => rfl, hK0 _ (wpQuiet_step (fun K1 hK1 => ?_))⟩) | (rw [if_neg (by intro e; cases e)]; with_reducible refine hK0 _ (wpQuiet_step (fun K1 hK1 => ?_)))
            clear hK0 K0
            go_simp
            first | (with_reducible refine hK1 _ (wpQuiet_step (fun K0 hK0 => ?_))) | (with_reducible refine ⟨_, fun _ _ => rfl, hK1 _ (wpQuiet_step (fun K0 hK0 => ?_))⟩) | (rw [if_neg (by intro e; cases e)]; with_reducible refine hK1 _ (wpQuiet_step (fun K0 hK0 => ?_)))
            clear hK1 K1
            go_simp
            refine ⟨Bv b, fun W hW => ?_, hK0 _ (wpQuiet_step (fun K1 hK1 => ?_))⟩
            · ((obtain ⟨_, _, ⟨u0, u1, u2⟩, _⟩ := hW; simp [go_sem, u0, u1, u2]))
            clear hK0 K0
            go_simp
            first | (with_reducible refine hK1 _ (wpQuiet_step (fun K0 hK0 => ?_))) | (with_reducible refine ⟨_, fun _ _ => rfl, hK1 _ (wpQuiet_step (fun K0 hK0 => ?_))⟩) | (rw [if_neg (by intro e; cases e)]; with_reducible refine hK1 _ (wpQuiet_step (fun K0 hK0 => ?_)))
            clear hK1 K1
            go_simp
            first | (with_reducible refine hK0 _ (wpQuiet_step (fun K1 hK1 => ?_))) | (with_reducible refine ⟨_, fun _ _ => rfl, hK0 _ (wpQuiet_step (fun K1 hK1 => ?_))⟩) | (rw [if_neg (by intro e; cases e)]; with_reducible refine hK0 _ (wpQuiet_step (fun K1 hK1 => ?_)))
            clear hK0 K0
            go_simp
            refine ⟨Bv y, fun W hW => ?_, hK1 _ (wpQuiet_step (fun K0 hK0 => ?_))⟩
            · ((obtain ⟨_, _, eb, _, u0, u1, u2⟩ := HY.out W hW; cases eb; simp [go_sem] at u0 u1 u2; simp [go_sem, u0, u1, u2]))
            clear hK1 K1
            go_simp
            refine ⟨.bool true, fun W hW => ?_, hK0 _ (wpQuiet_step (fun K1 hK1 => ?_))⟩
            · exact (SY.out W).mono fun e w2 ⟨he, hb⟩ => ⟨he, HG.step hW hb⟩
            clear hK0 K0
            go_simp
            first | (with_reducible refine hK1 _ (wpQuiet_step (fun K0 hK0 => ?_))) | (with_reducible refine ⟨_, fun _ _ => rfl, hK1 _ (wpQuiet_step (fun K0 hK0 => ?_))⟩) | (rw [if_neg (by intro e; cases e)]; with_reducible refine hK1 _ (wpQuiet_step (fun K0 hK0 => ?_)))
            clear hK1 K1
            go_simp
            first | (with_reducible refine hK0 _ (wpQuiet_nil ?_)) | (with_reducible refine ⟨_, fun _ _ => rfl, hK0 _ (wpQuiet_nil ?_)⟩) | (rw [if_neg (by intro e; cases e)]; with_reducible refine hK0 _ (wpQuiet_nil ?_))
            clear hK0 K0
            intro w5 H5
            have HW := H5
            clear H5 H3
            obtain ⟨_, z, ⟨u0, u1, u2⟩, _⟩ := id HW
            go_wp2_with fail
            clear z u0 u1 u2
            refine (PA.out _).mono ?_
            rintro e w7 ⟨rfl, hb7⟩
            have H7 := HW.step hb7
            clear hb7 PA
            obtain ⟨_, z, ⟨u0, u1, u2⟩, f0, f1, f2⟩ := id H7
            go_wp2
            go_roundg k
            case rel =>
              refine ⟨k, 0, j + 1, parB b, _, _, _, _, rfl, ?_, L0, LH.out, hil, by omega, H7.put (parB b), pf, RE.out, by have := par_bits IP.out; omega, Nat.le_refl _⟩
              first | (rw [show L.length - (j + 1) = 0 by omega]; done) | rw [show L.length - (j + 1) = L.length - j - 1 by omega]
            case measure => omega
          · obtain rfl : c2 = 1 := by omega
            have LN2 : Lst (.slice (some ⟨b2, o2, none⟩) (L.length - (j + 1)) 0) (L.drop (j + 1)) w := by
              have e := LN.out
              unfold dropV at e
              rw [if_pos rfl, Nat.sub_self, show L.length - j - 1 = L.length - (j + 1) by omega] at e
              exact e
            have LH := hide LN2
            clear LN LN2
            go_wp2_with fail
            refine wp_region_quiet (C := HG w b) (by kernel_rfl) (by kernel_rfl) HB.drew (wpQuiet_step (fun K0 hK0 => ?_))
            go_simp
            first | (with_reducible refine hK0 _ (wpQuiet_step (fun K1 hK1 => ?_))) | (with_reducible refine ⟨_, fun _ _ => rfl, hK0 _ (wpQuiet_step (fun K1 hK1 => ?_))⟩) | (rw [if_neg (by intro e; cases e)]; with_reducible refine hK0 _ (wpQuiet_step (fun K1 hK1 => ?_)))
            clear hK0 K0
            go_simp
            first | (with_reducible refine hK1 _ (wpQuiet_step (fun K0 hK0 => ?_))) | (with_reducible refine ⟨_, fun _ _ => rfl, hK1 _ (wpQuiet_step (fun K0 hK0 => ?_))⟩) | (rw [if_neg (by intro e; cases e)]; with_reducible refine hK1 _ (wpQuiet_step (fun K0 hK0 => ?_)))
            clear hK1 K1
            go_simp
            first | (with_reducible refine hK0 _ (wpQuiet_step (fun K1 hK1 => ?_))) | (with_reducible refine ⟨_, fun _ _ => rfl, hK0 _ (wpQuiet_step (fun K1 hK1 => ?_))⟩) | (rw [if_neg (by intro e; cases e)]; with_reducible refine hK0 _ (wpQuiet_step (fun K1 hK1 => ?_)))
            clear hK0 K0
            go_simp
            first | (with_reducible refine hK1 _ (wpQuiet_step (fun K0 hK0 => ?_))) | (with_reducible refine ⟨_, fun _ _ => rfl, hK1 _ (wpQuiet_step (fun K0 hK0 => ?_))⟩) | (rw [if_neg (by intro e; cases e)]; with_reducible refine hK1 _ (wpQuiet_step (fun K0 hK0 => ?_)))
            clear hK1 K1
            go_simp
            first | (with_reducible refine hK0 _ (wpQuiet_step (fun K1 hK1 => ?_))) | (with_reducible refine ⟨_, fun _ _ => rfl, hK0 _ (wpQuiet_step (fun K1 hK1 => ?_))⟩) | (rw [if_neg (by intro e; cases e)]; with_reducible refine hK0 _ (wpQuiet_step (fun K1 hK1 => ?_)))
            clear hK0 K0
            go_simp
            first | (with_reducible refine hK1 _ (wpQuiet_step (fun K0 hK0 => ?_))) | (with_reducible refine ⟨_, fun _ _ => rfl, hK1 _ (wpQuiet_step (fun K0 hK0 => ?_))⟩) | (rw [if_neg (by intro e; cases e)]; with_reducible refine hK1 _ (wpQuiet_step (fun K0 hK0 => ?_)))
            clear hK1 K1
            go_simp
            first | (with_reducible refine hK0 _ (wpQuiet_step (fun K1 hK1 => ?_))) | (with_reducible refine ⟨_, fun _ _ => rfl, hK0 _ (wpQuiet_step (fun K1 hK1 => ?_))⟩) | (rw [if_neg (by intro e; cases e)]; with_reducible refine hK0 _ (wpQuiet_step (fun K1 hK1 => ?_)))
            clear hK0 K0
            go_simp
            first | (with_reducible refine hK1 _ (wpQuiet_step (fun K0 hK0 => ?_))) | (with_reducible refine ⟨_, fun _ _ => rfl, hK1 _ (wpQuiet_step (fun K0 hK0 => ?_))⟩) | (rw [if_neg (by intro e; cases e)]; with_reducible refine hK1 _ (wpQuiet_step (fun K0 hK0 => ?_)))
            clear hK1 K1
            go_simp
            first | (with_reducible refine hK0 _ (wpQuiet_step (fun K1 hK1 => ?_))) | (with_reducible refine ⟨_, fun _ _ => rfl, hK0 _ (wpQuiet_step (fun K1 hK1 => ?_))⟩) | (rw [if_neg (by intro e; cases e)]; with_reducible refine hK0 _ (wpQuiet_step (fun K1 hK1 => ?_)))
            clear hK0 K0
            go_simp
            first | (with_reducible refine hK1 _ (wpQuiet_step (fun K0 hK0 => ?_))) | (with_reducible refine ⟨_, fun _ _ => rfl, hK1 _ (wpQuiet_step (fun K0 hK0 => ?_))⟩) | (rw [if_neg (by intro e; cases e)]; with_reducible refine hK1 _ (wpQuiet_step (fun K0 hK0 => ?_)))
            clear hK1 K1
            go_simp
            first | (with_reducible refine hK0 _ (wpQuiet_nil ?_)) | (with_reducible refine ⟨_, fun _ _ => rfl, hK0 _ (wpQuiet_nil ?_)⟩) | (rw [if_neg (by intro e; cases e)]; with_reducible refine hK0 _ (wpQuiet_nil ?_))
            clear hK0 K0
            intro w3 H3
            clear HB
            go_wp2_with fail
            refine wp_region_quiet (C := HG w b) (by kernel_rfl) (by kernel_rfl) H3.drew (wpQuiet_step (fun K0 hK0 => ?_))
            go_simp
            first | (with_reducible refine hK0 _ (wpQuiet_step (fun K1 hK1 => ?_))) | (with_reducible refine ⟨_, fun _ _ => rfl, hK0 _ (wpQuiet_step (fun K1 hK1 => ?_))⟩) | (rw [if_neg (by intro e; cases e)]; with_reducible refine hK0 _ (wpQuiet_step (fun K1 hK1 => ?_)))
            clear hK0 K0
            go_simp
            first | (with_reducible refine hK1 _ (wpQuiet_step (fun K0 hK0 => ?_))) | (with_reducible refine ⟨_, fun _ _ => rfl, hK1 _ (wpQuiet_step (fun K0 hK0 => ?_))⟩) | (rw [if_neg (by intro e; cases e)]; with_reducible refine hK1 _ (wpQuiet_step (fun K0 hK0 => ?_)))
            clear hK1 K1
            go_simp
            first | (with_reducible refine hK0 _ (wpQuiet_step (fun K1 hK1 => ?_))) | (with_reducible refine ⟨_, fun _ _ => rfl, hK0 _ (wpQuiet_step (fun K1 hK1 => ?_))⟩) | (rw [if_neg (by intro e; cases e)]; with_reducible refine hK0 _ (wpQuiet_step (fun K1 hK1 => ?_)))
            clear hK0 K0
            go_simp
            first | (with_reducible refine hK1 _ (wpQuiet_step (fun K0 hK0 => ?_))) | (with_reducible refine ⟨_, fun _ _ => rfl, hK1 _ (wpQuiet_step (fun K0 hK0 => ?_))⟩) | (rw [if_neg (by intro e; cases e)]; with_reducible refine hK1 _ (wpQuiet_step (fun K0 hK0 => ?_)))
            clear hK1 K1
            go_simp
            refine ⟨Bv b, fun W hW => ?_, hK0 _ (wpQuiet_step (fun K1 hK1 => ?_))⟩
            · ((obtain ⟨_, _, ⟨u0, u1, u2⟩, _⟩ := hW; simp [go_sem, u0, u1, u2]))
            clear hK0 K0
            go_simp
            first | (with_reducible refine hK1 _ (wpQuiet_step (fun K0 hK0 => ?_))) | (with_reducible refine ⟨_, fun _ _ => rfl, hK1 _ (wpQuiet_step (fun K0 hK0 => ?_))⟩) | (rw [if_neg (by intro e; cases e)]; with_reducible refine hK1 _ (wpQuiet_step (fun K0 hK0 => ?_)))
            clear hK1 K1
            go_simp
            first | (with_reducible refine hK0 _ (wpQuiet_step (fun K1 hK1 => ?_))) | (with_reducible refine ⟨_, fun _ _ => rfl, hK0 _ (wpQuiet_step (fun K1 hK1 => ?_))⟩) | (rw [if_neg (by intro e; cases e)]; with_reducible refine hK0 _ (wpQuiet_step (fun K1 hK1 => ?_)))
            clear hK0 K0
            go_simp
            refine ⟨Bv y, fun W hW => ?_, hK1 _ (wpQuiet_step (fun K0 hK0 => ?_))⟩
            · ((obtain ⟨_, _, eb, _, u0, u1, u2⟩ := HY.out W hW; cases eb; simp [go_sem] at u0 u1 u2; simp [go_sem, u0, u1, u2]))
            clear hK1 K1
            go_simp
            refine ⟨.bool true, fun W hW => ?_, hK0 _ (wpQuiet_step (fun K1 hK1 => ?_))⟩
            · exact (SY.out W).mono fun e w2 ⟨he, hb⟩ => ⟨he, HG.step hW hb⟩
            clear hK0 K0
            go_simp
            first | (with_reducible refine hK1 _ (wpQuiet_step (fun K0 hK0 => ?_))) | (with_reducible refine ⟨_, fun _ _ => rfl, hK1 _ (wpQuiet_step (fun K0 hK0 => ?_))⟩) | (rw [if_neg (by intro e; cases e)]; with_reducible refine hK1 _ (wpQuiet_step (fun K0 hK0 => ?_)))
            clear hK1 K1
            go_simp
            first | (with_reducible refine hK0 _ (wpQuiet_nil ?_)) | (with_reducible refine ⟨_, fun _ _ => rfl, hK0 _ (wpQuiet_nil ?_)⟩) | (rw [if_neg (by intro e; cases e)]; with_reducible refine hK0 _ (wpQuiet_nil ?_))
            clear hK0 K0
            intro w5 H5
            have HW := H5
            clear H5 H3
            obtain ⟨_, z, ⟨u0, u1, u2⟩, _⟩ := id HW
            go_wp2_with fail
            clear z u0 u1 u2
            refine (PA.out _).mono ?_
            rintro e w7 ⟨rfl, hb7⟩
            have H7 := HW.step hb7
            clear hb7 PA
            obtain ⟨_, z, ⟨u0, u1, u2⟩, f0, f1, f2⟩ := id H7
            go_wp2
            go_roundg k
            case rel =>
              refine ⟨k, 0, j + 1, parB b, _, _, _, _, rfl, ?_, L0, LH.out, hil, by omega, H7.put (parB b), pf, RE.out, by have := par_bits IP.out; omega, Nat.le_refl _⟩
              first | (rw [show L.length - (j + 1) = 0 by omega]; done) | rw [show L.length - (j + 1) = L.length - j - 1 by omega]
            case measure => omega
        | false =>
          have FQ := hide ((first_at hy b).trans hs2)
          have SY := hide (fun W => via (sib_any fb fy W) (v' := .bool false) (by rw [hs2]))
          clear hy hs2
          go_wp2_with fail
          refine wp_region_quiet (C := HG w b) (by kernel_rfl) (by kernel_rfl) HB.drew (wpQuiet_step (fun K0 hK0 => ?_))
          go_simp
          first | (with_reducible refine hK0 _ (wpQuiet_step (fun K1 hK1 => ?_))) | (with_reducible refine ⟨_, fun _ _ => rfl, hK0 _ (wpQuiet_step (fun K1 hK1 => ?_))⟩) | (rw [if_neg (by intro e; cases e)]; with_reducible refine hK0 _ (wpQuiet_step (fun K1 hK1 => ?_)))
          clear hK0 K0
          go_simp
          first | (with_reducible refine hK1 _ (wpQuiet_step (fun K0 hK0 => ?_))) | (with_reducible refine ⟨_, fun _ _ => rfl, hK1 _ (wpQuiet_step (fun K0 hK0 => ?_))⟩) | (rw [if_neg (by intro e; cases e)]; with_reducible refine hK1 _ (wpQuiet_step (fun K0 hK0 => ?_)))
          clear hK1 K1
          go_simp
          first | (with_reducible refine hK0 _ (wpQuiet_step (fun K1 hK1 => ?_))) | (with_reducible refine ⟨_, fun _ _ => rfl, hK0 _ (wpQuiet_step (fun K1 hK1 => ?_))⟩) | (rw [if_neg (by intro e; cases e)]; with_reducible refine hK0 _ (wpQuiet_step (fun K1 hK1 => ?_)))
          clear hK0 K0
          go_simp
          first | (with_reducible refine hK1 _ (wpQuiet_step (fun K0 hK0 => ?_))) | (with_reducible refine ⟨_, fun _ _ => rfl, hK1 _ (wpQuiet_step (fun K0 hK0 => ?_))⟩) | (rw [if_neg (by intro e; cases e)]; with_reducible refine hK1 _ (wpQuiet_step (fun K0 hK0 => ?_)))
          clear hK1 K1
          go_simp
          first | (with_reducible refine hK0 _ (wpQuiet_step (fun K1 hK1 => ?_))) | (with_reducible refine ⟨_, fun _ _ => rfl, hK0 _ (wpQuiet_step (fun K1 hK1 => ?_))⟩) | (rw [if_neg (by intro e; cases e)]; with_reducible refine hK0 _ (wpQuiet_step (fun K1 hK1 => ?_)))
          clear hK0 K0
          go_simp
          first | (with_reducible refine hK1 _ (wpQuiet_step (fun K0 hK0 => ?_))) | (with_reducible refine ⟨_, fun _ _ => rfl, hK1 _ (wpQuiet_step (fun K0 hK0 => ?_))⟩) | (rw [if_neg (by intro e; cases e)]; with_reducible refine hK1 _ (wpQuiet_step (fun K0 hK0 => ?_)))
          clear hK1 K1
          go_simp
          first | (with_reducible refine hK0 _ (wpQuiet_step (fun K1 hK1 => ?_))) | (with_reducible refine ⟨_, fun _ _ => rfl, hK0 _ (wpQuiet_step (fun K1 hK1 => ?_))⟩) | (rw [if_neg (by intro e; cases e)]; with_reducible refine hK0 _ (wpQuiet_step (fun K1 hK1 => ?_)))
          clear hK0 K0
          go_simp
          first | (with_reducible refine hK1 _ (wpQuiet_step (fun K0 hK0 => ?_))) | (with_reducible refine ⟨_, fun _ _ => rfl, hK1 _ (wpQuiet_step (fun K0 hK0 => ?_))⟩) | (rw [if_neg (by intro e; cases e)]; with_reducible refine hK1 _ (wpQuiet_step (fun K0 hK0 => ?_)))
          clear hK1 K1
          go_simp
          first | (with_reducible refine hK0 _ (wpQuiet_step (fun K1 hK1 => ?_))) | (with_reducible refine ⟨_, fun _ _ => rfl, hK0 _ (wpQuiet_step (fun K1 hK1 => ?_))⟩) | (rw [if_neg (by intro e; cases e)]; with_reducible refine hK0 _ (wpQuiet_step (fun K1 hK1 => ?_)))
          clear hK0 K0
          go_simp
          first | (with_reducible refine hK1 _ (wpQuiet_step (fun K0 hK0 => ?_))) | (with_reducible refine ⟨_, fun _ _ => rfl, hK1 _ (wpQuiet_step (fun K0 hK0 => ?_))⟩) | (rw [if_neg (by intro e; cases e)]; with_reducible refine hK1 _ (wpQuiet_step (fun K0 hK0 => ?_)))
          clear hK1 K1
          go_simp
          first | (with_reducible refine hK0 _ (wpQuiet_nil ?_)) | (with_reducible refine ⟨_, fun _ _ => rfl, hK0 _ (wpQuiet_nil ?_)⟩) | (rw [if_neg (by intro e; cases e)]; with_reducible refine hK0 _ (wpQuiet_nil ?_))
          clear hK0 K0
          intro w3 H3
          clear HB
          go_wp2_with fail
          refine wp_region_quiet (C := HG w b) (by kernel_rfl) (by kernel_rfl) H3.drew (wpQuiet_step (fun K0 hK0 => ?_))
          go_simp
          first | (with_reducible refine hK0 _ (wpQuiet_step (fun K1 hK1 => ?_))) | (with_reducible refine ⟨_, fun _ _ => rfl, hK0 _ (wpQuiet_step (fun K1 hK1 => ?_))⟩) | (rw [if_neg (by intro e; cases e)]; with_reducible refine hK0 _ (wpQuiet_step (fun K1 hK1 => ?_)))
          clear hK0 K0
          go_simp
          first | (with_reducible refine hK1 _ (wpQuiet_step (fun K0 hK0 => ?_))) | (with_reducible refine ⟨_, fun _ _ => rfl, hK1 _ (wpQuiet_step (fun K0 hK0 => ?_))⟩) | (rw [if_neg (by intro e; cases e)]; with_reducible refine hK1 _ (wpQuiet_step (fun K0 hK0 => ?_)))
          clear hK1 K1
          go_simp
          first | (with_reducible refine hK0 _ (wpQuiet_step (fun K1 hK1 => ?_))) | (with_reducible refine ⟨_, fun _ _ => rfl, hK0 _ (wpQuiet_step (fun K1 hK1 => ?_))⟩) | (rw [if_neg (by intro e; cases e)]; with_reducible refine hK0 _ (wpQuiet_step (fun K1 hK1 => ?_)))
          clear hK0 K0
          go_simp
          first | (with_reducible refine hK1 _ (wpQuiet_step (fun K0 hK0 => ?_))) | (with_reducible refine ⟨_, fun _ _ => rfl, hK1 _ (wpQuiet_step (fun K0 hK0 => ?_))⟩) | (rw [if_neg (by intro e; cases e)]; with_reducible refine hK1 _ (wpQuiet_step (fun K0 hK0 => ?_)))
          clear hK1 K1
          go_simp
          refine ⟨Bv b, fun W hW => ?_, hK0 _ (wpQuiet_step (fun K1 hK1 => ?_))⟩
          · ((obtain ⟨_, _, ⟨u0, u1, u2⟩, _⟩ := hW; simp [go_sem, u0, u1, u2]))
          clear hK0 K0
          go_simp
          first | (with_reducible refine hK1 _ (wpQuiet_step (fun K0 hK0 => ?_))) | (with_reducible refine ⟨_, fun _ _ => rfl, hK1 _ (wpQuiet_step (fun K0 hK0 => ?_))⟩) | (rw [if_neg (by intro e; cases e)]; with_reducible refine hK1 _ (wpQuiet_step (fun K0 hK0 => ?_)))
          clear hK1 K1
          go_simp
          first | (with_reducible refine hK0 _ (wpQuiet_step (fun K1 hK1 => ?_))) | (with_reducible refine ⟨_, fun _ _ => rfl, hK0 _ (wpQuiet_step (fun K1 hK1 => ?_))⟩) | (rw [if_neg (by intro e; cases e)]; with_reducible refine hK0 _ (wpQuiet_step (fun K1 hK1 => ?_)))
          clear hK0 K0
          go_simp
          refine ⟨Bv y, fun W hW => ?_, hK1 _ (wpQuiet_step (fun K0 hK0 => ?_))⟩
          · ((obtain ⟨_, _, eb, _, u0, u1, u2⟩ := HY.out W hW; cases eb; simp [go_sem] at u0 u1 u2; simp [go_sem, u0, u1, u2]))
          clear hK1 K1
          go_simp
          refine ⟨.bool false, fun W hW => ?_, hK0 _ (wpQuiet_step (fun K1 hK1 => ?_))⟩
          · exact (SY.out W).mono fun e w2 ⟨he, hb⟩ => ⟨he, HG.step hW hb⟩
          clear hK0 K0
          go_simp
          first | (with_reducible refine hK1 _ (wpQuiet_step (fun K0 hK0 => ?_))) | (with_reducible refine ⟨_, fun _ _ => rfl, hK1 _ (wpQuiet_step (fun K0 hK0 => ?_))⟩) | (rw [if_neg (by intro e; cases e)]; with_reducible refine hK1 _ (wpQuiet_step (fun K0 hK0 => ?_)))
          clear hK1 K1
          go_simp
          first | (with_reducible refine hK0 _ (wpQuiet_nil ?_)) | (with_reducible refine ⟨_, fun _ _ => rfl, hK0 _ (wpQuiet_nil ?_)⟩) | (rw [if_neg (by intro e; cases e)]; with_reducible refine hK0 _ (wpQuiet_nil ?_))
          clear hK0 K0
          intro w5 H5
          have RE := hide (HR.out.symm.trans (grow_end LS.out FQ.out))
          obtain ⟨_, z, ⟨u0, u1, u2⟩, _⟩ := id H5
          go_wp2_with fail
          clear z u0 u1 u2
          have N1 := lst_one (box_new w5 b 26)
          have HA := H5.step (below_alloc w5 (.cells #[.int .u64 (hi b.1 : Nat), .int .u64 (lo b.1 : Nat), .int .i64 b.2] 26))
          have PT := parts_three (t := 27) (LL0.out _ HA) N1 (LL2.out _ HA)
          rw [World.size_alloc] at PT
          refine (CC.out _ _ _ _ _ 0 b j PT).mono ?_
          rintro e w9 ⟨v9, rfl, hb9, O9⟩
          have HB9 : Below w.heap.size w w9 := chain (HA.step (below_alloc _ _)).1 hb9
          rw [← RE.out] at O9
          have O10 := own_base O9 (HA.step (below_alloc _ _)).1.size
          clear O9 PT HA N1 H5 CC
          go_wp2
          go_ret
          exact ⟨_, rfl, HB9, O10⟩

      · have FQ := hide (first_none (show L.length ≤ j by omega) b)
        obtain rfl : j = L.length := by omega
        rw [Nat.sub_self] at L2 jc LL2
        rw [Nat.sub_self]
        go_wp2_with fail
        refine wp_region_quiet (C := HG w b) (by kernel_rfl) (by kernel_rfl) HB.drew (wpQuiet_step (fun K0 hK0 => ?_))
        go_simp
        first | (with_reducible refine hK0 _ (wpQuiet_step (fun K1 hK1 => ?_))) | (with_reducible refine ⟨_, fun _ _ => rfl, hK0 _ (wpQuiet_step (fun K1 hK1 => ?_))⟩) | (rw [if_neg (by intro e; cases e)]; with_reducible refine hK0 _ (wpQuiet_step (fun K1 hK1 => ?_)))
        clear hK0 K0
        go_simp
        first | (with_reducible refine hK1 _ (wpQuiet_step (fun K0 hK0 => ?_))) | (with_reducible refine ⟨_, fun _ _ => rfl, hK1 _ (wpQuiet_step (fun K0 hK0 => ?_))⟩) | (rw [if_neg (by intro e; cases e)]; with_reducible refine hK1 _ (wpQuiet_step (fun K0 hK0 => ?_)))
        clear hK1 K1
        go_simp
        first | (with_reducible refine hK0 _ (wpQuiet_step (fun K1 hK1 => ?_))) | (with_reducible refine ⟨_, fun _ _ => rfl, hK0 _ (wpQuiet_step (fun K1 hK1 => ?_))⟩) | (rw [if_neg (by intro e; cases e)]; with_reducible refine hK0 _ (wpQuiet_step (fun K1 hK1 => ?_)))
        clear hK0 K0
        go_simp
        first | (with_reducible refine hK1 _ (wpQuiet_step (fun K0 hK0 => ?_))) | (with_reducible refine ⟨_, fun _ _ => rfl, hK1 _ (wpQuiet_step (fun K0 hK0 => ?_))⟩) | (rw [if_neg (by intro e; cases e)]; with_reducible refine hK1 _ (wpQuiet_step (fun K0 hK0 => ?_)))
        clear hK1 K1
        go_simp
        first | (with_reducible refine hK0 _ (wpQuiet_step (fun K1 hK1 => ?_))) | (with_reducible refine ⟨_, fun _ _ => rfl, hK0 _ (wpQuiet_step (fun K1 hK1 => ?_))⟩) | (rw [if_neg (by intro e; cases e)]; with_reducible refine hK0 _ (wpQuiet_step (fun K1 hK1 => ?_)))
        clear hK0 K0
        go_simp
        first | (with_reducible refine hK1 _ (wpQuiet_step (fun K0 hK0 => ?_))) | (with_reducible refine ⟨_, fun _ _ => rfl, hK1 _ (wpQuiet_step (fun K0 hK0 => ?_))⟩) | (rw [if_neg (by intro e; cases e)]; with_reducible refine hK1 _ (wpQuiet_step (fun K0 hK0 => ?_)))
        clear hK1 K1
        go_simp
        first | (with_reducible refine hK0 _ (wpQuiet_step (fun K1 hK1 => ?_))) | (with_reducible refine ⟨_, fun _ _ => rfl, hK0 _ (wpQuiet_step (fun K1 hK1 => ?_))⟩) | (rw [if_neg (by intro e; cases e)]; with_reducible refine hK0 _ (wpQuiet_step (fun K1 hK1 => ?_)))
        clear hK0 K0
        go_simp
        first | (with_reducible refine hK1 _ (wpQuiet_step (fun K0 hK0 => ?_))) | (with_reducible refine ⟨_, fun _ _ => rfl, hK1 _ (wpQuiet_step (fun K0 hK0 => ?_))⟩) | (rw [if_neg (by intro e; cases e)]; with_reducible refine hK1 _ (wpQuiet_step (fun K0 hK0 => ?_)))
        clear hK1 K1
        go_simp
        first | (with_reducible refine hK0 _ (wpQuiet_step (fun K1 hK1 => ?_))) | (with_reducible refine ⟨_, fun _ _ => rfl, hK0 _ (wpQuiet_step (fun K1 hK1 => ?_))⟩) | (rw [if_neg (by intro e; cases e)]; with_reducible refine hK0 _ (wpQuiet_step (fun K1 hK1 => ?_)))
        clear hK0 K0
        go_simp
        first | (with_reducible refine hK1 _ (wpQuiet_step (fun K0 hK0 => ?_))) | (with_reducible refine ⟨_, fun _ _ => rfl, hK1 _ (wpQuiet_step (fun K0 hK0 => ?_))⟩) | (rw [if_neg (by intro e; cases e)]; with_reducible refine hK1 _ (wpQuiet_step (fun K0 hK0 => ?_)))
        clear hK1 K1
        go_simp
        first | (with_reducible refine hK0 _ (wpQuiet_nil ?_)) | (with_reducible refine ⟨_, fun _ _ => rfl, hK0 _ (wpQuiet_nil ?_)⟩) | (rw [if_neg (by intro e; cases e)]; with_reducible refine hK0 _ (wpQuiet_nil ?_))
        clear hK0 K0
        intro w3 H3
        clear HB
        go_wp2_with fail
        refine wp_region_quiet (C := HG w b) (by kernel_rfl) (by kernel_rfl) H3.drew (wpQuiet_step (fun K0 hK0 => ?_))
        go_simp
        first | (with_reducible refine hK0 _ (wpQuiet_step (fun K1 hK1 => ?_))) | (with_reducible refine ⟨_, fun _ _ => rfl, hK0 _ (wpQuiet_step (fun K1 hK1 => ?_))⟩) | (rw [if_neg (by intro e; cases e)]; with_reducible refine hK0 _ (wpQuiet_step (fun K1 hK1 => ?_)))
        clear hK0 K0
        go_simp
        first | (with_reducible refine hK1 _ (wpQuiet_step (fun K0 hK0 => ?_))) | (with_reducible refine ⟨_, fun _ _ => rfl, hK1 _ (wpQuiet_step (fun K0 hK0 => ?_))⟩) | (rw [if_neg (by intro e; cases e)]; with_reducible refine hK1 _ (wpQuiet_step (fun K0 hK0 => ?_)))
        clear hK1 K1
        go_simp
        first | (with_reducible refine hK0 _ (wpQuiet_step (fun K1 hK1 => ?_))) | (with_reducible refine ⟨_, fun _ _ => rfl, hK0 _ (wpQuiet_step (fun K1 hK1 => ?_))⟩) | (rw [if_neg (by intro e; cases e)]; with_reducible refine hK0 _ (wpQuiet_step (fun K1 hK1 => ?_)))
        clear hK0 K0
        go_simp
        first | (with_reducible refine hK1 _ (wpQuiet_step (fun K0 hK0 => ?_))) | (with_reducible refine ⟨_, fun _ _ => rfl, hK1 _ (wpQuiet_step (fun K0 hK0 => ?_))⟩) | (rw [if_neg (by intro e; cases e)]; with_reducible refine hK1 _ (wpQuiet_step (fun K0 hK0 => ?_)))
        clear hK1 K1
        go_simp
        first | (with_reducible refine hK0 _ (wpQuiet_step (fun K1 hK1 => ?_))) | (with_reducible refine ⟨_, fun _ _ => rfl, hK0 _ (wpQuiet_step (fun K1 hK1 => ?_))⟩) | (rw [if_neg (by intro e; cases e)]; with_reducible refine hK0 _ (wpQuiet_step (fun K1 hK1 => ?_)))
        clear hK0 K0
        go_simp
        first | (with_reducible refine hK1 _ (wpQuiet_step (fun K0 hK0 => ?_))) | (with_reducible refine ⟨_, fun _ _ => rfl, hK1 _ (wpQuiet_step (fun K0 hK0 => ?_))⟩) | (rw [if_neg (by intro e; cases e)]; with_reducible refine hK1 _ (wpQuiet_step (fun K0 hK0 => ?_)))
        clear hK1 K1
        go_simp
        first | (with_reducible refine hK0 _ (wpQuiet_step (fun K1 hK1 => ?_))) | (with_reducible refine ⟨_, fun _ _ => rfl, hK0 _ (wpQuiet_step (fun K1 hK1 => ?_))⟩) | (rw [if_neg (by intro e; cases e)]; with_reducible refine hK0 _ (wpQuiet_step (fun K1 hK1 => ?_)))
        clear hK0 K0
        go_simp
        first | (with_reducible refine hK1 _ (wpQuiet_step (fun K0 hK0 => ?_))) | (with_reducible refine ⟨_, fun _ _ => rfl, hK1 _ (wpQuiet_step (fun K0 hK0 => ?_))⟩) | (rw [if_neg (by intro e; cases e)]; with_reducible refine hK1 _ (wpQuiet_step (fun K0 hK0 => ?_)))
        clear hK1 K1
        go_simp
        first | (with_reducible refine hK0 _ (wpQuiet_step (fun K1 hK1 => ?_))) | (with_reducible refine ⟨_, fun _ _ => rfl, hK0 _ (wpQuiet_step (fun K1 hK1 => ?_))⟩) | (rw [if_neg (by intro e; cases e)]; with_reducible refine hK0 _ (wpQuiet_step (fun K1 hK1 => ?_)))
        clear hK0 K0
        go_simp
        first | (with_reducible refine hK1 _ (wpQuiet_step (fun K0 hK0 => ?_))) | (with_reducible refine ⟨_, fun _ _ => rfl, hK1 _ (wpQuiet_step (fun K0 hK0 => ?_))⟩) | (rw [if_neg (by intro e; cases e)]; with_reducible refine hK1 _ (wpQuiet_step (fun K0 hK0 => ?_)))
        clear hK1 K1
        go_simp
        first | (with_reducible refine hK0 _ (wpQuiet_nil ?_)) | (with_reducible refine ⟨_, fun _ _ => rfl, hK0 _ (wpQuiet_nil ?_)⟩) | (rw [if_neg (by intro e; cases e)]; with_reducible refine hK0 _ (wpQuiet_nil ?_))
        clear hK0 K0
        intro w5 H5
        have RE := hide (HR.out.symm.trans (grow_end LS.out FQ.out))
        obtain ⟨_, z, ⟨u0, u1, u2⟩, _⟩ := id H5
        go_wp2_with fail
        clear z u0 u1 u2
        have N1 := lst_one (box_new w5 b 26)
        have HA := H5.step (below_alloc w5 (.cells #[.int .u64 (hi b.1 : Nat), .int .u64 (lo b.1 : Nat), .int .i64 b.2] 26))
        have PT := parts_three (t := 27) (LL0.out _ HA) N1 (LL2.out _ HA)
        rw [World.size_alloc] at PT
        refine (CC.out _ _ _ _ _ 0 b L.length PT).mono ?_
        rintro e w9 ⟨v9, rfl, hb9, O9⟩
        have HB9 : Below w.heap.size w w9 := chain (HA.step (below_alloc _ _)).1 hb9
        rw [← RE.out] at O9
        have O10 := own_base O9 (HA.step (below_alloc _ _)).1.size
        clear O9 PT HA N1 H5 CC
        go_wp2
        go_ret
        exact ⟨_, rfl, HB9, O10⟩

end Go.Proofs.Ytpieddddckbfdaa
