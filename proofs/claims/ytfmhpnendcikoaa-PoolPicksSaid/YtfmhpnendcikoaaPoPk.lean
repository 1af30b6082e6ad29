/-
  The walk of the law PoolPicks: it returns true. Conditions: the words are words of 64 bits.
-/
import Derived.Test.YtfmhpnendcikoaaPoPm
import Derived.Deep.DeepCutAuto
namespace Go.Proofs.Ytfmhpnendcikoaa
open Go.RowKit Go.Joins

/-- what stands once an address is picked -/
def HPc (w : World) (vf : Value) (F : List Rg) (g a : Nat) (W : World) : Prop := Below w.heap.size w W ∧ Lst vf F W ∧ Two g a W
theorem HPc.step {w : World} {vf : Value} {F : List Rg} {g a : Nat} {W w2 : World} (h : HPc w vf F g a W) (hb : Below W.heap.size W w2) : HPc w vf F g a w2 :=
  ⟨chain h.1 hb, h.2.1.step hb, h.2.2.step hb⟩
theorem HPc.drew {w : World} {vf : Value} {F : List Rg} {g a : Nat} {W : World} (h : HPc w vf F g a W) : HPc w vf F g a { W with drawn := W.drawn + 1 } := h.step (Below.refl _ _).drew
theorem any_take {p : List Rg} {k : Nat} {x : Rg} (h : p[k]? = some x) (P : Rg → Bool) : (p.take (k + 1)).any P = ((p.take k).any P || P x) := by
  rw [List.take_add_one, h, List.any_append]
  simp
theorem cmp_sgn (a b : Nat) : ∃ z : Int, cmpS a b = z ∧ (z ≤ 0 ↔ a ≤ b) := ⟨_, rfl, decide_eq_decide.1 (cmp_le a b)⟩
set_option maxRecDepth 100000 in
set_option maxHeartbeats 4000000 in
theorem picks_any {vp vt : Value} {p : List Rg} {t : List Nat} {d : Nat} (fp : FitL p) (ft : ∀ a ∈ t, Fits a) (fd : d < 18446744073709551616) (w : World) (hv : Lst vp p w) (hu : LstA vt t w) :
    Calls Try.prog 4 #[vp, vt, .int .u64 (d : Nat)] w (Gives (.bool true) w) := by
  have HV := hide (fun W (H : Below w.heap.size w W) => hv.step H)
  have HU := hide (fun W (H : Below w.heap.size w W) => hu.step H)
  have FT := hide ft
  obtain ⟨pp, pc, rfl⟩ := lst_len hv
  obtain ⟨q, c, rfl⟩ := lstA_len hu
  have hcap := (lstA_cap hu).2.1
  have hnil := (lstA_cap hu).2.2.2
  clear hv hu ft
  go_enter Try.func4, Try.ntmps4
  go_wp2_with fail
  refine (awake_any _).mono ?_
  rintro e w1 ⟨rfl, hb1⟩
  by_cases hp : 100 < p.length
  · have E : (100 : Int) < (p.length : Int) := by omega
    go_wp2
    go_ret
    exact ⟨rfl, hb1⟩
  by_cases ht : 100 < t.length
  · have E : (100 : Int) < (t.length : Int) := by omega
    go_wp2
    go_ret
    exact ⟨rfl, hb1⟩
  obtain ⟨h, hh⟩ : ∃ h : Nat, h = t.length / 2 := ⟨_, rfl⟩
  have hq : (t.length : Int) / 2 = (h : Int) := by omega
  have hle : h ≤ t.length := by omega
  have hlc : h ≤ c := by omega
  have T1 := hide (fun W (H : Below w.heap.size w W) => lstA_take (HU.out W H) hle)
  have FA := hide (fun a (ha : a ∈ t.take h) => FT.out a (List.mem_of_mem_take ha))
  have FB := hide (fun a (ha : a ∈ t.drop h) => FT.out a (List.mem_of_mem_drop ha))
  have BU := hide (fun W (H : Below w.heap.size w W) => build_any fp FA.out (by omega) (by rw [List.length_take]; omega) W (HV.out W H) (T1.out W H))
  cases ho : okL p with
  | false =>
    rw [show buildR p (t.take h) = ([], 1) by unfold buildR; rw [ho]; rfl] at BU
    clear T1 FA FB ho hh HU HV
    go_wp2_with fail
    refine (BU.out _ hb1).mono ?_
    rintro e w2 ⟨v2, rfl, hb2, O2⟩
    obtain ⟨p2, c2, rfl⟩ := lst_len (own_lst O2)
    have HB := chain hb1 hb2
    clear BU O2 hb1 hb2
    go_wp2
    go_ret
    exact ⟨rfl, HB⟩
  | true =>
    obtain ⟨S, F, r1, r2, r3, r4, r5, r6, r7, r8, r9, r10⟩ := picks_all ho fp FA.out FB.out fd
    rw [List.length_take] at r6
    rw [List.length_drop] at r7
    have n6 : S.length ≤ 300 := by omega
    have n7 : F.length ≤ 700 := by omega
    clear r6 r7
    rw [r1] at BU
    have FR := hide (fun W vs vt (H : Lst vs S W) (K : LstA vt (t.drop h) W) => r2 ▸ free_any r4 FB.out (by omega) (by rw [List.length_drop]; omega) W H K)
    have SO := hide (fun W v (H : Lst v F W) => via (sound_any (v := v) r5 (by omega) W H) (v' := .bool true) (by rw [r3]))
    have PI := hide (fun W v (H : Lst v F W) => pick_any (v := v) r5 fd (by omega) W H)
    have HA := hide (fun W v a (H : Lst v F W) => has_any (v := v) r5 (by omega) a W H)
    have R9 := hide r9
    have R10 := hide r10
    clear T1 FA FB ho r1 r2 r3 r4 r5 r9 r10 fp hh
    go_wp2_with fail
    refine (BU.out _ hb1).mono ?_
    rintro e w2 ⟨v2, rfl, hb2, O2⟩
    have B2 := chain hb1 hb2
    have L2 := own_lst O2
    clear BU O2 hb1 hb2
    by_cases CK : c = h
    case' pos =>
      have V9 := lstA_dropE (HU.out _ B2) hle CK
      go_wp2_with fail
      generalize Value.slice q (t.length - h) 0 = v9 at V9 ⊢
    case' neg =>
      have V9 := lstA_dropN (HU.out _ B2) hle CK
      go_wp2_with fail
      generalize Value.slice (Option.map (fun x : Go.Addr => x.add (h * 2)) q) (t.length - h) (c - h) = v9 at V9 ⊢
    all_goals
      refine (FR.out _ _ _ L2 V9).mono ?_
      rintro e w3 ⟨v3, rfl, hb3, O3⟩
      have B3 := chain B2 hb3
      have L3 := own_lst O3
      obtain ⟨pf, cf, rfl⟩ := lst_len L3
      clear O3 hb3 L2 B2 V9 FR
      go_wp2_with fail
      refine (SO.out _ _ L3).mono ?_
      rintro e w4 ⟨rfl, hb4⟩
      have B4 := chain B3 hb4
      have L4 := L3.step hb4
      clear B3 L3 hb4 SO
      by_cases hF : F = []
      · have P0 := hide (fun W v (H : Lst v F W) => via (PI.out W v H) (v' := .tuple #[.agg #[.int .u64 0, .int .u64 0], .bool false]) (by rw [R9.out hF, r8, hF]; rfl))
        have LI : ¬ (0 : Int) < (F.length : Int) := by rw [hF]; simp
        clear PI R9 R10 HA HV HU hF r8
        go_wp2_with fail
        refine (P0.out _ _ L4).mono ?_
        rintro e w5 ⟨rfl, hb5⟩
        have HB := chain (chain B4 hb5) (below_alloc w5 (.cells #[.int .u64 0, .int .u64 0] 35))
        clear B4 hb5 L4
        go_wp2
        go_ret
        exact ⟨rfl, HB⟩
      · obtain ⟨z1, z2, z3, z4⟩ := R10.out hF
        have LP : 0 < F.length := Nat.pos_of_ne_zero (fun e => hF (List.length_eq_zero_iff.1 e))
        have LI : (0 : Int) < (F.length : Int) := by omega
        have P0 := hide (fun W v (H : Lst v F W) => via (PI.out W v H) (v' := .tuple #[A (nthV F (pickN F d)), .bool true]) (by rw [r8, decide_eq_true LP]))
        generalize nthV F (pickN F d) = y at *
        have AN := hide z1
        have N1 := hide (fun j x (hx : t[j]? = some x) => (show ¬ x = y from fun e => take_drop_mem z2 z3 (e ▸ List.mem_of_getElem? hx)))
        have HA1 := hide (fun W v (H : Lst v F W) => via (HA.out W v y H) (v' := .bool true) (by rw [z4]))
        clear z1 z2 z3 z4 PI R9 R10 HA hF r8
        go_wp2_with fail
        refine (P0.out _ _ L4).mono ?_
        rintro e w5 ⟨rfl, hb5⟩
        have H5 : HPc w (.slice pf F.length cf) F w5.heap.size y (w5.alloc (.cells #[.int .u64 (hi y : Nat), .int .u64 (lo y : Nat)] 35)) :=
          ⟨chain (chain B4 hb5) (below_alloc _ _), (L4.step hb5).step (below_alloc _ _), two_new _ _ _⟩
        clear B4 hb5 L4 P0
        go_wp2
        go_loopw [13, 14] (fun s13 i wr => ∃ k : Nat, k ≤ p.length ∧ i = .int .i64 (k : Nat) ∧ s13 = .bool ((p.take k).any (fun x => inB x y)) ∧ HPc w (.slice pf F.length cf) F w5.heap.size y wr) (fun _ i _ => p.length - (intOf i).toNat)
        case atStart => exact ⟨0, Nat.zero_le _, rfl, rfl, H5⟩
        case round =>
          obtain ⟨k, hk, rfl, rfl, HB⟩ := hrel
          clear H5
          generalize w5.heap.size = g at *
          by_cases hlt : k < p.length
          · obtain ⟨x, hx⟩ := get_some hlt
            have AT := hide (any_take hx (fun x => inB x y))
            have RX := hide (fun W (H : HPc w (.slice pf F.length cf) F g y W) => lst_at (HV.out W H.1) hx)
            obtain ⟨bx, ox, e, _⟩ := RX.out _ HB
            subst e
            generalize hA : (p.take k).any (fun x => inB x y) = A0 at *
            clear hx
            cases A0 with
            | true =>
              have AE := hide (show (p.take (k + 1)).any (fun x => inB x y) = true by rw [AT.out]; rfl)
              clear AT hA
              go_wp2_with fail
              refine wp_region_quiet (C := HPc w (.slice pf F.length cf) F g y) (by kernel_rfl) (by kernel_rfl) HB.drew (wpQuiet_step (fun K0 hK0 => ?_))
              go_simp
              first | (with_reducible refine hK0 _ (wpQuiet_step (fun K1 hK1 => ?_))) | (with_reducible refine ⟨_, fun _ _ => rfl, hK0 _ (wpQuiet_step (fun K1 hK1 => ?_))⟩) | (rw [if_neg (by intro e; cases e)]; with_reducible refine hK0 _ (wpQuiet_step (fun K1 hK1 => ?_)))
              clear hK0 K0
              go_simp
              first | (with_reducible refine hK1 _ (wpQuiet_step (fun K0 hK0 => ?_))) | (with_reducible refine ⟨_, fun _ _ => rfl, hK1 _ (wpQuiet_step (fun K0 hK0 => ?_))⟩) | (rw [if_neg (by intro e; cases e)]; with_reducible refine hK1 _ (wpQuiet_step (fun K0 hK0 => ?_)))
              clear hK1 K1
              go_simp
              first | (with_reducible refine hK0 _ (wpQuiet_step (fun K1 hK1 => ?_))) | (with_reducible refine ⟨_, fun _ _ => rfl, hK0 _ (wpQuiet_step (fun K1 hK1 => ?_))⟩) | (rw [if_neg (by intro e; cases e)]; with_reducible refine hK0 _ (wpQuiet_step (fun K1 hK1 => ?_)))
              clear hK0 K0
              go_simp
              first | (with_reducible refine hK1 _ (wpQuiet_step (fun K0 hK0 => ?_))) | (with_reducible refine ⟨_, fun _ _ => rfl, hK1 _ (wpQuiet_step (fun K0 hK0 => ?_))⟩) | (rw [if_neg (by intro e; cases e)]; with_reducible refine hK1 _ (wpQuiet_step (fun K0 hK0 => ?_)))
              clear hK1 K1
              go_simp
              first | (with_reducible refine hK0 _ (wpQuiet_step (fun K1 hK1 => ?_))) | (with_reducible refine ⟨_, fun _ _ => rfl, hK0 _ (wpQuiet_step (fun K1 hK1 => ?_))⟩) | (rw [if_neg (by intro e; cases e)]; with_reducible refine hK0 _ (wpQuiet_step (fun K1 hK1 => ?_)))
              clear hK0 K0
              go_simp
              first | (with_reducible refine hK1 _ (wpQuiet_step (fun K0 hK0 => ?_))) | (with_reducible refine ⟨_, fun _ _ => rfl, hK1 _ (wpQuiet_step (fun K0 hK0 => ?_))⟩) | (rw [if_neg (by intro e; cases e)]; with_reducible refine hK1 _ (wpQuiet_step (fun K0 hK0 => ?_)))
              clear hK1 K1
              go_simp
              first | (with_reducible refine hK0 _ (wpQuiet_step (fun K1 hK1 => ?_))) | (with_reducible refine ⟨_, fun _ _ => rfl, hK0 _ (wpQuiet_step (fun K1 hK1 => ?_))⟩) | (rw [if_neg (by intro e; cases e)]; with_reducible refine hK0 _ (wpQuiet_step (fun K1 hK1 => ?_)))
              clear hK0 K0
              go_simp
              first | (with_reducible refine hK1 _ (wpQuiet_step (fun K0 hK0 => ?_))) | (with_reducible refine ⟨_, fun _ _ => rfl, hK1 _ (wpQuiet_step (fun K0 hK0 => ?_))⟩) | (rw [if_neg (by intro e; cases e)]; with_reducible refine hK1 _ (wpQuiet_step (fun K0 hK0 => ?_)))
              clear hK1 K1
              go_simp
              first | (with_reducible refine hK0 _ (wpQuiet_step (fun K1 hK1 => ?_))) | (with_reducible refine ⟨_, fun _ _ => rfl, hK0 _ (wpQuiet_step (fun K1 hK1 => ?_))⟩) | (rw [if_neg (by intro e; cases e)]; with_reducible refine hK0 _ (wpQuiet_step (fun K1 hK1 => ?_)))
              clear hK0 K0
              go_simp
              first | (with_reducible refine hK1 _ (wpQuiet_step (fun K0 hK0 => ?_))) | (with_reducible refine ⟨_, fun _ _ => rfl, hK1 _ (wpQuiet_step (fun K0 hK0 => ?_))⟩) | (rw [if_neg (by intro e; cases e)]; with_reducible refine hK1 _ (wpQuiet_step (fun K0 hK0 => ?_)))
              clear hK1 K1
              go_simp
              first | (with_reducible refine hK0 _ (wpQuiet_step (fun K1 hK1 => ?_))) | (with_reducible refine ⟨_, fun _ _ => rfl, hK0 _ (wpQuiet_step (fun K1 hK1 => ?_))⟩) | (rw [if_neg (by intro e; cases e)]; with_reducible refine hK0 _ (wpQuiet_step (fun K1 hK1 => ?_)))
              clear hK0 K0
              go_simp
              first | (with_reducible refine hK1 _ (wpQuiet_step (fun K0 hK0 => ?_))) | (with_reducible refine ⟨_, fun _ _ => rfl, hK1 _ (wpQuiet_step (fun K0 hK0 => ?_))⟩) | (rw [if_neg (by intro e; cases e)]; with_reducible refine hK1 _ (wpQuiet_step (fun K0 hK0 => ?_)))
              clear hK1 K1
              go_simp
              first | (with_reducible refine hK0 _ (wpQuiet_step (fun K1 hK1 => ?_))) | (with_reducible refine ⟨_, fun _ _ => rfl, hK0 _ (wpQuiet_step (fun K1 hK1 => ?_))⟩) | (rw [if_neg (by intro e; cases e)]; with_reducible refine hK0 _ (wpQuiet_step (fun K1 hK1 => ?_)))
              clear hK0 K0
              go_simp
              first | (with_reducible refine hK1 _ (wpQuiet_step (fun K0 hK0 => ?_))) | (with_reducible refine ⟨_, fun _ _ => rfl, hK1 _ (wpQuiet_step (fun K0 hK0 => ?_))⟩) | (rw [if_neg (by intro e; cases e)]; with_reducible refine hK1 _ (wpQuiet_step (fun K0 hK0 => ?_)))
              clear hK1 K1
              go_simp
              first | (with_reducible refine hK0 _ (wpQuiet_step (fun K1 hK1 => ?_))) | (with_reducible refine ⟨_, fun _ _ => rfl, hK0 _ (wpQuiet_step (fun K1 hK1 => ?_))⟩) | (rw [if_neg (by intro e; cases e)]; with_reducible refine hK0 _ (wpQuiet_step (fun K1 hK1 => ?_)))
              clear hK0 K0
              go_simp
              first | (with_reducible refine hK1 _ (wpQuiet_step (fun K0 hK0 => ?_))) | (with_reducible refine ⟨_, fun _ _ => rfl, hK1 _ (wpQuiet_step (fun K0 hK0 => ?_))⟩) | (rw [if_neg (by intro e; cases e)]; with_reducible refine hK1 _ (wpQuiet_step (fun K0 hK0 => ?_)))
              clear hK1 K1
              go_simp
              first | (with_reducible refine hK0 _ (wpQuiet_step (fun K1 hK1 => ?_))) | (with_reducible refine ⟨_, fun _ _ => rfl, hK0 _ (wpQuiet_step (fun K1 hK1 => ?_))⟩) | (rw [if_neg (by intro e; cases e)]; with_reducible refine hK0 _ (wpQuiet_step (fun K1 hK1 => ?_)))
              clear hK0 K0
              go_simp
              first | (with_reducible refine hK1 _ (wpQuiet_step (fun K0 hK0 => ?_))) | (with_reducible refine ⟨_, fun _ _ => rfl, hK1 _ (wpQuiet_step (fun K0 hK0 => ?_))⟩) | (rw [if_neg (by intro e; cases e)]; with_reducible refine hK1 _ (wpQuiet_step (fun K0 hK0 => ?_)))
              clear hK1 K1
              go_simp
              first | (with_reducible refine hK0 _ (wpQuiet_step (fun K1 hK1 => ?_))) | (with_reducible refine ⟨_, fun _ _ => rfl, hK0 _ (wpQuiet_step (fun K1 hK1 => ?_))⟩) | (rw [if_neg (by intro e; cases e)]; with_reducible refine hK0 _ (wpQuiet_step (fun K1 hK1 => ?_)))
              clear hK0 K0
              go_simp
              first | (with_reducible refine hK1 _ (wpQuiet_step (fun K0 hK0 => ?_))) | (with_reducible refine ⟨_, fun _ _ => rfl, hK1 _ (wpQuiet_step (fun K0 hK0 => ?_))⟩) | (rw [if_neg (by intro e; cases e)]; with_reducible refine hK1 _ (wpQuiet_step (fun K0 hK0 => ?_)))
              clear hK1 K1
              go_simp
              first | (with_reducible refine hK0 _ (wpQuiet_step (fun K1 hK1 => ?_))) | (with_reducible refine ⟨_, fun _ _ => rfl, hK0 _ (wpQuiet_step (fun K1 hK1 => ?_))⟩) | (rw [if_neg (by intro e; cases e)]; with_reducible refine hK0 _ (wpQuiet_step (fun K1 hK1 => ?_)))
              clear hK0 K0
              go_simp
              first | (with_reducible refine hK1 _ (wpQuiet_nil ?_)) | (with_reducible refine ⟨_, fun _ _ => rfl, hK1 _ (wpQuiet_nil ?_)⟩) | (rw [if_neg (by intro e; cases e)]; with_reducible refine hK1 _ (wpQuiet_nil ?_))
              clear hK1 K1
              intro w7 H7
              go_wp2
              go_roundw
              case rel => exact ⟨k + 1, hlt, by go_num, congrArg Value.bool AE.out.symm, H7⟩
              case measure => simp [intOf]; omega
            | false =>
              obtain ⟨z, hz, sz⟩ := cmp_sgn x.1 y
              obtain ⟨z2, hz2, sz2⟩ := cmp_sgn y x.2
              have CM1 := hide (fun W => via (cmp_any x.1 y W) (v' := .int .i64 z) (by rw [hz]))
              have CM2 := hide (fun W => via (cmp_any y x.2 W) (v' := .int .i64 z2) (by rw [hz2]))
              clear hz hz2 hA
              by_cases h1 : x.1 ≤ y
              · have s1 : z ≤ 0 := sz.2 h1
                by_cases h2 : y ≤ x.2
                · have s2 : z2 ≤ 0 := sz2.2 h2
                  have AE := hide (show (p.take (k + 1)).any (fun x => inB x y) = true by rw [AT.out, (in_iff x y).2 ⟨h1, h2⟩]; rfl)
                  clear AT h1 h2 sz sz2
                  go_wp2_with fail
                  refine wp_region_quiet (C := HPc w (.slice pf F.length cf) F g y) (by kernel_rfl) (by kernel_rfl) HB.drew (wpQuiet_step (fun K0 hK0 => ?_))
                  go_simp
                  first | (with_reducible refine hK0 _ (wpQuiet_step (fun K1 hK1 => ?_))) | (with_reducible refine ⟨_, fun _ _ => rfl, hK0 _ (wpQuiet_step (fun K1 hK1 => ?_))⟩) | (rw [if_neg (by intro e; cases e)]; with_reducible refine hK0 _ (wpQuiet_step (fun K1 hK1 => ?_)))
                  clear hK0 K0
                  go_simp
                  first | (with_reducible refine hK1 _ (wpQuiet_step (fun K0 hK0 => ?_))) | (with_reducible refine ⟨_, fun _ _ => rfl, hK1 _ (wpQuiet_step (fun K0 hK0 => ?_))⟩) | (rw [if_neg (by intro e; cases e)]; with_reducible refine hK1 _ (wpQuiet_step (fun K0 hK0 => ?_)))
                  clear hK1 K1
                  go_simp
                  first | (with_reducible refine hK0 _ (wpQuiet_step (fun K1 hK1 => ?_))) | (with_reducible refine ⟨_, fun _ _ => rfl, hK0 _ (wpQuiet_step (fun K1 hK1 => ?_))⟩) | (rw [if_neg (by intro e; cases e)]; with_reducible refine hK0 _ (wpQuiet_step (fun K1 hK1 => ?_)))
                  clear hK0 K0
                  go_simp
                  first | (with_reducible refine hK1 _ (wpQuiet_step (fun K0 hK0 => ?_))) | (with_reducible refine ⟨_, fun _ _ => rfl, hK1 _ (wpQuiet_step (fun K0 hK0 => ?_))⟩) | (rw [if_neg (by intro e; cases e)]; with_reducible refine hK1 _ (wpQuiet_step (fun K0 hK0 => ?_)))
                  clear hK1 K1
                  go_simp
                  first | (with_reducible refine hK0 _ (wpQuiet_step (fun K1 hK1 => ?_))) | (with_reducible refine ⟨_, fun _ _ => rfl, hK0 _ (wpQuiet_step (fun K1 hK1 => ?_))⟩) | (rw [if_neg (by intro e; cases e)]; with_reducible refine hK0 _ (wpQuiet_step (fun K1 hK1 => ?_)))
                  clear hK0 K0
                  go_simp
                  first | (with_reducible refine hK1 _ (wpQuiet_step (fun K0 hK0 => ?_))) | (with_reducible refine ⟨_, fun _ _ => rfl, hK1 _ (wpQuiet_step (fun K0 hK0 => ?_))⟩) | (rw [if_neg (by intro e; cases e)]; with_reducible refine hK1 _ (wpQuiet_step (fun K0 hK0 => ?_)))
                  clear hK1 K1
                  go_simp
                  refine ⟨A x.1, fun W hW => ?_, hK0 _ (wpQuiet_step (fun K1 hK1 => ?_))⟩
                  · ((obtain ⟨_, _, e, _, u0, u1, u2, u3⟩ := RX.out W hW; cases e; simp [go_sem, u0, u1]))
                  clear hK0 K0
                  go_simp
                  refine ⟨A y, fun W hW => ?_, hK1 _ (wpQuiet_step (fun K0 hK0 => ?_))⟩
                  · ((obtain ⟨_, _, _, u0, u1, _, _⟩ := id hW; simp [go_sem, u0, u1]))
                  clear hK1 K1
                  go_simp
                  refine ⟨.int .i64 z, fun W hW => ?_, hK0 _ (wpQuiet_step (fun K1 hK1 => ?_))⟩
                  · exact (CM1.out W).mono fun e w2 ⟨he, hb⟩ => ⟨he, HPc.step hW hb⟩
                  clear hK0 K0
                  go_simp
                  first | (with_reducible refine hK1 _ (wpQuiet_step (fun K0 hK0 => ?_))) | (with_reducible refine ⟨_, fun _ _ => rfl, hK1 _ (wpQuiet_step (fun K0 hK0 => ?_))⟩) | (rw [if_neg (by intro e; cases e)]; with_reducible refine hK1 _ (wpQuiet_step (fun K0 hK0 => ?_)))
                  clear hK1 K1
                  go_simp
                  first | (with_reducible refine hK0 _ (wpQuiet_step (fun K1 hK1 => ?_))) | (with_reducible refine ⟨_, fun _ _ => rfl, hK0 _ (wpQuiet_step (fun K1 hK1 => ?_))⟩) | (rw [if_neg (by intro e; cases e)]; with_reducible refine hK0 _ (wpQuiet_step (fun K1 hK1 => ?_)))
                  clear hK0 K0
                  go_simp
                  refine ⟨A y, fun W hW => ?_, hK1 _ (wpQuiet_step (fun K0 hK0 => ?_))⟩
                  · ((obtain ⟨_, _, _, u0, u1, _, _⟩ := id hW; simp [go_sem, u0, u1]))
                  clear hK1 K1
                  go_simp
                  first | (with_reducible refine hK0 _ (wpQuiet_step (fun K1 hK1 => ?_))) | (with_reducible refine ⟨_, fun _ _ => rfl, hK0 _ (wpQuiet_step (fun K1 hK1 => ?_))⟩) | (rw [if_neg (by intro e; cases e)]; with_reducible refine hK0 _ (wpQuiet_step (fun K1 hK1 => ?_)))
                  clear hK0 K0
                  go_simp
                  first | (with_reducible refine hK1 _ (wpQuiet_step (fun K0 hK0 => ?_))) | (with_reducible refine ⟨_, fun _ _ => rfl, hK1 _ (wpQuiet_step (fun K0 hK0 => ?_))⟩) | (rw [if_neg (by intro e; cases e)]; with_reducible refine hK1 _ (wpQuiet_step (fun K0 hK0 => ?_)))
                  clear hK1 K1
                  go_simp
                  first | (with_reducible refine hK0 _ (wpQuiet_step (fun K1 hK1 => ?_))) | (with_reducible refine ⟨_, fun _ _ => rfl, hK0 _ (wpQuiet_step (fun K1 hK1 => ?_))⟩) | (rw [if_neg (by intro e; cases e)]; with_reducible refine hK0 _ (wpQuiet_step (fun K1 hK1 => ?_)))
                  clear hK0 K0
                  go_simp
                  first | (with_reducible refine hK1 _ (wpQuiet_step (fun K0 hK0 => ?_))) | (with_reducible refine ⟨_, fun _ _ => rfl, hK1 _ (wpQuiet_step (fun K0 hK0 => ?_))⟩) | (rw [if_neg (by intro e; cases e)]; with_reducible refine hK1 _ (wpQuiet_step (fun K0 hK0 => ?_)))
                  clear hK1 K1
                  go_simp
                  refine ⟨A x.2, fun W hW => ?_, hK0 _ (wpQuiet_step (fun K1 hK1 => ?_))⟩
                  · ((obtain ⟨_, _, e, _, u0, u1, u2, u3⟩ := RX.out W hW; cases e; simp [go_sem, u2, u3]))
                  clear hK0 K0
                  go_simp
                  refine ⟨.int .i64 z2, fun W hW => ?_, hK1 _ (wpQuiet_step (fun K0 hK0 => ?_))⟩
                  · exact (CM2.out W).mono fun e w2 ⟨he, hb⟩ => ⟨he, HPc.step hW hb⟩
                  clear hK1 K1
                  go_simp
                  first | (with_reducible refine hK0 _ (wpQuiet_step (fun K1 hK1 => ?_))) | (with_reducible refine ⟨_, fun _ _ => rfl, hK0 _ (wpQuiet_step (fun K1 hK1 => ?_))⟩) | (rw [if_neg (by intro e; cases e)]; with_reducible refine hK0 _ (wpQuiet_step (fun K1 hK1 => ?_)))
                  clear hK0 K0
                  go_simp
                  first | (with_reducible refine hK1 _ (wpQuiet_step (fun K0 hK0 => ?_))) | (with_reducible refine ⟨_, fun _ _ => rfl, hK1 _ (wpQuiet_step (fun K0 hK0 => ?_))⟩) | (rw [if_neg (by intro e; cases e)]; with_reducible refine hK1 _ (wpQuiet_step (fun K0 hK0 => ?_)))
                  clear hK1 K1
                  go_simp
                  first | (with_reducible refine hK0 _ (wpQuiet_step (fun K1 hK1 => ?_))) | (with_reducible refine ⟨_, fun _ _ => rfl, hK0 _ (wpQuiet_step (fun K1 hK1 => ?_))⟩) | (rw [if_neg (by intro e; cases e)]; with_reducible refine hK0 _ (wpQuiet_step (fun K1 hK1 => ?_)))
                  clear hK0 K0
                  go_simp
                  first | (with_reducible refine hK1 _ (wpQuiet_nil ?_)) | (with_reducible refine ⟨_, fun _ _ => rfl, hK1 _ (wpQuiet_nil ?_)⟩) | (rw [if_neg (by intro e; cases e)]; with_reducible refine hK1 _ (wpQuiet_nil ?_))
                  clear hK1 K1
                  intro w7 H7
                  go_wp2
                  go_roundw
                  case rel => exact ⟨k + 1, hlt, by go_num, congrArg Value.bool AE.out.symm, H7⟩
                  case measure => simp [intOf]; omega
                · have CM2 := hide (fun W => via (cmp_any y x.2 W) (v' := .int .i64 1) (by rw [cmpS_gt (by omega)]))
                  have AE := hide (show (p.take (k + 1)).any (fun x => inB x y) = false by
                    rw [AT.out, show inB x y = false from Bool.eq_false_iff.2 (fun e => h2 ((in_iff x y).1 e).2)]; rfl)
                  clear AT h1 h2 sz sz2
                  go_wp2_with fail
                  refine wp_region_quiet (C := HPc w (.slice pf F.length cf) F g y) (by kernel_rfl) (by kernel_rfl) HB.drew (wpQuiet_step (fun K0 hK0 => ?_))
                  go_simp
                  first | (with_reducible refine hK0 _ (wpQuiet_step (fun K1 hK1 => ?_))) | (with_reducible refine ⟨_, fun _ _ => rfl, hK0 _ (wpQuiet_step (fun K1 hK1 => ?_))⟩) | (rw [if_neg (by intro e; cases e)]; with_reducible refine hK0 _ (wpQuiet_step (fun K1 hK1 => ?_)))
                  clear hK0 K0
                  go_simp
                  first | (with_reducible refine hK1 _ (wpQuiet_step (fun K0 hK0 => ?_))) | (with_reducible refine ⟨_, fun _ _ => rfl, hK1 _ (wpQuiet_step (fun K0 hK0 => ?_))⟩) | (rw [if_neg (by intro e; cases e)]; with_reducible refine hK1 _ (wpQuiet_step (fun K0 hK0 => ?_)))
                  clear hK1 K1
                  go_simp
                  first | (with_reducible refine hK0 _ (wpQuiet_step (fun K1 hK1 => ?_))) | (with_reducible refine ⟨_, fun _ _ => rfl, hK0 _ (wpQuiet_step (fun K1 hK1 => ?_))⟩) | (rw [if_neg (by intro e; cases e)]; with_reducible refine hK0 _ (wpQuiet_step (fun K1 hK1 => ?_)))
                  clear hK0 K0
                  go_simp
                  first | (with_reducible refine hK1 _ (wpQuiet_step (fun K0 hK0 => ?_))) | (with_reducible refine ⟨_, fun _ _ => rfl, hK1 _ (wpQuiet_step (fun K0 hK0 => ?_))⟩) | (rw [if_neg (by intro e; cases e)]; with_reducible refine hK1 _ (wpQuiet_step (fun K0 hK0 => ?_)))
                  clear hK1 K1
                  go_simp
                  first | (with_reducible refine hK0 _ (wpQuiet_step (fun K1 hK1 => ?_))) | (with_reducible refine ⟨_, fun _ _ => rfl, hK0 _ (wpQuiet_step (fun K1 hK1 => ?_))⟩) | (rw [if_neg (by intro e; cases e)]; with_reducible refine hK0 _ (wpQuiet_step (fun K1 hK1 => ?_)))
                  clear hK0 K0
                  go_simp
                  first | (with_reducible refine hK1 _ (wpQuiet_step (fun K0 hK0 => ?_))) | (with_reducible refine ⟨_, fun _ _ => rfl, hK1 _ (wpQuiet_step (fun K0 hK0 => ?_))⟩) | (rw [if_neg (by intro e; cases e)]; with_reducible refine hK1 _ (wpQuiet_step (fun K0 hK0 => ?_)))
                  clear hK1 K1
                  go_simp
                  refine ⟨A x.1, fun W hW => ?_, hK0 _ (wpQuiet_step (fun K1 hK1 => ?_))⟩
                  · ((obtain ⟨_, _, e, _, u0, u1, u2, u3⟩ := RX.out W hW; cases e; simp [go_sem, u0, u1]))
                  clear hK0 K0
                  go_simp
                  refine ⟨A y, fun W hW => ?_, hK1 _ (wpQuiet_step (fun K0 hK0 => ?_))⟩
                  · ((obtain ⟨_, _, _, u0, u1, _, _⟩ := id hW; simp [go_sem, u0, u1]))
                  clear hK1 K1
                  go_simp
                  refine ⟨.int .i64 z, fun W hW => ?_, hK0 _ (wpQuiet_step (fun K1 hK1 => ?_))⟩
                  · exact (CM1.out W).mono fun e w2 ⟨he, hb⟩ => ⟨he, HPc.step hW hb⟩
                  clear hK0 K0
                  go_simp
                  first | (with_reducible refine hK1 _ (wpQuiet_step (fun K0 hK0 => ?_))) | (with_reducible refine ⟨_, fun _ _ => rfl, hK1 _ (wpQuiet_step (fun K0 hK0 => ?_))⟩) | (rw [if_neg (by intro e; cases e)]; with_reducible refine hK1 _ (wpQuiet_step (fun K0 hK0 => ?_)))
                  clear hK1 K1
                  go_simp
                  first | (with_reducible refine hK0 _ (wpQuiet_step (fun K1 hK1 => ?_))) | (with_reducible refine ⟨_, fun _ _ => rfl, hK0 _ (wpQuiet_step (fun K1 hK1 => ?_))⟩) | (rw [if_neg (by intro e; cases e)]; with_reducible refine hK0 _ (wpQuiet_step (fun K1 hK1 => ?_)))
                  clear hK0 K0
                  go_simp
                  refine ⟨A y, fun W hW => ?_, hK1 _ (wpQuiet_step (fun K0 hK0 => ?_))⟩
                  · ((obtain ⟨_, _, _, u0, u1, _, _⟩ := id hW; simp [go_sem, u0, u1]))
                  clear hK1 K1
                  go_simp
                  first | (with_reducible refine hK0 _ (wpQuiet_step (fun K1 hK1 => ?_))) | (with_reducible refine ⟨_, fun _ _ => rfl, hK0 _ (wpQuiet_step (fun K1 hK1 => ?_))⟩) | (rw [if_neg (by intro e; cases e)]; with_reducible refine hK0 _ (wpQuiet_step (fun K1 hK1 => ?_)))
                  clear hK0 K0
                  go_simp
                  first | (with_reducible refine hK1 _ (wpQuiet_step (fun K0 hK0 => ?_))) | (with_reducible refine ⟨_, fun _ _ => rfl, hK1 _ (wpQuiet_step (fun K0 hK0 => ?_))⟩) | (rw [if_neg (by intro e; cases e)]; with_reducible refine hK1 _ (wpQuiet_step (fun K0 hK0 => ?_)))
                  clear hK1 K1
                  go_simp
                  first | (with_reducible refine hK0 _ (wpQuiet_step (fun K1 hK1 => ?_))) | (with_reducible refine ⟨_, fun _ _ => rfl, hK0 _ (wpQuiet_step (fun K1 hK1 => ?_))⟩) | (rw [if_neg (by intro e; cases e)]; with_reducible refine hK0 _ (wpQuiet_step (fun K1 hK1 => ?_)))
                  clear hK0 K0
                  go_simp
                  first | (with_reducible refine hK1 _ (wpQuiet_step (fun K0 hK0 => ?_))) | (with_reducible refine ⟨_, fun _ _ => rfl, hK1 _ (wpQuiet_step (fun K0 hK0 => ?_))⟩) | (rw [if_neg (by intro e; cases e)]; with_reducible refine hK1 _ (wpQuiet_step (fun K0 hK0 => ?_)))
                  clear hK1 K1
                  go_simp
                  refine ⟨A x.2, fun W hW => ?_, hK0 _ (wpQuiet_step (fun K1 hK1 => ?_))⟩
                  · ((obtain ⟨_, _, e, _, u0, u1, u2, u3⟩ := RX.out W hW; cases e; simp [go_sem, u2, u3]))
                  clear hK0 K0
                  go_simp
                  refine ⟨.int .i64 1, fun W hW => ?_, hK1 _ (wpQuiet_step (fun K0 hK0 => ?_))⟩
                  · exact (CM2.out W).mono fun e w2 ⟨he, hb⟩ => ⟨he, HPc.step hW hb⟩
                  clear hK1 K1
                  go_simp
                  first | (with_reducible refine hK0 _ (wpQuiet_step (fun K1 hK1 => ?_))) | (with_reducible refine ⟨_, fun _ _ => rfl, hK0 _ (wpQuiet_step (fun K1 hK1 => ?_))⟩) | (rw [if_neg (by intro e; cases e)]; with_reducible refine hK0 _ (wpQuiet_step (fun K1 hK1 => ?_)))
                  clear hK0 K0
                  go_simp
                  first | (with_reducible refine hK1 _ (wpQuiet_step (fun K0 hK0 => ?_))) | (with_reducible refine ⟨_, fun _ _ => rfl, hK1 _ (wpQuiet_step (fun K0 hK0 => ?_))⟩) | (rw [if_neg (by intro e; cases e)]; with_reducible refine hK1 _ (wpQuiet_step (fun K0 hK0 => ?_)))
                  clear hK1 K1
                  go_simp
                  first | (with_reducible refine hK0 _ (wpQuiet_step (fun K1 hK1 => ?_))) | (with_reducible refine ⟨_, fun _ _ => rfl, hK0 _ (wpQuiet_step (fun K1 hK1 => ?_))⟩) | (rw [if_neg (by intro e; cases e)]; with_reducible refine hK0 _ (wpQuiet_step (fun K1 hK1 => ?_)))
                  clear hK0 K0
                  go_simp
                  first | (with_reducible refine hK1 _ (wpQuiet_nil ?_)) | (with_reducible refine ⟨_, fun _ _ => rfl, hK1 _ (wpQuiet_nil ?_)⟩) | (rw [if_neg (by intro e; cases e)]; with_reducible refine hK1 _ (wpQuiet_nil ?_))
                  clear hK1 K1
                  intro w7 H7
                  go_wp2
                  go_roundw
                  case rel => exact ⟨k + 1, hlt, by go_num, congrArg Value.bool AE.out.symm, H7⟩
                  case measure => simp [intOf]; omega
              · have CM1 := hide (fun W => via (cmp_any x.1 y W) (v' := .int .i64 1) (by rw [cmpS_gt (by omega)]))
                have AE := hide (show (p.take (k + 1)).any (fun x => inB x y) = false by
                  rw [AT.out, show inB x y = false from Bool.eq_false_iff.2 (fun e => h1 ((in_iff x y).1 e).1)]; rfl)
                clear AT h1 sz sz2 CM2
                go_wp2_with fail
                refine wp_region_quiet (C := HPc w (.slice pf F.length cf) F g y) (by kernel_rfl) (by kernel_rfl) HB.drew (wpQuiet_step (fun K0 hK0 => ?_))
                go_simp
                first | (with_reducible refine hK0 _ (wpQuiet_step (fun K1 hK1 => ?_))) | (with_reducible refine ⟨_, fun _ _ => rfl, hK0 _ (wpQuiet_step (fun K1 hK1 => ?_))⟩) | (rw [if_neg (by intro e; cases e)]; with_reducible refine hK0 _ (wpQuiet_step (fun K1 hK1 => ?_)))
                clear hK0 K0
                go_simp
                first | (with_reducible refine hK1 _ (wpQuiet_step (fun K0 hK0 => ?_))) | (with_reducible refine ⟨_, fun _ _ => rfl, hK1 _ (wpQuiet_step (fun K0 hK0 => ?_))⟩) | (rw [if_neg (by intro e; cases e)]; with_reducible refine hK1 _ (wpQuiet_step (fun K0 hK0 => ?_)))
                clear hK1 K1
                go_simp
                first | (with_reducible refine hK0 _ (wpQuiet_step (fun K1 hK1 => ?_))) | (with_reducible refine ⟨_, fun _ _ => rfl, hK0 _ (wpQuiet_step (fun K1 hK1 => ?_))⟩) | (rw [if_neg (by intro e; cases e)]; with_reducible refine hK0 _ (wpQuiet_step (fun K1 hK1 => ?_)))
                clear hK0 K0
                go_simp
                first | (with_reducible refine hK1 _ (wpQuiet_step (fun K0 hK0 => ?_))) | (with_reducible refine ⟨_, fun _ _ => rfl, hK1 _ (wpQuiet_step (fun K0 hK0 => ?_))⟩) | (rw [if_neg (by intro e; cases e)]; with_reducible refine hK1 _ (wpQuiet_step (fun K0 hK0 => ?_)))
                clear hK1 K1
                go_simp
                first | (with_reducible refine hK0 _ (wpQuiet_step (fun K1 hK1 => ?_))) | (with_reducible refine ⟨_, fun _ _ => rfl, hK0 _ (wpQuiet_step (fun K1 hK1 => ?_))⟩) | (rw [if_neg (by intro e; cases e)]; with_reducible refine hK0 _ (wpQuiet_step (fun K1 hK1 => ?_)))
                clear hK0 K0
                go_simp
                first | (with_reducible refine hK1 _ (wpQuiet_step (fun K0 hK0 => ?_))) | (with_reducible refine ⟨_, fun _ _ => rfl, hK1 _ (wpQuiet_step (fun K0 hK0 => ?_))⟩) | (rw [if_neg (by intro e; cases e)]; with_reducible refine hK1 _ (wpQuiet_step (fun K0 hK0 => ?_)))
                clear hK1 K1
                go_simp
                refine ⟨A x.1, fun W hW => ?_, hK0 _ (wpQuiet_step (fun K1 hK1 => ?_))⟩
                · ((obtain ⟨_, _, e, _, u0, u1, u2, u3⟩ := RX.out W hW; cases e; simp [go_sem, u0, u1]))
                clear hK0 K0
                go_simp
                refine ⟨A y, fun W hW => ?_, hK1 _ (wpQuiet_step (fun K0 hK0 => ?_))⟩
                · ((obtain ⟨_, _, _, u0, u1, _, _⟩ := id hW; simp [go_sem, u0, u1]))
                clear hK1 K1
                go_simp
                refine ⟨.int .i64 1, fun W hW => ?_, hK0 _ (wpQuiet_step (fun K1 hK1 => ?_))⟩
                · exact (CM1.out W).mono fun e w2 ⟨he, hb⟩ => ⟨he, HPc.step hW hb⟩
                clear hK0 K0
                go_simp
                first | (with_reducible refine hK1 _ (wpQuiet_step (fun K0 hK0 => ?_))) | (with_reducible refine ⟨_, fun _ _ => rfl, hK1 _ (wpQuiet_step (fun K0 hK0 => ?_))⟩) | (rw [if_neg (by intro e; cases e)]; with_reducible refine hK1 _ (wpQuiet_step (fun K0 hK0 => ?_)))
                clear hK1 K1
                go_simp
                first | (with_reducible refine hK0 _ (wpQuiet_step (fun K1 hK1 => ?_))) | (with_reducible refine ⟨_, fun _ _ => rfl, hK0 _ (wpQuiet_step (fun K1 hK1 => ?_))⟩) | (rw [if_neg (by intro e; cases e)]; with_reducible refine hK0 _ (wpQuiet_step (fun K1 hK1 => ?_)))
                clear hK0 K0
                go_simp
                first | (with_reducible refine hK1 _ (wpQuiet_step (fun K0 hK0 => ?_))) | (with_reducible refine ⟨_, fun _ _ => rfl, hK1 _ (wpQuiet_step (fun K0 hK0 => ?_))⟩) | (rw [if_neg (by intro e; cases e)]; with_reducible refine hK1 _ (wpQuiet_step (fun K0 hK0 => ?_)))
                clear hK1 K1
                go_simp
                first | (with_reducible refine hK0 _ (wpQuiet_step (fun K1 hK1 => ?_))) | (with_reducible refine ⟨_, fun _ _ => rfl, hK0 _ (wpQuiet_step (fun K1 hK1 => ?_))⟩) | (rw [if_neg (by intro e; cases e)]; with_reducible refine hK0 _ (wpQuiet_step (fun K1 hK1 => ?_)))
                clear hK0 K0
                go_simp
                first | (with_reducible refine hK1 _ (wpQuiet_step (fun K0 hK0 => ?_))) | (with_reducible refine ⟨_, fun _ _ => rfl, hK1 _ (wpQuiet_step (fun K0 hK0 => ?_))⟩) | (rw [if_neg (by intro e; cases e)]; with_reducible refine hK1 _ (wpQuiet_step (fun K0 hK0 => ?_)))
                clear hK1 K1
                go_simp
                first | (with_reducible refine hK0 _ (wpQuiet_step (fun K1 hK1 => ?_))) | (with_reducible refine ⟨_, fun _ _ => rfl, hK0 _ (wpQuiet_step (fun K1 hK1 => ?_))⟩) | (rw [if_neg (by intro e; cases e)]; with_reducible refine hK0 _ (wpQuiet_step (fun K1 hK1 => ?_)))
                clear hK0 K0
                go_simp
                first | (with_reducible refine hK1 _ (wpQuiet_step (fun K0 hK0 => ?_))) | (with_reducible refine ⟨_, fun _ _ => rfl, hK1 _ (wpQuiet_step (fun K0 hK0 => ?_))⟩) | (rw [if_neg (by intro e; cases e)]; with_reducible refine hK1 _ (wpQuiet_step (fun K0 hK0 => ?_)))
                clear hK1 K1
                go_simp
                first | (with_reducible refine hK0 _ (wpQuiet_step (fun K1 hK1 => ?_))) | (with_reducible refine ⟨_, fun _ _ => rfl, hK0 _ (wpQuiet_step (fun K1 hK1 => ?_))⟩) | (rw [if_neg (by intro e; cases e)]; with_reducible refine hK0 _ (wpQuiet_step (fun K1 hK1 => ?_)))
                clear hK0 K0
                go_simp
                first | (with_reducible refine hK1 _ (wpQuiet_step (fun K0 hK0 => ?_))) | (with_reducible refine ⟨_, fun _ _ => rfl, hK1 _ (wpQuiet_step (fun K0 hK0 => ?_))⟩) | (rw [if_neg (by intro e; cases e)]; with_reducible refine hK1 _ (wpQuiet_step (fun K0 hK0 => ?_)))
                clear hK1 K1
                go_simp
                first | (with_reducible refine hK0 _ (wpQuiet_step (fun K1 hK1 => ?_))) | (with_reducible refine ⟨_, fun _ _ => rfl, hK0 _ (wpQuiet_step (fun K1 hK1 => ?_))⟩) | (rw [if_neg (by intro e; cases e)]; with_reducible refine hK0 _ (wpQuiet_step (fun K1 hK1 => ?_)))
                clear hK0 K0
                go_simp
                first | (with_reducible refine hK1 _ (wpQuiet_step (fun K0 hK0 => ?_))) | (with_reducible refine ⟨_, fun _ _ => rfl, hK1 _ (wpQuiet_step (fun K0 hK0 => ?_))⟩) | (rw [if_neg (by intro e; cases e)]; with_reducible refine hK1 _ (wpQuiet_step (fun K0 hK0 => ?_)))
                clear hK1 K1
                go_simp
                first | (with_reducible refine hK0 _ (wpQuiet_step (fun K1 hK1 => ?_))) | (with_reducible refine ⟨_, fun _ _ => rfl, hK0 _ (wpQuiet_step (fun K1 hK1 => ?_))⟩) | (rw [if_neg (by intro e; cases e)]; with_reducible refine hK0 _ (wpQuiet_step (fun K1 hK1 => ?_)))
                clear hK0 K0
                go_simp
                first | (with_reducible refine hK1 _ (wpQuiet_nil ?_)) | (with_reducible refine ⟨_, fun _ _ => rfl, hK1 _ (wpQuiet_nil ?_)⟩) | (rw [if_neg (by intro e; cases e)]; with_reducible refine hK1 _ (wpQuiet_nil ?_))
                clear hK1 K1
                intro w7 H7
                go_wp2
                go_roundw
                case rel => exact ⟨k + 1, hlt, by go_num, congrArg Value.bool AE.out.symm, H7⟩
                case measure => simp [intOf]; omega
          · have e : p.take k = p := List.take_of_length_le (by omega)
            have PA := hide (show (p.take k).any (fun x => inB x y) = true by rw [e]; exact AN.out)
            generalize (p.take k).any (fun x => inB x y) = A0 at *
            obtain rfl : A0 = true := PA.out
            clear e PA AN HV
            go_wp2
            go_loopw [15] (fun i wr => ∃ k : Nat, k ≤ t.length ∧ i = .int .i64 (k : Nat) ∧ HPc w (.slice pf F.length cf) F g y wr) (fun i _ => t.length - (intOf i).toNat)
            case atStart => exact ⟨0, Nat.zero_le _, rfl, HB⟩
            case round =>
              obtain ⟨k2, hk2, rfl, HC⟩ := hrel
              clear HB
              by_cases hlt2 : k2 < t.length
              · obtain ⟨x, hx⟩ := getA_some hlt2
                have RX := hide (fun W (H : HPc w (.slice pf F.length cf) F g y W) => lstA_at (HU.out W H.1) hx)
                obtain ⟨bx, ox, e, _⟩ := RX.out _ HC
                subst e
                have DN := hide (addr_ne (N1.out k2 x hx))
                clear hx
                go_wp2_with fail
                refine wp_region_quiet (C := HPc w (.slice pf F.length cf) F g y) (by kernel_rfl) (by kernel_rfl) HC.drew (wpQuiet_step (fun K0 hK0 => ?_))
                go_simp
                first | (with_reducible refine hK0 _ (wpQuiet_step (fun K1 hK1 => ?_))) | (with_reducible refine ⟨_, fun _ _ => rfl, hK0 _ (wpQuiet_step (fun K1 hK1 => ?_))⟩) | (rw [if_neg (by intro e; cases e)]; with_reducible refine hK0 _ (wpQuiet_step (fun K1 hK1 => ?_)))
                clear hK0 K0
                go_simp
                first | (with_reducible refine hK1 _ (wpQuiet_step (fun K0 hK0 => ?_))) | (with_reducible refine ⟨_, fun _ _ => rfl, hK1 _ (wpQuiet_step (fun K0 hK0 => ?_))⟩) | (rw [if_neg (by intro e; cases e)]; with_reducible refine hK1 _ (wpQuiet_step (fun K0 hK0 => ?_)))
                clear hK1 K1
                go_simp
                first | (with_reducible refine hK0 _ (wpQuiet_step (fun K1 hK1 => ?_))) | (with_reducible refine ⟨_, fun _ _ => rfl, hK0 _ (wpQuiet_step (fun K1 hK1 => ?_))⟩) | (rw [if_neg (by intro e; cases e)]; with_reducible refine hK0 _ (wpQuiet_step (fun K1 hK1 => ?_)))
                clear hK0 K0
                go_simp
                refine ⟨A x, fun W hW => ?_, hK1 _ (wpQuiet_step (fun K0 hK0 => ?_))⟩
                · ((obtain ⟨_, _, e, _, u0, u1⟩ := RX.out W hW; cases e; simp [go_sem, u0, u1]))
                clear hK1 K1
                go_simp
                refine ⟨A y, fun W hW => ?_, hK0 _ (wpQuiet_step (fun K1 hK1 => ?_))⟩
                · ((obtain ⟨_, _, _, u0, u1, _, _⟩ := id hW; simp [go_sem, u0, u1]))
                clear hK0 K0
                go_simp
                refine ⟨.bool false, fun W hW => ?_, hK1 _ (wpQuiet_nil ?_)⟩
                · ((rcases DN.out with h1 | ⟨h1, h2⟩; (rw [if_neg (by omega)]; exact ⟨rfl, rfl⟩); (rw [if_pos (by omega), if_neg (by omega)]; exact ⟨rfl, rfl⟩)))
                clear hK1 K1
                intro w7 H7
                go_wp2
                go_roundw
                case rel => exact ⟨k2 + 1, hlt2, by go_num, H7⟩
                case measure => simp [intOf]; omega
              · obtain ⟨_, _, _, u0, u1, _, _⟩ := id HC
                go_wp2_with fail
                refine (HA1.out _ _ HC.2.1).mono ?_
                rintro e w9 ⟨rfl, hb9⟩
                have HB9 := chain HC.1 hb9
                clear u0 u1 HC
                go_wp2
                go_ret
                exact ⟨rfl, HB9⟩
end Go.Proofs.Ytfmhpnendcikoaa
