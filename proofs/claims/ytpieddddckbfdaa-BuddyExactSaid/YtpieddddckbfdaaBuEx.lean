/-
  The walk of BuddyExact: it returns true. Condition: the words are words of 64 bits, the ints ints of 64 bits (every value of the types is such).
-/
import Derived.Test.YtpieddddckbfdaaBuRt
import Derived.Test.YtpieddddckbfdaaBuRu
import Derived.Test.YtpieddddckbfdaaBuRf
import Derived.Test.YtpieddddckbfdaaBuMy
namespace Go.Proofs.Ytpieddddckbfdaa
open Go.RowKit Go.Joins

theorem free_len (p : Bk) (l : List Bk) : (freeL p l).1.length ≤ 128 * l.length + 1 := by
  rcases free_cases p l with ⟨n, h, _⟩ | ⟨F, h, _, _, _, h5, _⟩
  · rw [h]; simp
  · rw [h]; exact h5
theorem bool_ne (g : Bool) : (g != g) = false := by cases g <;> rfl
/-- two boxes, a list, two boxes and two lists more -/
def HX2 (w : World) (p b : Bk) (v : Value) (l : List Bk) (g : Nat) (P : Bk) (va : Value) (X : List Bk) (W : World) : Prop := HE w p b v l W ∧ Box g P W ∧ Lst va X W
theorem HX2.step {w : World} {p b : Bk} {v : Value} {l : List Bk} {g : Nat} {P : Bk} {va : Value} {X : List Bk} {W w2 : World} (h : HX2 w p b v l g P va X W) (hb : Below W.heap.size W w2) : HX2 w p b v l g P va X w2 := ⟨h.1.step hb, h.2.1.step hb, h.2.2.step hb⟩

set_option maxRecDepth 100000 in
set_option maxHeartbeats 4000000 in
theorem exact_any {v : Value} {p b : Bk} {l : List Bk} (fp : FitB p) (fb : FitB b) (hf : FitL l) (w : World) (hv : Lst v l w) :
    Calls Try.prog 3 #[Bv p, v, Bv b] w (Gives (.bool true) w) := by
  have AW := hide (fun W => awake_any W)
  have H0 := he_new w p b hv
  obtain ⟨q, c, rfl⟩ := lst_len hv
  clear hv
  by_cases hl : 40 < l.length
  · go_enter Try.func3, Try.ntmps3
    go_wp2_with fail
    refine (AW.out _).mono ?_
    rintro e w1 ⟨rfl, hb1⟩
    have H1 := H0.step hb1
    clear H0 hb1
    go_wp2
    go_ret
    exact ⟨rfl, H1.1.1⟩
  have nl : l.length ≤ 40 := by omega
  obtain ⟨X1, P1, E1, hT⟩ : ∃ X P E, takeL p l b.2 = (X, P, E) := ⟨_, _, _, rfl⟩
  obtain ⟨R1, E2, hR⟩ : ∃ R E, reserveL p l b = (R, E) := ⟨_, _, rfl⟩
  obtain ⟨G1, E3, hG⟩ : ∃ R E, giveL p l b = (R, E) := ⟨_, _, rfl⟩
  obtain ⟨F1, E4, hF⟩ : ∃ R E, freeL p l = (R, E) := ⟨_, _, rfl⟩
  have lX := take_len p l b.2
  have lR := reserve_len p l b
  have lG := give_len p l b
  have lF := free_len p l
  rw [hT] at lX
  rw [hR] at lR
  rw [hG] at lG
  rw [hF] at lF
  simp only at lX lR lG lF
  have TK := hide (fun W v (H : Lst v l W) => take_any (bits := b.2) fp hf (show l.length ≤ 100000 by omega) W H)
  have TR := hide (fun W v (H : Lst v l W) => rtake_any (bits := b.2) fp fb.2 hf (show l.length ≤ 1000 by omega) W H)
  have RV := hide (fun W v (H : Lst v l W) => reserve_any fp fb hf (show l.length ≤ 100000 by omega) W H)
  have RR := hide (fun W v (H : Lst v l W) => rreserve_any fp fb hf (show l.length ≤ 1000 by omega) W H)
  have GV := hide (fun W v (H : Lst v l W) => give_any fp fb hf (show l.length ≤ 100000 by omega) W H)
  have GR := hide (fun W v (H : Lst v l W) => rgive_any fp fb hf (show l.length ≤ 1000 by omega) W H)
  have FV := hide (fun W v (H : Lst v l W) => free_any fp hf (show l.length ≤ 200 by omega) W H)
  have FR := hide (fun W v (H : Lst v l W) => rfree_any fp hf (show l.length ≤ 1000 by omega) W H)
  have GD := hide (fun W v (H : Lst v l W) => good_any fp hf (show l.length ≤ 1000000 by omega) W H)
  have GE := hide (fun W v (H : Lst v l W) => rgood_any fp hf (show l.length ≤ 1000000 by omega) W H)
  have FT := hide (fun W v (H : Lst v l W) => fits_any (show l.length ≤ 1000000 by omega) b.2 W H)
  have FU := hide (fun W v (H : Lst v l W) => rfits_any (show l.length ≤ 1000000 by omega) b.2 W H)
  rw [hT] at TK TR
  rw [hR] at RV RR
  rw [hG] at GV GR
  rw [hF] at FV FR
  clear hT hR hG hF
  generalize goodL p l = gd at *
  generalize fitsL l b.2 = ft at *
  have SX := hide (fun W v u (H : Lst v X1 W) (K : Lst u X1 W) => same_yes rfl (show X1.length ≤ 1000000 by omega) W H K)
  have SR := hide (fun W v u (H : Lst v R1 W) (K : Lst u R1 W) => same_yes rfl (show R1.length ≤ 1000000 by omega) W H K)
  have SG := hide (fun W v u (H : Lst v G1 W) (K : Lst u G1 W) => same_yes rfl (show G1.length ≤ 1000000 by omega) W H K)
  have SF := hide (fun W v u (H : Lst v F1 W) (K : Lst u F1 W) => same_yes rfl (show F1.length ≤ 1000000 by omega) W H K)
  have NG := bool_ne gd
  have NF := bool_ne ft
  go_enter Try.func3, Try.ntmps3
  go_wp2_with fail
  refine (AW.out _).mono ?_
  rintro e w1 ⟨rfl, hb1⟩
  have H1 := H0.step hb1
  clear H0 hb1 AW
  go_wp2_with fail
  refine wp_region_quiet (C := HE w p b (.slice q l.length c) l) (by kernel_rfl) (by kernel_rfl) (H1.step (Below.refl _ _).drew) (wpQuiet_step (fun K0 hK0 => ?_))
  go_simp
  refine ⟨Bv p, fun W hW => ?_, hK0 _ (wpQuiet_step (fun K1 hK1 => ?_))⟩
  · ((obtain ⟨_, ⟨u0, u1, u2⟩, _⟩ := hW.1.all; simp [go_sem, u0, u1, u2]))
  clear hK0 K0
  go_simp
  first | (with_reducible refine hK1 _ (wpQuiet_step (fun K0 hK0 => ?_))) | (with_reducible refine ⟨_, fun _ _ => rfl, hK1 _ (wpQuiet_step (fun K0 hK0 => ?_))⟩) | (rw [if_neg (by intro e; cases e)]; with_reducible refine hK1 _ (wpQuiet_step (fun K0 hK0 => ?_)))
  clear hK1 K1
  go_simp
  refine ⟨.bool gd, fun W hW => ?_, hK0 _ (wpQuiet_step (fun K1 hK1 => ?_))⟩
  · exact (GD.out W _ hW.2).mono fun e w2 ⟨he, hb⟩ => ⟨he, HE.step hW hb⟩
  clear hK0 K0
  go_simp
  refine ⟨Bv p, fun W hW => ?_, hK1 _ (wpQuiet_step (fun K0 hK0 => ?_))⟩
  · ((obtain ⟨_, ⟨u0, u1, u2⟩, _⟩ := hW.1.all; simp [go_sem, u0, u1, u2]))
  clear hK1 K1
  go_simp
  first | (with_reducible refine hK0 _ (wpQuiet_step (fun K1 hK1 => ?_))) | (with_reducible refine ⟨_, fun _ _ => rfl, hK0 _ (wpQuiet_step (fun K1 hK1 => ?_))⟩) | (rw [if_neg (by intro e; cases e)]; with_reducible refine hK0 _ (wpQuiet_step (fun K1 hK1 => ?_)))
  clear hK0 K0
  go_simp
  refine ⟨.bool gd, fun W hW => ?_, hK1 _ (wpQuiet_step (fun K0 hK0 => ?_))⟩
  · exact (GE.out W _ hW.2).mono fun e w2 ⟨he, hb⟩ => ⟨he, HE.step hW hb⟩
  clear hK1 K1
  go_simp
  first | (with_reducible refine hK0 _ (wpQuiet_step (fun K1 hK1 => ?_))) | (with_reducible refine ⟨_, fun _ _ => rfl, hK0 _ (wpQuiet_step (fun K1 hK1 => ?_))⟩) | (rw [if_neg (by intro e; cases e)]; with_reducible refine hK0 _ (wpQuiet_step (fun K1 hK1 => ?_)))
  clear hK0 K0
  go_simp
  first | (with_reducible refine hK1 _ (wpQuiet_step (fun K0 hK0 => ?_))) | (with_reducible refine ⟨_, fun _ _ => rfl, hK1 _ (wpQuiet_step (fun K0 hK0 => ?_))⟩) | (rw [if_neg (by intro e; cases e)]; with_reducible refine hK1 _ (wpQuiet_step (fun K0 hK0 => ?_)))
  clear hK1 K1
  go_simp
  first | (with_reducible refine hK0 _ (wpQuiet_step (fun K1 hK1 => ?_))) | (with_reducible refine ⟨_, fun _ _ => rfl, hK0 _ (wpQuiet_step (fun K1 hK1 => ?_))⟩) | (rw [if_neg (by intro e; cases e)]; with_reducible refine hK0 _ (wpQuiet_step (fun K1 hK1 => ?_)))
  clear hK0 K0
  go_simp
  first | (with_reducible refine hK1 _ (wpQuiet_step (fun K0 hK0 => ?_))) | (with_reducible refine ⟨_, fun _ _ => rfl, hK1 _ (wpQuiet_step (fun K0 hK0 => ?_))⟩) | (rw [if_neg (by intro e; cases e)]; with_reducible refine hK1 _ (wpQuiet_step (fun K0 hK0 => ?_)))
  clear hK1 K1
  go_simp
  refine ⟨.int .i64 b.2, fun W hW => ?_, hK0 _ (wpQuiet_step (fun K1 hK1 => ?_))⟩
  · ((obtain ⟨_, _, ⟨u0, u1, u2⟩⟩ := hW.1.all; simp [go_sem, u2]))
  clear hK0 K0
  go_simp
  refine ⟨.bool ft, fun W hW => ?_, hK1 _ (wpQuiet_step (fun K0 hK0 => ?_))⟩
  · exact (FT.out W _ hW.2).mono fun e w2 ⟨he, hb⟩ => ⟨he, HE.step hW hb⟩
  clear hK1 K1
  go_simp
  first | (with_reducible refine hK0 _ (wpQuiet_step (fun K1 hK1 => ?_))) | (with_reducible refine ⟨_, fun _ _ => rfl, hK0 _ (wpQuiet_step (fun K1 hK1 => ?_))⟩) | (rw [if_neg (by intro e; cases e)]; with_reducible refine hK0 _ (wpQuiet_step (fun K1 hK1 => ?_)))
  clear hK0 K0
  go_simp
  first | (with_reducible refine hK1 _ (wpQuiet_step (fun K0 hK0 => ?_))) | (with_reducible refine ⟨_, fun _ _ => rfl, hK1 _ (wpQuiet_step (fun K0 hK0 => ?_))⟩) | (rw [if_neg (by intro e; cases e)]; with_reducible refine hK1 _ (wpQuiet_step (fun K0 hK0 => ?_)))
  clear hK1 K1
  go_simp
  refine ⟨.int .i64 b.2, fun W hW => ?_, hK0 _ (wpQuiet_step (fun K1 hK1 => ?_))⟩
  · ((obtain ⟨_, _, ⟨u0, u1, u2⟩⟩ := hW.1.all; simp [go_sem, u2]))
  clear hK0 K0
  go_simp
  refine ⟨.bool ft, fun W hW => ?_, hK1 _ (wpQuiet_step (fun K0 hK0 => ?_))⟩
  · exact (FU.out W _ hW.2).mono fun e w2 ⟨he, hb⟩ => ⟨he, HE.step hW hb⟩
  clear hK1 K1
  go_simp
  first | (with_reducible refine hK0 _ (wpQuiet_step (fun K1 hK1 => ?_))) | (with_reducible refine ⟨_, fun _ _ => rfl, hK0 _ (wpQuiet_step (fun K1 hK1 => ?_))⟩) | (rw [if_neg (by intro e; cases e)]; with_reducible refine hK0 _ (wpQuiet_step (fun K1 hK1 => ?_)))
  clear hK0 K0
  go_simp
  first | (with_reducible refine hK1 _ (wpQuiet_nil ?_)) | (with_reducible refine ⟨_, fun _ _ => rfl, hK1 _ (wpQuiet_nil ?_)⟩) | (rw [if_neg (by intro e; cases e)]; with_reducible refine hK1 _ (wpQuiet_nil ?_))
  clear hK1 K1
  intro w2 H2
  clear H1 GD GE FT FU
  obtain ⟨z, ⟨x1, x2, x3⟩, ⟨y1, y2, y3⟩⟩ := H2.1.all
  go_wp2_with fail
  clear z x1 x2 x3 y1 y2 y3 NG NF
  -- Take
  refine (TK.out _ _ H2.2).mono ?_
  rintro e w3 ⟨v3, rfl, hb3, O3⟩
  obtain ⟨p3, c3, rfl⟩ := lst_len (own_lst O3)
  have bA := below_alloc w3 (.cells #[.int .u64 (hi P1.1 : Nat), .int .u64 (lo P1.1 : Nat), .int .i64 P1.2] 26)
  have H3 : HX2 w p b (.slice q l.length c) l w3.heap.size P1 (.slice p3 X1.length c3) X1 (w3.alloc (.cells #[.int .u64 (hi P1.1 : Nat), .int .u64 (lo P1.1 : Nat), .int .i64 P1.2] 26)) := ⟨(H2.step hb3).step bA, box_new _ _ _, (own_lst O3).step bA⟩
  clear H2 hb3 O3 bA TK
  obtain ⟨z, ⟨x1, x2, x3⟩, ⟨y1, y2, y3⟩⟩ := H3.1.1.all
  go_wp2_with fail
  clear z x1 x2 x3 y1 y2 y3
  generalize w3.alloc (.cells #[.int .u64 (hi P1.1 : Nat), .int .u64 (lo P1.1 : Nat), .int .i64 P1.2] 26) = V3 at *
  generalize w3.heap.size = g3 at *
  refine (TR.out _ _ H3.1.2).mono ?_
  rintro e w4 ⟨v4, rfl, hb4, O4⟩
  obtain ⟨p4, c4, rfl⟩ := lst_len (own_lst O4)
  have bA := below_alloc w4 (.cells #[.int .u64 (hi P1.1 : Nat), .int .u64 (lo P1.1 : Nat), .int .i64 P1.2] 26)
  have H4 := (H3.step hb4).step bA
  have Q4 := box_new w4 P1 26
  have L4 := (own_lst O4).step bA
  clear H3 hb4 O4 bA TR
  go_wp2_with fail
  generalize w4.alloc (.cells #[.int .u64 (hi P1.1 : Nat), .int .u64 (lo P1.1 : Nat), .int .i64 P1.2] 26) = V4 at *
  generalize w4.heap.size = g4 at *
  refine (SX.out _ _ _ H4.2.2 L4).mono ?_
  rintro e w5 ⟨rfl, hb5⟩
  have H5 := H4.step hb5
  have Q5 := Q4.step hb5
  clear H4 Q4 L4 hb5 SX
  obtain ⟨z, ⟨x1, x2, x3⟩, ⟨y1, y2, y3⟩⟩ := H5.1.1.all
  obtain ⟨i1, ⟨i2, i3, i4⟩, _⟩ := H5.2.1.all
  obtain ⟨j1, ⟨j2, j3, j4⟩, _⟩ := Q5.all
  have NE := fun W => neq_run P1 P1 W
  rw [decide_eq_true rfl] at NE
  have EE : (E1 != E1) = false := by simp
  go_wp2_with fail
  clear z x1 x2 x3 y1 y2 y3 i1 i2 i3 i4 j1 j2 j3 j4 NE EE
  have K5 := H5.1
  clear H5 Q5
  refine (RV.out _ _ K5.2).mono ?_
  rintro e w6x ⟨v1, rfl, hb1, O1⟩
  obtain ⟨p1, c1, rfl⟩ := lst_len (own_lst O1)
  have L1 := own_lst O1
  have K6 := K5.step hb1
  clear K5 hb1 O1 RV
  obtain ⟨z, ⟨x1, x2, x3⟩, ⟨y1, y2, y3⟩⟩ := K6.1.all
  go_wp2_with fail
  clear z x1 x2 x3 y1 y2 y3
  refine (RR.out _ _ K6.2).mono ?_
  rintro e w7x ⟨v2, rfl, hb2, O2⟩
  obtain ⟨p2, c2, rfl⟩ := lst_len (own_lst O2)
  have L2 := own_lst O2
  have M2 := L1.step hb2
  have K7 := K6.step hb2
  clear K6 hb2 O2 L1 RR
  go_wp2_with fail
  refine (SR.out _ _ _ M2 L2).mono ?_
  rintro e w8x ⟨rfl, hb3⟩
  have K8 := K7.step hb3
  clear K7 hb3 L2 M2 SR
  have EE : (E2 != E2) = false := by simp
  obtain ⟨z, ⟨x1, x2, x3⟩, ⟨y1, y2, y3⟩⟩ := K8.1.all
  go_wp2_with fail
  clear z x1 x2 x3 y1 y2 y3 EE
  refine (GV.out _ _ K8.2).mono ?_
  rintro e w9x ⟨v1, rfl, hb1, O1⟩
  obtain ⟨p1, c1, rfl⟩ := lst_len (own_lst O1)
  have L1 := own_lst O1
  have K9 := K8.step hb1
  clear K8 hb1 O1 GV
  obtain ⟨z, ⟨x1, x2, x3⟩, ⟨y1, y2, y3⟩⟩ := K9.1.all
  go_wp2_with fail
  clear z x1 x2 x3 y1 y2 y3
  refine (GR.out _ _ K9.2).mono ?_
  rintro e wax ⟨v2, rfl, hb2, O2⟩
  obtain ⟨p2, c2, rfl⟩ := lst_len (own_lst O2)
  have L2 := own_lst O2
  have M2 := L1.step hb2
  have Ka := K9.step hb2
  clear K9 hb2 O2 L1 GR
  go_wp2_with fail
  refine (SG.out _ _ _ M2 L2).mono ?_
  rintro e wbx ⟨rfl, hb3⟩
  have Kb := Ka.step hb3
  clear Ka hb3 L2 M2 SG
  have EE : (E3 != E3) = false := by simp
  obtain ⟨z, ⟨x1, x2, x3⟩, ⟨y1, y2, y3⟩⟩ := Kb.1.all
  go_wp2_with fail
  clear z x1 x2 x3 y1 y2 y3 EE
  refine (FV.out _ _ Kb.2).mono ?_
  rintro e wdx ⟨v1, rfl, hb1, O1⟩
  obtain ⟨p1, c1, rfl⟩ := lst_len (own_lst O1)
  have L1 := own_lst O1
  have Kd := Kb.step hb1
  clear Kb hb1 O1 FV
  obtain ⟨z, ⟨x1, x2, x3⟩, ⟨y1, y2, y3⟩⟩ := Kd.1.all
  go_wp2_with fail
  clear z x1 x2 x3 y1 y2 y3
  refine (FR.out _ _ Kd.2).mono ?_
  rintro e wex ⟨v2, rfl, hb2, O2⟩
  obtain ⟨p2, c2, rfl⟩ := lst_len (own_lst O2)
  have L2 := own_lst O2
  have M2 := L1.step hb2
  have Ke := Kd.step hb2
  clear Kd hb2 O2 L1 FR
  go_wp2_with fail
  refine (SF.out _ _ _ M2 L2).mono ?_
  rintro e wfx ⟨rfl, hb3⟩
  have Kf := Ke.step hb3
  clear Ke hb3 L2 M2 SF
  have EE : (E4 == E4) = true := by simp
  have HB := Kf.1.1
  go_wp2
  go_ret
  exact ⟨rfl, HB⟩
end Go.Proofs.Ytpieddddckbfdaa
