/-
  The walk of SpanMemory: it returns true. Condition: the words are words of 64 bits (every value of the types is such).
-/
import Derived.Test.YtbgkeeodeggleaaSpanMe
namespace Go.Proofs.Ytbgkeeodeggleaa
open Go.RowKit Go.Joins

set_option maxRecDepth 100000 in
set_option maxHeartbeats 1000000 in
theorem memory_any {v : Value} {l : List Rg} {r : Rg} (hf : FitL l) (fr : FitR r) (w : World) (hv : Lst v l w) :
    Calls Try.prog 9 #[v, RV r] w (Gives (.bool true) w) := by
  obtain ⟨i0, hi0, hz0, hz1, hz2⟩ := info_parts infoR
  obtain ⟨p, c, rfl⟩ := lst_len hv
  have AW := hide (fun W => awake_any W)
  obtain ⟨g1, g2, g3⟩ := builtL_good hf
  have BU := hide (fun W H => built_any (v := .slice p l.length c) hf W H)
  obtain ⟨P, D, E, p1, d1, PU, DU⟩ := acts_of g1 g2 g3 fr
  have LU := hide (fun W u (H : Lst u (builtL l) W) => less_any (m := []) g2 (fun x hx => by cases hx) (sound_snd.2 g1) (sound_snd.2 trivial) (by omega) (by simp) W H (Or.inl ⟨none, 0, rfl, rfl, fun _ => rfl, by omega⟩))
  rw [less_nil] at LU
  have PU := hide PU
  have DU := hide DU
  generalize builtL l = s at *
  have SS := hide (fun W va vb (H : Lst va s W) (K : Lst vb s W) => via (same_any (by omega) W H K) (v' := .bool true) (by rw [decide_eq_true rfl]))
  have SP := hide (fun W va vb (H : Lst va P W) (K : Lst vb P W) => via (same_any (by omega) W H K) (v' := .bool true) (by rw [decide_eq_true rfl]))
  obtain ⟨X, hX⟩ : ∃ X : Rg, X = (71, 71) := ⟨_, rfl⟩
  obtain ⟨Y, hY⟩ : ∃ Y : Rg, Y = (73, 73) := ⟨_, rfl⟩
  obtain ⟨Z, hZ⟩ : ∃ Z : Rg, Z = (9, 9) := ⟨_, rfl⟩
  obtain ⟨T, hT⟩ : ∃ T : Rg, T = (8, 8) := ⟨_, rfl⟩
  have SX := hide (fun W => small_rg 71 (by omega) W)
  have SY := hide (fun W => small_rg 73 (by omega) W)
  have SZ := hide (fun W => small_rg 9 (by omega) W)
  have ST := hide (fun W => small_rg 8 (by omega) W)
  rw [← hX, show ((71 : Nat) : Int) = 71 from rfl] at SX
  rw [← hY, show ((73 : Nat) : Int) = 73 from rfl] at SY
  rw [← hZ, show ((9 : Nat) : Int) = 9 from rfl] at SZ
  rw [← hT, show ((8 : Nat) : Int) = 8 from rfl] at ST
  have F0 := four_new w r 27
  have B0 := below_alloc w (.cells #[.int .u64 (hi r.1 : Nat), .int .u64 (lo r.1 : Nat), .int .u64 (hi r.2 : Nat), .int .u64 (lo r.2 : Nat)] 27)
  have V0 := hv.step B0
  clear hX hY hZ hT hf hv fr
  go_enter Try.func9, Try.ntmps9
  go_wp2_with fail
  refine (AW.out _).mono ?_
  rintro e w1 ⟨rfl, hb1⟩
  have F1 := F0.step hb1
  have B1 := chain B0 hb1
  have V1 := V0.step hb1
  clear hb1 F0 B0 V0
  go_wp2_with fail
  refine (BU.out _ V1).mono ?_
  rintro e w2 ⟨vs, rfl, hb2, S2⟩
  have F2 := F1.step hb2
  have B2 := chain B1 hb2
  clear hb2 F1 B1 V1 BU
  obtain ⟨ps, cs, rfl⟩ := lst_len S2
  obtain ⟨k1, k2, k3⟩ := lst_cap S2
  go_wp2_with (first
    | (at_make; refine wpList_make_own _ rfl _ _ 22 rfl w2.heap.size 27 i0 (.agg #[.int .u64 0, .int .u64 0, .int .u64 0, .int .u64 0]) 4 Try.underlying22 hi0 hz0 hz1 _ _ _ (s.length + 2) rfl rfl (by omega) (by rw [hz2]; omega) (by unfold maxLen; omega) (Nat.le_refl _) ?_; intro w3 hown3 hgrow3; have B3 : Below w2.heap.size w2 w3 := (Below.refl _ _).grown hgrow3 (Nat.le_refl _) (fun k h => by cases h); have S3 := S2.step B3)
    | (at_builtin; refine wpList_append_lst rfl (.tmp 29) (.tmp 30) rfl w2.heap.size _ [] rfl hown3 _ s rfl S3 (by simp; omega) B3.size ?_; intro v4 w4 HO4 HB4 _; have B4 := B3.trans HB4; rw [List.nil_append] at HO4; clear hown3 hgrow3 S3 B3 HB4))
  refine (SX.out _).mono ?_
  rintro e w5 ⟨rfl, hb5⟩
  have B5 := B4.trans (hb5.mono B4.size)
  have HO5 := own_keep HO4 hb5
  clear HO4 hb5 B4
  go_wp2_with fail
  refine (SY.out _).mono ?_
  rintro e w6 ⟨rfl, hb6⟩
  have B6 := B5.trans (hb6.mono B5.size)
  have HO6 := own_keep HO5 hb6
  clear HO5 hb6 B5
  have RT := row_two w6 X Y 27
  have BA := below_alloc w6 (.cells #[.int .u64 (hi X.1 : Nat), .int .u64 (lo X.1 : Nat), .int .u64 (hi X.2 : Nat), .int .u64 (lo X.2 : Nat), .int .u64 (hi Y.1 : Nat), .int .u64 (lo Y.1 : Nat), .int .u64 (hi Y.2 : Nat), .int .u64 (lo Y.2 : Nat)] 27)
  have HOA := own_keep HO6 BA
  have B7 := B6.trans (BA.mono B6.size)
  go_wp2_with (at_builtin; refine wpList_append_lst rfl (.tmp 32) (.tmp 35) rfl w2.heap.size _ s rfl HOA _ [X, Y] rfl (Or.inr ⟨w6.heap.size, 0, 2, rfl, RT, by simp, by simp, by omega⟩) (by simp; omega) B7.size ?_; intro v8 w8 HO8 HB8 _; have B8 := B7.trans HB8; clear RT BA HOA HO6 B7 HB8 B6)
  have M8 := own_lst HO8
  rcases M8 with ⟨_, _, _, e, _⟩ | ⟨b, o, c8, rfl, R8, q1, q3, q2⟩
  · simp at e
  have LM8 : Lst (.slice (some ⟨b, o, none⟩) s.length c8) s w8 := by
    have := lst_take (f := s.length) (Or.inr ⟨b, o, c8, rfl, R8, q1, q3, q2⟩ : Lst (.slice (some ⟨b, o, none⟩) (s ++ [X, Y]).length c8) (s ++ [X, Y]) w8) (by simp)
    rwa [List.take_left] at this
  have MX := R8.2 s.length X (by simp)
  have MY := R8.2 (s.length + 1) Y (by simp)
  have F8 := F2.step B8
  have S8 := S2.step B8
  have BW8 := chain B2 B8
  rw [List.length_append, show [X, Y].length = 2 from rfl] at q1 ⊢
  clear HO8 R8 q3 F2 S2 B2 B8
  obtain ⟨z0, ⟨z1, z2, z3, z4⟩, _⟩ := id F8
  have K8 : s.length ≤ c8 := by omega
  go_region_with ((go_at_call 11; refine (PU.out _ _ (by first | exact LM8 | exact LM8.step (below_drew _))).mono ?_; rintro e w9 ⟨va, rfl, hb9, A9⟩; have B9 : Below w8.heap.size w8 w9 := (by first | exact hb9 | exact chain (below_drew _) hb9); have A9 : Own w9 w8.heap.size va P := A9))
  -- GEN
  obtain ⟨pa, ca, rfl⟩ := lst_len (own_lst A9)
  have La : ∀ k, (Value.slice pa P.length ca).ownBlock = some k → k < w9.heap.size := fun k e => (A9.lt k e).2
  have F9 := F8.step B9
  have LM9 := LM8.step B9
  clear z0 z1 z2 z3 z4
  obtain ⟨z0, ⟨z1, z2, z3, z4⟩, _⟩ := id F9
  go_wp2_with fail
  go_region_with ((go_at_call 11; refine (PU.out _ _ (by first | exact LM9 | exact LM9.step (below_drew _))).mono ?_; rintro e w10 ⟨vb, rfl, hb10, A10⟩; have B10 : Below w9.heap.size w9 w10 := (by first | exact hb10 | exact chain (below_drew _) hb10); have A10 : Own w10 w9.heap.size vb P := A10))
  obtain ⟨pb, cb, rfl⟩ := lst_len (own_lst A10)
  have Lb : ∀ k, (Value.slice pb P.length cb).ownBlock = some k → k < w10.heap.size := fun k e => (A10.lt k e).2
  have F10 := F9.step B10
  have LM10 := LM9.step B10
  clear z0 z1 z2 z3 z4
  go_wp2_with fail
  refine (LU.out _ _ LM10).mono ?_
  rintro e w11 ⟨vc, rfl, B11, A11⟩
  obtain ⟨pc, cc, rfl⟩ := lst_len (own_lst A11)
  have Lc : ∀ k, (Value.slice pc s.length cc).ownBlock = some k → k < w11.heap.size := fun k e => (A11.lt k e).2
  have F11 := F10.step B11
  have LM11 := LM10.step B11
  obtain ⟨z0, ⟨z1, z2, z3, z4⟩, _⟩ := id F11
  go_wp2_with fail
  go_region_with ((go_at_call 16; refine (DU.out _ _ (by first | exact LM11 | exact LM11.step (below_drew _))).mono ?_; rintro e w12 ⟨vd, rfl, hb12, A12⟩; have B12 : Below w11.heap.size w11 w12 := (by first | exact hb12 | exact chain (below_drew _) hb12); have A12 : Own w12 w11.heap.size vd D := A12))
  obtain ⟨pd, cd, rfl⟩ := lst_len (own_lst A12)
  have Ld : ∀ k, (Value.slice pd D.length cd).ownBlock = some k → k < w12.heap.size := fun k e => (A12.lt k e).2
  clear z0 z1 z2 z3 z4
  have B812 := chain (chain (chain B9 B10) B11) B12
  have N9 := B9.size
  have N10 := B10.size
  have N11 := B11.size
  have N12 := B12.size
  have OA := own_keep (own_keep (own_keep A9 B10) B11) B12
  have OB := own_keep (own_keep A10 B11) B12
  have OC := own_keep A11 B12
  have S12 := S8.step B812
  have LM12 := LM11.step B12
  have XA := hide (own_lst OA)
  have XB := hide (own_lst OB)
  have XC := hide (own_lst OC)
  have XS := hide S12
  have XM := hide LM12
  have MX12 := hide (MX.step B812)
  have MY12 := hide (MY.step B812)
  have I0 : (s.length : Int) < (s.length : Int) + 2 := by omega
  have I1 : (s.length : Int) + 1 < (s.length : Int) + 2 := by omega
  have I4 : IntKind.i64.wrap ((s.length : Int) + 1) = (s.length : Int) + 1 := IntWalk.i64_in _ ⟨by omega, by omega⟩
  have I2 : (0 : Int) ≤ (s.length : Int) + 1 := by omega
  have I3 : ((s.length : Int) + 1).toNat = s.length + 1 := by omega
  clear A9 A10 A11 F8 F9 F10 F11 LM9 LM10 LM11 S12 LM12 MX MY B9 B10 B11 B12 PU DU LU
  go_wp2_with fail
  refine wp_region_quiet (C := Below w12.heap.size w12) (by kernel_rfl) (by kernel_rfl) (show Below w12.heap.size w12 { w12 with drawn := w12.drawn + 1 } from (Below.refl _ _).drew) (wpQuiet_step (fun K0 hK0 => ?_))
  go_simp
  first | (with_reducible refine hK0 _ (wpQuiet_step (fun K1 hK1 => ?_))) | (with_reducible refine ⟨_, fun _ _ => rfl, hK0 _ (wpQuiet_step (fun K1 hK1 => ?_))⟩) | (rw [if_neg (by intro e; cases e)]; with_reducible refine hK0 _ (wpQuiet_step (fun K1 hK1 => ?_)))
  clear hK0 K0
  go_simp
  first | (with_reducible refine hK1 _ (wpQuiet_step (fun K0 hK0 => ?_))) | (with_reducible refine ⟨_, fun _ _ => rfl, hK1 _ (wpQuiet_step (fun K0 hK0 => ?_))⟩) | (rw [if_neg (by intro e; cases e)]; with_reducible refine hK1 _ (wpQuiet_step (fun K0 hK0 => ?_)))
  clear hK1 K1
  go_simp
  first | (with_reducible refine hK0 _ (wpQuiet_step (fun K1 hK1 => ?_))) | (with_reducible refine ⟨_, fun _ _ => rfl, hK0 _ (wpQuiet_step (fun K1 hK1 => ?_))⟩) | (rw [if_neg (by intro e; cases e)]; with_reducible refine hK0 _ (wpQuiet_step (fun K1 hK1 => ?_)))
  clear hK0 K0
  go_simp
  first | (with_reducible refine hK1 _ (wpQuiet_step (fun K0 hK0 => ?_))) | (with_reducible refine ⟨_, fun _ _ => rfl, hK1 _ (wpQuiet_step (fun K0 hK0 => ?_))⟩) | (rw [if_neg (by intro e; cases e)]; with_reducible refine hK1 _ (wpQuiet_step (fun K0 hK0 => ?_)))
  clear hK1 K1
  go_simp
  first | (with_reducible refine hK0 _ (wpQuiet_step (fun K1 hK1 => ?_))) | (with_reducible refine ⟨_, fun _ _ => rfl, hK0 _ (wpQuiet_step (fun K1 hK1 => ?_))⟩) | (rw [if_neg (by intro e; cases e)]; with_reducible refine hK0 _ (wpQuiet_step (fun K1 hK1 => ?_)))
  clear hK0 K0
  go_simp
  first | (with_reducible refine hK1 _ (wpQuiet_step (fun K0 hK0 => ?_))) | (with_reducible refine ⟨_, fun _ _ => rfl, hK1 _ (wpQuiet_step (fun K0 hK0 => ?_))⟩) | (rw [if_neg (by intro e; cases e)]; with_reducible refine hK1 _ (wpQuiet_step (fun K0 hK0 => ?_)))
  clear hK1 K1
  go_simp
  first | (with_reducible refine hK0 _ (wpQuiet_step (fun K1 hK1 => ?_))) | (with_reducible refine ⟨_, fun _ _ => rfl, hK0 _ (wpQuiet_step (fun K1 hK1 => ?_))⟩) | (rw [if_neg (by intro e; cases e)]; with_reducible refine hK0 _ (wpQuiet_step (fun K1 hK1 => ?_)))
  clear hK0 K0
  go_simp
  first | (with_reducible refine hK1 _ (wpQuiet_step (fun K0 hK0 => ?_))) | (with_reducible refine ⟨_, fun _ _ => rfl, hK1 _ (wpQuiet_step (fun K0 hK0 => ?_))⟩) | (rw [if_neg (by intro e; cases e)]; with_reducible refine hK1 _ (wpQuiet_step (fun K0 hK0 => ?_)))
  clear hK1 K1
  go_simp
  first | (with_reducible refine hK0 _ (wpQuiet_step (fun K1 hK1 => ?_))) | (with_reducible refine ⟨_, fun _ _ => rfl, hK0 _ (wpQuiet_step (fun K1 hK1 => ?_))⟩) | (rw [if_neg (by intro e; cases e)]; with_reducible refine hK0 _ (wpQuiet_step (fun K1 hK1 => ?_)))
  clear hK0 K0
  go_simp
  first | (with_reducible refine hK1 _ (wpQuiet_step (fun K0 hK0 => ?_))) | (with_reducible refine ⟨_, fun _ _ => rfl, hK1 _ (wpQuiet_step (fun K0 hK0 => ?_))⟩) | (rw [if_neg (by intro e; cases e)]; with_reducible refine hK1 _ (wpQuiet_step (fun K0 hK0 => ?_)))
  clear hK1 K1
  go_simp
  first | (with_reducible refine hK0 _ (wpQuiet_step (fun K1 hK1 => ?_))) | (with_reducible refine ⟨_, fun _ _ => rfl, hK0 _ (wpQuiet_step (fun K1 hK1 => ?_))⟩) | (rw [if_neg (by intro e; cases e)]; with_reducible refine hK0 _ (wpQuiet_step (fun K1 hK1 => ?_)))
  clear hK0 K0
  go_simp
  first | (with_reducible refine hK1 _ (wpQuiet_step (fun K0 hK0 => ?_))) | (with_reducible refine ⟨_, fun _ _ => rfl, hK1 _ (wpQuiet_step (fun K0 hK0 => ?_))⟩) | (rw [if_neg (by intro e; cases e)]; with_reducible refine hK1 _ (wpQuiet_step (fun K0 hK0 => ?_)))
  clear hK1 K1
  go_simp
  first | (with_reducible refine hK0 _ (wpQuiet_step (fun K1 hK1 => ?_))) | (with_reducible refine ⟨_, fun _ _ => rfl, hK0 _ (wpQuiet_step (fun K1 hK1 => ?_))⟩) | (rw [if_neg (by intro e; cases e)]; with_reducible refine hK0 _ (wpQuiet_step (fun K1 hK1 => ?_)))
  clear hK0 K0
  go_simp
  first | (with_reducible refine hK1 _ (wpQuiet_step (fun K0 hK0 => ?_))) | (with_reducible refine ⟨_, fun _ _ => rfl, hK1 _ (wpQuiet_step (fun K0 hK0 => ?_))⟩) | (rw [if_neg (by intro e; cases e)]; with_reducible refine hK1 _ (wpQuiet_step (fun K0 hK0 => ?_)))
  clear hK1 K1
  go_simp
  first | (with_reducible refine hK0 _ (wpQuiet_step (fun K1 hK1 => ?_))) | (with_reducible refine ⟨_, fun _ _ => rfl, hK0 _ (wpQuiet_step (fun K1 hK1 => ?_))⟩) | (rw [if_neg (by intro e; cases e)]; with_reducible refine hK0 _ (wpQuiet_step (fun K1 hK1 => ?_)))
  clear hK0 K0
  go_simp
  refine ⟨.bool true, fun W hW => ?_, hK1 _ (wpQuiet_step (fun K0 hK0 => ?_))⟩
  · exact (SP.out W _ _ (XA.out.step hW) (XB.out.step hW)).mono fun e w4 ⟨he, hb⟩ => ⟨he, chain hW hb⟩
  clear hK1 K1
  go_simp
  first | (with_reducible refine hK0 _ (wpQuiet_step (fun K1 hK1 => ?_))) | (with_reducible refine ⟨_, fun _ _ => rfl, hK0 _ (wpQuiet_step (fun K1 hK1 => ?_))⟩) | (rw [if_neg (by intro e; cases e)]; with_reducible refine hK0 _ (wpQuiet_step (fun K1 hK1 => ?_)))
  clear hK0 K0
  go_simp
  first | (with_reducible refine hK1 _ (wpQuiet_step (fun K0 hK0 => ?_))) | (with_reducible refine ⟨_, fun _ _ => rfl, hK1 _ (wpQuiet_step (fun K0 hK0 => ?_))⟩) | (rw [if_neg (by intro e; cases e)]; with_reducible refine hK1 _ (wpQuiet_step (fun K0 hK0 => ?_)))
  clear hK1 K1
  go_simp
  first | (with_reducible refine hK0 _ (wpQuiet_step (fun K1 hK1 => ?_))) | (with_reducible refine ⟨_, fun _ _ => rfl, hK0 _ (wpQuiet_step (fun K1 hK1 => ?_))⟩) | (rw [if_neg (by intro e; cases e)]; with_reducible refine hK0 _ (wpQuiet_step (fun K1 hK1 => ?_)))
  clear hK0 K0
  go_simp
  first | (with_reducible refine hK1 _ (wpQuiet_step (fun K0 hK0 => ?_))) | (with_reducible refine ⟨_, fun _ _ => rfl, hK1 _ (wpQuiet_step (fun K0 hK0 => ?_))⟩) | (rw [if_neg (by intro e; cases e)]; with_reducible refine hK1 _ (wpQuiet_step (fun K0 hK0 => ?_)))
  clear hK1 K1
  go_simp
  first | (with_reducible refine hK0 _ (wpQuiet_step (fun K1 hK1 => ?_))) | (with_reducible refine ⟨_, fun _ _ => rfl, hK0 _ (wpQuiet_step (fun K1 hK1 => ?_))⟩) | (rw [if_neg (by intro e; cases e)]; with_reducible refine hK0 _ (wpQuiet_step (fun K1 hK1 => ?_)))
  clear hK0 K0
  go_simp
  refine ⟨.bool true, fun W hW => ?_, hK1 _ (wpQuiet_step (fun K0 hK0 => ?_))⟩
  · exact (SS.out W _ _ (XC.out.step hW) (XS.out.step hW)).mono fun e w4 ⟨he, hb⟩ => ⟨he, chain hW hb⟩
  clear hK1 K1
  go_simp
  first | (with_reducible refine hK0 _ (wpQuiet_step (fun K1 hK1 => ?_))) | (with_reducible refine ⟨_, fun _ _ => rfl, hK0 _ (wpQuiet_step (fun K1 hK1 => ?_))⟩) | (rw [if_neg (by intro e; cases e)]; with_reducible refine hK0 _ (wpQuiet_step (fun K1 hK1 => ?_)))
  clear hK0 K0
  go_simp
  first | (with_reducible refine hK1 _ (wpQuiet_step (fun K0 hK0 => ?_))) | (with_reducible refine ⟨_, fun _ _ => rfl, hK1 _ (wpQuiet_step (fun K0 hK0 => ?_))⟩) | (rw [if_neg (by intro e; cases e)]; with_reducible refine hK1 _ (wpQuiet_step (fun K0 hK0 => ?_)))
  clear hK1 K1
  go_simp
  first | (with_reducible refine hK0 _ (wpQuiet_step (fun K1 hK1 => ?_))) | (with_reducible refine ⟨_, fun _ _ => rfl, hK0 _ (wpQuiet_step (fun K1 hK1 => ?_))⟩) | (rw [if_neg (by intro e; cases e)]; with_reducible refine hK0 _ (wpQuiet_step (fun K1 hK1 => ?_)))
  clear hK0 K0
  go_simp
  first | (with_reducible refine hK1 _ (wpQuiet_step (fun K0 hK0 => ?_))) | (with_reducible refine ⟨_, fun _ _ => rfl, hK1 _ (wpQuiet_step (fun K0 hK0 => ?_))⟩) | (rw [if_neg (by intro e; cases e)]; with_reducible refine hK1 _ (wpQuiet_step (fun K0 hK0 => ?_)))
  clear hK1 K1
  go_simp
  first | (with_reducible refine hK0 _ (wpQuiet_step (fun K1 hK1 => ?_))) | (with_reducible refine ⟨_, fun _ _ => rfl, hK0 _ (wpQuiet_step (fun K1 hK1 => ?_))⟩) | (rw [if_neg (by intro e; cases e)]; with_reducible refine hK0 _ (wpQuiet_step (fun K1 hK1 => ?_)))
  clear hK0 K0
  go_simp
  first | (with_reducible refine hK1 _ (wpQuiet_step (fun K0 hK0 => ?_))) | (with_reducible refine ⟨_, fun _ _ => rfl, hK1 _ (wpQuiet_step (fun K0 hK0 => ?_))⟩) | (rw [if_neg (by intro e; cases e)]; with_reducible refine hK1 _ (wpQuiet_step (fun K0 hK0 => ?_)))
  clear hK1 K1
  go_simp
  first | (with_reducible refine hK0 _ (wpQuiet_step (fun K1 hK1 => ?_))) | (with_reducible refine ⟨_, fun _ _ => rfl, hK0 _ (wpQuiet_step (fun K1 hK1 => ?_))⟩) | (rw [if_neg (by intro e; cases e)]; with_reducible refine hK0 _ (wpQuiet_step (fun K1 hK1 => ?_)))
  clear hK0 K0
  go_simp
  refine ⟨.bool true, fun W hW => ?_, hK1 _ (wpQuiet_step (fun K0 hK0 => ?_))⟩
  · exact (SS.out W _ _ (XM.out.step hW) (XS.out.step hW)).mono fun e w4 ⟨he, hb⟩ => ⟨he, chain hW hb⟩
  clear hK1 K1
  go_simp
  first | (with_reducible refine hK0 _ (wpQuiet_step (fun K1 hK1 => ?_))) | (with_reducible refine ⟨_, fun _ _ => rfl, hK0 _ (wpQuiet_step (fun K1 hK1 => ?_))⟩) | (rw [if_neg (by intro e; cases e)]; with_reducible refine hK0 _ (wpQuiet_step (fun K1 hK1 => ?_)))
  clear hK0 K0
  go_simp
  first | (with_reducible refine hK1 _ (wpQuiet_step (fun K0 hK0 => ?_))) | (with_reducible refine ⟨_, fun _ _ => rfl, hK1 _ (wpQuiet_step (fun K0 hK0 => ?_))⟩) | (rw [if_neg (by intro e; cases e)]; with_reducible refine hK1 _ (wpQuiet_step (fun K0 hK0 => ?_)))
  clear hK1 K1
  go_simp
  first | (with_reducible refine hK0 _ (wpQuiet_step (fun K1 hK1 => ?_))) | (with_reducible refine ⟨_, fun _ _ => rfl, hK0 _ (wpQuiet_step (fun K1 hK1 => ?_))⟩) | (rw [if_neg (by intro e; cases e)]; with_reducible refine hK0 _ (wpQuiet_step (fun K1 hK1 => ?_)))
  clear hK0 K0
  go_simp
  first | (with_reducible refine hK1 _ (wpQuiet_step (fun K0 hK0 => ?_))) | (with_reducible refine ⟨_, fun _ _ => rfl, hK1 _ (wpQuiet_step (fun K0 hK0 => ?_))⟩) | (rw [if_neg (by intro e; cases e)]; with_reducible refine hK1 _ (wpQuiet_step (fun K0 hK0 => ?_)))
  clear hK1 K1
  go_simp
  first | (with_reducible refine hK0 _ (wpQuiet_step (fun K1 hK1 => ?_))) | (with_reducible refine ⟨_, fun _ _ => rfl, hK0 _ (wpQuiet_step (fun K1 hK1 => ?_))⟩) | (rw [if_neg (by intro e; cases e)]; with_reducible refine hK0 _ (wpQuiet_step (fun K1 hK1 => ?_)))
  clear hK0 K0
  go_simp
  first | (with_reducible refine hK1 _ (wpQuiet_step (fun K0 hK0 => ?_))) | (with_reducible refine ⟨_, fun _ _ => rfl, hK1 _ (wpQuiet_step (fun K0 hK0 => ?_))⟩) | (rw [if_neg (by intro e; cases e)]; with_reducible refine hK1 _ (wpQuiet_step (fun K0 hK0 => ?_)))
  clear hK1 K1
  go_simp
  refine ⟨RV X, fun W hW => ?_, hK0 _ (wpQuiet_step (fun K1 hK1 => ?_))⟩
  · (obtain ⟨u0, u1, u2, u3⟩ := MX12.out.step hW; simp [go_sem, u0, u1, u2, u3])
  clear hK0 K0
  go_simp
  refine ⟨RV X, fun W hW => ?_, hK1 _ (wpQuiet_step (fun K0 hK0 => ?_))⟩
  · exact (SX.out W).mono fun e w4 ⟨he, hb⟩ => ⟨he, chain hW hb⟩
  clear hK1 K1
  go_simp
  first | (with_reducible refine hK0 _ (wpQuiet_step (fun K1 hK1 => ?_))) | (with_reducible refine ⟨_, fun _ _ => rfl, hK0 _ (wpQuiet_step (fun K1 hK1 => ?_))⟩) | (rw [if_neg (by intro e; cases e)]; with_reducible refine hK0 _ (wpQuiet_step (fun K1 hK1 => ?_)))
  clear hK0 K0
  go_simp
  first | (with_reducible refine hK1 _ (wpQuiet_step (fun K0 hK0 => ?_))) | (with_reducible refine ⟨_, fun _ _ => rfl, hK1 _ (wpQuiet_step (fun K0 hK0 => ?_))⟩) | (rw [if_neg (by intro e; cases e)]; with_reducible refine hK1 _ (wpQuiet_step (fun K0 hK0 => ?_)))
  clear hK1 K1
  go_simp
  first | (with_reducible refine hK0 _ (wpQuiet_step (fun K1 hK1 => ?_))) | (with_reducible refine ⟨_, fun _ _ => rfl, hK0 _ (wpQuiet_step (fun K1 hK1 => ?_))⟩) | (rw [if_neg (by intro e; cases e)]; with_reducible refine hK0 _ (wpQuiet_step (fun K1 hK1 => ?_)))
  clear hK0 K0
  go_simp
  first | (with_reducible refine hK1 _ (wpQuiet_step (fun K0 hK0 => ?_))) | (with_reducible refine ⟨_, fun _ _ => rfl, hK1 _ (wpQuiet_step (fun K0 hK0 => ?_))⟩) | (rw [if_neg (by intro e; cases e)]; with_reducible refine hK1 _ (wpQuiet_step (fun K0 hK0 => ?_)))
  clear hK1 K1
  go_simp
  first | (with_reducible refine hK0 _ (wpQuiet_step (fun K1 hK1 => ?_))) | (with_reducible refine ⟨_, fun _ _ => rfl, hK0 _ (wpQuiet_step (fun K1 hK1 => ?_))⟩) | (rw [if_neg (by intro e; cases e)]; with_reducible refine hK0 _ (wpQuiet_step (fun K1 hK1 => ?_)))
  clear hK0 K0
  go_simp
  first | (with_reducible refine hK1 _ (wpQuiet_step (fun K0 hK0 => ?_))) | (with_reducible refine ⟨_, fun _ _ => rfl, hK1 _ (wpQuiet_step (fun K0 hK0 => ?_))⟩) | (rw [if_neg (by intro e; cases e)]; with_reducible refine hK1 _ (wpQuiet_step (fun K0 hK0 => ?_)))
  clear hK1 K1
  go_simp
  first | (with_reducible refine hK0 _ (wpQuiet_step (fun K1 hK1 => ?_))) | (with_reducible refine ⟨_, fun _ _ => rfl, hK0 _ (wpQuiet_step (fun K1 hK1 => ?_))⟩) | (rw [if_neg (by intro e; cases e)]; with_reducible refine hK0 _ (wpQuiet_step (fun K1 hK1 => ?_)))
  clear hK0 K0
  go_simp
  refine ⟨RV Y, fun W hW => ?_, hK1 _ (wpQuiet_step (fun K0 hK0 => ?_))⟩
  · (obtain ⟨u0, u1, u2, u3⟩ := MY12.out.step hW; simp [go_sem, u0, u1, u2, u3])
  clear hK1 K1
  go_simp
  refine ⟨RV Y, fun W hW => ?_, hK0 _ (wpQuiet_step (fun K1 hK1 => ?_))⟩
  · exact (SY.out W).mono fun e w4 ⟨he, hb⟩ => ⟨he, chain hW hb⟩
  clear hK0 K0
  go_simp
  first | (with_reducible refine hK1 _ (wpQuiet_step (fun K0 hK0 => ?_))) | (with_reducible refine ⟨_, fun _ _ => rfl, hK1 _ (wpQuiet_step (fun K0 hK0 => ?_))⟩) | (rw [if_neg (by intro e; cases e)]; with_reducible refine hK1 _ (wpQuiet_step (fun K0 hK0 => ?_)))
  clear hK1 K1
  go_simp
  first | (with_reducible refine hK0 _ (wpQuiet_nil ?_)) | (with_reducible refine ⟨_, fun _ _ => rfl, hK0 _ (wpQuiet_nil ?_)⟩) | (rw [if_neg (by intro e; cases e)]; with_reducible refine hK0 _ (wpQuiet_nil ?_))
  clear hK0 K0
  intro w13 H13
  clear XA XB XC XS XM MX12 MY12 SX SY I0 I1 I2 I3 I4
  have OA := own_keep OA H13
  have OB := own_keep OB H13
  have OC := own_keep OC H13
  have OD := own_keep A12 H13
  have B813 := chain B812 H13
  have N13 := H13.size
  have OE := own_empty w13
  have BE := below_alloc w13 (.cells #[] 27)
  have LB13 := own_lst (own_keep OB BE)
  clear A12 H13 B812
  go_wp2_with (at_builtin; refine wpList_append_lst rfl (.tmp 117) (.tmp 118) rfl w13.heap.size _ [] rfl OE _ P rfl LB13 (by simp; omega) (by simp) ?_; intro vw w14 OW HB14 _; have B14 := BE.trans HB14; rw [List.nil_append] at OW; obtain ⟨pw, cw, rfl⟩ := lst_len (own_lst OW); have OA := own_keep OA B14; have OB := own_keep OB B14; have OC := own_keep OC B14; have OD := own_keep OD B14; have B814 := chain B813 B14; have N14 := B14.size; clear OE BE LB13 HB14 B14 B813)
  go_loopw [17] (fun i wr => ∃ (k : Nat) (xs : List Value), k ≤ P.length ∧ i = .int .i64 (k : Int) ∧ wr.ownsRow w8.heap.size 27 4 (.slice pa P.length ca) P.length xs ∧ Below w8.heap.size w14 wr ∧ Ab w14 w9.heap.size wr) (fun i _ => P.length - (intOf i).toNat)
  case atStart => exact ⟨0, _, Nat.zero_le _, rfl, OA, Below.refl _ _, Ab.refl _ _⟩
  case round =>
    obtain ⟨k, xs, hk, rfl, hown, hB, hA⟩ := hrel
    by_cases hlt : k < P.length
    · obtain ⟨g, cap, hgv, hbg, _⟩ := hown.form (by omega)
      cases hgv
      have gt := La g rfl
      go_wp2_with fail
      refine (SZ.out _).mono ?_
      rintro e w15 ⟨rfl, hb15⟩
      have own2 := own_keep hown hb15
      have HB2 := hB.trans (hb15.mono (by have := hB.size; omega))
      have AB2 := hA.step hb15
      have xl := own2.1
      obtain ⟨u0, e0⟩ : ∃ u, xs[k * 4]? = some u := ⟨_, List.getElem?_eq_getElem (by omega)⟩
      obtain ⟨u1, e1⟩ : ∃ u, xs[k * 4 + 1]? = some u := ⟨_, List.getElem?_eq_getElem (by omega)⟩
      obtain ⟨u2, e2⟩ : ∃ u, xs[k * 4 + 2]? = some u := ⟨_, List.getElem?_eq_getElem (by omega)⟩
      obtain ⟨u3, e3⟩ : ∃ u, xs[k * 4 + 3]? = some u := ⟨_, List.getElem?_eq_getElem (by omega)⟩
      have t0 := (own2.cellAt (k * 4) (by omega)).trans e0
      have t1 := (own2.cellAt (k * 4 + 1) (by omega)).trans e1
      have t2 := (own2.cellAt (k * 4 + 2) (by omega)).trans e2
      have t3 := (own2.cellAt (k * 4 + 3) (by omega)).trans e3
      have f0 := own2.frozenAt (k * 4)
      have f1 := own2.frozenAt (k * 4 + 1)
      have f2 := own2.frozenAt (k * 4 + 2)
      have f3 := own2.frozenAt (k * 4 + 3)
      clear e0 e1 e2 e3 xl hown hB hA hb15
      go_wp2
      go_roundw
      case rel =>
        exact ⟨k + 1, _, by omega, by go_num, ((((own2.stored (k * 4) _).1.stored (k * 4 + 1) _).1.stored (k * 4 + 2) _).1.stored (k * 4 + 3) _).1, (((HB2.setCell hbg _).setCell hbg _).setCell hbg _).setCell hbg _, (((AB2.set gt _).set gt _).set gt _).set gt _⟩
      case measure => simp [intOf]; omega
    · have OA := hown
      have OB := own_ab OB hA (Nat.le_refl _)
      have OC := own_ab OC hA (by omega)
      have OD := own_ab OD hA (by omega)
      have OW := own_ab OW hA (by omega)
      have B816 := B814.trans hB
      have N16 := hB.size
      clear hown hB hA B814
      generalize xs = xsA at OA
      generalize wr = w16 at *
      go_wp2_with fail
      go_loopw [18] (fun i wr => ∃ (k : Nat) (xs : List Value), k ≤ s.length ∧ i = .int .i64 (k : Int) ∧ wr.ownsRow w10.heap.size 27 4 (.slice pc s.length cc) s.length xs ∧ Below w10.heap.size w16 wr ∧ Ab w16 w11.heap.size wr) (fun i _ => s.length - (intOf i).toNat)
      case atStart => exact ⟨0, _, Nat.zero_le _, rfl, OC, Below.refl _ _, Ab.refl _ _⟩
      case round =>
        obtain ⟨k, xs, hk, rfl, hown, hB, hA⟩ := hrel
        by_cases hlt : k < s.length
        · obtain ⟨g, cap, hgv, hbg, _⟩ := hown.form (by omega)
          cases hgv
          have gt := Lc g rfl
          go_wp2_with fail
          refine (SZ.out _).mono ?_
          rintro e w15 ⟨rfl, hb15⟩
          have own2 := own_keep hown hb15
          have HB2 := hB.trans (hb15.mono (by have := hB.size; omega))
          have AB2 := hA.step hb15
          have xl := own2.1
          obtain ⟨u0, e0⟩ : ∃ u, xs[k * 4]? = some u := ⟨_, List.getElem?_eq_getElem (by omega)⟩
          obtain ⟨u1, e1⟩ : ∃ u, xs[k * 4 + 1]? = some u := ⟨_, List.getElem?_eq_getElem (by omega)⟩
          obtain ⟨u2, e2⟩ : ∃ u, xs[k * 4 + 2]? = some u := ⟨_, List.getElem?_eq_getElem (by omega)⟩
          obtain ⟨u3, e3⟩ : ∃ u, xs[k * 4 + 3]? = some u := ⟨_, List.getElem?_eq_getElem (by omega)⟩
          have t0 := (own2.cellAt (k * 4) (by omega)).trans e0
          have t1 := (own2.cellAt (k * 4 + 1) (by omega)).trans e1
          have t2 := (own2.cellAt (k * 4 + 2) (by omega)).trans e2
          have t3 := (own2.cellAt (k * 4 + 3) (by omega)).trans e3
          have f0 := own2.frozenAt (k * 4)
          have f1 := own2.frozenAt (k * 4 + 1)
          have f2 := own2.frozenAt (k * 4 + 2)
          have f3 := own2.frozenAt (k * 4 + 3)
          clear e0 e1 e2 e3 xl hown hB hA hb15
          go_wp2
          go_roundw
          case rel =>
            exact ⟨k + 1, _, by omega, by go_num, ((((own2.stored (k * 4) _).1.stored (k * 4 + 1) _).1.stored (k * 4 + 2) _).1.stored (k * 4 + 3) _).1, (((HB2.setCell hbg _).setCell hbg _).setCell hbg _).setCell hbg _, (((AB2.set gt _).set gt _).set gt _).set gt _⟩
          case measure => simp [intOf]; omega
        · have OA := own_below OA hB (fun k e => by have := La k e; omega)
          have OB := own_below OB hB Lb
          have OD := own_ab OD hA (Nat.le_refl _)
          have OW := own_ab OW hA (by omega)
          have B817 := B816.trans (hB.mono (by omega))
          have N17 := hB.size
          clear hown hB hA B816
          generalize wr = w17 at *
          go_wp2_with fail
          go_loopw [19] (fun i wr => ∃ (k : Nat) (xs : List Value), k ≤ D.length ∧ i = .int .i64 (k : Int) ∧ wr.ownsRow w11.heap.size 27 4 (.slice pd D.length cd) D.length xs ∧ Below w11.heap.size w17 wr ∧ Ab w17 w12.heap.size wr) (fun i _ => D.length - (intOf i).toNat)
          case atStart => exact ⟨0, _, Nat.zero_le _, rfl, OD, Below.refl _ _, Ab.refl _ _⟩
          case round =>
            obtain ⟨k, xs, hk, rfl, hown, hB, hA⟩ := hrel
            by_cases hlt : k < D.length
            · obtain ⟨g, cap, hgv, hbg, _⟩ := hown.form (by omega)
              cases hgv
              have gt := Ld g rfl
              go_wp2_with fail
              refine (SZ.out _).mono ?_
              rintro e w15 ⟨rfl, hb15⟩
              have own2 := own_keep hown hb15
              have HB2 := hB.trans (hb15.mono (by have := hB.size; omega))
              have AB2 := hA.step hb15
              have xl := own2.1
              obtain ⟨u0, e0⟩ : ∃ u, xs[k * 4]? = some u := ⟨_, List.getElem?_eq_getElem (by omega)⟩
              obtain ⟨u1, e1⟩ : ∃ u, xs[k * 4 + 1]? = some u := ⟨_, List.getElem?_eq_getElem (by omega)⟩
              obtain ⟨u2, e2⟩ : ∃ u, xs[k * 4 + 2]? = some u := ⟨_, List.getElem?_eq_getElem (by omega)⟩
              obtain ⟨u3, e3⟩ : ∃ u, xs[k * 4 + 3]? = some u := ⟨_, List.getElem?_eq_getElem (by omega)⟩
              have t0 := (own2.cellAt (k * 4) (by omega)).trans e0
              have t1 := (own2.cellAt (k * 4 + 1) (by omega)).trans e1
              have t2 := (own2.cellAt (k * 4 + 2) (by omega)).trans e2
              have t3 := (own2.cellAt (k * 4 + 3) (by omega)).trans e3
              have f0 := own2.frozenAt (k * 4)
              have f1 := own2.frozenAt (k * 4 + 1)
              have f2 := own2.frozenAt (k * 4 + 2)
              have f3 := own2.frozenAt (k * 4 + 3)
              clear e0 e1 e2 e3 xl hown hB hA hb15
              go_wp2
              go_roundw
              case rel =>
                exact ⟨k + 1, _, by omega, by go_num, ((((own2.stored (k * 4) _).1.stored (k * 4 + 1) _).1.stored (k * 4 + 2) _).1.stored (k * 4 + 3) _).1, (((HB2.setCell hbg _).setCell hbg _).setCell hbg _).setCell hbg _, (((AB2.set gt _).set gt _).set gt _).set gt _⟩
              case measure => simp [intOf]; omega
            · have OA := own_below OA hB (fun k e => by have := La k e; omega)
              have OB := own_below OB hB (fun k e => by have := Lb k e; omega)
              have OW := own_ab OW hA (by omega)
              have B818 := B817.trans (hB.mono (by omega))
              have N18 := hB.size
              clear hown hB hA B817 SZ
              generalize wr = w18 at *
              go_wp2_with fail
              refine (ST.out _).mono ?_
              rintro e w19 ⟨rfl, hb19⟩
              have OA := own_keep OA hb19
              have OB := own_keep OB hb19
              have OW := own_keep OW hb19
              have B819 := B818.trans (hb19.mono (by omega))
              have N19 := hb19.size
              clear hb19 B818
              go_wp2_with fail
              refine (ST.out _).mono ?_
              rintro e w20 ⟨rfl, hb20⟩
              have BT := below_alloc w20 (.cells #[.int .u64 (hi T.1 : Nat), .int .u64 (lo T.1 : Nat), .int .u64 (hi T.2 : Nat), .int .u64 (lo T.2 : Nat), .int .u64 (hi T.1 : Nat), .int .u64 (lo T.1 : Nat), .int .u64 (hi T.2 : Nat), .int .u64 (lo T.2 : Nat)] 27)
              have RT := row_two w20 T T 27
              have hb21 := chain hb20 BT
              have OA := own_keep OA hb21
              have OB := own_keep OB hb21
              have OW := own_keep OW hb21
              have B820 := B819.trans (hb21.mono (by omega))
              have N20 := hb21.size
              rw [World.size_alloc] at N20
              clear hb20 BT B819 hb21
              go_wp2_with (at_builtin; refine wpList_append_own _ rfl (.tmp 150) (.tmp 153) 22 rfl w8.heap.size 27 i0 (.agg #[.int .u64 0, .int .u64 0, .int .u64 0, .int .u64 0]) 4 32 Try.underlying22 hi0 hz0 hz1 hz2 rfl (by decide) _ P.length _ rfl OA ⟨w20.heap.size, 0, none⟩ 2 2 (cellsR [T, T]) rfl rfl (row_cells RT) (cellsR_one _) (by unfold maxLen; omega) (by omega) B820.size ?_; intro v21 w21 hown21 hgrow21 _; have BG := (Below.refl w8.heap.size _).grown hgrow21 B820.size (fun j hj => (OA.lt j hj).1); obtain ⟨gx, cx, rfl, _, _⟩ := hown21.form (by omega); have OB := OB.kept hgrow21 (by rcases h : (Value.slice pb P.length cb).ownBlock with _ | k; exact Or.inl rfl; refine Or.inr (fun e => ?_); have h1 := (OB.lt k h).1; have h2 := La k e.symm; omega); have OW := OW.kept hgrow21 (by rcases h : (Value.slice pw P.length cw).ownBlock with _ | k; exact Or.inl rfl; refine Or.inr (fun e => ?_); have h1 := (OW.lt k h).1; have h2 := La k e.symm; omega); have B821 := B820.trans BG; clear BG hgrow21 hown21 RT)
              have XB := own_lst OB
              have XW := own_lst OW
              have XS := S8.step B821
              have XM := LM8.step B821
              have BW21 := chain BW8 B821
              clear OA OB OW B820 B821
              refine (SP.out _ _ _ XB XW).mono ?_
              rintro e w22 ⟨rfl, hb22⟩
              have XS := XS.step hb22
              have XM := XM.step hb22
              have BW22 := chain BW21 hb22
              clear hb22 BW21 XB XW
              go_wp2_with fail
              refine (SS.out _ _ _ XM XS).mono ?_
              rintro e w23 ⟨rfl, hb23⟩
              go_wp2
              go_ret
              exact ⟨rfl, chain BW22 hb23⟩
end Go.Proofs.Ytbgkeeodeggleaa
