/-
  The walk of the law TextPuts: it returns true. Conditions: the library's variables hold what is laid; the words are words of 64 bits and an int is an int of 64 bits (every value of the types is such).
-/
import Derived.Test.YtmapcllmiomelaaGreatDoorTextQ4
import Derived.Test.YtmapcllmiomelaaGreatDoorTextZ
namespace Go.Proofs.YtmapcllmiomelaaGreatDoor
open Go.RowKit Go.Joins

set_option maxRecDepth 100000 in
set_option maxHeartbeats 4000000 in
theorem puts_any (fam : Int) {p : Nat} {n : Int} (hp : Fits p) (n0 : -9223372036854775808 ≤ n) (n1 : n ≤ 9223372036854775807) (s : ByteArray) (w : World) (hv : VO w) :
    Calls Tryz.prog 3 #[.int .i64 fam, Pv p n, .string s] w (Gives (.bool true) w) := by
  have AW := hide (fun W hV => awake2_any W hV)
  by_cases hl : (s.size : Int) > 65536
  · go_enter Tryz.func3, Tryz.ntmps3
    go_wp2_with fail
    have H0 := hpf_new w p n 26
    refine (AW.out _ (VO.step H0.1 hv)).mono ?_
    rintro e w1 ⟨rfl, hb1⟩
    have H1 := H0.step hb1
    clear hb1 H0
    go_wp2_with fail
    refine (AW.out _ (VO.step H1.1 hv)).mono ?_
    rintro e w2 ⟨rfl, hb2⟩
    go_wp2
    go_ret
    exact ⟨rfl, (H1.step hb2).1⟩
  · have hs : s.size ≤ 65536 := by omega
    have hsl : Lim s.size := by unfold Lim; omega
    have E4 := hide (show ((lo p : Nat) : Int) % 4294967296 = ((lo p % 4294967296 : Nat) : Int) by omega)
    have P4 := hide (put4_any (lo p % 4294967296) (by omega))
    have R4 := hide (rput4_any (lo p % 4294967296) (by omega))
    have P6 := hide (put6_any hp)
    have R6 := hide (rput6_any p)
    have PP := hide (put_any fam hp)
    have RP := hide (rput_any fam hp)
    have PX := hide (putprefix_any fam hp (n := n))
    have RX := hide (rpp_any fam hp (n := n))
    have NM := hide (num_any n n0 n1)
    have RN := hide (rnum_any n n0 n1)
    have HX := hide (hex_any s hsl)
    have RH := hide (rhex_any s hsl)
    clear hs hsl n0 n1
    go_enter Tryz.func3, Tryz.ntmps3
    go_wp2_with fail
    have H0 := hpf_new w p n 26
    refine (AW.out _ (VO.step H0.1 hv)).mono ?_
    rintro e w1 ⟨rfl, hb1⟩
    have H1 := H0.step hb1
    clear hb1 H0 AW
    obtain ⟨_, z0, c0, c1, c2⟩ := id H1
    go_wp2_with fail
    clear z0 c0 c1 c2
    rw [E4.out]
    generalize lo p % 4294967296 = m at P4 R4 ⊢
    generalize put4 m = l1 at *
    generalize put6L p = l2 at *
    generalize putL fam p = l3 at *
    generalize ppL fam p n = l4 at *
    generalize Lib.itoa n = l5 at *
    generalize hexL s.data.toList = l6 at *
    clear E4
    refine wp_region_quiet (C := HPf w p n) (by kernel_rfl) (by kernel_rfl) H1.drew (wpQuiet_step (fun K0 hK0 => ?_))
    go_simp
    first | (with_reducible refine hK0 _ (wpQuiet_step (fun K1 hK1 => ?_))) | (with_reducible refine ⟨_, fun _ _ => rfl, hK0 _ (wpQuiet_step (fun K1 hK1 => ?_))⟩) | (rw [if_neg (by intro e; cases e)]; with_reducible refine hK0 _ (wpQuiet_step (fun K1 hK1 => ?_)))
    clear hK0 K0
    go_simp
    refine ⟨St l1, fun W hW => ?_, hK1 _ (wpQuiet_step (fun K0 hK0 => ?_))⟩
    · exact (P4.out W (VO.step hW.1 hv)).mono fun e w4 ⟨he, hb⟩ => ⟨he, HPf.step hW hb⟩
    clear hK1 K1
    go_simp
    first | (with_reducible refine hK0 _ (wpQuiet_step (fun K1 hK1 => ?_))) | (with_reducible refine ⟨_, fun _ _ => rfl, hK0 _ (wpQuiet_step (fun K1 hK1 => ?_))⟩) | (rw [if_neg (by intro e; cases e)]; with_reducible refine hK0 _ (wpQuiet_step (fun K1 hK1 => ?_)))
    clear hK0 K0
    go_simp
    refine ⟨St l1, fun W hW => ?_, hK1 _ (wpQuiet_step (fun K0 hK0 => ?_))⟩
    · exact (R4.out W).mono fun e w4 ⟨he, hb⟩ => ⟨he, HPf.step hW hb⟩
    clear hK1 K1
    go_simp
    first | (with_reducible refine hK0 _ (wpQuiet_step (fun K1 hK1 => ?_))) | (with_reducible refine ⟨_, fun _ _ => rfl, hK0 _ (wpQuiet_step (fun K1 hK1 => ?_))⟩) | (rw [if_neg (by intro e; cases e)]; with_reducible refine hK0 _ (wpQuiet_step (fun K1 hK1 => ?_)))
    clear hK0 K0
    go_simp
    first | (with_reducible refine hK1 _ (wpQuiet_step (fun K0 hK0 => ?_))) | (with_reducible refine ⟨_, fun _ _ => rfl, hK1 _ (wpQuiet_step (fun K0 hK0 => ?_))⟩) | (rw [if_neg (by intro e; cases e)]; with_reducible refine hK1 _ (wpQuiet_step (fun K0 hK0 => ?_)))
    clear hK1 K1
    go_simp
    first | (with_reducible refine hK0 _ (wpQuiet_step (fun K1 hK1 => ?_))) | (with_reducible refine ⟨_, fun _ _ => rfl, hK0 _ (wpQuiet_step (fun K1 hK1 => ?_))⟩) | (rw [if_neg (by intro e; cases e)]; with_reducible refine hK0 _ (wpQuiet_step (fun K1 hK1 => ?_)))
    clear hK0 K0
    go_simp
    refine ⟨A p, fun W hW => ?_, hK1 _ (wpQuiet_step (fun K0 hK0 => ?_))⟩
    · (obtain ⟨_, _, u0, u1, u2⟩ := hW; simp [go_sem, u0, u1])
    clear hK1 K1
    go_simp
    refine ⟨St l2, fun W hW => ?_, hK0 _ (wpQuiet_step (fun K1 hK1 => ?_))⟩
    · exact (P6.out W (VO.step hW.1 hv)).mono fun e w4 ⟨he, hb⟩ => ⟨he, HPf.step hW hb⟩
    clear hK0 K0
    go_simp
    first | (with_reducible refine hK1 _ (wpQuiet_step (fun K0 hK0 => ?_))) | (with_reducible refine ⟨_, fun _ _ => rfl, hK1 _ (wpQuiet_step (fun K0 hK0 => ?_))⟩) | (rw [if_neg (by intro e; cases e)]; with_reducible refine hK1 _ (wpQuiet_step (fun K0 hK0 => ?_)))
    clear hK1 K1
    go_simp
    refine ⟨A p, fun W hW => ?_, hK0 _ (wpQuiet_step (fun K1 hK1 => ?_))⟩
    · (obtain ⟨_, _, u0, u1, u2⟩ := hW; simp [go_sem, u0, u1])
    clear hK0 K0
    go_simp
    refine ⟨St l2, fun W hW => ?_, hK1 _ (wpQuiet_step (fun K0 hK0 => ?_))⟩
    · exact (R6.out W).mono fun e w4 ⟨he, hb⟩ => ⟨he, HPf.step hW hb⟩
    clear hK1 K1
    go_simp
    first | (with_reducible refine hK0 _ (wpQuiet_step (fun K1 hK1 => ?_))) | (with_reducible refine ⟨_, fun _ _ => rfl, hK0 _ (wpQuiet_step (fun K1 hK1 => ?_))⟩) | (rw [if_neg (by intro e; cases e)]; with_reducible refine hK0 _ (wpQuiet_step (fun K1 hK1 => ?_)))
    clear hK0 K0
    go_simp
    first | (with_reducible refine hK1 _ (wpQuiet_step (fun K0 hK0 => ?_))) | (with_reducible refine ⟨_, fun _ _ => rfl, hK1 _ (wpQuiet_step (fun K0 hK0 => ?_))⟩) | (rw [if_neg (by intro e; cases e)]; with_reducible refine hK1 _ (wpQuiet_step (fun K0 hK0 => ?_)))
    clear hK1 K1
    go_simp
    first | (with_reducible refine hK0 _ (wpQuiet_step (fun K1 hK1 => ?_))) | (with_reducible refine ⟨_, fun _ _ => rfl, hK0 _ (wpQuiet_step (fun K1 hK1 => ?_))⟩) | (rw [if_neg (by intro e; cases e)]; with_reducible refine hK0 _ (wpQuiet_step (fun K1 hK1 => ?_)))
    clear hK0 K0
    go_simp
    first | (with_reducible refine hK1 _ (wpQuiet_step (fun K0 hK0 => ?_))) | (with_reducible refine ⟨_, fun _ _ => rfl, hK1 _ (wpQuiet_step (fun K0 hK0 => ?_))⟩) | (rw [if_neg (by intro e; cases e)]; with_reducible refine hK1 _ (wpQuiet_step (fun K0 hK0 => ?_)))
    clear hK1 K1
    go_simp
    first | (with_reducible refine hK0 _ (wpQuiet_step (fun K1 hK1 => ?_))) | (with_reducible refine ⟨_, fun _ _ => rfl, hK0 _ (wpQuiet_step (fun K1 hK1 => ?_))⟩) | (rw [if_neg (by intro e; cases e)]; with_reducible refine hK0 _ (wpQuiet_step (fun K1 hK1 => ?_)))
    clear hK0 K0
    go_simp
    refine ⟨A p, fun W hW => ?_, hK1 _ (wpQuiet_step (fun K0 hK0 => ?_))⟩
    · (obtain ⟨_, _, u0, u1, u2⟩ := hW; simp [go_sem, u0, u1])
    clear hK1 K1
    go_simp
    refine ⟨St l3, fun W hW => ?_, hK0 _ (wpQuiet_step (fun K1 hK1 => ?_))⟩
    · exact (PP.out W (VO.step hW.1 hv)).mono fun e w4 ⟨he, hb⟩ => ⟨he, HPf.step hW hb⟩
    clear hK0 K0
    go_simp
    first | (with_reducible refine hK1 _ (wpQuiet_step (fun K0 hK0 => ?_))) | (with_reducible refine ⟨_, fun _ _ => rfl, hK1 _ (wpQuiet_step (fun K0 hK0 => ?_))⟩) | (rw [if_neg (by intro e; cases e)]; with_reducible refine hK1 _ (wpQuiet_step (fun K0 hK0 => ?_)))
    clear hK1 K1
    go_simp
    first | (with_reducible refine hK0 _ (wpQuiet_step (fun K1 hK1 => ?_))) | (with_reducible refine ⟨_, fun _ _ => rfl, hK0 _ (wpQuiet_step (fun K1 hK1 => ?_))⟩) | (rw [if_neg (by intro e; cases e)]; with_reducible refine hK0 _ (wpQuiet_step (fun K1 hK1 => ?_)))
    clear hK0 K0
    go_simp
    refine ⟨A p, fun W hW => ?_, hK1 _ (wpQuiet_step (fun K0 hK0 => ?_))⟩
    · (obtain ⟨_, _, u0, u1, u2⟩ := hW; simp [go_sem, u0, u1])
    clear hK1 K1
    go_simp
    refine ⟨St l3, fun W hW => ?_, hK0 _ (wpQuiet_step (fun K1 hK1 => ?_))⟩
    · exact (RP.out W).mono fun e w4 ⟨he, hb⟩ => ⟨he, HPf.step hW hb⟩
    clear hK0 K0
    go_simp
    first | (with_reducible refine hK1 _ (wpQuiet_step (fun K0 hK0 => ?_))) | (with_reducible refine ⟨_, fun _ _ => rfl, hK1 _ (wpQuiet_step (fun K0 hK0 => ?_))⟩) | (rw [if_neg (by intro e; cases e)]; with_reducible refine hK1 _ (wpQuiet_step (fun K0 hK0 => ?_)))
    clear hK1 K1
    go_simp
    first | (with_reducible refine hK0 _ (wpQuiet_step (fun K1 hK1 => ?_))) | (with_reducible refine ⟨_, fun _ _ => rfl, hK0 _ (wpQuiet_step (fun K1 hK1 => ?_))⟩) | (rw [if_neg (by intro e; cases e)]; with_reducible refine hK0 _ (wpQuiet_step (fun K1 hK1 => ?_)))
    clear hK0 K0
    go_simp
    first | (with_reducible refine hK1 _ (wpQuiet_step (fun K0 hK0 => ?_))) | (with_reducible refine ⟨_, fun _ _ => rfl, hK1 _ (wpQuiet_step (fun K0 hK0 => ?_))⟩) | (rw [if_neg (by intro e; cases e)]; with_reducible refine hK1 _ (wpQuiet_step (fun K0 hK0 => ?_)))
    clear hK1 K1
    go_simp
    first | (with_reducible refine hK0 _ (wpQuiet_step (fun K1 hK1 => ?_))) | (with_reducible refine ⟨_, fun _ _ => rfl, hK0 _ (wpQuiet_step (fun K1 hK1 => ?_))⟩) | (rw [if_neg (by intro e; cases e)]; with_reducible refine hK0 _ (wpQuiet_step (fun K1 hK1 => ?_)))
    clear hK0 K0
    go_simp
    refine ⟨Pv p n, fun W hW => ?_, hK1 _ (wpQuiet_step (fun K0 hK0 => ?_))⟩
    · (obtain ⟨_, _, u0, u1, u2⟩ := hW; simp [go_sem, u0, u1, u2])
    clear hK1 K1
    go_simp
    refine ⟨St l4, fun W hW => ?_, hK0 _ (wpQuiet_step (fun K1 hK1 => ?_))⟩
    · exact (PX.out W (VO.step hW.1 hv)).mono fun e w4 ⟨he, hb⟩ => ⟨he, HPf.step hW hb⟩
    clear hK0 K0
    go_simp
    first | (with_reducible refine hK1 _ (wpQuiet_step (fun K0 hK0 => ?_))) | (with_reducible refine ⟨_, fun _ _ => rfl, hK1 _ (wpQuiet_step (fun K0 hK0 => ?_))⟩) | (rw [if_neg (by intro e; cases e)]; with_reducible refine hK1 _ (wpQuiet_step (fun K0 hK0 => ?_)))
    clear hK1 K1
    go_simp
    refine ⟨Pv p n, fun W hW => ?_, hK0 _ (wpQuiet_step (fun K1 hK1 => ?_))⟩
    · (obtain ⟨_, _, u0, u1, u2⟩ := hW; simp [go_sem, u0, u1, u2])
    clear hK0 K0
    go_simp
    refine ⟨St l4, fun W hW => ?_, hK1 _ (wpQuiet_step (fun K0 hK0 => ?_))⟩
    · exact (RX.out W).mono fun e w4 ⟨he, hb⟩ => ⟨he, HPf.step hW hb⟩
    clear hK1 K1
    go_simp
    first | (with_reducible refine hK0 _ (wpQuiet_step (fun K1 hK1 => ?_))) | (with_reducible refine ⟨_, fun _ _ => rfl, hK0 _ (wpQuiet_step (fun K1 hK1 => ?_))⟩) | (rw [if_neg (by intro e; cases e)]; with_reducible refine hK0 _ (wpQuiet_step (fun K1 hK1 => ?_)))
    clear hK0 K0
    go_simp
    first | (with_reducible refine hK1 _ (wpQuiet_step (fun K0 hK0 => ?_))) | (with_reducible refine ⟨_, fun _ _ => rfl, hK1 _ (wpQuiet_step (fun K0 hK0 => ?_))⟩) | (rw [if_neg (by intro e; cases e)]; with_reducible refine hK1 _ (wpQuiet_step (fun K0 hK0 => ?_)))
    clear hK1 K1
    go_simp
    first | (with_reducible refine hK0 _ (wpQuiet_step (fun K1 hK1 => ?_))) | (with_reducible refine ⟨_, fun _ _ => rfl, hK0 _ (wpQuiet_step (fun K1 hK1 => ?_))⟩) | (rw [if_neg (by intro e; cases e)]; with_reducible refine hK0 _ (wpQuiet_step (fun K1 hK1 => ?_)))
    clear hK0 K0
    go_simp
    first | (with_reducible refine hK1 _ (wpQuiet_step (fun K0 hK0 => ?_))) | (with_reducible refine ⟨_, fun _ _ => rfl, hK1 _ (wpQuiet_step (fun K0 hK0 => ?_))⟩) | (rw [if_neg (by intro e; cases e)]; with_reducible refine hK1 _ (wpQuiet_step (fun K0 hK0 => ?_)))
    clear hK1 K1
    go_simp
    refine ⟨.int .i64 n, fun W hW => ?_, hK0 _ (wpQuiet_step (fun K1 hK1 => ?_))⟩
    · (obtain ⟨_, _, u0, u1, u2⟩ := hW; simp [go_sem, u2])
    clear hK0 K0
    go_simp
    refine ⟨St l5, fun W hW => ?_, hK1 _ (wpQuiet_step (fun K0 hK0 => ?_))⟩
    · exact (NM.out W (VO.step hW.1 hv)).mono fun e w4 ⟨he, hb⟩ => ⟨he, HPf.step hW hb⟩
    clear hK1 K1
    go_simp
    first | (with_reducible refine hK0 _ (wpQuiet_step (fun K1 hK1 => ?_))) | (with_reducible refine ⟨_, fun _ _ => rfl, hK0 _ (wpQuiet_step (fun K1 hK1 => ?_))⟩) | (rw [if_neg (by intro e; cases e)]; with_reducible refine hK0 _ (wpQuiet_step (fun K1 hK1 => ?_)))
    clear hK0 K0
    go_simp
    refine ⟨.int .i64 n, fun W hW => ?_, hK1 _ (wpQuiet_step (fun K0 hK0 => ?_))⟩
    · (obtain ⟨_, _, u0, u1, u2⟩ := hW; simp [go_sem, u2])
    clear hK1 K1
    go_simp
    refine ⟨St l5, fun W hW => ?_, hK0 _ (wpQuiet_step (fun K1 hK1 => ?_))⟩
    · exact (RN.out W).mono fun e w4 ⟨he, hb⟩ => ⟨he, HPf.step hW hb⟩
    clear hK0 K0
    go_simp
    first | (with_reducible refine hK1 _ (wpQuiet_step (fun K0 hK0 => ?_))) | (with_reducible refine ⟨_, fun _ _ => rfl, hK1 _ (wpQuiet_step (fun K0 hK0 => ?_))⟩) | (rw [if_neg (by intro e; cases e)]; with_reducible refine hK1 _ (wpQuiet_step (fun K0 hK0 => ?_)))
    clear hK1 K1
    go_simp
    first | (with_reducible refine hK0 _ (wpQuiet_step (fun K1 hK1 => ?_))) | (with_reducible refine ⟨_, fun _ _ => rfl, hK0 _ (wpQuiet_step (fun K1 hK1 => ?_))⟩) | (rw [if_neg (by intro e; cases e)]; with_reducible refine hK0 _ (wpQuiet_step (fun K1 hK1 => ?_)))
    clear hK0 K0
    go_simp
    first | (with_reducible refine hK1 _ (wpQuiet_step (fun K0 hK0 => ?_))) | (with_reducible refine ⟨_, fun _ _ => rfl, hK1 _ (wpQuiet_step (fun K0 hK0 => ?_))⟩) | (rw [if_neg (by intro e; cases e)]; with_reducible refine hK1 _ (wpQuiet_step (fun K0 hK0 => ?_)))
    clear hK1 K1
    go_simp
    first | (with_reducible refine hK0 _ (wpQuiet_step (fun K1 hK1 => ?_))) | (with_reducible refine ⟨_, fun _ _ => rfl, hK0 _ (wpQuiet_step (fun K1 hK1 => ?_))⟩) | (rw [if_neg (by intro e; cases e)]; with_reducible refine hK0 _ (wpQuiet_step (fun K1 hK1 => ?_)))
    clear hK0 K0
    go_simp
    refine ⟨St l6, fun W hW => ?_, hK1 _ (wpQuiet_step (fun K0 hK0 => ?_))⟩
    · exact (HX.out W).mono fun e w4 ⟨he, hb⟩ => ⟨he, HPf.step hW hb⟩
    clear hK1 K1
    go_simp
    first | (with_reducible refine hK0 _ (wpQuiet_step (fun K1 hK1 => ?_))) | (with_reducible refine ⟨_, fun _ _ => rfl, hK0 _ (wpQuiet_step (fun K1 hK1 => ?_))⟩) | (rw [if_neg (by intro e; cases e)]; with_reducible refine hK0 _ (wpQuiet_step (fun K1 hK1 => ?_)))
    clear hK0 K0
    go_simp
    refine ⟨St l6, fun W hW => ?_, hK1 _ (wpQuiet_step (fun K0 hK0 => ?_))⟩
    · exact (RH.out W).mono fun e w4 ⟨he, hb⟩ => ⟨he, HPf.step hW hb⟩
    clear hK1 K1
    go_simp
    first | (with_reducible refine hK0 _ (wpQuiet_step (fun K1 hK1 => ?_))) | (with_reducible refine ⟨_, fun _ _ => rfl, hK0 _ (wpQuiet_step (fun K1 hK1 => ?_))⟩) | (rw [if_neg (by intro e; cases e)]; with_reducible refine hK0 _ (wpQuiet_step (fun K1 hK1 => ?_)))
    clear hK0 K0
    go_simp
    first | (with_reducible refine hK1 _ (wpQuiet_step (fun K0 hK0 => ?_))) | (with_reducible refine ⟨_, fun _ _ => rfl, hK1 _ (wpQuiet_step (fun K0 hK0 => ?_))⟩) | (rw [if_neg (by intro e; cases e)]; with_reducible refine hK1 _ (wpQuiet_step (fun K0 hK0 => ?_)))
    clear hK1 K1
    go_simp
    first | (with_reducible refine hK0 _ (wpQuiet_nil ?_)) | (with_reducible refine ⟨_, fun _ _ => rfl, hK0 _ (wpQuiet_nil ?_)⟩) | (rw [if_neg (by intro e; cases e)]; with_reducible refine hK0 _ (wpQuiet_nil ?_))
    clear hK0 K0
    intro w2 H2
    go_wp2
    go_ret
    exact ⟨rfl, H2.1⟩
end Go.Proofs.YtmapcllmiomelaaGreatDoor
