/-
  Contracts of the document's own Cmp and To4: they return what the program's return. Condition: the words are words of 64 bits (every value of the type is such).
-/
import Derived.Test.YtfmhpnendcikoaaGreatSpanRb
import Derived.BigQuiet
import Derived.Deep.QuietTactic
namespace Go.Proofs.YtfmhpnendcikoaaGreat
open Go.RowKit

set_option maxRecDepth 100000 in
set_option maxHeartbeats 1000000 in
theorem rcmp_any {a b : Nat} (ha : Fits a) (hb : Fits b) (w : World) :
    Calls Tryz.prog 58 #[A a, A b] w (Gives (.int .i64 (cmpS a b)) w) := by
  go_enter Tryz.func58, Tryz.ntmps58
  go_wp2_with fail
  go_loopw [5] (fun i wr => ∃ k : Nat, k ≤ 128 ∧ i = .int .i64 k ∧ Hid (a / 2 ^ (128 - k) = b / 2 ^ (128 - k)) ∧ H2 w a b wr) (fun i _ => 128 - (intOf i).toNat)
  case atStart => exact ⟨0, by omega, rfl, hide (cmp_start ha hb), h2_new w a b _⟩
  case round =>
    obtain ⟨k, hk, rfl, E, HH⟩ := hrel
    by_cases hlt : k < 128
    · have b1 := bitS_lt a k
      have b2 := bitS_lt b k
      have hx : bitS a k = 0 ∨ bitS a k = 1 := by omega
      have hy : bitS b k = 0 ∨ bitS b k = 1 := by omega
      clear b1 b2
      rcases hx with hx | hx
      · have HX := hide hx
        clear hx
        rcases hy with hy | hy
        · have HY := hide hy
          clear hy
          go_wp2_with fail
          refine wp_region_quiet (C := H2 w a b) (by kernel_rfl) (by kernel_rfl) (H2.drew HH) ?_
          refine wpQuiet_step (fun K hK => ?_)
          go_simp
          refine ⟨A a, fun W hW => ?_, hK _ ?_⟩
          · (obtain ⟨_, ⟨u0, u1, _⟩, v0, v1, _⟩ := hW; simp [go_sem, u0, u1])
          clear hK K
          refine wpQuiet_step (fun K hK => ?_)
          go_simp
          first | refine ⟨_, fun _ _ => rfl, hK _ ?_⟩ | refine hK _ ?_
          clear hK K
          refine wpQuiet_step (fun K hK => ?_)
          go_simp
          refine ⟨.int .u64 (0 : Nat), fun W hW => ?_, hK _ ?_⟩
          · exact (bit_nat ha k 0 hlt (by first | exact HX.out | rfl) W).mono fun e w2 ⟨he, hb⟩ => ⟨he, H2.step hb hW⟩
          clear hK K
          refine wpQuiet_step (fun K hK => ?_)
          go_simp
          refine ⟨A b, fun W hW => ?_, hK _ ?_⟩
          · (obtain ⟨_, ⟨u0, u1, _⟩, v0, v1, _⟩ := hW; simp [go_sem, v0, v1])
          clear hK K
          refine wpQuiet_step (fun K hK => ?_)
          go_simp
          first | refine ⟨_, fun _ _ => rfl, hK _ ?_⟩ | refine hK _ ?_
          clear hK K
          refine wpQuiet_step (fun K hK => ?_)
          go_simp
          refine ⟨.int .u64 (0 : Nat), fun W hW => ?_, hK _ ?_⟩
          · exact (bit_nat hb k 0 hlt (by first | exact HY.out | rfl) W).mono fun e w2 ⟨he, hb⟩ => ⟨he, H2.step hb hW⟩
          clear hK K
          refine wpQuiet_step (fun K hK => ?_)
          go_simp
          first | refine ⟨_, fun _ _ => rfl, hK _ ?_⟩ | refine hK _ ?_
          clear hK K
          refine wpQuiet_nil ?_
          intro wx HF
          go_wp2_with fail
          refine wp_region_quiet (C := H2 w a b) (by kernel_rfl) (by kernel_rfl) (H2.drew HF) ?_
          refine wpQuiet_step (fun K hK => ?_)
          go_simp
          refine ⟨A a, fun W hW => ?_, hK _ ?_⟩
          · (obtain ⟨_, ⟨u0, u1, _⟩, v0, v1, _⟩ := hW; simp [go_sem, u0, u1])
          clear hK K
          refine wpQuiet_step (fun K hK => ?_)
          go_simp
          first | refine ⟨_, fun _ _ => rfl, hK _ ?_⟩ | refine hK _ ?_
          clear hK K
          refine wpQuiet_step (fun K hK => ?_)
          go_simp
          refine ⟨.int .u64 (0 : Nat), fun W hW => ?_, hK _ ?_⟩
          · exact (bit_nat ha k 0 hlt (by first | exact HX.out | rfl) W).mono fun e w2 ⟨he, hb⟩ => ⟨he, H2.step hb hW⟩
          clear hK K
          refine wpQuiet_step (fun K hK => ?_)
          go_simp
          refine ⟨A b, fun W hW => ?_, hK _ ?_⟩
          · (obtain ⟨_, ⟨u0, u1, _⟩, v0, v1, _⟩ := hW; simp [go_sem, v0, v1])
          clear hK K
          refine wpQuiet_step (fun K hK => ?_)
          go_simp
          first | refine ⟨_, fun _ _ => rfl, hK _ ?_⟩ | refine hK _ ?_
          clear hK K
          refine wpQuiet_step (fun K hK => ?_)
          go_simp
          refine ⟨.int .u64 (0 : Nat), fun W hW => ?_, hK _ ?_⟩
          · exact (bit_nat hb k 0 hlt (by first | exact HY.out | rfl) W).mono fun e w2 ⟨he, hb⟩ => ⟨he, H2.step hb hW⟩
          clear hK K
          refine wpQuiet_step (fun K hK => ?_)
          go_simp
          first | refine ⟨_, fun _ _ => rfl, hK _ ?_⟩ | refine hK _ ?_
          clear hK K
          refine wpQuiet_nil ?_
          intro wx HF
          go_wp2
          go_roundw
          case rel => exact ⟨k + 1, by omega, by go_num, hide (cmp_on hlt E.out (by rw [HX.out, HY.out])), HF⟩
          case measure => simp [intOf]; omega
        · have HY := hide hy
          clear hy
          go_wp2_with fail
          refine wp_region_quiet (C := H2 w a b) (by kernel_rfl) (by kernel_rfl) (H2.drew HH) ?_
          refine wpQuiet_step (fun K hK => ?_)
          go_simp
          refine ⟨A a, fun W hW => ?_, hK _ ?_⟩
          · (obtain ⟨_, ⟨u0, u1, _⟩, v0, v1, _⟩ := hW; simp [go_sem, u0, u1])
          clear hK K
          refine wpQuiet_step (fun K hK => ?_)
          go_simp
          first | refine ⟨_, fun _ _ => rfl, hK _ ?_⟩ | refine hK _ ?_
          clear hK K
          refine wpQuiet_step (fun K hK => ?_)
          go_simp
          refine ⟨.int .u64 (0 : Nat), fun W hW => ?_, hK _ ?_⟩
          · exact (bit_nat ha k 0 hlt (by first | exact HX.out | rfl) W).mono fun e w2 ⟨he, hb⟩ => ⟨he, H2.step hb hW⟩
          clear hK K
          refine wpQuiet_step (fun K hK => ?_)
          go_simp
          refine ⟨A b, fun W hW => ?_, hK _ ?_⟩
          · (obtain ⟨_, ⟨u0, u1, _⟩, v0, v1, _⟩ := hW; simp [go_sem, v0, v1])
          clear hK K
          refine wpQuiet_step (fun K hK => ?_)
          go_simp
          first | refine ⟨_, fun _ _ => rfl, hK _ ?_⟩ | refine hK _ ?_
          clear hK K
          refine wpQuiet_step (fun K hK => ?_)
          go_simp
          refine ⟨.int .u64 (1 : Nat), fun W hW => ?_, hK _ ?_⟩
          · exact (bit_nat hb k 1 hlt (by first | exact HY.out | rfl) W).mono fun e w2 ⟨he, hb⟩ => ⟨he, H2.step hb hW⟩
          clear hK K
          refine wpQuiet_step (fun K hK => ?_)
          go_simp
          first | refine ⟨_, fun _ _ => rfl, hK _ ?_⟩ | refine hK _ ?_
          clear hK K
          refine wpQuiet_nil ?_
          intro wx HF
          go_wp2
          go_ret
          exact ⟨congrArg Ending.returned (i64_eq (cmpS_lt (cmp_less hlt E.out (by rw [HX.out, HY.out]; omega))).symm), HF.1⟩
      · have HX := hide hx
        clear hx
        rcases hy with hy | hy
        · have HY := hide hy
          clear hy
          go_wp2_with fail
          refine wp_region_quiet (C := H2 w a b) (by kernel_rfl) (by kernel_rfl) (H2.drew HH) ?_
          refine wpQuiet_step (fun K hK => ?_)
          go_simp
          refine ⟨A a, fun W hW => ?_, hK _ ?_⟩
          · (obtain ⟨_, ⟨u0, u1, _⟩, v0, v1, _⟩ := hW; simp [go_sem, u0, u1])
          clear hK K
          refine wpQuiet_step (fun K hK => ?_)
          go_simp
          first | refine ⟨_, fun _ _ => rfl, hK _ ?_⟩ | refine hK _ ?_
          clear hK K
          refine wpQuiet_step (fun K hK => ?_)
          go_simp
          refine ⟨.int .u64 (1 : Nat), fun W hW => ?_, hK _ ?_⟩
          · exact (bit_nat ha k 1 hlt (by first | exact HX.out | rfl) W).mono fun e w2 ⟨he, hb⟩ => ⟨he, H2.step hb hW⟩
          clear hK K
          refine wpQuiet_step (fun K hK => ?_)
          go_simp
          refine ⟨A b, fun W hW => ?_, hK _ ?_⟩
          · (obtain ⟨_, ⟨u0, u1, _⟩, v0, v1, _⟩ := hW; simp [go_sem, v0, v1])
          clear hK K
          refine wpQuiet_step (fun K hK => ?_)
          go_simp
          first | refine ⟨_, fun _ _ => rfl, hK _ ?_⟩ | refine hK _ ?_
          clear hK K
          refine wpQuiet_step (fun K hK => ?_)
          go_simp
          refine ⟨.int .u64 (0 : Nat), fun W hW => ?_, hK _ ?_⟩
          · exact (bit_nat hb k 0 hlt (by first | exact HY.out | rfl) W).mono fun e w2 ⟨he, hb⟩ => ⟨he, H2.step hb hW⟩
          clear hK K
          refine wpQuiet_step (fun K hK => ?_)
          go_simp
          first | refine ⟨_, fun _ _ => rfl, hK _ ?_⟩ | refine hK _ ?_
          clear hK K
          refine wpQuiet_nil ?_
          intro wx HF
          go_wp2_with fail
          refine wp_region_quiet (C := H2 w a b) (by kernel_rfl) (by kernel_rfl) (H2.drew HF) ?_
          refine wpQuiet_step (fun K hK => ?_)
          go_simp
          refine ⟨A a, fun W hW => ?_, hK _ ?_⟩
          · (obtain ⟨_, ⟨u0, u1, _⟩, v0, v1, _⟩ := hW; simp [go_sem, u0, u1])
          clear hK K
          refine wpQuiet_step (fun K hK => ?_)
          go_simp
          first | refine ⟨_, fun _ _ => rfl, hK _ ?_⟩ | refine hK _ ?_
          clear hK K
          refine wpQuiet_step (fun K hK => ?_)
          go_simp
          refine ⟨.int .u64 (1 : Nat), fun W hW => ?_, hK _ ?_⟩
          · exact (bit_nat ha k 1 hlt (by first | exact HX.out | rfl) W).mono fun e w2 ⟨he, hb⟩ => ⟨he, H2.step hb hW⟩
          clear hK K
          refine wpQuiet_step (fun K hK => ?_)
          go_simp
          refine ⟨A b, fun W hW => ?_, hK _ ?_⟩
          · (obtain ⟨_, ⟨u0, u1, _⟩, v0, v1, _⟩ := hW; simp [go_sem, v0, v1])
          clear hK K
          refine wpQuiet_step (fun K hK => ?_)
          go_simp
          first | refine ⟨_, fun _ _ => rfl, hK _ ?_⟩ | refine hK _ ?_
          clear hK K
          refine wpQuiet_step (fun K hK => ?_)
          go_simp
          refine ⟨.int .u64 (0 : Nat), fun W hW => ?_, hK _ ?_⟩
          · exact (bit_nat hb k 0 hlt (by first | exact HY.out | rfl) W).mono fun e w2 ⟨he, hb⟩ => ⟨he, H2.step hb hW⟩
          clear hK K
          refine wpQuiet_step (fun K hK => ?_)
          go_simp
          first | refine ⟨_, fun _ _ => rfl, hK _ ?_⟩ | refine hK _ ?_
          clear hK K
          refine wpQuiet_nil ?_
          intro wx HF
          go_wp2
          go_ret
          exact ⟨congrArg Ending.returned (i64_eq (cmpS_gt (cmp_less hlt E.out.symm (by rw [HX.out, HY.out]; omega))).symm), HF.1⟩
        · have HY := hide hy
          clear hy
          go_wp2_with fail
          refine wp_region_quiet (C := H2 w a b) (by kernel_rfl) (by kernel_rfl) (H2.drew HH) ?_
          refine wpQuiet_step (fun K hK => ?_)
          go_simp
          refine ⟨A a, fun W hW => ?_, hK _ ?_⟩
          · (obtain ⟨_, ⟨u0, u1, _⟩, v0, v1, _⟩ := hW; simp [go_sem, u0, u1])
          clear hK K
          refine wpQuiet_step (fun K hK => ?_)
          go_simp
          first | refine ⟨_, fun _ _ => rfl, hK _ ?_⟩ | refine hK _ ?_
          clear hK K
          refine wpQuiet_step (fun K hK => ?_)
          go_simp
          refine ⟨.int .u64 (1 : Nat), fun W hW => ?_, hK _ ?_⟩
          · exact (bit_nat ha k 1 hlt (by first | exact HX.out | rfl) W).mono fun e w2 ⟨he, hb⟩ => ⟨he, H2.step hb hW⟩
          clear hK K
          refine wpQuiet_step (fun K hK => ?_)
          go_simp
          refine ⟨A b, fun W hW => ?_, hK _ ?_⟩
          · (obtain ⟨_, ⟨u0, u1, _⟩, v0, v1, _⟩ := hW; simp [go_sem, v0, v1])
          clear hK K
          refine wpQuiet_step (fun K hK => ?_)
          go_simp
          first | refine ⟨_, fun _ _ => rfl, hK _ ?_⟩ | refine hK _ ?_
          clear hK K
          refine wpQuiet_step (fun K hK => ?_)
          go_simp
          refine ⟨.int .u64 (1 : Nat), fun W hW => ?_, hK _ ?_⟩
          · exact (bit_nat hb k 1 hlt (by first | exact HY.out | rfl) W).mono fun e w2 ⟨he, hb⟩ => ⟨he, H2.step hb hW⟩
          clear hK K
          refine wpQuiet_step (fun K hK => ?_)
          go_simp
          first | refine ⟨_, fun _ _ => rfl, hK _ ?_⟩ | refine hK _ ?_
          clear hK K
          refine wpQuiet_nil ?_
          intro wx HF
          go_wp2_with fail
          refine wp_region_quiet (C := H2 w a b) (by kernel_rfl) (by kernel_rfl) (H2.drew HF) ?_
          refine wpQuiet_step (fun K hK => ?_)
          go_simp
          refine ⟨A a, fun W hW => ?_, hK _ ?_⟩
          · (obtain ⟨_, ⟨u0, u1, _⟩, v0, v1, _⟩ := hW; simp [go_sem, u0, u1])
          clear hK K
          refine wpQuiet_step (fun K hK => ?_)
          go_simp
          first | refine ⟨_, fun _ _ => rfl, hK _ ?_⟩ | refine hK _ ?_
          clear hK K
          refine wpQuiet_step (fun K hK => ?_)
          go_simp
          refine ⟨.int .u64 (1 : Nat), fun W hW => ?_, hK _ ?_⟩
          · exact (bit_nat ha k 1 hlt (by first | exact HX.out | rfl) W).mono fun e w2 ⟨he, hb⟩ => ⟨he, H2.step hb hW⟩
          clear hK K
          refine wpQuiet_step (fun K hK => ?_)
          go_simp
          refine ⟨A b, fun W hW => ?_, hK _ ?_⟩
          · (obtain ⟨_, ⟨u0, u1, _⟩, v0, v1, _⟩ := hW; simp [go_sem, v0, v1])
          clear hK K
          refine wpQuiet_step (fun K hK => ?_)
          go_simp
          first | refine ⟨_, fun _ _ => rfl, hK _ ?_⟩ | refine hK _ ?_
          clear hK K
          refine wpQuiet_step (fun K hK => ?_)
          go_simp
          refine ⟨.int .u64 (1 : Nat), fun W hW => ?_, hK _ ?_⟩
          · exact (bit_nat hb k 1 hlt (by first | exact HY.out | rfl) W).mono fun e w2 ⟨he, hb⟩ => ⟨he, H2.step hb hW⟩
          clear hK K
          refine wpQuiet_step (fun K hK => ?_)
          go_simp
          first | refine ⟨_, fun _ _ => rfl, hK _ ?_⟩ | refine hK _ ?_
          clear hK K
          refine wpQuiet_nil ?_
          intro wx HF
          go_wp2
          go_roundw
          case rel => exact ⟨k + 1, by omega, by go_num, hide (cmp_on hlt E.out (by rw [HX.out, HY.out])), HF⟩
          case measure => simp [intOf]; omega
    · have e : k = 128 := by omega
      subst e
      go_wp2
      go_ret
      exact ⟨congrArg Ending.returned (i64_eq (cmpS_eq (cmp_end E.out)).symm), HH.1⟩

end Go.Proofs.YtfmhpnendcikoaaGreat
