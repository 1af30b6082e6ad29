/-
  Contract of the document's own Add: it returns what the program's returns. Condition: the words are words of 64 bits (every value of the type is such).
-/
import Derived.Test.YtfmhpnendcikoaaGreatSpanRb
import Derived.BigQuiet
import Derived.Deep.QuietTactic
namespace Go.Proofs.YtfmhpnendcikoaaGreat
open Go.RowKit

set_option maxRecDepth 100000 in
set_option maxHeartbeats 1000000 in
theorem radd_any {a b : Nat} (ha : Fits a) (hb : Fits b) (w : World) :
    Calls Tryz.prog 53 #[A a, A b] w (Gives (.tuple #[A (addS a b), .bool (addO a b)]) w) := by
  go_enter Tryz.func53, Tryz.ntmps53
  go_wp2_with fail
  go_loopw [7, 8] (fun c i wr => ∃ k x z : Nat, k ≤ 128 ∧ i = .int .i64 (127 - (k : Nat)) ∧ c = .int .u64 (z : Nat) ∧ Hid (SumR a b k x z) ∧ H4 w a b x wr) (fun _ i _ => (intOf i + 1).toNat)
  case atStart => exact ⟨0, 0, 0, by omega, rfl, rfl, hide (sum_start a b), h4_new w a b _⟩
  case round =>
    obtain ⟨k, x, z, hk, rfl, rfl, E, HH⟩ := hrel
    obtain ⟨⟨HB, ⟨a0, a1, a2, a3, a4⟩, b0, b1, b2, b3, b4⟩, ⟨c0, c1, c2, c3, c4⟩, d0, d1, d2, d3, d4⟩ := id HH
    by_cases hlt : k < 128
    · have p0 : (0 : Int) ≤ 127 - (k : Int) := by omega
      have p1 : 127 - (k : Int) ≤ 127 := by omega
      have HX := hide (low_fits hk E.out.1)
      have hx := bitL_01 a k
      have hy := bitL_01 b k
      rcases E.out.2.1 with rfl | rfl
      · rcases hx with hx | hx
        · have A1 := hide hx
          clear hx
          rcases hy with hy | hy
          · have B1 := hide hy
            clear hy
            go_wp2_with fail
            refine wp_region_quiet (C := H4 w a b x) (by kernel_rfl) (by kernel_rfl) (H4.drew HH) ?_
            refine wpQuiet_step (fun K hK => ?_)
            go_simp
            refine ⟨A a, fun W hW => ?_, hK _ ?_⟩
            · (obtain ⟨⟨_, ⟨u0, u1, _⟩, v0, v1, _⟩, _⟩ := hW; simp [go_sem, u0, u1])
            clear hK K
            refine wpQuiet_step (fun K hK => ?_)
            go_simp
            first | refine ⟨_, fun _ _ => rfl, hK _ ?_⟩ | refine hK _ ?_
            clear hK K
            refine wpQuiet_step (fun K hK => ?_)
            go_simp
            refine ⟨.int .u64 (0 : Nat), fun W hW => ?_, hK _ ?_⟩
            · exact (bit_low ha k 0 hlt A1.out W).mono fun e w2 ⟨he, hb⟩ => ⟨he, H4.step hb hW⟩
            clear hK K
            refine wpQuiet_step (fun K hK => ?_)
            go_simp
            refine ⟨A b, fun W hW => ?_, hK _ ?_⟩
            · (obtain ⟨⟨_, ⟨u0, u1, _⟩, v0, v1, _⟩, _⟩ := hW; simp [go_sem, v0, v1])
            clear hK K
            refine wpQuiet_step (fun K hK => ?_)
            go_simp
            first | refine ⟨_, fun _ _ => rfl, hK _ ?_⟩ | refine hK _ ?_
            clear hK K
            refine wpQuiet_step (fun K hK => ?_)
            go_simp
            refine ⟨.int .u64 (0 : Nat), fun W hW => ?_, hK _ ?_⟩
            · exact (bit_low hb k 0 hlt B1.out W).mono fun e w2 ⟨he, hb⟩ => ⟨he, H4.step hb hW⟩
            clear hK K
            refine wpQuiet_step (fun K hK => ?_)
            go_simp
            first | refine ⟨_, fun _ _ => rfl, hK _ ?_⟩ | refine hK _ ?_
            clear hK K
            refine wpQuiet_step (fun K hK => ?_)
            go_simp
            first | refine ⟨_, fun _ _ => rfl, hK _ ?_⟩ | refine hK _ ?_
            clear hK K
            refine wpQuiet_step (fun K hK => ?_)
            go_simp
            first | refine ⟨_, fun _ _ => rfl, hK _ ?_⟩ | refine hK _ ?_
            clear hK K
            refine wpQuiet_step (fun K hK => ?_)
            go_simp
            first | refine ⟨_, fun _ _ => rfl, hK _ ?_⟩ | refine hK _ ?_
            clear hK K
            refine wpQuiet_nil ?_
            intro wx HF
            clear a0 a1 a2 a3 a4 b0 b1 b2 b3 b4 c0 c1 c2 c3 c4 d0 d1 d2 d3 d4 HB
            obtain ⟨⟨HB, ⟨a0, a1, a2, a3, a4⟩, b0, b1, b2, b3, b4⟩, ⟨c0, c1, c2, c3, c4⟩, d0, d1, d2, d3, d4⟩ := id HF
            have N := sum_skip E.out (by rw [A1.out, B1.out]; omega)
            rw [A1.out, B1.out] at N
            have N := hide N
            go_wp2
            go_roundw
            case rel => exact ⟨k + 1, x, 0, by omega, by go_num, rfl, N, HF⟩
            case measure => simp [intOf]; omega
          · have B1 := hide hy
            clear hy
            go_wp2_with fail
            refine wp_region_quiet (C := H4 w a b x) (by kernel_rfl) (by kernel_rfl) (H4.drew HH) ?_
            refine wpQuiet_step (fun K hK => ?_)
            go_simp
            refine ⟨A a, fun W hW => ?_, hK _ ?_⟩
            · (obtain ⟨⟨_, ⟨u0, u1, _⟩, v0, v1, _⟩, _⟩ := hW; simp [go_sem, u0, u1])
            clear hK K
            refine wpQuiet_step (fun K hK => ?_)
            go_simp
            first | refine ⟨_, fun _ _ => rfl, hK _ ?_⟩ | refine hK _ ?_
            clear hK K
            refine wpQuiet_step (fun K hK => ?_)
            go_simp
            refine ⟨.int .u64 (0 : Nat), fun W hW => ?_, hK _ ?_⟩
            · exact (bit_low ha k 0 hlt A1.out W).mono fun e w2 ⟨he, hb⟩ => ⟨he, H4.step hb hW⟩
            clear hK K
            refine wpQuiet_step (fun K hK => ?_)
            go_simp
            refine ⟨A b, fun W hW => ?_, hK _ ?_⟩
            · (obtain ⟨⟨_, ⟨u0, u1, _⟩, v0, v1, _⟩, _⟩ := hW; simp [go_sem, v0, v1])
            clear hK K
            refine wpQuiet_step (fun K hK => ?_)
            go_simp
            first | refine ⟨_, fun _ _ => rfl, hK _ ?_⟩ | refine hK _ ?_
            clear hK K
            refine wpQuiet_step (fun K hK => ?_)
            go_simp
            refine ⟨.int .u64 (1 : Nat), fun W hW => ?_, hK _ ?_⟩
            · exact (bit_low hb k 1 hlt B1.out W).mono fun e w2 ⟨he, hb⟩ => ⟨he, H4.step hb hW⟩
            clear hK K
            refine wpQuiet_step (fun K hK => ?_)
            go_simp
            first | refine ⟨_, fun _ _ => rfl, hK _ ?_⟩ | refine hK _ ?_
            clear hK K
            refine wpQuiet_step (fun K hK => ?_)
            go_simp
            first | refine ⟨_, fun _ _ => rfl, hK _ ?_⟩ | refine hK _ ?_
            clear hK K
            refine wpQuiet_step (fun K hK => ?_)
            go_simp
            first | refine ⟨_, fun _ _ => rfl, hK _ ?_⟩ | refine hK _ ?_
            clear hK K
            refine wpQuiet_step (fun K hK => ?_)
            go_simp
            first | refine ⟨_, fun _ _ => rfl, hK _ ?_⟩ | refine hK _ ?_
            clear hK K
            refine wpQuiet_nil ?_
            intro wx HF
            clear a0 a1 a2 a3 a4 b0 b1 b2 b3 b4 c0 c1 c2 c3 c4 d0 d1 d2 d3 d4 HB
            obtain ⟨⟨HB, ⟨a0, a1, a2, a3, a4⟩, b0, b1, b2, b3, b4⟩, ⟨c0, c1, c2, c3, c4⟩, d0, d1, d2, d3, d4⟩ := id HF
            go_wp2_with fail
            refine (with_low' HX.out k hlt _).mono ?_
            rintro e w2 ⟨rfl, hb2⟩
            clear a0 a1 a2 a3 a4 b0 b1 b2 b3 b4 c0 c1 c2 c3 c4 d0 d1 d2 d3 d4 HB
            have HG := H4.step hb2 HF
            obtain ⟨⟨HB, ⟨a0, a1, a2, a3, a4⟩, b0, b1, b2, b3, b4⟩, ⟨c0, c1, c2, c3, c4⟩, d0, d1, d2, d3, d4⟩ := id HG
            have N := sum_set hlt E.out (by rw [A1.out, B1.out])
            rw [A1.out, B1.out] at N
            have N := hide N
            go_wp2
            go_roundw
            case rel => exact ⟨k + 1, _, 0, by omega, by go_num, rfl, N, HG.put _⟩
            case measure => simp [intOf]; omega
        · have A1 := hide hx
          clear hx
          rcases hy with hy | hy
          · have B1 := hide hy
            clear hy
            go_wp2_with fail
            refine wp_region_quiet (C := H4 w a b x) (by kernel_rfl) (by kernel_rfl) (H4.drew HH) ?_
            refine wpQuiet_step (fun K hK => ?_)
            go_simp
            refine ⟨A a, fun W hW => ?_, hK _ ?_⟩
            · (obtain ⟨⟨_, ⟨u0, u1, _⟩, v0, v1, _⟩, _⟩ := hW; simp [go_sem, u0, u1])
            clear hK K
            refine wpQuiet_step (fun K hK => ?_)
            go_simp
            first | refine ⟨_, fun _ _ => rfl, hK _ ?_⟩ | refine hK _ ?_
            clear hK K
            refine wpQuiet_step (fun K hK => ?_)
            go_simp
            refine ⟨.int .u64 (1 : Nat), fun W hW => ?_, hK _ ?_⟩
            · exact (bit_low ha k 1 hlt A1.out W).mono fun e w2 ⟨he, hb⟩ => ⟨he, H4.step hb hW⟩
            clear hK K
            refine wpQuiet_step (fun K hK => ?_)
            go_simp
            refine ⟨A b, fun W hW => ?_, hK _ ?_⟩
            · (obtain ⟨⟨_, ⟨u0, u1, _⟩, v0, v1, _⟩, _⟩ := hW; simp [go_sem, v0, v1])
            clear hK K
            refine wpQuiet_step (fun K hK => ?_)
            go_simp
            first | refine ⟨_, fun _ _ => rfl, hK _ ?_⟩ | refine hK _ ?_
            clear hK K
            refine wpQuiet_step (fun K hK => ?_)
            go_simp
            refine ⟨.int .u64 (0 : Nat), fun W hW => ?_, hK _ ?_⟩
            · exact (bit_low hb k 0 hlt B1.out W).mono fun e w2 ⟨he, hb⟩ => ⟨he, H4.step hb hW⟩
            clear hK K
            refine wpQuiet_step (fun K hK => ?_)
            go_simp
            first | refine ⟨_, fun _ _ => rfl, hK _ ?_⟩ | refine hK _ ?_
            clear hK K
            refine wpQuiet_step (fun K hK => ?_)
            go_simp
            first | refine ⟨_, fun _ _ => rfl, hK _ ?_⟩ | refine hK _ ?_
            clear hK K
            refine wpQuiet_step (fun K hK => ?_)
            go_simp
            first | refine ⟨_, fun _ _ => rfl, hK _ ?_⟩ | refine hK _ ?_
            clear hK K
            refine wpQuiet_step (fun K hK => ?_)
            go_simp
            first | refine ⟨_, fun _ _ => rfl, hK _ ?_⟩ | refine hK _ ?_
            clear hK K
            refine wpQuiet_nil ?_
            intro wx HF
            clear a0 a1 a2 a3 a4 b0 b1 b2 b3 b4 c0 c1 c2 c3 c4 d0 d1 d2 d3 d4 HB
            obtain ⟨⟨HB, ⟨a0, a1, a2, a3, a4⟩, b0, b1, b2, b3, b4⟩, ⟨c0, c1, c2, c3, c4⟩, d0, d1, d2, d3, d4⟩ := id HF
            go_wp2_with fail
            refine (with_low' HX.out k hlt _).mono ?_
            rintro e w2 ⟨rfl, hb2⟩
            clear a0 a1 a2 a3 a4 b0 b1 b2 b3 b4 c0 c1 c2 c3 c4 d0 d1 d2 d3 d4 HB
            have HG := H4.step hb2 HF
            obtain ⟨⟨HB, ⟨a0, a1, a2, a3, a4⟩, b0, b1, b2, b3, b4⟩, ⟨c0, c1, c2, c3, c4⟩, d0, d1, d2, d3, d4⟩ := id HG
            have N := sum_set hlt E.out (by rw [A1.out, B1.out])
            rw [A1.out, B1.out] at N
            have N := hide N
            go_wp2
            go_roundw
            case rel => exact ⟨k + 1, _, 0, by omega, by go_num, rfl, N, HG.put _⟩
            case measure => simp [intOf]; omega
          · have B1 := hide hy
            clear hy
            go_wp2_with fail
            refine wp_region_quiet (C := H4 w a b x) (by kernel_rfl) (by kernel_rfl) (H4.drew HH) ?_
            refine wpQuiet_step (fun K hK => ?_)
            go_simp
            refine ⟨A a, fun W hW => ?_, hK _ ?_⟩
            · (obtain ⟨⟨_, ⟨u0, u1, _⟩, v0, v1, _⟩, _⟩ := hW; simp [go_sem, u0, u1])
            clear hK K
            refine wpQuiet_step (fun K hK => ?_)
            go_simp
            first | refine ⟨_, fun _ _ => rfl, hK _ ?_⟩ | refine hK _ ?_
            clear hK K
            refine wpQuiet_step (fun K hK => ?_)
            go_simp
            refine ⟨.int .u64 (1 : Nat), fun W hW => ?_, hK _ ?_⟩
            · exact (bit_low ha k 1 hlt A1.out W).mono fun e w2 ⟨he, hb⟩ => ⟨he, H4.step hb hW⟩
            clear hK K
            refine wpQuiet_step (fun K hK => ?_)
            go_simp
            refine ⟨A b, fun W hW => ?_, hK _ ?_⟩
            · (obtain ⟨⟨_, ⟨u0, u1, _⟩, v0, v1, _⟩, _⟩ := hW; simp [go_sem, v0, v1])
            clear hK K
            refine wpQuiet_step (fun K hK => ?_)
            go_simp
            first | refine ⟨_, fun _ _ => rfl, hK _ ?_⟩ | refine hK _ ?_
            clear hK K
            refine wpQuiet_step (fun K hK => ?_)
            go_simp
            refine ⟨.int .u64 (1 : Nat), fun W hW => ?_, hK _ ?_⟩
            · exact (bit_low hb k 1 hlt B1.out W).mono fun e w2 ⟨he, hb⟩ => ⟨he, H4.step hb hW⟩
            clear hK K
            refine wpQuiet_step (fun K hK => ?_)
            go_simp
            first | refine ⟨_, fun _ _ => rfl, hK _ ?_⟩ | refine hK _ ?_
            clear hK K
            refine wpQuiet_step (fun K hK => ?_)
            go_simp
            first | refine ⟨_, fun _ _ => rfl, hK _ ?_⟩ | refine hK _ ?_
            clear hK K
            refine wpQuiet_step (fun K hK => ?_)
            go_simp
            first | refine ⟨_, fun _ _ => rfl, hK _ ?_⟩ | refine hK _ ?_
            clear hK K
            refine wpQuiet_step (fun K hK => ?_)
            go_simp
            first | refine ⟨_, fun _ _ => rfl, hK _ ?_⟩ | refine hK _ ?_
            clear hK K
            refine wpQuiet_nil ?_
            intro wx HF
            clear a0 a1 a2 a3 a4 b0 b1 b2 b3 b4 c0 c1 c2 c3 c4 d0 d1 d2 d3 d4 HB
            obtain ⟨⟨HB, ⟨a0, a1, a2, a3, a4⟩, b0, b1, b2, b3, b4⟩, ⟨c0, c1, c2, c3, c4⟩, d0, d1, d2, d3, d4⟩ := id HF
            have N := sum_skip E.out (by rw [A1.out, B1.out]; omega)
            rw [A1.out, B1.out] at N
            have N := hide N
            go_wp2
            go_roundw
            case rel => exact ⟨k + 1, x, 1, by omega, by go_num, rfl, N, HF⟩
            case measure => simp [intOf]; omega
      · rcases hx with hx | hx
        · have A1 := hide hx
          clear hx
          rcases hy with hy | hy
          · have B1 := hide hy
            clear hy
            go_wp2_with fail
            refine wp_region_quiet (C := H4 w a b x) (by kernel_rfl) (by kernel_rfl) (H4.drew HH) ?_
            refine wpQuiet_step (fun K hK => ?_)
            go_simp
            refine ⟨A a, fun W hW => ?_, hK _ ?_⟩
            · (obtain ⟨⟨_, ⟨u0, u1, _⟩, v0, v1, _⟩, _⟩ := hW; simp [go_sem, u0, u1])
            clear hK K
            refine wpQuiet_step (fun K hK => ?_)
            go_simp
            first | refine ⟨_, fun _ _ => rfl, hK _ ?_⟩ | refine hK _ ?_
            clear hK K
            refine wpQuiet_step (fun K hK => ?_)
            go_simp
            refine ⟨.int .u64 (0 : Nat), fun W hW => ?_, hK _ ?_⟩
            · exact (bit_low ha k 0 hlt A1.out W).mono fun e w2 ⟨he, hb⟩ => ⟨he, H4.step hb hW⟩
            clear hK K
            refine wpQuiet_step (fun K hK => ?_)
            go_simp
            refine ⟨A b, fun W hW => ?_, hK _ ?_⟩
            · (obtain ⟨⟨_, ⟨u0, u1, _⟩, v0, v1, _⟩, _⟩ := hW; simp [go_sem, v0, v1])
            clear hK K
            refine wpQuiet_step (fun K hK => ?_)
            go_simp
            first | refine ⟨_, fun _ _ => rfl, hK _ ?_⟩ | refine hK _ ?_
            clear hK K
            refine wpQuiet_step (fun K hK => ?_)
            go_simp
            refine ⟨.int .u64 (0 : Nat), fun W hW => ?_, hK _ ?_⟩
            · exact (bit_low hb k 0 hlt B1.out W).mono fun e w2 ⟨he, hb⟩ => ⟨he, H4.step hb hW⟩
            clear hK K
            refine wpQuiet_step (fun K hK => ?_)
            go_simp
            first | refine ⟨_, fun _ _ => rfl, hK _ ?_⟩ | refine hK _ ?_
            clear hK K
            refine wpQuiet_step (fun K hK => ?_)
            go_simp
            first | refine ⟨_, fun _ _ => rfl, hK _ ?_⟩ | refine hK _ ?_
            clear hK K
            refine wpQuiet_step (fun K hK => ?_)
            go_simp
            first | refine ⟨_, fun _ _ => rfl, hK _ ?_⟩ | refine hK _ ?_
            clear hK K
            refine wpQuiet_step (fun K hK => ?_)
            go_simp
            first | refine ⟨_, fun _ _ => rfl, hK _ ?_⟩ | refine hK _ ?_
            clear hK K
            refine wpQuiet_nil ?_
            intro wx HF
            clear a0 a1 a2 a3 a4 b0 b1 b2 b3 b4 c0 c1 c2 c3 c4 d0 d1 d2 d3 d4 HB
            obtain ⟨⟨HB, ⟨a0, a1, a2, a3, a4⟩, b0, b1, b2, b3, b4⟩, ⟨c0, c1, c2, c3, c4⟩, d0, d1, d2, d3, d4⟩ := id HF
            go_wp2_with fail
            refine (with_low' HX.out k hlt _).mono ?_
            rintro e w2 ⟨rfl, hb2⟩
            clear a0 a1 a2 a3 a4 b0 b1 b2 b3 b4 c0 c1 c2 c3 c4 d0 d1 d2 d3 d4 HB
            have HG := H4.step hb2 HF
            obtain ⟨⟨HB, ⟨a0, a1, a2, a3, a4⟩, b0, b1, b2, b3, b4⟩, ⟨c0, c1, c2, c3, c4⟩, d0, d1, d2, d3, d4⟩ := id HG
            have N := sum_set hlt E.out (by rw [A1.out, B1.out])
            rw [A1.out, B1.out] at N
            have N := hide N
            go_wp2
            go_roundw
            case rel => exact ⟨k + 1, _, 0, by omega, by go_num, rfl, N, HG.put _⟩
            case measure => simp [intOf]; omega
          · have B1 := hide hy
            clear hy
            go_wp2_with fail
            refine wp_region_quiet (C := H4 w a b x) (by kernel_rfl) (by kernel_rfl) (H4.drew HH) ?_
            refine wpQuiet_step (fun K hK => ?_)
            go_simp
            refine ⟨A a, fun W hW => ?_, hK _ ?_⟩
            · (obtain ⟨⟨_, ⟨u0, u1, _⟩, v0, v1, _⟩, _⟩ := hW; simp [go_sem, u0, u1])
            clear hK K
            refine wpQuiet_step (fun K hK => ?_)
            go_simp
            first | refine ⟨_, fun _ _ => rfl, hK _ ?_⟩ | refine hK _ ?_
            clear hK K
            refine wpQuiet_step (fun K hK => ?_)
            go_simp
            refine ⟨.int .u64 (0 : Nat), fun W hW => ?_, hK _ ?_⟩
            · exact (bit_low ha k 0 hlt A1.out W).mono fun e w2 ⟨he, hb⟩ => ⟨he, H4.step hb hW⟩
            clear hK K
            refine wpQuiet_step (fun K hK => ?_)
            go_simp
            refine ⟨A b, fun W hW => ?_, hK _ ?_⟩
            · (obtain ⟨⟨_, ⟨u0, u1, _⟩, v0, v1, _⟩, _⟩ := hW; simp [go_sem, v0, v1])
            clear hK K
            refine wpQuiet_step (fun K hK => ?_)
            go_simp
            first | refine ⟨_, fun _ _ => rfl, hK _ ?_⟩ | refine hK _ ?_
            clear hK K
            refine wpQuiet_step (fun K hK => ?_)
            go_simp
            refine ⟨.int .u64 (1 : Nat), fun W hW => ?_, hK _ ?_⟩
            · exact (bit_low hb k 1 hlt B1.out W).mono fun e w2 ⟨he, hb⟩ => ⟨he, H4.step hb hW⟩
            clear hK K
            refine wpQuiet_step (fun K hK => ?_)
            go_simp
            first | refine ⟨_, fun _ _ => rfl, hK _ ?_⟩ | refine hK _ ?_
            clear hK K
            refine wpQuiet_step (fun K hK => ?_)
            go_simp
            first | refine ⟨_, fun _ _ => rfl, hK _ ?_⟩ | refine hK _ ?_
            clear hK K
            refine wpQuiet_step (fun K hK => ?_)
            go_simp
            first | refine ⟨_, fun _ _ => rfl, hK _ ?_⟩ | refine hK _ ?_
            clear hK K
            refine wpQuiet_step (fun K hK => ?_)
            go_simp
            first | refine ⟨_, fun _ _ => rfl, hK _ ?_⟩ | refine hK _ ?_
            clear hK K
            refine wpQuiet_nil ?_
            intro wx HF
            clear a0 a1 a2 a3 a4 b0 b1 b2 b3 b4 c0 c1 c2 c3 c4 d0 d1 d2 d3 d4 HB
            obtain ⟨⟨HB, ⟨a0, a1, a2, a3, a4⟩, b0, b1, b2, b3, b4⟩, ⟨c0, c1, c2, c3, c4⟩, d0, d1, d2, d3, d4⟩ := id HF
            have N := sum_skip E.out (by rw [A1.out, B1.out]; omega)
            rw [A1.out, B1.out] at N
            have N := hide N
            go_wp2
            go_roundw
            case rel => exact ⟨k + 1, x, 1, by omega, by go_num, rfl, N, HF⟩
            case measure => simp [intOf]; omega
        · have A1 := hide hx
          clear hx
          rcases hy with hy | hy
          · have B1 := hide hy
            clear hy
            go_wp2_with fail
            refine wp_region_quiet (C := H4 w a b x) (by kernel_rfl) (by kernel_rfl) (H4.drew HH) ?_
            refine wpQuiet_step (fun K hK => ?_)
            go_simp
            refine ⟨A a, fun W hW => ?_, hK _ ?_⟩
            · (obtain ⟨⟨_, ⟨u0, u1, _⟩, v0, v1, _⟩, _⟩ := hW; simp [go_sem, u0, u1])
            clear hK K
            refine wpQuiet_step (fun K hK => ?_)
            go_simp
            first | refine ⟨_, fun _ _ => rfl, hK _ ?_⟩ | refine hK _ ?_
            clear hK K
            refine wpQuiet_step (fun K hK => ?_)
            go_simp
            refine ⟨.int .u64 (1 : Nat), fun W hW => ?_, hK _ ?_⟩
            · exact (bit_low ha k 1 hlt A1.out W).mono fun e w2 ⟨he, hb⟩ => ⟨he, H4.step hb hW⟩
            clear hK K
            refine wpQuiet_step (fun K hK => ?_)
            go_simp
            refine ⟨A b, fun W hW => ?_, hK _ ?_⟩
            · (obtain ⟨⟨_, ⟨u0, u1, _⟩, v0, v1, _⟩, _⟩ := hW; simp [go_sem, v0, v1])
            clear hK K
            refine wpQuiet_step (fun K hK => ?_)
            go_simp
            first | refine ⟨_, fun _ _ => rfl, hK _ ?_⟩ | refine hK _ ?_
            clear hK K
            refine wpQuiet_step (fun K hK => ?_)
            go_simp
            refine ⟨.int .u64 (0 : Nat), fun W hW => ?_, hK _ ?_⟩
            · exact (bit_low hb k 0 hlt B1.out W).mono fun e w2 ⟨he, hb⟩ => ⟨he, H4.step hb hW⟩
            clear hK K
            refine wpQuiet_step (fun K hK => ?_)
            go_simp
            first | refine ⟨_, fun _ _ => rfl, hK _ ?_⟩ | refine hK _ ?_
            clear hK K
            refine wpQuiet_step (fun K hK => ?_)
            go_simp
            first | refine ⟨_, fun _ _ => rfl, hK _ ?_⟩ | refine hK _ ?_
            clear hK K
            refine wpQuiet_step (fun K hK => ?_)
            go_simp
            first | refine ⟨_, fun _ _ => rfl, hK _ ?_⟩ | refine hK _ ?_
            clear hK K
            refine wpQuiet_step (fun K hK => ?_)
            go_simp
            first | refine ⟨_, fun _ _ => rfl, hK _ ?_⟩ | refine hK _ ?_
            clear hK K
            refine wpQuiet_nil ?_
            intro wx HF
            clear a0 a1 a2 a3 a4 b0 b1 b2 b3 b4 c0 c1 c2 c3 c4 d0 d1 d2 d3 d4 HB
            obtain ⟨⟨HB, ⟨a0, a1, a2, a3, a4⟩, b0, b1, b2, b3, b4⟩, ⟨c0, c1, c2, c3, c4⟩, d0, d1, d2, d3, d4⟩ := id HF
            have N := sum_skip E.out (by rw [A1.out, B1.out]; omega)
            rw [A1.out, B1.out] at N
            have N := hide N
            go_wp2
            go_roundw
            case rel => exact ⟨k + 1, x, 1, by omega, by go_num, rfl, N, HF⟩
            case measure => simp [intOf]; omega
          · have B1 := hide hy
            clear hy
            go_wp2_with fail
            refine wp_region_quiet (C := H4 w a b x) (by kernel_rfl) (by kernel_rfl) (H4.drew HH) ?_
            refine wpQuiet_step (fun K hK => ?_)
            go_simp
            refine ⟨A a, fun W hW => ?_, hK _ ?_⟩
            · (obtain ⟨⟨_, ⟨u0, u1, _⟩, v0, v1, _⟩, _⟩ := hW; simp [go_sem, u0, u1])
            clear hK K
            refine wpQuiet_step (fun K hK => ?_)
            go_simp
            first | refine ⟨_, fun _ _ => rfl, hK _ ?_⟩ | refine hK _ ?_
            clear hK K
            refine wpQuiet_step (fun K hK => ?_)
            go_simp
            refine ⟨.int .u64 (1 : Nat), fun W hW => ?_, hK _ ?_⟩
            · exact (bit_low ha k 1 hlt A1.out W).mono fun e w2 ⟨he, hb⟩ => ⟨he, H4.step hb hW⟩
            clear hK K
            refine wpQuiet_step (fun K hK => ?_)
            go_simp
            refine ⟨A b, fun W hW => ?_, hK _ ?_⟩
            · (obtain ⟨⟨_, ⟨u0, u1, _⟩, v0, v1, _⟩, _⟩ := hW; simp [go_sem, v0, v1])
            clear hK K
            refine wpQuiet_step (fun K hK => ?_)
            go_simp
            first | refine ⟨_, fun _ _ => rfl, hK _ ?_⟩ | refine hK _ ?_
            clear hK K
            refine wpQuiet_step (fun K hK => ?_)
            go_simp
            refine ⟨.int .u64 (1 : Nat), fun W hW => ?_, hK _ ?_⟩
            · exact (bit_low hb k 1 hlt B1.out W).mono fun e w2 ⟨he, hb⟩ => ⟨he, H4.step hb hW⟩
            clear hK K
            refine wpQuiet_step (fun K hK => ?_)
            go_simp
            first | refine ⟨_, fun _ _ => rfl, hK _ ?_⟩ | refine hK _ ?_
            clear hK K
            refine wpQuiet_step (fun K hK => ?_)
            go_simp
            first | refine ⟨_, fun _ _ => rfl, hK _ ?_⟩ | refine hK _ ?_
            clear hK K
            refine wpQuiet_step (fun K hK => ?_)
            go_simp
            first | refine ⟨_, fun _ _ => rfl, hK _ ?_⟩ | refine hK _ ?_
            clear hK K
            refine wpQuiet_step (fun K hK => ?_)
            go_simp
            first | refine ⟨_, fun _ _ => rfl, hK _ ?_⟩ | refine hK _ ?_
            clear hK K
            refine wpQuiet_nil ?_
            intro wx HF
            clear a0 a1 a2 a3 a4 b0 b1 b2 b3 b4 c0 c1 c2 c3 c4 d0 d1 d2 d3 d4 HB
            obtain ⟨⟨HB, ⟨a0, a1, a2, a3, a4⟩, b0, b1, b2, b3, b4⟩, ⟨c0, c1, c2, c3, c4⟩, d0, d1, d2, d3, d4⟩ := id HF
            go_wp2_with fail
            refine (with_low' HX.out k hlt _).mono ?_
            rintro e w2 ⟨rfl, hb2⟩
            clear a0 a1 a2 a3 a4 b0 b1 b2 b3 b4 c0 c1 c2 c3 c4 d0 d1 d2 d3 d4 HB
            have HG := H4.step hb2 HF
            obtain ⟨⟨HB, ⟨a0, a1, a2, a3, a4⟩, b0, b1, b2, b3, b4⟩, ⟨c0, c1, c2, c3, c4⟩, d0, d1, d2, d3, d4⟩ := id HG
            have N := sum_set hlt E.out (by rw [A1.out, B1.out])
            rw [A1.out, B1.out] at N
            have N := hide N
            go_wp2
            go_roundw
            case rel => exact ⟨k + 1, _, 1, by omega, by go_num, rfl, N, HG.put _⟩
            case measure => simp [intOf]; omega
    · have e : k = 128 := by omega
      subst e
      have p0 : ¬ (0 : Int) ≤ 127 - ((128 : Nat) : Int) := by omega
      have hE := sum_end ha hb E.out
      obtain ⟨rfl, h2⟩ := hE
      have K := hide (show (((z : Nat) : Int) == 1) = addO a b from flag_eq h2)
      clear h2 E
      go_wp2
      refine bodyPost_ret (v := .tuple #[A (addS a b), .bool (addO a b)]) ?_ rfl ⟨rfl, (HB.setCell (by simp; omega) _).setCell (by simp; omega) _⟩
      simp [results, Tryz.results53, go_sem, K.out, c0, c1]

end Go.Proofs.YtfmhpnendcikoaaGreat
