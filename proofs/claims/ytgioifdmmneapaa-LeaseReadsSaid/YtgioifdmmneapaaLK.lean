/-
  The contract of the law's awake: it returns true. No condition.
-/
import Derived.Test.YtgioifdmmneapaaLD
namespace Go.Proofs.Ytgioifdmmneapaa
open Go.RowKit Go.Joins

theorem one_any (n : Nat) (hn : n < 18446744073709551616) (w : World) : Calls Try.prog 26 #[.int .u64 (n : Int)] w (Gives (Pv n 128) w) := by
  have H := hide (hi_small hn)
  have L := hide (lo_small hn)
  go_enter Try.func26, Try.ntmps26
  go_wp2
  exact bodyPost_ret (v := Pv n 128) (by simp [results, Try.results26, go_sem, H.out, L.out]) rfl ⟨rfl, below_alloc _ _⟩
def kC : Ch := ⟨true, ⟨1, 1, 128, 0, ⟨#[]⟩, 0, 0⟩⟩
def kS : ByteArray := ⟨#[0, 1, 2, 1, 128, 0, 0, 0, 0, 0, 0, 0, 0, 0, 0, 0, 0, 0, 0, 0, 1]⟩
theorem k1 : encV [kC] = [0, 1, 2, 1, 128, 0, 0, 0, 0, 0, 0, 0, 0, 0, 0, 0, 0, 0, 0, 0, 1] := by kernel_rfl
theorem k2 : encE [kC] = 0 := by kernel_rfl
theorem k3 : decL kS = [kC] := by kernel_rfl
theorem k4 : decE kS = 0 := by kernel_rfl
theorem k5 : rightS 1 5 128 = true := by kernel_rfl
theorem k6 : rightS 4 5 128 = false := by kernel_rfl
theorem k7 : leaseS ⟨2, 5, 128, 1, ⟨#[99]⟩, 0, 3⟩ = true := by kernel_rfl
theorem k8 : meetS 2 5 128 3 5 128 = true := by kernel_rfl
theorem k9 : meetS 1 5 128 2 5 128 = false := by kernel_rfl
theorem k10 : compareS 1 5 128 2 4 128 = -1 := by kernel_rfl
theorem fit5 : Fits 5 := by unfold Fits; omega
theorem fit4 : Fits 4 := by unfold Fits; omega
theorem kOk : okL [kC] := by
  intro c hc
  rw [List.mem_singleton.1 hc]
  exact ⟨by unfold I64; decide, by unfold Fits; decide, by unfold I64; decide, by unfold I64; decide, by decide, by decide, by unfold I64; decide⟩

set_option maxRecDepth 100000 in
set_option maxHeartbeats 4000000 in
theorem awake_any (w : World) : Calls Try.prog 9 #[] w (Gives (.bool true) w) := by
  have E5 := hide (fun W => one_any 5 (by omega) W)
  have E4 := hide (fun W => one_any 4 (by omega) W)
  have E1 := hide (fun W => one_any 1 (by omega) W)
  have EN := hide (fun p W (h : LstC p [kC] W) => enc_any p 1 [kC] kOk (by unfold maxLen; decide) W h)
  rw [k1, k2] at EN
  have DE := hide (fun W => dec_any kS (by decide) W)
  rw [k3, k4] at DE
  have R1 := hide (fun W => right_any 1 fit5 128 W)
  rw [k5] at R1
  have R4 := hide (fun W => right_any 4 fit5 128 W)
  rw [k6] at R4
  have L7 := hide (fun W => lease_any ⟨2, 5, 128, 1, ⟨#[99]⟩, 0, 3⟩ fit5 W)
  rw [k7] at L7
  have M8 := hide (fun W => meet_any 2 fit5 128 3 fit5 128 W)
  rw [k8] at M8
  have M9 := hide (fun W => meet_any 1 fit5 128 2 fit5 128 W)
  rw [k9] at M9
  have C10 := hide (fun W => compare3_any 1 5 128 2 4 128 W)
  rw [k10] at C10
  have B0 := Below.refl w.heap.size w
  go_enter Try.func9, Try.ntmps9
  go_wp2_with fail
  refine (E1.out _).mono ?_
  rintro e v1 ⟨rfl, hb1⟩
  have B1 := chain B0 hb1
  clear hb1 B0
  have LC : LstC (some ⟨v1.heap.size, 0, none⟩) [kC] (v1.alloc (.cells #[.bool true, .int .i64 1, .int .u64 (hi 1 : Nat), .int .u64 (lo 1 : Nat), .int .i64 128, .int .i64 0, .string ⟨#[]⟩, .int .u32 0, .int .i64 0] 31)) := by
    intro k c hk
    match k, hk with
    | 0, hk =>
      simp at hk
      subst hk
      refine ⟨_, _, rfl, ?_⟩
      have H := heap_alloc_new v1 (.cells #[.bool true, .int .i64 1, .int .u64 (hi 1 : Nat), .int .u64 (lo 1 : Nat), .int .i64 128, .int .i64 0, .string ⟨#[]⟩, .int .u32 0, .int .i64 0] 31)
      exact ⟨cell_at H 0, cell_at H 1, cell_at H 2, cell_at H 3, cell_at H 4, cell_at H 5, cell_at H 6, cell_at H 7, cell_at H 8⟩
  have B1a := B1.trans ((below_alloc v1 (.cells #[.bool true, .int .i64 1, .int .u64 (hi 1 : Nat), .int .u64 (lo 1 : Nat), .int .i64 128, .int .i64 0, .string ⟨#[]⟩, .int .u32 0, .int .i64 0] 31)).mono B1.size)
  go_wp2_with fail
  refine (EN.out _ _ LC).mono ?_
  rintro e v2 ⟨rfl, hb2⟩
  have B2 := chain B1a hb2
  clear hb2 B1a B1 LC
  go_wp2_with fail
  refine (DE.out _).mono ?_
  rintro e v3 ⟨p, c, rfl, LD, hb3⟩
  have B3 := chain B2 hb3
  clear hb3 B2
  obtain ⟨b, o, rfl, x0, _⟩ := LD 0 kC rfl
  simp only [Nat.zero_mul, Nat.add_zero, List.length_cons, List.length_nil, Nat.zero_add] at x0 ⊢
  clear LD
  go_wp2_with fail
  refine (E5.out _).mono ?_
  rintro e v4 ⟨rfl, hb4⟩
  have B4 := chain B3 hb4
  clear hb4 B3
  clear x0
  go_wp2_with fail
  refine (R1.out _).mono ?_
  rintro e v5 ⟨rfl, hb5⟩
  have B5 := chain B4 hb5
  clear hb5 B4
  go_wp2_with fail
  refine (E5.out _).mono ?_
  rintro e v6 ⟨rfl, hb6⟩
  have B6 := chain B5 hb6
  clear hb6 B5
  go_wp2_with fail
  refine (R4.out _).mono ?_
  rintro e v7 ⟨rfl, hb7⟩
  have B7 := chain B6 hb7
  clear hb7 B6
  go_wp2_with fail
  refine (E5.out _).mono ?_
  rintro e v8 ⟨rfl, hb8⟩
  have B8 := chain B7 hb8
  clear hb8 B7
  go_wp2_with fail
  refine (L7.out _).mono ?_
  rintro e v9 ⟨rfl, hb9⟩
  have B9 := chain B8 hb9
  clear hb9 B8
  go_wp2_with fail
  refine (E5.out _).mono ?_
  rintro e v10 ⟨rfl, hb10⟩
  have B10 := chain B9 hb10
  clear hb10 B9
  go_wp2_with fail
  refine (E5.out _).mono ?_
  rintro e v11 ⟨rfl, hb11⟩
  have B11 := chain B10 hb11
  clear hb11 B10
  go_wp2_with fail
  refine (M8.out _).mono ?_
  rintro e v12 ⟨rfl, hb12⟩
  have B12 := chain B11 hb12
  clear hb12 B11
  go_wp2_with fail
  refine (E5.out _).mono ?_
  rintro e v13 ⟨rfl, hb13⟩
  have B13 := chain B12 hb13
  clear hb13 B12
  go_wp2_with fail
  refine (E5.out _).mono ?_
  rintro e v14 ⟨rfl, hb14⟩
  have B14 := chain B13 hb14
  clear hb14 B13
  go_wp2_with fail
  refine (M9.out _).mono ?_
  rintro e v15 ⟨rfl, hb15⟩
  have B15 := chain B14 hb15
  clear hb15 B14
  go_wp2_with fail
  refine (E5.out _).mono ?_
  rintro e v16 ⟨rfl, hb16⟩
  have B16 := chain B15 hb16
  clear hb16 B15
  go_wp2_with fail
  refine (E4.out _).mono ?_
  rintro e v17 ⟨rfl, hb17⟩
  have B17 := chain B16 hb17
  clear hb17 B16
  go_wp2_with fail
  refine (C10.out _).mono ?_
  rintro e v18 ⟨rfl, hb18⟩
  have B18 := chain B17 hb18
  clear hb18 B17
  go_wp2
  go_ret
  exact ⟨rfl, B18⟩
end Go.Proofs.Ytgioifdmmneapaa
