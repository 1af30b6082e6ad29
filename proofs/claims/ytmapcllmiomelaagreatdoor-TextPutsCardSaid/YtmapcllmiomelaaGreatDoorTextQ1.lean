/-
  The contracts of the document's own decimal, Num and hexGroup. Condition: an int is an int of 64 bits, a number of 64 bits is one (every value of the types is such).
-/
import Derived.Test.YtmapcllmiomelaaGreatDoorTextM
import Derived.Test.YtmapcllmiomelaaGreatDoorTextP
import Derived.BigQuiet
import Derived.Deep.QuietTactic
namespace Go.Proofs.YtmapcllmiomelaaGreatDoor
open Go.RowKit Go.Joins

theorem dig_ext : ∀ k : Fin 16, digs.extract k.val (k.val + 1) = ⟨[hexd k.val].toArray⟩ := by decide +kernel
theorem dig_at {k : Nat} (h : k < 16) : digs.extract k (k + 1) = ⟨[hexd k].toArray⟩ := dig_ext ⟨k, h⟩
theorem catL (l m : List UInt8) : (ByteArray.mk l.toArray ++ ByteArray.mk m.toArray) = ⟨(l ++ m).toArray⟩ := by
  apply ByteArray.ext
  simp [ByteArray.data_append]
theorem dec_small {n : Nat} (h : n < 10) : Lib.decDigits n = [hexd n] := by
  rw [Lib.decDigits, dif_pos h]; unfold hexd; rw [if_pos h]
theorem dec_big {n : Nat} (h : ¬ n < 10) : Lib.decDigits n = Lib.decDigits (n / 10) ++ [hexd (n % 10)] := by
  rw [Lib.decDigits, dif_neg h]; unfold hexd; rw [if_pos (by omega)]
theorem dec_len (u : Nat) : (Lib.decDigits u).length ≤ u + 1 := by
  induction u using Nat.strongRecOn with
  | _ u ih =>
    by_cases h : u < 10
    · rw [dec_small h]; simp
    · have := ih (u / 10) (by omega)
      rw [dec_big h, List.length_append]
      simp only [List.length_singleton]; omega
theorem hexN_lenU (u : Nat) : (hexN u).length ≤ u + 1 := by
  induction u using Nat.strongRecOn with
  | _ u ih =>
    by_cases h : u < 16
    · rw [hexN_small h]; simp
    · have := ih (u / 16) (by omega)
      rw [hexN_big h, List.length_append]
      simp only [List.length_singleton]; omega
set_option maxRecDepth 100000 in
set_option maxHeartbeats 1000000 in
theorem rdec_any (n : Nat) (hn : n < 18446744073709551616) (w : World) : Calls Tryz.prog 23 #[.int .u64 (n : Int)] w (Gives (St (Lib.decDigits n)) w) := by
  induction n using Nat.strongRecOn generalizing w with
  | _ n ih =>
    by_cases h : n < 10
    · have h' : (n : Int) < 10 := by omega
      have D := dig_at (k := n) (by omega)
      have E := hide (dec_small h)
      clear ih
      go_enter Tryz.func23, Tryz.ntmps23
      go_wp2
      go_ret
      exact ⟨by rw [E.out]; rfl, Below.refl _ _⟩
    · have h' : ¬ (n : Int) < 10 := by omega
      obtain ⟨d, hd⟩ : ∃ d, d = n % 10 := ⟨_, rfl⟩
      have D := dig_at (k := d) (by omega)
      have N3 : ¬ 9223372036854775807 < (Lib.decDigits (n / 10)).length + 1 := by have := dec_len (n / 10); omega
      have W1 : IntKind.u64.wrap ((n : Int) / 10) = (n : Int) / 10 := IntWalk.u64_in _ ⟨by omega, by omega⟩
      have W2 : (n : Int).tmod 10 = (d : Int) := by rw [Int.tmod_eq_emod_of_nonneg (by omega)]; omega
      have W3 : IntKind.u64.wrap ((d : Int) + 1) = (d : Int) + 1 := IntWalk.u64_in _ ⟨by omega, by omega⟩
      have d16 : (d : Int) + 1 ≤ 16 := by omega
      have d0 : (0 : Int) ≤ (d : Int) + 1 := by omega
      have d2 : (d : Int) ≤ (d : Int) + 1 := by omega
      have HD := hide hd
      have E := hide (dec_big h)
      have IH := hide (fun W => ih (n / 10) (by omega) (by omega) W)
      have N1 : ((n / 10 : Nat) : Int) = (n : Int) / 10 := by omega
      rw [N1] at IH
      clear ih hd
      go_enter Tryz.func23, Tryz.ntmps23
      go_wp2_with fail
      refine wp_region_quiet (C := Below w.heap.size w) (by kernel_rfl) (by kernel_rfl) (show Below w.heap.size w { w with drawn := w.drawn + 1 } from below_drew w) (wpQuiet_step (fun K0 hK0 => ?_))
      go_simp
      first | (with_reducible refine hK0 _ (wpQuiet_step (fun K1 hK1 => ?_))) | (with_reducible refine ⟨_, fun _ _ => rfl, hK0 _ (wpQuiet_step (fun K1 hK1 => ?_))⟩) | (rw [if_neg (by intro e; cases e)]; with_reducible refine hK0 _ (wpQuiet_step (fun K1 hK1 => ?_)))
      clear hK0 K0
      go_simp
      first | (with_reducible refine hK1 _ (wpQuiet_step (fun K0 hK0 => ?_))) | (with_reducible refine ⟨_, fun _ _ => rfl, hK1 _ (wpQuiet_step (fun K0 hK0 => ?_))⟩) | (rw [if_neg (by intro e; cases e)]; with_reducible refine hK1 _ (wpQuiet_step (fun K0 hK0 => ?_)))
      clear hK1 K1
      go_simp
      refine ⟨St (Lib.decDigits (n / 10)), fun W hW => ?_, hK0 _ (wpQuiet_step (fun K1 hK1 => ?_))⟩
      · exact (IH.out W).mono fun e w4 ⟨he, hb⟩ => ⟨he, chain hW hb⟩
      clear hK0 K0
      go_simp
      first | (with_reducible refine hK1 _ (wpQuiet_step (fun K0 hK0 => ?_))) | (with_reducible refine ⟨_, fun _ _ => rfl, hK1 _ (wpQuiet_step (fun K0 hK0 => ?_))⟩) | (rw [if_neg (by intro e; cases e)]; with_reducible refine hK1 _ (wpQuiet_step (fun K0 hK0 => ?_)))
      clear hK1 K1
      go_simp
      first | (with_reducible refine hK0 _ (wpQuiet_step (fun K1 hK1 => ?_))) | (with_reducible refine ⟨_, fun _ _ => rfl, hK0 _ (wpQuiet_step (fun K1 hK1 => ?_))⟩) | (rw [if_neg (by intro e; cases e)]; with_reducible refine hK0 _ (wpQuiet_step (fun K1 hK1 => ?_)))
      clear hK0 K0
      go_simp
      first | (with_reducible refine hK1 _ (wpQuiet_step (fun K0 hK0 => ?_))) | (with_reducible refine ⟨_, fun _ _ => rfl, hK1 _ (wpQuiet_step (fun K0 hK0 => ?_))⟩) | (rw [if_neg (by intro e; cases e)]; with_reducible refine hK1 _ (wpQuiet_step (fun K0 hK0 => ?_)))
      clear hK1 K1
      go_simp
      first | (with_reducible refine hK0 _ (wpQuiet_step (fun K1 hK1 => ?_))) | (with_reducible refine ⟨_, fun _ _ => rfl, hK0 _ (wpQuiet_step (fun K1 hK1 => ?_))⟩) | (rw [if_neg (by intro e; cases e)]; with_reducible refine hK0 _ (wpQuiet_step (fun K1 hK1 => ?_)))
      clear hK0 K0
      go_simp
      first | (with_reducible refine hK1 _ (wpQuiet_step (fun K0 hK0 => ?_))) | (with_reducible refine ⟨_, fun _ _ => rfl, hK1 _ (wpQuiet_step (fun K0 hK0 => ?_))⟩) | (rw [if_neg (by intro e; cases e)]; with_reducible refine hK1 _ (wpQuiet_step (fun K0 hK0 => ?_)))
      clear hK1 K1
      go_simp
      first | (with_reducible refine hK0 _ (wpQuiet_step (fun K1 hK1 => ?_))) | (with_reducible refine ⟨_, fun _ _ => rfl, hK0 _ (wpQuiet_step (fun K1 hK1 => ?_))⟩) | (rw [if_neg (by intro e; cases e)]; with_reducible refine hK0 _ (wpQuiet_step (fun K1 hK1 => ?_)))
      clear hK0 K0
      go_simp
      first | (with_reducible refine hK1 _ (wpQuiet_step (fun K0 hK0 => ?_))) | (with_reducible refine ⟨_, fun _ _ => rfl, hK1 _ (wpQuiet_step (fun K0 hK0 => ?_))⟩) | (rw [if_neg (by intro e; cases e)]; with_reducible refine hK1 _ (wpQuiet_step (fun K0 hK0 => ?_)))
      clear hK1 K1
      go_simp
      first | (with_reducible refine hK0 _ (wpQuiet_nil ?_)) | (with_reducible refine ⟨_, fun _ _ => rfl, hK0 _ (wpQuiet_nil ?_)⟩) | (rw [if_neg (by intro e; cases e)]; with_reducible refine hK0 _ (wpQuiet_nil ?_))
      clear hK0 K0
      intro w3 H3
      go_wp2
      go_ret
      exact ⟨by rw [E.out, ← HD.out]; exact congrArg (fun b => Ending.returned (Value.string b)) (catL _ [hexd d]), H3⟩
set_option maxRecDepth 100000 in
set_option maxHeartbeats 1000000 in
theorem rhexg_any (n : Nat) (hn : n < 18446744073709551616) (w : World) : Calls Tryz.prog 28 #[.int .u64 (n : Int)] w (Gives (St (hexN n)) w) := by
  induction n using Nat.strongRecOn generalizing w with
  | _ n ih =>
    by_cases h : n < 16
    · have h' : (n : Int) < 16 := by omega
      have D := dig_at (k := n) (by omega)
      have E := hide (hexN_small h)
      clear ih
      go_enter Tryz.func28, Tryz.ntmps28
      go_wp2
      go_ret
      exact ⟨by rw [E.out]; rfl, Below.refl _ _⟩
    · have h' : ¬ (n : Int) < 16 := by omega
      obtain ⟨d, hd⟩ : ∃ d, d = n % 16 := ⟨_, rfl⟩
      have D := dig_at (k := d) (by omega)
      have N3 : ¬ 9223372036854775807 < (hexN (n / 16)).length + 1 := by have := hexN_lenU (n / 16); omega
      have W1 : IntKind.u64.wrap ((n : Int) / 16) = (n : Int) / 16 := IntWalk.u64_in _ ⟨by omega, by omega⟩
      have W2 : (n : Int).tmod 16 = (d : Int) := by rw [Int.tmod_eq_emod_of_nonneg (by omega)]; omega
      have W3 : IntKind.u64.wrap ((d : Int) + 1) = (d : Int) + 1 := IntWalk.u64_in _ ⟨by omega, by omega⟩
      have d16 : (d : Int) + 1 ≤ 16 := by omega
      have d0 : (0 : Int) ≤ (d : Int) + 1 := by omega
      have d2 : (d : Int) ≤ (d : Int) + 1 := by omega
      have HD := hide hd
      have E := hide (hexN_big h)
      have IH := hide (fun W => ih (n / 16) (by omega) (by omega) W)
      have N1 : ((n / 16 : Nat) : Int) = (n : Int) / 16 := by omega
      rw [N1] at IH
      clear ih hd
      go_enter Tryz.func28, Tryz.ntmps28
      go_wp2_with fail
      refine wp_region_quiet (C := Below w.heap.size w) (by kernel_rfl) (by kernel_rfl) (show Below w.heap.size w { w with drawn := w.drawn + 1 } from below_drew w) (wpQuiet_step (fun K0 hK0 => ?_))
      go_simp
      first | (with_reducible refine hK0 _ (wpQuiet_step (fun K1 hK1 => ?_))) | (with_reducible refine ⟨_, fun _ _ => rfl, hK0 _ (wpQuiet_step (fun K1 hK1 => ?_))⟩) | (rw [if_neg (by intro e; cases e)]; with_reducible refine hK0 _ (wpQuiet_step (fun K1 hK1 => ?_)))
      clear hK0 K0
      go_simp
      first | (with_reducible refine hK1 _ (wpQuiet_step (fun K0 hK0 => ?_))) | (with_reducible refine ⟨_, fun _ _ => rfl, hK1 _ (wpQuiet_step (fun K0 hK0 => ?_))⟩) | (rw [if_neg (by intro e; cases e)]; with_reducible refine hK1 _ (wpQuiet_step (fun K0 hK0 => ?_)))
      clear hK1 K1
      go_simp
      refine ⟨St (hexN (n / 16)), fun W hW => ?_, hK0 _ (wpQuiet_step (fun K1 hK1 => ?_))⟩
      · exact (IH.out W).mono fun e w4 ⟨he, hb⟩ => ⟨he, chain hW hb⟩
      clear hK0 K0
      go_simp
      first | (with_reducible refine hK1 _ (wpQuiet_step (fun K0 hK0 => ?_))) | (with_reducible refine ⟨_, fun _ _ => rfl, hK1 _ (wpQuiet_step (fun K0 hK0 => ?_))⟩) | (rw [if_neg (by intro e; cases e)]; with_reducible refine hK1 _ (wpQuiet_step (fun K0 hK0 => ?_)))
      clear hK1 K1
      go_simp
      first | (with_reducible refine hK0 _ (wpQuiet_step (fun K1 hK1 => ?_))) | (with_reducible refine ⟨_, fun _ _ => rfl, hK0 _ (wpQuiet_step (fun K1 hK1 => ?_))⟩) | (rw [if_neg (by intro e; cases e)]; with_reducible refine hK0 _ (wpQuiet_step (fun K1 hK1 => ?_)))
      clear hK0 K0
      go_simp
      first | (with_reducible refine hK1 _ (wpQuiet_step (fun K0 hK0 => ?_))) | (with_reducible refine ⟨_, fun _ _ => rfl, hK1 _ (wpQuiet_step (fun K0 hK0 => ?_))⟩) | (rw [if_neg (by intro e; cases e)]; with_reducible refine hK1 _ (wpQuiet_step (fun K0 hK0 => ?_)))
      clear hK1 K1
      go_simp
      first | (with_reducible refine hK0 _ (wpQuiet_step (fun K1 hK1 => ?_))) | (with_reducible refine ⟨_, fun _ _ => rfl, hK0 _ (wpQuiet_step (fun K1 hK1 => ?_))⟩) | (rw [if_neg (by intro e; cases e)]; with_reducible refine hK0 _ (wpQuiet_step (fun K1 hK1 => ?_)))
      clear hK0 K0
      go_simp
      first | (with_reducible refine hK1 _ (wpQuiet_step (fun K0 hK0 => ?_))) | (with_reducible refine ⟨_, fun _ _ => rfl, hK1 _ (wpQuiet_step (fun K0 hK0 => ?_))⟩) | (rw [if_neg (by intro e; cases e)]; with_reducible refine hK1 _ (wpQuiet_step (fun K0 hK0 => ?_)))
      clear hK1 K1
      go_simp
      first | (with_reducible refine hK0 _ (wpQuiet_step (fun K1 hK1 => ?_))) | (with_reducible refine ⟨_, fun _ _ => rfl, hK0 _ (wpQuiet_step (fun K1 hK1 => ?_))⟩) | (rw [if_neg (by intro e; cases e)]; with_reducible refine hK0 _ (wpQuiet_step (fun K1 hK1 => ?_)))
      clear hK0 K0
      go_simp
      first | (with_reducible refine hK1 _ (wpQuiet_step (fun K0 hK0 => ?_))) | (with_reducible refine ⟨_, fun _ _ => rfl, hK1 _ (wpQuiet_step (fun K0 hK0 => ?_))⟩) | (rw [if_neg (by intro e; cases e)]; with_reducible refine hK1 _ (wpQuiet_step (fun K0 hK0 => ?_)))
      clear hK1 K1
      go_simp
      first | (with_reducible refine hK0 _ (wpQuiet_nil ?_)) | (with_reducible refine ⟨_, fun _ _ => rfl, hK0 _ (wpQuiet_nil ?_)⟩) | (rw [if_neg (by intro e; cases e)]; with_reducible refine hK0 _ (wpQuiet_nil ?_))
      clear hK0 K0
      intro w3 H3
      go_wp2
      go_ret
      exact ⟨by rw [E.out, ← HD.out]; exact congrArg (fun b => Ending.returned (Value.string b)) (catL _ [hexd d]), H3⟩
theorem itoa_nat' (n : Nat) : Lib.itoa (n : Int) = Lib.decDigits n := by
  unfold Lib.itoa
  rw [if_neg (by omega), Int.toNat_natCast]
set_option maxRecDepth 100000 in
theorem rnum_any (n : Int) (h0 : -9223372036854775808 ≤ n) (h1 : n ≤ 9223372036854775807) (w : World) : Calls Tryz.prog 14 #[.int .i64 n] w (Gives (St (Lib.itoa n)) w) := by
  by_cases hn : n < 0
  · have E := hide (show Lib.itoa n = [45] ++ Lib.decDigits n.natAbs by unfold Lib.itoa; rw [if_pos hn]; rfl)
    have D := hide (fun W => rdec_any n.natAbs (by omega) W)
    have N1 : ((n.natAbs : Nat) : Int) = -n := by omega
    rw [N1] at D
    have N3 : ¬ 9223372036854775807 < 1 + (Lib.decDigits n.natAbs).length := by
      by_cases hs : n.natAbs < 10
      · rw [dec_small hs]; simp
      · have := dec_len (n.natAbs / 10)
        rw [dec_big hs, List.length_append, List.length_singleton]; omega
    have NW : IntKind.u64.wrap (-IntKind.u64.wrap n) = -n := by rw [IntKind.wrap_u64, IntKind.wrap_u64]; omega
    go_enter Tryz.func14, Tryz.ntmps14
    go_wp2_with fail
    refine (D.out _).mono ?_
    rintro e w1 ⟨rfl, hb⟩
    go_wp2
    go_ret
    exact ⟨by rw [E.out]; exact congrArg (fun b => Ending.returned (Value.string b)) (catL [45] _), hb⟩
  · have E := hide (show Lib.itoa n = Lib.decDigits n.toNat by unfold Lib.itoa; rw [if_neg hn])
    have D := hide (fun W => rdec_any n.toNat (by omega) W)
    have N1 : ((n.toNat : Nat) : Int) = n := by omega
    rw [N1] at D
    go_enter Tryz.func14, Tryz.ntmps14
    go_wp2_with fail
    refine (D.out _).mono ?_
    rintro e w1 ⟨rfl, hb⟩
    go_wp2
    go_ret
    exact ⟨by rw [E.out]; rfl, hb⟩
/-- the text behind so many numbers -/
def pre4 (n : Nat) : Nat → List UInt8
  | 0 => []
  | 1 => oct n 0
  | 2 => oct n 0 ++ [46] ++ oct n 1
  | 3 => oct n 0 ++ [46] ++ oct n 1 ++ [46] ++ oct n 2
  | _ => oct n 0 ++ [46] ++ oct n 1 ++ [46] ++ oct n 2 ++ [46] ++ oct n 3
theorem pre4_all (n : Nat) : pre4 n 4 = put4 n := by
  unfold put4
  rw [Lib.join_cons]
  simp [pre4, Lib.joinTail]
theorem cat46 (l m : List UInt8) : (ByteArray.mk l.toArray ++ ByteArray.mk #[46] ++ ByteArray.mk m.toArray) = ⟨(l ++ [46] ++ m).toArray⟩ := by
  apply ByteArray.ext
  simp [ByteArray.data_append]
theorem oct_dec (n k : Nat) : oct n k = Lib.decDigits (n / 2 ^ (24 - 8 * k) % 256) := itoa_nat' _
theorem oct_len (n k : Nat) : (oct n k).length ≤ 257 := by
  rw [oct_dec]
  have := dec_len (n / 2 ^ (24 - 8 * k) % 256)
  omega
theorem pre4_len (n k : Nat) : (pre4 n k).length ≤ 2000 := by
  have h0 := oct_len n 0
  have h1 := oct_len n 1
  have h2 := oct_len n 2
  have h3 := oct_len n 3
  rcases (show k = 0 ∨ k = 1 ∨ k = 2 ∨ k = 3 ∨ 4 ≤ k by omega) with rfl | rfl | rfl | rfl | h
  · simp [pre4]
  · simp only [pre4]; omega
  · simp only [pre4, List.length_append, List.length_singleton]; omega
  · simp only [pre4, List.length_append, List.length_singleton]; omega
  · obtain ⟨j, rfl⟩ : ∃ j, k = j + 4 := ⟨k - 4, by omega⟩
    show (oct n 0 ++ [46] ++ oct n 1 ++ [46] ++ oct n 2 ++ [46] ++ oct n 3).length ≤ _
    simp only [List.length_append, List.length_singleton]; omega
set_option maxRecDepth 100000 in
set_option maxHeartbeats 1000000 in
theorem rput4_any (n : Nat) (hn : n < 4294967296) (w : World) : Calls Tryz.prog 6 #[.int .u32 (n : Int)] w (Gives (St (put4 n)) w) := by
  have P4 := hide (pre4_all n)
  have D := hide (fun k W => rdec_any (n / 2 ^ (24 - 8 * k) % 256) (by omega) W)
  go_enter Tryz.func6, Tryz.ntmps6
  go_wp2_with fail
  go_loopw [3, 4] (fun s i wr => ∃ k : Nat, k ≤ 4 ∧ i = .int .i64 (k : Int) ∧ s = St (pre4 n k) ∧ Below w.heap.size w wr) (fun _ i _ => 4 - (intOf i).toNat)
  case atStart => exact ⟨0, by omega, rfl, rfl, Below.refl _ _⟩
  case round =>
    obtain ⟨k, hk, rfl, rfl, hb⟩ := hrel
    by_cases hlt : k < 4
    · have PL := pre4_len n k
      rcases (show k = 0 ∨ k = 1 ∨ k = 2 ∨ k = 3 by omega) with rfl | rfl | rfl | rfl
      · obtain ⟨m, hm⟩ : ∃ m : Nat, m = n / 2 ^ (24 - 8 * 0) % 256 := ⟨_, rfl⟩
        have O := hide (show pre4 n 1 = pre4 n 0 ++ [] ++ Lib.decDigits m by rw [hm, ← oct_dec]; rfl)
        have E1 : (n : Int) / 16777216 % 256 = (m : Int) := by simp only [Nat.reduceMul, Nat.reduceSub, Nat.reducePow] at hm; omega
        have DM := hide (fun W => rdec_any m (by omega) W)
        have DL := dec_len m
        have m2 : m < 256 := by omega
        clear hm D
        generalize Lib.decDigits m = dm at *
        generalize pre4 n 0 = pr at *
        have N1 : ¬ 9223372036854775807 < pr.length + 1 := by omega
        have N2 : ¬ 9223372036854775807 < pr.length + 1 + dm.length := by omega
        have N3 : ¬ 9223372036854775807 < pr.length + dm.length := by omega
        go_wp2_with fail
        refine (DM.out _).mono ?_
        rintro e w1 ⟨rfl, hb1⟩
        have HB := chain hb hb1
        clear hb hb1 E1
        go_wp2
        go_roundw
        case rel => exact ⟨1, by omega, rfl, by rw [O.out]; exact congrArg Value.string (by rw [catL, List.append_nil]), HB⟩
        case measure => simp [intOf]
      · obtain ⟨m, hm⟩ : ∃ m : Nat, m = n / 2 ^ (24 - 8 * 1) % 256 := ⟨_, rfl⟩
        have O := hide (show pre4 n 2 = pre4 n 1 ++ [46] ++ Lib.decDigits m by rw [hm, ← oct_dec]; rfl)
        have E1 : (n : Int) / 65536 % 256 = (m : Int) := by simp only [Nat.reduceMul, Nat.reduceSub, Nat.reducePow] at hm; omega
        have DM := hide (fun W => rdec_any m (by omega) W)
        have DL := dec_len m
        have m2 : m < 256 := by omega
        clear hm D
        generalize Lib.decDigits m = dm at *
        generalize pre4 n 1 = pr at *
        have N1 : ¬ 9223372036854775807 < pr.length + 1 := by omega
        have N2 : ¬ 9223372036854775807 < pr.length + 1 + dm.length := by omega
        have N3 : ¬ 9223372036854775807 < pr.length + dm.length := by omega
        go_wp2_with fail
        refine (DM.out _).mono ?_
        rintro e w1 ⟨rfl, hb1⟩
        have HB := chain hb hb1
        clear hb hb1 E1
        go_wp2
        go_roundw
        case rel => exact ⟨2, by omega, rfl, by rw [O.out]; exact congrArg Value.string (cat46 _ _), HB⟩
        case measure => simp [intOf]
      · obtain ⟨m, hm⟩ : ∃ m : Nat, m = n / 2 ^ (24 - 8 * 2) % 256 := ⟨_, rfl⟩
        have O := hide (show pre4 n 3 = pre4 n 2 ++ [46] ++ Lib.decDigits m by rw [hm, ← oct_dec]; rfl)
        have E1 : (n : Int) / 256 % 256 = (m : Int) := by simp only [Nat.reduceMul, Nat.reduceSub, Nat.reducePow] at hm; omega
        have DM := hide (fun W => rdec_any m (by omega) W)
        have DL := dec_len m
        have m2 : m < 256 := by omega
        clear hm D
        generalize Lib.decDigits m = dm at *
        generalize pre4 n 2 = pr at *
        have N1 : ¬ 9223372036854775807 < pr.length + 1 := by omega
        have N2 : ¬ 9223372036854775807 < pr.length + 1 + dm.length := by omega
        have N3 : ¬ 9223372036854775807 < pr.length + dm.length := by omega
        go_wp2_with fail
        refine (DM.out _).mono ?_
        rintro e w1 ⟨rfl, hb1⟩
        have HB := chain hb hb1
        clear hb hb1 E1
        go_wp2
        go_roundw
        case rel => exact ⟨3, by omega, rfl, by rw [O.out]; exact congrArg Value.string (cat46 _ _), HB⟩
        case measure => simp [intOf]
      · obtain ⟨m, hm⟩ : ∃ m : Nat, m = n / 2 ^ (24 - 8 * 3) % 256 := ⟨_, rfl⟩
        have O := hide (show pre4 n 4 = pre4 n 3 ++ [46] ++ Lib.decDigits m by rw [hm, ← oct_dec]; rfl)
        have E1 : (n : Int) % 256 = (m : Int) := by simp only [Nat.reduceMul, Nat.reduceSub, Nat.pow_zero, Nat.div_one] at hm; omega
        have DM := hide (fun W => rdec_any m (by omega) W)
        have DL := dec_len m
        have m2 : m < 256 := by omega
        clear hm D
        generalize Lib.decDigits m = dm at *
        generalize pre4 n 3 = pr at *
        have N1 : ¬ 9223372036854775807 < pr.length + 1 := by omega
        have N2 : ¬ 9223372036854775807 < pr.length + 1 + dm.length := by omega
        have N3 : ¬ 9223372036854775807 < pr.length + dm.length := by omega
        go_wp2_with fail
        refine (DM.out _).mono ?_
        rintro e w1 ⟨rfl, hb1⟩
        have HB := chain hb hb1
        clear hb hb1 E1
        go_wp2
        go_roundw
        case rel => exact ⟨4, by omega, rfl, by rw [O.out]; exact congrArg Value.string (cat46 _ _), HB⟩
        case measure => simp [intOf]
    · have h4 : ¬ (k : Int) < 4 := by omega
      have e4 : k = 4 := by omega
      rw [e4, P4.out]
      clear e4 hlt hk
      go_wp2
      go_ret
      exact ⟨rfl, hb⟩
end Go.Proofs.YtmapcllmiomelaaGreatDoor
