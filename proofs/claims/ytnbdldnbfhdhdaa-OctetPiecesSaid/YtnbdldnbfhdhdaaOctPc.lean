/-
  The walk of OctetPieces: it returns true. Condition: an int is an int of 64 bits.
-/
import Derived.Test.YtnbdldnbfhdhdaaOctBm
namespace Go.Proofs.Ytnbdldnbfhdhdaa
open Go.RowKit Go.Joins

theorem rest_of (a : Int) (m : Nat) (hm : m ≤ 70000) : ∃ k : Nat, k ≤ m ∧ wrap64 ((IntKind.u64.wrap a).tmod ((m : Int) + 1)) = (k : Int) := by
  have h : 0 ≤ IntKind.u64.wrap a := by rw [IntKind.wrap_u64]; omega
  rw [Int.tmod_eq_emod_of_nonneg h]
  generalize IntKind.u64.wrap a = u at *
  have h1 := Int.emod_nonneg u (show ((m : Int) + 1) ≠ 0 by omega)
  have h2 := Int.emod_lt_of_pos u (show (0 : Int) < (m : Int) + 1 by omega)
  obtain ⟨k, hk⟩ := Int.eq_ofNat_of_zero_le h1
  refine ⟨k, by omega, ?_⟩
  rw [IntWalk.wrap64_in _ ⟨by omega, by omega⟩, hk]
theorem rest_100 (a : Int) : ∃ k : Nat, k < 100 ∧ wrap64 ((IntKind.u64.wrap a).tmod 100) = (k : Int) := by
  obtain ⟨k, h1, h2⟩ := rest_of a 99 (by omega)
  exact ⟨k, by omega, h2⟩
theorem pieces_join (s : ByteArray) (k : Nat) : sub s 0 k ++ sub s k (s.size - k) = s := by
  apply ByteArray.ext
  apply Array.toList_inj.1
  rw [cat_list, sub_list, sub_list, List.drop_zero, List.take_of_length_le (l := s.data.toList.drop k) (by rw [List.length_drop, list_size]; omega), List.take_append_drop]
theorem pad_size (s : ByteArray) (c : Nat) : (padV s c).size = s.size + c := by
  show (s.data.toList ++ List.replicate c 0).length = _
  rw [List.length_append, List.length_replicate, list_size]
theorem pad_head (s : ByteArray) (c : Nat) : (padV s c).extract 0 s.size = s := by
  apply ByteArray.ext
  apply Array.toList_inj.1
  rw [take_ext rfl, ← list_size s]
  exact List.take_left
theorem pad_tail (s : ByteArray) (c j : Nat) (h1 : s.size ≤ j) (h2 : j < (padV s c).size) : (padV s c)[j] = 0 := by
  have h3 : j < (s.data.toList ++ List.replicate c 0).length := h2
  have e : (padV s c)[j] = (s.data.toList ++ List.replicate c 0)[j]'h3 := rfl
  refine e.trans ?_
  rw [List.getElem_append_right (by rw [list_size]; exact h1), List.getElem_replicate]

set_option maxRecDepth 100000 in
set_option maxHeartbeats 600000 in
theorem pieces_walk (s : ByteArray) {a n : Int} (hs : s.size ≤ 65536) (w : World) :
    Calls Try.prog 7 #[.string s, .int .i64 a, .int .i64 n] w (Gives (.bool true) w) := by
  have hsI : ¬ (65536 : Int) < (s.size : Int) := by omega
  have sm : s.size ≤ maxLen := by unfold maxLen; omega
  obtain ⟨k, hk, EK⟩ := rest_of a s.size (by omega)
  obtain ⟨c, hc, EC⟩ := rest_100 n
  have o1 : cutO s 0 (k : Int) = true := by unfold cutO; simp; omega
  have o2 : cutO s (k : Int) ((s.size : Int) - (k : Int)) = true := by unfold cutO; simp; omega
  have o3 : cutO s (k : Int) ((s.size : Int) - (k : Int) + 1) = false := by unfold cutO; simp; omega
  have C1 := hide (fun W => cut_any s sm (a := 0) (n := (k : Int)) (by unfold I64; omega) (by unfold I64; omega) W)
  have C2 := hide (fun W => cut_any s sm (a := (k : Int)) (n := (s.size : Int) - (k : Int)) (by unfold I64; omega) (by unfold I64; omega) W)
  have C3 := hide (fun W => cut_any s sm (a := (k : Int)) (n := (s.size : Int) - (k : Int) + 1) (by unfold I64; omega) (by unfold I64; omega) W)
  have J := pieces_join s k
  rw [o1, cut_yes o1, Int.toNat_natCast, show (0 : Int).toNat = 0 from rfl] at C1
  rw [o2, cut_yes o2, Int.toNat_natCast, show ((s.size : Int) - (k : Int)).toNat = s.size - k by omega] at C2
  rw [o3, cut_no o3] at C3
  have z1 : (sub s 0 k).size = k := sub_size (by omega)
  have z2 : (sub s k (s.size - k)).size = s.size - k := sub_size (by omega)
  generalize sub s 0 k = p1 at *
  generalize sub s k (s.size - k) = p2 at *
  have N1 : ¬ 9223372036854775807 < p1.size + p2.size := by omega
  have PY := hide (fun W => pad_yes s c (by omega) W)
  rw [Int.natCast_add] at PY
  have PN := hide (fun W => pad_no s (n := (s.size : Int) - 1) (by omega) W)
  have Z := hide (pad_size s c)
  have PH := pad_head s c
  have PT := hide (pad_tail s c)
  have Z1 : ((padV s c).size : Int) = (s.size : Int) + (c : Int) := by rw [Z.out]; omega
  have Z2 : s.size ≤ (padV s c).size := by rw [Z.out]; omega
  generalize padV s c = pd at *
  have ZN : (((pd.size : Int)) != (s.size : Int) + (c : Int)) = false := by rw [Z1]; simp
  clear o1 o2 o3 z1 z2 sm Z1
  go_enter Try.func7, Try.ntmps7
  go_wp2_with fail
  refine (awake_any _).mono ?_
  rintro e w1 ⟨rfl, hb1⟩
  go_wp2_with fail
  with_reducible refine (C1.out _).mono ?_
  rintro e w' ⟨rfl, rfl⟩
  go_wp2_with fail
  with_reducible refine (C2.out _).mono ?_
  rintro e w' ⟨rfl, rfl⟩
  go_wp2_with fail
  with_reducible refine (C3.out _).mono ?_
  rintro e w' ⟨rfl, rfl⟩
  go_wp2_with fail
  with_reducible refine (PY.out _).mono ?_
  rintro e w2 ⟨rfl, hb2⟩
  have HB2 := chain hb1 hb2
  clear hb1 hb2
  go_wp2_with fail
  go_loop [16] (fun i => ∃ j : Nat, s.size ≤ j ∧ j ≤ s.size + c ∧ i = .int .i64 (j : Int)) (fun i => (s.size + c) - (intOf i).toNat)
  case atStart => exact ⟨s.size, Nat.le_refl _, by omega, rfl⟩
  case round =>
    obtain ⟨j, h1, h2, rfl⟩ := hrel
    by_cases hlt : j < s.size + c
    · have B1 : j < pd.size := by rw [Z.out]; exact hlt
      have B2 := PT.out j h1 B1
      have B3 : ((pd[j].toNat : Int) != 0) = false := by rw [B2]; rfl
      have B4 : (j : Int) < (s.size : Int) + (c : Int) := by omega
      clear B2
      go_wp2
      go_round
      case rel => exact ⟨j + 1, by omega, by omega, by go_num⟩
      case measure => simp [intOf]; omega
    · have B4 : ¬ (j : Int) < (s.size : Int) + (c : Int) := by omega
      go_wp2_with fail
      with_reducible refine (PN.out _).mono ?_
      rintro e w3 ⟨rfl, hb3⟩
      go_wp2
      go_ret
      exact ⟨rfl, chain HB2 hb3⟩
set_option maxRecDepth 100000 in
theorem pieces_far (s : ByteArray) {a n : Int} (hs : 65536 < s.size) (w : World) :
    Calls Try.prog 7 #[.string s, .int .i64 a, .int .i64 n] w (Gives (.bool true) w) := by
  have hsI : (65536 : Int) < (s.size : Int) := by omega
  go_enter Try.func7, Try.ntmps7
  go_wp2_with fail
  refine (awake_any _).mono ?_
  rintro e w1 ⟨rfl, hb1⟩
  go_wp2_with fail
  refine (awake_any _).mono ?_
  rintro e w2 ⟨rfl, hb2⟩
  go_wp2
  go_ret
  exact ⟨rfl, chain hb1 hb2⟩
theorem pieces_any (s : ByteArray) (a n : Int) (w : World) :
    Calls Try.prog 7 #[.string s, .int .i64 a, .int .i64 n] w (Gives (.bool true) w) := by
  by_cases hs : s.size ≤ 65536
  · exact pieces_walk s hs w
  · exact pieces_far s (by omega) w
end Go.Proofs.Ytnbdldnbfhdhdaa
