/-
  Contracts of the sum of 32 bits, of the program and of the document's own. Condition: a string is no longer than an int.
-/
import Derived.Test.YtnaedngbcndakaaOctV
import Derived.Test.YtnaedngbcndakaaDigM
import Derived.WalkSpells
import Derived.WalkLawsBesides
import Derived.Laws.BitsAllLaws
import Derived.Laws.Externs
import Derived.RegionTactic
import Derived.ChangeAlike
import Derived.Lib.Slices
import Derived.Lib.Small
import Derived.Lib.Walk
import Derived.Lib.SmallJoins
import Derived.ProofKit
import Derived.BigQuiet
import Derived.Deep.QuietTactic
import Derived.Laws.CopyOwn
import Derived.Laws.IdiomStrings
namespace Go.Proofs.Ytnaedngbcndakaa
open Go.RowKit Go.Joins

abbrev U (n : Nat) : Value := .int .u32 (n : Int)
theorem and_one {r : Nat} (h : r < 4294967296) : bits .and .u32 (r : Int) 1 = (r : Int) % 2 := by
  rw [show (1 : Int) = ((1 : Nat) : Int) from rfl, u32_and_nat r 1 h (by omega), Nat.and_one_is_mod]; omega
theorem xor_poly {r : Nat} (h : r < 4294967296) : bits .xor .u32 ((r : Int) / 2) 3988292384 = ((r / 2 ^^^ 3988292384 : Nat) : Int) := by
  rw [show (r : Int) / 2 = ((r / 2 : Nat) : Int) by omega, show (3988292384 : Int) = ((3988292384 : Nat) : Int) from rfl, u32_xor_nat (r / 2) 3988292384 (by omega) (by omega)]
theorem xor_ones {r : Nat} (h : r < 4294967296) : bits .xor .u32 (r : Int) 4294967295 = ((r ^^^ 4294967295 : Nat) : Int) := by
  rw [show (4294967295 : Int) = ((4294967295 : Nat) : Int) from rfl, u32_xor_nat r 4294967295 h (by omega)]
theorem max_u32 {r : Nat} (h : r < 4294967296) : bits .xor .u32 IntKind.u32.max (r : Int) = ((r ^^^ 4294967295 : Nat) : Int) := by
  rw [show IntKind.u32.max = ((4294967295 : Nat) : Int) from rfl, u32_xor_nat 4294967295 r (by omega) h, Nat.xor_comm]
theorem xor_u32 {r b : Nat} (h : r < 4294967296) (hb : b < 4294967296) : bits .xor .u32 (r : Int) (b : Int) = ((r ^^^ b : Nat) : Int) := u32_xor_nat r b h hb

set_option maxRecDepth 100000 in
theorem divide_any (r : Nat) (hr : r < 4294967296) (w : World) : Calls Try.prog 61 #[U r] w (Same (U (crcN 8 r)) w) := by
  go_enter Try.func61, Try.ntmps61
  go_wp2_with fail
  go_loop [0, 4] (fun v i => ∃ k m : Nat, k ≤ 8 ∧ i = .int .i64 (k : Int) ∧ v = .int .u32 (m : Int) ∧ m < 4294967296 ∧ Hid (m = crcN k r)) (fun _ i => 8 - (intOf i).toNat)
  case atStart => exact ⟨0, r, Nat.zero_le _, rfl, rfl, hr, hide rfl⟩
  case round =>
    obtain ⟨k, m, hk, rfl, rfl, hm, E⟩ := hrel
    by_cases hlt : k < 8
    · have A := and_one hm
      have X := xor_poly hm
      have F := hide (show crc1 m = crcN (k + 1) r by rw [E.out]; rfl)
      have G := hide (crc1_lt hm)
      by_cases ho : m % 2 = 1
      · have ho2 : (m : Int) % 2 = 1 := by omega
        unfold crc1 at F G
        rw [if_pos ho] at F G
        clear ho
        go_wp2
        go_round
        case rel => exact ⟨k + 1, _, by omega, by go_num, rfl, G.out, F⟩
        case measure => simp [intOf] <;> omega
      · have ho2 : ¬ (m : Int) % 2 = 1 := by omega
        unfold crc1 at F G
        rw [if_neg ho] at F G
        clear ho
        go_wp2
        go_round
        case rel => exact ⟨k + 1, m / 2, by omega, by go_num, by go_num, G.out, F⟩
        case measure => simp [intOf] <;> omega
    · have E2 := hide (show m = crcN 8 r by rw [E.out, show k = 8 by omega])
      go_wp2
      go_ret
      exact ⟨by rw [E2.out]; rfl, rfl⟩

theorem drop_next (l : List UInt8) (k : Nat) (h : k < l.length) (r : Nat) : crcF (l.drop (k + 1)) (crcN 8 (r ^^^ l[k].toNat)) = crcF (l.drop k) r := by
  rw [List.drop_eq_getElem_cons h]; rfl
set_option maxRecDepth 100000 in
theorem crc_any (s : ByteArray) (hs : s.size ≤ maxLen) (w : World) : Calls Try.prog 39 #[.string s] w (Same (U (crcL s.data.toList)) w) := by
  unfold maxLen at hs
  have D := hide (fun (r : Nat) (h : r < 4294967296) W => divide_any r h W)
  go_enter Try.func39, Try.ntmps39
  go_wp2_with fail
  go_loop [3, 7] (fun v i => ∃ k m : Nat, k ≤ s.size ∧ i = .int .i64 (k : Int) ∧ v = .int .u32 (m : Int) ∧ m < 4294967296 ∧ Hid (crcF (s.data.toList.drop k) m = crcF s.data.toList 4294967295)) (fun _ i => s.size - (intOf i).toNat)
  case atStart => exact ⟨0, 4294967295, Nat.zero_le _, rfl, rfl, by omega, hide rfl⟩
  case round =>
    obtain ⟨k, m, hk, rfl, rfl, hm, E⟩ := hrel
    by_cases hlt : k < s.size
    · have hb := byte_lt s[k]
      have hl : k < s.data.toList.length := by simpa using hlt
      have F := hide (show crcF (s.data.toList.drop (k + 1)) (crcN 8 (m ^^^ s[k].toNat)) = crcF s.data.toList 4294967295 by rw [← E.out]; exact drop_next s.data.toList k hl m)
      have X := xor_u32 (b := s[k].toNat) hm (by omega)
      have G := hide (xor_lt hm (show s[k].toNat < 4294967296 by omega))
      have L := hide (crcN_lt G.out 8)
      go_wp2_with fail
      refine (D.out _ G.out _).mono ?_
      rintro e w' ⟨rfl, rfl⟩
      go_wp2
      go_round
      case rel => exact ⟨k + 1, _, by omega, by go_num, rfl, L.out, F⟩
      case measure => simp [intOf] <;> omega
    · have X := max_u32 hm
      have E2 := hide (show m ^^^ 4294967295 = crcL s.data.toList by
        have := E.out
        rw [List.drop_of_length_le (by simp; omega)] at this
        rw [show m = crcF s.data.toList 4294967295 from this]; rfl)
      go_wp2
      go_ret
      exact ⟨by rw [← E2.out]; rfl, rfl⟩

theorem ref_xor {r : Nat} (h : r < 4294967296) : bits .xor .u32 ((r : Int) / 2) 3988292384 = ((r / 2 ^^^ 3988292384 : Nat) : Int) := xor_poly h
set_option maxRecDepth 100000 in
theorem rcrc_any (s : ByteArray) (hs : s.size ≤ maxLen) (w : World) : Calls Try.prog 41 #[.string s] w (Same (U (crcL s.data.toList)) w) := by
  unfold maxLen at hs
  go_enter Try.func41, Try.ntmps41
  go_wp2_with fail
  go_loop [3, 4] (fun v i => ∃ k m : Nat, k ≤ s.size ∧ i = .int .i64 (k : Int) ∧ v = .int .u32 (m : Int) ∧ m < 4294967296 ∧ Hid (crcF (s.data.toList.drop k) m = crcF s.data.toList 4294967295)) (fun _ i => s.size - (intOf i).toNat)
  case atStart => exact ⟨0, 4294967295, Nat.zero_le _, rfl, rfl, by omega, hide rfl⟩
  case round =>
    obtain ⟨k, m, hk, rfl, rfl, hm, E⟩ := hrel
    by_cases hlt : k < s.size
    · have hb := byte_lt s[k]
      have hl : k < s.data.toList.length := by simpa using hlt
      obtain ⟨m0, M0⟩ : ∃ m0, m0 = m ^^^ s[k].toNat := ⟨_, rfl⟩
      have F := hide (show crcF (s.data.toList.drop (k + 1)) (crcN 8 m0) = crcF s.data.toList 4294967295 by rw [← E.out, M0]; exact drop_next s.data.toList k hl m)
      have X := xor_u32 (b := s[k].toNat) hm (by omega)
      have hm0 : m0 < 4294967296 := by rw [M0]; exact xor_lt hm (show s[k].toNat < 4294967296 by omega)
      have L := hide (crcN_lt hm0 8)
      rw [← M0] at X
      have M := hide M0
      clear M0
      go_wp2_with fail
      go_loop [3, 5] (fun v i => ∃ j n : Nat, j ≤ 8 ∧ i = .int .i64 (j : Int) ∧ v = .int .u32 (n : Int) ∧ n < 4294967296 ∧ Hid (n = crcN j m0)) (fun _ i => 8 - (intOf i).toNat)
      case atStart => exact ⟨0, m0, Nat.zero_le _, rfl, rfl, hm0, hide rfl⟩
      case round =>
        obtain ⟨j, n, hj, rfl, rfl, hn, En⟩ := hrel
        clear X
        by_cases hlt : j < 8
        · have X := xor_poly hn
          have F := hide (show crc1 n = crcN (j + 1) m0 by rw [En.out]; rfl)
          have G := hide (crc1_lt hn)
          by_cases ho : n % 2 = 1
          · have ho2 : (n : Int) % 2 = 1 := by omega
            unfold crc1 at F G
            rw [if_pos ho] at F G
            clear ho
            go_wp2
            go_round
            case rel => exact ⟨j + 1, _, by omega, by go_num, rfl, G.out, F⟩
            case measure => simp [intOf] <;> omega
          · have ho2 : ¬ (n : Int) % 2 = 1 := by omega
            unfold crc1 at F G
            rw [if_neg ho] at F G
            clear ho
            go_wp2
            go_round
            case rel => exact ⟨j + 1, n / 2, by omega, by go_num, by go_num, G.out, F⟩
            case measure => simp [intOf] <;> omega
        · have E2 := hide (show n = crcN 8 m0 by rw [En.out, show j = 8 by omega])
          go_wp2
          go_round
          case rel => exact ⟨k + 1, n, by omega, by go_num, rfl, hn, by rw [E2.out]; exact F⟩
          case measure => simp [intOf] <;> omega
    · have X := xor_ones hm
      have E2 := hide (show m ^^^ 4294967295 = crcL s.data.toList by
        have := E.out
        rw [List.drop_of_length_le (by simp; omega)] at this
        rw [show m = crcF s.data.toList 4294967295 from this]; rfl)
      go_wp2
      go_ret
      exact ⟨by rw [← E2.out]; rfl, rfl⟩
end Go.Proofs.Ytnaedngbcndakaa
