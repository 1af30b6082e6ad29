/-
  Contracts of the document's own answer for octet (tenancyref04). Conditions: a number is one of its type; a string is no longer than an int; an int is an int of 64 bits; Pad: the number is at most 2^20, the text at most 2^47 bytes.
-/
import Derived.Test.YtmoklodaeicpgaaOctC
import Derived.Deep.AppendLies
import Derived.ArgAppend
import Derived.Laws.OwnMore
namespace Go.Proofs.Ytmoklodaeicpgaa
open Go.RowKit Go.Joins

set_option maxRecDepth 100000 in
theorem cut_ref (s : ByteArray) (hs : s.size ≤ maxLen) {a n : Int} (ha : I64 a) (hn : I64 n) (w : World) :
    Calls Try.prog 81 #[.string s, .int .i64 a, .int .i64 n] w (Same (.tuple #[.string (cutV s a n), .bool (cutO s a n)]) w) := by
  unfold maxLen at hs
  obtain ⟨ha1, ha2⟩ := ha
  obtain ⟨hn1, hn2⟩ := hn
  by_cases h : 0 ≤ a ∧ 0 ≤ n ∧ n ≤ (s.size : Int) - a
  · obtain ⟨h1, h2, h3⟩ := h
    have K := hide (show cutO s a n = true by unfold cutO; simpa using ⟨h1, h2, h3⟩)
    have V := hide (cut_yes K.out)
    have E := hide (show s.extract a.toNat (a + n).toNat = sub s a.toNat n.toNat by unfold sub; rw [show (a + n).toNat = a.toNat + n.toNat by omega])
    have h4 : ¬ a < 0 := by omega
    have h5 : ¬ n < 0 := by omega
    have h6 : ¬ (s.size : Int) - a < n := by omega
    have h7 : ¬ (s.size : Int) < a := by omega
    have h8 : a + n ≤ (s.size : Int) := by omega
    go_enter Try.func81, Try.ntmps81
    go_wp2
    go_ret2
    refine ⟨congrArg Ending.returned (tup2 ?_ (bool_eq K.out.symm)), rfl⟩
    rw [V.out, ← E.out]; rfl
  · have K := hide (show cutO s a n = false by unfold cutO; simpa using h)
    have V := hide (cut_no K.out)
    by_cases h1 : a < 0
    · clear h
      go_enter Try.func81, Try.ntmps81
      go_wp2
      go_ret2
      exact ⟨congrArg Ending.returned (tup2 (by rw [V.out]; rfl) (bool_eq K.out.symm)), rfl⟩
    by_cases h2 : n < 0
    · clear h
      go_enter Try.func81, Try.ntmps81
      go_wp2
      go_ret2
      exact ⟨congrArg Ending.returned (tup2 (by rw [V.out]; rfl) (bool_eq K.out.symm)), rfl⟩
    by_cases h4 : (s.size : Int) < a
    · clear h
      go_enter Try.func81, Try.ntmps81
      go_wp2
      go_ret2
      exact ⟨congrArg Ending.returned (tup2 (by rw [V.out]; rfl) (bool_eq K.out.symm)), rfl⟩
    · have h3 : (s.size : Int) - a < n := by omega
      clear h
      go_enter Try.func81, Try.ntmps81
      go_wp2
      go_ret2
      exact ⟨congrArg Ending.returned (tup2 (by rw [V.out]; rfl) (bool_eq K.out.symm)), rfl⟩

theorem shr_nat (x j : Nat) : ((x : Int) / 2 ^ (8 * j)) = ((x / 256 ^ j : Nat) : Int) := by
  rw [cast_div, Nat.pow_mul]
theorem one_cell (b : UInt8) : ∀ u ∈ [byteV b], u.oneCell' = true := by
  intro u hu
  rw [List.mem_singleton.1 hu]
  rfl
theorem one_at (W : World) (b : UInt8) (t : TypeId) : ∀ j u, [byteV b][j]? = some u → (W.alloc (.cells #[byteV b] t)).cell? ((⟨W.heap.size, 0, none⟩ : Go.Addr).add j) = some u := by
  intro j u hj
  match j, hj with
  | 0, hj => simp at hj; subst hj; simp [Addr.add, go_sem]
  | j + 1, hj => simp at hj

set_option maxRecDepth 100000 in
set_option maxHeartbeats 1000000 in
theorem put_gref (x : Nat) (N : Nat) (hN : N ≤ 8) (w : World) :
    Calls Try.prog 52 #[.int .u64 (x : Int), .int .i64 (N : Int)] w (Gives (St (beL N x)) w) := by
  obtain ⟨i0, hi, hz0, hz1, hz2⟩ := info_parts infoB
  have O0 := World.ownsRow_lit (base := w.heap.size) (e := 5) (size := 1) w #[] 0 (Nat.le_refl _) (by omega) rfl
  go_enter Try.func52, Try.ntmps52
  go_wp2_with fail
  go_loopw [5, 6] (fun v i wr => ∃ (k n g cap : Nat) (l : List UInt8), k ≤ N ∧ i = .int .i64 ((k : Int) - 1) ∧ v = .slice (some ⟨g, 0, none⟩) n cap ∧ n ≤ N ∧ Hid (n + k = N) ∧ Hid (beL N x = l ++ beL k x) ∧
      wr.ownsRow w.heap.size 5 1 (.slice (some ⟨g, 0, none⟩) n cap) n (l.map byteV) ∧ Below w.heap.size w wr) (fun _ i _ => (intOf i + 1).toNat)
  case atStart => exact ⟨N, 0, w.heap.size, 0, [], Nat.le_refl _, rfl, rfl, Nat.zero_le _, hide (by simp), hide rfl, O0, below_alloc _ _⟩
  case round =>
    obtain ⟨k, n, g, cap, l, hk, rfl, rfl, hn, NK, E, hown, hb⟩ := hrel
    clear O0
    by_cases h0 : k = 0
    · subst h0
      have CV := conv_own hown
      have E2 := hide (show beL N x = l by rw [E.out]; simp [beL])
      clear hown
      go_wp2
      go_ret
      exact ⟨congrArg Ending.returned (st_eq E2.out.symm), hb⟩
    · obtain ⟨j, hj⟩ : ∃ j, k = j + 1 := ⟨k - 1, by omega⟩
      subst hj
      have J1 : ((j + 1 : Nat) : Int) - 1 = (j : Int) := by omega
      rw [J1]
      clear J1 h0
      have S := shr_nat x j
      have SB : (((x / 256 ^ j : Nat) : Int) % 256) = ((UInt8.ofNat (x / 256 ^ j % 256)).toNat : Int) := by rw [byte_toNat]; omega
      have E2 := hide (show beL N x = (l ++ [UInt8.ofNat (x / 256 ^ j % 256)]) ++ beL j x by rw [E.out, List.append_assoc]; rfl)
      generalize x / 256 ^ j = m at *
      generalize UInt8.ofNat (m % 256) = b at *
      have T1 : (8 * (j : Int)).toNat = 8 * j := by omega
      have J7 : (j : Int) ≤ 7 := by omega
      have J8 : (j : Int) < 8 := by omega
      have J9 : 8 * (j : Int) < 64 := by omega
      have J0 : (0 : Int) ≤ 8 * (j : Int) := by omega
      have hA := hown.alloc (.cells #[.int .u8 (b.toNat : Int)] 5)
      have HB := hb.alloc hb.size (.cells #[.int .u8 (b.toNat : Int)] 5)
      have hbz := base_le hown
      go_wp2_with (at_builtin; refine wpList_append_lies _ rfl (.tmp 14) (.tmp 21) 39 rfl w.heap.size 5 i0 (.int .u8 0) 1 1 Try.underlying39 hi hz0 hz1 hz2 rfl (by decide) _ _ _ rfl hA ⟨wr.heap.size, 0, none⟩ 1 1 [byteV b] rfl rfl (one_at wr b 5) (one_cell b) (by omega) (by unfold maxLen; omega) (by omega) HB.size _ rfl ?_; intro g2 cap2 w2 hown2 hgrow2 _ _)
      have HB2 := HB.grown hgrow2 (by simp; have := hb.size; omega) (fun j hj => by cases hj; exact hbz)
      go_wp2
      go_roundw
      case rel =>
        refine ⟨j, n + 1, g2, cap2, l ++ [b], by omega, by go_num, rfl, by have := NK.out; omega, hide (by have := NK.out; omega), E2, ?_, HB2⟩
        rw [List.map_append]; exact hown2
      case measure => simp [intOf] <;> omega

theorem next_ref {m b : Nat} (hm : m * 256 + b < 18446744073709551616) : IntKind.u64.wrap (IntKind.u64.wrap ((m : Int) * 256) + (b : Int)) = ((m * 256 + b : Nat) : Int) := by
  rw [IntKind.wrap_u64, IntKind.wrap_u64]; omega
set_option maxRecDepth 100000 in
set_option maxHeartbeats 1000000 in
theorem get_gref (s : ByteArray) (hs : s.size ≤ maxLen) {a : Int} (ha : I64 a) (N : Nat) (hN : N ≤ 8) (w : World) :
    Calls Try.prog 70 #[.string s, .int .i64 a, .int .i64 (N : Int)] w (Same (.tuple #[.int .u64 (getV N s a : Nat), .bool (cutO s a N)]) w) := by
  have C := hide (cut_ref s hs ha (show I64 N by unfold I64; omega) w)
  have L := cut_size_le (S := N) (s := s) (a := a)
  have R := hide (show getV N s a = beV (cutV s a (N : Nat)).data.toList from rfl)
  generalize cutV s a (N : Int) = p at C L R
  generalize cutO s a (N : Int) = o at C
  go_enter Try.func70, Try.ntmps70
  go_wp2_with fail
  refine C.out.mono ?_
  rintro e w' ⟨rfl, rfl⟩
  go_wp2_with fail
  go_loop [10, 11] (fun v i => ∃ k m : Nat, k ≤ p.size ∧ i = .int .i64 (k : Int) ∧ v = .int .u64 (m : Int) ∧ Hid (m = beV (p.data.toList.take k))) (fun _ i => p.size - (intOf i).toNat)
  case atStart => exact ⟨0, 0, Nat.zero_le _, rfl, rfl, hide rfl⟩
  case round =>
    obtain ⟨k, m, hk, rfl, rfl, E⟩ := hrel
    by_cases hlt : k < p.size
    · have F := hide (show m * 256 + p[k].toNat = beV (p.data.toList.take (k + 1)) by rw [take_snoc p k hlt, beV_snoc, E.out])
      have hm : m * 256 + p[k].toNat < 18446744073709551616 := by
        rw [F.out]
        refine Nat.lt_of_lt_of_le (beV_lt _) ?_
        refine Nat.le_trans (Nat.pow_le_pow_right (n := 256) (by omega) (show (p.data.toList.take (k + 1)).length ≤ 8 by rw [List.length_take]; omega)) (by omega)
      have hmm : (m : Int) * 256 + (p[k].toNat : Int) < 18446744073709551616 := by omega
      go_wp2
      go_round
      case rel => exact ⟨k + 1, m * 256 + p[k].toNat, by omega, by go_num, by first | rfl | go_num, F⟩
      case measure => simp [intOf]; omega
    · have E2 := hide (show m = getV N s a by rw [R.out, E.out, List.take_of_length_le (by simp; omega)])
      go_wp2
      go_ret2
      exact ⟨congrArg Ending.returned (tup2 (by rw [← E2.out]; rfl) rfl), rfl⟩

set_option maxRecDepth 100000 in
theorem put16_ref (x : Nat) (hx : x < 65536) (w : World) : Calls Try.prog 28 #[.int .u16 (x : Int)] w (Gives (St (beL 2 x)) w) := by
  have P := hide (fun W => put_gref x 2 (by omega) W)
  have hx2 : (x : Int) < 65536 := by omega
  go_enter Try.func28, Try.ntmps28
  go_wp2_with fail
  refine (P.out _).mono ?_
  rintro e w' ⟨rfl, hb⟩
  go_wp2
  go_ret
  exact ⟨rfl, hb⟩
set_option maxRecDepth 100000 in
theorem put32_ref (x : Nat) (hx : x < 4294967296) (w : World) : Calls Try.prog 27 #[.int .u32 (x : Int)] w (Gives (St (beL 4 x)) w) := by
  have P := hide (fun W => put_gref x 4 (by omega) W)
  have hx2 : (x : Int) < 4294967296 := by omega
  go_enter Try.func27, Try.ntmps27
  go_wp2_with fail
  refine (P.out _).mono ?_
  rintro e w' ⟨rfl, hb⟩
  go_wp2
  go_ret
  exact ⟨rfl, hb⟩
set_option maxRecDepth 100000 in
theorem get32_ref (s : ByteArray) (hs : s.size ≤ maxLen) {a : Int} (ha : I64 a) (w : World) : Calls Try.prog 56 #[.string s, .int .i64 a] w (Same (.tuple #[.int .u32 (getV 4 s a : Nat), .bool (cutO s a 4)]) w) := by
  have P := hide (fun W => get_gref s hs ha 4 (by omega) W)
  have G := getV_lt 4 s a
  rw [show ((4 : Nat) : Int) = 4 from rfl] at P
  generalize getV 4 s a = v at *
  generalize cutO s a 4 = o at *
  have W1 : IntKind.u32.wrap (v : Int) = (v : Int) := by rw [IntKind.wrap_u32]; omega
  have W2 : (v : Int) % 4294967296 = (v : Int) := by omega
  clear G
  go_enter Try.func56, Try.ntmps56
  go_wp2_with fail
  refine (P.out _).mono ?_
  rintro e w' ⟨rfl, rfl⟩
  go_wp2
  go_ret2
  exact ⟨rfl, rfl⟩

end Go.Proofs.Ytmoklodaeicpgaa
