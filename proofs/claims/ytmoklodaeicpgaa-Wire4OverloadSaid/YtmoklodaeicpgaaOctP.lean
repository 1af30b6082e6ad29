/-
  Contracts of put and get at the three sizes. Conditions: the number is one of its type; a string is no longer than an int; an int is an int of 64 bits.
-/
import Derived.Test.YtmoklodaeicpgaaOctB
namespace Go.Proofs.Ytmoklodaeicpgaa
open Go.RowKit Go.Joins

theorem set_prev {k : Nat} {tl : List UInt8} {b : UInt8} : ((List.replicate (k + 1) 0 ++ tl).map byteV).set k (byteV b) = (List.replicate k 0 ++ b :: tl).map byteV := by
  rw [← List.map_set]
  congr 1
  rw [List.replicate_succ', List.append_assoc, List.set_append_right _ _ (by simp)]
  simp
theorem byte_of {m : Nat} : Value.int .u8 ((m : Int) % 256) = byteV (UInt8.ofNat (m % 256)) := by
  unfold byteV
  rw [byte_toNat]
  congr 1
theorem base_le {w : World} {base g n cap size : Nat} {e : TypeId} {xs : List Value} (h : w.ownsRow base e size (.slice (some ⟨g, 0, none⟩) n cap) n xs) : base ≤ g := by
  rcases h.2 with ⟨h, _⟩ | ⟨g', cap', cur, h, hb, _⟩
  · cases h
  · cases h; exact hb
theorem take_snoc (s : ByteArray) (k : Nat) (h : k < s.size) : s.data.toList.take (k + 1) = s.data.toList.take k ++ [s[k]] := by
  rw [List.take_succ_eq_append_getElem (by simpa using h)]; rfl
theorem or_byte {m b : Nat} (hb : b < 256) : m * 256 ||| b = m * 256 + b := or_add (k := 8) ⟨m, Nat.mul_comm _ _⟩ hb

theorem next16 {m b : Nat} (hm : m * 256 + b < 65536) (hb : b < 256) : bits .or .u16 ((m : Int) * 256) (b : Int) = ((m * 256 + b : Nat) : Int) := by
  have h1 : m * 256 < 65536 := Nat.lt_of_le_of_lt (Nat.le_add_right _ _) hm
  have h2 : b < 65536 := Nat.lt_of_le_of_lt (Nat.le_add_left _ _) hm
  have h3 : (m : Int) * 256 = ((m * 256 : Nat) : Int) := by omega
  rw [h3, u16_or_nat (m * 256) b h1 h2, or_byte hb]
set_option maxRecDepth 100000 in
set_option maxHeartbeats 1000000 in
theorem put16_gen (x : Nat) (hx : x < 65536) (w : World) :
    Calls Try.prog 62 #[.int .u16 (x : Int)] w (Gives (St (beL 2 x)) w) := by
  obtain ⟨i0, hi, hz0, hz1, hz2⟩ := info_parts infoB
  go_enter Try.func62, Try.ntmps62
  go_wp2_with fail
  refine (size16_any w).mono ?_
  rintro e w' ⟨rfl, rfl⟩
  go_wp2_with (at_make; refine wpList_make_full _ rfl _ _ 39 rfl w.heap.size 5 i0 (.int .u8 0) 1 Try.underlying39 hi hz0 hz1 _ _ _ _ 2 rfl rfl (by omega) (by omega) ?b2 ?b3 (Nat.le_refl _) ?_)
  case b2 => rw [hz2]; omega
  case b3 => unfold maxLen; omega
  intro w0 hown0 hgrow0
  go_wp2_with fail
  go_loopw [0, 4] (fun v i wr => ∃ k m : Nat, k ≤ 2 ∧ i = .int .i64 ((k : Int) - 1) ∧ v = .int .u16 (m : Int) ∧ m < 65536 ∧ Hid (m = x / 256 ^ (2 - k)) ∧
      wr.ownsRow w.heap.size 5 1 (.slice (some ⟨w.heap.size, 0, none⟩) 2 2) 2 ((List.replicate k 0 ++ beL (2 - k) x).map byteV) ∧ Below w.heap.size w wr) (fun _ i _ => (intOf i + 1).toNat)
  case atStart =>
    refine ⟨2, x, Nat.le_refl _, rfl, rfl, hx, hide (by simp), ?_, (Below.refl _ _).grown hgrow0 (Nat.le_refl _) (fun k h => by cases h)⟩
    have e : (madeCells (Value.int .u8 0).cells (2 * 1)).toList = (List.replicate 2 (0 : UInt8) ++ beL (2 - 2) x).map byteV := by
      show (madeCells #[Value.int .u8 0] (2 * 1)).toList = _
      rw [toList_madeCells_one]
      simp [byteV, beL]
    rw [← e]; exact hown0
  case round =>
    obtain ⟨k, m, hk, rfl, rfl, hm, E, hown, hb⟩ := hrel
    by_cases h0 : k = 0
    · subst h0
      have CV := conv_own hown
      rw [List.replicate_zero, List.nil_append] at CV
      clear hown
      go_wp2
      go_ret
      exact ⟨rfl, hb⟩
    · obtain ⟨j, hj⟩ : ∃ j, k = j + 1 := ⟨k - 1, by omega⟩
      subst hj
      have J1 : ((j + 1 : Nat) : Int) - 1 = (j : Int) := by omega
      rw [J1]
      clear J1 h0
      have FZ := hown.frozenAt j
      have CZ := hown.cellAt j (by omega)
      rw [List.getElem?_map, List.getElem?_append_left (by simp), List.getElem?_replicate, if_pos (by omega)] at CZ
      have hown2 := (hown.stored j (byteV (UInt8.ofNat (m % 256)))).1
      have O := hide hown2
      rw [set_prev, E.out, show UInt8.ofNat (x / 256 ^ (2 - (j + 1)) % 256) :: beL (2 - (j + 1)) x = beL (2 - j) x by rw [show 2 - j = (2 - (j + 1)) + 1 by omega]; rfl, ← E.out] at O
      have F := hide (show m / 256 = x / 256 ^ (2 - j) by rw [E.out, Nat.div_div_eq_div_mul, ← Nat.pow_succ]; congr 2; omega)
      clear hown2
      go_wp2
      go_roundw
      case rel =>
        refine ⟨j, m / 256, by omega, by go_num, by go_num, by omega, F, ?_, ?_⟩
        · rw [byte_of]; exact O.out
        · exact hb.setCell (by dsimp only; omega) _
      case measure => simp [intOf] <;> omega
set_option maxRecDepth 100000 in
set_option maxHeartbeats 1000000 in
theorem get16_gen (s : ByteArray) (hs : s.size ≤ maxLen) {a : Int} (ha : I64 a) (w : World) :
    Calls Try.prog 78 #[.string s, .int .i64 a] w (Same (.tuple #[.int .u16 (getV 2 s a : Nat), .bool (cutO s a 2)]) w) := by
  have C := hide (cut_any s hs ha (show I64 2 by unfold I64; omega) w)
  have L := cut_size_le (S := 2) (s := s) (a := a)
  have R := hide (show getV 2 s a = beV (cutV s a (2 : Nat)).data.toList from rfl)
  rw [show ((2 : Nat) : Int) = 2 from rfl] at R L
  generalize cutV s a 2 = p at C L R
  generalize cutO s a 2 = o at C
  go_enter Try.func78, Try.ntmps78
  go_wp2_with fail
  refine (size16_any w).mono ?_
  rintro e w' ⟨rfl, rfl⟩
  go_wp2_with fail
  refine C.out.mono ?_
  rintro e w' ⟨rfl, rfl⟩
  go_wp2_with fail
  go_loop [8, 20] (fun v i => ∃ k m : Nat, k ≤ p.size ∧ i = .int .i64 (k : Int) ∧ v = .int .u16 (m : Int) ∧ Hid (m = beV (p.data.toList.take k))) (fun _ i => p.size - (intOf i).toNat)
  case atStart => exact ⟨0, 0, Nat.zero_le _, rfl, rfl, hide rfl⟩
  case round =>
    obtain ⟨k, m, hk, rfl, rfl, E⟩ := hrel
    by_cases hlt : k < p.size
    · have F := hide (show m * 256 + p[k].toNat = beV (p.data.toList.take (k + 1)) by rw [take_snoc p k hlt, beV_snoc, E.out])
      have hb := p[k].toNat_lt
      have hm : m * 256 + p[k].toNat < 65536 := by
        rw [F.out]
        refine Nat.lt_of_lt_of_le (beV_lt _) ?_
        refine Nat.le_trans (Nat.pow_le_pow_right (by omega) (show (p.data.toList.take (k + 1)).length ≤ 2 by rw [List.length_take]; omega)) (by omega)
      have NX := hide (next16 hm (by omega))
      clear hb
      go_wp2
      go_round
      case rel => exact ⟨k + 1, m * 256 + p[k].toNat, by omega, by go_num, by rw [NX.out], F⟩
      case measure => simp [intOf] <;> omega
    · have E2 := hide (show m = getV 2 s a by rw [R.out, E.out, List.take_of_length_le (by simp; omega)])
      go_wp2
      go_ret2
      exact ⟨congrArg Ending.returned (tup2 (by rw [← E2.out]; rfl) rfl), rfl⟩

theorem next32 {m b : Nat} (hm : m * 256 + b < 4294967296) (hb : b < 256) : bits .or .u32 ((m : Int) * 256) (b : Int) = ((m * 256 + b : Nat) : Int) := by
  have h1 : m * 256 < 4294967296 := Nat.lt_of_le_of_lt (Nat.le_add_right _ _) hm
  have h2 : b < 4294967296 := Nat.lt_of_le_of_lt (Nat.le_add_left _ _) hm
  have h3 : (m : Int) * 256 = ((m * 256 : Nat) : Int) := by omega
  rw [h3, u32_or_nat (m * 256) b h1 h2, or_byte hb]
set_option maxRecDepth 100000 in
set_option maxHeartbeats 1000000 in
theorem put32_gen (x : Nat) (hx : x < 4294967296) (w : World) :
    Calls Try.prog 63 #[.int .u32 (x : Int)] w (Gives (St (beL 4 x)) w) := by
  obtain ⟨i0, hi, hz0, hz1, hz2⟩ := info_parts infoB
  go_enter Try.func63, Try.ntmps63
  go_wp2_with fail
  refine (size32_any w).mono ?_
  rintro e w' ⟨rfl, rfl⟩
  go_wp2_with (at_make; refine wpList_make_full _ rfl _ _ 39 rfl w.heap.size 5 i0 (.int .u8 0) 1 Try.underlying39 hi hz0 hz1 _ _ _ _ 4 rfl rfl (by omega) (by omega) ?b2 ?b3 (Nat.le_refl _) ?_)
  case b2 => rw [hz2]; omega
  case b3 => unfold maxLen; omega
  intro w0 hown0 hgrow0
  go_wp2_with fail
  go_loopw [0, 4] (fun v i wr => ∃ k m : Nat, k ≤ 4 ∧ i = .int .i64 ((k : Int) - 1) ∧ v = .int .u32 (m : Int) ∧ m < 4294967296 ∧ Hid (m = x / 256 ^ (4 - k)) ∧
      wr.ownsRow w.heap.size 5 1 (.slice (some ⟨w.heap.size, 0, none⟩) 4 4) 4 ((List.replicate k 0 ++ beL (4 - k) x).map byteV) ∧ Below w.heap.size w wr) (fun _ i _ => (intOf i + 1).toNat)
  case atStart =>
    refine ⟨4, x, Nat.le_refl _, rfl, rfl, hx, hide (by simp), ?_, (Below.refl _ _).grown hgrow0 (Nat.le_refl _) (fun k h => by cases h)⟩
    have e : (madeCells (Value.int .u8 0).cells (4 * 1)).toList = (List.replicate 4 (0 : UInt8) ++ beL (4 - 4) x).map byteV := by
      show (madeCells #[Value.int .u8 0] (4 * 1)).toList = _
      rw [toList_madeCells_one]
      simp [byteV, beL]
    rw [← e]; exact hown0
  case round =>
    obtain ⟨k, m, hk, rfl, rfl, hm, E, hown, hb⟩ := hrel
    by_cases h0 : k = 0
    · subst h0
      have CV := conv_own hown
      rw [List.replicate_zero, List.nil_append] at CV
      clear hown
      go_wp2
      go_ret
      exact ⟨rfl, hb⟩
    · obtain ⟨j, hj⟩ : ∃ j, k = j + 1 := ⟨k - 1, by omega⟩
      subst hj
      have J1 : ((j + 1 : Nat) : Int) - 1 = (j : Int) := by omega
      rw [J1]
      clear J1 h0
      have FZ := hown.frozenAt j
      have CZ := hown.cellAt j (by omega)
      rw [List.getElem?_map, List.getElem?_append_left (by simp), List.getElem?_replicate, if_pos (by omega)] at CZ
      have hown2 := (hown.stored j (byteV (UInt8.ofNat (m % 256)))).1
      have O := hide hown2
      rw [set_prev, E.out, show UInt8.ofNat (x / 256 ^ (4 - (j + 1)) % 256) :: beL (4 - (j + 1)) x = beL (4 - j) x by rw [show 4 - j = (4 - (j + 1)) + 1 by omega]; rfl, ← E.out] at O
      have F := hide (show m / 256 = x / 256 ^ (4 - j) by rw [E.out, Nat.div_div_eq_div_mul, ← Nat.pow_succ]; congr 2; omega)
      clear hown2
      go_wp2
      go_roundw
      case rel =>
        refine ⟨j, m / 256, by omega, by go_num, by go_num, by omega, F, ?_, ?_⟩
        · rw [byte_of]; exact O.out
        · exact hb.setCell (by dsimp only; omega) _
      case measure => simp [intOf] <;> omega
set_option maxRecDepth 100000 in
set_option maxHeartbeats 1000000 in
theorem get32_gen (s : ByteArray) (hs : s.size ≤ maxLen) {a : Int} (ha : I64 a) (w : World) :
    Calls Try.prog 79 #[.string s, .int .i64 a] w (Same (.tuple #[.int .u32 (getV 4 s a : Nat), .bool (cutO s a 4)]) w) := by
  have C := hide (cut_any s hs ha (show I64 4 by unfold I64; omega) w)
  have L := cut_size_le (S := 4) (s := s) (a := a)
  have R := hide (show getV 4 s a = beV (cutV s a (4 : Nat)).data.toList from rfl)
  rw [show ((4 : Nat) : Int) = 4 from rfl] at R L
  generalize cutV s a 4 = p at C L R
  generalize cutO s a 4 = o at C
  go_enter Try.func79, Try.ntmps79
  go_wp2_with fail
  refine (size32_any w).mono ?_
  rintro e w' ⟨rfl, rfl⟩
  go_wp2_with fail
  refine C.out.mono ?_
  rintro e w' ⟨rfl, rfl⟩
  go_wp2_with fail
  go_loop [8, 20] (fun v i => ∃ k m : Nat, k ≤ p.size ∧ i = .int .i64 (k : Int) ∧ v = .int .u32 (m : Int) ∧ Hid (m = beV (p.data.toList.take k))) (fun _ i => p.size - (intOf i).toNat)
  case atStart => exact ⟨0, 0, Nat.zero_le _, rfl, rfl, hide rfl⟩
  case round =>
    obtain ⟨k, m, hk, rfl, rfl, E⟩ := hrel
    by_cases hlt : k < p.size
    · have F := hide (show m * 256 + p[k].toNat = beV (p.data.toList.take (k + 1)) by rw [take_snoc p k hlt, beV_snoc, E.out])
      have hb := p[k].toNat_lt
      have hm : m * 256 + p[k].toNat < 4294967296 := by
        rw [F.out]
        refine Nat.lt_of_lt_of_le (beV_lt _) ?_
        refine Nat.le_trans (Nat.pow_le_pow_right (by omega) (show (p.data.toList.take (k + 1)).length ≤ 4 by rw [List.length_take]; omega)) (by omega)
      have NX := hide (next32 hm (by omega))
      clear hb
      go_wp2
      go_round
      case rel => exact ⟨k + 1, m * 256 + p[k].toNat, by omega, by go_num, by rw [NX.out], F⟩
      case measure => simp [intOf] <;> omega
    · have E2 := hide (show m = getV 4 s a by rw [R.out, E.out, List.take_of_length_le (by simp; omega)])
      go_wp2
      go_ret2
      exact ⟨congrArg Ending.returned (tup2 (by rw [← E2.out]; rfl) rfl), rfl⟩

theorem next64 {m b : Nat} (hm : m * 256 + b < 18446744073709551616) (hb : b < 256) : bits .or .u64 ((m : Int) * 256) (b : Int) = ((m * 256 + b : Nat) : Int) := by
  have h1 : m * 256 < 18446744073709551616 := Nat.lt_of_le_of_lt (Nat.le_add_right _ _) hm
  have h2 : b < 18446744073709551616 := Nat.lt_of_le_of_lt (Nat.le_add_left _ _) hm
  have h3 : (m : Int) * 256 = ((m * 256 : Nat) : Int) := by omega
  rw [h3, u64_or_nat (m * 256) b h1 h2, or_byte hb]
end Go.Proofs.Ytmoklodaeicpgaa
