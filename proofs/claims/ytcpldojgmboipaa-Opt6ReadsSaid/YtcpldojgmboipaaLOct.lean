/-
  Contracts of octet's and tenancyref04's calls that lease's functions reach. Conditions: a number is one of its type; a string is no longer than an int; an int is an int of 64 bits.
-/
import Derived.Test.YtcpldojgmboipaaLBase
namespace Go.Proofs.Ytcpldojgmboipaa
open Go.RowKit Go.Joins

theorem tab_at (i : Int) (h0 : 0 ≤ i) (h1 : i ≤ 255) (W : World) : (Instr.index 9 (.string Lib.len8tab) (.int .u8 i)).run Try.prog W = .ok (.int .u8 (Lib.len8 i)) W :=
  Lib.run_index_len8tab W _ _ i Try.underlying9 h0 h1
theorem len_close {x i K : Int} (k : Nat) (hK : K = (k : Int)) (hk : 2 ^ k ≤ x.toNat) (hx : x.toNat < 2 ^ 64) (hi' : i.toNat = x.toNat / 2 ^ k) (h0 : 0 ≤ i) (h1 : i ≤ 255) (h2 : k ≤ 64) :
    wrap64 (K + wrap64 (Lib.len8 i)) = (Lib.bitLen x.toNat : Int) := by
  have e := Lib.bitLen_shift k x.toNat hk hx
  have l := Lib.bitLen_le8' i h0 h1
  rw [Lib.len8_of i h0 h1, hK, e, ← hi']
  rw [IntWalk.wrap64_in (Lib.bitLen i.toNat : Int) ⟨by omega, by omega⟩, IntWalk.wrap64_in _ ⟨by omega, by omega⟩]
  omega
theorem len_close0 {x : Int} (h0 : 0 ≤ x) (h1 : x ≤ 255) : wrap64 (wrap64 (Lib.len8 x)) = (Lib.bitLen x.toNat : Int) := by
  have l := Lib.bitLen_le8' x h0 h1
  rw [Lib.len8_of x h0 h1]
  rw [IntWalk.wrap64_in (Lib.bitLen x.toNat : Int) ⟨by omega, by omega⟩, IntWalk.wrap64_in _ ⟨by omega, by omega⟩]
set_option maxHeartbeats 4000000 in
set_option maxRecDepth 100000 in
theorem len64_any (x : Int) (w : World) (h0 : 0 ≤ x) (h1 : x ≤ 18446744073709551615) :
    Calls Try.prog 99 #[.int .u64 x] w fun e w' => e = .returned (.int .i64 (Lib.bitLen x.toNat)) ∧ w = w' := by
  have f0 := fun W (h : x < 256) => tab_at x h0 (by omega) W
  have f1 := fun W (h : x < 65536) => tab_at (x / 256) (by omega) (by omega) W
  have f2 := fun W (h : x / 65536 < 256) => tab_at (x / 65536) (by omega) (by omega) W
  have f3 := fun W (h : x < 4294967296) => tab_at (x / 65536 / 256) (by omega) (by omega) W
  have f4 := fun W (h : x / 4294967296 < 256) => tab_at (x / 4294967296) (by omega) (by omega) W
  have f5 := fun W (h : x / 4294967296 < 65536) => tab_at (x / 4294967296 / 256) (by omega) (by omega) W
  have f6 := fun W (h : x / 4294967296 / 65536 < 256) => tab_at (x / 4294967296 / 65536) (by omega) (by omega) W
  have f7 := tab_at (x / 4294967296 / 65536 / 256) (by omega) (by omega)
  go_enter Try.func99, Try.ntmps99
  go_wp2
  all_goals (go_ret; refine ⟨congrArg Ending.returned (congrArg (Value.int IntKind.i64) ?_), rfl⟩)
  all_goals clear f0 f1 f2 f3 f4 f5 f6 f7
  · exact len_close 56 rfl (by omega) (by omega) (by omega) (by omega) (by omega) (by omega)
  · exact len_close 48 rfl (by omega) (by omega) (by omega) (by omega) (by omega) (by omega)
  · exact len_close 40 rfl (by omega) (by omega) (by omega) (by omega) (by omega) (by omega)
  · exact len_close 32 rfl (by omega) (by omega) (by omega) (by omega) (by omega) (by omega)
  · exact len_close 24 rfl (by omega) (by omega) (by omega) (by omega) (by omega) (by omega)
  · exact len_close 16 rfl (by omega) (by omega) (by omega) (by omega) (by omega) (by omega)
  · exact len_close 8 rfl (by omega) (by omega) (by omega) (by omega) (by omega) (by omega)
  · exact len_close0 (by omega) (by omega)
theorem bitLen16 : Lib.bitLen (65535 : Int).toNat = 16 := by decide +kernel
set_option maxRecDepth 100000 in
theorem size16_any (w : World) : Calls Try.prog 85 #[] w (Same (.int .i64 2) w) := by
  have L := hide (len64_any 65535 w (by omega) (by omega))
  rw [bitLen16] at L
  go_enter Try.func85, Try.ntmps85
  go_wp2_with fail
  refine L.out.mono ?_
  rintro e w' ⟨rfl, rfl⟩
  go_wp2
  go_ret
  exact ⟨rfl, rfl⟩
theorem bitLen32 : Lib.bitLen (4294967295 : Int).toNat = 32 := by decide +kernel
set_option maxRecDepth 100000 in
theorem size32_any (w : World) : Calls Try.prog 89 #[] w (Same (.int .i64 4) w) := by
  have L := hide (len64_any 4294967295 w (by omega) (by omega))
  rw [bitLen32] at L
  go_enter Try.func89, Try.ntmps89
  go_wp2_with fail
  refine L.out.mono ?_
  rintro e w' ⟨rfl, rfl⟩
  go_wp2
  go_ret
  exact ⟨rfl, rfl⟩
theorem bitLen64 : Lib.bitLen (18446744073709551615 : Int).toNat = 64 := by decide +kernel
set_option maxRecDepth 100000 in
theorem size64_any (w : World) : Calls Try.prog 106 #[] w (Same (.int .i64 8) w) := by
  have L := hide (len64_any 18446744073709551615 w (by omega) (by omega))
  rw [bitLen64] at L
  go_enter Try.func106, Try.ntmps106
  go_wp2_with fail
  refine L.out.mono ?_
  rintro e w' ⟨rfl, rfl⟩
  go_wp2
  go_ret
  exact ⟨rfl, rfl⟩
set_option maxRecDepth 100000 in
theorem cut_any (s : ByteArray) (hs : s.size ≤ maxLen) {a n : Int} (ha : I64 a) (hn : I64 n) (w : World) :
    Calls Try.prog 88 #[.string s, .int .i64 a, .int .i64 n] w (Same (.tuple #[.string (cutV s a n), .bool (cutO s a n)]) w) := by
  unfold maxLen at hs
  obtain ⟨ha1, ha2⟩ := ha
  obtain ⟨hn1, hn2⟩ := hn
  by_cases h : 0 ≤ a ∧ 0 ≤ n ∧ n ≤ (s.size : Int) - a
  · obtain ⟨h1, h2, h3⟩ := h
    have K := hide (show cutO s a n = true by unfold cutO; simpa using ⟨h1, h2, h3⟩)
    have V := hide (cut_yes K.out)
    have E := hide (show s.extract a.toNat (a + n).toNat = sub s a.toNat n.toNat by unfold sub; rw [show (a + n).toNat = a.toNat + n.toNat by omega])
    have h4 : ¬ a < 0 := by omega
    have h5 : ¬ n < 0 := by omega
    have h6 : ¬ (s.size : Int) - a < n := by omega
    have h7 : a ≤ (s.size : Int) := by omega
    have h8 : a + n ≤ (s.size : Int) := by omega
    go_enter Try.func88, Try.ntmps88
    go_wp2
    go_ret2
    refine ⟨congrArg Ending.returned (tup2 ?_ (bool_eq K.out.symm)), rfl⟩
    rw [V.out, ← E.out]; rfl
  · have K := hide (show cutO s a n = false by unfold cutO; simpa using h)
    have V := hide (cut_no K.out)
    by_cases h1 : a < 0
    · clear h
      go_enter Try.func88, Try.ntmps88
      go_wp2
      go_ret2
      exact ⟨congrArg Ending.returned (tup2 (by rw [V.out]; rfl) (bool_eq K.out.symm)), rfl⟩
    by_cases h2 : n < 0
    · clear h
      go_enter Try.func88, Try.ntmps88
      go_wp2
      go_ret2
      exact ⟨congrArg Ending.returned (tup2 (by rw [V.out]; rfl) (bool_eq K.out.symm)), rfl⟩
    · have h3 : (s.size : Int) - a < n := by omega
      clear h
      go_enter Try.func88, Try.ntmps88
      go_wp2
      go_ret2
      exact ⟨congrArg Ending.returned (tup2 (by rw [V.out]; rfl) (bool_eq K.out.symm)), rfl⟩
theorem set_prev {k : Nat} {tl : List UInt8} {b : UInt8} : ((List.replicate (k + 1) 0 ++ tl).map byteV).set k (byteV b) = (List.replicate k 0 ++ b :: tl).map byteV := by
  rw [← List.map_set]
  congr 1
  rw [List.replicate_succ', List.append_assoc, List.set_append_right _ _ (by simp)]
  simp
theorem byte_of {m : Nat} : Value.int .u8 ((m : Int) % 256) = byteV (UInt8.ofNat (m % 256)) := by
  unfold byteV
  rw [byte_toNat]
  congr 1
theorem base_le {w : World} {base g n cap size : Nat} {e : TypeId} {xs : List Value} (h : w.ownsRow base e size (.slice (some ⟨g, 0, none⟩) n cap) n xs) : base ≤ g := by
  rcases h.2 with ⟨h, _⟩ | ⟨g', cap', cur, h, hb, _⟩
  · cases h
  · cases h; exact hb
theorem take_snoc (s : ByteArray) (k : Nat) (h : k < s.size) : s.data.toList.take (k + 1) = s.data.toList.take k ++ [s[k]] := by
  rw [List.take_succ_eq_append_getElem (by simpa using h)]; rfl
theorem or_byte {m b : Nat} (hb : b < 256) : m * 256 ||| b = m * 256 + b := or_add (k := 8) ⟨m, Nat.mul_comm _ _⟩ hb
theorem next16 {m b : Nat} (hm : m * 256 + b < 65536) (hb : b < 256) : bits .or .u16 ((m : Int) * 256) (b : Int) = ((m * 256 + b : Nat) : Int) := by
  have h1 : m * 256 < 65536 := Nat.lt_of_le_of_lt (Nat.le_add_right _ _) hm
  have h2 : b < 65536 := Nat.lt_of_le_of_lt (Nat.le_add_left _ _) hm
  have h3 : (m : Int) * 256 = ((m * 256 : Nat) : Int) := by omega
  rw [h3, u16_or_nat (m * 256) b h1 h2, or_byte hb]
set_option maxRecDepth 100000 in
set_option maxHeartbeats 1000000 in
theorem put16_gen (x : Nat) (hx : x < 65536) (w : World) :
    Calls Try.prog 62 #[.int .u16 (x : Int)] w (Gives (St (beL 2 x)) w) := by
  obtain ⟨i0, hi, hz0, hz1, hz2⟩ := info_parts infoB
  go_enter Try.func62, Try.ntmps62
  go_wp2_with fail
  refine (size16_any w).mono ?_
  rintro e w' ⟨rfl, rfl⟩
  go_wp2_with (at_make; refine wpList_make_full _ rfl _ _ 65 rfl w.heap.size 5 i0 (.int .u8 0) 1 Try.underlying65 hi hz0 hz1 _ _ _ _ 2 rfl rfl (by omega) (by omega) ?b2 ?b3 (Nat.le_refl _) ?_)
  case b2 => rw [hz2]; omega
  case b3 => unfold maxLen; omega
  intro w0 hown0 hgrow0
  go_wp2_with fail
  go_loopw [0, 4] (fun v i wr => ∃ k m : Nat, k ≤ 2 ∧ i = .int .i64 ((k : Int) - 1) ∧ v = .int .u16 (m : Int) ∧ m < 65536 ∧ Hid (m = x / 256 ^ (2 - k)) ∧
      wr.ownsRow w.heap.size 5 1 (.slice (some ⟨w.heap.size, 0, none⟩) 2 2) 2 ((List.replicate k 0 ++ beL (2 - k) x).map byteV) ∧ Below w.heap.size w wr) (fun _ i _ => (intOf i + 1).toNat)
  case atStart =>
    refine ⟨2, x, Nat.le_refl _, rfl, rfl, hx, hide (by simp), ?_, (Below.refl _ _).grown hgrow0 (Nat.le_refl _) (fun k h => by cases h)⟩
    have e : (madeCells (Value.int .u8 0).cells (2 * 1)).toList = (List.replicate 2 (0 : UInt8) ++ beL (2 - 2) x).map byteV := by
      show (madeCells #[Value.int .u8 0] (2 * 1)).toList = _
      rw [toList_madeCells_one]
      simp [byteV, beL]
    rw [← e]; exact hown0
  case round =>
    obtain ⟨k, m, hk, rfl, rfl, hm, E, hown, hb⟩ := hrel
    by_cases h0 : k = 0
    · subst h0
      have CV := conv_own hown
      rw [List.replicate_zero, List.nil_append] at CV
      clear hown
      go_wp2
      go_ret
      exact ⟨rfl, hb⟩
    · obtain ⟨j, hj⟩ : ∃ j, k = j + 1 := ⟨k - 1, by omega⟩
      subst hj
      have J1 : ((j + 1 : Nat) : Int) - 1 = (j : Int) := by omega
      rw [J1]
      clear J1 h0
      have FZ := hown.frozenAt j
      have CZ := hown.cellAt j (by omega)
      rw [List.getElem?_map, List.getElem?_append_left (by simp), List.getElem?_replicate, if_pos (by omega)] at CZ
      have hown2 := (hown.stored j (byteV (UInt8.ofNat (m % 256)))).1
      have O := hide hown2
      rw [set_prev, E.out, show UInt8.ofNat (x / 256 ^ (2 - (j + 1)) % 256) :: beL (2 - (j + 1)) x = beL (2 - j) x by rw [show 2 - j = (2 - (j + 1)) + 1 by omega]; rfl, ← E.out] at O
      have F := hide (show m / 256 = x / 256 ^ (2 - j) by rw [E.out, Nat.div_div_eq_div_mul, ← Nat.pow_succ]; congr 2; omega)
      clear hown2
      go_wp2
      go_roundw
      case rel =>
        refine ⟨j, m / 256, by omega, by go_num, by go_num, by omega, F, ?_, ?_⟩
        · rw [byte_of]; exact O.out
        · exact hb.setCell (by dsimp only; omega) _
      case measure => simp [intOf] <;> omega
set_option maxRecDepth 100000 in
set_option maxHeartbeats 1000000 in
theorem get16_gen (s : ByteArray) (hs : s.size ≤ maxLen) {a : Int} (ha : I64 a) (w : World) :
    Calls Try.prog 67 #[.string s, .int .i64 a] w (Same (.tuple #[.int .u16 (getV 2 s a : Nat), .bool (cutO s a 2)]) w) := by
  have C := hide (cut_any s hs ha (show I64 2 by unfold I64; omega) w)
  have L := cut_size_le (S := 2) (s := s) (a := a)
  have R := hide (show getV 2 s a = beV (cutV s a (2 : Nat)).data.toList from rfl)
  rw [show ((2 : Nat) : Int) = 2 from rfl] at R L
  generalize cutV s a 2 = p at C L R
  generalize cutO s a 2 = o at C
  go_enter Try.func67, Try.ntmps67
  go_wp2_with fail
  refine (size16_any w).mono ?_
  rintro e w' ⟨rfl, rfl⟩
  go_wp2_with fail
  refine C.out.mono ?_
  rintro e w' ⟨rfl, rfl⟩
  go_wp2_with fail
  go_loop [8, 20] (fun v i => ∃ k m : Nat, k ≤ p.size ∧ i = .int .i64 (k : Int) ∧ v = .int .u16 (m : Int) ∧ Hid (m = beV (p.data.toList.take k))) (fun _ i => p.size - (intOf i).toNat)
  case atStart => exact ⟨0, 0, Nat.zero_le _, rfl, rfl, hide rfl⟩
  case round =>
    obtain ⟨k, m, hk, rfl, rfl, E⟩ := hrel
    by_cases hlt : k < p.size
    · have F := hide (show m * 256 + p[k].toNat = beV (p.data.toList.take (k + 1)) by rw [take_snoc p k hlt, beV_snoc, E.out])
      have hb := p[k].toNat_lt
      have hm : m * 256 + p[k].toNat < 65536 := by
        rw [F.out]
        refine Nat.lt_of_lt_of_le (beV_lt _) ?_
        refine Nat.le_trans (Nat.pow_le_pow_right (by omega) (show (p.data.toList.take (k + 1)).length ≤ 2 by rw [List.length_take]; omega)) (by omega)
      have NX := hide (next16 hm (by omega))
      clear hb
      go_wp2
      go_round
      case rel => exact ⟨k + 1, m * 256 + p[k].toNat, by omega, by go_num, by rw [NX.out], F⟩
      case measure => simp [intOf] <;> omega
    · have E2 := hide (show m = getV 2 s a by rw [R.out, E.out, List.take_of_length_le (by simp; omega)])
      go_wp2
      go_ret2
      exact ⟨congrArg Ending.returned (tup2 (by rw [← E2.out]; rfl) rfl), rfl⟩
theorem next32 {m b : Nat} (hm : m * 256 + b < 4294967296) (hb : b < 256) : bits .or .u32 ((m : Int) * 256) (b : Int) = ((m * 256 + b : Nat) : Int) := by
  have h1 : m * 256 < 4294967296 := Nat.lt_of_le_of_lt (Nat.le_add_right _ _) hm
  have h2 : b < 4294967296 := Nat.lt_of_le_of_lt (Nat.le_add_left _ _) hm
  have h3 : (m : Int) * 256 = ((m * 256 : Nat) : Int) := by omega
  rw [h3, u32_or_nat (m * 256) b h1 h2, or_byte hb]
set_option maxRecDepth 100000 in
set_option maxHeartbeats 1000000 in
theorem put32_gen (x : Nat) (hx : x < 4294967296) (w : World) :
    Calls Try.prog 68 #[.int .u32 (x : Int)] w (Gives (St (beL 4 x)) w) := by
  obtain ⟨i0, hi, hz0, hz1, hz2⟩ := info_parts infoB
  go_enter Try.func68, Try.ntmps68
  go_wp2_with fail
  refine (size32_any w).mono ?_
  rintro e w' ⟨rfl, rfl⟩
  go_wp2_with (at_make; refine wpList_make_full _ rfl _ _ 65 rfl w.heap.size 5 i0 (.int .u8 0) 1 Try.underlying65 hi hz0 hz1 _ _ _ _ 4 rfl rfl (by omega) (by omega) ?b2 ?b3 (Nat.le_refl _) ?_)
  case b2 => rw [hz2]; omega
  case b3 => unfold maxLen; omega
  intro w0 hown0 hgrow0
  go_wp2_with fail
  go_loopw [0, 4] (fun v i wr => ∃ k m : Nat, k ≤ 4 ∧ i = .int .i64 ((k : Int) - 1) ∧ v = .int .u32 (m : Int) ∧ m < 4294967296 ∧ Hid (m = x / 256 ^ (4 - k)) ∧
      wr.ownsRow w.heap.size 5 1 (.slice (some ⟨w.heap.size, 0, none⟩) 4 4) 4 ((List.replicate k 0 ++ beL (4 - k) x).map byteV) ∧ Below w.heap.size w wr) (fun _ i _ => (intOf i + 1).toNat)
  case atStart =>
    refine ⟨4, x, Nat.le_refl _, rfl, rfl, hx, hide (by simp), ?_, (Below.refl _ _).grown hgrow0 (Nat.le_refl _) (fun k h => by cases h)⟩
    have e : (madeCells (Value.int .u8 0).cells (4 * 1)).toList = (List.replicate 4 (0 : UInt8) ++ beL (4 - 4) x).map byteV := by
      show (madeCells #[Value.int .u8 0] (4 * 1)).toList = _
      rw [toList_madeCells_one]
      simp [byteV, beL]
    rw [← e]; exact hown0
  case round =>
    obtain ⟨k, m, hk, rfl, rfl, hm, E, hown, hb⟩ := hrel
    by_cases h0 : k = 0
    · subst h0
      have CV := conv_own hown
      rw [List.replicate_zero, List.nil_append] at CV
      clear hown
      go_wp2
      go_ret
      exact ⟨rfl, hb⟩
    · obtain ⟨j, hj⟩ : ∃ j, k = j + 1 := ⟨k - 1, by omega⟩
      subst hj
      have J1 : ((j + 1 : Nat) : Int) - 1 = (j : Int) := by omega
      rw [J1]
      clear J1 h0
      have FZ := hown.frozenAt j
      have CZ := hown.cellAt j (by omega)
      rw [List.getElem?_map, List.getElem?_append_left (by simp), List.getElem?_replicate, if_pos (by omega)] at CZ
      have hown2 := (hown.stored j (byteV (UInt8.ofNat (m % 256)))).1
      have O := hide hown2
      rw [set_prev, E.out, show UInt8.ofNat (x / 256 ^ (4 - (j + 1)) % 256) :: beL (4 - (j + 1)) x = beL (4 - j) x by rw [show 4 - j = (4 - (j + 1)) + 1 by omega]; rfl, ← E.out] at O
      have F := hide (show m / 256 = x / 256 ^ (4 - j) by rw [E.out, Nat.div_div_eq_div_mul, ← Nat.pow_succ]; congr 2; omega)
      clear hown2
      go_wp2
      go_roundw
      case rel =>
        refine ⟨j, m / 256, by omega, by go_num, by go_num, by omega, F, ?_, ?_⟩
        · rw [byte_of]; exact O.out
        · exact hb.setCell (by dsimp only; omega) _
      case measure => simp [intOf] <;> omega
set_option maxRecDepth 100000 in
set_option maxHeartbeats 1000000 in
theorem get32_gen (s : ByteArray) (hs : s.size ≤ maxLen) {a : Int} (ha : I64 a) (w : World) :
    Calls Try.prog 104 #[.string s, .int .i64 a] w (Same (.tuple #[.int .u32 (getV 4 s a : Nat), .bool (cutO s a 4)]) w) := by
  have C := hide (cut_any s hs ha (show I64 4 by unfold I64; omega) w)
  have L := cut_size_le (S := 4) (s := s) (a := a)
  have R := hide (show getV 4 s a = beV (cutV s a (4 : Nat)).data.toList from rfl)
  rw [show ((4 : Nat) : Int) = 4 from rfl] at R L
  generalize cutV s a 4 = p at C L R
  generalize cutO s a 4 = o at C
  go_enter Try.func104, Try.ntmps104
  go_wp2_with fail
  refine (size32_any w).mono ?_
  rintro e w' ⟨rfl, rfl⟩
  go_wp2_with fail
  refine C.out.mono ?_
  rintro e w' ⟨rfl, rfl⟩
  go_wp2_with fail
  go_loop [8, 20] (fun v i => ∃ k m : Nat, k ≤ p.size ∧ i = .int .i64 (k : Int) ∧ v = .int .u32 (m : Int) ∧ Hid (m = beV (p.data.toList.take k))) (fun _ i => p.size - (intOf i).toNat)
  case atStart => exact ⟨0, 0, Nat.zero_le _, rfl, rfl, hide rfl⟩
  case round =>
    obtain ⟨k, m, hk, rfl, rfl, E⟩ := hrel
    by_cases hlt : k < p.size
    · have F := hide (show m * 256 + p[k].toNat = beV (p.data.toList.take (k + 1)) by rw [take_snoc p k hlt, beV_snoc, E.out])
      have hb := p[k].toNat_lt
      have hm : m * 256 + p[k].toNat < 4294967296 := by
        rw [F.out]
        refine Nat.lt_of_lt_of_le (beV_lt _) ?_
        refine Nat.le_trans (Nat.pow_le_pow_right (by omega) (show (p.data.toList.take (k + 1)).length ≤ 4 by rw [List.length_take]; omega)) (by omega)
      have NX := hide (next32 hm (by omega))
      clear hb
      go_wp2
      go_round
      case rel => exact ⟨k + 1, m * 256 + p[k].toNat, by omega, by go_num, by rw [NX.out], F⟩
      case measure => simp [intOf] <;> omega
    · have E2 := hide (show m = getV 4 s a by rw [R.out, E.out, List.take_of_length_le (by simp; omega)])
      go_wp2
      go_ret2
      exact ⟨congrArg Ending.returned (tup2 (by rw [← E2.out]; rfl) rfl), rfl⟩
theorem next64 {m b : Nat} (hm : m * 256 + b < 18446744073709551616) (hb : b < 256) : bits .or .u64 ((m : Int) * 256) (b : Int) = ((m * 256 + b : Nat) : Int) := by
  have h1 : m * 256 < 18446744073709551616 := Nat.lt_of_le_of_lt (Nat.le_add_right _ _) hm
  have h2 : b < 18446744073709551616 := Nat.lt_of_le_of_lt (Nat.le_add_left _ _) hm
  have h3 : (m : Int) * 256 = ((m * 256 : Nat) : Int) := by omega
  rw [h3, u64_or_nat (m * 256) b h1 h2, or_byte hb]
set_option maxRecDepth 100000 in
set_option maxHeartbeats 1000000 in
theorem put64_gen (x : Nat) (hx : x < 18446744073709551616) (w : World) :
    Calls Try.prog 102 #[.int .u64 (x : Int)] w (Gives (St (beL 8 x)) w) := by
  obtain ⟨i0, hi, hz0, hz1, hz2⟩ := info_parts infoB
  go_enter Try.func102, Try.ntmps102
  go_wp2_with fail
  refine (size64_any w).mono ?_
  rintro e w' ⟨rfl, rfl⟩
  go_wp2_with (at_make; refine wpList_make_full _ rfl _ _ 65 rfl w.heap.size 5 i0 (.int .u8 0) 1 Try.underlying65 hi hz0 hz1 _ _ _ _ 8 rfl rfl (by omega) (by omega) ?b2 ?b3 (Nat.le_refl _) ?_)
  case b2 => rw [hz2]; omega
  case b3 => unfold maxLen; omega
  intro w0 hown0 hgrow0
  go_wp2_with fail
  go_loopw [0, 4] (fun v i wr => ∃ k m : Nat, k ≤ 8 ∧ i = .int .i64 ((k : Int) - 1) ∧ v = .int .u64 (m : Int) ∧ m < 18446744073709551616 ∧ Hid (m = x / 256 ^ (8 - k)) ∧
      wr.ownsRow w.heap.size 5 1 (.slice (some ⟨w.heap.size, 0, none⟩) 8 8) 8 ((List.replicate k 0 ++ beL (8 - k) x).map byteV) ∧ Below w.heap.size w wr) (fun _ i _ => (intOf i + 1).toNat)
  case atStart =>
    refine ⟨8, x, Nat.le_refl _, rfl, rfl, hx, hide (by simp), ?_, (Below.refl _ _).grown hgrow0 (Nat.le_refl _) (fun k h => by cases h)⟩
    have e : (madeCells (Value.int .u8 0).cells (8 * 1)).toList = (List.replicate 8 (0 : UInt8) ++ beL (8 - 8) x).map byteV := by
      show (madeCells #[Value.int .u8 0] (8 * 1)).toList = _
      rw [toList_madeCells_one]
      simp [byteV, beL]
    rw [← e]; exact hown0
  case round =>
    obtain ⟨k, m, hk, rfl, rfl, hm, E, hown, hb⟩ := hrel
    by_cases h0 : k = 0
    · subst h0
      have CV := conv_own hown
      rw [List.replicate_zero, List.nil_append] at CV
      clear hown
      go_wp2
      go_ret
      exact ⟨rfl, hb⟩
    · obtain ⟨j, hj⟩ : ∃ j, k = j + 1 := ⟨k - 1, by omega⟩
      subst hj
      have J1 : ((j + 1 : Nat) : Int) - 1 = (j : Int) := by omega
      rw [J1]
      clear J1 h0
      have FZ := hown.frozenAt j
      have CZ := hown.cellAt j (by omega)
      rw [List.getElem?_map, List.getElem?_append_left (by simp), List.getElem?_replicate, if_pos (by omega)] at CZ
      have hown2 := (hown.stored j (byteV (UInt8.ofNat (m % 256)))).1
      have O := hide hown2
      rw [set_prev, E.out, show UInt8.ofNat (x / 256 ^ (8 - (j + 1)) % 256) :: beL (8 - (j + 1)) x = beL (8 - j) x by rw [show 8 - j = (8 - (j + 1)) + 1 by omega]; rfl, ← E.out] at O
      have F := hide (show m / 256 = x / 256 ^ (8 - j) by rw [E.out, Nat.div_div_eq_div_mul, ← Nat.pow_succ]; congr 2; omega)
      clear hown2
      go_wp2
      go_roundw
      case rel =>
        refine ⟨j, m / 256, by omega, by go_num, by go_num, by omega, F, ?_, ?_⟩
        · rw [byte_of]; exact O.out
        · exact hb.setCell (by dsimp only; omega) _
      case measure => simp [intOf] <;> omega
set_option maxRecDepth 100000 in
set_option maxHeartbeats 1000000 in
theorem get64_gen (s : ByteArray) (hs : s.size ≤ maxLen) {a : Int} (ha : I64 a) (w : World) :
    Calls Try.prog 110 #[.string s, .int .i64 a] w (Same (.tuple #[.int .u64 (getV 8 s a : Nat), .bool (cutO s a 8)]) w) := by
  have C := hide (cut_any s hs ha (show I64 8 by unfold I64; omega) w)
  have L := cut_size_le (S := 8) (s := s) (a := a)
  have R := hide (show getV 8 s a = beV (cutV s a (8 : Nat)).data.toList from rfl)
  rw [show ((8 : Nat) : Int) = 8 from rfl] at R L
  generalize cutV s a 8 = p at C L R
  generalize cutO s a 8 = o at C
  go_enter Try.func110, Try.ntmps110
  go_wp2_with fail
  refine (size64_any w).mono ?_
  rintro e w' ⟨rfl, rfl⟩
  go_wp2_with fail
  refine C.out.mono ?_
  rintro e w' ⟨rfl, rfl⟩
  go_wp2_with fail
  go_loop [8, 20] (fun v i => ∃ k m : Nat, k ≤ p.size ∧ i = .int .i64 (k : Int) ∧ v = .int .u64 (m : Int) ∧ Hid (m = beV (p.data.toList.take k))) (fun _ i => p.size - (intOf i).toNat)
  case atStart => exact ⟨0, 0, Nat.zero_le _, rfl, rfl, hide rfl⟩
  case round =>
    obtain ⟨k, m, hk, rfl, rfl, E⟩ := hrel
    by_cases hlt : k < p.size
    · have F := hide (show m * 256 + p[k].toNat = beV (p.data.toList.take (k + 1)) by rw [take_snoc p k hlt, beV_snoc, E.out])
      have hb := p[k].toNat_lt
      have hm : m * 256 + p[k].toNat < 18446744073709551616 := by
        rw [F.out]
        refine Nat.lt_of_lt_of_le (beV_lt _) ?_
        refine Nat.le_trans (Nat.pow_le_pow_right (by omega) (show (p.data.toList.take (k + 1)).length ≤ 8 by rw [List.length_take]; omega)) (by omega)
      have NX := hide (next64 hm (by omega))
      clear hb
      go_wp2
      go_round
      case rel => exact ⟨k + 1, m * 256 + p[k].toNat, by omega, by go_num, by rw [NX.out], F⟩
      case measure => simp [intOf] <;> omega
    · have E2 := hide (show m = getV 8 s a by rw [R.out, E.out, List.take_of_length_le (by simp; omega)])
      go_wp2
      go_ret2
      exact ⟨congrArg Ending.returned (tup2 (by rw [← E2.out]; rfl) rfl), rfl⟩
/-- the block of an address -/
def HA (w : World) (a : Nat) (W : World) : Prop := Below w.heap.size w W ∧ W.cell? ⟨w.heap.size, 0, none⟩ = some (.int .u64 (hi a : Nat)) ∧ W.cell? ⟨w.heap.size, 1, none⟩ = some (.int .u64 (lo a : Nat))
theorem HA.step {w : World} {a : Nat} {W w2 : World} (h : HA w a W) (hb : Below W.heap.size W w2) : HA w a w2 :=
  ⟨h.1.trans (hb.mono h.1.size), keep_cell hb h.2.1, keep_cell hb h.2.2⟩
theorem HA.drew {w : World} {a : Nat} {W : World} (h : HA w a W) : HA w a { W with drawn := W.drawn + 1 } := h.step (Below.refl _ _).drew
theorem ha_new (w : World) (a : Nat) (t : TypeId) : HA w a (w.alloc (.cells #[.int .u64 (hi a : Nat), .int .u64 (lo a : Nat)] t)) := by
  refine ⟨below_alloc _ _, ?_, ?_⟩ <;> simp [go_sem]
theorem cat2 (l1 l2 : List UInt8) : (ByteArray.mk l1.toArray ++ ByteArray.mk l2.toArray) = ⟨(l1 ++ l2).toArray⟩ := by
  apply ByteArray.ext
  simp [ByteArray.data_append]
theorem cat1 (l : List UInt8) (s : ByteArray) : (ByteArray.mk l.toArray ++ s) = ⟨(l ++ s.data.toList).toArray⟩ := by
  apply ByteArray.ext
  simp [ByteArray.data_append]
theorem catR (s : ByteArray) (l : List UInt8) : (s ++ ByteArray.mk l.toArray) = ⟨(s.data.toList ++ l).toArray⟩ := by
  apply ByteArray.ext
  simp [ByteArray.data_append]
def runO (s : ByteArray) : Bool := decide (s.size ≤ 65535)
def runV (s : ByteArray) : ByteArray := if runO s = true then ⟨(beL 2 s.size ++ s.data.toList).toArray⟩ else ⟨#[]⟩
def takeO (s : ByteArray) (a : Int) : Bool := cutO s a 2 && cutO s (a + 2) (getV 2 s a : Nat)
def takeV (s : ByteArray) (a : Int) : ByteArray := if takeO s a = true then cutV s (a + 2) (getV 2 s a : Nat) else ⟨#[]⟩
def takeE (s : ByteArray) (a : Int) : Int := if takeO s a = true then a + 2 + (getV 2 s a : Nat) else 0
theorem take_no {s : ByteArray} {a : Int} (h : takeO s a = false) : takeV s a = ⟨#[]⟩ ∧ takeE s a = 0 ∧ takeO s a = false := by
  unfold takeV takeE; rw [h]; exact ⟨rfl, rfl, rfl⟩
theorem take_no1 {s : ByteArray} {a : Int} (h : cutO s a 2 = false) : takeV s a = ⟨#[]⟩ ∧ takeE s a = 0 ∧ takeO s a = false := take_no (by unfold takeO; rw [h]; rfl)
theorem take_no2 {s : ByteArray} {a : Int} (h : cutO s (a + 2) (getV 2 s a : Nat) = false) : takeV s a = ⟨#[]⟩ ∧ takeE s a = 0 ∧ takeO s a = false := take_no (by unfold takeO; rw [h, Bool.and_false])
theorem take_yes {s : ByteArray} {a : Int} (h1 : cutO s a 2 = true) (h2 : cutO s (a + 2) (getV 2 s a : Nat) = true) : takeV s a = cutV s (a + 2) (getV 2 s a : Nat) ∧ takeE s a = a + 2 + (getV 2 s a : Nat) ∧ takeO s a = true := by
  have h : takeO s a = true := by unfold takeO; rw [h1, h2]; rfl
  unfold takeV takeE; rw [h]; exact ⟨rfl, rfl, rfl⟩
theorem cut_true {s : ByteArray} {a n : Int} (h : cutO s a n = true) : 0 ≤ a ∧ 0 ≤ n ∧ n ≤ (s.size : Int) - a := by
  unfold cutO at h; simpa using h
theorem cut_len {s : ByteArray} {a : Int} {n : Nat} (h : cutO s a n = true) : (cutV s a n).size = n := by
  have := cut_true h
  rw [cut_yes h, sub_size (by omega)]; rfl
def getA (s : ByteArray) (a : Int) : Nat := beV (cutV s a 16).data.toList
theorem beV_append (l r : List UInt8) : beV (l ++ r) = beV l * 256 ^ r.length + beV r := by
  have F : ∀ (l r : List UInt8) (n : Nat), beF n (l ++ r) = beF (beF n l) r := by
    intro l
    induction l with
    | nil => intros; rfl
    | cons c l ih => intro r n; rw [List.cons_append, beF, beF, ih]
  have G : ∀ (r : List UInt8) (n : Nat), beF n r = n * 256 ^ r.length + beF 0 r := by
    intro r
    induction r with
    | nil => intro n; simp [beF]
    | cons c r ih =>
      intro n
      rw [beF, ih, beF, ih (0 * 256 + c.toNat), List.length_cons, Nat.pow_succ, Nat.add_mul, Nat.zero_mul, Nat.zero_add, Nat.mul_assoc, Nat.mul_comm 256 (256 ^ r.length), Nat.add_assoc]
  unfold beV
  rw [F, G]
theorem getA_fits (s : ByteArray) (a : Int) : Fits (getA s a) := by
  have h1 := getV_lt 16 s a
  exact h1
theorem getA_words (s : ByteArray) (a : Int) : (getV 8 (cutV s a 16) 0 : Nat) = hi (getA s a) ∧ (getV 8 (cutV s a 16) 8 : Nat) = lo (getA s a) := by
  cases h : cutO s a 16 with
  | false =>
    have e : cutV s a 16 = ⟨#[]⟩ := cut_no h
    unfold getA
    rw [e]
    exact ⟨rfl, rfl⟩
  | true =>
    have hl : (cutV s a 16).size = 16 := cut_len (n := 16) h
    have hl2 : (cutV s a 16).data.toList.length = 16 := hl
    have e0 : cutO (cutV s a 16) 0 (8 : Nat) = true := by unfold cutO; rw [hl]; rfl
    have e8 : cutO (cutV s a 16) 8 (8 : Nat) = true := by unfold cutO; rw [hl]; rfl
    unfold getV getA
    rw [cut_yes e0, cut_yes e8, sub_list, sub_list]
    generalize (cutV s a 16).data.toList = l at *
    have hr : (l.drop 8).length = 8 := by rw [List.length_drop, hl2]
    have t0 : (l.drop (0 : Int).toNat).take ((8 : Nat) : Int).toNat = l.take 8 := rfl
    have t8 : (l.drop (8 : Int).toNat).take ((8 : Nat) : Int).toNat = l.drop 8 := List.take_of_length_le (by show (l.drop 8).length ≤ 8; omega)
    rw [t0, t8]
    have e := beV_append (l.take 8) (l.drop 8)
    have b := beV_lt (l.drop 8)
    rw [List.take_append_drop, hr, show (256 : Nat) ^ 8 = 18446744073709551616 from rfl] at e
    rw [hr, show (256 : Nat) ^ 8 = 18446744073709551616 from rfl] at b
    rw [e]
    exact ⟨(hi_mk b).symm, (lo_mk b).symm⟩
set_option maxRecDepth 100000 in
theorem put16_any (x : Nat) (hx : x < 65536) (w : World) : Calls Try.prog 32 #[.int .u16 (x : Int)] w (Gives (St (beL 2 x)) w) := by
  have P := hide (fun W => put16_gen x hx W)
  go_enter Try.func32, Try.ntmps32
  go_wp2_with fail
  refine (P.out _).mono ?_
  rintro e w' ⟨rfl, hb⟩
  go_wp2
  go_ret
  exact ⟨rfl, hb⟩
set_option maxRecDepth 100000 in
theorem get16_any (s : ByteArray) (hs : s.size ≤ maxLen) {a : Int} (ha : I64 a) (w : World) : Calls Try.prog 36 #[.string s, .int .i64 a] w (Same (.tuple #[.int .u16 (getV 2 s a : Nat), .bool (cutO s a 2)]) w) := by
  have P := hide (fun W => get16_gen s hs ha W)
  have G := getV_lt 2 s a
  generalize getV 2 s a = v at *
  generalize cutO s a 2 = o at *
  go_enter Try.func36, Try.ntmps36
  go_wp2_with fail
  refine (P.out _).mono ?_
  rintro e w' ⟨rfl, rfl⟩
  go_wp2
  go_ret2
  exact ⟨congrArg Ending.returned (tup2 rfl rfl), rfl⟩
set_option maxRecDepth 100000 in
theorem put32_any (x : Nat) (hx : x < 4294967296) (w : World) : Calls Try.prog 38 #[.int .u32 (x : Int)] w (Gives (St (beL 4 x)) w) := by
  have P := hide (fun W => put32_gen x hx W)
  go_enter Try.func38, Try.ntmps38
  go_wp2_with fail
  refine (P.out _).mono ?_
  rintro e w' ⟨rfl, hb⟩
  go_wp2
  go_ret
  exact ⟨rfl, hb⟩
set_option maxRecDepth 100000 in
theorem get32_any (s : ByteArray) (hs : s.size ≤ maxLen) {a : Int} (ha : I64 a) (w : World) : Calls Try.prog 94 #[.string s, .int .i64 a] w (Same (.tuple #[.int .u32 (getV 4 s a : Nat), .bool (cutO s a 4)]) w) := by
  have P := hide (fun W => get32_gen s hs ha W)
  have G := getV_lt 4 s a
  generalize getV 4 s a = v at *
  generalize cutO s a 4 = o at *
  go_enter Try.func94, Try.ntmps94
  go_wp2_with fail
  refine (P.out _).mono ?_
  rintro e w' ⟨rfl, rfl⟩
  go_wp2
  go_ret2
  exact ⟨congrArg Ending.returned (tup2 rfl rfl), rfl⟩
set_option maxRecDepth 100000 in
theorem put64_any (x : Nat) (hx : x < 18446744073709551616) (w : World) : Calls Try.prog 90 #[.int .u64 (x : Int)] w (Gives (St (beL 8 x)) w) := by
  have P := hide (fun W => put64_gen x hx W)
  go_enter Try.func90, Try.ntmps90
  go_wp2_with fail
  refine (P.out _).mono ?_
  rintro e w' ⟨rfl, hb⟩
  go_wp2
  go_ret
  exact ⟨rfl, hb⟩
set_option maxRecDepth 100000 in
theorem get64_any (s : ByteArray) (hs : s.size ≤ maxLen) {a : Int} (ha : I64 a) (w : World) : Calls Try.prog 108 #[.string s, .int .i64 a] w (Same (.tuple #[.int .u64 (getV 8 s a : Nat), .bool (cutO s a 8)]) w) := by
  have P := hide (fun W => get64_gen s hs ha W)
  have G := getV_lt 8 s a
  generalize getV 8 s a = v at *
  generalize cutO s a 8 = o at *
  go_enter Try.func108, Try.ntmps108
  go_wp2_with fail
  refine (P.out _).mono ?_
  rintro e w' ⟨rfl, rfl⟩
  go_wp2
  go_ret2
  exact ⟨congrArg Ending.returned (tup2 rfl rfl), rfl⟩
set_option maxRecDepth 100000 in
set_option maxHeartbeats 1000000 in
theorem putAddr_any {a : Nat} (ha : Fits a) (w : World) : Calls Try.prog 69 #[A a] w (Gives (St (beL 16 a)) w) := by
  have PH := hide (fun W => put64_any (hi a) (hi_lt ha) W)
  have PL := hide (fun W => put64_any (lo a) (lo_lt a) W)
  have R := hide (beL_addr a)
  have NH := beL_length 8 (hi a)
  have NL := beL_length 8 (lo a)
  generalize beL 8 (hi a) = l1 at *
  generalize beL 8 (lo a) = l2 at *
  have N1 : ¬ 9223372036854775807 < l1.length + l2.length := by omega
  clear NH NL
  have H0 := HA.drew (ha_new w a 70)
  go_enter Try.func69, Try.ntmps69
  go_wp2_with fail
  refine wp_region_quiet (C := HA w a) (by kernel_rfl) (by kernel_rfl) H0 (wpQuiet_step (fun K0 hK0 => ?_))
  go_simp
  first | (with_reducible refine hK0 _ (wpQuiet_step (fun K1 hK1 => ?_))) | (with_reducible refine ⟨_, fun _ _ => rfl, hK0 _ (wpQuiet_step (fun K1 hK1 => ?_))⟩) | (rw [if_neg (by intro e; cases e)]; with_reducible refine hK0 _ (wpQuiet_step (fun K1 hK1 => ?_)))
  clear hK0 K0
  go_simp
  refine ⟨.int .u64 (hi a : Nat), fun W hW => ?_, hK1 _ (wpQuiet_step (fun K0 hK0 => ?_))⟩
  · (obtain ⟨_, u0, u1⟩ := hW; simp [go_sem, u0])
  clear hK1 K1
  go_simp
  refine ⟨.string ⟨l1.toArray⟩, fun W hW => ?_, hK0 _ (wpQuiet_step (fun K1 hK1 => ?_))⟩
  · exact (PH.out W).mono fun e w4 ⟨he, hb⟩ => ⟨he, HA.step hW hb⟩
  clear hK0 K0
  go_simp
  first | (with_reducible refine hK1 _ (wpQuiet_step (fun K0 hK0 => ?_))) | (with_reducible refine ⟨_, fun _ _ => rfl, hK1 _ (wpQuiet_step (fun K0 hK0 => ?_))⟩) | (rw [if_neg (by intro e; cases e)]; with_reducible refine hK1 _ (wpQuiet_step (fun K0 hK0 => ?_)))
  clear hK1 K1
  go_simp
  refine ⟨.int .u64 (lo a : Nat), fun W hW => ?_, hK0 _ (wpQuiet_step (fun K1 hK1 => ?_))⟩
  · (obtain ⟨_, u0, u1⟩ := hW; simp [go_sem, u1])
  clear hK0 K0
  go_simp
  refine ⟨.string ⟨l2.toArray⟩, fun W hW => ?_, hK1 _ (wpQuiet_step (fun K0 hK0 => ?_))⟩
  · exact (PL.out W).mono fun e w4 ⟨he, hb⟩ => ⟨he, HA.step hW hb⟩
  clear hK1 K1
  go_simp
  first | (with_reducible refine hK0 _ (wpQuiet_step (fun K1 hK1 => ?_))) | (with_reducible refine ⟨_, fun _ _ => rfl, hK0 _ (wpQuiet_step (fun K1 hK1 => ?_))⟩) | (rw [if_neg (by intro e; cases e)]; with_reducible refine hK0 _ (wpQuiet_step (fun K1 hK1 => ?_)))
  clear hK0 K0
  go_simp
  first | (with_reducible refine hK1 _ (wpQuiet_nil ?_)) | (with_reducible refine ⟨_, fun _ _ => rfl, hK1 _ (wpQuiet_nil ?_)⟩) | (rw [if_neg (by intro e; cases e)]; with_reducible refine hK1 _ (wpQuiet_nil ?_))
  clear hK1 K1
  intro w1 H1
  go_wp2
  go_ret
  refine ⟨?_, H1.1⟩
  rw [← R.out]
  exact congrArg (fun b => Ending.returned (.string b)) (cat2 l1 l2)
set_option maxRecDepth 100000 in
theorem run_any (s : ByteArray) (w : World) : Calls Try.prog 31 #[.string s] w (Gives (.tuple #[.string (runV s), .bool (runO s)]) w) := by
  by_cases h : s.size ≤ 65535
  · have K := hide (show runO s = true by unfold runO; simpa using h)
    have V := hide (show runV s = ⟨(beL 2 s.size ++ s.data.toList).toArray⟩ by unfold runV; rw [K.out, if_pos rfl])
    have P := hide (put16_any s.size (by omega))
    have L := beL_length 2 s.size
    generalize beL 2 s.size = l at *
    have N1 : ¬ 9223372036854775807 < l.length + s.size := by omega
    have h1 : ¬ (65535 : Int) < (s.size : Int) := by omega
    have W1 : IntKind.u16.wrap (s.size : Int) = (s.size : Int) := by rw [IntKind.wrap_u16]; omega
    clear L
    go_enter Try.func31, Try.ntmps31
    go_wp2_with fail
    refine (P.out _).mono ?_
    rintro e w' ⟨rfl, hb⟩
    go_wp2
    go_ret2
    exact ⟨congrArg Ending.returned (tup2 (by rw [V.out]; exact congrArg Value.string (cat1 l s)) (bool_eq K.out.symm)), hb⟩
  · have K := hide (show runO s = false by unfold runO; simpa using h)
    have V := hide (show runV s = ⟨#[]⟩ by unfold runV; rw [K.out]; rfl)
    have h1 : (65535 : Int) < (s.size : Int) := by omega
    clear h
    go_enter Try.func31, Try.ntmps31
    go_wp2
    go_ret2
    exact ⟨congrArg Ending.returned (tup2 (by rw [V.out]; rfl) (bool_eq K.out.symm)), Below.refl _ _⟩
set_option maxRecDepth 100000 in
theorem takeRun_any (s : ByteArray) (hs : s.size ≤ maxLen) {a : Int} (ha : I64 a) (w : World) :
    Calls Try.prog 83 #[.string s, .int .i64 a] w (Same (.tuple #[.string (takeV s a), .int .i64 (takeE s a), .bool (takeO s a)]) w) := by
  have G := hide (fun W => get16_any s hs ha W)
  cases h : cutO s a 2 with
  | false =>
    have K := hide (take_no1 h)
    rw [h, getV_no h] at G
    clear h
    go_enter Try.func83, Try.ntmps83
    go_wp2_with fail
    refine (G.out _).mono ?_
    rintro e w' ⟨rfl, rfl⟩
    go_wp2
    go_ret3
    exact ⟨congrArg Ending.returned (tup3 (by rw [K.out.1]; rfl) (by rw [K.out.2.1]; rfl) (bool_eq K.out.2.2.symm)), rfl⟩
  | true =>
    have B := getV_lt 2 s a
    obtain ⟨b1, b2, b3⟩ := cut_true h
    have hs2 := hs
    unfold maxLen at hs2
    have h2 : I64 (a + 2) := by unfold I64; omega
    have W1 : IntKind.i64.wrap (a + 2) = a + 2 := IntWalk.i64_in _ ⟨by omega, by omega⟩
    have C := hide (fun W => cut_any s hs h2 (show I64 (getV 2 s a : Nat) by unfold I64; omega) W)
    have K1 := hide (fun hh => take_no2 (s := s) (a := a) (h := hh))
    have K2 := hide (fun h1 h2 => take_yes (s := s) (a := a) h1 h2)
    rw [h] at G
    have K3 := hide (K2.out h)
    clear h K2
    cases h : cutO s (a + 2) (getV 2 s a : Nat) with
    | false =>
      have K := hide (K1.out h)
      rw [h, cut_no h] at C
      clear h K1 K3
      generalize getV 2 s a = n at *
      go_enter Try.func83, Try.ntmps83
      go_wp2_with fail
      refine (G.out _).mono ?_
      rintro e w' ⟨rfl, rfl⟩
      go_wp2_with fail
      refine (C.out _).mono ?_
      rintro e w' ⟨rfl, rfl⟩
      go_wp2
      go_ret3
      exact ⟨congrArg Ending.returned (tup3 (by rw [K.out.1]; rfl) (by rw [K.out.2.1]; rfl) (bool_eq K.out.2.2.symm)), rfl⟩
    | true =>
      have K := hide (K3.out h)
      have Z := cut_len h
      obtain ⟨d1, d2, d3⟩ := cut_true h
      have W2 : IntKind.i64.wrap (a + 2 + (getV 2 s a : Nat)) = a + 2 + (getV 2 s a : Nat) := IntWalk.i64_in _ ⟨by omega, by omega⟩
      rw [h] at C
      clear h K1 K3
      generalize getV 2 s a = n at *
      generalize cutV s (a + 2) n = p at *
      have Z2 := hide Z
      clear Z
      go_enter Try.func83, Try.ntmps83
      go_wp2_with fail
      refine (G.out _).mono ?_
      rintro e w' ⟨rfl, rfl⟩
      go_wp2_with fail
      refine (C.out _).mono ?_
      rintro e w' ⟨rfl, rfl⟩
      have Z3 := Z2.out
      go_wp2
      go_ret3
      exact ⟨congrArg Ending.returned (tup3 (by rw [K.out.1]; rfl) (by rw [K.out.2.1]; rfl) (bool_eq K.out.2.2.symm)), rfl⟩
set_option maxRecDepth 100000 in
set_option maxHeartbeats 1000000 in
theorem getAddr_any (s : ByteArray) (hs : s.size ≤ maxLen) {a : Int} (ha : I64 a) (w : World) : Calls Try.prog 105 #[.string s, .int .i64 a] w (Gives (.tuple #[A (getA s a), .bool (cutO s a 16)]) w) := by
  have C := hide (fun W => cut_any s hs ha (show I64 16 by unfold I64; omega) W)
  have hp : (cutV s a 16).size ≤ maxLen := Nat.le_trans (cut_size_le (S := 16)) (by unfold maxLen; omega)
  have G0 := hide (fun W => get64_any (cutV s a 16) hp (a := 0) (by unfold I64; omega) W)
  have G8 := hide (fun W => get64_any (cutV s a 16) hp (a := 8) (by unfold I64; omega) W)
  have R := hide (getA_words s a)
  rw [R.out.1] at G0
  rw [R.out.2] at G8
  clear hp R
  generalize getA s a = v at *
  generalize cutO s a 16 = o at *
  generalize cutV s a 16 = p at *
  generalize cutO p 0 8 = o0 at *
  generalize cutO p 8 8 = o8 at *
  go_enter Try.func105, Try.ntmps105
  go_wp2_with fail
  refine (C.out _).mono ?_
  rintro e w' ⟨rfl, rfl⟩
  go_wp2_with fail
  refine (G0.out _).mono ?_
  rintro e w' ⟨rfl, rfl⟩
  go_wp2_with fail
  refine (G8.out _).mono ?_
  rintro e w' ⟨rfl, rfl⟩
  go_wp2
  refine bodyPost_ret (v := .tuple #[A v, .bool o]) ?_ rfl ⟨rfl, below_alloc _ _⟩
  simp [results, Try.results105, go_sem]
set_option maxRecDepth 100000 in
theorem cut_ref (s : ByteArray) (hs : s.size ≤ maxLen) {a n : Int} (ha : I64 a) (hn : I64 n) (w : World) :
    Calls Try.prog 55 #[.string s, .int .i64 a, .int .i64 n] w (Same (.tuple #[.string (cutV s a n), .bool (cutO s a n)]) w) := by
  unfold maxLen at hs
  obtain ⟨ha1, ha2⟩ := ha
  obtain ⟨hn1, hn2⟩ := hn
  by_cases h : 0 ≤ a ∧ 0 ≤ n ∧ n ≤ (s.size : Int) - a
  · obtain ⟨h1, h2, h3⟩ := h
    have K := hide (show cutO s a n = true by unfold cutO; simpa using ⟨h1, h2, h3⟩)
    have V := hide (cut_yes K.out)
    have E := hide (show s.extract a.toNat (a + n).toNat = sub s a.toNat n.toNat by unfold sub; rw [show (a + n).toNat = a.toNat + n.toNat by omega])
    have h4 : ¬ a < 0 := by omega
    have h5 : ¬ n < 0 := by omega
    have h6 : ¬ (s.size : Int) - a < n := by omega
    have h7 : ¬ (s.size : Int) < a := by omega
    have h8 : a + n ≤ (s.size : Int) := by omega
    go_enter Try.func55, Try.ntmps55
    go_wp2
    go_ret2
    refine ⟨congrArg Ending.returned (tup2 ?_ (bool_eq K.out.symm)), rfl⟩
    rw [V.out, ← E.out]; rfl
  · have K := hide (show cutO s a n = false by unfold cutO; simpa using h)
    have V := hide (cut_no K.out)
    by_cases h1 : a < 0
    · clear h
      go_enter Try.func55, Try.ntmps55
      go_wp2
      go_ret2
      exact ⟨congrArg Ending.returned (tup2 (by rw [V.out]; rfl) (bool_eq K.out.symm)), rfl⟩
    by_cases h2 : n < 0
    · clear h
      go_enter Try.func55, Try.ntmps55
      go_wp2
      go_ret2
      exact ⟨congrArg Ending.returned (tup2 (by rw [V.out]; rfl) (bool_eq K.out.symm)), rfl⟩
    by_cases h4 : (s.size : Int) < a
    · clear h
      go_enter Try.func55, Try.ntmps55
      go_wp2
      go_ret2
      exact ⟨congrArg Ending.returned (tup2 (by rw [V.out]; rfl) (bool_eq K.out.symm)), rfl⟩
    · have h3 : (s.size : Int) - a < n := by omega
      clear h
      go_enter Try.func55, Try.ntmps55
      go_wp2
      go_ret2
      exact ⟨congrArg Ending.returned (tup2 (by rw [V.out]; rfl) (bool_eq K.out.symm)), rfl⟩
theorem shr_nat (x j : Nat) : ((x : Int) / 2 ^ (8 * j)) = ((x / 256 ^ j : Nat) : Int) := by
  rw [cast_div, Nat.pow_mul]
theorem one_cell (b : UInt8) : ∀ u ∈ [byteV b], u.oneCell' = true := by
  intro u hu
  rw [List.mem_singleton.1 hu]
  rfl
theorem one_at (W : World) (b : UInt8) (t : TypeId) : ∀ j u, [byteV b][j]? = some u → (W.alloc (.cells #[byteV b] t)).cell? ((⟨W.heap.size, 0, none⟩ : Go.Addr).add j) = some u := by
  intro j u hj
  match j, hj with
  | 0, hj => simp at hj; subst hj; simp [Addr.add, go_sem]
  | j + 1, hj => simp at hj
set_option maxRecDepth 100000 in
set_option maxHeartbeats 1000000 in
theorem put_gref (x : Nat) (N : Nat) (hN : N ≤ 8) (w : World) :
    Calls Try.prog 66 #[.int .u64 (x : Int), .int .i64 (N : Int)] w (Gives (St (beL N x)) w) := by
  obtain ⟨i0, hi, hz0, hz1, hz2⟩ := info_parts infoB
  have O0 := World.ownsRow_lit (base := w.heap.size) (e := 5) (size := 1) w #[] 0 (Nat.le_refl _) (by omega) rfl
  go_enter Try.func66, Try.ntmps66
  go_wp2_with fail
  go_loopw [5, 6] (fun v i wr => ∃ (k n g cap : Nat) (l : List UInt8), k ≤ N ∧ i = .int .i64 ((k : Int) - 1) ∧ v = .slice (some ⟨g, 0, none⟩) n cap ∧ n ≤ N ∧ Hid (n + k = N) ∧ Hid (beL N x = l ++ beL k x) ∧
      wr.ownsRow w.heap.size 5 1 (.slice (some ⟨g, 0, none⟩) n cap) n (l.map byteV) ∧ Below w.heap.size w wr) (fun _ i _ => (intOf i + 1).toNat)
  case atStart => exact ⟨N, 0, w.heap.size, 0, [], Nat.le_refl _, rfl, rfl, Nat.zero_le _, hide (by simp), hide rfl, O0, below_alloc _ _⟩
  case round =>
    obtain ⟨k, n, g, cap, l, hk, rfl, rfl, hn, NK, E, hown, hb⟩ := hrel
    clear O0
    by_cases h0 : k = 0
    · subst h0
      have CV := conv_own hown
      have E2 := hide (show beL N x = l by rw [E.out]; simp [beL])
      clear hown
      go_wp2
      go_ret
      exact ⟨congrArg Ending.returned (st_eq E2.out.symm), hb⟩
    · obtain ⟨j, hj⟩ : ∃ j, k = j + 1 := ⟨k - 1, by omega⟩
      subst hj
      have J1 : ((j + 1 : Nat) : Int) - 1 = (j : Int) := by omega
      rw [J1]
      clear J1 h0
      have S := shr_nat x j
      have SB : (((x / 256 ^ j : Nat) : Int) % 256) = ((UInt8.ofNat (x / 256 ^ j % 256)).toNat : Int) := by rw [byte_toNat]; omega
      have E2 := hide (show beL N x = (l ++ [UInt8.ofNat (x / 256 ^ j % 256)]) ++ beL j x by rw [E.out, List.append_assoc]; rfl)
      generalize x / 256 ^ j = m at *
      generalize UInt8.ofNat (m % 256) = b at *
      have T1 : (8 * (j : Int)).toNat = 8 * j := by omega
      have J7 : (j : Int) ≤ 7 := by omega
      have J8 : (j : Int) < 8 := by omega
      have J9 : 8 * (j : Int) < 64 := by omega
      have J0 : (0 : Int) ≤ 8 * (j : Int) := by omega
      have hA := hown.alloc (.cells #[.int .u8 (b.toNat : Int)] 5)
      have HB := hb.alloc hb.size (.cells #[.int .u8 (b.toNat : Int)] 5)
      have hbz := base_le hown
      go_wp2_with (at_builtin; refine wpList_append_lies _ rfl (.tmp 14) (.tmp 21) 65 rfl w.heap.size 5 i0 (.int .u8 0) 1 1 Try.underlying65 hi hz0 hz1 hz2 rfl (by decide) _ _ _ rfl hA ⟨wr.heap.size, 0, none⟩ 1 1 [byteV b] rfl rfl (one_at wr b 5) (one_cell b) (by omega) (by unfold maxLen; omega) (by omega) HB.size _ rfl ?_; intro g2 cap2 w2 hown2 hgrow2 _ _)
      have HB2 := HB.grown hgrow2 (by simp; have := hb.size; omega) (fun j hj => by cases hj; exact hbz)
      go_wp2
      go_roundw
      case rel =>
        refine ⟨j, n + 1, g2, cap2, l ++ [b], by omega, by go_num, rfl, by have := NK.out; omega, hide (by have := NK.out; omega), E2, ?_, HB2⟩
        rw [List.map_append]; exact hown2
      case measure => simp [intOf] <;> omega
theorem next_ref {m b : Nat} (hm : m * 256 + b < 18446744073709551616) : IntKind.u64.wrap (IntKind.u64.wrap ((m : Int) * 256) + (b : Int)) = ((m * 256 + b : Nat) : Int) := by
  rw [IntKind.wrap_u64, IntKind.wrap_u64]; omega
set_option maxRecDepth 100000 in
set_option maxHeartbeats 1000000 in
theorem get_gref (s : ByteArray) (hs : s.size ≤ maxLen) {a : Int} (ha : I64 a) (N : Nat) (hN : N ≤ 8) (w : World) :
    Calls Try.prog 61 #[.string s, .int .i64 a, .int .i64 (N : Int)] w (Same (.tuple #[.int .u64 (getV N s a : Nat), .bool (cutO s a N)]) w) := by
  have C := hide (cut_ref s hs ha (show I64 N by unfold I64; omega) w)
  have L := cut_size_le (S := N) (s := s) (a := a)
  have R := hide (show getV N s a = beV (cutV s a (N : Nat)).data.toList from rfl)
  generalize cutV s a (N : Int) = p at C L R
  generalize cutO s a (N : Int) = o at C
  go_enter Try.func61, Try.ntmps61
  go_wp2_with fail
  refine C.out.mono ?_
  rintro e w' ⟨rfl, rfl⟩
  go_wp2_with fail
  go_loop [10, 11] (fun v i => ∃ k m : Nat, k ≤ p.size ∧ i = .int .i64 (k : Int) ∧ v = .int .u64 (m : Int) ∧ Hid (m = beV (p.data.toList.take k))) (fun _ i => p.size - (intOf i).toNat)
  case atStart => exact ⟨0, 0, Nat.zero_le _, rfl, rfl, hide rfl⟩
  case round =>
    obtain ⟨k, m, hk, rfl, rfl, E⟩ := hrel
    by_cases hlt : k < p.size
    · have F := hide (show m * 256 + p[k].toNat = beV (p.data.toList.take (k + 1)) by rw [take_snoc p k hlt, beV_snoc, E.out])
      have hm : m * 256 + p[k].toNat < 18446744073709551616 := by
        rw [F.out]
        refine Nat.lt_of_lt_of_le (beV_lt _) ?_
        refine Nat.le_trans (Nat.pow_le_pow_right (n := 256) (by omega) (show (p.data.toList.take (k + 1)).length ≤ 8 by rw [List.length_take]; omega)) (by omega)
      have hmm : (m : Int) * 256 + (p[k].toNat : Int) < 18446744073709551616 := by omega
      go_wp2
      go_round
      case rel => exact ⟨k + 1, m * 256 + p[k].toNat, by omega, by go_num, by first | rfl | go_num, F⟩
      case measure => simp [intOf]; omega
    · have E2 := hide (show m = getV N s a by rw [R.out, E.out, List.take_of_length_le (by simp; omega)])
      go_wp2
      go_ret2
      exact ⟨congrArg Ending.returned (tup2 (by rw [← E2.out]; rfl) rfl), rfl⟩
set_option maxRecDepth 100000 in
theorem put16_ref (x : Nat) (hx : x < 65536) (w : World) : Calls Try.prog 35 #[.int .u16 (x : Int)] w (Gives (St (beL 2 x)) w) := by
  have P := hide (fun W => put_gref x 2 (by omega) W)
  have hx2 : (x : Int) < 65536 := by omega
  go_enter Try.func35, Try.ntmps35
  go_wp2_with fail
  refine (P.out _).mono ?_
  rintro e w' ⟨rfl, hb⟩
  go_wp2
  go_ret
  exact ⟨rfl, hb⟩
set_option maxRecDepth 100000 in
theorem get16_ref (s : ByteArray) (hs : s.size ≤ maxLen) {a : Int} (ha : I64 a) (w : World) : Calls Try.prog 29 #[.string s, .int .i64 a] w (Same (.tuple #[.int .u16 (getV 2 s a : Nat), .bool (cutO s a 2)]) w) := by
  have P := hide (fun W => get_gref s hs ha 2 (by omega) W)
  have G := getV_lt 2 s a
  rw [show ((2 : Nat) : Int) = 2 from rfl] at P
  generalize getV 2 s a = v at *
  generalize cutO s a 2 = o at *
  have W1 : IntKind.u16.wrap (v : Int) = (v : Int) := by rw [IntKind.wrap_u16]; omega
  have W2 : (v : Int) % 65536 = (v : Int) := by omega
  clear G
  go_enter Try.func29, Try.ntmps29
  go_wp2_with fail
  refine (P.out _).mono ?_
  rintro e w' ⟨rfl, rfl⟩
  go_wp2
  go_ret2
  exact ⟨rfl, rfl⟩
set_option maxRecDepth 100000 in
theorem put32_ref (x : Nat) (hx : x < 4294967296) (w : World) : Calls Try.prog 42 #[.int .u32 (x : Int)] w (Gives (St (beL 4 x)) w) := by
  have P := hide (fun W => put_gref x 4 (by omega) W)
  have hx2 : (x : Int) < 4294967296 := by omega
  go_enter Try.func42, Try.ntmps42
  go_wp2_with fail
  refine (P.out _).mono ?_
  rintro e w' ⟨rfl, hb⟩
  go_wp2
  go_ret
  exact ⟨rfl, hb⟩
set_option maxRecDepth 100000 in
theorem get32_ref (s : ByteArray) (hs : s.size ≤ maxLen) {a : Int} (ha : I64 a) (w : World) : Calls Try.prog 79 #[.string s, .int .i64 a] w (Same (.tuple #[.int .u32 (getV 4 s a : Nat), .bool (cutO s a 4)]) w) := by
  have P := hide (fun W => get_gref s hs ha 4 (by omega) W)
  have G := getV_lt 4 s a
  rw [show ((4 : Nat) : Int) = 4 from rfl] at P
  generalize getV 4 s a = v at *
  generalize cutO s a 4 = o at *
  have W1 : IntKind.u32.wrap (v : Int) = (v : Int) := by rw [IntKind.wrap_u32]; omega
  have W2 : (v : Int) % 4294967296 = (v : Int) := by omega
  clear G
  go_enter Try.func79, Try.ntmps79
  go_wp2_with fail
  refine (P.out _).mono ?_
  rintro e w' ⟨rfl, rfl⟩
  go_wp2
  go_ret2
  exact ⟨rfl, rfl⟩
set_option maxRecDepth 100000 in
theorem put64_ref (x : Nat) (hx : x < 18446744073709551616) (w : World) : Calls Try.prog 71 #[.int .u64 (x : Int)] w (Gives (St (beL 8 x)) w) := by
  have P := hide (fun W => put_gref x 8 (by omega) W)
  have hx2 : (x : Int) < 18446744073709551616 := by omega
  go_enter Try.func71, Try.ntmps71
  go_wp2_with fail
  refine (P.out _).mono ?_
  rintro e w' ⟨rfl, hb⟩
  go_wp2
  go_ret
  exact ⟨rfl, hb⟩
set_option maxRecDepth 100000 in
theorem get64_ref (s : ByteArray) (hs : s.size ≤ maxLen) {a : Int} (ha : I64 a) (w : World) : Calls Try.prog 97 #[.string s, .int .i64 a] w (Same (.tuple #[.int .u64 (getV 8 s a : Nat), .bool (cutO s a 8)]) w) := by
  have P := hide (fun W => get_gref s hs ha 8 (by omega) W)
  have G := getV_lt 8 s a
  rw [show ((8 : Nat) : Int) = 8 from rfl] at P
  generalize getV 8 s a = v at *
  generalize cutO s a 8 = o at *
  have W1 : IntKind.u64.wrap (v : Int) = (v : Int) := by rw [IntKind.wrap_u64]; omega
  have W2 : (v : Int) % 18446744073709551616 = (v : Int) := by omega
  clear G
  go_enter Try.func97, Try.ntmps97
  go_wp2_with fail
  refine (P.out _).mono ?_
  rintro e w' ⟨rfl, rfl⟩
  go_wp2
  go_ret2
  exact ⟨rfl, rfl⟩
set_option maxRecDepth 100000 in
set_option maxHeartbeats 1000000 in
theorem putAddr_ref {a : Nat} (ha : Fits a) (w : World) : Calls Try.prog 44 #[A a] w (Gives (St (beL 16 a)) w) := by
  have PH := hide (fun W => put64_ref (hi a) (hi_lt ha) W)
  have PL := hide (fun W => put64_ref (lo a) (lo_lt a) W)
  have R := hide (beL_addr a)
  have NH := beL_length 8 (hi a)
  have NL := beL_length 8 (lo a)
  generalize beL 8 (hi a) = l1 at *
  generalize beL 8 (lo a) = l2 at *
  have N1 : ¬ 9223372036854775807 < l1.length + l2.length := by omega
  clear NH NL
  have H0 := HA.drew (ha_new w a 70)
  go_enter Try.func44, Try.ntmps44
  go_wp2_with fail
  refine wp_region_quiet (C := HA w a) (by kernel_rfl) (by kernel_rfl) H0 (wpQuiet_step (fun K0 hK0 => ?_))
  go_simp
  first | (with_reducible refine hK0 _ (wpQuiet_step (fun K1 hK1 => ?_))) | (with_reducible refine ⟨_, fun _ _ => rfl, hK0 _ (wpQuiet_step (fun K1 hK1 => ?_))⟩) | (rw [if_neg (by intro e; cases e)]; with_reducible refine hK0 _ (wpQuiet_step (fun K1 hK1 => ?_)))
  clear hK0 K0
  go_simp
  refine ⟨.int .u64 (hi a : Nat), fun W hW => ?_, hK1 _ (wpQuiet_step (fun K0 hK0 => ?_))⟩
  · (obtain ⟨_, u0, u1⟩ := hW; simp [go_sem, u0])
  clear hK1 K1
  go_simp
  refine ⟨.string ⟨l1.toArray⟩, fun W hW => ?_, hK0 _ (wpQuiet_step (fun K1 hK1 => ?_))⟩
  · exact (PH.out W).mono fun e w4 ⟨he, hb⟩ => ⟨he, HA.step hW hb⟩
  clear hK0 K0
  go_simp
  first | (with_reducible refine hK1 _ (wpQuiet_step (fun K0 hK0 => ?_))) | (with_reducible refine ⟨_, fun _ _ => rfl, hK1 _ (wpQuiet_step (fun K0 hK0 => ?_))⟩) | (rw [if_neg (by intro e; cases e)]; with_reducible refine hK1 _ (wpQuiet_step (fun K0 hK0 => ?_)))
  clear hK1 K1
  go_simp
  refine ⟨.int .u64 (lo a : Nat), fun W hW => ?_, hK0 _ (wpQuiet_step (fun K1 hK1 => ?_))⟩
  · (obtain ⟨_, u0, u1⟩ := hW; simp [go_sem, u1])
  clear hK0 K0
  go_simp
  refine ⟨.string ⟨l2.toArray⟩, fun W hW => ?_, hK1 _ (wpQuiet_step (fun K0 hK0 => ?_))⟩
  · exact (PL.out W).mono fun e w4 ⟨he, hb⟩ => ⟨he, HA.step hW hb⟩
  clear hK1 K1
  go_simp
  first | (with_reducible refine hK0 _ (wpQuiet_step (fun K1 hK1 => ?_))) | (with_reducible refine ⟨_, fun _ _ => rfl, hK0 _ (wpQuiet_step (fun K1 hK1 => ?_))⟩) | (rw [if_neg (by intro e; cases e)]; with_reducible refine hK0 _ (wpQuiet_step (fun K1 hK1 => ?_)))
  clear hK0 K0
  go_simp
  first | (with_reducible refine hK1 _ (wpQuiet_nil ?_)) | (with_reducible refine ⟨_, fun _ _ => rfl, hK1 _ (wpQuiet_nil ?_)⟩) | (rw [if_neg (by intro e; cases e)]; with_reducible refine hK1 _ (wpQuiet_nil ?_))
  clear hK1 K1
  intro w1 H1
  go_wp2
  go_ret
  refine ⟨?_, H1.1⟩
  rw [← R.out]
  exact congrArg (fun b => Ending.returned (.string b)) (cat2 l1 l2)
set_option maxRecDepth 100000 in
theorem run_ref (s : ByteArray) (w : World) : Calls Try.prog 34 #[.string s] w (Gives (.tuple #[.string (runV s), .bool (runO s)]) w) := by
  by_cases h : s.size ≤ 65535
  · have K := hide (show runO s = true by unfold runO; simpa using h)
    have V := hide (show runV s = ⟨(beL 2 s.size ++ s.data.toList).toArray⟩ by unfold runV; rw [K.out, if_pos rfl])
    have P := hide (put16_ref s.size (by omega))
    have L := beL_length 2 s.size
    generalize beL 2 s.size = l at *
    have N1 : ¬ 9223372036854775807 < l.length + s.size := by omega
    have h1 : ¬ (65535 : Int) < (s.size : Int) := by omega
    have W1 : IntKind.u16.wrap (s.size : Int) = (s.size : Int) := by rw [IntKind.wrap_u16]; omega
    clear L
    go_enter Try.func34, Try.ntmps34
    go_wp2_with fail
    refine (P.out _).mono ?_
    rintro e w' ⟨rfl, hb⟩
    go_wp2
    go_ret2
    exact ⟨congrArg Ending.returned (tup2 (by rw [V.out]; exact congrArg Value.string (cat1 l s)) (bool_eq K.out.symm)), hb⟩
  · have K := hide (show runO s = false by unfold runO; simpa using h)
    have V := hide (show runV s = ⟨#[]⟩ by unfold runV; rw [K.out]; rfl)
    have h1 : (65535 : Int) < (s.size : Int) := by omega
    clear h
    go_enter Try.func34, Try.ntmps34
    go_wp2
    go_ret2
    exact ⟨congrArg Ending.returned (tup2 (by rw [V.out]; rfl) (bool_eq K.out.symm)), Below.refl _ _⟩
set_option maxRecDepth 100000 in
theorem takeRun_ref (s : ByteArray) (hs : s.size ≤ maxLen) {a : Int} (ha : I64 a) (w : World) :
    Calls Try.prog 30 #[.string s, .int .i64 a] w (Same (.tuple #[.string (takeV s a), .int .i64 (takeE s a), .bool (takeO s a)]) w) := by
  have G := hide (fun W => get16_ref s hs ha W)
  cases h : cutO s a 2 with
  | false =>
    have K := hide (take_no1 h)
    rw [h, getV_no h] at G
    clear h
    go_enter Try.func30, Try.ntmps30
    go_wp2_with fail
    refine (G.out _).mono ?_
    rintro e w' ⟨rfl, rfl⟩
    go_wp2
    go_ret3
    exact ⟨congrArg Ending.returned (tup3 (by rw [K.out.1]; rfl) (by rw [K.out.2.1]; rfl) (bool_eq K.out.2.2.symm)), rfl⟩
  | true =>
    have B := getV_lt 2 s a
    obtain ⟨b1, b2, b3⟩ := cut_true h
    have hs2 := hs
    unfold maxLen at hs2
    have h2 : I64 (a + 2) := by unfold I64; omega
    have W1 : IntKind.i64.wrap (a + 2) = a + 2 := IntWalk.i64_in _ ⟨by omega, by omega⟩
    have C := hide (fun W => cut_ref s hs h2 (show I64 (getV 2 s a : Nat) by unfold I64; omega) W)
    have K1 := hide (fun hh => take_no2 (s := s) (a := a) (h := hh))
    have K2 := hide (fun h1 h2 => take_yes (s := s) (a := a) h1 h2)
    rw [h] at G
    have K3 := hide (K2.out h)
    clear h K2
    cases h : cutO s (a + 2) (getV 2 s a : Nat) with
    | false =>
      have K := hide (K1.out h)
      rw [h, cut_no h] at C
      clear h K1 K3
      generalize getV 2 s a = n at *
      go_enter Try.func30, Try.ntmps30
      go_wp2_with fail
      refine (G.out _).mono ?_
      rintro e w' ⟨rfl, rfl⟩
      go_wp2_with fail
      refine (C.out _).mono ?_
      rintro e w' ⟨rfl, rfl⟩
      go_wp2
      go_ret3
      exact ⟨congrArg Ending.returned (tup3 (by rw [K.out.1]; rfl) (by rw [K.out.2.1]; rfl) (bool_eq K.out.2.2.symm)), rfl⟩
    | true =>
      have K := hide (K3.out h)
      have Z := cut_len h
      obtain ⟨d1, d2, d3⟩ := cut_true h
      have W2 : IntKind.i64.wrap (a + 2 + (getV 2 s a : Nat)) = a + 2 + (getV 2 s a : Nat) := IntWalk.i64_in _ ⟨by omega, by omega⟩
      rw [h] at C
      clear h K1 K3
      generalize getV 2 s a = n at *
      generalize cutV s (a + 2) n = p at *
      have Z2 := hide Z
      clear Z
      go_enter Try.func30, Try.ntmps30
      go_wp2_with fail
      refine (G.out _).mono ?_
      rintro e w' ⟨rfl, rfl⟩
      go_wp2_with fail
      refine (C.out _).mono ?_
      rintro e w' ⟨rfl, rfl⟩
      go_wp2
      go_ret3
      exact ⟨congrArg Ending.returned (tup3 (by rw [K.out.1]; rfl) (by rw [K.out.2.1]; rfl) (bool_eq K.out.2.2.symm)), rfl⟩
set_option maxRecDepth 100000 in
set_option maxHeartbeats 1000000 in
theorem getAddr_ref (s : ByteArray) (hs : s.size ≤ maxLen) {a : Int} (ha : I64 a) (w : World) : Calls Try.prog 80 #[.string s, .int .i64 a] w (Gives (.tuple #[A (getA s a), .bool (cutO s a 16)]) w) := by
  have C := hide (fun W => cut_ref s hs ha (show I64 16 by unfold I64; omega) W)
  have hp : (cutV s a 16).size ≤ maxLen := Nat.le_trans (cut_size_le (S := 16)) (by unfold maxLen; omega)
  have G0 := hide (fun W => get64_ref (cutV s a 16) hp (a := 0) (by unfold I64; omega) W)
  have G8 := hide (fun W => get64_ref (cutV s a 16) hp (a := 8) (by unfold I64; omega) W)
  have R := hide (getA_words s a)
  rw [R.out.1] at G0
  rw [R.out.2] at G8
  clear hp R
  have V0 := hide (fun h => getV_no (S := 16) (s := s) (a := a) h)
  rw [show getV 16 s a = getA s a from rfl] at V0
  generalize getA s a = v at *
  generalize cutO s a 16 = o at *
  generalize cutV s a 16 = p at *
  generalize cutO p 0 8 = o0 at *
  generalize cutO p 8 8 = o8 at *
  cases o with
  | false =>
    have V1 := V0.out rfl
    subst V1
    clear V0
    go_enter Try.func80, Try.ntmps80
    go_wp2_with fail
    refine (C.out _).mono ?_
    rintro e w' ⟨rfl, rfl⟩
    go_wp2
    refine bodyPost_ret (v := .tuple #[A 0, .bool false]) ?_ rfl ⟨rfl, below_alloc _ _⟩
    simp [results, Try.results80, go_sem, hi, lo]
  | true =>
    clear V0
    go_enter Try.func80, Try.ntmps80
    go_wp2_with fail
    refine (C.out _).mono ?_
    rintro e w' ⟨rfl, rfl⟩
    go_wp2_with fail
    refine (G0.out _).mono ?_
    rintro e w' ⟨rfl, rfl⟩
    go_wp2_with fail
    refine (G8.out _).mono ?_
    rintro e w' ⟨rfl, rfl⟩
    go_wp2
    refine bodyPost_ret (v := .tuple #[A v, .bool true]) ?_ rfl ⟨rfl, below_alloc _ _⟩
    simp [results, Try.results80, go_sem]
end Go.Proofs.Ytcpldojgmboipaa
