/-
  The contracts of fits, Frame and take. Conditions: a string is no longer than an int; take: its bytes are fewer than 2^40, its place is one of theirs.
-/
import Derived.Test.YtnaedngbcndakaaDigV
import Derived.Test.YtnaedngbcndakaaWalM
import Derived.Test.YtnaedngbcndakaaFilB
namespace Go.Proofs.Ytnaedngbcndakaa
open Go.RowKit Go.Joins

theorem fits_int (n : Int) (w : World) : Calls Try.prog 37 #[.int .i64 n] w (Same (.bool (decide (1 ≤ n ∧ n ≤ 65536))) w) := by
  by_cases h1 : 1 ≤ n
  · by_cases h2 : n ≤ 65536
    · have V := hide (show decide (1 ≤ n ∧ n ≤ 65536) = true from decide_eq_true ⟨h1, h2⟩)
      go_enter Try.func37, Try.ntmps37
      go_wp2
      go_ret
      exact ⟨congrArg Ending.returned (bool_eq (by first | (simp; done) | (simp; omega) | (simp [h1]; done))), rfl⟩
    · have V := hide (show decide (1 ≤ n ∧ n ≤ 65536) = false from decide_eq_false (fun e => h2 e.2))
      go_enter Try.func37, Try.ntmps37
      go_wp2
      go_ret
      exact ⟨congrArg Ending.returned (bool_eq (by first | (simp; done) | (simp; omega) | (simp [h1]; done))), rfl⟩
  · have V := hide (show decide (1 ≤ n ∧ n ≤ 65536) = false from decide_eq_false (fun e => h1 e.1))
    go_enter Try.func37, Try.ntmps37
    go_wp2
    go_ret
    exact ⟨congrArg Ending.returned (bool_eq (by first | (simp; done) | (simp; omega) | (simp [h1]; done))), rfl⟩
theorem fits_u32 (n : Int) (w : World) : Calls Try.prog 72 #[.int .u32 n] w (Same (.bool (decide (1 ≤ n ∧ n ≤ 65536))) w) := by
  by_cases h1 : 1 ≤ n
  · by_cases h2 : n ≤ 65536
    · have V := hide (show decide (1 ≤ n ∧ n ≤ 65536) = true from decide_eq_true ⟨h1, h2⟩)
      go_enter Try.func72, Try.ntmps72
      go_wp2
      go_ret
      exact ⟨congrArg Ending.returned (bool_eq (by first | (simp; done) | (simp; omega) | (simp [h1]; done))), rfl⟩
    · have V := hide (show decide (1 ≤ n ∧ n ≤ 65536) = false from decide_eq_false (fun e => h2 e.2))
      go_enter Try.func72, Try.ntmps72
      go_wp2
      go_ret
      exact ⟨congrArg Ending.returned (bool_eq (by first | (simp; done) | (simp; omega) | (simp [h1]; done))), rfl⟩
  · have V := hide (show decide (1 ≤ n ∧ n ≤ 65536) = false from decide_eq_false (fun e => h1 e.1))
    go_enter Try.func72, Try.ntmps72
    go_wp2
    go_ret
    exact ⟨congrArg Ending.returned (bool_eq (by first | (simp; done) | (simp; omega) | (simp [h1]; done))), rfl⟩

/-! ### octet and digest over lists of bytes -/
theorem crc_l (l : List UInt8) (h : l.length ≤ maxLen) (w : World) : Calls Try.prog 39 #[St l] w (Same (U (crcL l)) w) := by
  have := crc_any ⟨l.toArray⟩ (by rw [st_size]; exact h) w
  simpa using this
theorem rcrc_l (l : List UInt8) (h : l.length ≤ maxLen) (w : World) : Calls Try.prog 41 #[St l] w (Same (U (crcL l)) w) := by
  have := rcrc_any ⟨l.toArray⟩ (by rw [st_size]; exact h) w
  simpa using this
theorem cutO_l (l : List UInt8) (a n : Nat) : cutO ⟨l.toArray⟩ (a : Int) (n : Int) = decide (a + n ≤ l.length) := by
  unfold cutO
  rw [st_size]
  by_cases h : a + n ≤ l.length
  · rw [decide_eq_true h]; exact decide_eq_true ⟨by omega, by omega, by omega⟩
  · rw [decide_eq_false h]; exact decide_eq_false (fun e => h (by omega))
theorem cutV_l (l : List UInt8) (a n : Nat) (h : a + n ≤ l.length) : cutV ⟨l.toArray⟩ (a : Int) (n : Int) = ⟨((l.drop a).take n).toArray⟩ := by
  rw [cut_yes (by rw [cutO_l]; exact decide_eq_true h)]
  apply ByteArray.ext
  apply Array.ext'
  rw [sub_list]
  simp
theorem getV_l (l : List UInt8) (a : Nat) (h : a + 4 ≤ l.length) : getV 4 ⟨l.toArray⟩ (a : Int) = beV ((l.drop a).take 4) := by
  unfold getV
  rw [cutV_l l a 4 h]
theorem cut_l (l : List UInt8) (hl : l.length ≤ maxLen) (a n : Nat) (ha : a ≤ 4611686018427387904) (hn : n ≤ 4611686018427387904) (w : World) :
    Calls Try.prog 73 #[St l, .int .i64 (a : Int), .int .i64 (n : Int)] w (Same (.tuple #[St (if a + n ≤ l.length then (l.drop a).take n else []), .bool (decide (a + n ≤ l.length))]) w) := by
  have := ocut_any ⟨l.toArray⟩ (by rw [st_size]; exact hl) (a := (a : Int)) (n := (n : Int)) ⟨by omega, by omega⟩ ⟨by omega, by omega⟩ w
  rw [cutO_l] at this
  by_cases h : a + n ≤ l.length
  · rw [cutV_l l a n h] at this
    rw [if_pos h]; exact this
  · rw [cut_no (by rw [cutO_l]; exact decide_eq_false h)] at this
    rw [if_neg h]; exact this
theorem rcut_l (l : List UInt8) (hl : l.length ≤ maxLen) (a n : Nat) (ha : a ≤ 4611686018427387904) (hn : n ≤ 4611686018427387904) (w : World) :
    Calls Try.prog 66 #[St l, .int .i64 (a : Int), .int .i64 (n : Int)] w (Same (.tuple #[St (if a + n ≤ l.length then (l.drop a).take n else []), .bool (decide (a + n ≤ l.length))]) w) := by
  have := cut_ref ⟨l.toArray⟩ (by rw [st_size]; exact hl) (a := (a : Int)) (n := (n : Int)) ⟨by omega, by omega⟩ ⟨by omega, by omega⟩ w
  rw [cutO_l] at this
  by_cases h : a + n ≤ l.length
  · rw [cutV_l l a n h] at this
    rw [if_pos h]; exact this
  · rw [cut_no (by rw [cutO_l]; exact decide_eq_false h)] at this
    rw [if_neg h]; exact this
/-- the number at a place; 0 where it isn't whole -/
def numL (l : List UInt8) (a : Nat) : Nat := if a + 4 ≤ l.length then beV ((l.drop a).take 4) else 0
theorem numL_lt (l : List UInt8) (a : Nat) : numL l a < 4294967296 := by
  unfold numL
  split
  · have := beV_lt ((l.drop a).take 4)
    refine Nat.lt_of_lt_of_le this (Nat.le_trans (Nat.pow_le_pow_right (n := 256) (by omega) (show ((l.drop a).take 4).length ≤ 4 by rw [List.length_take]; omega)) (by omega))
  · omega
theorem get32_l (l : List UInt8) (hl : l.length ≤ maxLen) (a : Nat) (ha : a ≤ 4611686018427387904) (w : World) :
    Calls Try.prog 71 #[St l, .int .i64 (a : Int)] w (Same (.tuple #[.int .u32 (numL l a : Nat), .bool (decide (a + 4 ≤ l.length))]) w) := by
  have := get32_any ⟨l.toArray⟩ (by rw [st_size]; exact hl) (a := (a : Int)) ⟨by omega, by omega⟩ w
  have e := cutO_l l a 4
  rw [show ((4 : Nat) : Int) = 4 from rfl] at e
  rw [e] at this
  unfold numL
  by_cases h : a + 4 ≤ l.length
  · rw [getV_l l a h] at this
    rw [if_pos h]; exact this
  · rw [getV_no (S := 4) (by rw [show ((4 : Nat) : Int) = 4 from rfl, e]; exact decide_eq_false h)] at this
    rw [if_neg h]; exact this
theorem rget32_l (l : List UInt8) (hl : l.length ≤ maxLen) (a : Nat) (ha : a ≤ 4611686018427387904) (w : World) :
    Calls Try.prog 65 #[St l, .int .i64 (a : Int)] w (Same (.tuple #[.int .u32 (numL l a : Nat), .bool (decide (a + 4 ≤ l.length))]) w) := by
  have := get32_ref ⟨l.toArray⟩ (by rw [st_size]; exact hl) (a := (a : Int)) ⟨by omega, by omega⟩ w
  have e := cutO_l l a 4
  rw [show ((4 : Nat) : Int) = 4 from rfl] at e
  rw [e] at this
  unfold numL
  by_cases h : a + 4 ≤ l.length
  · rw [getV_l l a h] at this
    rw [if_pos h]; exact this
  · rw [getV_no (S := 4) (by rw [show ((4 : Nat) : Int) = 4 from rfl, e]; exact decide_eq_false h)] at this
    rw [if_neg h]; exact this
theorem numL_len (l : List UInt8) (a : Nat) (h : a + 4 ≤ l.length) : numL l a = lenL (l.drop a) := by unfold numL lenL; rw [if_pos h]
theorem numL_sum (l : List UInt8) (a : Nat) (h : a + 8 ≤ l.length) : numL l (a + 4) = sumL (l.drop a) := by unfold numL sumL; rw [if_pos (by omega), List.drop_drop]
theorem recL_at (l : List UInt8) (a : Nat) : (l.drop (a + 8)).take (lenL (l.drop a)) = recL (l.drop a) := by unfold recL; rw [List.drop_drop]

/-! ### Frame -/
theorem frame_cat (p : List UInt8) : ((({ data := (beL 4 p.length).toArray } : ByteArray) ++ { data := (beL 4 (crcL p)).toArray }) ++ { data := p.toArray }) = { data := (frameL p).toArray } := by
  rw [cat2, cat2]
  unfold frameL
  rw [List.append_assoc]
set_option maxRecDepth 100000 in
theorem frame_bad (p : List UInt8) (h : ¬ recOk p) (w : World) : Calls Try.prog 8 #[St p] w (Tells w (.tuple #[St [], .int .i64 1])) := by
  have C := fits_int (p.length : Int)
  rw [show decide (1 ≤ (p.length : Int) ∧ (p.length : Int) ≤ 65536) = false from decide_eq_false (fun e => h ⟨by omega, by omega⟩)] at C
  have HC := hide C
  clear C h
  go_enter Try.func8, Try.ntmps8
  go_wp2_with fail
  refine (HC.out w).mono ?_
  rintro e w' ⟨rfl, rfl⟩
  go_wp2
  go_ret2
  exact ⟨rfl, Fr.refl _ _⟩
set_option maxRecDepth 100000 in
theorem frame_ok (p : List UInt8) (h : recOk p) (w : World) : Calls Try.prog 8 #[St p] w (Tells w (.tuple #[St (frameL p), .int .i64 0])) := by
  have C := fits_int (p.length : Int)
  rw [show decide (1 ≤ (p.length : Int) ∧ (p.length : Int) ≤ 65536) = true from decide_eq_true ⟨by have := h.1; omega, by have := h.2; omega⟩] at C
  have HC := hide C
  have hp2 := h.2
  have P1 := hide (fun W => put32_any p.length (by omega) W)
  have HCRC := hide (fun W => crc_l p (by unfold maxLen; omega) W)
  have P2 := hide (fun W => put32_any (crcL p) (crcL_lt p) W)
  have CT := hide (frame_cat p)
  have hp3 := hide (frame_length p)
  have c1 := cat2 (beL 4 p.length) (beL 4 (crcL p))
  have c2 := cat2 (beL 4 p.length ++ beL 4 (crcL p)) p
  have e2 : (beL 4 p.length ++ beL 4 (crcL p)) ++ p = frameL p := by unfold frameL; rw [List.append_assoc]
  rw [e2] at c2
  have c3 := crcL_lt p
  have z1 := beL_length 4 p.length
  have z2 := beL_length 4 (crcL p)
  generalize beL 4 p.length = b1 at *
  generalize beL 4 (crcL p) = b2 at *
  generalize crcL p = cc at *
  clear C h CT e2
  go_enter Try.func8, Try.ntmps8
  go_wp2_with fail
  refine (HC.out w).mono ?_
  rintro e w' ⟨rfl, rfl⟩
  go_wp2_with fail
  refine (P1.out _).mono ?_
  rintro e w2 ⟨rfl, B2⟩
  go_wp2_with fail
  refine (HCRC.out _).mono ?_
  rintro e w3 ⟨rfl, rfl⟩
  go_wp2_with fail
  refine (P2.out _).mono ?_
  rintro e w4 ⟨rfl, B4⟩
  go_wp2
  go_ret2
  exact ⟨rfl, (Fr.ofBelow B2).andNo (Fr.ofBelow B4)⟩

/-! ### take -/
/-- what take answers -/
def takeV (l : List UInt8) (a : Nat) : Value := match takeL (l.drop a) with
  | none => .tuple #[St [], .int .i64 0, .bool false]
  | some p => .tuple #[St p, .int .i64 ((a + 8 + p.length : Nat) : Int), .bool true]
theorem takeV_none {l : List UInt8} {a : Nat} (h : takeL (l.drop a) = none) : takeV l a = .tuple #[St [], .int .i64 0, .bool false] := by unfold takeV; rw [h]
theorem takeV_some {l p : List UInt8} {a : Nat} (h : takeL (l.drop a) = some p) : takeV l a = .tuple #[St p, .int .i64 ((a + 8 + p.length : Nat) : Int), .bool true] := by unfold takeV; rw [h]
theorem takeL_no {d : List UInt8} (h : ¬ headOk d) : takeL d = none := by unfold takeL; rw [if_neg h]
theorem takeL_yes {d : List UInt8} (h : headOk d) : takeL d = some (recL d) := by unfold takeL; rw [if_pos h]
set_option maxRecDepth 100000 in
set_option maxHeartbeats 1000000 in
theorem wtake_any (l : List UInt8) (hl : l.length ≤ 1099511627776) (a : Nat) (ha : a ≤ l.length) (w : World) :
    Calls Try.prog 64 #[St l, .int .i64 (a : Int)] w (Same (takeV l a) w) := by
  have hml : l.length ≤ maxLen := by unfold maxLen; omega
  have dl : (l.drop a).length = l.length - a := List.length_drop
  have G1 := hide (fun W => get32_l l hml a (by omega) W)
  have G2 := hide (fun W => get32_l l hml (a + 4) (by omega) W)
  have ez : ((a + 4 : Nat) : Int) = (a : Int) + 4 := by omega
  rw [ez] at G2
  have e8 : ((a + 8 : Nat) : Int) = (a : Int) + 8 := by omega
  have no : ¬ headOk (l.drop a) → takeV l a = .tuple #[St [], .int .i64 0, .bool false] := fun h => takeV_none (takeL_no h)
  by_cases h4 : a + 4 ≤ l.length
  · have nl := numL_len l a h4
    have nlt := numL_lt l a
    have nlt2 := numL_lt l (a + 4)
    rw [decide_eq_true h4] at G1
    have FT := hide (fun W => fits_u32 (numL l a : Nat) W)
    by_cases hf : 1 ≤ numL l a ∧ numL l a ≤ 65536
    · rw [decide_eq_true (show 1 ≤ ((numL l a : Nat) : Int) ∧ ((numL l a : Nat) : Int) ≤ 65536 by omega)] at FT
      have CU := hide (fun W => cut_l l hml (a + 8) (numL l a) (by omega) (by omega) W)
      rw [e8] at CU
      by_cases hc : a + 8 + numL l a ≤ l.length
      · rw [if_pos hc, decide_eq_true hc, nl, recL_at, ← nl] at CU
        have hrl : (recL (l.drop a)).length = numL l a := by unfold recL; rw [List.length_take, List.length_drop, ← nl]; omega
        have RC := hide (fun W => crc_l (recL (l.drop a)) (by rw [hrl]; unfold maxLen; omega) W)
        have ns := numL_sum l a (by omega)
        have cl := crcL_lt (recL (l.drop a))
        by_cases hs : crcL (recL (l.drop a)) = sumL (l.drop a)
        · have V := hide (takeV_some (l := l) (a := a) (takeL_yes ⟨by omega, by omega, by omega, by omega, hs⟩))
          rw [← ns] at hs
          rw [hs] at RC
          rw [hrl] at V
          generalize takeV l a = tv at *
          generalize numL l (a + 4) = n2 at *
          generalize numL l a = n1 at *
          generalize recL (l.drop a) = rc at *
          generalize decide (a + 4 + 4 ≤ l.length) = o2 at *
          clear no hs ns nl h4 dl cl
          go_enter Try.func64, Try.ntmps64
          go_wp2_with fail
          refine (G1.out w).mono ?_
          rintro e w' ⟨rfl, rfl⟩
          go_wp2_with fail
          refine (FT.out w).mono ?_
          rintro e w' ⟨rfl, rfl⟩
          go_wp2_with fail
          refine (G2.out w).mono ?_
          rintro e w' ⟨rfl, rfl⟩
          go_wp2_with fail
          refine (CU.out w).mono ?_
          rintro e w' ⟨rfl, rfl⟩
          go_wp2_with fail
          refine (RC.out w).mono ?_
          rintro e w' ⟨rfl, rfl⟩
          go_wp2
          go_ret3
          refine ⟨?_, rfl⟩
          rw [V.out]
          exact congrArg Ending.returned (tup3 rfl (int_eq (by omega)) rfl)
        · have V := hide (no (fun h => hs h.2.2.2.2))
          rw [← ns] at hs
          have hs2 : ¬ ((crcL (recL (l.drop a)) : Nat) : Int) = ((numL l (a + 4) : Nat) : Int) := by omega
          generalize takeV l a = tv at *
          generalize numL l (a + 4) = n2 at *
          generalize numL l a = n1 at *
          generalize crcL (recL (l.drop a)) = cc at *
          generalize recL (l.drop a) = rc at *
          generalize decide (a + 4 + 4 ≤ l.length) = o2 at *
          clear no hs ns nl h4 dl
          go_enter Try.func64, Try.ntmps64
          go_wp2_with fail
          refine (G1.out w).mono ?_
          rintro e w' ⟨rfl, rfl⟩
          go_wp2_with fail
          refine (FT.out w).mono ?_
          rintro e w' ⟨rfl, rfl⟩
          go_wp2_with fail
          refine (G2.out w).mono ?_
          rintro e w' ⟨rfl, rfl⟩
          go_wp2_with fail
          refine (CU.out w).mono ?_
          rintro e w' ⟨rfl, rfl⟩
          go_wp2_with fail
          refine (RC.out w).mono ?_
          rintro e w' ⟨rfl, rfl⟩
          go_wp2
          go_ret3
          exact ⟨congrArg Ending.returned V.out.symm, rfl⟩
      · rw [if_neg hc, decide_eq_false hc] at CU
        have V := hide (no (fun h => hc (by have := h.2.2.2.1; omega)))
        generalize takeV l a = tv at *
        generalize numL l (a + 4) = n2 at *
        generalize numL l a = n1 at *
        generalize decide (a + 4 + 4 ≤ l.length) = o2 at *
        clear no nl h4 dl hc
        go_enter Try.func64, Try.ntmps64
        go_wp2_with fail
        refine (G1.out w).mono ?_
        rintro e w' ⟨rfl, rfl⟩
        go_wp2_with fail
        refine (FT.out w).mono ?_
        rintro e w' ⟨rfl, rfl⟩
        go_wp2_with fail
        refine (G2.out w).mono ?_
        rintro e w' ⟨rfl, rfl⟩
        go_wp2_with fail
        refine (CU.out w).mono ?_
        rintro e w' ⟨rfl, rfl⟩
        go_wp2
        go_ret3
        exact ⟨congrArg Ending.returned V.out.symm, rfl⟩
    · rw [decide_eq_false (show ¬ (1 ≤ ((numL l a : Nat) : Int) ∧ ((numL l a : Nat) : Int) ≤ 65536) by omega)] at FT
      have V := hide (no (fun h => hf ⟨by have := h.2.1; omega, by have := h.2.2.1; omega⟩))
      generalize takeV l a = tv at *
      generalize numL l a = n1 at *
      clear no nl h4 dl hf G2
      go_enter Try.func64, Try.ntmps64
      go_wp2_with fail
      refine (G1.out w).mono ?_
      rintro e w' ⟨rfl, rfl⟩
      go_wp2_with fail
      refine (FT.out w).mono ?_
      rintro e w' ⟨rfl, rfl⟩
      go_wp2
      go_ret3
      exact ⟨congrArg Ending.returned V.out.symm, rfl⟩
  · rw [decide_eq_false h4] at G1
    have V := hide (no (fun h => by have := h.1; omega))
    generalize takeV l a = tv at *
    generalize numL l a = n1 at *
    clear no dl h4 G2
    go_enter Try.func64, Try.ntmps64
    go_wp2_with fail
    refine (G1.out w).mono ?_
    rintro e w' ⟨rfl, rfl⟩
    go_wp2
    go_ret3
    exact ⟨congrArg Ending.returned V.out.symm, rfl⟩
end Go.Proofs.Ytnaedngbcndakaa
