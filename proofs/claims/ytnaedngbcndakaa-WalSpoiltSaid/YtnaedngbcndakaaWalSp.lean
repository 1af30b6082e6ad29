/-
  WalSpoilt's walk. Condition: a string is no longer than an int, an int is one of 64 bits (every value of the types is such).
-/
import Derived.Test.YtnaedngbcndakaaWalK
import Derived.Test.YtnaedngbcndakaaWalSm
namespace Go.Proofs.Ytnaedngbcndakaa
open Go.RowKit Go.Maps

theorem xor8 (x b : UInt8) : bits .xor .u8 (x.toNat : Int) (b.toNat : Int) = ((x ^^^ b).toNat : Int) := by
  rw [u8_xor_nat x.toNat b.toNat x.toNat_lt b.toNat_lt, UInt8.toNat_xor]
theorem rest_int (n : Nat) (a : Int) (h : 0 < n) (hs : n ≤ 140737488351232) : ∃ k : Nat, wrap64 ((IntKind.u64.wrap a).tmod (n : Int)) = (k : Int) ∧ k < n := by
  have hx : 0 ≤ IntKind.u64.wrap a := by rw [IntKind.wrap_u64]; omega
  have h1 := Int.tmod_nonneg (n : Int) hx
  have h2 := Int.tmod_lt_of_pos (IntKind.u64.wrap a) (show 0 < (n : Int) by omega)
  refine ⟨((IntKind.u64.wrap a).tmod (n : Int)).toNat, ?_, by omega⟩
  unfold wrap64
  omega
theorem one_row (w : World) (a : Nm) : RowS (w.alloc (.cells #[St a] 9)) (.slice (some ⟨w.heap.size, 0, none⟩) 1 1) [a] := ⟨_, 1, rfl, fun j y hj => ⟨_, rfl, by
  rw [cell_at (MapKept.heap_alloc w _).1]
  match j, hj with
  | 0, hj => cases hj; rfl⟩⟩
theorem scan_tells (q : List UInt8) (hq : q.length ≤ 1099511627776) (w : World) : Calls Try.prog 10 #[St q] w (fun e w' => ∃ v, e = .returned (.tuple #[v, .int .i64 (sizeL (scanL q) : Nat)]) ∧ Fr No w w' ∧ RowS w' v (scanL q)) :=
  (scan_any q hq w).mono (fun _ _ ⟨v, h1, h2, h3⟩ => ⟨v, h1, Fr.ofBelow h2, RowS.own h3⟩)
theorem bytes_take (x : List UInt8) (n : Nat) : ({ data := x.toArray } : ByteArray).extract 0 n = { data := (x.take n).toArray } := by
  apply ByteArray.ext
  simp
theorem frame_any (p : List UInt8) (w : World) : Calls Try.prog 8 #[St p] w (Tells w (.tuple #[St (if recOk p then frameL p else []), .int .i64 (if recOk p then 0 else 1)])) := by
  by_cases h : recOk p
  · rw [if_pos h, if_pos h]; exact frame_ok p h w
  · rw [if_neg h, if_neg h]; exact frame_bad p h w
set_option maxRecDepth 100000 in
set_option maxHeartbeats 2000000 in
theorem spoilt_any (first record : Nm) (a : Int) (w : World) : Calls Try.prog 6 #[St first, St record, .int .i64 a] w (Tells w (.bool true)) := by
  have AW := hide (fun W => awake_any W)
  by_cases h1 : recOk first
  · by_cases h2 : recOk record
    · have FA := hide (fun W => frame_ok first h1 W)
      have FB := hide (fun W => frame_ok record h2 W)
      have la := frame_length first
      have lb := frame_length record
      have r1 := h1.2
      have r2 := h2.2
      have r3 := h1.1
      have r4 := h2.1
      have ST := scan_torn h1 h2 (k := 7 + record.length) (by omega)
      have SC := hide (fun W => scan_tells (frameL first ++ (frameL record).take (7 + record.length)) (by rw [List.length_append, List.length_take]; omega) W)
      rw [ST, size_one] at SC
      clear ST
      have LT : ((frameL record).take (7 + record.length)).length = 7 + record.length := by rw [List.length_take]; omega
      have BT := bytes_take (frameL record) (7 + record.length)
      have CT := cat2 (frameL first) ((frameL record).take (7 + record.length))
      have SP := hide (fun i h4 hi v hv r => scan_spoilt h1 h2 i h4 hi v hv r)
      generalize (frameL record).take (7 + record.length) = tk at *
      generalize frameL first = fa at *
      generalize frameL record = fb at *
      have zz : (fb.length : Int) = 8 + (record.length : Int) := by omega
      clear h1 h2
      go_enter Try.func6, Try.ntmps6
      go_wp2_with fail
      refine (AW.out w).mono ?_
      rintro e w1 ⟨rfl, F1⟩
      go_wp2_with fail
      refine (FA.out w1).mono ?_
      rintro e w2 ⟨rfl, F2⟩
      go_wp2_with fail
      refine (FB.out w2).mono ?_
      rintro e w3 ⟨rfl, F3⟩
      have G3 := hide ((F1.andNo F2).andNo F3)
      clear F1 F2 F3
      go_wp2_with fail
      refine (SC.out w3).mono ?_
      rintro e w4 ⟨v1, rfl, F4, R4⟩
      have G4 := hide (G3.out.andNo F4)
      have FN := Fr.alloc w4 (.cells #[St first] 9)
      have SM := hide (names_any (R4.no FN) (one_row w4 first) (by simp))
      rw [show decide ([first] = [first]) = true from decide_eq_true rfl] at SM
      have G5 := hide (G4.out.andNo FN)
      clear F4 R4 FN G3 G4
      go_wp2_with fail
      refine SM.out.mono ?_
      rintro e w5 ⟨rfl, F5⟩
      have G6 := hide (G5.out.andNo F5)
      clear F5 G5
      obtain ⟨k, KE0, hk⟩ := rest_int (8 * (record.length + 4)) a (by omega) (by omega)
      rw [show ((8 * (record.length + 4) : Nat) : Int) = 8 * (8 + (record.length : Int) - 4) by omega] at KE0
      have KE := KE0
      clear KE0
      obtain ⟨i, hi⟩ : ∃ i, i = 4 + k / 8 := ⟨_, rfl⟩
      obtain ⟨j, hj⟩ : ∃ j, j = k % 8 := ⟨_, rfl⟩
      have I1 : (4 : Int) + (k : Int) / 8 = (i : Int) := by omega
      have J1 : (k : Int) % 8 = (j : Int) := by omega
      have I2 : (i : Int) < 8 + (record.length : Int) := by omega
      have I3 : i < fb.length := by omega
      have J2 : j < 8 := by omega
      have SP2 := hide (fun v hv r => SP.out i (by omega) I3 v hv r)
      obtain ⟨cap0, w6, CV, R0, B0⟩ := conv_bytes w5 ⟨fb.toArray⟩
      rw [st_size] at CV R0
      have G7 := hide (G6.out.andNo (Fr.ofBelow B0))
      have RH := hide R0
      have CK := R0.2.1 i I3
      have FK := R0.2.2 i I3
      unfold byteV at CK
      rw [show atL (ByteArray.mk fb.toArray).data.toList i = fb[i] by unfold atL; simp [List.getD_eq_getElem?_getD, I3]] at CK
      have LS : (fb.set i (fb[i] ^^^ UInt8.ofNat (2 ^ j))).length = 8 + record.length := by rw [List.length_set, lb]
      have SC2 := hide (fun W => scan_tells (fa ++ fb.set i (fb[i] ^^^ UInt8.ofNat (2 ^ j)) ++ fa) (by rw [List.length_append, List.length_append, LS]; omega) W)
      rw [SP2.out _ (mask_ne _ _ J2) fa, size_one, List.append_assoc] at SC2
      have CT2 := cat2 fa (fb.set i (fb[i] ^^^ UInt8.ofNat (2 ^ j)))
      have CT3 := cat2 (fa ++ fb.set i (fb[i] ^^^ UInt8.ofNat (2 ^ j))) fa
      have X8 := xor8 fb[i] (UInt8.ofNat (2 ^ j))
      have ZJ : (((UInt8.ofNat (2 ^ j)).toNat : Nat) : Int) = (2 : Int) ^ j % 256 := by
        rcases (show j = 0 ∨ j = 1 ∨ j = 2 ∨ j = 3 ∨ j = 4 ∨ j = 5 ∨ j = 6 ∨ j = 7 by omega) with rfl | rfl | rfl | rfl | rfl | rfl | rfl | rfl <;> decide
      rw [ZJ] at X8
      have AF := hide (show ∀ t, t < fb.length → (fb.set i (fb[i] ^^^ UInt8.ofNat (2 ^ j)))[t]? = some ((fun t => if t = i then fb[i] ^^^ UInt8.ofNat (2 ^ j) else atL fb t) t) by
        intro t ht
        rw [List.getElem?_set]
        by_cases e : i = t
        · subst e
          rw [if_pos rfl, if_pos ht]; simp
        · rw [if_neg e, List.getElem?_eq_getElem ht]
          simp only [if_neg (fun e2 : t = i => e e2.symm)]
          unfold atL
          simp [List.getD_eq_getElem?_getD, ht])
      generalize fb[i] ^^^ UInt8.ofNat (2 ^ j) = y at *
      generalize fb[i] = x at *
      obtain ⟨f2, hf2⟩ : ∃ f2 : Nat → UInt8, f2 = fun t => if t = i then y else atL fb t := ⟨_, rfl⟩
      have f2i : f2 i = y := by rw [hf2]; exact if_pos rfl
      have R7 := hide (RH.out.set (f' := f2) I3 (fun t ht => by rw [hf2]; exact if_neg ht))
      have CV2 := conv_rowN (cap := cap0) R7.out (l := fb.set i y) (by rw [List.length_set, lb]) (fun t ht => by rw [hf2]; exact AF.out t (by omega))
      have FSt := Fr.set w6 ⟨w5.heap.size, i, none⟩ (byteV (f2 i))
      rw [f2i] at CV2 FSt
      unfold byteV at CV2 FSt
      rw [← X8] at CV2 FSt
      have G8 : Hid (Fr No w _) := hide (G7.out.trans FSt (fun q hq e => by have := G6.out.size; dsimp only at e; omega))
      generalize fb.set i y = fc at *
      rw [lb] at CV2
      clear SP R0 B0 G6 hi hj RH R7 AF FSt SP2 X8 hf2 f2i f2 ZJ G7
      go_wp2_with fail
      refine (SC2.out _).mono ?_
      rintro e w7 ⟨v7, rfl, F7, R7⟩
      have G9 := hide (G8.out.andNo F7)
      have FN := Fr.alloc w7 (.cells #[St first] 9)
      have SM2 := hide (names_any (R7.no FN) (one_row w7 first) (by simp))
      rw [show decide ([first] = [first]) = true from decide_eq_true rfl] at SM2
      have G10 := hide (G9.out.andNo FN)
      clear F7 R7 FN G9 G8 CV2 CT2 CT3
      go_wp2_with fail
      refine SM2.out.mono ?_
      rintro e w8 ⟨rfl, F8⟩
      go_wp2
      go_ret
      exact ⟨rfl, G10.out.andNo F8⟩
    · have FA := hide (fun W => frame_ok first h1 W)
      have FB := hide (fun W => frame_bad record h2 W)
      clear h1 h2
      go_enter Try.func6, Try.ntmps6
      go_wp2_with fail
      refine (AW.out w).mono ?_
      rintro e w1 ⟨rfl, F1⟩
      go_wp2_with fail
      refine (FA.out w1).mono ?_
      rintro e w2 ⟨rfl, F2⟩
      go_wp2_with fail
      refine (FB.out w2).mono ?_
      rintro e w3 ⟨rfl, F3⟩
      go_wp2
      go_ret
      exact ⟨rfl, (F1.andNo F2).andNo F3⟩
  · have FA := hide (fun W => frame_bad first h1 W)
    have FB := hide (fun W => frame_any record W)
    clear h1
    by_cases h2 : recOk record
    · rw [if_pos h2, if_pos h2] at FB
      generalize frameL record = fb at *
      clear h2
      go_enter Try.func6, Try.ntmps6
      go_wp2_with fail
      refine (AW.out w).mono ?_
      rintro e w1 ⟨rfl, F1⟩
      go_wp2_with fail
      refine (FA.out w1).mono ?_
      rintro e w2 ⟨rfl, F2⟩
      go_wp2_with fail
      refine (FB.out w2).mono ?_
      rintro e w3 ⟨rfl, F3⟩
      go_wp2
      go_ret
      exact ⟨rfl, (F1.andNo F2).andNo F3⟩
    · rw [if_neg h2, if_neg h2] at FB
      clear h2
      go_enter Try.func6, Try.ntmps6
      go_wp2_with fail
      refine (AW.out w).mono ?_
      rintro e w1 ⟨rfl, F1⟩
      go_wp2_with fail
      refine (FA.out w1).mono ?_
      rintro e w2 ⟨rfl, F2⟩
      go_wp2_with fail
      refine (FB.out w2).mono ?_
      rintro e w3 ⟨rfl, F3⟩
      go_wp2
      go_ret
      exact ⟨rfl, (F1.andNo F2).andNo F3⟩
end Go.Proofs.Ytnaedngbcndakaa
