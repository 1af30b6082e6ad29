/-
  The contract of the document's own Unhex. Condition: the text has at most 65536 bytes.
-/
import Derived.Test.YtmapcllmiomelaaDoorTextG2
namespace Go.Proofs.YtmapcllmiomelaaDoor
open Go.RowKit Go.Joins

theorem unhex_stepM {s : ByteArray} {m : Nat} (h : m + 1 < s.size) : unhexL (s.data.toList.drop m) = if 0 ≤ hx s[m] ∧ 0 ≤ hx s[m + 1] then (unhexL (s.data.toList.drop (m + 2))).map (UInt8.ofNat ((hx s[m]).toNat * 16 + (hx s[m + 1]).toNat) :: ·) else none := by
  rw [drop_one (show m < s.size by omega), drop_one h]; rfl
theorem ofNat_small {n : Nat} (h : n < 256) : (UInt8.ofNat n).toNat = n := by rw [UInt8.toNat_ofNat']; omega
theorem byte_one (x : Int) : ∀ u ∈ [Value.int .u8 x], u.oneCell' = true := fun u hu => by
  rw [List.mem_singleton] at hu; subst hu; rfl

set_option maxRecDepth 100000 in
set_option maxHeartbeats 4000000 in
theorem runhex_any (s : ByteArray) (hs : s.size ≤ 65536) (w : World) : Calls Tryd.prog 17 #[.string s] w (Gives (.tuple #[St (unV s.data.toList), .bool (unO s.data.toList)]) w) := by
  obtain ⟨i0, hi, hz0, hz1, hz2⟩ := info_parts infoB
  by_cases hp : s.size % 2 = 1
  · have R := hide (un_none (unhex_odd s.data.toList (by simpa using hp)))
    have T : ((s.size : Int) % 2 == 1) = true := by rw [beq_iff_eq]; omega
    clear hp
    go_enter Tryd.func17, Tryd.ntmps17
    go_wp2
    go_ret2
    exact ⟨congrArg Ending.returned (tup2 (by rw [R.out.1]; rfl) (bool_eq R.out.2.symm)), Below.refl _ _⟩
  · have T : ((s.size : Int) % 2 == 1) = false := by rw [beq_eq_false_iff_ne]; omega
    have EV := hide (show s.size % 2 = 0 by omega)
    have hown0 : (w.alloc (.cells #[] 5)).ownsRow w.heap.size 5 1 (.slice (some ⟨w.heap.size, 0, none⟩) 0 0) 0 [] := World.ownsRow_lit w #[] 0 (Nat.le_refl _) (by unfold maxLen; omega) rfl
    have hB0 := below_alloc w (.cells #[] 5)
    clear hp
    go_enter Tryd.func17, Tryd.ntmps17
    go_wp2_with fail
    go_loopw [4, 5] (fun v iv wr => ∃ (m g cap : Nat) (pre : List UInt8), m ≤ s.size ∧ iv = .int .i64 (m : Nat) ∧ v = .slice (some ⟨g, 0, none⟩) pre.length cap ∧ pre.length ≤ m ∧ Hid (m % 2 = 0) ∧
      Hid (unhexL s.data.toList = (unhexL (s.data.toList.drop m)).map (pre ++ ·)) ∧ wr.ownsRow w.heap.size 5 1 (.slice (some ⟨g, 0, none⟩) pre.length cap) pre.length (pre.map byteV) ∧ Below w.heap.size w wr) (fun _ i _ => s.size - (intOf i).toNat)
    case atStart => exact ⟨0, _, _, [], Nat.zero_le _, rfl, rfl, Nat.zero_le _, hide rfl, hide (by simp), hown0, hB0⟩
    case round =>
      clear hown0 hB0
      obtain ⟨m, g, cap, pre, hm, rfl, rfl, HPL, HM, E, hown, hb⟩ := hrel
      by_cases hlt : m < s.size
      · have m1 : m + 1 < s.size := by have := HM.out; have := EV.out; omega
        go_wp2_with fail
        go_loopw [6, 7] (fun nv kv w2 => w2 = wr ∧ ((kv = .int .i64 0 ∧ nv = .int .i64 0) ∨ (∃ x0 : Nat, x0 < 16 ∧ kv = .int .i64 1 ∧ nv = .int .i64 (x0 : Nat) ∧ Hid (hx s[m] = (x0 : Int))) ∨
          ∃ x0 x1 : Nat, x0 < 16 ∧ x1 < 16 ∧ kv = .int .i64 2 ∧ nv = .int .i64 ((x0 * 16 + x1 : Nat) : Int) ∧ Hid (hx s[m] = (x0 : Int)) ∧ Hid (hx s[m + 1] = (x1 : Int)))) (fun _ k _ => 2 - (intOf k).toNat)
        case atStart => exact ⟨rfl, Or.inl ⟨rfl, rfl⟩⟩
        case round =>
          obtain ⟨rfl, ⟨rfl, rfl⟩ | ⟨x0, b0, rfl, rfl, H0⟩ | ⟨x0, x1, b0, b1, rfl, rfl, H0, H1⟩⟩ := hrel
          · rcases (show s[m].toNat < 48 ∨ (48 ≤ s[m].toNat ∧ s[m].toNat ≤ 57) ∨ (57 < s[m].toNat ∧ s[m].toNat < 97) ∨ (97 ≤ s[m].toNat ∧ s[m].toNat ≤ 102) ∨ 102 < s[m].toNat by omega) with c1 | ⟨c1, c2⟩ | ⟨c1, c2⟩ | ⟨c1, c2⟩ | c1
            · have HXN : hx s[m] = -1 := by
                rw [hx_is]
                repeat' (first | rw [if_pos (by omega)] | rw [if_neg (by omega)])
              have R := hide (un_none (show unhexL s.data.toList = none by
                rw [E.out, unhex_stepM m1, if_neg (by rintro ⟨h1, h2⟩; omega)]
                rfl))
              clear HXN
              go_wp2
              go_ret2
              exact ⟨congrArg Ending.returned (tup2 (by rw [R.out.1]; rfl) (bool_eq R.out.2.symm)), hb⟩
            · have GX := hide (show hx s[m] = ((s[m].toNat - 48 : Nat) : Int) by
                rw [hx_is]
                repeat' (first | rw [if_pos (by omega)] | rw [if_neg (by omega)])
                omega)
              go_wp2
              go_roundw
              case rel => exact ⟨by first | rfl | trivial, Or.inr (Or.inl ⟨s[m].toNat - 48, by omega, by first | rfl | go_num, congrArg (Value.int .i64) (by omega), GX⟩)⟩
              case measure => simp [intOf]
            · have HXN : hx s[m] = -1 := by
                rw [hx_is]
                repeat' (first | rw [if_pos (by omega)] | rw [if_neg (by omega)])
              have R := hide (un_none (show unhexL s.data.toList = none by
                rw [E.out, unhex_stepM m1, if_neg (by rintro ⟨h1, h2⟩; omega)]
                rfl))
              clear HXN
              go_wp2
              go_ret2
              exact ⟨congrArg Ending.returned (tup2 (by rw [R.out.1]; rfl) (bool_eq R.out.2.symm)), hb⟩
            · have GX := hide (show hx s[m] = ((s[m].toNat - 87 : Nat) : Int) by
                rw [hx_is]
                repeat' (first | rw [if_pos (by omega)] | rw [if_neg (by omega)])
                omega)
              go_wp2
              go_roundw
              case rel => exact ⟨by first | rfl | trivial, Or.inr (Or.inl ⟨s[m].toNat - 87, by omega, by first | rfl | go_num, congrArg (Value.int .i64) (by omega), GX⟩)⟩
              case measure => simp [intOf]
            · have HXN : hx s[m] = -1 := by
                rw [hx_is]
                repeat' (first | rw [if_pos (by omega)] | rw [if_neg (by omega)])
              have R := hide (un_none (show unhexL s.data.toList = none by
                rw [E.out, unhex_stepM m1, if_neg (by rintro ⟨h1, h2⟩; omega)]
                rfl))
              clear HXN
              go_wp2
              go_ret2
              exact ⟨congrArg Ending.returned (tup2 (by rw [R.out.1]; rfl) (bool_eq R.out.2.symm)), hb⟩
          · rcases (show s[m + 1].toNat < 48 ∨ (48 ≤ s[m + 1].toNat ∧ s[m + 1].toNat ≤ 57) ∨ (57 < s[m + 1].toNat ∧ s[m + 1].toNat < 97) ∨ (97 ≤ s[m + 1].toNat ∧ s[m + 1].toNat ≤ 102) ∨ 102 < s[m + 1].toNat by omega) with c1 | ⟨c1, c2⟩ | ⟨c1, c2⟩ | ⟨c1, c2⟩ | c1
            · have HXN : hx s[m + 1] = -1 := by
                rw [hx_is]
                repeat' (first | rw [if_pos (by omega)] | rw [if_neg (by omega)])
              have R := hide (un_none (show unhexL s.data.toList = none by
                rw [E.out, unhex_stepM m1, if_neg (by rintro ⟨h1, h2⟩; omega)]
                rfl))
              clear HXN
              go_wp2
              go_ret2
              exact ⟨congrArg Ending.returned (tup2 (by rw [R.out.1]; rfl) (bool_eq R.out.2.symm)), hb⟩
            · have GX := hide (show hx s[m + 1] = ((s[m + 1].toNat - 48 : Nat) : Int) by
                rw [hx_is]
                repeat' (first | rw [if_pos (by omega)] | rw [if_neg (by omega)])
                omega)
              go_wp2
              go_roundw
              case rel => exact ⟨by first | rfl | trivial, Or.inr (Or.inr ⟨x0, s[m + 1].toNat - 48, b0, by omega, by first | rfl | go_num, congrArg (Value.int .i64) (by omega), H0, GX⟩)⟩
              case measure => simp [intOf]
            · have HXN : hx s[m + 1] = -1 := by
                rw [hx_is]
                repeat' (first | rw [if_pos (by omega)] | rw [if_neg (by omega)])
              have R := hide (un_none (show unhexL s.data.toList = none by
                rw [E.out, unhex_stepM m1, if_neg (by rintro ⟨h1, h2⟩; omega)]
                rfl))
              clear HXN
              go_wp2
              go_ret2
              exact ⟨congrArg Ending.returned (tup2 (by rw [R.out.1]; rfl) (bool_eq R.out.2.symm)), hb⟩
            · have GX := hide (show hx s[m + 1] = ((s[m + 1].toNat - 87 : Nat) : Int) by
                rw [hx_is]
                repeat' (first | rw [if_pos (by omega)] | rw [if_neg (by omega)])
                omega)
              go_wp2
              go_roundw
              case rel => exact ⟨by first | rfl | trivial, Or.inr (Or.inr ⟨x0, s[m + 1].toNat - 87, b0, by omega, by first | rfl | go_num, congrArg (Value.int .i64) (by omega), H0, GX⟩)⟩
              case measure => simp [intOf]
            · have HXN : hx s[m + 1] = -1 := by
                rw [hx_is]
                repeat' (first | rw [if_pos (by omega)] | rw [if_neg (by omega)])
              have R := hide (un_none (show unhexL s.data.toList = none by
                rw [E.out, unhex_stepM m1, if_neg (by rintro ⟨h1, h2⟩; omega)]
                rfl))
              clear HXN
              go_wp2
              go_ret2
              exact ⟨congrArg Ending.returned (tup2 (by rw [R.out.1]; rfl) (bool_eq R.out.2.symm)), hb⟩
          · have CB : (((x0 * 16 + x1 : Nat) : Int) % 256) = ((UInt8.ofNat (x0 * 16 + x1)).toNat : Int) := by rw [ofNat_small (by omega)]; omega
            have F := hide (show unhexL s.data.toList = (unhexL (s.data.toList.drop (m + 2))).map ((pre ++ [UInt8.ofNat (x0 * 16 + x1)]) ++ ·) by
              rw [E.out, unhex_stepM m1, if_pos ⟨by rw [H0.out]; omega, by rw [H1.out]; omega⟩, H0.out, H1.out, Int.toNat_natCast, Int.toNat_natCast]
              cases unhexL (s.data.toList.drop (m + 2)) with
              | none => rfl
              | some r => simp)
            generalize UInt8.ofNat (x0 * 16 + x1) = b at *
            generalize x0 * 16 + x1 = y at *
            clear H0 H1 b0 b1
            have hA := hown.alloc (.cells #[.int .u8 (b.toNat : Int)] 5)
            have HB := hb.alloc hb.size (.cells #[.int .u8 (b.toNat : Int)] 5)
            have NEWS := World.news_of_block (w := wr.alloc (.cells #[.int .u8 (b.toNat : Int)] 5)) (heap_alloc_new wr (.cells #[.int .u8 (b.toNat : Int)] 5))
            have hbz := base_le hown
            go_wp2_with (at_builtin; go_loud (refine wpList_append_lies _ rfl (.tmp 56) (.tmp 59) 67 rfl w.heap.size 5 i0 (.int .u8 0) 1 1 Tryd.underlying67 hi hz0 hz1 hz2 rfl (by decide) _ _ _ rfl hA ⟨wr.heap.size, 0, none⟩ 1 1 [.int .u8 (b.toNat : Int)] rfl rfl NEWS (byte_one _) (by omega) (by unfold maxLen; omega) (by omega) HB.size _ rfl ?_); intro g4 cap4 w4 hown4 hgrow4 _ _)
            have HB4 := HB.grown hgrow4 HB.size (fun j hj => by cases hj; exact hbz)
            clear NEWS hA HB hgrow4
            go_wp2
            go_roundw
            case rel =>
              refine ⟨m + 2, g4, cap4, pre ++ [b], by omega, by go_num, by rw [List.length_append]; rfl, by rw [List.length_append]; simp; omega, hide (by have := HM.out; omega), F, ?_, HB4⟩
              rw [List.length_append, List.map_append]
              exact hown4
            case measure => simp [intOf]; omega
      · have e : s.data.toList.drop m = [] := List.drop_of_length_le (by rw [show s.data.toList.length = s.size from rfl]; omega)
        have R := hide (un_some (show unhexL s.data.toList = some pre by rw [E.out, e]; simp [unhexL]))
        have CV := conv_own hown
        clear e
        go_wp2
        go_ret2
        exact ⟨congrArg Ending.returned (tup2 (by first | (rw [R.out.1]; done) | (rw [R.out.1]; rfl)) (bool_eq R.out.2.symm)), hb⟩
end Go.Proofs.YtmapcllmiomelaaDoor
