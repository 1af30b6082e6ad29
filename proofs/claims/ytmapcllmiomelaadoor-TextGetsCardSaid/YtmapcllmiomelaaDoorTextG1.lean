/-
  The contracts of the document's own GetNum and group. No condition.
-/
import Derived.Test.YtmapcllmiomelaaDoorTextGm
namespace Go.Proofs.YtmapcllmiomelaaDoor
open Go.RowKit Go.Joins

theorem take_next {s : ByteArray} {k : Nat} (h : k < s.size) : s.data.toList.take (k + 1) = s.data.toList.take k ++ [s[k]] := by
  have h2 : k < s.data.toList.length := h
  rw [List.take_succ_eq_append_getElem h2]
  rfl
theorem digits_next {s : ByteArray} {k : Nat} (h : k < s.size) (hd : Digits (s.data.toList.take k)) (h1 : 48 ≤ s[k].toNat) (h2 : s[k].toNat ≤ 57) : Digits (s.data.toList.take (k + 1)) := by
  rw [take_next h]
  intro c hc
  rcases List.mem_append.1 hc with hc | hc
  · exact hd c hc
  · rw [List.mem_singleton.1 hc]; exact ⟨h1, h2⟩
theorem valD_next {s : ByteArray} {k : Nat} (h : k < s.size) : valD 0 (s.data.toList.take (k + 1)) = valD 0 (s.data.toList.take k) * 10 + (s[k].toNat - 48) := by
  rw [take_next h, valD_append, valD_one]
theorem valD_small {s : ByteArray} {k : Nat} (h : k < s.size) (h19 : s.size ≤ 19) (hd : Digits (s.data.toList.take k)) : valD 0 (s.data.toList.take k) < 1000000000000000000 := by
  have h1 := valD_lt _ 0 hd
  have h2 : (s.data.toList.take k).length ≤ 18 := by rw [List.length_take]; omega
  have h3 := Nat.pow_le_pow_right (n := 10) (by decide) h2
  have h4 : (10 : Nat) ^ 18 = 1000000000000000000 := by decide
  omega
theorem at_mem {s : ByteArray} {k : Nat} (h : k < s.size) : s[k] ∈ s.data.toList := List.getElem_mem (l := s.data.toList) (n := k) (h := h)
theorem head_at {s : ByteArray} (h : 0 < s.size) : s.data.toList.head? = some s[0] := by
  have h2 : 0 < s.data.toList.length := h
  rw [List.head?_eq_getElem?, List.getElem?_eq_getElem h2]
  rfl
set_option maxRecDepth 100000 in
set_option maxHeartbeats 2000000 in
theorem rgetnum_any (s : ByteArray) (w : World) : Calls Tryd.prog 19 #[.string s] w (Gives (.tuple #[.int .i64 (numV s.data.toList), .bool (numO s.data.toList)]) w) := by
  by_cases h0 : s.size = 0
  · have R := hide (gnum_none (gnum_no (l := s.data.toList) (Or.inl (List.length_eq_zero_iff.1 h0))))
    have E : ((s.size : Int) == 0) = true := by rw [h0]; rfl
    clear h0
    go_enter Tryd.func19, Tryd.ntmps19
    go_wp2
    go_ret2
    exact ⟨congrArg Ending.returned (tup2 (by rw [R.out.1]; rfl) (bool_eq R.out.2.symm)), Below.refl _ _⟩
  have E : ((s.size : Int) == 0) = false := by rw [beq_eq_false_iff_ne]; omega
  by_cases h19 : 19 < s.size
  · have R := hide (gnum_none (gnum_no (l := s.data.toList) (Or.inr (Or.inl h19))))
    go_enter Tryd.func19, Tryd.ntmps19
    go_wp2
    go_ret2
    exact ⟨congrArg Ending.returned (tup2 (by rw [R.out.1]; rfl) (bool_eq R.out.2.symm)), Below.refl _ _⟩
  have h19 : s.size ≤ 19 := by omega
  have NE := hide (show s.data.toList ≠ [] by intro e; exact h0 (by rw [show s.size = s.data.toList.length from rfl, e]; rfl))
  by_cases h1 : 1 < s.size
  · by_cases hz : s[0] = 48
    · have R := hide (gnum_none (gnum_no (l := s.data.toList) (Or.inr (Or.inr (Or.inl ⟨h1, by rw [head_at (by omega), hz]⟩)))))
      have EZ : ((s[0].toNat : Int) == 48) = true := by rw [hz]; rfl
      clear hz h0
      go_enter Tryd.func19, Tryd.ntmps19
      go_wp2
      go_ret2
      exact ⟨congrArg Ending.returned (tup2 (by rw [R.out.1]; rfl) (bool_eq R.out.2.symm)), Below.refl _ _⟩
    have HH := hide (show 1 < s.data.toList.length → s.data.toList.head? ≠ some 48 by intro _ e; rw [head_at (by omega)] at e; exact hz (Option.some.inj e))
    have EZ : ((s[0].toNat : Int) == 48) = false := by
      rw [beq_eq_false_iff_ne]
      intro e
      exact hz (UInt8.toNat_inj.1 (by show s[0].toNat = 48; omega))
    clear hz
    go_enter Tryd.func19, Tryd.ntmps19
    go_wp2_with fail
    go_loopw [4, 5] (fun n i wr => ∃ k : Nat, k ≤ s.size ∧ i = .int .i64 k ∧ n = .int .u64 (valD 0 (s.data.toList.take k) : Nat) ∧ Hid (Digits (s.data.toList.take k)) ∧ Below w.heap.size w wr) (fun _ i _ => s.size - (intOf i).toNat)
    case atStart => exact ⟨0, Nat.zero_le _, rfl, rfl, hide (by intro c hc; simp at hc), Below.refl _ _⟩
    case round =>
      obtain ⟨k, hk, rfl, rfl, HD, hb⟩ := hrel
      by_cases hlt : k < s.size
      · have NV := hide (valD_next hlt)
        have hn := valD_small hlt h19 HD.out
        generalize valD 0 (s.data.toList.take k) = n at *
        by_cases c1 : s[k].toNat < 48
        · have R := hide (gnum_none (gnum_no (l := s.data.toList) (Or.inr (Or.inr (Or.inr ⟨s[k], at_mem hlt, by omega⟩)))))
          go_wp2
          go_ret2
          exact ⟨congrArg Ending.returned (tup2 (by rw [R.out.1]; rfl) (bool_eq R.out.2.symm)), hb⟩
        by_cases c2 : 57 < s[k].toNat
        · have R := hide (gnum_none (gnum_no (l := s.data.toList) (Or.inr (Or.inr (Or.inr ⟨s[k], at_mem hlt, by omega⟩)))))
          go_wp2
          go_ret2
          exact ⟨congrArg Ending.returned (tup2 (by rw [R.out.1]; rfl) (bool_eq R.out.2.symm)), hb⟩
        have HN := hide (digits_next hlt HD.out (by omega) (by omega))
        go_wp2
        go_roundw
        case rel => exact ⟨k + 1, hlt, by go_num, by rw [NV.out]; exact congrArg (Value.int .u64) (by omega), HN, hb⟩
        case measure => simp [intOf]; omega
      · have e : s.data.toList.take k = s.data.toList := List.take_of_length_le (by rw [show s.data.toList.length = s.size from rfl]; omega)
        rw [e] at HD
        rw [e]
        have G := gnum_val NE.out HH.out HD.out
        clear e HD
        generalize valD 0 s.data.toList = n at *
        by_cases h62 : n ≤ 4611686018427387904
        · rw [if_pos h62] at G
          have R := hide (gnum_some G)
          clear G
          go_wp2
          go_ret2
          exact ⟨congrArg Ending.returned (tup2 (by rw [R.out.1]; rfl) (bool_eq R.out.2.symm)), hb⟩
        · rw [if_neg h62] at G
          have R := hide (gnum_none G)
          clear G
          go_wp2
          go_ret2
          exact ⟨congrArg Ending.returned (tup2 (by rw [R.out.1]; rfl) (bool_eq R.out.2.symm)), hb⟩
  · have HH := hide (show 1 < s.data.toList.length → s.data.toList.head? ≠ some 48 by intro h; exact absurd h h1)
    go_enter Tryd.func19, Tryd.ntmps19
    go_wp2_with fail
    go_loopw [4, 5] (fun n i wr => ∃ k : Nat, k ≤ s.size ∧ i = .int .i64 k ∧ n = .int .u64 (valD 0 (s.data.toList.take k) : Nat) ∧ Hid (Digits (s.data.toList.take k)) ∧ Below w.heap.size w wr) (fun _ i _ => s.size - (intOf i).toNat)
    case atStart => exact ⟨0, Nat.zero_le _, rfl, rfl, hide (by intro c hc; simp at hc), Below.refl _ _⟩
    case round =>
      obtain ⟨k, hk, rfl, rfl, HD, hb⟩ := hrel
      by_cases hlt : k < s.size
      · have NV := hide (valD_next hlt)
        have hn := valD_small hlt h19 HD.out
        generalize valD 0 (s.data.toList.take k) = n at *
        by_cases c1 : s[k].toNat < 48
        · have R := hide (gnum_none (gnum_no (l := s.data.toList) (Or.inr (Or.inr (Or.inr ⟨s[k], at_mem hlt, by omega⟩)))))
          go_wp2
          go_ret2
          exact ⟨congrArg Ending.returned (tup2 (by rw [R.out.1]; rfl) (bool_eq R.out.2.symm)), hb⟩
        by_cases c2 : 57 < s[k].toNat
        · have R := hide (gnum_none (gnum_no (l := s.data.toList) (Or.inr (Or.inr (Or.inr ⟨s[k], at_mem hlt, by omega⟩)))))
          go_wp2
          go_ret2
          exact ⟨congrArg Ending.returned (tup2 (by rw [R.out.1]; rfl) (bool_eq R.out.2.symm)), hb⟩
        have HN := hide (digits_next hlt HD.out (by omega) (by omega))
        go_wp2
        go_roundw
        case rel => exact ⟨k + 1, hlt, by go_num, by rw [NV.out]; exact congrArg (Value.int .u64) (by omega), HN, hb⟩
        case measure => simp [intOf]; omega
      · have e : s.data.toList.take k = s.data.toList := List.take_of_length_le (by rw [show s.data.toList.length = s.size from rfl]; omega)
        rw [e] at HD
        rw [e]
        have G := gnum_val NE.out HH.out HD.out
        clear e HD
        generalize valD 0 s.data.toList = n at *
        by_cases h62 : n ≤ 4611686018427387904
        · rw [if_pos h62] at G
          have R := hide (gnum_some G)
          clear G
          go_wp2
          go_ret2
          exact ⟨congrArg Ending.returned (tup2 (by rw [R.out.1]; rfl) (bool_eq R.out.2.symm)), hb⟩
        · rw [if_neg h62] at G
          have R := hide (gnum_none G)
          clear G
          go_wp2
          go_ret2
          exact ⟨congrArg Ending.returned (tup2 (by rw [R.out.1]; rfl) (bool_eq R.out.2.symm)), hb⟩
set_option maxRecDepth 100000 in
set_option maxHeartbeats 2000000 in
theorem rgroup_any (s : ByteArray) (w : World) : Calls Tryd.prog 49 #[.string s] w (Gives (.tuple #[.int .u64 (grV s.data.toList : Nat), .bool (grO s.data.toList)]) w) := by
  by_cases h0 : s.size = 0
  · have R := hide (grp_none (show grp s.data.toList = none by unfold grp; rw [if_pos (Or.inl (List.length_eq_zero_iff.1 h0))]))
    go_enter Tryd.func49, Tryd.ntmps49
    go_wp2
    go_ret2
    exact ⟨congrArg Ending.returned (tup2 (by rw [R.out.1]; rfl) (bool_eq R.out.2.symm)), Below.refl _ _⟩
  by_cases h4 : 4 < s.size
  · have R := hide (grp_none (show grp s.data.toList = none by unfold grp; rw [if_pos (Or.inr (show 4 < s.data.toList.length from h4))]))
    go_enter Tryd.func49, Tryd.ntmps49
    go_wp2
    go_ret2
    exact ⟨congrArg Ending.returned (tup2 (by rw [R.out.1]; rfl) (bool_eq R.out.2.symm)), Below.refl _ _⟩
  · have G := hide (show grp s.data.toList = grpF 0 s.data.toList by unfold grp; rw [if_neg (by rintro (h | h); exact h0 (by rw [show s.size = s.data.toList.length from rfl, h]; rfl); exact h4 h)])
    go_enter Tryd.func49, Tryd.ntmps49
    go_wp2_with fail
    go_loopw [4, 5] (fun n i wr => ∃ (k acc : Nat), k ≤ s.size ∧ i = .int .i64 k ∧ n = .int .u64 (acc : Nat) ∧ Hid (acc < 16 ^ k) ∧ Hid (grpF acc (s.data.toList.drop k) = grp s.data.toList) ∧ Below w.heap.size w wr) (fun _ i _ => s.size - (intOf i).toNat)
    case atStart => exact ⟨0, 0, Nat.zero_le _, rfl, rfl, hide (by omega), hide (by rw [G.out]; rfl), Below.refl _ _⟩
    case round =>
      obtain ⟨k, acc, hk, rfl, rfl, HC, E, hb⟩ := hrel
      have ac : acc < 65536 := Nat.lt_of_lt_of_le HC.out (Nat.le_trans (Nat.pow_le_pow_right (n := 16) (by decide) (show k ≤ 4 by omega)) (by decide))
      by_cases hlt : k < s.size
      · rcases (show s[k].toNat < 48 ∨ (48 ≤ s[k].toNat ∧ s[k].toNat ≤ 57) ∨ (57 < s[k].toNat ∧ s[k].toNat < 65) ∨ (65 ≤ s[k].toNat ∧ s[k].toNat ≤ 70) ∨ (70 < s[k].toNat ∧ s[k].toNat < 97) ∨ (97 ≤ s[k].toNat ∧ s[k].toNat ≤ 102) ∨ 102 < s[k].toNat by omega) with c1 | ⟨c1, c2⟩ | ⟨c1, c2⟩ | ⟨c1, c2⟩ | ⟨c1, c2⟩ | ⟨c1, c2⟩ | c1
        · have R := hide (grp_none (show grp s.data.toList = none by
            rw [← E.out, grp_step hlt, gx_is]
            repeat' (first | rw [if_pos (by omega)] | rw [if_neg (by omega)])))
          go_wp2
          go_ret2
          exact ⟨congrArg Ending.returned (tup2 (by rw [R.out.1]; rfl) (bool_eq R.out.2.symm)), hb⟩
        · have ST := hide (grp_step (acc := acc) hlt)
          have GX := gx_is s[k]
          have G2 := hide (show grpF (acc * 16 + (s[k].toNat - 48)) (s.data.toList.drop (k + 1)) = grp s.data.toList by
            rw [← E.out, ST.out, GX]
            repeat' (first | rw [if_pos (by omega)] | rw [if_neg (by omega)])
            congr 2
            omega)
          have A2 := hide (show acc * 16 + (s[k].toNat - 48) < 16 ^ (k + 1) by have := HC.out; rw [Nat.pow_succ]; omega)
          clear ST GX
          go_wp2
          go_roundw
          case rel => exact ⟨k + 1, _, hlt, by go_num, congrArg (Value.int .u64) (by omega), A2, G2, hb⟩
          case measure => simp [intOf]; omega
        · have R := hide (grp_none (show grp s.data.toList = none by
            rw [← E.out, grp_step hlt, gx_is]
            repeat' (first | rw [if_pos (by omega)] | rw [if_neg (by omega)])))
          go_wp2
          go_ret2
          exact ⟨congrArg Ending.returned (tup2 (by rw [R.out.1]; rfl) (bool_eq R.out.2.symm)), hb⟩
        · have ST := hide (grp_step (acc := acc) hlt)
          have GX := gx_is s[k]
          have G2 := hide (show grpF (acc * 16 + (s[k].toNat - 55)) (s.data.toList.drop (k + 1)) = grp s.data.toList by
            rw [← E.out, ST.out, GX]
            repeat' (first | rw [if_pos (by omega)] | rw [if_neg (by omega)])
            congr 2
            omega)
          have A2 := hide (show acc * 16 + (s[k].toNat - 55) < 16 ^ (k + 1) by have := HC.out; rw [Nat.pow_succ]; omega)
          clear ST GX
          go_wp2
          go_roundw
          case rel => exact ⟨k + 1, _, hlt, by go_num, congrArg (Value.int .u64) (by omega), A2, G2, hb⟩
          case measure => simp [intOf]; omega
        · have R := hide (grp_none (show grp s.data.toList = none by
            rw [← E.out, grp_step hlt, gx_is]
            repeat' (first | rw [if_pos (by omega)] | rw [if_neg (by omega)])))
          go_wp2
          go_ret2
          exact ⟨congrArg Ending.returned (tup2 (by rw [R.out.1]; rfl) (bool_eq R.out.2.symm)), hb⟩
        · have ST := hide (grp_step (acc := acc) hlt)
          have GX := gx_is s[k]
          have G2 := hide (show grpF (acc * 16 + (s[k].toNat - 87)) (s.data.toList.drop (k + 1)) = grp s.data.toList by
            rw [← E.out, ST.out, GX]
            repeat' (first | rw [if_pos (by omega)] | rw [if_neg (by omega)])
            congr 2
            omega)
          have A2 := hide (show acc * 16 + (s[k].toNat - 87) < 16 ^ (k + 1) by have := HC.out; rw [Nat.pow_succ]; omega)
          clear ST GX
          go_wp2
          go_roundw
          case rel => exact ⟨k + 1, _, hlt, by go_num, congrArg (Value.int .u64) (by omega), A2, G2, hb⟩
          case measure => simp [intOf]; omega
        · have R := hide (grp_none (show grp s.data.toList = none by
            rw [← E.out, grp_step hlt, gx_is]
            repeat' (first | rw [if_pos (by omega)] | rw [if_neg (by omega)])))
          go_wp2
          go_ret2
          exact ⟨congrArg Ending.returned (tup2 (by rw [R.out.1]; rfl) (bool_eq R.out.2.symm)), hb⟩
      · have e : grpF acc [] = some acc := rfl
        have R := hide (grp_some (show grp s.data.toList = some acc by rw [← E.out, List.drop_of_length_le (by rw [show s.data.toList.length = s.size from rfl]; omega), e]))
        go_wp2
        go_ret2
        exact ⟨congrArg Ending.returned (tup2 (by rw [R.out.1]; rfl) (bool_eq R.out.2.symm)), hb⟩
end Go.Proofs.YtmapcllmiomelaaDoor
