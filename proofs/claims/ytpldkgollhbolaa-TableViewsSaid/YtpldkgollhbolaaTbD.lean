/-
  The library's heap at a table's leases: down. No condition beyond those in each theorem's own statement.
-/
import Derived.Test.YtpldkgollhbolaaTbU
namespace Go.Proofs.Ytpldkgollhbolaa
open Go.RowKit Go.Joins Go.Maps

variable {w w' : World} {t km om : Nat} {O : Nat → Prop} {v : Value} {E : List En}
def DnPost (w : World) (t km om : Nat) (O : Nat → Prop) (v : Value) (E : List En) (n i0 : Nat) (e : Ending) (w' : World) : Prop :=
  ∃ (r : Bool) (E' : List En), e = .returned (.bool r) ∧ Sft w t km om O v E n w' E' ∧ (r = true → HeapF (unE E') n) ∧ (r = false → UpInv (unE E') n i0)
theorem dn_end {n i0 k : Nat} {W : World} {E' : List En} (h : Sft w t km om O v E n W E') (hD : DnInv (unE E') n i0 k) (hs : ∀ q, 0 < q → q < n → (q - 1) / 2 = k → unE E' k ≤ unE E' q) (h0 : i0 ≤ k) :
    DnPost w t km om O v E n i0 (.returned (.bool (decide (i0 < k)))) W := by
  have hd := dn_stop hD hs h0
  refine ⟨_, E', rfl, h, fun hr => hd.2 (by have := of_decide_eq_true hr; omega), fun hr => hd.1 (by have := of_decide_eq_false hr; omega)⟩
set_option maxRecDepth 100000 in
set_option maxHeartbeats 4000000 in
theorem hdown_any (h : Ends w t km om O v E) (a b : Int) (ha0 : 0 ≤ a) (hab : a < b) (hb : b ≤ E.length) (hD : DnInv (unE E) b.toNat a.toNat a.toNat) :
    Calls Try.prog 83 #[Hv t, .int .i64 a, .int .i64 b] w (DnPost w t km om O v E b.toNat a.toNat) := by
  obtain ⟨i0, rfl⟩ := Int.eq_ofNat_of_zero_le ha0
  obtain ⟨n, rfl⟩ := Int.eq_ofNat_of_zero_le (show 0 ≤ b by omega)
  rw [Int.toNat_natCast] at hD ⊢
  rw [Int.toNat_natCast] at hD ⊢
  have H0 := hide (show Sft w t km om O v E n w E from ⟨Hp.refl _ _, rfl, h, .refl _, fun _ _ => rfl⟩)
  have D0 := hide hD
  have HN := hide (show n ≤ E.length by omega)
  have HL := hide h.len
  have hn2 : (n : Int) ≤ 2000 := by have := HN.out; have := HL.out; omega
  clear h hD hb
  go_enter Try.func83, Try.ntmps83
  go_wp2_with fail
  go_loopw [7] (fun i' wr => ∃ (k : Nat) (E' : List En), i' = .int .i64 (k : Int) ∧ i0 ≤ k ∧ k < n ∧ Hid (Sft w t km om O v E n wr E') ∧ Hid (DnInv (unE E') n i0 k)) (fun i' _ => n - (intOf i').toNat)
  case atStart => exact ⟨i0, E, rfl, Nat.le_refl _, by omega, H0, D0⟩
  case round =>
    obtain ⟨k, E', rfl, hk0, hk, HS, HD⟩ := hrel
    have hEl : E'.length = E.length := HS.out.perm.length_eq
    have hlen : (n : Int) ≤ E'.length := by have := HN.out; omega
    clear hEl
    have mL := meth_less HS.out.ends.cell
    have K0 := hide hk0
    have KN := hide hk
    have HLN := hide hlen
    have hk1 : (0 : Int) ≤ (k : Int) := by omega
    have hk2 : (k : Int) ≤ 2000 := by omega
    by_cases hc : n ≤ 2 * k + 1
    · have g1 : (n : Int) ≤ 2 * (k : Int) + 1 := by omega
      have END := hide (dn_end HS.out HD.out (fun q h1 h2 h3 => by omega) hk0)
      clear hk0 hk hc hlen
      go_wp2
      go_ret
      exact END.out
    · have g1 : ¬ (n : Int) ≤ 2 * (k : Int) + 1 := by omega
      have g2 : ¬ (2 * (k : Int) + 1 < 0) := by omega
      have hc := Nat.lt_of_not_le hc
      have HC := hide hc
      by_cases hc2 : n ≤ 2 * k + 2
      · have g3 : ¬ (2 * (k : Int) + 1 + 1 < n) := by omega
        have g4 : decide (2 * (k : Int) + 1 + 1 < n) = false := decide_eq_false g3
        obtain ⟨j, hj⟩ : ∃ j : Nat, j = 2 * k + 1 := ⟨_, rfl⟩
        have HT : Hid ((2 * (k : Int) + 1 : Int).toNat = j) := hide (by omega)
        have HT2 : Hid (2 * (k : Int) + 1 = (j : Int)) := hide (by omega)
        have HJ : Hid ((j - 1) / 2 = k ∧ 0 < j ∧ j < n ∧ ∀ q, 0 < q → q < n → (q - 1) / 2 = k → unE E' j ≤ unE E' q) := hide (by
          refine ⟨by omega, by omega, by omega, fun q h1 h2 h3 => ?_⟩
          have hq : q = 2 * k + 1 ∨ q = 2 * k + 2 := by omega
          rcases hq with rfl | rfl <;> rw [hj] <;> omega)
        clear hj
        clear hc hc2 hk0 hk hlen
        have LL := less_any HS.out.ends (2 * (k : Int) + 1) (k : Int) (by omega) (by have := HLN.out; have := HJ.out; omega) (by omega) (by have := HLN.out; have := KN.out; omega)
        rw [HT.out, Int.toNat_natCast] at LL
        by_cases hlt : unE E' j < unE E' k
        · rw [decide_eq_true hlt] at LL
          have HLT := hide hlt
          have LLH := hide LL
          clear LL hlt
          go_wp2_with fail
          refine LLH.out.mono ?_
          rintro e w5 ⟨rfl, q5, hw5⟩
          have HS5 : Hid (Sft w t km om O v E n w5 E') := hide (by rw [hw5]; exact HS.out.drew q5)
          clear hw5
          have mS := meth_swap HS5.out.ends.cell
          have SW := hide (swap_any HS5.out.ends (k : Int) (2 * (k : Int) + 1) (by omega) (by have := HLN.out; have := KN.out; omega) (by omega) (by have := HLN.out; have := HJ.out; omega) (by omega))
          clear mL
          go_wp2_with fail
          refine SW.out.mono ?_
          rintro e w6 hsw
          have hsw' := hsw
          obtain ⟨rfl, -⟩ := hsw
          rw [HT.out, Int.toNat_natCast] at hsw'
          have HS6 := hide (HS5.out.swp hsw' KN.out (HJ.out.2.2.1))
          clear hsw' mS
          have HD6 : Hid (DnInv (unE (swapL E' k j)) n i0 j) := hide (dn_congr (dn_step HD.out HJ.out.1 HJ.out.2.1 HJ.out.2.2.1 HJ.out.2.2.2 HLT.out K0.out) HJ.out.2.2.1 (fun q hq => (un_swap E' (by have := HLN.out; have := KN.out; omega) (by have := HLN.out; have := HJ.out; omega) q).symm))
          go_wp2
          go_roundw
          case rel => exact ⟨j, _, by rw [HT2.out], by have := HJ.out; have := K0.out; omega, HJ.out.2.2.1, HS6, HD6⟩
          case measure => have := HJ.out; have := KN.out; simp [intOf]; omega
        · rw [decide_eq_false hlt] at LL
          have END := fun q => dn_end (HS.out.drew q) HD.out (fun q h1 h2 h3 => by have := HJ.out.2.2.2 q h1 h2 h3; omega) K0.out
          have ENDH := hide END
          have LLH := hide LL
          clear LL hlt END
          go_wp2_with fail
          refine LLH.out.mono ?_
          rintro e w5 ⟨rfl, q5, rfl⟩
          go_wp2
          go_ret
          exact ENDH.out q5
      · have g3 : 2 * (k : Int) + 1 + 1 < n := by omega
        have g4 : decide (2 * (k : Int) + 1 + 1 < n) = true := decide_eq_true g3
        have L2 := less_any HS.out.ends (2 * (k : Int) + 1 + 1) (2 * (k : Int) + 1) (by omega) (by omega) (by omega) (by omega)
        rw [show (2 * (k : Int) + 1 + 1).toNat = 2 * k + 2 by omega, show (2 * (k : Int) + 1).toNat = 2 * k + 1 by omega] at L2
        by_cases hl2 : unE E' (2 * k + 2) < unE E' (2 * k + 1)
        · rw [decide_eq_true hl2] at L2
          obtain ⟨j, hj⟩ : ∃ j : Nat, j = 2 * k + 2 := ⟨_, rfl⟩
          have HT : Hid ((2 * (k : Int) + 1 + 1 : Int).toNat = j) := hide (by omega)
          have HT2 : Hid (2 * (k : Int) + 1 + 1 = (j : Int)) := hide (by omega)
          have HJ : Hid ((j - 1) / 2 = k ∧ 0 < j ∧ j < n ∧ ∀ q, 0 < q → q < n → (q - 1) / 2 = k → unE E' j ≤ unE E' q) := hide (by
            refine ⟨by omega, by omega, by omega, fun q h1 h2 h3 => ?_⟩
            have hq : q = 2 * k + 1 ∨ q = 2 * k + 2 := by omega
            rcases hq with rfl | rfl <;> rw [hj] <;> omega)
          clear hj
          have L2H := hide L2
          clear L2 hl2 hc hc2 hk0 hk hlen
          go_wp2_with fail
          refine L2H.out.mono ?_
          rintro e w4 ⟨rfl, q4, hw4⟩
          have HS4 : Hid (Sft w t km om O v E n w4 E') := hide (by rw [hw4]; exact HS.out.drew q4)
          clear hw4
          have mL4 := meth_less HS4.out.ends.cell
          clear mL
          have LL := less_any HS4.out.ends (2 * (k : Int) + 1 + 1) (k : Int) (by omega) (by have := HLN.out; have := HJ.out; omega) (by omega) (by have := HLN.out; have := KN.out; omega)
          rw [HT.out, Int.toNat_natCast] at LL
          by_cases hlt : unE E' j < unE E' k
          · rw [decide_eq_true hlt] at LL
            have HLT := hide hlt
            have LLH := hide LL
            clear LL hlt
            go_wp2_with fail
            refine LLH.out.mono ?_
            rintro e w5 ⟨rfl, q5, hw5⟩
            have HS5 : Hid (Sft w t km om O v E n w5 E') := hide (by rw [hw5]; exact HS4.out.drew q5)
            clear hw5
            have mS := meth_swap HS5.out.ends.cell
            have SW := hide (swap_any HS5.out.ends (k : Int) (2 * (k : Int) + 1 + 1) (by omega) (by have := HLN.out; have := KN.out; omega) (by omega) (by have := HLN.out; have := HJ.out; omega) (by omega))
            clear mL4
            go_wp2_with fail
            refine SW.out.mono ?_
            rintro e w6 hsw
            have hsw' := hsw
            obtain ⟨rfl, -⟩ := hsw
            rw [HT.out, Int.toNat_natCast] at hsw'
            have HS6 := hide (HS5.out.swp hsw' KN.out (HJ.out.2.2.1))
            clear hsw' mS
            have HD6 : Hid (DnInv (unE (swapL E' k j)) n i0 j) := hide (dn_congr (dn_step HD.out HJ.out.1 HJ.out.2.1 HJ.out.2.2.1 HJ.out.2.2.2 HLT.out K0.out) HJ.out.2.2.1 (fun q hq => (un_swap E' (by have := HLN.out; have := KN.out; omega) (by have := HLN.out; have := HJ.out; omega) q).symm))
            go_wp2
            go_roundw
            case rel => exact ⟨j, _, by rw [HT2.out], by have := HJ.out; have := K0.out; omega, HJ.out.2.2.1, HS6, HD6⟩
            case measure => have := HJ.out; have := KN.out; simp [intOf]; omega
          · rw [decide_eq_false hlt] at LL
            have END := fun q => dn_end (HS4.out.drew q) HD.out (fun q h1 h2 h3 => by have := HJ.out.2.2.2 q h1 h2 h3; omega) K0.out
            have ENDH := hide END
            have LLH := hide LL
            clear LL hlt END
            go_wp2_with fail
            refine LLH.out.mono ?_
            rintro e w5 ⟨rfl, q5, rfl⟩
            go_wp2
            go_ret
            exact ENDH.out q5
        · rw [decide_eq_false hl2] at L2
          obtain ⟨j, hj⟩ : ∃ j : Nat, j = 2 * k + 1 := ⟨_, rfl⟩
          have HT : Hid ((2 * (k : Int) + 1 : Int).toNat = j) := hide (by omega)
          have HT2 : Hid (2 * (k : Int) + 1 = (j : Int)) := hide (by omega)
          have HJ : Hid ((j - 1) / 2 = k ∧ 0 < j ∧ j < n ∧ ∀ q, 0 < q → q < n → (q - 1) / 2 = k → unE E' j ≤ unE E' q) := hide (by
            refine ⟨by omega, by omega, by omega, fun q h1 h2 h3 => ?_⟩
            have hq : q = 2 * k + 1 ∨ q = 2 * k + 2 := by omega
            rcases hq with rfl | rfl <;> rw [hj] <;> omega)
          clear hj
          have L2H := hide L2
          clear L2 hl2 hc hc2 hk0 hk hlen
          go_wp2_with fail
          refine L2H.out.mono ?_
          rintro e w4 ⟨rfl, q4, hw4⟩
          have HS4 : Hid (Sft w t km om O v E n w4 E') := hide (by rw [hw4]; exact HS.out.drew q4)
          clear hw4
          have mL4 := meth_less HS4.out.ends.cell
          clear mL
          have LL := less_any HS4.out.ends (2 * (k : Int) + 1) (k : Int) (by omega) (by have := HLN.out; have := HJ.out; omega) (by omega) (by have := HLN.out; have := KN.out; omega)
          rw [HT.out, Int.toNat_natCast] at LL
          by_cases hlt : unE E' j < unE E' k
          · rw [decide_eq_true hlt] at LL
            have HLT := hide hlt
            have LLH := hide LL
            clear LL hlt
            go_wp2_with fail
            refine LLH.out.mono ?_
            rintro e w5 ⟨rfl, q5, hw5⟩
            have HS5 : Hid (Sft w t km om O v E n w5 E') := hide (by rw [hw5]; exact HS4.out.drew q5)
            clear hw5
            have mS := meth_swap HS5.out.ends.cell
            have SW := hide (swap_any HS5.out.ends (k : Int) (2 * (k : Int) + 1) (by omega) (by have := HLN.out; have := KN.out; omega) (by omega) (by have := HLN.out; have := HJ.out; omega) (by omega))
            clear mL4
            go_wp2_with fail
            refine SW.out.mono ?_
            rintro e w6 hsw
            have hsw' := hsw
            obtain ⟨rfl, -⟩ := hsw
            rw [HT.out, Int.toNat_natCast] at hsw'
            have HS6 := hide (HS5.out.swp hsw' KN.out (HJ.out.2.2.1))
            clear hsw' mS
            have HD6 : Hid (DnInv (unE (swapL E' k j)) n i0 j) := hide (dn_congr (dn_step HD.out HJ.out.1 HJ.out.2.1 HJ.out.2.2.1 HJ.out.2.2.2 HLT.out K0.out) HJ.out.2.2.1 (fun q hq => (un_swap E' (by have := HLN.out; have := KN.out; omega) (by have := HLN.out; have := HJ.out; omega) q).symm))
            go_wp2
            go_roundw
            case rel => exact ⟨j, _, by rw [HT2.out], by have := HJ.out; have := K0.out; omega, HJ.out.2.2.1, HS6, HD6⟩
            case measure => have := HJ.out; have := KN.out; simp [intOf]; omega
          · rw [decide_eq_false hlt] at LL
            have END := fun q => dn_end (HS4.out.drew q) HD.out (fun q h1 h2 h3 => by have := HJ.out.2.2.2 q h1 h2 h3; omega) K0.out
            have ENDH := hide END
            have LLH := hide LL
            clear LL hlt END
            go_wp2_with fail
            refine LLH.out.mono ?_
            rintro e w5 ⟨rfl, q5, rfl⟩
            go_wp2
            go_ret
            exact ENDH.out q5
end Go.Proofs.Ytpldkgollhbolaa
