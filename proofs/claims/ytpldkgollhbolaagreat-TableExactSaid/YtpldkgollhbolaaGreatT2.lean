/-
  The library's heap at a table's leases: down. No condition beyond those in each theorem's own statement.
  The library's heap at a table's leases: Push, Remove. No condition beyond those in each theorem's own statement.
-/
import Derived.Test.YtpldkgollhbolaaGreatT1
namespace Go.Proofs.YtpldkgollhbolaaGreat
open Go.RowKit Go.Joins Go.Maps

variable {w w' : World} {t km om : Nat} {O : Nat → Prop} {v : Value} {E : List En}
def DnPost (w : World) (t km om : Nat) (O : Nat → Prop) (v : Value) (E : List En) (n i0 : Nat) (e : Ending) (w' : World) : Prop :=
  ∃ (r : Bool) (E' : List En), e = .returned (.bool r) ∧ Sft w t km om O v E n w' E' ∧ (r = true → HeapF (unE E') n) ∧ (r = false → UpInv (unE E') n i0)
theorem dn_end {n i0 k : Nat} {W : World} {E' : List En} (h : Sft w t km om O v E n W E') (hD : DnInv (unE E') n i0 k) (hs : ∀ q, 0 < q → q < n → (q - 1) / 2 = k → unE E' k ≤ unE E' q) (h0 : i0 ≤ k) :
    DnPost w t km om O v E n i0 (.returned (.bool (decide (i0 < k)))) W := by
  have hd := dn_stop hD hs h0
  refine ⟨_, E', rfl, h, fun hr => hd.2 (by have := of_decide_eq_true hr; omega), fun hr => hd.1 (by have := of_decide_eq_false hr; omega)⟩
set_option maxRecDepth 100000 in
set_option maxHeartbeats 4000000 in
theorem hdown_any (h : Ends w t km om O v E) (a b : Int) (ha0 : 0 ≤ a) (hab : a < b) (hb : b ≤ E.length) (hD : DnInv (unE E) b.toNat a.toNat a.toNat) :
    Calls Tryz.prog 90 #[Hv t, .int .i64 a, .int .i64 b] w (DnPost w t km om O v E b.toNat a.toNat) := by
  obtain ⟨i0, rfl⟩ := Int.eq_ofNat_of_zero_le ha0
  obtain ⟨n, rfl⟩ := Int.eq_ofNat_of_zero_le (show 0 ≤ b by omega)
  rw [Int.toNat_natCast] at hD ⊢
  rw [Int.toNat_natCast] at hD ⊢
  have H0 := hide (show Sft w t km om O v E n w E from ⟨Hp.refl _ _, rfl, h, .refl _, fun _ _ => rfl⟩)
  have D0 := hide hD
  have HN := hide (show n ≤ E.length by omega)
  have HL := hide h.len
  have hn2 : (n : Int) ≤ 2000 := by have := HN.out; have := HL.out; omega
  clear h hD hb
  go_enter Tryz.func90, Tryz.ntmps90
  go_wp2_with fail
  go_loopw [7] (fun i' wr => ∃ (k : Nat) (E' : List En), i' = .int .i64 (k : Int) ∧ i0 ≤ k ∧ k < n ∧ Hid (Sft w t km om O v E n wr E') ∧ Hid (DnInv (unE E') n i0 k)) (fun i' _ => n - (intOf i').toNat)
  case atStart => exact ⟨i0, E, rfl, Nat.le_refl _, by omega, H0, D0⟩
  case round =>
    obtain ⟨k, E', rfl, hk0, hk, HS, HD⟩ := hrel
    have hEl : E'.length = E.length := HS.out.perm.length_eq
    have hlen : (n : Int) ≤ E'.length := by have := HN.out; omega
    clear hEl
    have mL := meth_less HS.out.ends.cell
    have K0 := hide hk0
    have KN := hide hk
    have HLN := hide hlen
    have hk1 : (0 : Int) ≤ (k : Int) := by omega
    have hk2 : (k : Int) ≤ 2000 := by omega
    by_cases hc : n ≤ 2 * k + 1
    · have g1 : (n : Int) ≤ 2 * (k : Int) + 1 := by omega
      have END := hide (dn_end HS.out HD.out (fun q h1 h2 h3 => by omega) hk0)
      clear hk0 hk hc hlen
      go_wp2
      go_ret
      exact END.out
    · have g1 : ¬ (n : Int) ≤ 2 * (k : Int) + 1 := by omega
      have g2 : ¬ (2 * (k : Int) + 1 < 0) := by omega
      have hc := Nat.lt_of_not_le hc
      have HC := hide hc
      by_cases hc2 : n ≤ 2 * k + 2
      · have g3 : ¬ (2 * (k : Int) + 1 + 1 < n) := by omega
        have g4 : decide (2 * (k : Int) + 1 + 1 < n) = false := decide_eq_false g3
        obtain ⟨j, hj⟩ : ∃ j : Nat, j = 2 * k + 1 := ⟨_, rfl⟩
        have HT : Hid ((2 * (k : Int) + 1 : Int).toNat = j) := hide (by omega)
        have HT2 : Hid (2 * (k : Int) + 1 = (j : Int)) := hide (by omega)
        have HJ : Hid ((j - 1) / 2 = k ∧ 0 < j ∧ j < n ∧ ∀ q, 0 < q → q < n → (q - 1) / 2 = k → unE E' j ≤ unE E' q) := hide (by
          refine ⟨by omega, by omega, by omega, fun q h1 h2 h3 => ?_⟩
          have hq : q = 2 * k + 1 ∨ q = 2 * k + 2 := by omega
          rcases hq with rfl | rfl <;> rw [hj] <;> omega)
        clear hj
        clear hc hc2 hk0 hk hlen
        have LL := less_any HS.out.ends (2 * (k : Int) + 1) (k : Int) (by omega) (by have := HLN.out; have := HJ.out; omega) (by omega) (by have := HLN.out; have := KN.out; omega)
        rw [HT.out, Int.toNat_natCast] at LL
        by_cases hlt : unE E' j < unE E' k
        · rw [decide_eq_true hlt] at LL
          have HLT := hide hlt
          have LLH := hide LL
          clear LL hlt
          go_wp2_with fail
          refine LLH.out.mono ?_
          rintro e w5 ⟨rfl, q5, hw5⟩
          have HS5 : Hid (Sft w t km om O v E n w5 E') := hide (by rw [hw5]; exact HS.out.drew q5)
          clear hw5
          have mS := meth_swap HS5.out.ends.cell
          have SW := hide (swap_any HS5.out.ends (k : Int) (2 * (k : Int) + 1) (by omega) (by have := HLN.out; have := KN.out; omega) (by omega) (by have := HLN.out; have := HJ.out; omega) (by omega))
          clear mL
          go_wp2_with fail
          refine SW.out.mono ?_
          rintro e w6 hsw
          have hsw' := hsw
          obtain ⟨rfl, -⟩ := hsw
          rw [HT.out, Int.toNat_natCast] at hsw'
          have HS6 := hide (HS5.out.swp hsw' KN.out (HJ.out.2.2.1))
          clear hsw' mS
          have HD6 : Hid (DnInv (unE (swapL E' k j)) n i0 j) := hide (dn_congr (dn_step HD.out HJ.out.1 HJ.out.2.1 HJ.out.2.2.1 HJ.out.2.2.2 HLT.out K0.out) HJ.out.2.2.1 (fun q hq => (un_swap E' (by have := HLN.out; have := KN.out; omega) (by have := HLN.out; have := HJ.out; omega) q).symm))
          go_wp2
          go_roundw
          case rel => exact ⟨j, _, by rw [HT2.out], by have := HJ.out; have := K0.out; omega, HJ.out.2.2.1, HS6, HD6⟩
          case measure => have := HJ.out; have := KN.out; simp [intOf]; omega
        · rw [decide_eq_false hlt] at LL
          have END := fun q => dn_end (HS.out.drew q) HD.out (fun q h1 h2 h3 => by have := HJ.out.2.2.2 q h1 h2 h3; omega) K0.out
          have ENDH := hide END
          have LLH := hide LL
          clear LL hlt END
          go_wp2_with fail
          refine LLH.out.mono ?_
          rintro e w5 ⟨rfl, q5, rfl⟩
          go_wp2
          go_ret
          exact ENDH.out q5
      · have g3 : 2 * (k : Int) + 1 + 1 < n := by omega
        have g4 : decide (2 * (k : Int) + 1 + 1 < n) = true := decide_eq_true g3
        have L2 := less_any HS.out.ends (2 * (k : Int) + 1 + 1) (2 * (k : Int) + 1) (by omega) (by omega) (by omega) (by omega)
        rw [show (2 * (k : Int) + 1 + 1).toNat = 2 * k + 2 by omega, show (2 * (k : Int) + 1).toNat = 2 * k + 1 by omega] at L2
        by_cases hl2 : unE E' (2 * k + 2) < unE E' (2 * k + 1)
        · rw [decide_eq_true hl2] at L2
          obtain ⟨j, hj⟩ : ∃ j : Nat, j = 2 * k + 2 := ⟨_, rfl⟩
          have HT : Hid ((2 * (k : Int) + 1 + 1 : Int).toNat = j) := hide (by omega)
          have HT2 : Hid (2 * (k : Int) + 1 + 1 = (j : Int)) := hide (by omega)
          have HJ : Hid ((j - 1) / 2 = k ∧ 0 < j ∧ j < n ∧ ∀ q, 0 < q → q < n → (q - 1) / 2 = k → unE E' j ≤ unE E' q) := hide (by
            refine ⟨by omega, by omega, by omega, fun q h1 h2 h3 => ?_⟩
            have hq : q = 2 * k + 1 ∨ q = 2 * k + 2 := by omega
            rcases hq with rfl | rfl <;> rw [hj] <;> omega)
          clear hj
          have L2H := hide L2
          clear L2 hl2 hc hc2 hk0 hk hlen
          go_wp2_with fail
          refine L2H.out.mono ?_
          rintro e w4 ⟨rfl, q4, hw4⟩
          have HS4 : Hid (Sft w t km om O v E n w4 E') := hide (by rw [hw4]; exact HS.out.drew q4)
          clear hw4
          have mL4 := meth_less HS4.out.ends.cell
          clear mL
          have LL := less_any HS4.out.ends (2 * (k : Int) + 1 + 1) (k : Int) (by omega) (by have := HLN.out; have := HJ.out; omega) (by omega) (by have := HLN.out; have := KN.out; omega)
          rw [HT.out, Int.toNat_natCast] at LL
          by_cases hlt : unE E' j < unE E' k
          · rw [decide_eq_true hlt] at LL
            have HLT := hide hlt
            have LLH := hide LL
            clear LL hlt
            go_wp2_with fail
            refine LLH.out.mono ?_
            rintro e w5 ⟨rfl, q5, hw5⟩
            have HS5 : Hid (Sft w t km om O v E n w5 E') := hide (by rw [hw5]; exact HS4.out.drew q5)
            clear hw5
            have mS := meth_swap HS5.out.ends.cell
            have SW := hide (swap_any HS5.out.ends (k : Int) (2 * (k : Int) + 1 + 1) (by omega) (by have := HLN.out; have := KN.out; omega) (by omega) (by have := HLN.out; have := HJ.out; omega) (by omega))
            clear mL4
            go_wp2_with fail
            refine SW.out.mono ?_
            rintro e w6 hsw
            have hsw' := hsw
            obtain ⟨rfl, -⟩ := hsw
            rw [HT.out, Int.toNat_natCast] at hsw'
            have HS6 := hide (HS5.out.swp hsw' KN.out (HJ.out.2.2.1))
            clear hsw' mS
            have HD6 : Hid (DnInv (unE (swapL E' k j)) n i0 j) := hide (dn_congr (dn_step HD.out HJ.out.1 HJ.out.2.1 HJ.out.2.2.1 HJ.out.2.2.2 HLT.out K0.out) HJ.out.2.2.1 (fun q hq => (un_swap E' (by have := HLN.out; have := KN.out; omega) (by have := HLN.out; have := HJ.out; omega) q).symm))
            go_wp2
            go_roundw
            case rel => exact ⟨j, _, by rw [HT2.out], by have := HJ.out; have := K0.out; omega, HJ.out.2.2.1, HS6, HD6⟩
            case measure => have := HJ.out; have := KN.out; simp [intOf]; omega
          · rw [decide_eq_false hlt] at LL
            have END := fun q => dn_end (HS4.out.drew q) HD.out (fun q h1 h2 h3 => by have := HJ.out.2.2.2 q h1 h2 h3; omega) K0.out
            have ENDH := hide END
            have LLH := hide LL
            clear LL hlt END
            go_wp2_with fail
            refine LLH.out.mono ?_
            rintro e w5 ⟨rfl, q5, rfl⟩
            go_wp2
            go_ret
            exact ENDH.out q5
        · rw [decide_eq_false hl2] at L2
          obtain ⟨j, hj⟩ : ∃ j : Nat, j = 2 * k + 1 := ⟨_, rfl⟩
          have HT : Hid ((2 * (k : Int) + 1 : Int).toNat = j) := hide (by omega)
          have HT2 : Hid (2 * (k : Int) + 1 = (j : Int)) := hide (by omega)
          have HJ : Hid ((j - 1) / 2 = k ∧ 0 < j ∧ j < n ∧ ∀ q, 0 < q → q < n → (q - 1) / 2 = k → unE E' j ≤ unE E' q) := hide (by
            refine ⟨by omega, by omega, by omega, fun q h1 h2 h3 => ?_⟩
            have hq : q = 2 * k + 1 ∨ q = 2 * k + 2 := by omega
            rcases hq with rfl | rfl <;> rw [hj] <;> omega)
          clear hj
          have L2H := hide L2
          clear L2 hl2 hc hc2 hk0 hk hlen
          go_wp2_with fail
          refine L2H.out.mono ?_
          rintro e w4 ⟨rfl, q4, hw4⟩
          have HS4 : Hid (Sft w t km om O v E n w4 E') := hide (by rw [hw4]; exact HS.out.drew q4)
          clear hw4
          have mL4 := meth_less HS4.out.ends.cell
          clear mL
          have LL := less_any HS4.out.ends (2 * (k : Int) + 1) (k : Int) (by omega) (by have := HLN.out; have := HJ.out; omega) (by omega) (by have := HLN.out; have := KN.out; omega)
          rw [HT.out, Int.toNat_natCast] at LL
          by_cases hlt : unE E' j < unE E' k
          · rw [decide_eq_true hlt] at LL
            have HLT := hide hlt
            have LLH := hide LL
            clear LL hlt
            go_wp2_with fail
            refine LLH.out.mono ?_
            rintro e w5 ⟨rfl, q5, hw5⟩
            have HS5 : Hid (Sft w t km om O v E n w5 E') := hide (by rw [hw5]; exact HS4.out.drew q5)
            clear hw5
            have mS := meth_swap HS5.out.ends.cell
            have SW := hide (swap_any HS5.out.ends (k : Int) (2 * (k : Int) + 1) (by omega) (by have := HLN.out; have := KN.out; omega) (by omega) (by have := HLN.out; have := HJ.out; omega) (by omega))
            clear mL4
            go_wp2_with fail
            refine SW.out.mono ?_
            rintro e w6 hsw
            have hsw' := hsw
            obtain ⟨rfl, -⟩ := hsw
            rw [HT.out, Int.toNat_natCast] at hsw'
            have HS6 := hide (HS5.out.swp hsw' KN.out (HJ.out.2.2.1))
            clear hsw' mS
            have HD6 : Hid (DnInv (unE (swapL E' k j)) n i0 j) := hide (dn_congr (dn_step HD.out HJ.out.1 HJ.out.2.1 HJ.out.2.2.1 HJ.out.2.2.2 HLT.out K0.out) HJ.out.2.2.1 (fun q hq => (un_swap E' (by have := HLN.out; have := KN.out; omega) (by have := HLN.out; have := HJ.out; omega) q).symm))
            go_wp2
            go_roundw
            case rel => exact ⟨j, _, by rw [HT2.out], by have := HJ.out; have := K0.out; omega, HJ.out.2.2.1, HS6, HD6⟩
            case measure => have := HJ.out; have := KN.out; simp [intOf]; omega
          · rw [decide_eq_false hlt] at LL
            have END := fun q => dn_end (HS4.out.drew q) HD.out (fun q h1 h2 h3 => by have := HJ.out.2.2.2 q h1 h2 h3; omega) K0.out
            have ENDH := hide END
            have LLH := hide LL
            clear LL hlt END
            go_wp2_with fail
            refine LLH.out.mono ?_
            rintro e w5 ⟨rfl, q5, rfl⟩
            go_wp2
            go_ret
            exact ENDH.out q5
end Go.Proofs.YtpldkgollhbolaaGreat
namespace Go.Proofs.YtpldkgollhbolaaGreat
open Go.RowKit Go.Joins Go.Maps

variable {w w' : World} {t km om : Nat} {O : Nat → Prop} {v : Value} {E : List En}
def HPush (w : World) (t km om : Nat) (O : Nat → Prop) (E1 : List En) (e : Ending) (w' : World) : Prop :=
  e = .returned (.tuple #[]) ∧ Hp O w w' ∧ ∃ v' E', Ends w' t km om (Gr O w w') v' E' ∧ E'.Perm E1 ∧ HeapF (unE E') E'.length
theorem gr_size {a b : World} (h : b.heap.size = a.heap.size) : Gr O w b = Gr O w a := by funext k; simp [Gr, h]
theorem un_left {E F : List En} {k : Nat} (h : k < E.length) : unE (E ++ F) k = unE E k := by unfold unE; rw [List.getElem?_append_left h]
theorem Hp.up {a b : World} {O2 : Nat → Prop} (h : Hp O w a) (k : Hp O2 a b) (hO : ∀ i, O2 i → Gr O w a i) : Hp O w b := h.trans ⟨k.fr.mono (fun i _ e => hO i e), k.maps⟩
set_option maxRecDepth 100000 in
set_option maxHeartbeats 2000000 in
theorem hpush_any (h : Ends w t km om O v E) {g0 i0 : Nat} {x : Ls} (hn : NodeAt w g0 x i0) (hO : O g0) (hE : ∀ e ∈ E, e.1 ≠ g0) (hl : E.length + 1 ≤ 2000) (hH : HeapF (unE E) E.length) :
    Calls Tryz.prog 58 #[Hv t, .iface 72 (Pt g0)] w (HPush w t km om O (E ++ [(g0, x)])) := by
  have P := hide (push_any h hn hO hE hl)
  have hup : UpInv (unE (E ++ [(g0, x)])) (E ++ [(g0, x)]).length ((((E ++ [(g0, x)]).length : Nat) : Int) - 1).toNat := by
    have e : (E ++ [(g0, x)]).length = E.length + 1 := by simp
    rw [e, show (((E.length + 1 : Nat) : Int) - 1).toNat = E.length by omega]
    have := up_start hH
    refine ⟨fun k h0 hk hne => ?_, fun h0 k hk0 hk hp => ?_⟩
    · rw [un_left (by omega), un_left (by omega)]; exact hH k h0 (by omega)
    · omega
  have HUP := hide hup
  have HLN : Hid (0 < (E ++ [(g0, x)]).length ∧ (E ++ [(g0, x)]).length ≤ 2000) := hide (by simp; omega)
  clear hup hH hE hl hn h
  have mp := meth_push t w
  generalize E ++ [(g0, x)] = F at *
  go_enter Tryz.func58, Tryz.ntmps58
  go_wp2_with fail
  refine P.out.mono ?_
  rintro e w1 ⟨rfl, hp1, v1, E1⟩
  have HE1 := hide E1
  have HP1 := hide hp1
  clear E1 hp1 mp
  have ml := meth_len HE1.out.cell
  have LN := hide (len_any HE1.out)
  have hb1 : (1 : Int) ≤ (F.length : Int) := by have := HLN.out; omega
  have hb2 : (F.length : Int) ≤ 2000 := by have := HLN.out; omega
  go_wp2_with fail
  refine LN.out.mono ?_
  rintro e w2 ⟨rfl, rfl⟩
  have U := hide (hup_any HE1.out ((F.length : Int) - 1) (by omega) (n := F.length) (by omega) (Nat.le_refl _) HUP.out)
  clear ml
  go_wp2_with fail
  refine U.out.mono ?_
  rintro e w3 ⟨rfl, E', S, hh⟩
  go_wp2
  go_end0
  refine ⟨rfl, HP1.out.up S.hp (fun i hi => hi), v1, E', ?_, S.perm, by rw [S.perm.length_eq]; exact hh⟩
  rw [gr_size S.size]; exact S.ends
def HRem (w : World) (t km om : Nat) (O : Nat → Prop) (E : List En) (i : Nat) (e : Ending) (w' : World) : Prop :=
  ∃ (x : En) (v' : Value) (E' : List En), E[i]? = some x ∧ e = .returned (.iface 72 (Pt x.1)) ∧ Hp O w w' ∧ w'.heap.size = w.heap.size ∧ Ends w' t km om O v' E' ∧ (x :: E').Perm E ∧ HeapF (unE E') E'.length
theorem split_last {F : List En} {n : Nat} (h : F.length = n + 1) {x : En} (hx : F[n]? = some x) : F = F.take n ++ [x] := by
  conv => lhs; rw [← List.take_append_drop n F]
  congr 1
  obtain ⟨hl, rfl⟩ := List.getElem?_eq_some_iff.1 hx
  rw [List.drop_eq_getElem_cons hl, List.drop_of_length_le (by omega)]
/-- what is left to say once the last one has been popped -/
theorem rem_end {F : List En} {n i : Nat} (hF : F.length = n + 1) {x : En} (hx : F[n]? = some x) (hi : E[i]? = some x) (hp : F.Perm E) (hh : HeapF (unE F) n) {W W' : World} (h1 : Hp O w W) (s1 : W.heap.size = w.heap.size) {e : Ending}
    (hq : Pop W t km om O (F.take n) (.iface 72 (Pt x.1)) e W') : HRem w t km om O E i e W' := by
  obtain ⟨rfl, h2, s2, v', h3⟩ := hq
  have hs := split_last hF hx
  have hl : (F.take n).length = n := by simp; omega
  refine ⟨x, v', F.take n, hi, rfl, h1.same h2, s2.trans s1, h3, ?_, ?_⟩
  · have : (x :: F.take n).Perm F := by
      conv => rhs; rw [hs]
      exact (List.perm_append_singleton x (F.take n)).symm
    exact this.trans hp
  · rw [hl]
    refine heap_congr hh (fun k hk => ?_)
    unfold unE; rw [List.getElem?_take, if_pos hk]
set_option maxRecDepth 100000 in
set_option maxHeartbeats 4000000 in
theorem hremove_any (h : Ends w t km om O v E) (a : Int) (ha0 : 0 ≤ a) (ha : a < E.length) (hH : HeapF (unE E) E.length) :
    Calls Tryz.prog 68 #[Hv t, .int .i64 a] w (HRem w t km om O E a.toNat) := by
  obtain ⟨i, rfl⟩ := Int.eq_ofNat_of_zero_le ha0
  rw [Int.toNat_natCast]
  obtain ⟨n, hn⟩ : ∃ n, E.length = n + 1 := ⟨E.length - 1, by omega⟩
  have hl := h.len
  obtain ⟨x, hx⟩ : ∃ x, E[i]? = some x := ⟨_, List.getElem?_eq_getElem (by omega)⟩
  have ml := meth_len h.cell
  have LN := hide (len_any h)
  have e1 : (E.length : Int) = n + 1 := by omega
  rw [e1] at LN
  have hn2 : (n : Int) + 1 ≤ 2000 := by omega
  have HH := hide h
  have HN := hide hn
  have HX := hide hx
  have HHP := hide hH
  by_cases hi : i = n
  · subst hi
    have hs := split_last hn hx
    have hE2 : Ends w t km om O v (E.take i ++ [(x.1, x.2)]) := by
      rw [show ((x.1, x.2) : En) = x from rfl, ← hs]; exact h
    have PP := hide (fun W hW => pop_any (w := W) (t := t) (km := km) (om := om) (O := O) (v := v) (E := E.take i) (g0 := x.1) (x := x.2) hW)
    have HE2 := hide hE2
    have END := hide (fun (e : Ending) (W' : World) hq => rem_end (w := w) (t := t) (km := km) (om := om) (O := O) (e := e) (W' := W') HN.out HX.out HX.out (.refl _) (heap_less HHP.out (by rw [HN.out]; omega)) (Hp.refl _ _) rfl hq)
    have mq := meth_pop t w
    clear h hn hx hH hl hs hE2 e1 ha ha0
    go_enter Tryz.func68, Tryz.ntmps68
    go_wp2_with fail
    refine LN.out.mono ?_
    rintro e w2 ⟨rfl, rfl⟩
    go_wp2_with fail
    refine (PP.out _ HE2.out).mono ?_
    rintro e w3 hq
    have he := hq.1
    subst he
    have HQ := hide hq
    clear hq
    go_wp2
    go_ret
    exact END.out _ _ HQ.out
  · have hin : (i : Int) < n := by omega
    have SW := hide (swap_any h (i : Int) (n : Int) (by omega) (by omega) (by omega) (by omega) (by omega))
    have ms := meth_swap h.cell
    clear h hx hH hl ha ha0 hn e1
    go_enter Tryz.func68, Tryz.ntmps68
    go_wp2_with fail
    refine LN.out.mono ?_
    rintro e w2 ⟨rfl, rfl⟩
    go_wp2_with fail
    refine SW.out.mono ?_
    rintro e w3 hsw
    have hsw' := hsw
    obtain ⟨rfl, -⟩ := hsw
    rw [Int.toNat_natCast, Int.toNat_natCast] at hsw'
    have HSW := hide hsw'
    clear hsw' ml ms
    have hD : DnInv (unE (swapL E i n)) n i i := dn_congr (dn_start (by rw [← HN.out]; exact HHP.out) (by omega)) (by omega) (fun q _ => (un_swap E (by have := HN.out; omega) (by have := HN.out; omega) q).symm)
    have D := hide (hdown_any HSW.out.2.2.2 (i : Int) (n : Int) (by omega) (by omega) (by rw [swapL_length]; have := HN.out; omega) (by rw [Int.toNat_natCast, Int.toNat_natCast]; exact hD))
    rw [Int.toNat_natCast, Int.toNat_natCast] at D
    clear hD
    go_wp2_with fail
    refine D.out.mono ?_
    rintro e w4 ⟨r, E4, rfl, S4, hr1, hr2⟩
    have HS4 := hide S4
    have HR1 := hide hr1
    have HR2 := hide hr2
    clear S4 hr1 hr2
    have H04 : Hid (Hp O w w4) := hide (HSW.out.2.1.same HS4.out.hp)
    have Z04 : Hid (w4.heap.size = w.heap.size) := hide (HS4.out.size.trans HSW.out.2.2.1)
    have P4 : Hid (E4.Perm E) := hide (HS4.out.perm.trans (swapL_perm _ _ _))
    have L4 : Hid (E4.length = n + 1) := hide (P4.out.length_eq.trans HN.out)
    have X4 : Hid (E4[n]? = some x) := hide (by rw [HS4.out.far n (Nat.le_refl _), swapL_j (by have := HN.out; omega) (by have := HN.out; omega)]; exact HX.out)
    cases r with
    | true =>
      have hE2 : Ends w4 t km om O v (E4.take n ++ [(x.1, x.2)]) := by
        rw [show ((x.1, x.2) : En) = x from rfl, ← split_last L4.out X4.out]; exact HS4.out.ends
      have HP := hide (pop_any hE2)
      have END := hide (fun (e : Ending) (W' : World) hq => rem_end (t := t) (km := km) (om := om) (e := e) (W' := W') L4.out X4.out HX.out P4.out (HR1.out rfl) H04.out Z04.out hq)
      have mq := meth_pop t w4
      clear hE2
      go_wp2_with fail
      refine HP.out.mono ?_
      rintro e w5 hq
      have he := hq.1
      subst he
      have HQ := hide hq
      clear hq
      go_wp2
      go_ret
      exact END.out _ _ HQ.out
    | false =>
      have U := hide (hup_any HS4.out.ends (i : Int) (by omega) (n := n) (by omega) (by have := L4.out; omega) (by rw [Int.toNat_natCast]; exact HR2.out rfl))
      go_wp2_with fail
      refine U.out.mono ?_
      rintro e w5 ⟨rfl, E5, S5, hh⟩
      have HS5 := hide S5
      have HH5 := hide hh
      clear S5 hh
      have P5 : Hid (E5.Perm E) := hide (HS5.out.perm.trans P4.out)
      have L5 : Hid (E5.length = n + 1) := hide (P5.out.length_eq.trans HN.out)
      have X5 : Hid (E5[n]? = some x) := hide (by rw [HS5.out.far n (Nat.le_refl _)]; exact X4.out)
      have hE2 : Ends w5 t km om O v (E5.take n ++ [(x.1, x.2)]) := by
        rw [show ((x.1, x.2) : En) = x from rfl, ← split_last L5.out X5.out]; exact HS5.out.ends
      have HP := hide (pop_any hE2)
      have END := hide (fun (e : Ending) (W' : World) hq => rem_end (t := t) (km := km) (om := om) (e := e) (W' := W') L5.out X5.out HX.out P5.out HH5.out (H04.out.same HS5.out.hp) (HS5.out.size.trans Z04.out) hq)
      have mq := meth_pop t w5
      clear hE2
      go_wp2_with fail
      refine HP.out.mono ?_
      rintro e w6 hq
      have he := hq.1
      subst he
      have HQ := hide hq
      clear hq
      go_wp2
      go_ret
      exact END.out _ _ HQ.out
end Go.Proofs.YtpldkgollhbolaaGreat
