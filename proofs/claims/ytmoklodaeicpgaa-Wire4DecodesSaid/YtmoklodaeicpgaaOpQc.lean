/-
  The document's own area (tenancyref13). Condition: an area has at most 2^60 bytes.
-/
import Derived.Test.YtmoklodaeicpgaaOpQa
namespace Go.Proofs.Ytmoklodaeicpgaa
open Go.RowKit Go.Joins Go.Maps

theorem lb_app' (a b : ByteArray) : lb (a ++ b) = lb a ++ lb b := by
  show (a ++ b).data.toList = a.data.toList ++ b.data.toList
  rw [ByteArray.data_append, Array.toList_append]
theorem optsOf_at {S : Gs} {k : Nat} {x : UInt8 × List UInt8} (h : S[k]? = some x) : (optsOf S)[k]? = some (x.1, bs x.2) := by
  unfold optsOf
  rw [List.getElem?_map, h]; rfl
theorem hasC_opts (S : Gs) (c : UInt8) : hasC c (optsOf S) = false ↔ gdat S c = none := by
  rw [hasC_gs, gs_opts]
theorem find_code {l : List Opt} {c : UInt8} {k : Nat} {x : Opt} (h : findI l c = (k : Int)) (hx : l[k]? = some x) : x.1 = c := by
  unfold findI idxI at h
  cases h2 : l.findIdx? (fun y => decide (y.1 = c)) with
  | none => rw [h2] at h; simp at h
  | some i =>
    rw [h2] at h
    have e : i = k := by simp at h; omega
    subst e
    obtain ⟨hi, h3, _⟩ := List.findIdx?_eq_some_iff_getElem.1 h2
    rw [List.getElem?_eq_getElem hi] at hx
    cases hx
    simpa using h3
theorem find_gs {S : Gs} {c : UInt8} (hn : (S.map (·.1)).Nodup) : (findI (optsOf S) c = -1 ∧ gdat S c = none) ∨ ∃ (k : Nat) (d : List UInt8), findI (optsOf S) c = (k : Int) ∧ S[k]? = some (c, d) ∧ gdat S c = some d := by
  rcases find_at (l := optsOf S) (c := c) with ⟨h1, _, h3⟩ | ⟨k, x, hx, h1, _, h3⟩
  · exact Or.inl ⟨h1, (hasC_opts S c).1 h3⟩
  · right
    have hk : k < S.length := by
      have := (List.getElem?_eq_some_iff.1 hx).1
      unfold optsOf at this
      rwa [List.length_map] at this
    have hS := List.getElem?_eq_getElem hk
    have hc : S[k].1 = c := find_code h1 (optsOf_at hS)
    refine ⟨k, S[k].2, h1, ?_, ?_⟩
    · rw [hS, ← hc]
    · have := gdat_at hn hS
      rw [hc] at this
      exact this
theorem gput_set : ∀ {S : Gs} {k : Nat} {c : UInt8} {d : List UInt8}, (S.map (·.1)).Nodup → S[k]? = some (c, d) → ∀ p, gput S c p = S.set k (c, d ++ p)
  | [], k, c, d, _, h, p => by simp at h
  | y :: r, 0, c, d, _, h, p => by
    simp at h
    subst h
    unfold gput
    rw [if_pos rfl]; rfl
  | y :: r, k + 1, c, d, hn, h, p => by
    rw [List.map_cons, List.nodup_cons] at hn
    simp at h
    unfold gput
    rw [if_neg (fun e => hn.1 (by rw [e]; exact List.mem_map.2 ⟨(c, d), List.mem_of_getElem? h, rfl⟩)), gput_set hn.2 h p]
    rfl
theorem bs_app (a b : List UInt8) : bs (a ++ b) = bs a ++ bs b := by
  apply lb_inj
  rw [lb_app', lb_bs, lb_bs, lb_bs]
theorem optsOf_set {S : Gs} {k : Nat} {y : UInt8 × List UInt8} : optsOf (S.set k y) = (optsOf S).set k (y.1, bs y.2) := by
  unfold optsOf
  rw [List.map_set]
theorem cells_data {l : List Opt} {k : Nat} {x : Opt} {y : ByteArray} (h : l[k]? = some x) : (cellsO l).set (k * 2 + 1) (.string y) = cellsO (l.set k (x.1, y)) := by
  induction l generalizing k with
  | nil => simp at h
  | cons z r ih =>
    cases k with
    | zero =>
      simp at h
      subst h
      rw [List.set_cons_zero, cellsO_cons, cellsO_cons]
      rfl
    | succ k =>
      simp at h
      rw [show (k + 1) * 2 + 1 = k * 2 + 1 + 1 + 1 by omega, List.set_cons_succ, cellsO_cons, cellsO_cons, List.set_cons_succ, List.set_cons_succ, ih h]
/-- what area leaves -/
def Areas (base : Nat) (S : Gs) (l : List UInt8) (w : World) (e : Ending) (w2 : World) : Prop := Below base w w2 ∧ ∃ v, e = .returned (.tuple #[v, .int .i64 ((readA l S).1 : Nat)]) ∧ ((readA l S).1 = 0 → OwnO w2 base v (optsOf (readA l S).2))
set_option maxRecDepth 100000 in
set_option maxHeartbeats 4000000 in
theorem area_any (s : ByteArray) (hs : s.size ≤ 1152921504606846976) {base : Nat} {v : Value} {S : Gs} (w : World) (hO : OwnO w base v (optsOf S)) (hb0 : base ≤ w.heap.size) (hI : GInv S) :
    Calls Try.prog 57 #[v, .string s] w (Areas base S (lb s) w) := by
  have H0 : ∃ S2, OwnO w base v (optsOf S2) ∧ GInv S2 ∧ readA ((lb s).drop 0) S2 = readA (lb s) S := ⟨S, hO, hI, rfl⟩
  clear hI hO
  generalize hR : readA (lb s) S = R at *
  have HR := hide hR
  clear hR
  go_enter Try.func57, Try.ntmps57
  go_wp2
  go_loopw [0, 6] (fun va vi wr => ∃ a : Nat, a ≤ s.size ∧ vi = .int .i64 (a : Nat) ∧ Below base w wr ∧ base ≤ wr.heap.size ∧ Hid (∃ S2, OwnO wr base va (optsOf S2) ∧ GInv S2 ∧ readA ((lb s).drop a) S2 = R)) (fun _ vi _ => s.size - (intOf vi).toNat)
  case atStart => exact ⟨0, Nat.zero_le _, rfl, Below.refl _ _, hb0, hide H0⟩
  case round =>
    obtain ⟨a, ha, rfl, HB, hbw, HH⟩ := hrel
    clear H0
    by_cases hlt : a < s.size
    · have hd := drop_at s a hlt
      by_cases h255 : s[a] = 255
      · have P1 : (s[a].toNat : Int) = 255 := by rw [h255]; rfl
        have F := hide (show R.1 = 0 ∧ OwnO wr base u0 (optsOf R.2) by
          obtain ⟨S2, k1, _, k3⟩ := HH.out
          rw [hd, h255, readA_end] at k3
          rw [← k3]; exact ⟨rfl, k1⟩)
        clear hd h255 HH
        go_wp2
        go_ret2
        exact ⟨HB, _, congrArg Ending.returned (tup2 rfl (by rw [HR.out, F.out.1]; rfl)), fun _ => by rw [HR.out]; exact F.out.2⟩
      · have P1 : ¬ (s[a].toNat : Int) = 255 := byte_ne h255
        by_cases h0 : s[a] = 0
        · have P2 : (s[a].toNat : Int) = 0 := by rw [h0]; rfl
          have F := hide (show ∃ S2, OwnO wr base u0 (optsOf S2) ∧ GInv S2 ∧ readA ((lb s).drop (a + 1)) S2 = R by
            obtain ⟨S2, k1, k2, k3⟩ := HH.out
            rw [hd, h0, readA_pad] at k3
            exact ⟨S2, k1, k2, k3⟩)
          clear hd h255 HH h0
          go_wp2
          refine ⟨⟨a + 1, hlt, by go_num, HB, hbw, F⟩, ?_⟩
          simp [intOf]; omega
        · have P2 : ¬ (s[a].toNat : Int) = 0 := byte_ne h0
          have HD := hide hd
          have N0 := hide h0
          have N255 := hide h255
          clear hd h0 h255
          by_cases h1 : a + 1 < s.size
          · have hd1 := drop_at s (a + 1) h1
            have kle := s[a + 1].toNat_lt
            have W1 : wrap64 (s[a + 1].toNat : Int) = (s[a + 1].toNat : Int) := IntWalk.wrap64_in _ ⟨by omega, by omega⟩
            by_cases h2 : s.size - (a + 2) < s[a + 1].toNat
            · have F := hide (show R.1 = 3 by
                obtain ⟨S2, k1, k2, k3⟩ := HH.out
                rw [← k3, HD.out, hd1, readA_short N255.out N0.out (by rw [List.length_drop, lb_len]; exact h2)])
              have Q1 : ¬ (s.size : Int) ≤ (a : Int) + 1 := by omega
              have Q2 : (s.size : Int) - (a : Int) - 2 < (s[a + 1].toNat : Int) := by omega
              clear HH hd1
              go_wp2
              go_ret2
              exact ⟨HB, _, congrArg Ending.returned (tup2 rfl (by rw [HR.out, F.out]; rfl)), fun h => by rw [HR.out, F.out] at h; cases h⟩
            · have Q1 : ¬ (s.size : Int) ≤ (a : Int) + 1 := by omega
              have Q2 : ¬ (s.size : Int) - (a : Int) - 2 < (s[a + 1].toNat : Int) := by omega
              have W2 : wrap64 ((a : Int) + 2 + (s[a + 1].toNat : Int)) = (a : Int) + 2 + (s[a + 1].toNat : Int) := IntWalk.wrap64_in _ ⟨by omega, by omega⟩
              have S1 : (a : Int) + 2 + (s[a + 1].toNat : Int) ≤ (s.size : Int) := by omega
              have S2 : (0 : Int) ≤ (a : Int) + 2 + (s[a + 1].toNat : Int) := by omega
              have S3 : (a : Int) + 2 ≤ (a : Int) + 2 + (s[a + 1].toNat : Int) := by omega
              have S4 : ((a : Int) + 2 + (s[a + 1].toNat : Int)).toNat = a + 2 + s[a + 1].toNat := by omega
              have S5 : (0 : Int) ≤ (a : Int) + 2 := by omega
              have S6 : ((a : Int) + 2).toNat = a + 2 := by omega
              have RD := hide (show ∃ S2, OwnO wr base u0 (optsOf S2) ∧ GInv S2 ∧ readA (s[a] :: s[a + 1] :: (lb s).drop (a + 2)) S2 = R by
                obtain ⟨S2, k1, k2, k3⟩ := HH.out
                exact ⟨S2, k1, k2, by rw [← k3, HD.out, hd1]⟩)
              clear HH hd1
              have M1 : min (a + 2 + s[a + 1].toNat) s.size - (a + 2) = s[a + 1].toNat := by omega
              have LP := hide (show lb (s.extract (a + 2) (a + 2 + s[a + 1].toNat)) = ((lb s).drop (a + 2)).take s[a + 1].toNat from sub_list s (a + 2) s[a + 1].toNat)
              have LS := hide (show (s.extract (a + 2) (a + 2 + s[a + 1].toNat)).size = s[a + 1].toNat by rw [ByteArray.size_extract]; omega)
              have HNL := hide (show ¬ ((lb s).drop (a + 2)).length < s[a + 1].toNat by rw [List.length_drop, lb_len]; exact h2)
              have HDR := hide (show ((lb s).drop (a + 2)).drop s[a + 1].toNat = (lb s).drop (a + 2 + s[a + 1].toNat) by rw [List.drop_drop])
              have hnx : a + 2 + s[a + 1].toNat ≤ s.size := by omega
              obtain ⟨S2, k1, k2, k3⟩ := RD.out
              have K1 := hide k1
              have K2 := hide k2
              have K3 := hide k3
              have S128 := hide (show (optsOf S2).length = S2.length by unfold optsOf; rw [List.length_map])
              have L128 : (optsOf S2).length ≤ 128 := by rw [S128.out]; exact k2.1
              have PLC := place_any s[a] (l := optsOf S2) (by omega) wr (ownO_lst k1)
              obtain ⟨p0, c0, rfl, _, _⟩ := lenO k1
              rcases find_gs (c := s[a]) k2.2.1 with ⟨f1, f2⟩ | ⟨j, d, f1, f2, f3⟩
              · rw [f1] at PLC
                have PL := hide PLC
                have F2 := hide f2
                clear RD k1 k2 k3 f1 f2 PLC
                go_wp2_with fail
                refine PL.out.mono ?_
                rintro e w2 ⟨rfl, hb2⟩
                have HB2 := hide (HB.trans (hb2.mono hbw))
                have HO2 := hide (own_keep K1.out hb2)
                have hbw2 := Nat.le_trans hbw hb2.size
                clear hb2
                by_cases h128 : 128 ≤ (optsOf S2).length
                · have F := hide (show R.1 = 6 by
                    rw [← K3.out, readA_long N255.out N0.out HNL.out (by
                      unfold addG
                      rw [if_pos (Or.inr ⟨F2.out, by have := S128.out; omega⟩)])])
                  have Q5 : (128 : Int) ≤ ((optsOf S2).length : Int) := by omega
                  go_wp2
                  go_ret2
                  exact ⟨HB2.out, _, congrArg Ending.returned (tup2 rfl (by rw [HR.out, F.out]; rfl)), fun h => by rw [HR.out, F.out] at h; cases h⟩
                · have AE := hide (show addG S2 s[a] (((lb s).drop (a + 2)).take s[a + 1].toNat) = some (S2 ++ [(s[a], lb (s.extract (a + 2) (a + 2 + s[a + 1].toNat)))]) by
                    rw [LP.out]
                    unfold addG gold
                    rw [F2.out, if_neg, gput_new F2.out]
                    rintro (h | h)
                    · rw [← LP.out, lb_len, LS.out] at h; simp at h; omega
                    · have := S128.out; omega)
                  have F := hide (show ∀ w9 v9, OwnO w9 base v9 (optsOf S2 ++ [(s[a], s.extract (a + 2) (a + 2 + s[a + 1].toNat))]) → ∃ S3, OwnO w9 base v9 (optsOf S3) ∧ GInv S3 ∧ readA ((lb s).drop (a + 2 + s[a + 1].toNat)) S3 = R from fun w9 v9 ho => by
                    refine ⟨_, ?_, ginv_add K2.out N0.out N255.out AE.out, ?_⟩
                    · unfold optsOf at ho ⊢
                      rw [List.map_append, List.map_cons, List.map_nil, bs_lb]
                      exact ho
                    · rw [← K3.out, readA_add N255.out N0.out HNL.out AE.out, HDR.out])
                  have Q5 : ¬ (128 : Int) ≤ ((optsOf S2).length : Int) := by omega
                  go_wp2_with (at_builtin; refine wpList_append_oneO rfl (.tmp 70) (.tmp 74) rfl base _ (optsOf S2) rfl (own_keep HO2.out (below_alloc _ _)) w2.heap.size 1 ((s[a], s.extract (a + 2) (a + 2 + s[a + 1].toNat)) : Opt) rfl own_two (by omega) (Nat.le_trans hbw2 (below_alloc _ _).size) ?_; intro g3 c3 w3 q1 q2 q3 q4)
                  refine ⟨⟨a + 2 + s[a + 1].toNat, hnx, int_eq (by omega), HB2.out.trans (((below_alloc _ _).mono hbw2).trans q2), Nat.le_trans hbw2 (Nat.le_trans (below_alloc _ _).size q2.size), hide (F.out w3 _ q1)⟩, ?_⟩
                  simp [intOf]; omega
              · rw [f1] at PLC
                have PL := hide PLC
                have F2 := hide f2
                have F3 := hide f3
                clear RD k1 k2 k3 f1 f2 f3 PLC
                have DL := hide (show d.length ≤ 4096 from (K2.out.2.2 _ (List.mem_of_getElem? F2.out)).2.2)
                have hj : j < (optsOf S2).length := by rw [S128.out]; exact (List.getElem?_eq_some_iff.1 F2.out).1
                obtain ⟨gc, cc, e, _, _⟩ := K1.out.form (by omega)
                have e1 : p0 = some ⟨gc, 0, none⟩ := by injection e
                subst e1
                clear e
                go_wp2_with fail
                refine PL.out.mono ?_
                rintro e w2 ⟨rfl, hb2⟩
                have HB2 := hide (HB.trans (hb2.mono hbw))
                have HO2 := hide (own_keep K1.out hb2)
                have hbw2 := Nat.le_trans hbw hb2.size
                clear hb2
                obtain ⟨dbx, DB⟩ : ∃ dbx, Hid (bs d = dbx) := ⟨_, hide rfl⟩
                have dsz : dbx.size = d.length := by rw [← DB.out, bs_size]
                have hat := optsOf_at F2.out
                rw [DB.out] at hat
                have HAT := hide hat
                have e1 : w2.cell? ⟨gc, j * 2 + 1, none⟩ = some (.string dbx) := (HO2.out.cellAt (j * 2 + 1) (by omega)).trans (cellsO_at hat).2
                have e2 : w2.frozen? ⟨gc, j * 2 + 1, none⟩ = false := HO2.out.frozenAt _
                have JN : ¬ (j : Int) < 0 := by omega
                have JL : (j : Int) < ((optsOf S2).length : Int) := by omega
                have DSZ := hide dsz
                have dle : dbx.size ≤ 4096 := by have := DL.out; omega
                clear hat dsz
                by_cases h4 : 4096 < dbx.size + s[a + 1].toNat
                · have F := hide (show R.1 = 6 by
                    rw [← K3.out, readA_long N255.out N0.out HNL.out (by
                      unfold addG gold
                      rw [F3.out, if_pos]
                      left
                      rw [← LP.out, lb_len, LS.out]
                      have := DSZ.out
                      simp only [Option.getD_some]
                      omega)])
                  have Q5 : (4096 : Int) < (dbx.size : Int) + (s[a + 1].toNat : Int) := by omega
                  go_wp2
                  go_ret2
                  exact ⟨HB2.out, _, congrArg Ending.returned (tup2 rfl (by rw [HR.out, F.out]; rfl)), fun h => by rw [HR.out, F.out] at h; cases h⟩
                · have AE := hide (show addG S2 s[a] (((lb s).drop (a + 2)).take s[a + 1].toNat) = some (S2.set j (s[a], d ++ lb (s.extract (a + 2) (a + 2 + s[a + 1].toNat)))) by
                    rw [LP.out]
                    unfold addG gold
                    rw [F3.out, if_neg, gput_set K2.out.2.1 F2.out]
                    rintro (h | h)
                    · rw [← LP.out, lb_len, LS.out] at h
                      have := DSZ.out
                      simp only [Option.getD_some] at h
                      omega
                    · cases h.1)
                  have Q5 : ¬ (4096 : Int) < (dbx.size : Int) + (s[a + 1].toNat : Int) := by omega
                  have Q6 : ¬ 9223372036854775807 < dbx.size + s[a + 1].toNat := by omega
                  have HST := (HO2.out.stored (j * 2 + 1) (.string (dbx ++ s.extract (a + 2) (a + 2 + s[a + 1].toNat)))).1
                  rw [cells_data HAT.out] at HST
                  have lg := (HO2.out.lt gc rfl).1
                  have F := hide (show ∃ S3, OwnO (w2.setCell ⟨gc, j * 2 + 1, none⟩ (.string (dbx ++ s.extract (a + 2) (a + 2 + s[a + 1].toNat)))) base (.slice (some ⟨gc, 0, none⟩) (optsOf S2).length c0) (optsOf S3) ∧ GInv S3 ∧ readA ((lb s).drop (a + 2 + s[a + 1].toNat)) S3 = R from by
                    refine ⟨_, ?_, ginv_add K2.out N0.out N255.out AE.out, ?_⟩
                    · rw [optsOf_set, bs_app, bs_lb, DB.out]
                      unfold OwnO
                      rw [List.length_set]
                      exact HST
                    · rw [← K3.out, readA_add N255.out N0.out HNL.out AE.out, HDR.out])
                  clear HST
                  go_wp2
                  refine ⟨⟨a + 2 + s[a + 1].toNat, hnx, int_eq (by omega), HB2.out.setCell lg _, by simpa using hbw2, F⟩, ?_⟩
                  simp [intOf]; omega
          · have F := hide (show R.1 = 3 by
              obtain ⟨S2, k1, k2, k3⟩ := HH.out
              rw [← k3, HD.out, List.drop_of_length_le (by rw [lb_len]; omega), readA_cut N255.out N0.out])
            have Q1 : (s.size : Int) ≤ (a : Int) + 1 := by omega
            clear HH
            go_wp2
            go_ret2
            exact ⟨HB, _, congrArg Ending.returned (tup2 rfl (by rw [HR.out, F.out]; rfl)), fun h => by rw [HR.out, F.out] at h; cases h⟩
    · have F := hide (show R.1 = 0 ∧ OwnO wr base u0 (optsOf R.2) by
        obtain ⟨S2, k1, _, k3⟩ := HH.out
        rw [List.drop_of_length_le (by rw [lb_len]; omega), readA_nil] at k3
        rw [← k3]; exact ⟨rfl, k1⟩)
      clear HH
      go_wp2
      go_ret2
      exact ⟨HB, _, congrArg Ending.returned (tup2 rfl (by rw [HR.out, F.out.1]; rfl)), fun _ => by rw [HR.out]; exact F.out.2⟩
end Go.Proofs.Ytmoklodaeicpgaa
