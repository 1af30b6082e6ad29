/-
  The walk of the law Opt4Back: it returns true. Condition: a text has at most 2^47 bytes.
-/
import Derived.Test.YtmidnkfgbdiamaaOpV
namespace Go.Proofs.Ytmidnkfgbdiamaa
open Go.RowKit Go.Joins Go.Maps

theorem lb_app (a b : ByteArray) : lb (a ++ b) = lb a ++ lb b := by
  show (a ++ b).data.toList = a.data.toList ++ b.data.toList
  rw [ByteArray.data_append, Array.toList_append]
theorem emitS_len {l : List Opt} (h : emitE l = 0) : (emitS l).length ≤ 1048833 := by
  obtain ⟨h1, h2⟩ := emitE_zero h
  have h3 := emitOk_iff.1 h2
  have h4 := emitB_len l (fun x hx => by
    obtain ⟨k, hk, rfl⟩ := List.getElem_of_mem hx
    have := (h3 k _ (List.getElem?_eq_getElem hk)).1
    unfold soundO at this
    rw [decide_eq_true_eq] at this
    exact this.2.2)
  unfold emitS
  rw [if_pos h, List.length_append]
  simp only [List.length_cons, List.length_nil]
  omega
/-- Parse of two areas, in new memory -/
theorem parse_two (W V : World) (a b : ByteArray) (hV : V = W.alloc (.cells #[.string a, .string b] 9)) (ha : a.size ≤ 1152921504606846976) (hb : b.size ≤ 1152921504606846976) :
    Calls Try.prog 9 #[.slice (some ⟨W.heap.size, 0, none⟩) 2 2] V (ParseG [a, b] V) := by
  have hl := lstS_two W a b 9
  rw [← hV] at hl
  exact parse_any (ar := [a, b]) (by simp) (fun s hs => by
    have e : s = a ∨ s = b := by simpa using hs
    rcases e with e | e <;> rw [e] <;> assumption) V hl
theorem lstS_one (W : World) (a : ByteArray) (t : TypeId) : LstS (.slice (some ⟨W.heap.size, 0, none⟩) 1 1) [a] (W.alloc (.cells #[.string a] t)) := by
  refine Or.inr ⟨W.heap.size, 0, 1, rfl, by simp, fun j s hj => ?_⟩
  match j, hj with
  | 0, hj => simp at hj; subst hj; simp [go_sem]
  | j + 1, hj => simp at hj
theorem parse_one (W V : World) (a : ByteArray) (hV : V = W.alloc (.cells #[.string a] 9)) (ha : a.size ≤ 1152921504606846976) :
    Calls Try.prog 9 #[.slice (some ⟨W.heap.size, 0, none⟩) 1 1] V (ParseG [a] V) := by
  have hl := lstS_one W a 9
  rw [← hV] at hl
  exact parse_any (ar := [a]) (by simp) (fun s hs => by
    have e : s = a := by simpa using hs
    rw [e]; exact ha) V hl
/-- what Parse answers: its list is sound, or there is none -/
theorem parse_ok {ar : List (List UInt8)} (h : parseE ar = 0) : emitE (parseO ar) = 0 ∧ (parseO ar).length ≤ 128 := by
  have g := ginv_parse ar [] ginv_nil
  unfold parseO
  rw [if_pos h]
  exact ⟨emit_ginv g, by unfold optsOf; rw [List.length_map]; exact g.1⟩
theorem parse_bad {ar : List (List UInt8)} (h : parseE ar ≠ 0) : parseO ar = [] := by unfold parseO; rw [if_neg h]
theorem back_two {l : List Opt} (h : emitE l = 0) (a b c : ByteArray) (ha : lb a = 0 :: 0 :: (emitS l ++ lb c)) (hb : lb b = []) : parseE ([a, b].map lb) = 0 ∧ parseO ([a, b].map lb) = l := by
  have e := parse_emit h (lb c)
  have e2 : [a, b].map lb = [0 :: 0 :: (emitS l ++ lb c), []] := by simp [ha, hb]
  unfold parseO parseE
  rw [e2, e, if_pos rfl]
  exact ⟨rfl, opts_gs l⟩
theorem back_one {l : List Opt} (h : emitE l = 0) : parseE ([bs (emitS l)].map lb) = 0 ∧ parseO ([bs (emitS l)].map lb) = l := by
  have e := parse_emit1 h
  have e2 : [bs (emitS l)].map lb = [emitS l] := by rw [List.map_cons, lb_bs]; rfl
  unfold parseO parseE
  rw [e2, e, if_pos rfl]
  exact ⟨rfl, opts_gs l⟩
set_option maxRecDepth 100000 in
set_option maxHeartbeats 2000000 in
theorem back_any {v0 v1 : Value} {l : List Opt} {ar : List ByteArray} (bh : ByteArray) (hl : l.length ≤ 9223372036854775807) (har : ar.length ≤ 9223372036854775807) (hs : ∀ s ∈ ar, s.size ≤ 140737488351232) (hb : bh.size ≤ 140737488351232) (w : World) (h0 : LstO v0 l w) (h1 : LstS v1 ar w) :
    Calls Try.prog 5 #[v0, v1, .string bh] w (Gives (.bool true) w) := by
  have H0 := hide (fun W (H : Below w.heap.size w W) => h0.step H)
  have H1 := hide (fun W (H : Below w.heap.size w W) => h1.step H)
  have PA := hide (fun W (H : Below w.heap.size w W) => parse_any har (fun s hs2 => Nat.le_trans (hs s hs2) (by omega)) W (h1.step H))
  have EM := hide (fun W (H : Below w.heap.size w W) => emit_any hl W (h0.step H))
  clear h0 h1 hs
  by_cases he : emitE l = 0
  · have EL := emitS_len he
    have HE := hide he
    have l128 := (emitE_zero he).1
    obtain ⟨sE, SE⟩ : ∃ sE, Hid (bs (emitS l) = sE) := ⟨_, hide rfl⟩
    have sz : sE.size ≤ 1048833 := by rw [← SE.out, bs_size]; exact EL
    have N1 : ¬ 9223372036854775807 < 2 + sE.size := by omega
    have N2 : ¬ 9223372036854775807 < 2 + sE.size + bh.size := by omega
    clear he EL
    go_enter Try.func5, Try.ntmps5
    go_wp2_with fail
    refine (awake_any w).mono ?_
    rintro e w1 ⟨rfl, hb1⟩
    have B1 := hide hb1
    clear hb1
    go_wp2_with fail
    refine (EM.out w1 B1.out).mono ?_
    rintro e w2 ⟨rfl, hb2⟩
    have B2 := hide (chain B1.out hb2)
    rw [SE.out, HE.out]
    clear hb2
    go_wp2_with fail
    refine (parse_two w2 _ ({ data := #[0, 0] } ++ sE ++ bh) ByteArray.empty rfl (by rw [ByteArray.size_append, ByteArray.size_append]; show 2 + sE.size + bh.size ≤ _; omega) (by show 0 ≤ _; omega)).mono ?_
    rintro e w3 ⟨v3, rfl, hb3, ho3⟩
    obtain ⟨k1, k2⟩ := back_two HE.out ({ data := #[0, 0] } ++ sE ++ bh) ByteArray.empty bh (by rw [lb_app, lb_app, ← SE.out, lb_bs]; rfl) rfl
    rw [k2] at ho3
    rw [k1]
    have hb3c := chain (below_alloc w2 (.cells #[.string ({ data := #[0, 0] } ++ sE ++ bh), .string ByteArray.empty] 9)) hb3
    have B3 := hide (chain B2.out hb3c)
    have SA := hide (same_any (l := l) (m := l) (by omega) w3 (ownO_lst ho3) (H0.out w3 B3.out))
    rw [decide_eq_true rfl] at SA
    clear hb3 ho3 k1 k2 hb3c
    generalize ({ data := #[0, 0] } ++ sE ++ bh : ByteArray) = cat at *
    go_wp2_with fail
    refine SA.out.mono ?_
    rintro e w4 ⟨rfl, hb4⟩
    have B4 := hide (chain B3.out hb4)
    clear hb4 SA
    go_wp2_with fail
    refine (PA.out w4 B4.out).mono ?_
    rintro e w5 ⟨v5, rfl, hb5, ho5⟩
    have B5 := hide (chain (B4.out) hb5)
    by_cases hp : parseE (ar.map lb) = 0
    · have OKP := parse_ok hp
      have HO5 := ownO_lst ho5
      rw [hp]
      clear hb5 ho5 hp
      generalize parseO (ar.map lb) = m at *
      have HO6 := hide HO5
      have OK1 := hide OKP.1
      have EM2 := hide (emit_any (l := m) (by omega) w5 HO5)
      have m128 := OKP.2
      clear HO5 OKP
      go_wp2_with fail
      refine EM2.out.mono ?_
      rintro e w6 ⟨rfl, hb6⟩
      have B6 := hide (chain B5.out hb6)
      have HO7 := hide (HO6.out.step hb6)
      rw [OK1.out]
      obtain ⟨sM, SM⟩ : ∃ sM, Hid (bs (emitS m) = sM) := ⟨_, hide rfl⟩
      have PO := hide (parse_one w6 _ sM rfl (by have := emitS_len OK1.out; rw [← SM.out, bs_size]; omega))
      have BO := hide (back_one OK1.out)
      rw [SM.out] at BO
      rw [SM.out]
      clear hb6
      go_wp2_with fail
      refine PO.out.mono ?_
      rintro e w7 ⟨v7, rfl, hb7, ho7⟩
      rw [BO.out.2] at ho7
      rw [BO.out.1]
      have hb7c := chain (below_alloc w6 (.cells #[.string sM] 9)) hb7
      have B7 := hide (chain B6.out hb7c)
      have SA := hide (same_any (l := m) (m := m) (by omega) w7 (HO7.out.step hb7c) (ownO_lst ho7))
      rw [decide_eq_true rfl] at SA
      clear hb7 ho7 hb7c
      go_wp2_with fail
      refine SA.out.mono ?_
      rintro e w8 ⟨rfl, hb8⟩
      have B8 := hide (chain B7.out hb8)
      clear hb8
      go_wp2
      go_ret
      exact ⟨rfl, B8.out⟩
    · have NB : ¬ ((parseE (ar.map lb) : Nat) : Int) = 0 := by omega
      rw [parse_bad hp] at ho5
      obtain ⟨p5, c5, rfl⟩ := lstO_len (ownO_lst ho5)
      generalize parseE (ar.map lb) = n at *
      clear hb5 ho5 hp
      go_wp2
      go_ret
      exact ⟨rfl, B5.out⟩
  · have HE := hide (show emitS l = [] by unfold emitS; rw [if_neg he])
    have NE : ¬ ((emitE l : Nat) : Int) = 0 := by omega
    clear he
    go_enter Try.func5, Try.ntmps5
    go_wp2_with fail
    refine (awake_any w).mono ?_
    rintro e w1 ⟨rfl, hb1⟩
    have B1 := hide hb1
    clear hb1
    go_wp2_with fail
    refine (EM.out w1 B1.out).mono ?_
    rintro e w2 ⟨rfl, hb2⟩
    have B2 := hide (chain B1.out hb2)
    rw [HE.out]
    generalize emitE l = n at *
    clear hb2
    go_wp2_with fail
    refine (PA.out w2 B2.out).mono ?_
    rintro e w5 ⟨v5, rfl, hb5, ho5⟩
    have B5 := hide (chain (B2.out) hb5)
    by_cases hp : parseE (ar.map lb) = 0
    · have OKP := parse_ok hp
      have HO5 := ownO_lst ho5
      rw [hp]
      clear hb5 ho5 hp
      generalize parseO (ar.map lb) = m at *
      have HO6 := hide HO5
      have OK1 := hide OKP.1
      have EM2 := hide (emit_any (l := m) (by omega) w5 HO5)
      have m128 := OKP.2
      clear HO5 OKP
      go_wp2_with fail
      refine EM2.out.mono ?_
      rintro e w6 ⟨rfl, hb6⟩
      have B6 := hide (chain B5.out hb6)
      have HO7 := hide (HO6.out.step hb6)
      rw [OK1.out]
      obtain ⟨sM, SM⟩ : ∃ sM, Hid (bs (emitS m) = sM) := ⟨_, hide rfl⟩
      have PO := hide (parse_one w6 _ sM rfl (by have := emitS_len OK1.out; rw [← SM.out, bs_size]; omega))
      have BO := hide (back_one OK1.out)
      rw [SM.out] at BO
      rw [SM.out]
      clear hb6
      go_wp2_with fail
      refine PO.out.mono ?_
      rintro e w7 ⟨v7, rfl, hb7, ho7⟩
      rw [BO.out.2] at ho7
      rw [BO.out.1]
      have hb7c := chain (below_alloc w6 (.cells #[.string sM] 9)) hb7
      have B7 := hide (chain B6.out hb7c)
      have SA := hide (same_any (l := m) (m := m) (by omega) w7 (HO7.out.step hb7c) (ownO_lst ho7))
      rw [decide_eq_true rfl] at SA
      clear hb7 ho7 hb7c
      go_wp2_with fail
      refine SA.out.mono ?_
      rintro e w8 ⟨rfl, hb8⟩
      have B8 := hide (chain B7.out hb8)
      clear hb8
      go_wp2
      go_ret
      exact ⟨rfl, B8.out⟩
    · have NB : ¬ ((parseE (ar.map lb) : Nat) : Int) = 0 := by omega
      rw [parse_bad hp] at ho5
      obtain ⟨p5, c5, rfl⟩ := lstO_len (ownO_lst ho5)
      generalize parseE (ar.map lb) = n at *
      clear hb5 ho5 hp
      go_wp2
      go_ret
      exact ⟨rfl, B5.out⟩
end Go.Proofs.Ytmidnkfgbdiamaa
