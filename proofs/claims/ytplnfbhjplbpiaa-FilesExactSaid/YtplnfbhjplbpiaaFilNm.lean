/-
  FilesNames: what its calls answer, and its walk. Condition: a string is no longer than an int (every string is such).
-/
import Derived.Test.YtplnfbhjplbpiaaFilK
namespace Go.Proofs.Ytplnfbhjplbpiaa
open Go.RowKit Go.Maps

abbrev tTail : Nm := [116, 97, 105, 108]
abbrev tOther : Nm := [111, 116, 104, 101, 114]
def dk1 (x data : Nm) (safe steps : Nat) (down : Bool) : Dk := ⟨[⟨x, data, safe⟩], down, -1, 0, steps⟩
theorem find1 (x data : Nm) (safe : Nat) : find [⟨x, data, safe⟩] x = some ⟨x, data, safe⟩ := by rw [find_cons, if_pos rfl]
theorem find1_other {x y : Nm} (h : x ≠ y) (data : Nm) (safe : Nat) : find [⟨x, data, safe⟩] y = none := by rw [find_cons, if_neg h]; rfl
theorem put1 (x data data2 : Nm) (safe safe2 : Nat) : putF ⟨x, data2, safe2⟩ [⟨x, data, safe⟩] = [⟨x, data2, safe2⟩] := by
  show (if x < x then _ else if x = x then _ else _) = _
  rw [if_neg (nm_irr x), if_pos rfl]
theorem goD_1 {a b : Dk} (h : a.left = -1) : goD a b = (0, tick b) := goD_go (by omega)
theorem nE1 {x data : Nm} (h : nameB x = true) (hd : data.length ≤ 1048576) : appendD newD x data = (0, dk1 x data 0 1 false) := by
  unfold appendD
  rw [h]
  show (if 16 ≤ ([] : List Fl).length ∨ 1048576 < data.length then _ else _) = _
  rw [if_neg (by simp; omega), goD_1 rfl]
  rfl
theorem nE1b {x data : Nm} (h : nameB x = false) {s : Dk} (hs : s.down = false) : appendD s x data = (61, s) := by
  unfold appendD
  rw [h, hs]; rfl
theorem nE2 {x data : Nm} (h : nameB x = true) (n k : Nat) : syncD (dk1 x data k n false) x = (0, dk1 x data data.length (n + 1) false) := by
  unfold syncD
  rw [h]
  show (match find [⟨x, data, k⟩] x with | none => _ | some f => _) = _
  rw [find1]
  show goD _ _ = _
  rw [goD_1 rfl]
  show (0, tick { (dk1 x data k n false) with fs := putF ⟨x, data, data.length⟩ [⟨x, data, k⟩] }) = _
  rw [put1]; rfl
theorem nE3 {x data t : Nm} (h : nameB x = true) (n k : Nat) (hd : data.length + t.length ≤ 1048576) : appendD (dk1 x data k n false) x t = (0, dk1 x (data ++ t) k (n + 1) false) := by
  unfold appendD
  rw [h]
  show (match find [⟨x, data, k⟩] x with | none => _ | some f => _) = _
  rw [find1]
  show (if 1048576 < data.length + t.length then _ else _) = _
  rw [if_neg (by omega)]
  show goD _ _ = _
  rw [goD_1 rfl]
  show (0, tick { (dk1 x data k n false) with fs := putF ⟨x, data ++ t, k⟩ [⟨x, data, k⟩] }) = _
  rw [put1]; rfl
theorem bytes_app (x y : List UInt8) : (({ data := x.toArray } : ByteArray) ++ { data := y.toArray }) = { data := (x ++ y).toArray } := by
  apply ByteArray.ext
  simp
def two4 (a b data : Nm) : Dk := ⟨if a = b then [⟨a, (data ++ tTail) ++ tOther, data.length⟩] else putF ⟨b, tOther, 0⟩ [⟨a, data ++ tTail, data.length⟩], false, -1, 0, 4⟩
def want (a b data : Nm) : Nm := if a = b then (data ++ tTail) ++ tOther else data ++ tTail
theorem nE4 {a b data : Nm} (h : nameB b = true) (hd : data.length ≤ 65536) : appendD (dk1 a (data ++ tTail) data.length 3 false) b tOther = (0, two4 a b data) := by
  by_cases e : a = b
  · subst e
    rw [nE3 h 3 _ (by simp; omega)]
    unfold two4
    rw [if_pos rfl]; rfl
  · unfold appendD
    rw [h]
    show (match find [⟨a, data ++ tTail, data.length⟩] b with | none => _ | some f => _) = _
    rw [find1_other e]
    refine (if_neg (show ¬ (16 ≤ 1 ∨ 1048576 < 5) by omega)).trans ?_
    rw [goD_1 rfl]
    unfold two4
    rw [if_neg e]; rfl
theorem nE5 {a b data : Nm} (ha : nameB a = true) (h : nameB b = true) : renameD (two4 a b data) a b = (0, dk1 b (want a b data) data.length 5 false) := by
  unfold renameD
  rw [ha, h]
  by_cases e : a = b
  · subst e
    have e1 : (two4 a a data).fs = [⟨a, (data ++ tTail) ++ tOther, data.length⟩] := by unfold two4; rw [if_pos rfl]
    show (match find (two4 a a data).fs a with | none => _ | some f => goD _ { (two4 a a data) with fs := putF ⟨a, f.data, f.safe⟩ (delF a (two4 a a data).fs) }) = _
    rw [e1, find1]
    show goD _ _ = _
    rw [goD_1 rfl]
    unfold want
    rw [if_pos rfl]
    simp [delF, putF, tick, dk1, two4]
  · have e1 : (two4 a b data).fs = putF ⟨b, tOther, 0⟩ [⟨a, data ++ tTail, data.length⟩] := by unfold two4; rw [if_neg e]
    have s1 : Srt [(⟨a, data ++ tTail, data.length⟩ : Fl)] := List.pairwise_singleton _ _
    show (match find (two4 a b data).fs a with | none => _ | some f => goD _ { (two4 a b data) with fs := putF ⟨b, f.data, f.safe⟩ (delF a (two4 a b data).fs) }) = _
    rw [e1, find_put s1, if_neg (fun e2 => e e2.symm), find1]
    show goD _ _ = _
    rw [goD_1 rfl]
    unfold want
    rw [if_neg e]
    have e2 : delF a (putF ⟨b, tOther, 0⟩ [⟨a, data ++ tTail, data.length⟩]) = [⟨b, tOther, 0⟩] := by
      refine srt_ext (srt_del (srt_put s1)) (List.pairwise_singleton _ _) (fun y => ?_)
      rw [find_del, find_put s1, find_cons, find_cons]
      by_cases hy : y = a
      · subst hy; rw [if_pos rfl, if_neg (fun e2 => e e2.symm)]; rfl
      · rw [if_neg hy]
        by_cases hb : b = y
        · rw [if_pos hb, if_pos hb]
        · rw [if_neg hb, if_neg hb, if_neg (fun e2 => hy e2.symm)]
    show (0, tick { (two4 a b data) with fs := putF ⟨b, data ++ tTail, data.length⟩ (delF a (putF ⟨b, tOther, 0⟩ [⟨a, data ++ tTail, data.length⟩])) }) = _
    rw [e2, put1]
    rfl
theorem want_take (a b data : Nm) : (want a b data).take data.length = data := by
  unfold want
  split
  · rw [List.append_assoc, List.take_left]
  · rw [List.take_left]
theorem nE6 (x data : Nm) (k n : Nat) (down : Bool) : safeD (dk1 x data k n down) x = k := by
  unfold safeD
  show (match find [⟨x, data, k⟩] x with | none => 0 | some f => f.safe) = k
  rw [find1]
theorem nE7 {x : Nm} (h : nameB x = true) (data : Nm) (k n : Nat) : readD (dk1 x data k n false) x = (data, 0) := by
  unfold readD
  rw [h]
  show (match find [⟨x, data, k⟩] x with | none => _ | some f => _) = _
  rw [find1]
theorem nE8 (x data : Nm) (k n : Nat) : offC (dk1 x data k n false) 0 = dk1 x (data.take k) k n true := rfl
theorem nE9 (x data : Nm) (k n : Nat) : onD (dk1 x data k n true) = dk1 x data k n false := rfl
def dk0 (n : Nat) (down : Bool) : Dk := ⟨[], down, -1, 0, n⟩
theorem nE10 {x : Nm} (h : nameB x = true) (data : Nm) (k n : Nat) : deleteD (dk1 x data k n false) x = (0, dk0 (n + 1) false) := by
  unfold deleteD
  rw [h]
  show (match find [⟨x, data, k⟩] x with | none => _ | some f => _) = _
  rw [find1]
  show goD _ _ = _
  rw [goD_1 rfl]
  simp [delF, dk1, tick, dk0]
theorem nE11 {x : Nm} (h : nameB x = true) (n : Nat) : deleteD (dk0 n false) x = (62, dk0 n false) := by unfold deleteD; rw [h]; rfl
theorem nE12 (n : Nat) : offC (dk0 n false) 9 = dk0 n true := rfl
theorem nE13 (n : Nat) : onD (dk0 n true) = dk0 n false := rfl
theorem nE14 {x : Nm} (h : nameB x = true) (n : Nat) : readD (dk0 n false) x = ([], 62) := by unfold readD; rw [h]; rfl
theorem nE15 {a b data : Nm} (h : nameB b = false) (k n : Nat) : renameD (dk1 a data k n false) a b = (61, dk1 a data k n false) := by
  unfold renameD
  rw [h, Bool.and_false]; rfl
set_option maxRecDepth 100000 in
set_option maxHeartbeats 1000000 in
theorem fnames_bad (HN : NamesOk) {a b data : Nm} (ha : a.length ≤ maxLen) (hd : data.length ≤ 65536) (hna : nameB a = false) (w : World) : Calls Try.prog 6 #[St a, St b, St data] w (Tells w (.bool true)) := by
  have hd2 : ¬ 65536 < (data.length : Int) := by omega
  have hdl : data.length ≤ maxLen := by unfold maxLen; omega
  have HDL := hide hdl
  have HAL := hide ha
  clear hdl ha hd
  go_enter Try.func6, Try.ntmps6
  go_wp2_with fail
  refine (awake_any HN w).mono ?_
  rintro e w1 ⟨rfl, F1⟩
  go_wp2_with fail
  refine (ses_new F1).mono ?_
  rintro e w2 ⟨d, rfl, H2⟩
  go_wp2_with fail
  refine (ses_append H2 (by decide) HAL.out HDL.out (nE1b hna rfl)).mono ?_
  rintro e w3 ⟨rfl, H3⟩
  clear H2
  go_wp2_with fail
  refine (ses_append H3 (by decide) HAL.out HDL.out (nE1b hna rfl)).mono ?_
  rintro e w4 ⟨rfl, H4⟩
  clear H3
  go_wp2_with fail
  refine (ses_names HN H4 rfl).mono ?_
  rintro e w5 ⟨v, rfl, H5, RV⟩
  obtain ⟨p, cap, rfl, _⟩ := RV
  go_wp2
  go_ret
  exact ⟨rfl, H5.fr⟩
set_option maxRecDepth 100000 in
set_option maxHeartbeats 1000000 in
theorem fnames_half (HN : NamesOk) {a b data : Nm} (ha : a.length ≤ maxLen) (hb : b.length ≤ maxLen) (hd : data.length ≤ 65536) (hna : nameB a = true) (hnb : nameB b = false) (w : World) : Calls Try.prog 6 #[St a, St b, St data] w (Tells w (.bool true)) := by
  have hd2 : ¬ 65536 < (data.length : Int) := by omega
  have hdl : data.length ≤ maxLen := by unfold maxLen; omega
  have HDL := hide hdl
  have HAL := hide ha
  have HBL := hide hb
  have HD := hide hd
  clear hdl ha hb hd
  go_enter Try.func6, Try.ntmps6
  go_wp2_with fail
  refine (awake_any HN w).mono ?_
  rintro e w1 ⟨rfl, F1⟩
  go_wp2_with fail
  refine (ses_new F1).mono ?_
  rintro e w2 ⟨d, rfl, H2⟩
  go_wp2_with fail
  refine (ses_append H2 (by decide) HAL.out HDL.out (nE1 hna (by have := HD.out; omega))).mono ?_
  rintro e w3 ⟨rfl, H3⟩
  clear H2
  go_wp2_with fail
  refine (ses_sync H3 (by show 1 < _; omega) HAL.out (nE2 hna _ _)).mono ?_
  rintro e w4 ⟨rfl, H4⟩
  clear H3
  go_wp2_with fail
  refine (ses_append H4 (by show 2 < _; omega) HAL.out (by decide) (nE3 hna _ _ (by have := HD.out; show data.length + 4 ≤ _; omega))).mono ?_
  rintro e w5 ⟨rfl, H5⟩
  clear H4
  go_wp2_with fail
  refine (ses_append H5 (by show 3 < _; omega) HBL.out (by decide) (nE1b hnb rfl)).mono ?_
  rintro e w6 ⟨rfl, H6⟩
  clear H5
  go_wp2_with fail
  refine (ses_rename H6 (by show 3 < _; omega) HAL.out HBL.out (nE15 hnb _ _)).mono ?_
  rintro e w7 ⟨rfl, H7⟩
  clear H6
  go_wp2_with fail
  refine (ses_names HN H7 rfl).mono ?_
  rintro e w8 ⟨v, rfl, H8, RV⟩
  clear H7
  go_wp2_with fail
  refine (ses_same H8 RV (by show 1 < _; omega) (decide_eq_true rfl)).mono ?_
  rintro e w9 ⟨rfl, H9⟩
  go_wp2
  go_ret
  exact ⟨rfl, H9.fr⟩
set_option maxRecDepth 100000 in
set_option maxHeartbeats 2000000 in
theorem fnames_good (HN : NamesOk) {a b data : Nm} (ha : a.length ≤ maxLen) (hb : b.length ≤ maxLen) (hd : data.length ≤ 65536) (hna : nameB a = true) (hnb : nameB b = true) (w : World) : Calls Try.prog 6 #[St a, St b, St data] w (Tells w (.bool true)) := by
  have hd2 : ¬ 65536 < (data.length : Int) := by omega
  have hdl : data.length ≤ maxLen := by unfold maxLen; omega
  have HDL := hide hdl
  have HAL := hide ha
  have HBL := hide hb
  have HD := hide hd
  clear hdl ha hb hd
  have J1 : (({ data := data.toArray } : ByteArray) ++ { data := #[116, 97, 105, 108] }) = { data := (data ++ tTail).toArray } := bytes_app _ _
  have J2 : (({ data := (data ++ tTail).toArray } : ByteArray) ++ { data := #[111, 116, 104, 101, 114] }) = { data := ((data ++ tTail) ++ tOther).toArray } := bytes_app _ _
  obtain ⟨u, hu⟩ : ∃ u, u = data ++ tTail := ⟨_, rfl⟩
  rw [← hu] at J1 J2
  have HU := hide hu
  have hul : u.length ≤ 65540 := by rw [hu, List.length_append]; have := HD.out; show data.length + 4 ≤ _; omega
  obtain ⟨v2, hv2⟩ : ∃ v2, v2 = u ++ tOther := ⟨_, rfl⟩
  rw [← hv2] at J2
  have HV2 := hide hv2
  clear hu hv2
  obtain ⟨ww, WW⟩ : ∃ ww, Hid (ww = want a b data) := ⟨_, hide rfl⟩
  obtain ⟨q, Q1, Q2⟩ : ∃ q : Bool, (a == b) = q ∧ Hid (ww = if q then v2 else u) := by
    refine ⟨a == b, rfl, hide ?_⟩
    rw [WW.out, HV2.out, HU.out]
    unfold want
    by_cases e : a = b
    · rw [if_pos e, if_pos (by simpa using e)]
    · rw [if_neg e, if_neg (by simpa using e)]
  cases q
  all_goals
   simp only [Bool.false_eq_true, if_false, if_true] at Q2
   have EW := Q2.out
   clear Q2
   subst EW
   go_enter Try.func6, Try.ntmps6
   go_wp2_with fail
   refine (awake_any HN w).mono ?_
   rintro e w1 ⟨rfl, F1⟩
   go_wp2_with fail
   refine (ses_new F1).mono ?_
   rintro e w2 ⟨d, rfl, H2⟩
   go_wp2_with fail
   refine (ses_append H2 (by decide) HAL.out HDL.out (nE1 hna (by have := HD.out; omega))).mono ?_
   rintro e w3 ⟨rfl, H3⟩
   clear H2
   go_wp2_with fail
   refine (ses_sync H3 (by show 1 < _; omega) HAL.out (nE2 hna _ _)).mono ?_
   rintro e w4 ⟨rfl, H4⟩
   clear H3
   go_wp2_with fail
   refine (ses_append H4 (by show 2 < _; omega) HAL.out (by decide) (nE3 hna _ _ (by have := HD.out; show data.length + 4 ≤ _; omega))).mono ?_
   rintro e w5 ⟨rfl, H5⟩
   clear H4
   go_wp2_with fail
   refine (ses_append H5 (by show 3 < _; omega) HBL.out (by decide) (nE4 hnb HD.out)).mono ?_
   rintro e w6 ⟨rfl, H6⟩
   clear H5
   go_wp2_with fail
   refine (ses_rename H6 (by show 4 < _; omega) HAL.out HBL.out (nE5 hna hnb)).mono ?_
   rintro e w7 ⟨rfl, H7⟩
   rw [← WW.out] at H7
   clear H6
   go_wp2_with fail
   refine (ses_safe H7 HBL.out (nE6 _ _ _ _ _)).mono ?_
   rintro e w8 ⟨rfl, H8⟩
   clear H7
   go_wp2_with fail
   refine (ses_names HN H8 rfl).mono ?_
   rintro e w9 ⟨v, rfl, H9, RV⟩
   clear H8
   go_wp2_with fail
   refine (ses_same H9 RV (by show 1 < _; omega) (decide_eq_true rfl)).mono ?_
   rintro e w10 ⟨rfl, H10⟩
   clear H9 RV
   go_wp2_with fail
   refine (ses_read H10 HBL.out (nE7 hnb _ _ _)).mono ?_
   rintro e w11 ⟨rfl, H11⟩
   clear H10
   go_wp2_with fail
   refine (ses_off H11 (by decide) (nE8 _ _ _ _)).mono ?_
   rintro e w12 ⟨rfl, H12⟩
   clear H11
   go_wp2_with fail
   refine (ses_on H12 (nE9 _ _ _ _)).mono ?_
   rintro e w13 ⟨rfl, H13⟩
   clear H12
   rw [WW.out, want_take] at H13
   go_wp2_with fail
   refine (ses_read H13 HBL.out (nE7 hnb _ _ _)).mono ?_
   rintro e w14 ⟨rfl, H14⟩
   clear H13
   go_wp2_with fail
   refine (ses_names HN H14 rfl).mono ?_
   rintro e w15 ⟨v, rfl, H15, RV⟩
   clear H14
   go_wp2_with fail
   refine (ses_same H15 RV (by show 1 < _; omega) (decide_eq_true rfl)).mono ?_
   rintro e w16 ⟨rfl, H16⟩
   clear H15 RV
   go_wp2_with fail
   refine (ses_delete H16 (by show 5 < _; omega) HBL.out (nE10 hnb _ _ _)).mono ?_
   rintro e w17 ⟨rfl, H17⟩
   clear H16
   go_wp2_with fail
   refine (ses_delete H17 (by show 6 < _; omega) HBL.out (nE11 hnb _)).mono ?_
   rintro e w18 ⟨rfl, H18⟩
   clear H17
   go_wp2_with fail
   refine (ses_off H18 (by decide) (nE12 _)).mono ?_
   rintro e w19 ⟨rfl, H19⟩
   clear H18
   go_wp2_with fail
   refine (ses_on H19 (nE13 _)).mono ?_
   rintro e w20 ⟨rfl, H20⟩
   clear H19
   go_wp2_with fail
   refine (ses_read H20 HBL.out (nE14 hnb _)).mono ?_
   rintro e w21 ⟨rfl, H21⟩
   clear H20
   go_wp2_with fail
   refine (ses_names HN H21 rfl).mono ?_
   rintro e w22 ⟨v, rfl, H22, RV⟩
   clear H21
   obtain ⟨p, cap, rfl, _⟩ := RV
   go_wp2
   go_ret
   exact ⟨rfl, H22.fr⟩
set_option maxRecDepth 100000 in
theorem fnames_long (HN : NamesOk) {a b data : Nm} (hd : 65536 < data.length) (w : World) : Calls Try.prog 6 #[St a, St b, St data] w (Tells w (.bool true)) := by
  have hd3 : 65536 < (data.length : Int) := by omega
  clear hd
  go_enter Try.func6, Try.ntmps6
  go_wp2_with fail
  refine (awake_any HN w).mono ?_
  rintro e w1 ⟨rfl, F1⟩
  go_wp2_with fail
  refine (awake_any HN w1).mono ?_
  rintro e w2 ⟨rfl, F2⟩
  go_wp2
  go_ret
  exact ⟨rfl, F1.andNo F2⟩
theorem fnames_any (HN : NamesOk) {a b data : Nm} (ha : a.length ≤ maxLen) (hb : b.length ≤ maxLen) (w : World) : Calls Try.prog 6 #[St a, St b, St data] w (Tells w (.bool true)) := by
  by_cases h1 : 65536 < data.length
  · exact fnames_long HN h1 w
  have h1 : data.length ≤ 65536 := by omega
  cases hna : nameB a with
  | false => exact fnames_bad HN ha h1 hna w
  | true =>
    cases hnb : nameB b with
    | false => exact fnames_half HN ha hb h1 hna hnb w
    | true => exact fnames_good HN ha hb h1 hna hnb w
end Go.Proofs.Ytplnfbhjplbpiaa
