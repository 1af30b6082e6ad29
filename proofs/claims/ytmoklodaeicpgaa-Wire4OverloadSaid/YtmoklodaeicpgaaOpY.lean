/-
  The contracts of slices.DeleteFunc at options (in the row's own memory) and of Without. Condition: a row of options takes at most 2^47 bytes.
-/
import Derived.Test.YtmoklodaeicpgaaOpD
namespace Go.Proofs.Ytmoklodaeicpgaa
open Go.RowKit Go.Joins Go.Maps

/-- the row while DeleteFunc goes on -/
def HD (base : Nat) (w : World) (g cap n : Nat) (c : UInt8) (gb : Nat) (L : List Opt) (W : World) : Prop := Below base w W ∧ W.ownsRow base 47 2 (.slice (some ⟨g, 0, none⟩) n cap) n (cellsO L) ∧ base ≤ w.heap.size ∧ L.length = n ∧ BoxC gb c W ∧ gb ≠ g
theorem HD.step {base : Nat} {w : World} {g cap n : Nat} {c : UInt8} {gb : Nat} {L : List Opt} {W W2 : World} (h : HD base w g cap n c gb L W) (hb : Below W.heap.size W W2) : HD base w g cap n c gb L W2 :=
  ⟨h.1.trans (hb.mono (Nat.le_trans h.2.2.1 h.1.size)), own_keep h.2.1 hb, h.2.2.1, h.2.2.2.1, h.2.2.2.2.1.step hb, h.2.2.2.2.2⟩
theorem HD.at {base : Nat} {w : World} {g cap n : Nat} {c : UInt8} {gb : Nat} {L : List Opt} {W : World} (h : HD base w g cap n c gb L W) {j : Nat} {x : Opt} (hx : L[j]? = some x) :
    W.cell? ⟨g, j * 2, none⟩ = some (.int .u8 (x.1.toNat : Int)) ∧ W.cell? ⟨g, j * 2 + 1, none⟩ = some (.string x.2) ∧ W.frozen? ⟨g, j * 2, none⟩ = false ∧ W.frozen? ⟨g, j * 2 + 1, none⟩ = false := by
  obtain ⟨_, h, _, hn, _⟩ := h
  have hj : j < L.length := (List.getElem?_eq_some_iff.1 hx).1
  exact ⟨(h.cellAt (j * 2) (by omega)).trans (cellsO_at hx).1, (h.cellAt (j * 2 + 1) (by omega)).trans (cellsO_at hx).2, h.frozenAt _, h.frozenAt _⟩
theorem HD.put {base : Nat} {w : World} {g cap n : Nat} {c : UInt8} {gb : Nat} {L : List Opt} {W : World} (h : HD base w g cap n c gb L W) (j : Nat) (y : Opt) :
    HD base w g cap n c gb (L.set j y) ((W.setCell ⟨g, j * 2, none⟩ (.int .u8 (y.1.toNat : Int))).setCell ⟨g, j * 2 + 1, none⟩ (.string y.2)) := by
  have h1 := (h.2.1.stored (j * 2) (.int .u8 (y.1.toNat : Int))).1
  have h2 := (h1.stored (j * 2 + 1) (.string y.2)).1
  rw [cellsO_set] at h2
  have hg := (h.2.1.lt g rfl).1
  obtain ⟨b1, b2⟩ := h.2.2.2.2.1
  have hne := h.2.2.2.2.2
  refine ⟨(h.1.setCell hg _).setCell hg _, h2, h.2.2.1, by rw [List.length_set]; exact h.2.2.2.1, ⟨by simpa using b1, ?_⟩, hne⟩
  have s1 := World.cell?_of_block (w := W) (w' := W.setCell ⟨g, j * 2, none⟩ (.int .u8 (y.1.toNat : Int))) (a := ⟨gb, 0, none⟩) (Below.heap_setCell W ⟨g, j * 2, none⟩ _ gb hne)
  have s2 := World.cell?_of_block (w := W.setCell ⟨g, j * 2, none⟩ (.int .u8 (y.1.toNat : Int))) (w' := (W.setCell ⟨g, j * 2, none⟩ (.int .u8 (y.1.toNat : Int))).setCell ⟨g, j * 2 + 1, none⟩ (.string y.2)) (a := ⟨gb, 0, none⟩) (Below.heap_setCell _ ⟨g, j * 2 + 1, none⟩ _ gb hne)
  rw [s2, s1, b2]
theorem set_take {L : List Opt} {k : Nat} {x : Opt} (h : k < L.length) : (L.set k x).take (k + 1) = L.take k ++ [x] := by
  rw [List.take_add_one, List.getElem?_set_self h, List.take_set_of_le (Nat.le_refl _)]
  rfl
/-- what stands of the row -/
def DInv (c : UInt8) (R L : List Opt) (jj ii : Nat) : Prop := L.take ii = kept c (R.take jj) ∧ ii < jj ∧ L.length = R.length ∧ ∀ q, jj ≤ q → L[q]? = R[q]?
theorem dinv_skip {c : UInt8} {R L : List Opt} {jj ii : Nat} {x : Opt} (h : DInv c R L jj ii) (hx : R[jj]? = some x) (he : x.1 = c) : DInv c R L (jj + 1) ii := by
  obtain ⟨h1, h2, h3, h4⟩ := h
  exact ⟨by rw [kept_take hx, if_pos he, h1], by omega, h3, fun q hq => h4 q (by omega)⟩
theorem dinv_put {c : UInt8} {R L : List Opt} {jj ii : Nat} {x : Opt} (h : DInv c R L jj ii) (hx : R[jj]? = some x) (he : ¬ x.1 = c) : DInv c R (L.set ii x) (jj + 1) (ii + 1) := by
  obtain ⟨h1, h2, h3, h4⟩ := h
  have hj := (List.getElem?_eq_some_iff.1 hx).1
  refine ⟨by rw [set_take (by omega), kept_take hx, if_neg he, h1], by omega, by rw [List.length_set]; exact h3, fun q hq => ?_⟩
  rw [List.getElem?_set_ne (by omega)]
  exact h4 q (by omega)
theorem box_cells (W : World) (x : Opt) (t : TypeId) : (W.alloc (.cells #[.int .u8 (x.1.toNat : Int), .string x.2] t)).cell? ⟨W.heap.size, 0, none⟩ = some (.int .u8 (x.1.toNat : Int)) ∧ (W.alloc (.cells #[.int .u8 (x.1.toNat : Int), .string x.2] t)).cell? ⟨W.heap.size, 1, none⟩ = some (.string x.2) :=
  ⟨by simp [go_sem], by simp [go_sem]⟩
def DelGives (base : Nat) (l : List Opt) (w : World) (e : Ending) (w2 : World) : Prop := ∃ v, e = .returned v ∧ Below base w w2 ∧ OwnO w2 base v l
set_option maxRecDepth 100000 in
set_option maxHeartbeats 4000000 in
theorem delete_any (c : UInt8) {v : Value} {R : List Opt} {base : Nat} (hl : R.length * 24 ≤ 140737488355328) (w : World) (hO : OwnO w base v R) (hb0 : base ≤ w.heap.size) (gb : Nat) (hb : BoxC gb c w) (hne : v.ownBlock ≠ some gb) :
    Calls Try.prog 42 #[v, OfF gb] w (DelGives base (kept c R) w) := by
  have EG := enters_of1
  have IX := hide (index_any 58 #[.pointer (some ⟨gb, 0, none⟩)] (fun x => decide (x.1 = c)) hl w (ownO_lst hO) enters_of1 (fun W2 h2 x _ => of1_any x c gb W2 (hb.step h2)))
  have FI : ∃ i, Hid (idxI (fun x => decide (x.1 = c)) R = i) := ⟨_, hide rfl⟩
  obtain ⟨i, FI⟩ := FI
  rw [FI.out] at IX
  rcases find_at (l := R) (c := c) with ⟨h1, _, _⟩ | ⟨k, x, hx, h1, _, _⟩
  · have E := hide (kept_no h1)
    obtain rfl : i = -1 := by rw [← FI.out]; exact h1
    have HO := hide hO
    obtain ⟨p, cp, rfl, _, _⟩ := lenO hO
    clear hO hb hne
    go_enter Try.func42, Try.ntmps42
    go_wp2_with fail
    refine IX.out.mono ?_
    rintro e w1 ⟨rfl, hb1⟩
    have HB1 := hide hb1
    go_wp2
    go_ret
    exact ⟨_, rfl, HB1.out.mono hb0, by rw [E.out]; exact own_keep HO.out HB1.out⟩
  · obtain ⟨hk, hk2⟩ := kept_first h1
    obtain rfl : i = (k : Int) := by rw [← FI.out]; exact h1
    obtain ⟨g, cap, rfl, hbg, hgl⟩ := hO.form (by omega)
    have hcap := (lstO_cap (ownO_lst hO)).2.1
    have H0 := hide (show HD base w g cap R.length c gb R w from ⟨Below.refl _ _, hO, hb0, rfl, hb, fun e => hne (by rw [e]; rfl)⟩)
    have D0 := hide (show DInv c R R (k + 1) k from ⟨hk2.symm, Nat.lt_succ_self _, rfl, fun _ _ => rfl⟩)
    have KN : ¬ (k : Int) = -1 := by omega
    clear hO hb hne hk2 h1 hx FI
    go_enter Try.func42, Try.ntmps42
    go_wp2_with fail
    refine IX.out.mono ?_
    rintro e w1 ⟨rfl, hb1⟩
    have H1 := hide (H0.out.step hb1)
    clear H0 hb1 IX
    go_wp2
    go_loopw [5, 6] (fun s5 s6 wr => ∃ (ii jj : Nat) (L : List Opt), s5 = .int .i64 (ii : Nat) ∧ s6 = .int .i64 (jj : Nat) ∧ ii < jj ∧ jj ≤ R.length ∧ Hid (HD base w g cap R.length c gb L wr) ∧ Hid (DInv c R L jj ii)) (fun _ s6 _ => R.length - (intOf s6).toNat)
    case atStart => exact ⟨k, k + 1, R, rfl, by go_num, Nat.lt_succ_self _, hk, H1, D0⟩
    case round =>
      obtain ⟨ii, jj, L, rfl, rfl, hij, hjR, HH, DI⟩ := hrel
      clear H1 D0
      by_cases hlt : jj < R.length
      · obtain ⟨x, hx⟩ := getO_some hlt
        have hxL : L[jj]? = some x := by rw [DI.out.2.2.2 jj (Nat.le_refl _)]; exact hx
        obtain ⟨a0, a1, _, _⟩ := HH.out.at hxL
        have OF := hide (fun W (h : BoxC gb c W) => of1_any x c gb W h)
        obtain ⟨b0, b1⟩ := box_cells wr x 47
        have HA := hide (HH.out.step (below_alloc wr (.cells #[.int .u8 (x.1.toNat : Int), .string x.2] 47)))
        have hjc : jj < cap := by omega
        have HX := hide hx
        by_cases he : x.1 = c
        · have OT := hide (fun W (h : BoxC gb c W) => (show Calls Try.prog 58 #[OV x, .pointer (some ⟨gb, 0, none⟩)] W (Gives (.bool true) W) by have := OF.out W h; rw [decide_eq_true he] at this; exact this))
          have D2 := hide (dinv_skip DI.out hx he)
          clear hx hxL he OF
          go_wp2_with fail
          refine (OT.out _ HA.out.2.2.2.2.1).mono ?_
          rintro e w3 ⟨rfl, hb3⟩
          have H3 := hide (HA.out.step hb3)
          clear hb3 HA OT b0 b1 a0 a1
          go_wp2
          go_roundw
          case rel => exact ⟨_, _, _, _, _, _, _, _, _, _, _, _, _, _, _, _, _, _, _, _, _, _, _, ⟨ii, jj + 1, L, rfl, by go_num, by omega, by omega, H3, D2⟩, rfl⟩
          case measure => simp [intOf]; omega
        · have OT := hide (fun W (h : BoxC gb c W) => (show Calls Try.prog 58 #[OV x, .pointer (some ⟨gb, 0, none⟩)] W (Gives (.bool false) W) by have := OF.out W h; rw [decide_eq_false he] at this; exact this))
          have D2 := hide (dinv_put DI.out hx he)
          obtain ⟨old, ho⟩ := getO_some (show ii < L.length by rw [DI.out.2.2.1]; omega)
          have hic : ii < R.length := by omega
          clear hx hxL he OF
          go_wp2_with fail
          refine (OT.out _ HA.out.2.2.2.2.1).mono ?_
          rintro e w3 ⟨rfl, hb3⟩
          have H3 := hide (HA.out.step hb3)
          have c0 := keep_cell hb3 b0
          have c1 := keep_cell hb3 b1
          obtain ⟨o0, o1, o2, o3⟩ := H3.out.at ho
          have H4 := hide (H3.out.put ii x)
          clear hb3 HA OT b0 b1 a0 a1 ho
          go_wp2
          go_roundw
          case rel => exact ⟨_, _, _, _, _, _, _, _, _, _, _, _, _, _, _, _, _, _, _, _, _, _, _, ⟨ii + 1, jj + 1, L.set ii x, by go_num, by go_num, by omega, by omega, H4, D2⟩, rfl⟩
          case measure => simp [intOf]; omega
      · have hend : jj = R.length := by omega
        have FC := HH.out.2.1
        have hLR := DI.out.2.2.1
        have hcl := fun ty => clear_opt wr ty g (ii * 2) (R.length - ii) (cap - ii) (by omega)
          (fun j hj => by rw [FC.cellAt (ii * 2 + j) (by omega), List.getElem?_eq_getElem (by rw [cellsO_len]; omega)]; rfl) (fun j _ => FC.frozenAt (ii * 2 + j))
        obtain ⟨xs, q1, q2, q3⟩ := own_cleared (cellsO (List.replicate (R.length - ii) zeroO)) (ii * 2) wr _ FC
        have TK2 := DI.out.1
        rw [hend, List.take_length] at TK2
        have F := hide (show OwnO (wr.setCells g (ii * 2) (cellsO (List.replicate (R.length - ii) zeroO))) base (.slice (some ⟨g, 0, none⟩) ii cap) (kept c R) from
          own_short q1 (by omega) (by rw [q2, cellsO_take, TK2]) (by rw [← TK2, List.length_take]; omega))
        have B := hide (HH.out.1.trans q3)
        have CK2 : ¬ cap = ii := by omega
        have iR : ii ≤ R.length := by omega
        clear q1 q2 q3 TK2 FC hLR
        subst hend
        go_wp2
        go_ret
        exact ⟨_, rfl, B.out, F.out⟩
end Go.Proofs.Ytmoklodaeicpgaa
