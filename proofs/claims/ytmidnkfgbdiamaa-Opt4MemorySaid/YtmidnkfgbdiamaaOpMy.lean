/-
  The walk of the law Opt4Memory: it returns true. Condition: the list takes at most 2^47 - 4096 bytes.
-/
import Derived.Test.YtmidnkfgbdiamaaOpV
import Derived.Deep.DeepCutAuto
namespace Go.Proofs.Ytmidnkfgbdiamaa
open Go.RowKit Go.Joins Go.Maps

abbrev X77 : Opt := (77, ⟨#[120]⟩)
/-- what was handed in, with one more behind it; what was answered, twice -/
def HX (w4 w5 : World) (va vb : Value) (L K : List Opt) (W : World) : Prop := Below w4.heap.size w4 W ∧ OwnO W w4.heap.size va L ∧ OwnO W w5.heap.size vb K ∧ w4.heap.size ≤ w5.heap.size ∧ w5.heap.size ≤ W.heap.size ∧ (∀ k, va.ownBlock = some k → k < w5.heap.size)
theorem HX.step {w4 w5 : World} {va vb : Value} {L K : List Opt} {W W2 : World} (h : HX w4 w5 va vb L K W) (hb : Below W.heap.size W W2) : HX w4 w5 va vb L K W2 :=
  ⟨h.1.trans (hb.mono (Nat.le_trans h.2.2.2.1 h.2.2.2.2.1)), own_keep h.2.1 hb, own_keep h.2.2.1 hb, h.2.2.2.1, Nat.le_trans h.2.2.2.2.1 hb.size, h.2.2.2.2.2⟩
theorem HX.at {w4 w5 : World} {ga m c : Nat} {vb : Value} {L K : List Opt} {W : World} (h : HX w4 w5 (.slice (some ⟨ga, 0, none⟩) m c) vb L K W) {j : Nat} {x : Opt} (hx : L[j]? = some x) :
    W.cell? ⟨ga, j * 2, none⟩ = some (.int .u8 (x.1.toNat : Int)) ∧ W.cell? ⟨ga, j * 2 + 1, none⟩ = some (.string x.2) ∧ W.frozen? ⟨ga, j * 2, none⟩ = false ∧ W.frozen? ⟨ga, j * 2 + 1, none⟩ = false := by
  have hj : j < L.length := (List.getElem?_eq_some_iff.1 hx).1
  have h1 := h.2.1
  have hm : m = L.length := by rcases h1.2 with ⟨e, _⟩ | ⟨_, _, _, e, _⟩ <;> cases e <;> rfl
  subst hm
  exact ⟨(h1.cellAt (j * 2) (by omega)).trans (cellsO_at hx).1, (h1.cellAt (j * 2 + 1) (by omega)).trans (cellsO_at hx).2, h1.frozenAt _, h1.frozenAt _⟩
theorem HX.put {w4 w5 : World} {ga m c : Nat} {vb : Value} {L K : List Opt} {W : World} (h : HX w4 w5 (.slice (some ⟨ga, 0, none⟩) m c) vb L K W) (j : Nat) (y : Opt) :
    HX w4 w5 (.slice (some ⟨ga, 0, none⟩) m c) vb (L.set j y) K ((W.setCell ⟨ga, j * 2, none⟩ (.int .u8 (y.1.toNat : Int))).setCell ⟨ga, j * 2 + 1, none⟩ (.string y.2)) := by
  obtain ⟨k1, k2, k3, k4, k5, k6⟩ := h
  have hm : m = L.length := by rcases k2.2 with ⟨e, _⟩ | ⟨_, _, _, e, _⟩ <;> cases e <;> rfl
  subst hm
  have h1 := (k2.stored (j * 2) (.int .u8 (y.1.toNat : Int))).1
  have h2 := (h1.stored (j * 2 + 1) (.string y.2)).1
  rw [cellsO_set] at h2
  have hg := (k2.lt ga rfl).1
  have g1 : W.grownBy (W.setCell ⟨ga, j * 2, none⟩ (.int .u8 (y.1.toNat : Int))) (some ga) := grow_cell1 W ga (j * 2) _
  have g2 := grow_cell1 (W.setCell ⟨ga, j * 2, none⟩ (.int .u8 (y.1.toNat : Int))) ga (j * 2 + 1) (.string y.2)
  have ne : ∀ k, vb.ownBlock = some k → some ga ≠ some k := fun k hk e => by
    have a := (k3.lt k hk).1
    have b := k6 ga rfl
    cases e
    omega
  refine ⟨(k1.setCell hg _).setCell hg _, ?_, own_grow (own_grow k3 g1 ne (Nat.le_refl _)) g2 ne (Nat.le_refl _), k4, by simpa using k5, k6⟩
  unfold OwnO
  rw [List.length_set]
  exact h2
set_option maxRecDepth 100000 in
set_option maxHeartbeats 4000000 in
theorem lawmemory_any (code : UInt8) {v : Value} {l : List Opt} (hl : l.length * 24 ≤ 140737488351232) (w : World) (hv : LstO v l w) :
    Calls Try.prog 7 #[v, KV code] w (Gives (.bool true) w) := by
  obtain ⟨i0, hi0, hz0, hz1, hz2⟩ := info_parts infoO
  have HV := hide (fun W (H : Below w.heap.size w W) => hv.step H)
  obtain ⟨p, c, rfl⟩ := lstO_len hv
  have NI := hide (show ∃ n : Nat, n = l.length from ⟨_, rfl⟩)
  clear hv
  go_enter Try.func7, Try.ntmps7
  go_wp2_with fail
  refine (awake_any w).mono ?_
  rintro e w1 ⟨rfl, hb1⟩
  have B1 := hide hb1
  clear hb1
  go_wp2_with (at_make; refine wpList_make_own _ rfl _ _ 24 rfl w.heap.size 42 i0 (.agg #[.int .u8 0, .string ⟨#[]⟩]) 2 Try.underlying24 hi0 hz0 hz1 _ _ _ (l.length + 1) rfl rfl (by omega) ?b2 ?b3 B1.out.size ?_)
  case b2 => rw [hz2]; omega
  case b3 => unfold maxLen; omega
  intro w2 hown2 hgrow2
  have B2 := hide (B1.out.grown hgrow2 B1.out.size (fun k h => by cases h))
  have O2 := hide (show OwnO w2 w.heap.size (.slice (some ⟨w1.heap.size, 0, none⟩) 0 (l.length + 1)) [] from hown2)
  have L2 := hide (HV.out _ B2.out)
  clear hown2 hgrow2
  generalize w1.heap.size = g1 at *
  go_wp2_with (at_builtin; first
    | (refine wpList_append_lstO rfl (.tmp 17) (.tmp 18) rfl w.heap.size _ [] rfl O2.out _ l rfl L2.out (by simp; omega) B2.out.size ?_; intro v3 w3 q1 q2 q3; have O3 := hide (show OwnO w3 w.heap.size v3 l from q1); have B3 := hide (B2.out.trans q2); clear q1 q2 q3)
    | (refine wpList_append_oneO rfl (.tmp 20) (.tmp 22) rfl w.heap.size _ l rfl (own_keep O3.out (below_alloc _ _)) w3.heap.size 1 X77 rfl own_two (by omega) (Nat.le_trans B3.out.size (below_alloc _ _).size) ?_; intro gm cm w4 q1 q2 q3 q4; have O4 := hide q1; have B4 := hide ((B3.out.trans ((below_alloc _ _).mono B3.out.size)).trans q2); have CM : l.length ≤ cm := (by have := (lstO_cap (ownO_lst q1)).2.1; omega); have CM1 : l.length + 1 ≤ cm := (lstO_cap (ownO_lst q1)).2.1; clear q1 q2 q3 q4))
  have MI := hide (fun W (H : Below w4.heap.size w4 W) => (show LstO (.slice (some ⟨gm, 0, none⟩) l.length cm) l W by
    have h := ownO_lst (own_keep O4.out H)
    have e : (l ++ [X77]).length = l.length + 1 := by simp
    rw [← e] at h
    have := lstO_cut h (f := l.length) (by simp)
    rwa [List.take_left] at this))
  have MC := hide (fun W (H : Below w4.heap.size w4 W) => ownO_at (own_keep O4.out H) (k := l.length) (x := X77) (by simp))
  have KLen := hide (show (kept code l).length ≤ l.length from List.length_filter_le _ _)
  obtain ⟨K, KE⟩ : ∃ K, Hid (kept code l = K) := ⟨_, hide rfl⟩
  rw [KE.out] at KLen
  have WO := hide (fun W u (H : LstO u l W) => (show Calls Try.prog 16 #[u, KV code] W (MakesO W.heap.size K W) by
    have := without_any code (by omega) W H
    rwa [KE.out] at this))
  have EM := hide (fun W u (H : LstO u l W) => emit_any (by omega) W H)
  have BW := hide (fun W (H : Below w4.heap.size w4 W) => B4.out.trans (H.mono B4.out.size))
  clear O3 O4 B2 B3 L2 O2
  refine (WO.out w4 _ (MI.out w4 (Below.refl _ _))).mono ?_
  rintro e w5 ⟨va, rfl, hb5, ho5⟩
  have B5 := hide hb5
  obtain ⟨pa, ca, rfl, _, _⟩ := lenO ho5
  have A5 := hide ho5
  clear hb5 ho5
  go_wp2_with fail
  refine (WO.out w5 _ (MI.out w5 B5.out)).mono ?_
  rintro e w6 ⟨vb, rfl, hb6, ho6⟩
  obtain ⟨pb, cb, rfl, _, _⟩ := lenO ho6
  have B6 := hide (chain B5.out hb6)
  have H6 := hide (show HX w4 w5 (.slice pa K.length ca) (.slice pb K.length cb) K K w6 from ⟨B6.out, own_keep A5.out hb6, ho6, B5.out.size, hb6.size, fun k hk => (A5.out.lt k hk).2⟩)
  clear hb6 ho6
  go_wp2_with fail
  refine (EM.out w6 _ (MI.out w6 B6.out)).mono ?_
  rintro e w7 ⟨rfl, hb7⟩
  have H7 := hide (H6.out.step hb7)
  clear hb7 H6 B6 A5
  generalize emitE l = en at *
  generalize bs (emitS l) = es at *
  go_wp2_with fail
  go_loopw [9] (fun u9 wr => ∃ (j : Nat) (L : List Opt), u9 = .int .i64 (j : Nat) ∧ j ≤ K.length ∧ Hid (L.length = K.length) ∧ Hid (HX w4 w5 (.slice pa K.length ca) (.slice pb K.length cb) L K wr)) (fun u9 _ => K.length - (intOf u9).toNat)
  case atStart => exact ⟨0, K, rfl, Nat.zero_le _, hide rfl, H7⟩
  case round =>
    obtain ⟨j, L, rfl, hj, HL, HH⟩ := hrel
    clear H7
    by_cases hlt : j < K.length
    · obtain ⟨y, hy⟩ := getO_some (show j < L.length by have := HL.out; omega)
      obtain ⟨ga, cap, e, _, _⟩ := HH.out.2.1.form (by have := HL.out; omega)
      have e1 : pa = some ⟨ga, 0, none⟩ := by injection e
      subst e1
      obtain ⟨o0, o1, o2, o3⟩ := HH.out.at hy
      have H8 := hide (HH.out.put j ((78, ⟨#[]⟩) : Opt))
      have HL2 := hide (show (L.set j ((78, ⟨#[]⟩) : Opt)).length = K.length by rw [List.length_set]; exact HL.out)
      clear e hy HH
      go_wp2
      go_roundw
      case rel => exact ⟨j + 1, _, by go_num, hlt, HL2, H8⟩
      case measure => simp [intOf]; omega
    · have hjk : j = K.length := by omega
      have KL2 := KLen.out
      go_wp2_with (at_builtin; refine wpList_append_oneO rfl (.tmp 48) (.tmp 50) rfl w4.heap.size _ L rfl (HH.out.step (below_alloc wr (.cells #[.int .u8 79, .string ⟨#[]⟩] 42))).2.1 wr.heap.size 1 ((79, ⟨#[]⟩) : Opt) rfl own_two (by have := HL.out; omega) (HH.out.step (below_alloc wr (.cells #[.int .u8 79, .string ⟨#[]⟩] 42))).1.size ?_; intro g9 c9 w9 q1 q2 q3 q4)
      have H9 := HH.out.step (below_alloc wr (.cells #[.int .u8 79, .string ⟨#[]⟩] 42))
      have B9 := hide (H9.1.trans q2)
      have OB9 := hide (own_grow (base' := w5.heap.size) H9.2.2.1 q3 (fun k hk e => by
        have a := (H9.2.2.1.lt k hk).1
        have b := H9.2.2.2.2.2 k e
        omega) (Nat.le_refl _))
      have S9 := hide (same_any (l := l) (m := l) (by omega) w9 (MI.out w9 B9.out) (HV.out w9 (BW.out w9 B9.out)))
      rw [decide_eq_true rfl] at S9
      have LK := hide (show L.length + 1 = K.length + 1 by rw [HL.out])
      have LE : (L.length : Int) = (K.length : Int) := by rw [HL.out]
      clear q1 q2 q3 q4 H9 HH
      refine S9.out.mono ?_
      rintro e w10 ⟨rfl, hb10⟩
      have B10 := hide (B9.out.trans (hb10.mono B9.out.size))
      have OB10 := hide (own_keep OB9.out hb10)
      have m0 : w10.cell? ⟨gm, l.length * 2, none⟩ = some (.int .u8 77) := by
        have := (MC.out w10 B10.out).1
        rw [Nat.zero_add] at this
        exact this
      have m1 : w10.cell? ⟨gm, l.length * 2 + 1, none⟩ = some (.string ⟨#[120]⟩) := by
        have := (MC.out w10 B10.out).2
        rw [Nat.zero_add] at this
        exact this
      have W10 := hide (WO.out w10 _ (HV.out w10 (BW.out w10 B10.out)))
      clear hb10 S9 OB9
      go_wp2_with fail
      refine W10.out.mono ?_
      rintro e w11 ⟨v11, rfl, hb11, ho11⟩
      have B11 := hide (B10.out.trans (hb11.mono B10.out.size))
      have S11 := hide (same_any (l := K) (m := K) (by omega) w11 ((ownO_lst OB10.out).step hb11) (ownO_lst ho11))
      rw [decide_eq_true rfl] at S11
      clear hb11 ho11 m0 m1
      go_wp2_with fail
      refine S11.out.mono ?_
      rintro e w12 ⟨rfl, hb12⟩
      have B12 := hide (B11.out.trans (hb12.mono B11.out.size))
      clear hb12 S11
      go_wp2
      go_ret
      exact ⟨rfl, BW.out w12 B12.out⟩
end Go.Proofs.Ytmidnkfgbdiamaa
