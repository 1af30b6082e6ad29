/-
  The contract of a table's those: the leases that are wanted, in their order, in new memory. Conditions: what asks answers for each lease of its type, and changes nothing old.
-/
import Derived.Test.YtpldkgollhbolaaGreatT9
namespace Go.Proofs.YtpldkgollhbolaaGreat
open Go.RowKit Go.Joins Go.Maps

variable {w w' V W W' : World} {t km om : Nat} {O : Nat → Prop} {v : Value} {E : List En} {L : List Ls}
def cellsL (l : List Ls) : List Value := (l.map wdL).flatten
theorem cellsL_snoc (l : List Ls) (x : Ls) : cellsL (l ++ [x]) = cellsL l ++ wdL x := by unfold cellsL; simp
theorem cellsL_len (l : List Ls) : (cellsL l).length = l.length * 8 := by
  induction l with
  | nil => rfl
  | cons x r ih =>
    unfold cellsL at *
    simp only [List.map_cons, List.flatten_cons, List.length_append, ih, List.length_cons]
    have : (wdL x).length = 8 := rfl
    omega
theorem cellsL_at : ∀ (l : List Ls) (k i : Nat) (x : Ls), l[k]? = some x → i < 8 → (cellsL l)[k * 8 + i]? = (wdL x)[i]?
  | [], k, i, x, h, _ => by simp at h
  | y :: r, 0, i, x, h, hi => by
    simp at h; subst h
    unfold cellsL
    rw [List.map_cons, List.flatten_cons, List.getElem?_append_left (by have : (wdL y).length = 8 := rfl; omega)]
    simp
  | y :: r, k + 1, i, x, h, hi => by
    have := cellsL_at r k i x (by simpa using h) hi
    unfold cellsL at *
    rw [List.map_cons, List.flatten_cons, List.getElem?_append_right (by have : (wdL y).length = 8 := rfl; omega)]
    rw [show (k + 1) * 8 + i - (wdL y).length = k * 8 + i by have : (wdL y).length = 8 := rfl; omega]
    exact this
theorem infoL : (Tryz.prog.info? 30).map (fun i => (i.zero, i.size, i.bytes)) = some (some zLv, 8, 72) := by kernel_rfl
theorem wdL_cell (x : Ls) : ∀ u ∈ wdL x, u.oneCell' = true := by
  intro u hu
  simp [wdL] at hu
  rcases hu with rfl | rfl | rfl | rfl | rfl | rfl | rfl | rfl <;> rfl
theorem holds_own {base g cap : Nat} {F : List Ls} (h : w.ownsRow base 30 8 (.slice (some ⟨g, 0, none⟩) F.length cap) F.length (cellsL F)) : HoldsL w g F := by
  intro j hj
  have hj2 : j < F.length * 8 := by simpa using hj
  obtain ⟨x, hx⟩ : ∃ x, F[j / 8]? = some x := ⟨_, List.getElem?_eq_getElem (by omega)⟩
  refine ⟨?_, by rw [Nat.zero_add]; exact h.frozenAt j⟩
  rw [Nat.zero_add, h.cellAt j hj2]
  have e := cellsL_at F (j / 8) (j % 8) x hx (Nat.mod_lt _ (by omega))
  rw [show j / 8 * 8 + j % 8 = j by omega] at e
  rw [e, Go.Sort.get_flatK _ _ _ _ (by simpa using hj2)]
  obtain ⟨hl, rfl⟩ := List.getElem?_eq_some_iff.1 hx
  have e2 : F.toArray[j / 8]! = F[j / 8] := by simp [hl]
  rw [e2]
  have hl8 : (wdL F[j / 8]).length = 8 := rfl
  have hm : j % 8 < 8 := Nat.mod_lt _ (by omega)
  rw [List.getElem?_eq_getElem (by omega)]
  simp [hl8, hm]
/-- a row of leases in memory made since w -/
def ResL (w W : World) (v : Value) (R : List Ls) : Prop := ∃ p cap, v = .slice p R.length cap ∧ (R = [] ∨ ∃ g, p = some ⟨g, 0, none⟩ ∧ w.heap.size ≤ g ∧ g < W.heap.size ∧ HoldsL W g R)
def LsPost (w : World) (R : List Ls) (e : Ending) (w' : World) : Prop := ∃ v, e = .returned v ∧ ResL w w' v R ∧ Below w.heap.size w w'
theorem swo_cmp : Go.Sort.SWO (Go.Proofs.ltOf cmpL) where
  irrefl x := by unfold ltOf; rw [cmpL_zero.2 (keyB_self x)]; rfl
  trans x y z h1 h2 := by unfold ltOf at *; rw [decide_eq_true_iff] at *; exact cmpL_trans h1 h2
  ntrans x y z h1 h2 := by
    unfold ltOf at *
    rw [decide_eq_false_iff_not] at *
    have a := cmpL_neg x y
    have b := cmpL_neg y z
    have c := cmpL_neg x z
    have := compare_trans (k1 := z.kind) (p1 := z.p) (n1 := z.n) (show cmpL z y ≤ 0 by omega) (show cmpL y x ≤ 0 by omega)
    have : cmpL z x ≤ 0 := this
    omega
theorem tcompG_any (x y : Ls) (w : World) : Calls Tryz.prog 43 #[Lv x, Lv y] w (GivesG (.int .i64 (cmpL x y)) w) := by
  have C := hide (fun W => compareG_any x.kind x.p x.n y.kind y.p y.n W)
  have R : Hid (∀ W, Grew w W → GivesG (.int .i64 (cmpL x y)) w (.returned (.int .i64 (compareS x.kind x.p x.n y.kind y.p y.n))) W) := hide (fun W h => ⟨rfl, h⟩)
  generalize compareS x.kind x.p x.n y.kind y.p y.n = cs at *
  generalize cmpL x y = res at *
  go_enter Tryz.func43, Tryz.ntmps43
  go_wp2_with fail
  refine (C.out _).mono ?_
  rintro e w2 ⟨rfl, hb⟩
  go_wp2
  go_ret
  exact R.out _ (((grew_alloc _ _).trans (grew_alloc _ _)).trans hb)
/-- what is left of a sorted row: the one in strict order -/
theorem srt_strict {R F : List Ls} (hp : R.Perm F) (hs : R.Pairwise (fun x y => Go.Proofs.ltOf cmpL y x = false)) (hF : SrtL F) : R = F := by
  have hne : R.Pairwise (fun x y => cmpL x y ≠ 0) := by
    refine (hp.pairwise_iff (fun {x y} (h : cmpL x y ≠ 0) => by have := cmpL_neg x y; omega)).2 (hF.imp (fun h => by omega))
  refine srtL_unique hp ?_ hF
  have := hs.and hne
  refine this.imp (fun {x y} ⟨a, b⟩ => ?_)
  unfold ltOf at a
  rw [decide_eq_false_iff_not] at a
  have := cmpL_neg x y
  omega
theorem filter_snoc (P : Ls → Bool) {k : Nat} {x : En} (hx : E[k]? = some x) : ((E.take (k + 1)).map (·.2)).filter P = ((E.take k).map (·.2)).filter P ++ (if P x.2 = true then [x.2] else []) := by
  rw [List.take_add_one, hx]
  simp only [Option.toList, List.map_append, List.filter_append, List.map_cons, List.map_nil]
  congr 1
  split
  · rw [List.filter_cons_of_pos (by assumption)]; rfl
  · rw [List.filter_cons_of_neg (by assumption)]; rfl
set_option maxRecDepth 100000 in
set_option maxHeartbeats 4000000 in
theorem those_any (h : IsTab w t O L) (P : Ls → Bool) {f : Nat} {cb : Array Value} (eg : ∀ args w, (callFunc f args).run Tryz.prog w = .ok (.enter f args) w)
    (hP : ∀ W x, Below w.heap.size w W → x.ok → Calls Tryz.prog f (#[Lv x] ++ cb) W (Gives (.bool (P x)) W)) :
    Calls Tryz.prog 34 #[Pt t, .func (.func f) #[] cb] w (LsPost w (L.filter P)) := by
  obtain ⟨km, om, v, E, h, hs, hp⟩ := h
  have H := hide h
  have HP := hide hp
  have HS := hide hs
  have HF := hide hP
  obtain ⟨g, cap, rfl⟩ := h.ends.frm
  obtain ⟨c0, c1, c2⟩ := h.ends.tabs
  have HL := hide h.ends.len
  have hl2 : (E.length : Int) ≤ 2000 := by have := h.ends.len; omega
  obtain ⟨i0, hi, hz0, hz1, hz2⟩ := info_parts infoL
  clear h hs hp hP
  go_enter Tryz.func34, Tryz.ntmps34
  go_wp2_with fail
  clear c0 c1 c2
  go_loopw [5, 15] (fun list idx wr => ∃ k : Nat, k ≤ E.length ∧ idx = .int .i64 (k : Nat) ∧ Hid (wr.ownsRow w.heap.size 30 8 list (((E.take k).map (·.2)).filter P).length (cellsL (((E.take k).map (·.2)).filter P))) ∧ Hid (Below w.heap.size w wr)) (fun _ idx _ => E.length - (intOf idx).toNat)
  case atStart => exact ⟨0, Nat.zero_le _, rfl, hide (World.ownsRow_nil _ _ _ _), hide (Below.refl _ _)⟩
  case round =>
    obtain ⟨k, hk, rfl, HO, HB⟩ := hrel
    by_cases hlt : k < E.length
    · obtain ⟨x, hx⟩ : ∃ x, E[k]? = some x := ⟨_, List.getElem?_eq_getElem hlt⟩
      have HEr := hide (H.out.ends.below HB.out)
      have d0 := HEr.out.at hx
      have hok := (H.out.good.ok x.2 (List.mem_map.2 ⟨x, List.mem_of_getElem? hx, rfl⟩)).1
      obtain ⟨b0, b1, b2, b3, b4, b5, b6, b7, b8⟩ := node_cells (HEr.out.node _ _ hx)
      have HN := hide (HEr.out.node _ _ hx)
      have PC := hide (HF.out wr x.2 HB.out hok)
      have HFS := hide (filter_snoc P hx)
      have hlt2 : (k : Int) < (E.length : Int) := by omega
      have hk0 : (0 : Int) ≤ (k : Int) := by omega
      clear hx hok
      cases hpx : P x.2 with
      | true =>
        rw [hpx] at PC
        have FS2 : Hid (((E.take (k + 1)).map (·.2)).filter P = ((E.take k).map (·.2)).filter P ++ [x.2]) := hide (by rw [HFS.out, if_pos hpx])
        have hn : (((E.take k).map (·.2)).filter P).length ≤ 2000 := by
          have a := List.length_filter_le P ((E.take k).map (·.2))
          simp only [List.length_map, List.length_take] at a
          have := HL.out
          omega
        have HN2 := hide hn
        clear hpx HFS hn
        generalize ((E.take k).map (·.2)).filter P = F at *
        go_wp2_with fail
        refine PC.out.mono ?_
        rintro e w2 ⟨rfl, hb2⟩
        have HB2 := hide hb2
        obtain ⟨a0, a1, a2, a3, a4, a5, a6, a7, a8⟩ := node_cells (node_fr HN.out (Fr.ofBelow hb2) (fun e => e))
        have HO2 := hide (own_fr (own_fr HO.out (Fr.ofBelow hb2) (fun _ _ e => e)) (Fr.alloc w2 (.cells (leaseC x.2) 30)) (fun _ _ e => e))
        have hsz : w.heap.size ≤ (w2.alloc (.cells (leaseC x.2) 30)).heap.size := by have := HB.out.size; have := hb2.size; simp; omega
        have HSZ := hide hsz
        clear hb2 hsz d0 b0 b1 b2 b3 b4 b5 b6 b7 b8
        go_wp2_with (at_builtin; refine wpList_append_lies _ rfl (.tmp 25) (.tmp 30) 43 rfl w.heap.size 30 i0 zLv 8 72 Tryz.underlying43 hi hz0 hz1 hz2 rfl (by decide) _ _ _ rfl HO2.out ⟨w2.heap.size, 0, none⟩ 1 1 (wdL x.2) rfl rfl (fun j u hu => World.news_of_block (alloc_at (W := w2) (.cells (leaseC x.2) 30) rfl) j u hu) (wdL_cell x.2) (by decide) (by have := HN2.out; unfold maxLen; omega) (by have := HN2.out; omega) HSZ.out _ rfl ?_; intro g2 cap2 w5 O5 G5 _ _)
        go_roundw
        case rel =>
          refine ⟨k + 1, hlt, by go_num, hide ?_, hide ?_⟩
          · rw [FS2.out, cellsL_snoc, List.length_append]; exact O5
          · exact ((HB.out.trans (HB2.out.mono HB.out.size)).alloc (Nat.le_trans HB.out.size HB2.out.size) _).grown G5 HSZ.out (fun j e => (HO2.out.lt j e).1)
        case measure => simp [intOf]; omega
      | false =>
        rw [hpx] at PC
        have FS2 : Hid (((E.take (k + 1)).map (·.2)).filter P = ((E.take k).map (·.2)).filter P) := hide (by rw [HFS.out, if_neg (by rw [hpx]; simp), List.append_nil])
        clear hpx HFS
        go_wp2_with fail
        refine PC.out.mono ?_
        rintro e w2 ⟨rfl, hb2⟩
        clear d0 b0 b1 b2 b3 b4 b5 b6 b7 b8
        go_wp2
        go_roundw
        case rel =>
          refine ⟨k + 1, hlt, by go_num, hide ?_, hide (HB.out.trans (hb2.mono HB.out.size))⟩
          rw [FS2.out]; exact own_fr HO.out (Fr.ofBelow hb2) (fun _ _ e => e)
        case measure => simp [intOf]; omega
    · have hke : k = E.length := by omega
      have hfp : (((E.take k).map (·.2)).filter P).Perm (L.filter P) := by
        rw [hke, List.take_length]; exact (HP.out.symm).filter P
      have hfl : (((E.take k).map (·.2)).filter P).length ≤ 2000 := by
        have a := List.length_filter_le P ((E.take k).map (·.2))
        simp only [List.length_map, List.length_take] at a
        have := HL.out
        omega
      have HFP := hide hfp
      have HFL := hide hfl
      have HSF := hide (HS.out.sublist (List.filter_sublist (p := P)))
      have hlt2 : ¬ (k : Int) < (E.length : Int) := by omega
      clear hfp hfl hke
      generalize ((E.take k).map (·.2)).filter P = F at *
      generalize L.filter P = R0 at *
      have SN := hide (fun p cap W => sort_none 43 p cap W)
      rcases ownsRow_forms HO.out with ⟨rfl, h0⟩ | ⟨g2, cap2, rfl⟩
      · have hR : R0 = [] := by
          have : F = [] := List.eq_nil_of_length_eq_zero h0
          rw [this] at HFP
          exact (List.nil_perm.1 HFP.out)
        subst hR
        clear h0
        go_wp2_with fail
        refine (SN.out _ _ _).mono ?_
        rintro e w2 ⟨rfl, rfl⟩
        go_wp2
        go_ret
        exact ⟨_, rfl, ⟨none, 0, rfl, Or.inl rfl⟩, HB.out⟩
      · cases F with
        | nil =>
          have hR : R0 = [] := List.nil_perm.1 HFP.out
          subst hR
          go_wp2_with fail
          refine (SN.out _ _ _).mono ?_
          rintro e w2 ⟨rfl, rfl⟩
          go_wp2
          go_ret
          exact ⟨_, rfl, ⟨some ⟨g2, 0, none⟩, cap2, rfl, Or.inl rfl⟩, HB.out⟩
        | cons y F =>
          have hg := (HO.out.lt g2 rfl)
          have SA := hide (sort_any (cap := cap2) (enters_of Tryz.func43 (by kernel_rfl) rfl) tcompG_any swo_cmp (holds_own HO.out) hg.2 HFL.out)
          have HG := hide hg
          have HLEN := hide (HFP.out.length_eq)
          clear hg
          generalize hF : y :: F = F2 at *
          clear hF
          go_wp2_with fail
          refine SA.out.mono ?_
          rintro e w2 ⟨rfl, R, hp, hs, hh, hf⟩
          have hR : R = R0 := srt_strict (hp.trans HFP.out) hs HSF.out
          have HH := hide hh
          have HFR := hide hf
          have HR := hide hR
          clear hp hs hh hf hR
          go_wp2
          go_ret
          have hh := HH.out
          rw [HR.out] at hh
          exact ⟨_, rfl, ⟨some ⟨g2, 0, none⟩, cap2, (by rw [HLEN.out]; rfl), Or.inr ⟨g2, rfl, HG.out.1, Nat.lt_of_lt_of_le HG.out.2 HFR.out.size, hh⟩⟩, HB.out.trans (HFR.out.below HB.out.size (fun j e => by rw [e]; exact HG.out.1))⟩
end Go.Proofs.YtpldkgollhbolaaGreat
