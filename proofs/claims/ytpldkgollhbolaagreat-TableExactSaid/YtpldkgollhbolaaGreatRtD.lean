/-
  The document's own table of layer 9 in memory; its New, Apply, Size. Conditions: at most 2000 changes, of their types.
-/
import Derived.Test.YtpldkgollhbolaaGreatRtC
namespace Go.Proofs.YtpldkgollhbolaaGreat
open Go.RowKit Go.Joins Go.Maps

variable {w w' V W W' : World} {L : List Ls} {v : Value}
/-- the document's own table: its block holds a list of these leases -/
structure RTab (W : World) (u : Nat) (p : Option Go.Addr) (c : Nat) (L : List Ls) : Prop where
  blk : W.heap[u]? = some (.cells #[.slice p L.length c] 57 (0, 0))
  lst : LstL p L W
  nil : p = none → c = 0
theorem RTab.lt {u c : Nat} {p : Option Go.Addr} (h : RTab W u p c L) : u < W.heap.size := lt_of_block h.blk
theorem RTab.fr {u c : Nat} {p : Option Go.Addr} (h : RTab W u p c L) {S : Nat → Prop} (f : Fr S W W') (hu : ¬ S u) (hn : ∀ b o, p = some ⟨b, o, none⟩ → L ≠ [] → ¬ S b) : RTab W' u p c L :=
  ⟨f.keep h.blk hu, h.lst.fr2 f hn, h.nil⟩
theorem RTab.step {u c : Nat} {p : Option Go.Addr} (h : RTab W u p c L) (hb : Below W.heap.size W W') : RTab W' u p c L := h.fr (Fr.ofBelow hb) (fun e => e) (fun _ _ _ _ e => e)
theorem RTab.cell {u c : Nat} {p : Option Go.Addr} (h : RTab W u p c L) : W.cell? ⟨u, 0, none⟩ = some (.slice p L.length c) := cell_at h.blk 0
theorem rnew_any (w : World) : Calls Tryz.prog 6 #[] w (fun e w' => ∃ u, e = .returned (Pt u) ∧ Below w.heap.size w w' ∧ w.heap.size ≤ u ∧ RTab w' u none 0 []) := by
  go_enter Tryz.func6, Tryz.ntmps6
  go_wp2
  go_ret
  exact ⟨_, rfl, below_alloc _ _, Nat.le_refl _, heap_alloc_new w _, (fun k x hk => by cases hk), fun _ => rfl⟩
theorem rsize_any {u c : Nat} {p : Option Go.Addr} (h : RTab w u p c L) : Calls Tryz.prog 29 #[Pt u] w (Same (.int .i64 (L.length : Int)) w) := by
  have c0 := h.cell
  clear h
  go_enter Tryz.func29, Tryz.ntmps29
  go_wp2
  go_ret
  exact ⟨rfl, rfl⟩
/-- a list lies in no block of one cell that is a slice -/
theorem atL_ne {b o u : Nat} {x : Ls} {T : TypeId} {fz : Nat × Nat} {q : Option Go.Addr} {n c : Nat} (h : AtL b o x W) (hu : W.heap[u]? = some (.cells #[.slice q n c] T fz)) : b ≠ u := by
  rintro rfl
  have h0 := h.1
  have h1 := h.2.1
  rw [cell_at hu] at h0 h1
  cases o with
  | zero => simp at h1
  | succ o => simp at h0
theorem frozen_at {b : Nat} {cur : Array Value} {T : TypeId} (h : W.heap[b]? = some (.cells cur T (0, 0))) (i : Nat) : W.frozen? ⟨b, i, none⟩ = false := by
  simp [World.frozen?, h]
theorem okL_tab (T : TabL L) : ∀ y ∈ L, y.ok := fun y hy => (T.good.ok y hy).1
def RApplyPost (w : World) (u : Nat) (p : Option Go.Addr) (L : List Ls) (n : Nat) (M : List Ls) (e : Ending) (w' : World) : Prop :=
  e = .returned (.int .i64 (n : Int)) ∧ Fr (fun k => k = u) w w' ∧ ∃ p' c', RTab w' u p' c' M ∧ ∀ b o, p' = some ⟨b, o, none⟩ → M ≠ [] → w.heap.size ≤ b ∨ (p' = p ∧ M = L)
set_option maxRecDepth 100000 in
set_option maxHeartbeats 4000000 in
theorem rapply_any {u c : Nat} {p : Option Go.Addr} (h : RTab w u p c L) (T : TabL L) {cs : List Ch} (ok : okL cs) (hl : cs.length ≤ 2000) {q : Option Go.Addr} {cq : Nat} (hu : LstC q cs w) :
    Calls Tryz.prog 8 #[Pt u, .slice q cs.length cq] w (RApplyPost w u p L (applyE L cs) (applyL L cs)) := by
  have HT := hide h
  have TL := hide T
  have HU := hide hu
  have OK := hide ok
  have c0 := h.cell
  have ult := h.lt
  clear h T hu ok
  go_enter Tryz.func8, Tryz.ntmps8
  go_wp2_with fail
  go_loopw [5, 6] (fun lv i wr => ∃ (a b : List Ch) (p1 : Option Go.Addr) (c1 : Nat), Hid (cs = a ++ b) ∧ a.length ≤ cs.length ∧ lv = .slice p1 (applyG L a).length c1 ∧ i = .int .i64 (a.length : Nat) ∧ Hid (applyE L a = 0) ∧ Hid (LstL p1 (applyG L a) wr ∧ (p1 = none → c1 = 0) ∧ ∀ b o, p1 = some ⟨b, o, none⟩ → applyG L a ≠ [] → w.heap.size ≤ b ∨ (p1 = p ∧ applyG L a = L)) ∧ Hid (Below w.heap.size w wr)) (fun _ i => fun _ => cs.length - (intOf i).toNat)
  case atStart => exact ⟨[], cs, p, c, hide rfl, Nat.zero_le _, rfl, rfl, hide rfl, hide ⟨HT.out.lst, HT.out.nil, fun _ _ _ _ => Or.inr ⟨rfl, rfl⟩⟩, hide (Below.refl _ _)⟩
  case round =>
    clear c0
    obtain ⟨a, b, p1, c1, HS, hal, rfl, rfl, HE, HLS, HB⟩ := hrel
    have ha0 : (0 : Int) ≤ (a.length : Int) := by omega
    have TM := hide (apply_tab a TL.out (fun x hx => OK.out x (by rw [HS.out]; exact List.mem_append_left _ hx)) HE.out)
    cases b with
    | nil =>
      have ha : a = cs := by have := HS.out; simpa using this.symm
      subst ha
      have hge : ¬ (a.length : Int) < (a.length : Int) := by omega
      have AL := hide (show applyL L a = applyG L a by unfold applyL; rw [if_pos HE.out])
      have HTk := HT.out.step HB.out
      have c0 := HTk.cell
      have f0 : wr.frozen? ⟨u, 0, none⟩ = false := frozen_at HTk.blk 0
      have END : Hid (RApplyPost w u p L (applyE L a) (applyL L a) (.returned (.int .i64 0)) (wr.setCell ⟨u, 0, none⟩ (.slice p1 (applyG L a).length c1))) := hide (by
        have F1 : Fr (fun k => k = u) wr (wr.setCell ⟨u, 0, none⟩ (.slice p1 (applyG L a).length c1)) := Fr.set wr ⟨u, 0, none⟩ _
        refine ⟨by rw [HE.out]; rfl, ((Fr.ofBelow HB.out).mono (fun _ _ e => e.elim)).trans F1 (fun i _ e => e), p1, c1, ⟨?_, ?_, HLS.out.2.1⟩, by rw [AL.out]; exact HLS.out.2.2⟩
        · rw [AL.out]
          have := heap_setCell_same wr u 0 _ _ (.slice p1 (applyG L a).length c1) HTk.blk
          simpa using this
        · rw [AL.out]
          refine HLS.out.1.fr2 F1 (fun b o e hne hb => ?_)
          cases hG : applyG L a with
          | nil => exact hne hG
          | cons y r =>
            obtain ⟨b2, o2, e2, h2⟩ := HLS.out.1 0 y (by rw [hG]; rfl)
            rw [e] at e2; cases e2
            exact atL_ne h2 HTk.blk hb)
      clear HTk HS
      go_wp2
      go_ret
      exact END.out
    | cons x b =>
      have hlt : a.length < cs.length := by rw [HS.out]; simp
      have hlt2 : (a.length : Int) < (cs.length : Int) := by omega
      have hx : cs[a.length]? = some x := by rw [HS.out, List.getElem?_append_right (Nat.le_refl _)]; simp
      have okx := OK.out x (List.mem_of_getElem? hx)
      obtain ⟨pb, po, rfl, x0, x1, x2, x3, x4, x5, x6, x7, x8⟩ := HU.out.step HB.out a.length x hx
      have h24 := TM.out.good.size
      have ON := hide (one_any (c := c1) x okx wr HLS.out.1 (by omega) (okL_tab TM.out))
      have AS := hide (applyE_snoc L a x HE.out)
      have AG := hide (show applyG L (a ++ [x]) = chgL (applyG L a) x by rw [applyG_append]; rfl)
      have AST := hide (fun (h : errL (applyG L a) x ≠ 0) => applyE_stop L a x b HE.out h)
      clear hx okx h24
      go_wp2_with fail
      refine ON.out.mono ?_
      rintro e w2 ⟨v2, rfl, hb2, hr2⟩
      have HB2 := hide (HB.out.trans (hb2.mono HB.out.size))
      have HR2 := hide hr2
      clear x0 x1 x2 x3 x4 x5 x6 x7 x8 ON hb2 hr2
      by_cases he : errL (applyG L a) x = 0
      · obtain ⟨hr, hnil⟩ := HR2.out he
        obtain ⟨p3, c3, rfl, hl3, hn3⟩ := hr.lst
        have HL3 := hide (show LstL p3 (applyG L (a ++ [x])) w2 ∧ (p3 = none → c3 = 0) ∧ ∀ b o, p3 = some ⟨b, o, none⟩ → applyG L (a ++ [x]) ≠ [] → w.heap.size ≤ b ∨ (p3 = p ∧ applyG L (a ++ [x]) = L) from
          ⟨by rw [AG.out]; exact hl3, fun e => hnil _ _ (by rw [e]), fun b o e hne => Or.inl (Nat.le_trans HB.out.size (hn3 b o e (by rw [← AG.out]; exact hne)).1)⟩)
        have LG := hide (show (chgL (applyG L a) x).length = (applyG L (a ++ [x])).length by rw [AG.out])
        have AZ := hide (AS.out.trans he)
        rw [he]
        clear hr hnil hl3 hn3 HR2 he AS AST
        rw [LG.out]
        go_wp2
        go_roundw
        case rel => exact ⟨a ++ [x], b, p3, c3, hide (by rw [HS.out]; simp), by rw [List.length_append]; exact hlt, rfl, by rw [List.length_append]; go_num, AZ, HL3, HB2⟩
        case measure => simp [intOf]; omega
      · have hz : ¬ ((errL (applyG L a) x : Nat) : Int) = 0 := by omega
        have hz2 : (((errL (applyG L a) x : Nat) : Int) != 0) = true := by rw [bne_iff_ne]; exact hz
        have AE := hide (show applyE L cs = errL (applyG L a) x by rw [HS.out]; exact AST.out he)
        have AL := hide (show applyL L cs = L by unfold applyL; rw [if_neg (by rw [AE.out]; exact he)])
        have END : Hid (RApplyPost w u p L (applyE L cs) (applyL L cs) (.returned (.int .i64 (errL (applyG L a) x : Nat))) w2) := hide (by
          refine ⟨by rw [AE.out], (Fr.ofBelow HB2.out).mono (fun _ _ e => e.elim), p, c, ?_, fun _ _ _ _ => Or.inr ⟨rfl, AL.out⟩⟩
          rw [AL.out]; exact HT.out.step HB2.out)
        clear he AS AST AG AE AL HR2
        generalize errL (applyG L a) x = er at *
        go_wp2
        go_ret
        exact END.out
end Go.Proofs.YtpldkgollhbolaaGreat
