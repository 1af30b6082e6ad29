/-
  The contract of appendDue: the leases whose end has come, by their places in the heap, behind a row of the call's own. Condition: the row with what is added has at most 2000 leases.
-/
import Derived.Test.YtpldkgollhbolaaTbTh
namespace Go.Proofs.Ytpldkgollhbolaa
open Go.RowKit Go.Joins Go.Maps

variable {w w' V W W' : World} {t km om : Nat} {O : Nat → Prop} {v : Value} {E : List En} {L : List Ls}
/-- those due, of a place and below it -/
def dueL (E : List En) (now : Int) (i : Nat) : List Ls :=
  if h : i < E.length then (if E[i].2.un ≤ now then E[i].2 :: (dueL E now (2 * i + 1) ++ dueL E now (2 * i + 2)) else []) else []
termination_by E.length - i
decreasing_by all_goals omega
theorem dueL_out {now : Int} {i : Nat} (h : E.length ≤ i) : dueL E now i = [] := by rw [dueL, dif_neg (by omega)]
theorem dueL_no {now : Int} {i : Nat} {x : En} (h : E[i]? = some x) (hn : ¬ x.2.un ≤ now) : dueL E now i = [] := by
  obtain ⟨h1, rfl⟩ := List.getElem?_eq_some_iff.1 h
  rw [dueL, dif_pos h1, if_neg hn]
theorem dueL_yes {now : Int} {i : Nat} {x : En} (h : E[i]? = some x) (hn : x.2.un ≤ now) : dueL E now i = x.2 :: (dueL E now (2 * i + 1) ++ dueL E now (2 * i + 2)) := by
  obtain ⟨h1, rfl⟩ := List.getElem?_eq_some_iff.1 h
  rw [dueL, dif_pos h1, if_pos hn]
def dueB (now : Int) (x : Ls) : Bool := decide (x.un ≤ now)
theorem heap_child (hh : HeapF (unE E) E.length) {i k : Nat} {x y : En} (hx : E[i]? = some x) (hy : E[k]? = some y) (hk : 0 < k) (e : (k - 1) / 2 = i) : x.2.un ≤ y.2.un := by
  have := hh k hk (List.getElem?_eq_some_iff.1 hy).1
  rw [e, unE_some hx, unE_some hy] at this
  exact this
/-- whether due or not: the place, then those below it -/
theorem dueL_split (hh : HeapF (unE E) E.length) (now : Int) {i : Nat} {x : En} (hx : E[i]? = some x) : dueL E now i = (if dueB now x.2 = true then [x.2] else []) ++ (dueL E now (2 * i + 1) ++ dueL E now (2 * i + 2)) := by
  by_cases h : x.2.un ≤ now
  · rw [dueL_yes hx h, if_pos (by unfold dueB; exact decide_eq_true h)]; rfl
  · have ch : ∀ k, (k - 1) / 2 = i → 0 < k → dueL E now k = [] := fun k hk h0 => by
      cases hy : E[k]? with
      | none => exact dueL_out (List.getElem?_eq_none_iff.1 hy)
      | some y => exact dueL_no hy (by have := heap_child hh hx hy h0 hk; omega)
    rw [dueL_no hx h, if_neg (by unfold dueB; simpa using h), ch (2 * i + 1) (by omega) (by omega), ch (2 * i + 2) (by omega) (by omega)]; rfl
/-- the places m to 2 m, each with what is below it, are all from m on -/
theorem dueL_front (hh : HeapF (unE E) E.length) (now : Int) : ∀ d m, E.length - m = d → ((List.range' m (m + 1)).flatMap (dueL E now)).Perm (((E.drop m).map (·.2)).filter (dueB now))
  | 0, m, hd => by
    rw [List.drop_eq_nil_of_le (by omega)]
    have : (List.range' m (m + 1)).flatMap (dueL E now) = [] := by
      rw [List.flatMap_eq_nil_iff]
      intro k hk
      have := List.mem_range'_1.1 hk
      exact dueL_out (by omega)
    rw [this]; exact .refl _
  | d + 1, m, hd => by
    have hm : m < E.length := by omega
    obtain ⟨x, hx⟩ : ∃ x, E[m]? = some x := ⟨_, List.getElem?_eq_getElem hm⟩
    have ih := dueL_front hh now d (m + 1) (by omega)
    have e1 : List.range' m (m + 1) = m :: List.range' (m + 1) m := List.range'_succ
    have e2 : List.range' (m + 1) (m + 1 + 1) = List.range' (m + 1) m ++ [2 * m + 1, 2 * m + 2] := by
      rw [List.range'_concat, List.range'_concat, List.append_assoc]
      congr 1
      simp only [List.cons_append, List.nil_append, List.cons.injEq, and_true]
      omega
    have e3 : ((E.drop m).map (·.2)).filter (dueB now) = (if dueB now x.2 = true then [x.2] else []) ++ ((E.drop (m + 1)).map (·.2)).filter (dueB now) := by
      rw [List.drop_eq_getElem_cons hm]
      have : E[m] = x := by obtain ⟨_, h⟩ := List.getElem?_eq_some_iff.1 hx; exact h
      rw [this, List.map_cons]
      split
      · rw [List.filter_cons_of_pos (by assumption)]; rfl
      · rw [List.filter_cons_of_neg (by assumption)]; rfl
    rw [e1, List.flatMap_cons, dueL_split hh now hx, e3, List.append_assoc]
    refine List.Perm.append_left _ (.trans ?_ ih)
    rw [e2, List.flatMap_append]
    refine List.perm_append_comm.trans (List.Perm.append_left _ ?_)
    simp [List.flatMap_cons]
theorem dueL_perm (hh : HeapF (unE E) E.length) (now : Int) : (dueL E now 0).Perm ((E.map (·.2)).filter (dueB now)) := by
  have := dueL_front hh now _ 0 rfl
  simpa using this
set_option maxRecDepth 100000 in
set_option maxHeartbeats 4000000 in
theorem appendDue_any (h : Ends w t km om O v E) (now : Int) : ∀ (m i : Nat), E.length - i ≤ m → ∀ (F : List Ls) (list : Value) (W : World), Below w.heap.size w W → W.ownsRow w.heap.size 36 8 list F.length (cellsL F) → (F ++ dueL E now i).length ≤ 2000 →
    Calls Try.prog 35 #[v, list, .int .i64 (i : Nat), .int .i64 now] W (fun e W' => ∃ list', e = .returned list' ∧ Below w.heap.size w W' ∧ W'.ownsRow w.heap.size 36 8 list' (F ++ dueL E now i).length (cellsL (F ++ dueL E now i))) := by
  intro m
  induction m with
  | zero =>
    intro i hi F list W hb ho _
    obtain ⟨g, cap, rfl⟩ := h.frm
    have hge : (E.length : Int) ≤ (i : Int) := by omega
    have hl2 : (E.length : Int) ≤ 2000 := by have := h.len; omega
    have R : Hid (∃ list', Ending.returned list = .returned list' ∧ Below w.heap.size w W ∧ W.ownsRow w.heap.size 36 8 list' (F ++ dueL E now i).length (cellsL (F ++ dueL E now i))) := hide (by
      rw [dueL_out (by omega), List.append_nil]; exact ⟨list, rfl, hb, ho⟩)
    clear h hi hb ho
    go_enter Try.func35, Try.ntmps35
    go_wp2
    go_ret
    exact R.out
  | succ m ih =>
    intro i hi F list W hb ho hF
    obtain ⟨g, cap, rfl⟩ := h.frm
    have hl2 : (E.length : Int) ≤ 2000 := by have := h.len; omega
    by_cases hlt : i < E.length
    · obtain ⟨x, hx⟩ : ∃ x, E[i]? = some x := ⟨_, List.getElem?_eq_getElem hlt⟩
      have HE := h.below hb
      have d0 := HE.at hx
      obtain ⟨b0, b1, b2, b3, b4, b5, b6, b7, b8⟩ := node_cells (HE.node _ _ hx)
      have hlt2 : (i : Int) < (E.length : Int) := by omega
      have hk0 : (0 : Int) ≤ (i : Int) := by omega
      by_cases hdue : x.2.un ≤ now
      · have e := dueL_yes hx hdue
        rw [e] at hF ⊢
        have hF2 : F.length + 1 + ((dueL E now (2 * i + 1)).length + (dueL E now (2 * i + 2)).length) ≤ 2000 := by simp at hF; omega
        have C1 := hide (fun l W hb ho => ih (2 * i + 1) (by omega) (F ++ [x.2]) l W hb ho (by simp; omega))
        have C2 := hide (fun l W hb ho => ih (2 * i + 2) (by omega) (F ++ [x.2] ++ dueL E now (2 * i + 1)) l W hb ho (by simp; omega))
        have EQ := hide (show F ++ [x.2] ++ dueL E now (2 * i + 1) ++ dueL E now (2 * i + 2) = F ++ x.2 :: (dueL E now (2 * i + 1) ++ dueL E now (2 * i + 2)) by simp)
        have W1 : IntKind.i64.wrap (2 * (i : Int)) = 2 * (i : Int) := by rw [IntKind.wrap_i64]; omega
        have W2 : IntKind.i64.wrap (2 * (i : Int) + 1) = 2 * (i : Int) + 1 := by rw [IntKind.wrap_i64]; omega
        have W3 : IntKind.i64.wrap (2 * (i : Int) + 2) = 2 * (i : Int) + 2 := by rw [IntKind.wrap_i64]; omega
        have I1 : ((2 * i + 1 : Nat) : Int) = 2 * (i : Int) + 1 := by omega
        have I2 : ((2 * i + 2 : Nat) : Int) = 2 * (i : Int) + 2 := by omega
        rw [I1] at C1
        rw [I2] at C2
        have hgt : ¬ now < x.2.un := by omega
        have HO := hide (World.ownsRow.alloc ho (.cells (leaseC x.2) 36))
        have HB := hide hb
        have hsz : w.heap.size ≤ (W.alloc (.cells (leaseC x.2) 36)).heap.size := by have := hb.size; simp; omega
        have HSZ := hide hsz
        have HN := hide (show F.length + 1 ≤ 2000 by omega)
        obtain ⟨i0, hi0, hz0, hz1, hz2⟩ := info_parts infoL
        generalize F ++ x.2 :: (dueL E now (2 * i + 1) ++ dueL E now (2 * i + 2)) = R at *
        generalize dueL E now (2 * i + 1) = D1 at *
        generalize dueL E now (2 * i + 2) = D2 at *
        clear h ih hi hb ho hx HE hF hF2 e hdue hsz I1 I2
        go_enter Try.func35, Try.ntmps35
        go_wp2_with (at_builtin; refine wpList_append_lies _ rfl (.tmp 26) (.tmp 34) 26 rfl w.heap.size 36 i0 zLv 8 72 Try.underlying26 hi0 hz0 hz1 hz2 rfl (by decide) _ _ _ rfl HO.out ⟨W.heap.size, 0, none⟩ 1 1 (wdL x.2) rfl rfl (fun j u hu => World.news_of_block (alloc_at (W := W) (.cells (leaseC x.2) 36) rfl) j u hu) (wdL_cell x.2) (by decide) (by have := HN.out; unfold maxLen; omega) (by have := HN.out; omega) HSZ.out _ rfl ?_; intro g2 cap2 w5 O5 G5 _ _)
        have B5 := hide (((HB.out.alloc HB.out.size _).grown G5 HSZ.out (fun j e => (HO.out.lt j e).1)) : Below w.heap.size w w5)
        have O6 : Hid (w5.ownsRow w.heap.size 36 8 (.slice (some ⟨g2, 0, none⟩) (F.length + 1) cap2) (F ++ [x.2]).length (cellsL (F ++ [x.2]))) := hide (by rw [cellsL_snoc, List.length_append]; exact O5)
        clear O5 G5 b0 b1 b2 b3 b4 b5 b6 b7 b8 d0
        have K1 := hide (C1.out _ _ B5.out O6.out)
        go_wp2_with fail
        refine K1.out.mono ?_
        rintro e w6 ⟨l6, rfl, B6, O6⟩
        have K2 := hide (C2.out _ _ B6 O6)
        clear B6 O6
        go_wp2_with fail
        refine K2.out.mono ?_
        rintro e w7 ⟨l7, rfl, B7, O7⟩
        rw [EQ.out] at O7
        have B8 := hide B7
        have O8 := hide O7
        clear B7 O7
        go_wp2
        go_ret
        exact ⟨l7, rfl, B8.out, O8.out⟩
      · have hgt : now < x.2.un := by omega
        have R : Hid (∃ list', Ending.returned list = .returned list' ∧ Below w.heap.size w W ∧ W.ownsRow w.heap.size 36 8 list' (F ++ dueL E now i).length (cellsL (F ++ dueL E now i))) := hide (by
          rw [dueL_no hx hdue, List.append_nil]; exact ⟨list, rfl, hb, ho⟩)
        clear h ih hi hb ho hx HE hF hdue
        go_enter Try.func35, Try.ntmps35
        go_wp2
        go_ret
        exact R.out
    · have hge : (E.length : Int) ≤ (i : Int) := by omega
      have R : Hid (∃ list', Ending.returned list = .returned list' ∧ Below w.heap.size w W ∧ W.ownsRow w.heap.size 36 8 list' (F ++ dueL E now i).length (cellsL (F ++ dueL E now i))) := hide (by
        rw [dueL_out (by omega), List.append_nil]; exact ⟨list, rfl, hb, ho⟩)
      clear h ih hi hb ho hF
      go_enter Try.func35, Try.ntmps35
      go_wp2
      go_ret
      exact R.out
end Go.Proofs.Ytpldkgollhbolaa
