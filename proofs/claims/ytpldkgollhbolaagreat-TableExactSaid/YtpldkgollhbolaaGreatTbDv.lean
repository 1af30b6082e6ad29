/-
  The contract of appendDue: the leases whose end has come, by their places in the heap, behind a row of the call's own. Condition: the row with what is added has at most 2000 leases.
  The contracts of Due's order and of a table's Due: those whose end has come, by their ends, then in their order, in new memory. No condition.
-/
import Derived.Test.YtpldkgollhbolaaGreatTbTh
namespace Go.Proofs.YtpldkgollhbolaaGreat
open Go.RowKit Go.Joins Go.Maps

variable {w w' V W W' : World} {t km om : Nat} {O : Nat → Prop} {v : Value} {E : List En} {L : List Ls}
/-- those due, of a place and below it -/
def dueL (E : List En) (now : Int) (i : Nat) : List Ls :=
  if h : i < E.length then (if E[i].2.un ≤ now then E[i].2 :: (dueL E now (2 * i + 1) ++ dueL E now (2 * i + 2)) else []) else []
termination_by E.length - i
decreasing_by all_goals omega
theorem dueL_out {now : Int} {i : Nat} (h : E.length ≤ i) : dueL E now i = [] := by rw [dueL, dif_neg (by omega)]
theorem dueL_no {now : Int} {i : Nat} {x : En} (h : E[i]? = some x) (hn : ¬ x.2.un ≤ now) : dueL E now i = [] := by
  obtain ⟨h1, rfl⟩ := List.getElem?_eq_some_iff.1 h
  rw [dueL, dif_pos h1, if_neg hn]
theorem dueL_yes {now : Int} {i : Nat} {x : En} (h : E[i]? = some x) (hn : x.2.un ≤ now) : dueL E now i = x.2 :: (dueL E now (2 * i + 1) ++ dueL E now (2 * i + 2)) := by
  obtain ⟨h1, rfl⟩ := List.getElem?_eq_some_iff.1 h
  rw [dueL, dif_pos h1, if_pos hn]
def dueB (now : Int) (x : Ls) : Bool := decide (x.un ≤ now)
theorem heap_child (hh : HeapF (unE E) E.length) {i k : Nat} {x y : En} (hx : E[i]? = some x) (hy : E[k]? = some y) (hk : 0 < k) (e : (k - 1) / 2 = i) : x.2.un ≤ y.2.un := by
  have := hh k hk (List.getElem?_eq_some_iff.1 hy).1
  rw [e, unE_some hx, unE_some hy] at this
  exact this
/-- whether due or not: the place, then those below it -/
theorem dueL_split (hh : HeapF (unE E) E.length) (now : Int) {i : Nat} {x : En} (hx : E[i]? = some x) : dueL E now i = (if dueB now x.2 = true then [x.2] else []) ++ (dueL E now (2 * i + 1) ++ dueL E now (2 * i + 2)) := by
  by_cases h : x.2.un ≤ now
  · rw [dueL_yes hx h, if_pos (by unfold dueB; exact decide_eq_true h)]; rfl
  · have ch : ∀ k, (k - 1) / 2 = i → 0 < k → dueL E now k = [] := fun k hk h0 => by
      cases hy : E[k]? with
      | none => exact dueL_out (List.getElem?_eq_none_iff.1 hy)
      | some y => exact dueL_no hy (by have := heap_child hh hx hy h0 hk; omega)
    rw [dueL_no hx h, if_neg (by unfold dueB; simpa using h), ch (2 * i + 1) (by omega) (by omega), ch (2 * i + 2) (by omega) (by omega)]; rfl
/-- the places m to 2 m, each with what is below it, are all from m on -/
theorem dueL_front (hh : HeapF (unE E) E.length) (now : Int) : ∀ d m, E.length - m = d → ((List.range' m (m + 1)).flatMap (dueL E now)).Perm (((E.drop m).map (·.2)).filter (dueB now))
  | 0, m, hd => by
    rw [List.drop_eq_nil_of_le (by omega)]
    have : (List.range' m (m + 1)).flatMap (dueL E now) = [] := by
      rw [List.flatMap_eq_nil_iff]
      intro k hk
      have := List.mem_range'_1.1 hk
      exact dueL_out (by omega)
    rw [this]; exact .refl _
  | d + 1, m, hd => by
    have hm : m < E.length := by omega
    obtain ⟨x, hx⟩ : ∃ x, E[m]? = some x := ⟨_, List.getElem?_eq_getElem hm⟩
    have ih := dueL_front hh now d (m + 1) (by omega)
    have e1 : List.range' m (m + 1) = m :: List.range' (m + 1) m := List.range'_succ
    have e2 : List.range' (m + 1) (m + 1 + 1) = List.range' (m + 1) m ++ [2 * m + 1, 2 * m + 2] := by
      rw [List.range'_concat, List.range'_concat, List.append_assoc]
      congr 1
      simp only [List.cons_append, List.nil_append, List.cons.injEq, and_true]
      omega
    have e3 : ((E.drop m).map (·.2)).filter (dueB now) = (if dueB now x.2 = true then [x.2] else []) ++ ((E.drop (m + 1)).map (·.2)).filter (dueB now) := by
      rw [List.drop_eq_getElem_cons hm]
      have : E[m] = x := by obtain ⟨_, h⟩ := List.getElem?_eq_some_iff.1 hx; exact h
      rw [this, List.map_cons]
      split
      · rw [List.filter_cons_of_pos (by assumption)]; rfl
      · rw [List.filter_cons_of_neg (by assumption)]; rfl
    rw [e1, List.flatMap_cons, dueL_split hh now hx, e3, List.append_assoc]
    refine List.Perm.append_left _ (.trans ?_ ih)
    rw [e2, List.flatMap_append]
    refine List.perm_append_comm.trans (List.Perm.append_left _ ?_)
    simp [List.flatMap_cons]
theorem dueL_perm (hh : HeapF (unE E) E.length) (now : Int) : (dueL E now 0).Perm ((E.map (·.2)).filter (dueB now)) := by
  have := dueL_front hh now _ 0 rfl
  simpa using this
set_option maxRecDepth 100000 in
set_option maxHeartbeats 4000000 in
theorem appendDue_any (h : Ends w t km om O v E) (now : Int) : ∀ (m i : Nat), E.length - i ≤ m → ∀ (F : List Ls) (list : Value) (W : World), Below w.heap.size w W → W.ownsRow w.heap.size 30 8 list F.length (cellsL F) → (F ++ dueL E now i).length ≤ 2000 →
    Calls Tryz.prog 38 #[v, list, .int .i64 (i : Nat), .int .i64 now] W (fun e W' => ∃ list', e = .returned list' ∧ Below w.heap.size w W' ∧ W'.ownsRow w.heap.size 30 8 list' (F ++ dueL E now i).length (cellsL (F ++ dueL E now i))) := by
  intro m
  induction m with
  | zero =>
    intro i hi F list W hb ho _
    obtain ⟨g, cap, rfl⟩ := h.frm
    have hge : (E.length : Int) ≤ (i : Int) := by omega
    have hl2 : (E.length : Int) ≤ 2000 := by have := h.len; omega
    have R : Hid (∃ list', Ending.returned list = .returned list' ∧ Below w.heap.size w W ∧ W.ownsRow w.heap.size 30 8 list' (F ++ dueL E now i).length (cellsL (F ++ dueL E now i))) := hide (by
      rw [dueL_out (by omega), List.append_nil]; exact ⟨list, rfl, hb, ho⟩)
    clear h hi hb ho
    go_enter Tryz.func38, Tryz.ntmps38
    go_wp2
    go_ret
    exact R.out
  | succ m ih =>
    intro i hi F list W hb ho hF
    obtain ⟨g, cap, rfl⟩ := h.frm
    have hl2 : (E.length : Int) ≤ 2000 := by have := h.len; omega
    by_cases hlt : i < E.length
    · obtain ⟨x, hx⟩ : ∃ x, E[i]? = some x := ⟨_, List.getElem?_eq_getElem hlt⟩
      have HE := h.below hb
      have d0 := HE.at hx
      obtain ⟨b0, b1, b2, b3, b4, b5, b6, b7, b8⟩ := node_cells (HE.node _ _ hx)
      have hlt2 : (i : Int) < (E.length : Int) := by omega
      have hk0 : (0 : Int) ≤ (i : Int) := by omega
      by_cases hdue : x.2.un ≤ now
      · have e := dueL_yes hx hdue
        rw [e] at hF ⊢
        have hF2 : F.length + 1 + ((dueL E now (2 * i + 1)).length + (dueL E now (2 * i + 2)).length) ≤ 2000 := by simp at hF; omega
        have C1 := hide (fun l W hb ho => ih (2 * i + 1) (by omega) (F ++ [x.2]) l W hb ho (by simp; omega))
        have C2 := hide (fun l W hb ho => ih (2 * i + 2) (by omega) (F ++ [x.2] ++ dueL E now (2 * i + 1)) l W hb ho (by simp; omega))
        have EQ := hide (show F ++ [x.2] ++ dueL E now (2 * i + 1) ++ dueL E now (2 * i + 2) = F ++ x.2 :: (dueL E now (2 * i + 1) ++ dueL E now (2 * i + 2)) by simp)
        have W1 : IntKind.i64.wrap (2 * (i : Int)) = 2 * (i : Int) := by rw [IntKind.wrap_i64]; omega
        have W2 : IntKind.i64.wrap (2 * (i : Int) + 1) = 2 * (i : Int) + 1 := by rw [IntKind.wrap_i64]; omega
        have W3 : IntKind.i64.wrap (2 * (i : Int) + 2) = 2 * (i : Int) + 2 := by rw [IntKind.wrap_i64]; omega
        have I1 : ((2 * i + 1 : Nat) : Int) = 2 * (i : Int) + 1 := by omega
        have I2 : ((2 * i + 2 : Nat) : Int) = 2 * (i : Int) + 2 := by omega
        rw [I1] at C1
        rw [I2] at C2
        have hgt : ¬ now < x.2.un := by omega
        have HO := hide (World.ownsRow.alloc ho (.cells (leaseC x.2) 30))
        have HB := hide hb
        have hsz : w.heap.size ≤ (W.alloc (.cells (leaseC x.2) 30)).heap.size := by have := hb.size; simp; omega
        have HSZ := hide hsz
        have HN := hide (show F.length + 1 ≤ 2000 by omega)
        obtain ⟨i0, hi0, hz0, hz1, hz2⟩ := info_parts infoL
        generalize F ++ x.2 :: (dueL E now (2 * i + 1) ++ dueL E now (2 * i + 2)) = R at *
        generalize dueL E now (2 * i + 1) = D1 at *
        generalize dueL E now (2 * i + 2) = D2 at *
        clear h ih hi hb ho hx HE hF hF2 e hdue hsz I1 I2
        go_enter Tryz.func38, Tryz.ntmps38
        go_wp2_with (at_builtin; refine wpList_append_lies _ rfl (.tmp 26) (.tmp 34) 43 rfl w.heap.size 30 i0 zLv 8 72 Tryz.underlying43 hi0 hz0 hz1 hz2 rfl (by decide) _ _ _ rfl HO.out ⟨W.heap.size, 0, none⟩ 1 1 (wdL x.2) rfl rfl (fun j u hu => World.news_of_block (alloc_at (W := W) (.cells (leaseC x.2) 30) rfl) j u hu) (wdL_cell x.2) (by decide) (by have := HN.out; unfold maxLen; omega) (by have := HN.out; omega) HSZ.out _ rfl ?_; intro g2 cap2 w5 O5 G5 _ _)
        have B5 := hide (((HB.out.alloc HB.out.size _).grown G5 HSZ.out (fun j e => (HO.out.lt j e).1)) : Below w.heap.size w w5)
        have O6 : Hid (w5.ownsRow w.heap.size 30 8 (.slice (some ⟨g2, 0, none⟩) (F.length + 1) cap2) (F ++ [x.2]).length (cellsL (F ++ [x.2]))) := hide (by rw [cellsL_snoc, List.length_append]; exact O5)
        clear O5 G5 b0 b1 b2 b3 b4 b5 b6 b7 b8 d0
        have K1 := hide (C1.out _ _ B5.out O6.out)
        go_wp2_with fail
        refine K1.out.mono ?_
        rintro e w6 ⟨l6, rfl, B6, O6⟩
        have K2 := hide (C2.out _ _ B6 O6)
        clear B6 O6
        go_wp2_with fail
        refine K2.out.mono ?_
        rintro e w7 ⟨l7, rfl, B7, O7⟩
        rw [EQ.out] at O7
        have B8 := hide B7
        have O8 := hide O7
        clear B7 O7
        go_wp2
        go_ret
        exact ⟨l7, rfl, B8.out, O8.out⟩
      · have hgt : now < x.2.un := by omega
        have R : Hid (∃ list', Ending.returned list = .returned list' ∧ Below w.heap.size w W ∧ W.ownsRow w.heap.size 30 8 list' (F ++ dueL E now i).length (cellsL (F ++ dueL E now i))) := hide (by
          rw [dueL_no hx hdue, List.append_nil]; exact ⟨list, rfl, hb, ho⟩)
        clear h ih hi hb ho hx HE hF hdue
        go_enter Tryz.func38, Tryz.ntmps38
        go_wp2
        go_ret
        exact R.out
    · have hge : (E.length : Int) ≤ (i : Int) := by omega
      have R : Hid (∃ list', Ending.returned list = .returned list' ∧ Below w.heap.size w W ∧ W.ownsRow w.heap.size 30 8 list' (F ++ dueL E now i).length (cellsL (F ++ dueL E now i))) := hide (by
        rw [dueL_out (by omega), List.append_nil]; exact ⟨list, rfl, hb, ho⟩)
      clear h ih hi hb ho hF
      go_enter Tryz.func38, Tryz.ntmps38
      go_wp2
      go_ret
      exact R.out
end Go.Proofs.YtpldkgollhbolaaGreat
namespace Go.Proofs.YtpldkgollhbolaaGreat
open Go.RowKit Go.Joins Go.Maps

variable {w w' V W W' : World} {t km om : Nat} {O : Nat → Prop} {v : Value} {E : List En} {L : List Ls}
def or2 (x y : Int) : Int := if x ≠ 0 then x else y
set_option maxRecDepth 100000 in
set_option maxHeartbeats 1000000 in
theorem or2_any (b : Nat) (x y : Int) (w : World) (h0 : w.cell? ⟨b, 0, none⟩ = some (.int .i64 x)) (h1 : w.cell? ⟨b, 1, none⟩ = some (.int .i64 y)) :
    Calls Tryz.prog 41 #[.slice (some ⟨b, 0, none⟩) 2 2] w (Same (.int .i64 (or2 x y)) w) := by
  by_cases hx : x = 0
  · subst hx
    by_cases hy : y = 0
    · subst hy
      go_enter Tryz.func41, Tryz.ntmps41
      go_wp2_with fail
      go_loopw [8] (fun i wr => ∃ k : Nat, k ≤ 2 ∧ i = .int .i64 k ∧ wr = w) (fun i _ => 2 - (intOf i).toNat)
      case atStart => exact ⟨0, by omega, rfl, rfl⟩
      case round =>
        obtain ⟨k, hk, rfl, rfl⟩ := hrel
        have : k = 0 ∨ k = 1 ∨ k = 2 := by omega
        rcases this with rfl | rfl | rfl
        · go_wp2
          go_roundw
          case rel => exact ⟨1, by omega, by go_num, by trivial⟩
          case measure => simp [intOf]
        · go_wp2
          go_roundw
          case rel => exact ⟨2, by omega, by go_num, by trivial⟩
          case measure => simp [intOf]
        · go_wp2
          go_ret
          exact ⟨rfl, rfl⟩
    · have K := hide (show or2 0 y = y from rfl)
      go_enter Tryz.func41, Tryz.ntmps41
      go_wp2_with fail
      go_loopw [8] (fun i wr => ∃ k : Nat, k ≤ 1 ∧ i = .int .i64 k ∧ wr = w) (fun i _ => 2 - (intOf i).toNat)
      case atStart => exact ⟨0, by omega, rfl, rfl⟩
      case round =>
        obtain ⟨k, hk, rfl, rfl⟩ := hrel
        have : k = 0 ∨ k = 1 := by omega
        rcases this with rfl | rfl
        · go_wp2
          go_roundw
          case rel => exact ⟨1, by omega, by go_num, by trivial⟩
          case measure => simp [intOf]
        · go_wp2
          go_ret
          exact ⟨congrArg Ending.returned (i64_eq K.out.symm), rfl⟩
  · have K := hide (show or2 x y = x by unfold or2; rw [if_pos hx])
    go_enter Tryz.func41, Tryz.ntmps41
    go_wp2_with fail
    go_loopw [8] (fun i wr => i = .int .i64 0 ∧ wr = w) (fun i _ => 2 - (intOf i).toNat)
    case atStart => exact ⟨rfl, rfl⟩
    case round =>
      obtain ⟨rfl, rfl⟩ := hrel
      go_wp2
      go_ret
      exact ⟨congrArg Ending.returned (i64_eq K.out.symm), rfl⟩
/-- by their ends, then in their order -/
def dueC (x y : Ls) : Int := or2 (cmpI x.un y.un) (cmpL x y)
theorem dueC_neg (x y : Ls) : dueC y x = - dueC x y := by
  unfold dueC or2
  rw [cmpL_neg x y]
  unfold cmpI
  repeat' split
  all_goals omega
theorem dueC_trans {x y z : Ls} (h : dueC x y ≤ 0) (k : dueC y z ≤ 0) : dueC x z ≤ 0 := by
  have a : ∀ u v : Ls, dueC u v ≤ 0 ↔ u.un < v.un ∨ (u.un = v.un ∧ cmpL u v ≤ 0) := fun u v => by
    unfold dueC or2 cmpI
    repeat' split
    all_goals omega
  rw [a] at *
  have c : cmpL x y ≤ 0 → cmpL y z ≤ 0 → cmpL x z ≤ 0 := fun h k => compare_trans (k1 := x.kind) (p1 := x.p) (n1 := x.n) h k
  omega
theorem dueC_zero {x y : Ls} (h : dueC x y = 0) : cmpL x y = 0 := by
  unfold dueC or2 at h
  split at h
  · rename_i hn; exact absurd h hn
  · exact h
theorem swo_due : Go.Sort.SWO (Go.Proofs.ltOf dueC) where
  irrefl x := by
    have : dueC x x = 0 := by have := dueC_neg x x; omega
    unfold ltOf; rw [this]; rfl
  trans x y z h1 h2 := by
    unfold ltOf at *; rw [decide_eq_true_iff] at *
    have a := dueC_trans (x := x) (y := y) (z := z) (by omega) (by omega)
    by_cases e : dueC x z = 0
    · have b := dueC_neg x z
      have := dueC_trans (x := y) (y := z) (z := x) (by omega) (by omega)
      have := dueC_neg x y
      omega
    · omega
  ntrans x y z h1 h2 := by
    unfold ltOf at *
    rw [decide_eq_false_iff_not] at *
    have a := dueC_neg x y
    have b := dueC_neg y z
    have c := dueC_neg x z
    have := dueC_trans (x := z) (y := y) (z := x) (by omega) (by omega)
    omega
structure XB (w : World) (x y : Ls) (W : World) : Prop where
  g : Grew w W
  a : W.heap[w.heap.size]? = some (.cells (leaseC x) 30 (0, 0))
  b : W.heap[w.heap.size + 1]? = some (.cells (leaseC y) 30 (0, 0))
theorem XB.step {x y : Ls} {W2 : World} (h : XB w x y W) (k : Grew W W2) : XB w x y W2 := ⟨h.g.trans k, (Fr.ofBelow k.1).keep h.a (fun e => e), (Fr.ofBelow k.1).keep h.b (fun e => e)⟩
def Cells8 (W : World) (b : Nat) (x : Ls) : Prop := W.cell? ⟨b, 0, none⟩ = some (.int .i64 x.kind) ∧ W.cell? ⟨b, 1, none⟩ = some (.int .u64 (hi x.p : Nat)) ∧ W.cell? ⟨b, 2, none⟩ = some (.int .u64 (lo x.p : Nat)) ∧ W.cell? ⟨b, 3, none⟩ = some (.int .i64 x.n) ∧
    W.cell? ⟨b, 4, none⟩ = some (.int .i64 x.st) ∧ W.cell? ⟨b, 5, none⟩ = some (.string x.cl) ∧ W.cell? ⟨b, 6, none⟩ = some (.int .u32 (x.ia : Int)) ∧ W.cell? ⟨b, 7, none⟩ = some (.int .i64 x.un)
theorem cells8 {b : Nat} {x : Ls} (h : W.heap[b]? = some (.cells (leaseC x) 30 (0, 0))) : Cells8 W b x := ⟨cell_at h 0, cell_at h 1, cell_at h 2, cell_at h 3, cell_at h 4, cell_at h 5, cell_at h 6, cell_at h 7⟩
theorem XB.new (w : World) (x y : Ls) : XB w x y ((w.alloc (.cells (leaseC x) 30)).alloc (.cells (leaseC y) 30)) :=
  ⟨(grew_alloc _ _).trans (grew_alloc _ _), (Fr.ofBelow (below_alloc _ _)).keep (heap_alloc_new w _) (fun e => e), alloc_at _ (by simp)⟩
theorem XB.all {x y : Ls} (h : XB w x y W) : XB w x y W ∧ W.cell? ⟨w.heap.size, 0, none⟩ = some (.int .i64 x.kind) ∧ W.cell? ⟨w.heap.size, 1, none⟩ = some (.int .u64 (hi x.p : Nat)) ∧ W.cell? ⟨w.heap.size, 2, none⟩ = some (.int .u64 (lo x.p : Nat)) ∧ W.cell? ⟨w.heap.size, 3, none⟩ = some (.int .i64 x.n) ∧
    W.cell? ⟨w.heap.size, 4, none⟩ = some (.int .i64 x.st) ∧ W.cell? ⟨w.heap.size, 5, none⟩ = some (.string x.cl) ∧ W.cell? ⟨w.heap.size, 6, none⟩ = some (.int .u32 (x.ia : Int)) ∧ W.cell? ⟨w.heap.size, 7, none⟩ = some (.int .i64 x.un) ∧
    W.cell? ⟨w.heap.size + 1, 0, none⟩ = some (.int .i64 y.kind) ∧ W.cell? ⟨w.heap.size + 1, 1, none⟩ = some (.int .u64 (hi y.p : Nat)) ∧ W.cell? ⟨w.heap.size + 1, 2, none⟩ = some (.int .u64 (lo y.p : Nat)) ∧ W.cell? ⟨w.heap.size + 1, 3, none⟩ = some (.int .i64 y.n) ∧
    W.cell? ⟨w.heap.size + 1, 4, none⟩ = some (.int .i64 y.st) ∧ W.cell? ⟨w.heap.size + 1, 5, none⟩ = some (.string y.cl) ∧ W.cell? ⟨w.heap.size + 1, 6, none⟩ = some (.int .u32 (y.ia : Int)) ∧ W.cell? ⟨w.heap.size + 1, 7, none⟩ = some (.int .i64 y.un) := by
  obtain ⟨a0, a1, a2, a3, a4, a5, a6, a7⟩ := cells8 h.a
  obtain ⟨b0, b1, b2, b3, b4, b5, b6, b7⟩ := cells8 h.b
  exact ⟨h, a0, a1, a2, a3, a4, a5, a6, a7, b0, b1, b2, b3, b4, b5, b6, b7⟩
set_option maxRecDepth 100000 in
set_option maxHeartbeats 2000000 in
theorem dueG_any (x y : Ls) (w : World) : Calls Tryz.prog 40 #[Lv x, Lv y] w (GivesG (.int .i64 (dueC x y)) w) := by
  have R := hide (show or2 (cmpI x.un y.un) (cmpL x y) = dueC x y from rfl)
  have TC := hide (fun W => tcompG_any x y W)
  generalize dueC x y = res at *
  generalize cmpL x y = cl at *
  have H := XB.new w x y
  go_enter Tryz.func40, Tryz.ntmps40
  go_wp2_with fail
  generalize hV : (w.alloc (.cells (leaseC x) 30)).alloc (.cells (leaseC y) 30) = V at *
  clear hV
  obtain ⟨_, a0, a1, a2, a3, a4, a5, a6, a7, b0, b1, b2, b3, b4, b5, b6, b7⟩ := H.all
  go_region_held3 (fun W => XB w x y W ∧ W.cell? ⟨w.heap.size, 0, none⟩ = some (.int .i64 x.kind) ∧ W.cell? ⟨w.heap.size, 1, none⟩ = some (.int .u64 (hi x.p : Nat)) ∧ W.cell? ⟨w.heap.size, 2, none⟩ = some (.int .u64 (lo x.p : Nat)) ∧ W.cell? ⟨w.heap.size, 3, none⟩ = some (.int .i64 x.n) ∧
    W.cell? ⟨w.heap.size, 4, none⟩ = some (.int .i64 x.st) ∧ W.cell? ⟨w.heap.size, 5, none⟩ = some (.string x.cl) ∧ W.cell? ⟨w.heap.size, 6, none⟩ = some (.int .u32 (x.ia : Int)) ∧ W.cell? ⟨w.heap.size, 7, none⟩ = some (.int .i64 x.un) ∧
    W.cell? ⟨w.heap.size + 1, 0, none⟩ = some (.int .i64 y.kind) ∧ W.cell? ⟨w.heap.size + 1, 1, none⟩ = some (.int .u64 (hi y.p : Nat)) ∧ W.cell? ⟨w.heap.size + 1, 2, none⟩ = some (.int .u64 (lo y.p : Nat)) ∧ W.cell? ⟨w.heap.size + 1, 3, none⟩ = some (.int .i64 y.n) ∧
    W.cell? ⟨w.heap.size + 1, 4, none⟩ = some (.int .i64 y.st) ∧ W.cell? ⟨w.heap.size + 1, 5, none⟩ = some (.string y.cl) ∧ W.cell? ⟨w.heap.size + 1, 6, none⟩ = some (.int .u32 (y.ia : Int)) ∧ W.cell? ⟨w.heap.size + 1, 7, none⟩ = some (.int .i64 y.un))
    (first
      | exact (H.step (grew_drew _)).all
      | exact H2.all
      | exact (H2.step (grew_alloc _ _)).all)
    (first
      | (go_at_call 42; refine (compareI_any _ _ _).mono ?_; rintro e w2 ⟨rfl, rfl⟩)
      | (go_at_call 43; refine (TC.out _).mono ?_; rintro e w2 ⟨rfl, hb2⟩; have H2 := (H.step (grew_drew _)).step hb2)
      | (go_at_call 41; refine (or2_any _ (cmpI x.un y.un) cl _ (by simp [go_sem]) (by simp [go_sem])).mono ?_; rintro e w5 ⟨rfl, rfl⟩))
  go_wp2
  go_ret
  exact ⟨congrArg Ending.returned (i64_eq R.out), (H2.step (grew_alloc _ _)).g⟩
/-- the order of what Due answers -/
abbrev DueL (R : List Ls) : Prop := R.Pairwise (fun x y => dueC x y < 0)
theorem dueL_unique {R M : List Ls} (h : R.Perm M) (h1 : DueL R) (h2 : DueL M) : R = M := srt_unique (fun {x y} h k => by have := dueC_neg x y; omega) h h1 h2
theorem due_strict {R F : List Ls} (hp : R.Perm F) (hs : R.Pairwise (fun x y => Go.Proofs.ltOf dueC y x = false)) (hF : SrtL F) : DueL R := by
  have hne : R.Pairwise (fun x y => cmpL x y ≠ 0) := by
    refine (hp.pairwise_iff (fun {x y} (h : cmpL x y ≠ 0) => by have := cmpL_neg x y; omega)).2 (hF.imp (fun h => by omega))
  refine (hs.and hne).imp (fun {x y} ⟨a, b⟩ => ?_)
  unfold ltOf at a
  rw [decide_eq_false_iff_not] at a
  have := dueC_neg x y
  by_cases e : dueC x y = 0
  · exact absurd (dueC_zero e) b
  · omega
def DuePost (w : World) (L : List Ls) (now : Int) (e : Ending) (w' : World) : Prop := ∃ R, R.Perm (L.filter (dueB now)) ∧ DueL R ∧ LsPost w R e w'
set_option maxRecDepth 100000 in
set_option maxHeartbeats 4000000 in
theorem tdue_any (h : IsTab w t O L) (now : Int) : Calls Tryz.prog 18 #[Pt t, .int .i64 now] w (DuePost w L now) := by
  obtain ⟨km, om, v, E, h, hs, hp⟩ := h
  have DP := (dueL_perm h.heap now).trans (hp.symm.filter _)
  have DL : (dueL E now 0).length ≤ 2000 := by
    have a := (dueL_perm h.heap now).length_eq
    have b := List.length_filter_le (dueB now) (E.map (·.2))
    have c := h.ends.len
    simp at b
    omega
  have AD := hide (appendDue_any h.ends now _ 0 (Nat.le_refl _) [] (.slice none 0 0) w (Below.refl _ _) (World.ownsRow_nil _ _ _ _) (by simpa using DL))
  rw [List.nil_append] at AD
  have SN := hide (fun p cap W => sort_none 40 p cap W)
  have HSF := hide (hs.sublist (List.filter_sublist (p := dueB now)))
  have HFP := hide DP
  have HFL := hide DL
  obtain ⟨c0, c1, c2⟩ := h.ends.tabs
  clear h hs hp DP DL
  generalize dueL E now 0 = F at *
  go_enter Tryz.func18, Tryz.ntmps18
  go_wp2_with fail
  refine AD.out.mono ?_
  rintro e w1 ⟨list, rfl, B1, O1⟩
  have HB := hide B1
  have HO := hide O1
  clear B1 O1 AD c0 c1 c2
  rcases ownsRow_forms HO.out with ⟨rfl, h0⟩ | ⟨g2, cap2, rfl⟩
  · obtain rfl : F = [] := List.eq_nil_of_length_eq_zero h0
    clear h0
    go_wp2_with fail
    refine (SN.out _ _ _).mono ?_
    rintro e w2 ⟨rfl, rfl⟩
    go_wp2
    go_ret
    exact ⟨[], HFP.out, .nil, _, rfl, ⟨none, 0, rfl, Or.inl rfl⟩, HB.out⟩
  · cases F with
    | nil =>
      go_wp2_with fail
      refine (SN.out _ _ _).mono ?_
      rintro e w2 ⟨rfl, rfl⟩
      go_wp2
      go_ret
      exact ⟨[], HFP.out, .nil, _, rfl, ⟨some ⟨g2, 0, none⟩, cap2, rfl, Or.inl rfl⟩, HB.out⟩
    | cons y F =>
      have hg := (HO.out.lt g2 rfl)
      have SA := hide (sort_any (cap := cap2) (enters_of Tryz.func40 (by kernel_rfl) rfl) dueG_any swo_due (holds_own HO.out) hg.2 HFL.out)
      have HG := hide hg
      clear hg
      generalize hF : y :: F = F2 at *
      clear hF
      go_wp2_with fail
      refine SA.out.mono ?_
      rintro e w2 ⟨rfl, R, hp, hs, hh, hf⟩
      have HP := hide hp
      have HS := hide (due_strict (hp.trans HFP.out) hs HSF.out)
      have HH := hide hh
      have HFR := hide hf
      clear hp hs hh hf
      go_wp2
      go_ret
      exact ⟨R, HP.out.trans HFP.out, HS.out, _, rfl, ⟨some ⟨g2, 0, none⟩, cap2, (by rw [HP.out.length_eq]; rfl), Or.inr ⟨g2, rfl, HG.out.1, Nat.lt_of_lt_of_le HG.out.2 HFR.out.size, HH.out⟩⟩, HB.out.trans (HFR.out.below HB.out.size (fun j e => by rw [e]; exact HG.out.1))⟩
end Go.Proofs.YtpldkgollhbolaaGreat
