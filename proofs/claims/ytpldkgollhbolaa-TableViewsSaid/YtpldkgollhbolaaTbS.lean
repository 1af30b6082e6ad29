/-
  The heap of a table's leases in memory: its method Swap. No condition beyond those in each theorem's own statement.
-/
import Derived.Test.YtpldkgollhbolaaTbE
namespace Go.Proofs.Ytpldkgollhbolaa
open Go.RowKit Go.Joins Go.Maps

variable {w w' : World} {t km om : Nat} {O : Nat → Prop} {v : Value} {E : List En}
theorem Ends.ne (h : Ends w t km om O v E) {i k : Nat} {x e : En} (hx : E[i]? = some x) (he : E[k]? = some e) (e1 : e.1 = x.1) : k = i := by
  have a := h.node i x hx
  have b := h.node k e he
  unfold NodeAt at a b
  rw [e1, a] at b
  simp only [Option.some.injEq, Obj.cells.injEq] at b
  have := congrArg (fun c : Array Value => c[8]?) b.1
  simp only [nodeC] at this
  simp at this
  omega
theorem Ends.neT (h : Ends w t km om O v E) {i : Nat} {x : En} (hx : E[i]? = some x) : x.1 ≠ t := by
  intro e
  have a := h.node i x hx
  unfold NodeAt at a
  rw [e, h.tab] at a
  simp [tabC, nodeC] at a
theorem Ends.rowT {g cap : Nat} (h : Ends w t km om O (.slice (some ⟨g, 0, none⟩) E.length cap) E) : ∃ cur, w.heap[g]? = some (.cells cur 67 (0, 0)) := by
  rcases h.row.2 with ⟨h', _⟩ | ⟨g', cap', cur, h', hb, hg, hnc, hcm, hcs, htake⟩
  · simp at h'
  · simp only [Value.slice.injEq, Option.some.injEq, Go.Addr.mk.injEq, and_true, true_and] at h'
    obtain ⟨rfl, rfl⟩ := h'
    exact ⟨cur, hg⟩
theorem Ends.neG {g cap : Nat} (h : Ends w t km om O (.slice (some ⟨g, 0, none⟩) E.length cap) E) : g ≠ t ∧ ∀ {i : Nat} {x : En}, E[i]? = some x → x.1 ≠ g := by
  obtain ⟨cur, hg⟩ := h.rowT
  refine ⟨fun e => ?_, fun {i x} hx e => ?_⟩
  · rw [e, h.tab] at hg; simp at hg
  · have a := h.node i x hx
    unfold NodeAt at a
    rw [e, hg] at a; simp at a
theorem set_ne (w : World) {b k : Nat} (i : Nat) (u : Value) (h : b ≠ k) : (w.setCell ⟨k, i, none⟩ u).heap[b]? = w.heap[b]? := Below.heap_setCell w ⟨k, i, none⟩ u b h
theorem node_set {g i : Nat} {x : Ls} (h : NodeAt w g x i) (j : Nat) : NodeAt (w.setCell ⟨g, 8, none⟩ (.int .i64 (j : Int))) g x j := by
  unfold NodeAt
  rw [set_block h]
  rfl
theorem node_ne {g i : Nat} {x : Ls} (h : NodeAt w g x i) {b : Nat} (k : Nat) (u : Value) (hb : g ≠ b) : NodeAt (w.setCell ⟨b, k, none⟩ u) g x i := by
  unfold NodeAt; rw [set_ne w k u hb]; exact h
theorem node_drewN {g i : Nat} {x : Ls} (h : NodeAt w g x i) (n : Nat) : NodeAt (w.drewN n) g x i := h
/-- the world behind Swap -/
theorem swap_ends {g cap : Nat} (h : Ends w t km om O (.slice (some ⟨g, 0, none⟩) E.length cap) E) {i j : Nat} {x y : En} (hx : E[i]? = some x) (hy : E[j]? = some y) (hij : i ≠ j) :
    Ends ((((w.setCell ⟨g, i, none⟩ (Pt y.1)).setCell ⟨g, j, none⟩ (Pt x.1)).setCell ⟨y.1, 8, none⟩ (.int .i64 (i : Int))).setCell ⟨x.1, 8, none⟩ (.int .i64 (j : Int))) t km om O (.slice (some ⟨g, 0, none⟩) E.length cap) (swapL E i j) ∧
    Hp O w ((((w.setCell ⟨g, i, none⟩ (Pt y.1)).setCell ⟨g, j, none⟩ (Pt x.1)).setCell ⟨y.1, 8, none⟩ (.int .i64 (i : Int))).setCell ⟨x.1, 8, none⟩ (.int .i64 (j : Int))) := by
  have hE : swapL E i j = (E.set i y).set j x := swapL_eq hx hy
  have hil := (List.getElem?_eq_some_iff.1 hx).1
  have hjl := (List.getElem?_eq_some_iff.1 hy).1
  obtain ⟨gt, gn⟩ := h.neG
  have xt := h.neT hx
  have yt := h.neT hy
  have xg := gn hx
  have yg := gn hy
  have xy : x.1 ≠ y.1 := fun e => hij (h.ne hy hx e)
  have hO := h.own
  have ox : O x.1 := hO.2.2 x (List.mem_of_getElem? hx)
  have oy : O y.1 := hO.2.2 y (List.mem_of_getElem? hy)
  have og : O g := hO.2.1 g rfl
  refine ⟨⟨?_, ?_, ?_, ?_, ?_, ?_, ?_⟩, ?_⟩
  · rw [set_ne _ _ _ xt.symm, set_ne _ _ _ yt.symm, set_ne _ _ _ gt.symm, set_ne _ _ _ gt.symm]; exact h.tab
  · rw [swapL_length]
    have r1 := (h.row.stored i (Pt y.1)).1
    have r2 := (r1.stored j (Pt x.1)).1
    have e : (((rowE E).set i (Pt y.1)).set j (Pt x.1)) = rowE (swapL E i j) := by
      rw [hE]; unfold rowE; rw [List.map_set, List.map_set]
    rw [e] at r2
    have r3 := own_fr r2 (Fr.set _ ⟨y.1, 8, none⟩ (.int .i64 (i : Int))) (fun k hk e => by cases hk; exact yg e.symm)
    exact own_fr r3 (Fr.set _ ⟨x.1, 8, none⟩ (.int .i64 (j : Int))) (fun k hk e => by cases hk; exact xg e.symm)
  · intro k e he
    by_cases hk : k = j
    · subst hk
      rw [swapL_j hil hjl, hx] at he
      cases he
      have n1 := node_ne (node_ne (node_ne (h.node i x hx) i (Pt y.1) xg) k (Pt x.1) xg) 8 (.int .i64 (i : Int)) xy
      exact node_set n1 k
    · by_cases hk2 : k = i
      · subst hk2
        rw [swapL_i hil hjl, hy] at he
        cases he
        have n1 := node_ne (node_ne (h.node j y hy) k (Pt y.1) yg) j (Pt x.1) yg
        exact node_ne (node_set n1 k) 8 _ xy.symm
      · rw [swapL_ne hk2 hk] at he
        have eg := gn he
        have ex : e.1 ≠ x.1 := fun e1 => hk2 (h.ne hx he e1)
        have ey : e.1 ≠ y.1 := fun e1 => hk (h.ne hy he e1)
        exact node_ne (node_ne (node_ne (node_ne (h.node k e he) _ _ eg) _ _ eg) _ _ ey) _ _ ex
  · exact ⟨hO.1, fun k hk => hO.2.1 k hk, fun e he => hO.2.2 e ((swapL_perm E i j).mem_iff.1 he)⟩
  · intro k hk; have := h.lt k hk; simpa using this
  · rw [swapL_length]; exact h.len
  · rw [swapL_length]; exact ⟨_, _, rfl⟩
  · have a1 := Hp.set (O := O) w ⟨g, i, none⟩ (Pt y.1) og
    have a2 := Hp.set (O := O) (w.setCell ⟨g, i, none⟩ (Pt y.1)) ⟨g, j, none⟩ (Pt x.1) og
    have a3 := Hp.set (O := O) ((w.setCell ⟨g, i, none⟩ (Pt y.1)).setCell ⟨g, j, none⟩ (Pt x.1)) ⟨y.1, 8, none⟩ (.int .i64 (i : Int)) oy
    have a4 := Hp.set (O := O) (((w.setCell ⟨g, i, none⟩ (Pt y.1)).setCell ⟨g, j, none⟩ (Pt x.1)).setCell ⟨y.1, 8, none⟩ (.int .i64 (i : Int))) ⟨x.1, 8, none⟩ (.int .i64 (j : Int)) ox
    have gr : ∀ {a b : World}, Hp O a b → Hp (Gr O w a) a b := fun hp => ⟨hp.fr.mono (fun _ _ e => Or.inl e), hp.maps⟩
    exact ((a1.trans (gr a2)).trans (gr a3)).trans (gr a4)
/-- a call on the heap that makes no memory: what is behind it -/
def Swp (w : World) (t km om : Nat) (O : Nat → Prop) (v : Value) (E' : List En) (r : Value) (e : Ending) (w' : World) : Prop := e = .returned r ∧ Hp O w w' ∧ w'.heap.size = w.heap.size ∧ Ends w' t km om O v E'
theorem swp_end {g cap : Nat} {E' : List En} {W : World} (h : Ends W t km om O (.slice (some ⟨g, 0, none⟩) E.length cap) E' ∧ Hp O w W) (hs : W.heap.size = w.heap.size) (n : Nat) {e : Ending} (he : e = .returned (.tuple #[])) :
    Swp w t km om O (.slice (some ⟨g, 0, none⟩) E.length cap) E' (.tuple #[]) e (W.drewN n) :=
  ⟨he, h.2.trans ((Hp.drewN _ _ n)), hs, h.1.below (below_drewN W n)⟩
set_option maxHeartbeats 1000000 in
theorem swap_any (h : Ends w t km om O v E) (a b : Int) (ha0 : 0 ≤ a) (ha1 : a < E.length) (hb0 : 0 ≤ b) (hb1 : b < E.length) (hab : a ≠ b) :
    Calls Try.prog 105 #[v, .int .i64 a, .int .i64 b] w (Swp w t km om O v (swapL E a.toNat b.toNat) (.tuple #[])) := by
  obtain ⟨i, rfl⟩ := Int.eq_ofNat_of_zero_le ha0
  obtain ⟨j, rfl⟩ := Int.eq_ofNat_of_zero_le hb0
  rw [Int.toNat_natCast, Int.toNat_natCast]
  have hl := h.len
  have hij : i ≠ j := by omega
  obtain ⟨x, hx⟩ : ∃ x, E[i]? = some x := ⟨_, List.getElem?_eq_getElem (by omega)⟩
  obtain ⟨y, hy⟩ : ∃ y, E[j]? = some y := ⟨_, List.getElem?_eq_getElem (by omega)⟩
  obtain ⟨g, cap, rfl⟩ := h.frm
  have c1 := h.at hx
  have c2 := h.at hy
  have f0 := h.rowFree i
  have f1 := h.rowFree j
  have R := hide (fun n (e : Ending) he => swp_end (e := e) (swap_ends h hx hy hij) (by simp) n he)
  generalize swapL E i j = E' at *
  have nx := h.node _ _ hx
  have ny := h.node _ _ hy
  obtain ⟨_, gn⟩ := h.neG
  have xg := gn hx
  have yg := gn hy
  have xy : x.1 ≠ y.1 := fun e => hij (h.ne hy hx e)
  clear gn
  generalize x.1 = gx at *
  generalize y.1 = gy at *
  have A1 : (((w.setCell ⟨g, i, none⟩ (Pt gy)).setCell ⟨g, j, none⟩ (Pt gx))).cell? ⟨g, i, none⟩ = some (Pt gy) := by
    rw [World.cell?_setCell_other _ _ _ _ (fun e => hij (congrArg Go.Addr.off e).symm)]
    exact World.cell?_setCell_same _ _ _ c1
  have A2 : (((w.setCell ⟨g, i, none⟩ (Pt gy)).setCell ⟨g, j, none⟩ (Pt gx))).cell? ⟨g, j, none⟩ = some (Pt gx) := by
    refine World.cell?_setCell_same (u := Pt gy) _ _ _ ?_
    rw [World.cell?_setCell_other _ _ _ _ (fun e => hij (congrArg Go.Addr.off e))]
    exact c2
  have A3 : (((w.setCell ⟨g, i, none⟩ (Pt gy)).setCell ⟨g, j, none⟩ (Pt gx))).cell? ⟨gx, 8, none⟩ = some (.int .i64 (i : Int)) := by
    rw [node_at (node_ne (node_ne nx _ _ xg) _ _ xg)]; rfl
  have A4 : (((w.setCell ⟨g, i, none⟩ (Pt gy)).setCell ⟨g, j, none⟩ (Pt gx))).cell? ⟨gy, 8, none⟩ = some (.int .i64 (j : Int)) := by
    rw [node_at (node_ne (node_ne ny _ _ yg) _ _ yg)]; rfl
  have A5 : (((w.setCell ⟨g, i, none⟩ (Pt gy)).setCell ⟨g, j, none⟩ (Pt gx))).frozen? ⟨gx, 8, none⟩ = false := node_free (node_ne (node_ne nx _ _ xg) _ _ xg) 8
  have A6 : (((w.setCell ⟨g, i, none⟩ (Pt gy)).setCell ⟨g, j, none⟩ (Pt gx))).frozen? ⟨gy, 8, none⟩ = false := node_free (node_ne (node_ne ny _ _ yg) _ _ yg) 8
  clear h nx ny hx hy
  go_enter Try.func105, Try.ntmps105
  go_wp2_with fail
  go_region
  generalize hW : (w.setCell ⟨g, i, none⟩ (Pt gy)).setCell ⟨g, j, none⟩ (Pt gx) = W at *
  clear hW c1 c2 f0 f1
  go_wp2_with fail
  go_region
  go_end0
  first | exact R.out 2 _ rfl | exact R.out 1 _ rfl
end Go.Proofs.Ytpldkgollhbolaa
