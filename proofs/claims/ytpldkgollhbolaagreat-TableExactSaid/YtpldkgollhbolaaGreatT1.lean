/-
  The heap of a table's leases in memory: what it means, its methods Len, Less, Swap. No condition beyond those in each theorem's own statement.
  The heap of a table's leases in memory: its method Swap. No condition beyond those in each theorem's own statement.
  The heap of a table's leases in memory: its methods Push and Pop. No condition beyond those in each theorem's own statement.
  The library's heap at a table's leases: up, down, Push, Remove. No condition beyond those in each theorem's own statement.
-/
import Derived.Test.YtpldkgollhbolaaGreatT0
import Derived.Deep.AppendLies
namespace Go.Proofs.YtpldkgollhbolaaGreat
open Go.RowKit Go.Joins Go.Maps

/-- a lease, and the block of its node -/
abbrev En := Nat × Ls
def nodeC (x : Ls) (i : Nat) : Array Value := #[.int .i64 x.kind, .int .u64 (hi x.p : Nat), .int .u64 (lo x.p : Nat), .int .i64 x.n, .int .i64 x.st, .string x.cl, .int .u32 (x.ia : Int), .int .i64 x.un, .int .i64 (i : Int)]
def NodeAt (w : World) (g : Nat) (x : Ls) (i : Nat) : Prop := w.heap[g]? = some (.cells (nodeC x i) 75 (0, 0))
def rowE (E : List En) : List Value := E.map (fun e => Pt e.1)
def tabC (km om : Nat) (v : Value) : Array Value := #[.map (some km), .map (some om), v]
structure Ends (w : World) (t km om : Nat) (O : Nat → Prop) (v : Value) (E : List En) : Prop where
  tab : w.heap[t]? = some (.cells (tabC km om v) 71 (0, 0))
  row : w.ownsRow 0 72 1 v E.length (rowE E)
  node : ∀ i e, E[i]? = some e → NodeAt w e.1 e.2 i
  own : O t ∧ (∀ k, v.ownBlock = some k → O k) ∧ ∀ e ∈ E, O e.1
  lt : ∀ k, O k → k < w.heap.size
  len : E.length ≤ 2000
  frm : ∃ g cap, v = .slice (some ⟨g, 0, none⟩) E.length cap
def unE (E : List En) (k : Nat) : Int := match E[k]? with | some e => e.2.un | none => 0
theorem unE_some {E : List En} {k : Nat} {e : En} (h : E[k]? = some e) : unE E k = e.2.un := by unfold unE; rw [h]
/-- a call with this one result that draws alone -/
def Drew (v : Value) (w : World) (e : Ending) (w' : World) : Prop := e = .returned v ∧ ∃ n, w' = w.drewN n
/-- what is a map stays -/
def KeepM (w w' : World) : Prop := ∀ (k : Nat) (es : Array MapEntry) (c : Nat), w.heap[k]? = some (.map es c) → w'.heap[k]? = some (.map es c)
theorem KeepM.refl (w : World) : KeepM w w := fun _ _ _ h => h
theorem KeepM.trans {a b c : World} (h : KeepM a b) (k : KeepM b c) : KeepM a c := fun i es n hi => k i es n (h i es n hi)
theorem KeepM.set (w : World) (a : Go.Addr) (u : Value) : KeepM w (w.setCell a u) := fun i es n hi => by
  unfold World.setCell
  show (w.heap.modify a.block _)[i]? = _
  rw [Array.getElem?_modify]
  split
  · rw [hi]; rfl
  · exact hi
theorem KeepM.below {w w' : World} (h : Below w.heap.size w w') : KeepM w w' := fun i es n hi => by rw [h.block i (lt_of_block hi), hi]
/-- only O's blocks are written, no map among them -/
structure Hp (O : Nat → Prop) (w w' : World) : Prop where
  fr : Fr O w w'
  maps : KeepM w w'
theorem Hp.refl (O : Nat → Prop) (w : World) : Hp O w w := ⟨Fr.refl _ _, KeepM.refl _⟩
theorem Hp.trans {O : Nat → Prop} {a b c : World} (h : Hp O a b) (k : Hp (Gr O a b) b c) : Hp O a c := ⟨fr_gr h.fr k.fr, h.maps.trans k.maps⟩
theorem Hp.below {O : Nat → Prop} {w w' : World} (h : Below w.heap.size w w') : Hp O w w' := ⟨(Fr.ofBelow h).no, KeepM.below h⟩
theorem Hp.drewN (O : Nat → Prop) (w : World) (n : Nat) : Hp O w (w.drewN n) := Hp.below (below_drewN w n)
theorem Hp.set {O : Nat → Prop} (w : World) (a : Go.Addr) (u : Value) (h : O a.block) : Hp O w (w.setCell a u) := ⟨(Fr.set w a u).mono (fun _ _ e => e ▸ h), KeepM.set w a u⟩

variable {w w' : World} {t km om : Nat} {O : Nat → Prop} {v : Value} {E : List En}
theorem Ends.cell (h : Ends w t km om O v E) : w.cell? ⟨t, 2, none⟩ = some v := by rw [cell_at h.tab]; rfl
theorem Ends.free (h : Ends w t km om O v E) : w.frozen? ⟨t, 2, none⟩ = false := free_at h.tab 2
theorem Ends.at {g cap : Nat} (h : Ends w t km om O (.slice (some ⟨g, 0, none⟩) E.length cap) E) {i : Nat} {e : En} (hi : E[i]? = some e) : w.cell? ⟨g, i, none⟩ = some (Pt e.1) := by
  have hl := (List.getElem?_eq_some_iff.1 hi).1
  rw [h.row.cellAt i (by omega)]
  unfold rowE
  rw [List.getElem?_map, hi]; rfl
theorem Ends.rowFree {g cap : Nat} (h : Ends w t km om O (.slice (some ⟨g, 0, none⟩) E.length cap) E) (i : Nat) : w.frozen? ⟨g, i, none⟩ = false := h.row.frozenAt i
theorem node_at {g i : Nat} {x : Ls} (h : NodeAt w g x i) (k : Nat) : w.cell? ⟨g, k, none⟩ = (nodeC x i)[k]? := cell_at h k
theorem node_free {g i : Nat} {x : Ls} (h : NodeAt w g x i) (k : Nat) : w.frozen? ⟨g, k, none⟩ = false := free_at h k
theorem Ends.below (h : Ends w t km om O v E) (hb : Below w.heap.size w w') : Ends w' t km om O v E :=
  ⟨by rw [hb.block _ (lt_of_block h.tab)]; exact h.tab, own_fr h.row (Fr.ofBelow hb) (fun _ _ e => e), fun i e hi => by unfold NodeAt; rw [hb.block _ (lt_of_block (h.node i e hi))]; exact h.node i e hi, h.own, fun k hk => Nat.lt_of_lt_of_le (h.lt k hk) hb.size, h.len, h.frm⟩
theorem Ends.gr (h : Ends w t km om O v E) (hs : w.heap.size ≤ w'.heap.size) (k : Ends w' t km om O v E) : Ends w' t km om (Gr O w w') v E :=
  ⟨k.tab, k.row, k.node, ⟨Or.inl k.own.1, fun i hi => Or.inl (k.own.2.1 i hi), fun e he => Or.inl (k.own.2.2 e he)⟩, gr_lt h.lt hs, k.len, k.frm⟩

theorem len_any (h : Ends w t km om O v E) : Calls Tryz.prog 127 #[v] w (Same (.int .i64 (E.length : Int)) w) := by
  have hl := h.len
  obtain ⟨g, cap, rfl⟩ := h.frm
  clear h
  go_enter Tryz.func127, Tryz.ntmps127
  go_wp2
  go_ret
  exact ⟨rfl, rfl⟩
set_option maxHeartbeats 1000000 in
theorem less_any (h : Ends w t km om O v E) (a b : Int) (ha0 : 0 ≤ a) (ha1 : a < E.length) (hb0 : 0 ≤ b) (hb1 : b < E.length) :
    Calls Tryz.prog 128 #[v, .int .i64 a, .int .i64 b] w (Drew (.bool (decide (unE E a.toNat < unE E b.toNat))) w) := by
  obtain ⟨i, rfl⟩ := Int.eq_ofNat_of_zero_le ha0
  obtain ⟨j, rfl⟩ := Int.eq_ofNat_of_zero_le hb0
  rw [Int.toNat_natCast, Int.toNat_natCast]
  have hl := h.len
  obtain ⟨x, hx⟩ : ∃ x, E[i]? = some x := ⟨_, List.getElem?_eq_getElem (by omega)⟩
  obtain ⟨y, hy⟩ : ∃ y, E[j]? = some y := ⟨_, List.getElem?_eq_getElem (by omega)⟩
  rw [unE_some hx, unE_some hy]
  obtain ⟨g, cap, rfl⟩ := h.frm
  have c1 := h.at hx
  have c2 := h.at hy
  have c3 : w.cell? ⟨x.1, 7, none⟩ = some (.int .i64 x.2.un) := by rw [node_at (h.node _ _ hx)]; rfl
  have c4 : w.cell? ⟨y.1, 7, none⟩ = some (.int .i64 y.2.un) := by rw [node_at (h.node _ _ hy)]; rfl
  have R : Hid (∀ (b : Bool) (n : Nat), decide (x.2.un < y.2.un) = b → Drew (.bool (decide (x.2.un < y.2.un))) w (.returned (.bool b)) (w.drewN n)) := hide (fun b n e => ⟨by rw [e], n, rfl⟩)
  generalize x.2.un = u1 at *
  generalize y.2.un = u2 at *
  generalize x.1 = g1 at *
  generalize y.1 = g2 at *
  clear h hx hy
  go_enter Tryz.func128, Tryz.ntmps128
  go_wp2
  go_quiet (fail)
  go_wp2
  go_ret
  exact R.out _ _ rfl
end Go.Proofs.YtpldkgollhbolaaGreat
namespace Go.Proofs.YtpldkgollhbolaaGreat
open Go.RowKit Go.Joins Go.Maps

variable {w w' : World} {t km om : Nat} {O : Nat → Prop} {v : Value} {E : List En}
theorem Ends.ne (h : Ends w t km om O v E) {i k : Nat} {x e : En} (hx : E[i]? = some x) (he : E[k]? = some e) (e1 : e.1 = x.1) : k = i := by
  have a := h.node i x hx
  have b := h.node k e he
  unfold NodeAt at a b
  rw [e1, a] at b
  simp only [Option.some.injEq, Obj.cells.injEq] at b
  have := congrArg (fun c : Array Value => c[8]?) b.1
  simp only [nodeC] at this
  simp at this
  omega
theorem Ends.neT (h : Ends w t km om O v E) {i : Nat} {x : En} (hx : E[i]? = some x) : x.1 ≠ t := by
  intro e
  have a := h.node i x hx
  unfold NodeAt at a
  rw [e, h.tab] at a
  simp [tabC, nodeC] at a
theorem Ends.rowT {g cap : Nat} (h : Ends w t km om O (.slice (some ⟨g, 0, none⟩) E.length cap) E) : ∃ cur, w.heap[g]? = some (.cells cur 72 (0, 0)) := by
  rcases h.row.2 with ⟨h', _⟩ | ⟨g', cap', cur, h', hb, hg, hnc, hcm, hcs, htake⟩
  · simp at h'
  · simp only [Value.slice.injEq, Option.some.injEq, Go.Addr.mk.injEq, and_true, true_and] at h'
    obtain ⟨rfl, rfl⟩ := h'
    exact ⟨cur, hg⟩
theorem Ends.neG {g cap : Nat} (h : Ends w t km om O (.slice (some ⟨g, 0, none⟩) E.length cap) E) : g ≠ t ∧ ∀ {i : Nat} {x : En}, E[i]? = some x → x.1 ≠ g := by
  obtain ⟨cur, hg⟩ := h.rowT
  refine ⟨fun e => ?_, fun {i x} hx e => ?_⟩
  · rw [e, h.tab] at hg; simp at hg
  · have a := h.node i x hx
    unfold NodeAt at a
    rw [e, hg] at a; simp at a
theorem set_ne (w : World) {b k : Nat} (i : Nat) (u : Value) (h : b ≠ k) : (w.setCell ⟨k, i, none⟩ u).heap[b]? = w.heap[b]? := Below.heap_setCell w ⟨k, i, none⟩ u b h
theorem node_set {g i : Nat} {x : Ls} (h : NodeAt w g x i) (j : Nat) : NodeAt (w.setCell ⟨g, 8, none⟩ (.int .i64 (j : Int))) g x j := by
  unfold NodeAt
  rw [set_block h]
  rfl
theorem node_ne {g i : Nat} {x : Ls} (h : NodeAt w g x i) {b : Nat} (k : Nat) (u : Value) (hb : g ≠ b) : NodeAt (w.setCell ⟨b, k, none⟩ u) g x i := by
  unfold NodeAt; rw [set_ne w k u hb]; exact h
theorem node_drewN {g i : Nat} {x : Ls} (h : NodeAt w g x i) (n : Nat) : NodeAt (w.drewN n) g x i := h
/-- the world behind Swap -/
theorem swap_ends {g cap : Nat} (h : Ends w t km om O (.slice (some ⟨g, 0, none⟩) E.length cap) E) {i j : Nat} {x y : En} (hx : E[i]? = some x) (hy : E[j]? = some y) (hij : i ≠ j) :
    Ends ((((w.setCell ⟨g, i, none⟩ (Pt y.1)).setCell ⟨g, j, none⟩ (Pt x.1)).setCell ⟨y.1, 8, none⟩ (.int .i64 (i : Int))).setCell ⟨x.1, 8, none⟩ (.int .i64 (j : Int))) t km om O (.slice (some ⟨g, 0, none⟩) E.length cap) (swapL E i j) ∧
    Hp O w ((((w.setCell ⟨g, i, none⟩ (Pt y.1)).setCell ⟨g, j, none⟩ (Pt x.1)).setCell ⟨y.1, 8, none⟩ (.int .i64 (i : Int))).setCell ⟨x.1, 8, none⟩ (.int .i64 (j : Int))) := by
  have hE : swapL E i j = (E.set i y).set j x := swapL_eq hx hy
  have hil := (List.getElem?_eq_some_iff.1 hx).1
  have hjl := (List.getElem?_eq_some_iff.1 hy).1
  obtain ⟨gt, gn⟩ := h.neG
  have xt := h.neT hx
  have yt := h.neT hy
  have xg := gn hx
  have yg := gn hy
  have xy : x.1 ≠ y.1 := fun e => hij (h.ne hy hx e)
  have hO := h.own
  have ox : O x.1 := hO.2.2 x (List.mem_of_getElem? hx)
  have oy : O y.1 := hO.2.2 y (List.mem_of_getElem? hy)
  have og : O g := hO.2.1 g rfl
  refine ⟨⟨?_, ?_, ?_, ?_, ?_, ?_, ?_⟩, ?_⟩
  · rw [set_ne _ _ _ xt.symm, set_ne _ _ _ yt.symm, set_ne _ _ _ gt.symm, set_ne _ _ _ gt.symm]; exact h.tab
  · rw [swapL_length]
    have r1 := (h.row.stored i (Pt y.1)).1
    have r2 := (r1.stored j (Pt x.1)).1
    have e : (((rowE E).set i (Pt y.1)).set j (Pt x.1)) = rowE (swapL E i j) := by
      rw [hE]; unfold rowE; rw [List.map_set, List.map_set]
    rw [e] at r2
    have r3 := own_fr r2 (Fr.set _ ⟨y.1, 8, none⟩ (.int .i64 (i : Int))) (fun k hk e => by cases hk; exact yg e.symm)
    exact own_fr r3 (Fr.set _ ⟨x.1, 8, none⟩ (.int .i64 (j : Int))) (fun k hk e => by cases hk; exact xg e.symm)
  · intro k e he
    by_cases hk : k = j
    · subst hk
      rw [swapL_j hil hjl, hx] at he
      cases he
      have n1 := node_ne (node_ne (node_ne (h.node i x hx) i (Pt y.1) xg) k (Pt x.1) xg) 8 (.int .i64 (i : Int)) xy
      exact node_set n1 k
    · by_cases hk2 : k = i
      · subst hk2
        rw [swapL_i hil hjl, hy] at he
        cases he
        have n1 := node_ne (node_ne (h.node j y hy) k (Pt y.1) yg) j (Pt x.1) yg
        exact node_ne (node_set n1 k) 8 _ xy.symm
      · rw [swapL_ne hk2 hk] at he
        have eg := gn he
        have ex : e.1 ≠ x.1 := fun e1 => hk2 (h.ne hx he e1)
        have ey : e.1 ≠ y.1 := fun e1 => hk (h.ne hy he e1)
        exact node_ne (node_ne (node_ne (node_ne (h.node k e he) _ _ eg) _ _ eg) _ _ ey) _ _ ex
  · exact ⟨hO.1, fun k hk => hO.2.1 k hk, fun e he => hO.2.2 e ((swapL_perm E i j).mem_iff.1 he)⟩
  · intro k hk; have := h.lt k hk; simpa using this
  · rw [swapL_length]; exact h.len
  · rw [swapL_length]; exact ⟨_, _, rfl⟩
  · have a1 := Hp.set (O := O) w ⟨g, i, none⟩ (Pt y.1) og
    have a2 := Hp.set (O := O) (w.setCell ⟨g, i, none⟩ (Pt y.1)) ⟨g, j, none⟩ (Pt x.1) og
    have a3 := Hp.set (O := O) ((w.setCell ⟨g, i, none⟩ (Pt y.1)).setCell ⟨g, j, none⟩ (Pt x.1)) ⟨y.1, 8, none⟩ (.int .i64 (i : Int)) oy
    have a4 := Hp.set (O := O) (((w.setCell ⟨g, i, none⟩ (Pt y.1)).setCell ⟨g, j, none⟩ (Pt x.1)).setCell ⟨y.1, 8, none⟩ (.int .i64 (i : Int))) ⟨x.1, 8, none⟩ (.int .i64 (j : Int)) ox
    have gr : ∀ {a b : World}, Hp O a b → Hp (Gr O w a) a b := fun hp => ⟨hp.fr.mono (fun _ _ e => Or.inl e), hp.maps⟩
    exact ((a1.trans (gr a2)).trans (gr a3)).trans (gr a4)
/-- a call on the heap that makes no memory: what is behind it -/
def Swp (w : World) (t km om : Nat) (O : Nat → Prop) (v : Value) (E' : List En) (r : Value) (e : Ending) (w' : World) : Prop := e = .returned r ∧ Hp O w w' ∧ w'.heap.size = w.heap.size ∧ Ends w' t km om O v E'
theorem swp_end {g cap : Nat} {E' : List En} {W : World} (h : Ends W t km om O (.slice (some ⟨g, 0, none⟩) E.length cap) E' ∧ Hp O w W) (hs : W.heap.size = w.heap.size) (n : Nat) {e : Ending} (he : e = .returned (.tuple #[])) :
    Swp w t km om O (.slice (some ⟨g, 0, none⟩) E.length cap) E' (.tuple #[]) e (W.drewN n) :=
  ⟨he, h.2.trans ((Hp.drewN _ _ n)), hs, h.1.below (below_drewN W n)⟩
set_option maxHeartbeats 1000000 in
theorem swap_any (h : Ends w t km om O v E) (a b : Int) (ha0 : 0 ≤ a) (ha1 : a < E.length) (hb0 : 0 ≤ b) (hb1 : b < E.length) (hab : a ≠ b) :
    Calls Tryz.prog 129 #[v, .int .i64 a, .int .i64 b] w (Swp w t km om O v (swapL E a.toNat b.toNat) (.tuple #[])) := by
  obtain ⟨i, rfl⟩ := Int.eq_ofNat_of_zero_le ha0
  obtain ⟨j, rfl⟩ := Int.eq_ofNat_of_zero_le hb0
  rw [Int.toNat_natCast, Int.toNat_natCast]
  have hl := h.len
  have hij : i ≠ j := by omega
  obtain ⟨x, hx⟩ : ∃ x, E[i]? = some x := ⟨_, List.getElem?_eq_getElem (by omega)⟩
  obtain ⟨y, hy⟩ : ∃ y, E[j]? = some y := ⟨_, List.getElem?_eq_getElem (by omega)⟩
  obtain ⟨g, cap, rfl⟩ := h.frm
  have c1 := h.at hx
  have c2 := h.at hy
  have f0 := h.rowFree i
  have f1 := h.rowFree j
  have R := hide (fun n (e : Ending) he => swp_end (e := e) (swap_ends h hx hy hij) (by simp) n he)
  generalize swapL E i j = E' at *
  have nx := h.node _ _ hx
  have ny := h.node _ _ hy
  obtain ⟨_, gn⟩ := h.neG
  have xg := gn hx
  have yg := gn hy
  have xy : x.1 ≠ y.1 := fun e => hij (h.ne hy hx e)
  clear gn
  generalize x.1 = gx at *
  generalize y.1 = gy at *
  have A1 : (((w.setCell ⟨g, i, none⟩ (Pt gy)).setCell ⟨g, j, none⟩ (Pt gx))).cell? ⟨g, i, none⟩ = some (Pt gy) := by
    rw [World.cell?_setCell_other _ _ _ _ (fun e => hij (congrArg Go.Addr.off e).symm)]
    exact World.cell?_setCell_same _ _ _ c1
  have A2 : (((w.setCell ⟨g, i, none⟩ (Pt gy)).setCell ⟨g, j, none⟩ (Pt gx))).cell? ⟨g, j, none⟩ = some (Pt gx) := by
    refine World.cell?_setCell_same (u := Pt gy) _ _ _ ?_
    rw [World.cell?_setCell_other _ _ _ _ (fun e => hij (congrArg Go.Addr.off e))]
    exact c2
  have A3 : (((w.setCell ⟨g, i, none⟩ (Pt gy)).setCell ⟨g, j, none⟩ (Pt gx))).cell? ⟨gx, 8, none⟩ = some (.int .i64 (i : Int)) := by
    rw [node_at (node_ne (node_ne nx _ _ xg) _ _ xg)]; rfl
  have A4 : (((w.setCell ⟨g, i, none⟩ (Pt gy)).setCell ⟨g, j, none⟩ (Pt gx))).cell? ⟨gy, 8, none⟩ = some (.int .i64 (j : Int)) := by
    rw [node_at (node_ne (node_ne ny _ _ yg) _ _ yg)]; rfl
  have A5 : (((w.setCell ⟨g, i, none⟩ (Pt gy)).setCell ⟨g, j, none⟩ (Pt gx))).frozen? ⟨gx, 8, none⟩ = false := node_free (node_ne (node_ne nx _ _ xg) _ _ xg) 8
  have A6 : (((w.setCell ⟨g, i, none⟩ (Pt gy)).setCell ⟨g, j, none⟩ (Pt gx))).frozen? ⟨gy, 8, none⟩ = false := node_free (node_ne (node_ne ny _ _ yg) _ _ yg) 8
  clear h nx ny hx hy
  go_enter Tryz.func129, Tryz.ntmps129
  go_wp2_with fail
  go_region
  generalize hW : (w.setCell ⟨g, i, none⟩ (Pt gy)).setCell ⟨g, j, none⟩ (Pt gx) = W at *
  clear hW c1 c2 f0 f1
  go_wp2_with fail
  go_region
  go_end0
  first | exact R.out 2 _ rfl | exact R.out 1 _ rfl
end Go.Proofs.YtpldkgollhbolaaGreat
namespace Go.Proofs.YtpldkgollhbolaaGreat
open Go.RowKit Go.Joins Go.Maps

variable {w w' : World} {t km om : Nat} {O : Nat → Prop} {v : Value} {E : List En}
theorem infoN : (Tryz.prog.info? 72).map (fun i => (i.zero, i.size, i.bytes)) = some (some (.pointer none), 1, 8) := by kernel_rfl
theorem neRow (h : Ends w t km om O v E) {g0 i0 : Nat} {x : Ls} (hn : NodeAt w g0 x i0) : g0 ≠ t ∧ ∀ k, v.ownBlock = some k → g0 ≠ k ∧ t ≠ k := by
  refine ⟨fun e => ?_, fun k hk => ?_⟩
  · unfold NodeAt at hn; rw [e, h.tab] at hn; simp [tabC, nodeC] at hn
  · rcases h.row.2 with ⟨rfl, _⟩ | ⟨g, cap, cur, rfl, _, hg, _⟩
    · cases hk
    · cases hk
      refine ⟨fun e => ?_, fun e => ?_⟩
      · unfold NodeAt at hn; rw [e, hg] at hn; simp at hn
      · have := h.tab; rw [e, hg] at this; simp at this
theorem node_fr {S : Nat → Prop} {a b : World} {g i : Nat} {x : Ls} (h : NodeAt a g x i) (k : Fr S a b) (hn : ¬ S g) : NodeAt b g x i := k.keep h hn
theorem push_ends (h : Ends w t km om O v E) {g0 i0 : Nat} {x : Ls} (hn : NodeAt w g0 x i0) (hO : O g0) (hE : ∀ e ∈ E, e.1 ≠ g0) (hl : E.length + 1 ≤ 2000)
    {w3 : World} {g2 cap2 : Nat} (hr : w3.ownsRow 0 72 1 (.slice (some ⟨g2, 0, none⟩) (E.length + 1) cap2) (E.length + 1) (rowE E ++ [Pt g0]))
    (hg : ((w.setCell ⟨g0, 8, none⟩ (.int .i64 (E.length : Int))).alloc (.cells #[Pt g0] 72)).grownBy w3 v.ownBlock) (hor : v.ownBlock = some g2 ∨ g2 = w.heap.size + 1) (hlt : g2 < w3.heap.size) :
    Ends (w3.setCell ⟨t, 2, none⟩ (.slice (some ⟨g2, 0, none⟩) (E.length + 1) cap2)) t km om (Gr O w w3) (.slice (some ⟨g2, 0, none⟩) (E.length + 1) cap2) (E ++ [(g0, x)]) ∧ Hp O w (w3.setCell ⟨t, 2, none⟩ (.slice (some ⟨g2, 0, none⟩) (E.length + 1) cap2)) := by
  obtain ⟨nt, nr⟩ := neRow h hn
  have F1 : Fr (fun k => k = g0) w (w.setCell ⟨g0, 8, none⟩ (.int .i64 (E.length : Int))) := Fr.set w ⟨g0, 8, none⟩ _
  have F2 := F1.andNo (Fr.alloc (w.setCell ⟨g0, 8, none⟩ (.int .i64 (E.length : Int))) (.cells #[Pt g0] 72))
  have F3 : Fr (fun k => k = g0 ∨ some k = v.ownBlock) w w3 := (F2.mono (fun _ _ e => Or.inl e)).trans (Fr.grown hg) (fun _ _ e => Or.inr e)
  have sz := F3.size
  have htab : w3.heap[t]? = some (.cells (tabC km om v) 71 (0, 0)) := F3.keep h.tab (fun e => by
    rcases e with e | e
    · exact nt e.symm
    · exact (nr t e.symm).2 rfl)
  have ht2 : g2 ≠ t := by
    intro e
    rcases hor with e2 | e2
    · exact (nr g2 e2).2 e.symm
    · have := lt_of_block h.tab; omega
  have og2 : Gr O w w3 g2 := by
    rcases hor with e | e
    · exact Or.inl (h.own.2.1 _ e)
    · exact Or.inr ⟨by omega, hlt⟩
  have hN0 : NodeAt (w.setCell ⟨g0, 8, none⟩ (.int .i64 (E.length : Int))) g0 x E.length := node_set hn E.length
  have hN1 : NodeAt w3 g0 x E.length := node_fr (node_fr hN0 (Fr.alloc _ _) (fun e => e)) (Fr.grown hg) (fun e => (nr g0 e.symm).1 rfl)
  refine ⟨⟨?_, ?_, ?_, ?_, ?_, ?_, ?_⟩, ?_⟩
  · rw [set_block htab]; rfl
  · rw [List.length_append, show rowE (E ++ [(g0, x)]) = rowE E ++ [Pt g0] by simp [rowE]]
    exact own_fr hr (Fr.set w3 ⟨t, 2, none⟩ _) (fun k hk e => by cases hk; exact ht2 e)
  · intro i e he
    by_cases hi : i < E.length
    · rw [List.getElem?_append_left hi] at he
      have hne := hE e (List.mem_of_getElem? he)
      have hn1 := node_fr (h.node i e he) F3 (fun e1 => by
        rcases e1 with e1 | e1
        · exact hne e1
        · exact (neRow h (h.node i e he)).2 _ e1.symm |>.1 rfl)
      exact node_ne hn1 _ _ (neRow h (h.node i e he)).1
    · have hi2 : i = E.length := by
        have := (List.getElem?_eq_some_iff.1 he).1; simp at this; omega
      subst hi2
      rw [List.getElem?_append_right (Nat.le_refl _)] at he
      simp at he
      subst he
      exact node_ne hN1 _ _ nt
  · refine ⟨Or.inl h.own.1, fun k hk => by cases hk; exact og2, fun e he => ?_⟩
    rcases List.mem_append.1 he with he | he
    · exact Or.inl (h.own.2.2 e he)
    · rw [List.mem_singleton.1 he]; exact Or.inl hO
  · intro k hk
    have := gr_lt h.lt sz k hk
    simpa using this
  · simp; omega
  · exact ⟨g2, cap2, by simp⟩
  · refine ⟨(F3.mono (fun i _ e => ?_)).trans (Fr.set w3 ⟨t, 2, none⟩ _) (fun i _ e => by rw [show i = t from e]; exact h.own.1), ?_⟩
    · rcases e with e | e
      · rw [e]; exact hO
      · exact h.own.2.1 i e.symm
    · intro k es c hk
      have n1 : w3.heap[k]? = some (.map es c) := F3.keep hk (fun e => by
        rcases e with e | e
        · unfold NodeAt at hn; rw [e, hn] at hk; simp at hk
        · rcases h.row.2 with ⟨rfl, _⟩ | ⟨g, cap, cur, rfl, _, hg', _⟩
          · cases e
          · cases e; rw [hg'] at hk; simp at hk)
      exact KeepM.set w3 _ _ k es c n1
theorem gr_set (O : Nat → Prop) (w w3 : World) (a : Go.Addr) (u : Value) : Gr O w (w3.setCell a u) = Gr O w w3 := by funext k; simp [Gr]
/-- a call on the heap that may make memory -/
def Psh (w : World) (t km om : Nat) (O : Nat → Prop) (E' : List En) (r : Value) (e : Ending) (w' : World) : Prop := e = .returned r ∧ Hp O w w' ∧ ∃ v', Ends w' t km om (Gr O w w') v' E'
theorem bs_ptr (w : World) (g : Nat) : (Instr.buildSlice 69 1 #[(0, Pt g)]).run Tryz.prog w = .ok (.slice (some ⟨w.heap.size, 0, none⟩) 1 1) (w.alloc (.cells #[Pt g] 72)) := by kernel_rfl
theorem alloc_at {W : World} {n : Nat} (o : Obj) (h : W.heap.size = n) : (W.alloc o).heap[n]? = some o := by rw [← h]; exact heap_alloc_new W o
set_option maxRecDepth 100000 in
set_option maxHeartbeats 1000000 in
theorem push_any (h : Ends w t km om O v E) {g0 i0 : Nat} {x : Ls} (hn : NodeAt w g0 x i0) (hO : O g0) (hE : ∀ e ∈ E, e.1 ≠ g0) (hl : E.length + 1 ≤ 2000) :
    Calls Tryz.prog 131 #[.pointer (some ⟨t, 2, none⟩), .iface 72 (Pt g0)] w (Psh w t km om O (E ++ [(g0, x)]) (.tuple #[])) := by
  have c1 := h.cell
  have f1 := h.free
  have c2 : w.cell? ⟨g0, 8, none⟩ = some (.int .i64 (i0 : Int)) := by rw [node_at hn]; rfl
  have f2 := node_free hn 8
  obtain ⟨nt, nr⟩ := neRow h hn
  have PE := hide (fun w3 g2 cap2 hr hg hor hlt => push_ends (w3 := w3) (g2 := g2) (cap2 := cap2) h hn hO hE hl hr hg hor hlt)
  have R1 := hide (own_fr h.row (Fr.set w ⟨g0, 8, none⟩ (.int .i64 (E.length : Int))) (fun k hk e => (nr k hk).1 e.symm))
  have T1 := hide (Fr.keep (Fr.set w ⟨g0, 8, none⟩ (.int .i64 (E.length : Int))) h.tab (fun e => nt e.symm))
  have NR := hide (fun k hk => (nr k hk).2)
  have hlt := lt_of_block h.tab
  obtain ⟨i0', hi, hz0, hz1, hz2⟩ := info_parts infoN
  have ta : ∀ w, (Instr.typeAssert (.iface 72 (Pt g0)) 20 72 false).run Tryz.prog w = .ok (Pt g0) w := fun _ => by kernel_rfl
  have bs := fun W => bs_ptr W g0
  have HL := hide hl
  have E2 : Hid (E.length + 1 ≤ 2000 → (E.length + 1 ≤ maxLen ∧ (E.length + 1) * 8 ≤ 140737488355328)) := hide (fun h => by unfold maxLen; omega)
  obtain ⟨g, cap, rfl⟩ := h.frm
  clear h hn hE nt nr hl
  go_enter Tryz.func131, Tryz.ntmps131
  go_wp2_with (at_builtin; refine wpList_append_lies _ rfl _ _ 69 rfl 0 72 i0' (.pointer none) 1 8 Tryz.underlying69 hi hz0 hz1 hz2 rfl (by decide) (.slice (some ⟨g, 0, none⟩) E.length cap) E.length _ rfl (own_fr R1.out (Fr.alloc _ _) (fun _ _ e => e)) ⟨w.heap.size, 0, none⟩ 1 1 [Pt g0] rfl rfl (fun j u hu => World.news_of_block (alloc_at (W := w.setCell ⟨g0, 8, none⟩ (.int .i64 (E.length : Int))) _ (World.size_setCell _ _ _)) j u hu) (fun u hu => by simp at hu; subst hu; rfl) (by decide) (E2.out HL.out).1 (E2.out HL.out).2 (Nat.zero_le _) _ rfl ?_; intro g2 cap2 w3 O3 G3 L3 L4; have T3 := (Fr.grown G3).keep ((Fr.alloc _ _).keep T1.out (fun e => e)) (fun e => NR.out t e.symm rfl); have c3 : w3.cell? ⟨t, 2, none⟩ = some (.slice (some ⟨g, 0, none⟩) E.length cap) := (by rw [cell_at T3]; rfl); have f3 : w3.frozen? ⟨t, 2, none⟩ = false := free_at T3 2; have HT3 := hide T3; clear T3)
  go_end0
  have P := PE.out w3 g2 cap2 O3 G3 (L3.imp id (fun e => e.trans (by simp))) L4
  exact ⟨rfl, P.2, _, by rw [gr_set]; exact P.1⟩

theorem pop_ends {g cap : Nat} {g0 : Nat} {x : Ls} (h : Ends w t km om O (.slice (some ⟨g, 0, none⟩) (E.length + 1) cap) (E ++ [(g0, x)])) :
    Ends ((w.setCell ⟨g, E.length, none⟩ (.pointer none)).setCell ⟨t, 2, none⟩ (.slice (some ⟨g, 0, none⟩) E.length cap)) t km om O (.slice (some ⟨g, 0, none⟩) E.length cap) E ∧
    Hp O w ((w.setCell ⟨g, E.length, none⟩ (.pointer none)).setCell ⟨t, 2, none⟩ (.slice (some ⟨g, 0, none⟩) E.length cap)) := by
  have hlen : (E ++ [(g0, x)]).length = E.length + 1 := by simp
  have h' : Ends w t km om O (.slice (some ⟨g, 0, none⟩) (E ++ [(g0, x)]).length cap) (E ++ [(g0, x)]) := by rw [hlen]; exact h
  obtain ⟨gt, gn⟩ := h'.neG
  have hat : ∀ {i : Nat} {e : En}, E[i]? = some e → (E ++ [(g0, x)])[i]? = some e := fun {i e} hi => by
    rw [List.getElem?_append_left (List.getElem?_eq_some_iff.1 hi).1]; exact hi
  refine ⟨⟨?_, ?_, ?_, ?_, ?_, ?_, ⟨_, _, rfl⟩⟩, ?_⟩
  · have := set_ne w E.length (.pointer none) gt.symm
    rw [set_block (this.trans h.tab)]; rfl
  · have r1 := (h'.row.stored E.length (.pointer none)).1
    have e : (rowE (E ++ [(g0, x)])).set E.length (.pointer none) = rowE E ++ [.pointer none] := by
      unfold rowE
      rw [List.map_append, List.set_append_right _ _ (by simp)]
      simp
    rw [e, hlen] at r1
    have r2 := ownsRow_pop (by simp [rowE]) r1
    exact own_fr r2 (Fr.set _ ⟨t, 2, none⟩ _) (fun k hk e => by cases hk; exact gt e)
  · intro i e hi
    have a := hat hi
    exact node_ne (node_ne (h.node i e a) _ _ (gn a)) _ _ (h'.neT a)
  · exact ⟨h.own.1, fun k hk => h.own.2.1 k hk, fun e he => h.own.2.2 e (List.mem_append_left _ he)⟩
  · intro k hk; have := h.lt k hk; simpa using this
  · have := h.len; rw [hlen] at this; omega
  · have a1 := Hp.set (O := O) w ⟨g, E.length, none⟩ (.pointer none) (h.own.2.1 g rfl)
    have a2 := Hp.set (O := O) (w.setCell ⟨g, E.length, none⟩ (.pointer none)) ⟨t, 2, none⟩ (.slice (some ⟨g, 0, none⟩) E.length cap) h.own.1
    exact a1.trans ⟨a2.fr.mono (fun _ _ e => Or.inl e), a2.maps⟩
/-- a call on the heap that takes one out -/
def Pop (w : World) (t km om : Nat) (O : Nat → Prop) (E' : List En) (r : Value) (e : Ending) (w' : World) : Prop := e = .returned r ∧ Hp O w w' ∧ w'.heap.size = w.heap.size ∧ ∃ v', Ends w' t km om O v' E'
set_option maxRecDepth 100000 in
set_option maxHeartbeats 1000000 in
theorem pop_any {g0 : Nat} {x : Ls} (h : Ends w t km om O v (E ++ [(g0, x)])) :
    Calls Tryz.prog 130 #[.pointer (some ⟨t, 2, none⟩)] w (Pop w t km om O E (.iface 72 (Pt g0))) := by
  have c1 := h.cell
  have f1 := h.free
  obtain ⟨g, cap, rfl⟩ := h.frm
  have hlen : (E ++ [(g0, x)]).length = E.length + 1 := by simp
  have hx : (E ++ [(g0, x)])[E.length]? = some (g0, x) := by simp
  have c2 := h.at hx
  have f2 := h.rowFree E.length
  have gt := h.neG.1
  have hcap : E.length + 1 ≤ cap := by
    rcases h.row.2 with ⟨h', _⟩ | ⟨g', cap', cur, h', hb, hg, hnc, hcm, hcs, htake⟩
    · simp at h'
    · simp only [Value.slice.injEq, Option.some.injEq, Go.Addr.mk.injEq, and_true, true_and] at h'
      obtain ⟨_, rfl⟩ := h'
      rw [hlen] at hnc; exact hnc
  have hl : E.length + 1 ≤ 2000 := by have := h.len; rw [hlen] at this; exact this
  rw [hlen] at c1 h
  have PE := hide (pop_ends h)
  clear h hlen hx
  generalize E.length = m at *
  have d1 : (w.setCell ⟨g, m, none⟩ (.pointer none)).cell? ⟨t, 2, none⟩ = some (.slice (some ⟨g, 0, none⟩) (m + 1) cap) := by
    rw [World.cell?_setCell_other _ _ _ _ (fun e => gt (congrArg Go.Addr.block e))]; exact c1
  have d2 : (w.setCell ⟨g, m, none⟩ (.pointer none)).frozen? ⟨t, 2, none⟩ = false := by
    rw [World.frozen?_setCell]; exact f1
  have hm : (m : Int) ≤ cap := by omega
  have hm2 : (m : Int) ≤ 2000 := by omega
  have HC := hide hcap
  have HL := hide hl
  clear hcap hl
  go_enter Tryz.func130, Tryz.ntmps130
  go_wp2
  go_ret
  exact ⟨rfl, PE.out.2, by simp, _, PE.out.1⟩
end Go.Proofs.YtpldkgollhbolaaGreat
namespace Go.Proofs.YtpldkgollhbolaaGreat
open Go.RowKit Go.Joins Go.Maps

variable {w w' : World} {t km om : Nat} {O : Nat → Prop} {v : Value} {E : List En}
theorem meth_len (h : w.cell? ⟨t, 2, none⟩ = some v) (F : Nat) : (method (F + 1) 97 (.pointer (some ⟨t, 2, none⟩)) "Len").run Tryz.prog w = .ok (127, v) w := by
  have : (method (F + 1) 97 (.pointer (some ⟨t, 2, none⟩)) "Len").run Tryz.prog w = (do let v ← loadVar 69 ⟨t, 2, none⟩; pure (127, v) : Sem (FuncId × Value)).run Tryz.prog w := by kernel_rfl
  rw [this]
  simp [go_sem, loadVar, h]
theorem meth_less (h : w.cell? ⟨t, 2, none⟩ = some v) (F : Nat) : (method (F + 1) 97 (.pointer (some ⟨t, 2, none⟩)) "Less").run Tryz.prog w = .ok (128, v) w := by
  have : (method (F + 1) 97 (.pointer (some ⟨t, 2, none⟩)) "Less").run Tryz.prog w = (do let v ← loadVar 69 ⟨t, 2, none⟩; pure (128, v) : Sem (FuncId × Value)).run Tryz.prog w := by kernel_rfl
  rw [this]
  simp [go_sem, loadVar, h]
theorem meth_swap (h : w.cell? ⟨t, 2, none⟩ = some v) (F : Nat) : (method (F + 1) 97 (.pointer (some ⟨t, 2, none⟩)) "Swap").run Tryz.prog w = .ok (129, v) w := by
  have : (method (F + 1) 97 (.pointer (some ⟨t, 2, none⟩)) "Swap").run Tryz.prog w = (do let v ← loadVar 69 ⟨t, 2, none⟩; pure (129, v) : Sem (FuncId × Value)).run Tryz.prog w := by kernel_rfl
  rw [this]
  simp [go_sem, loadVar, h]
theorem meth_push (t : Nat) (w : World) (F : Nat) : (method (F + 1) 97 (.pointer (some ⟨t, 2, none⟩)) "Push").run Tryz.prog w = .ok (131, .pointer (some ⟨t, 2, none⟩)) w := by kernel_rfl
theorem meth_pop (t : Nat) (w : World) (F : Nat) : (method (F + 1) 97 (.pointer (some ⟨t, 2, none⟩)) "Pop").run Tryz.prog w = .ok (130, .pointer (some ⟨t, 2, none⟩)) w := by kernel_rfl
abbrev Hv (t : Nat) : Value := .iface 97 (.pointer (some ⟨t, 2, none⟩))

theorem un_swap (E : List En) {i j : Nat} (hi : i < E.length) (hj : j < E.length) (k : Nat) : unE (swapL E i j) k = sw (unE E) i j k := by
  unfold sw
  by_cases h1 : k = i
  · subst h1; rw [if_pos rfl]; unfold unE; rw [swapL_i hi hj]
  · rw [if_neg h1]
    by_cases h2 : k = j
    · subst h2; rw [if_pos rfl]; unfold unE; rw [swapL_j hi hj]
    · rw [if_neg h2]; unfold unE; rw [swapL_ne h1 h2]
/-- behind a call that sifts: the same leases, those from n on where they were -/
structure Sft (w : World) (t km om : Nat) (O : Nat → Prop) (v : Value) (E : List En) (n : Nat) (w' : World) (E' : List En) : Prop where
  hp : Hp O w w'
  size : w'.heap.size = w.heap.size
  ends : Ends w' t km om O v E'
  perm : E'.Perm E
  far : ∀ k, n ≤ k → E'[k]? = E[k]?
theorem Hp.same {O : Nat → Prop} {a b : World} (h : Hp O w a) (k : Hp O a b) : Hp O w b := h.trans ⟨k.fr.mono (fun _ _ e => Or.inl e), k.maps⟩
theorem Sft.drew {n : Nat} {a : World} {E' : List En} (h : Sft w t km om O v E n a E') (q : Nat) : Sft w t km om O v E n (a.drewN q) E' :=
  ⟨h.hp.same (Hp.drewN _ _ _), h.size, h.ends.below (below_drewN _ _), h.perm, h.far⟩
theorem Sft.swp {n : Nat} {a b : World} {E' : List En} {r : Value} {e : Ending} {i j : Nat} (h : Sft w t km om O v E n a E') (k : Swp a t km om O v (swapL E' i j) r e b) (hi : i < n) (hj : j < n) : Sft w t km om O v E n b (swapL E' i j) :=
  ⟨h.hp.same k.2.1, k.2.2.1.trans h.size, k.2.2.2, (swapL_perm _ _ _).trans h.perm, fun q hq => by rw [swapL_ne (by omega) (by omega)]; exact h.far q hq⟩
def UpPost (w : World) (t km om : Nat) (O : Nat → Prop) (v : Value) (E : List En) (n : Nat) (r : Value) (e : Ending) (w' : World) : Prop := e = .returned r ∧ ∃ E', Sft w t km om O v E n w' E' ∧ HeapF (unE E') n
set_option maxRecDepth 100000 in
set_option maxHeartbeats 2000000 in
theorem hup_any (h : Ends w t km om O v E) (a : Int) (ha0 : 0 ≤ a) {n : Nat} (han : a.toNat < n) (hn : n ≤ E.length) (hU : UpInv (unE E) n a.toNat) :
    Calls Tryz.prog 75 #[Hv t, .int .i64 a] w (UpPost w t km om O v E n (.tuple #[])) := by
  obtain ⟨j, rfl⟩ := Int.eq_ofNat_of_zero_le ha0
  rw [Int.toNat_natCast] at han hU
  have H0 := hide (show Sft w t km om O v E n w E from ⟨Hp.refl _ _, rfl, h, .refl _, fun _ _ => rfl⟩)
  have U0 := hide hU
  have HN := hide hn
  have HL := hide h.len
  clear h hU hn
  go_enter Tryz.func75, Tryz.ntmps75
  go_wp2_with fail
  go_loopw [1, 4] (fun j' _ wr => ∃ (k : Nat) (E' : List En), j' = .int .i64 (k : Int) ∧ k < n ∧ Hid (Sft w t km om O v E n wr E') ∧ Hid (UpInv (unE E') n k)) (fun j' _ _ => (intOf j').toNat)
  case atStart => exact ⟨j, E, rfl, han, H0, U0⟩
  case round =>
    obtain ⟨k, E', rfl, hk, HS, HU⟩ := hrel
    have hEl : E'.length = E.length := HS.out.perm.length_eq
    have HEL := hide hEl
    have hk2 : (k : Int) < E'.length := by have := HN.out; omega
    have hk3 : (k : Int) ≤ 2000 := by have := HN.out; have := HL.out; omega
    clear hEl
    have mL := meth_less HS.out.ends.cell
    by_cases hk0 : k = 0
    · subst hk0
      go_wp2
      go_end0
      exact ⟨rfl, E', HS.out, up_stop HU.out (Or.inl rfl)⟩
    · obtain ⟨i, hi⟩ : ∃ i : Nat, i = (k - 1) / 2 := ⟨_, rfl⟩
      have hi2 : ((k : Int) - 1) / 2 = (i : Int) := by omega
      have hne : ((i : Int) == (k : Int)) = false := by rw [beq_eq_false_iff_ne]; omega
      have hk1 : (1 : Int) ≤ k := by omega
      have HI := hide hi
      have hik : i < k := by omega
      clear hi hk0
      have LL := less_any HS.out.ends (k : Int) (i : Int) (by omega) hk2 (by omega) (by omega)
      rw [Int.toNat_natCast, Int.toNat_natCast] at LL
      by_cases hlt : unE E' k < unE E' i
      · rw [decide_eq_true hlt] at LL
        have HLT := hide hlt
        have LLH := hide LL
        clear LL hlt
        go_wp2_with fail
        refine LLH.out.mono ?_
        rintro e w2 ⟨rfl, q, rfl⟩
        have HS2 := hide (HS.out.drew q)
        have mS := meth_swap HS2.out.ends.cell
        have SW := hide (swap_any HS2.out.ends (i : Int) (k : Int) (by omega) (by omega) (by omega) hk2 (by omega))
        clear mL
        go_wp2_with fail
        refine SW.out.mono ?_
        rintro e w3 hsw
        have hsw' := hsw
        obtain ⟨rfl, -⟩ := hsw
        rw [Int.toNat_natCast, Int.toNat_natCast] at hsw'
        have HS3 := hide (HS2.out.swp hsw' (show i < n by omega) hk)
        clear hsw' mS
        have HU3 : Hid (UpInv (unE (swapL E' i k)) n i) := hide (up_congr (up_step HU.out (by omega) hk HI.out.symm HLT.out) (by omega) (fun q hq => (un_swap E' (by omega) (by omega) q).symm))
        go_wp2
        go_roundw
        case rel => exact ⟨i, _, rfl, by omega, HS3, HU3⟩
        case measure => simp [intOf]; omega
      · rw [decide_eq_false hlt] at LL
        have HLT := hide hlt
        have LLH := hide LL
        clear LL hlt
        go_wp2_with fail
        refine LLH.out.mono ?_
        rintro e w2 ⟨rfl, q, rfl⟩
        go_wp2
        go_end0
        exact ⟨rfl, E', HS.out.drew q, up_stop HU.out (Or.inr (by rw [← HI.out]; have := HLT.out; omega))⟩
end Go.Proofs.YtpldkgollhbolaaGreat
