/-
  The reader of lease.Decode: the contract of change: what it takes and how the reader stands behind it. Conditions: the bytes are no longer than an int, the place is from 0 to 2^61.
-/
import Derived.Test.YtgioifdmmneapaaLV
namespace Go.Proofs.Ytgioifdmmneapaa
open Go.RowKit Go.Joins

/-- a number of 64 bits as an int -/
def toI (n : Nat) : Int := IntKind.i64.wrap (n : Int)
/-- what change takes: the error, the change, the place -/
def mkE (s : ByteArray) (a : Int) : Int := if getV 1 s a = 1 ∨ getV 1 s a = 2 then errS 0 (cutO s a 1) 3 else errS (errS 0 (cutO s a 1) 3) false 4
def hdE (s : ByteArray) (a : Int) : Int := errS (errS (errS (mkE s a) (cutO s (a + 1) 1) 3) (cutO s (a + 1 + 1) 1) 3) (cutO s (a + 1 + 1 + 1) 16) 3
def ptE (s : ByteArray) (a : Int) : Int := errS (errS (errS (errS (hdE s a) (cutO s (a + 1 + 1 + 1 + 16) 1) 3) (cutO s (a + 1 + 1 + 1 + 16 + 1) 4) 3) (cutO s (a + 1 + 1 + 1 + 16 + 1 + 4) 8) 3) (takeO s (a + 1 + 1 + 1 + 16 + 1 + 4 + 8)) 3
def hdL (s : ByteArray) (a : Int) : Ls := ⟨(getV 1 s (a + 1) : Nat), getA s (a + 1 + 1 + 1), (getV 1 s (a + 1 + 1) : Nat), 0, ⟨#[]⟩, 0, 0⟩
def ptL (s : ByteArray) (a : Int) : Ls := ⟨(getV 1 s (a + 1) : Nat), getA s (a + 1 + 1 + 1), (getV 1 s (a + 1 + 1) : Nat), (getV 1 s (a + 1 + 1 + 1 + 16) : Nat), takeV s (a + 1 + 1 + 1 + 16 + 1 + 4 + 8), getV 4 s (a + 1 + 1 + 1 + 16 + 1), toI (getV 8 s (a + 1 + 1 + 1 + 16 + 1 + 4))⟩
def chE (s : ByteArray) (a : Int) : Int := if getV 1 s a = 2 then hdE s a else ptE s a
def chC (s : ByteArray) (a : Int) : Ch := if getV 1 s a = 2 then ⟨true, hdL s a⟩ else ⟨false, ptL s a⟩
def chN (s : ByteArray) (a : Int) : Int := if getV 1 s a = 2 then a + 1 + 1 + 1 + 16 else takeE s (a + 1 + 1 + 1 + 16 + 1 + 4 + 8)

/-- the reader, the result's cells and the change that is made -/
def CX (w : World) (g : Nat) (s : ByteArray) (a e : Int) (b : Nat) (cs : Array Value) (W : World) : Prop :=
  Fr (fun k => k = g) w W ∧ RdAt W g s a e ∧ W.heap[w.heap.size]? = some (.cells #[.bool false, .int .i64 0, .int .u64 0, .int .u64 0, .int .i64 0, .int .i64 0, .string ⟨#[]⟩, .int .u32 0, .int .i64 0] 31 (0, 0)) ∧ W.heap[b]? = some (.cells cs 31 (0, 0))
theorem CX.took {w : World} {g : Nat} {s : ByteArray} {a e a2 e2 : Int} {b : Nat} {cs : Array Value} {W W2 : World} (h : CX w g s a e b cs W) (hg : g < w.heap.size) (hb : w.heap.size < b) (F : Fr (fun k => k = g) W W2) (R : RdAt W2 g s a2 e2) : CX w g s a2 e2 b cs W2 :=
  ⟨h.1.same F, R, F.keep h.2.2.1 (by omega), F.keep h.2.2.2 (by omega)⟩
theorem CX.set {w : World} {g : Nat} {s : ByteArray} {a e : Int} {b : Nat} {cs : Array Value} {W : World} (h : CX w g s a e b cs W) (hg : g < w.heap.size) (hb : w.heap.size < b) (i : Nat) (u : Value) : CX w g s a e b (cs.setIfInBounds i u) (W.setCell ⟨b, i, none⟩ u) := by
  have F := Fr.set W ⟨b, i, none⟩ u
  exact ⟨h.1.trans F (fun k hk e => by have e : k = b := e; omega), F.keep h.2.1 (by show ¬ g = b; omega), F.keep h.2.2.1 (by show ¬ w.heap.size = b; omega), set_block h.2.2.2 i u⟩
theorem CX.cells {w : World} {g : Nat} {s : ByteArray} {a e : Int} {b : Nat} {x0 x1 x2 x3 x4 x5 x6 x7 x8 : Value} {W : World} (h : CX w g s a e b #[x0, x1, x2, x3, x4, x5, x6, x7, x8] W) :
    (W.cell? ⟨b, 0, none⟩ = some x0 ∧ W.cell? ⟨b, 1, none⟩ = some x1 ∧ W.cell? ⟨b, 2, none⟩ = some x2 ∧ W.cell? ⟨b, 3, none⟩ = some x3 ∧ W.cell? ⟨b, 4, none⟩ = some x4 ∧ W.cell? ⟨b, 5, none⟩ = some x5 ∧ W.cell? ⟨b, 6, none⟩ = some x6 ∧ W.cell? ⟨b, 7, none⟩ = some x7 ∧ W.cell? ⟨b, 8, none⟩ = some x8) ∧ ∀ i, W.frozen? ⟨b, i, none⟩ = false := by
  have H := h.2.2.2
  exact ⟨⟨cell_at H 0, cell_at H 1, cell_at H 2, cell_at H 3, cell_at H 4, cell_at H 5, cell_at H 6, cell_at H 7, cell_at H 8⟩, fun i => free_at H i⟩
/-- the result is stored -/
theorem CX.done {w : World} {g : Nat} {s : ByteArray} {a e : Int} {b : Nat} {cs : Array Value} {W : World} (h : CX w g s a e b cs W) (hg : g < w.heap.size) (i : Nat) (u : Value) : Fr (fun k => k = g) w (W.setCell ⟨w.heap.size, i, none⟩ u) ∧ RdAt (W.setCell ⟨w.heap.size, i, none⟩ u) g s a e := by
  have F := Fr.set W ⟨w.heap.size, i, none⟩ u
  exact ⟨h.1.trans F (fun k hk e => by have e : k = w.heap.size := e; omega), F.keep h.2.1 (by show ¬ g = w.heap.size; omega)⟩
/-- what stays while the result is stored -/
def CD (w : World) (g : Nat) (s : ByteArray) (a e : Int) (W : World) : Prop := g < w.heap.size ∧ Fr (fun k => k = g) w W ∧ RdAt W g s a e
theorem CD.set {w : World} {g : Nat} {s : ByteArray} {a e : Int} {W : World} (h : CD w g s a e W) (i : Nat) (u : Value) : CD w g s a e (W.setCell ⟨w.heap.size, i, none⟩ u) := by
  have F := Fr.set W ⟨w.heap.size, i, none⟩ u
  have hg := h.1
  exact ⟨hg, h.2.1.trans F (fun k hk e => by have e : k = w.heap.size := e; omega), F.keep h.2.2 (by show ¬ g = w.heap.size; omega)⟩
theorem CD.all {w : World} {g : Nat} {s : ByteArray} {a e : Int} {W : World} (h : CD w g s a e W) (u0 u1 u2 u3 u4 u5 u6 u7 u8 : Value) :
    CD w g s a e (((((((((W.setCell ⟨w.heap.size, 0, none⟩ u0).setCell ⟨w.heap.size, 1, none⟩ u1).setCell ⟨w.heap.size, 2, none⟩ u2).setCell ⟨w.heap.size, 3, none⟩ u3).setCell ⟨w.heap.size, 4, none⟩ u4).setCell ⟨w.heap.size, 5, none⟩ u5).setCell ⟨w.heap.size, 6, none⟩ u6).setCell ⟨w.heap.size, 7, none⟩ u7).setCell ⟨w.heap.size, 8, none⟩ u8) :=
  (((((((((h.set 0 _).set 1 _).set 2 _).set 3 _).set 4 _).set 5 _).set 6 _).set 7 _).set 8 _)
theorem CX.cd {w : World} {g : Nat} {s : ByteArray} {a e : Int} {b : Nat} {cs : Array Value} {W : World} (h : CX w g s a e b cs W) (hg : g < w.heap.size) : CD w g s a e W := ⟨hg, h.1, h.2.1⟩
theorem CX.res {w : World} {g : Nat} {s : ByteArray} {a e : Int} {b : Nat} {cs : Array Value} {W : World} (h : CX w g s a e b cs W) :
    (W.cell? ⟨w.heap.size, 0, none⟩ = some (.bool false) ∧ W.cell? ⟨w.heap.size, 1, none⟩ = some (.int .i64 0) ∧ W.cell? ⟨w.heap.size, 2, none⟩ = some (.int .u64 0) ∧ W.cell? ⟨w.heap.size, 3, none⟩ = some (.int .u64 0) ∧ W.cell? ⟨w.heap.size, 4, none⟩ = some (.int .i64 0) ∧ W.cell? ⟨w.heap.size, 5, none⟩ = some (.int .i64 0) ∧ W.cell? ⟨w.heap.size, 6, none⟩ = some (.string ⟨#[]⟩) ∧ W.cell? ⟨w.heap.size, 7, none⟩ = some (.int .u32 0) ∧ W.cell? ⟨w.heap.size, 8, none⟩ = some (.int .i64 0)) ∧ ∀ i, W.frozen? ⟨w.heap.size, i, none⟩ = false := by
  have H := h.2.2.1
  exact ⟨⟨cell_at H 0, cell_at H 1, cell_at H 2, cell_at H 3, cell_at H 4, cell_at H 5, cell_at H 6, cell_at H 7, cell_at H 8⟩, fun i => free_at H i⟩

set_option maxRecDepth 100000 in
set_option maxHeartbeats 4000000 in
theorem change_gone {w : World} {g : Nat} {s : ByteArray} {a : Int} (h : RdAt w g s a 0) (hs : s.size ≤ maxLen) (h0 : 0 ≤ a) (h1 : a ≤ 2305843009213693952) (hm : getV 1 s a = 2) :
    Calls Try.prog 47 #[Pt g] w (Took w g s (a + 1 + 1 + 1 + 16) (hdE s a) (Cv ⟨true, hdL s a⟩)) := by
  have hg := lt_of_block h
  have E1 := hide (show mkE s a = errS 0 (cutO s a 1) 3 by unfold mkE; rw [if_pos (Or.inr hm)])
  have S0 := hide (small_any (h.no (Fr.alloc w (.cells #[.bool false, .int .i64 0, .int .u64 0, .int .u64 0, .int .i64 0, .int .i64 0, .string ⟨#[]⟩, .int .u32 0, .int .i64 0] 31))) hs h0 (by omega))
  rw [hm, ← E1.out] at S0
  clear h
  go_enter Try.func47, Try.ntmps47
  go_wp2_with fail
  refine S0.out.mono ?_
  rintro en w1 ⟨rfl, F1, R1⟩
  have hb : w.heap.size < w1.heap.size := by have := F1.size; simp at this; omega
  have H1 : CX w g s (a + 1) (mkE s a) w1.heap.size #[.bool true, .int .i64 0, .int .u64 0, .int .u64 0, .int .i64 0, .int .i64 0, .string ⟨#[]⟩, .int .u32 0, .int .i64 0] (w1.alloc (.cells #[.bool true, .int .i64 0, .int .u64 0, .int .u64 0, .int .i64 0, .int .i64 0, .string ⟨#[]⟩, .int .u32 0, .int .i64 0] 31)) := by
    refine ⟨((Fr.alloc w (.cells #[.bool false, .int .i64 0, .int .u64 0, .int .u64 0, .int .i64 0, .int .i64 0, .string ⟨#[]⟩, .int .u32 0, .int .i64 0] 31)).no.same F1).andNo (Fr.alloc _ _), R1.no (Fr.alloc _ _), (Fr.alloc _ _).keep (F1.keep (heap_alloc_new w _) (by omega)) (fun e => e), heap_alloc_new _ _⟩
  clear F1 R1
  go_wp2_with fail
  refine (small_any H1.2.1 hs (by omega) (by omega)).mono ?_
  rintro en v1 ⟨rfl, G1, R1⟩
  have J1 := H1.took hg hb G1 R1
  clear H1 G1 R1
  obtain ⟨⟨x0, x1, x2, x3, x4, x5, x6, x7, x8⟩, ff⟩ := J1.cells
  have H2 := (J1.set hg hb 1 (.int .i64 (getV 1 s (a + 1) : Nat)))
  simp only [List.setIfInBounds_toArray, List.set_cons_zero, List.set_cons_succ] at H2
  clear J1
  go_wp2_with fail
  refine (small_any H2.2.1 hs (by omega) (by omega)).mono ?_
  rintro en v2 ⟨rfl, G2, R2⟩
  have J2 := H2.took hg hb G2 R2
  clear H2 G2 R2 x0 x1 x2 x3 x4 x5 x6 x7 x8 ff
  obtain ⟨⟨x0, x1, x2, x3, x4, x5, x6, x7, x8⟩, ff⟩ := J2.cells
  have H3 := (J2.set hg hb 4 (.int .i64 (getV 1 s (a + 1 + 1) : Nat)))
  simp only [List.setIfInBounds_toArray, List.set_cons_zero, List.set_cons_succ] at H3
  clear J2
  go_wp2_with fail
  refine (take_addr H3.2.1 hs (by omega) (by omega)).mono ?_
  rintro en v3 ⟨rfl, G3, R3⟩
  have J3 := H3.took hg hb G3 R3
  clear H3 G3 R3 x0 x1 x2 x3 x4 x5 x6 x7 x8 ff
  obtain ⟨⟨x0, x1, x2, x3, x4, x5, x6, x7, x8⟩, ff⟩ := J3.cells
  have H4 := ((J3.set hg hb 2 (.int .u64 (hi (getA s (a + 1 + 1 + 1)) : Nat))).set hg hb 3 (.int .u64 (lo (getA s (a + 1 + 1 + 1)) : Nat)))
  simp only [List.setIfInBounds_toArray, List.set_cons_zero, List.set_cons_succ] at H4
  obtain ⟨⟨y0, y1, y2, y3, y4, y5, y6, y7, y8⟩, fy⟩ := J3.res
  have D := H4.cd hg
  have hne : w.heap.size ≠ w1.heap.size := by omega
  have hne2 : w1.heap.size ≠ w.heap.size := by omega
  clear H4 J3
  go_wp2
  refine bodyPost_ret (v := Cv ⟨true, hdL s a⟩) (by simp [results, Try.results47, go_sem, y0, y1, y2, y3, y4, y5, y6, y7, y8, hdL]) rfl ⟨rfl, (D.all _ _ _ _ _ _ _ _ _).2.1, (D.all _ _ _ _ _ _ _ _ _).2.2⟩

set_option maxRecDepth 100000 in
set_option maxHeartbeats 4000000 in
theorem change_put {w : World} {g : Nat} {s : ByteArray} {a : Int} (h : RdAt w g s a 0) (hs : s.size ≤ maxLen) (h0 : 0 ≤ a) (h1 : a ≤ 2305843009213693952) (hm : getV 1 s a = 1) :
    Calls Try.prog 47 #[Pt g] w (Took w g s (takeE s (a + 1 + 1 + 1 + 16 + 1 + 4 + 8)) (ptE s a) (Cv ⟨false, ptL s a⟩)) := by
  have hg := lt_of_block h
  have E1 := hide (show mkE s a = errS 0 (cutO s a 1) 3 by unfold mkE; rw [if_pos (Or.inl hm)])
  have S0 := hide (small_any (h.no (Fr.alloc w (.cells #[.bool false, .int .i64 0, .int .u64 0, .int .u64 0, .int .i64 0, .int .i64 0, .string ⟨#[]⟩, .int .u32 0, .int .i64 0] 31))) hs h0 (by omega))
  rw [hm, ← E1.out] at S0
  clear h
  have WU2 : IntKind.i64.wrap (getV 8 s (a + 1 + 1 + 1 + 16 + 1 + 4) : Int) = toI (getV 8 s (a + 1 + 1 + 1 + 16 + 1 + 4)) := rfl
  go_enter Try.func47, Try.ntmps47
  go_wp2_with fail
  refine S0.out.mono ?_
  rintro en w1 ⟨rfl, F1, R1⟩
  have hb : w.heap.size < w1.heap.size := by have := F1.size; simp at this; omega
  have H1 : CX w g s (a + 1) (mkE s a) w1.heap.size #[.bool false, .int .i64 0, .int .u64 0, .int .u64 0, .int .i64 0, .int .i64 0, .string ⟨#[]⟩, .int .u32 0, .int .i64 0] (w1.alloc (.cells #[.bool false, .int .i64 0, .int .u64 0, .int .u64 0, .int .i64 0, .int .i64 0, .string ⟨#[]⟩, .int .u32 0, .int .i64 0] 31)) := by
    refine ⟨((Fr.alloc w (.cells #[.bool false, .int .i64 0, .int .u64 0, .int .u64 0, .int .i64 0, .int .i64 0, .string ⟨#[]⟩, .int .u32 0, .int .i64 0] 31)).no.same F1).andNo (Fr.alloc _ _), R1.no (Fr.alloc _ _), (Fr.alloc _ _).keep (F1.keep (heap_alloc_new w _) (by omega)) (fun e => e), heap_alloc_new _ _⟩
  clear F1 R1
  go_wp2_with fail
  refine (small_any H1.2.1 hs (by omega) (by omega)).mono ?_
  rintro en v1 ⟨rfl, G1, R1⟩
  have J1 := H1.took hg hb G1 R1
  clear H1 G1 R1
  obtain ⟨⟨x0, x1, x2, x3, x4, x5, x6, x7, x8⟩, ff⟩ := J1.cells
  have H2 := (J1.set hg hb 1 (.int .i64 (getV 1 s (a + 1) : Nat)))
  simp only [List.setIfInBounds_toArray, List.set_cons_zero, List.set_cons_succ] at H2
  clear J1
  go_wp2_with fail
  refine (small_any H2.2.1 hs (by omega) (by omega)).mono ?_
  rintro en v2 ⟨rfl, G2, R2⟩
  have J2 := H2.took hg hb G2 R2
  clear H2 G2 R2 x0 x1 x2 x3 x4 x5 x6 x7 x8 ff
  obtain ⟨⟨x0, x1, x2, x3, x4, x5, x6, x7, x8⟩, ff⟩ := J2.cells
  have H3 := (J2.set hg hb 4 (.int .i64 (getV 1 s (a + 1 + 1) : Nat)))
  simp only [List.setIfInBounds_toArray, List.set_cons_zero, List.set_cons_succ] at H3
  clear J2
  go_wp2_with fail
  refine (take_addr H3.2.1 hs (by omega) (by omega)).mono ?_
  rintro en v3 ⟨rfl, G3, R3⟩
  have J3 := H3.took hg hb G3 R3
  clear H3 G3 R3 x0 x1 x2 x3 x4 x5 x6 x7 x8 ff
  obtain ⟨⟨x0, x1, x2, x3, x4, x5, x6, x7, x8⟩, ff⟩ := J3.cells
  have H4 := ((J3.set hg hb 2 (.int .u64 (hi (getA s (a + 1 + 1 + 1)) : Nat))).set hg hb 3 (.int .u64 (lo (getA s (a + 1 + 1 + 1)) : Nat)))
  simp only [List.setIfInBounds_toArray, List.set_cons_zero, List.set_cons_succ] at H4
  clear J3
  go_wp2_with fail
  refine (small_any H4.2.1 hs (by omega) (by omega)).mono ?_
  rintro en v4 ⟨rfl, G4, R4⟩
  have J4 := H4.took hg hb G4 R4
  clear H4 G4 R4 x0 x1 x2 x3 x4 x5 x6 x7 x8 ff
  obtain ⟨⟨x0, x1, x2, x3, x4, x5, x6, x7, x8⟩, ff⟩ := J4.cells
  have H5 := (J4.set hg hb 5 (.int .i64 (getV 1 s (a + 1 + 1 + 1 + 16) : Nat)))
  simp only [List.setIfInBounds_toArray, List.set_cons_zero, List.set_cons_succ] at H5
  clear J4
  go_wp2_with fail
  refine (take_uint32 H5.2.1 hs (by omega) (by omega)).mono ?_
  rintro en v5 ⟨rfl, G5, R5⟩
  have J5 := H5.took hg hb G5 R5
  clear H5 G5 R5 x0 x1 x2 x3 x4 x5 x6 x7 x8 ff
  obtain ⟨⟨x0, x1, x2, x3, x4, x5, x6, x7, x8⟩, ff⟩ := J5.cells
  have H6 := (J5.set hg hb 7 (.int .u32 (getV 4 s (a + 1 + 1 + 1 + 16 + 1) : Nat)))
  simp only [List.setIfInBounds_toArray, List.set_cons_zero, List.set_cons_succ] at H6
  clear J5
  go_wp2_with fail
  refine (take_uint64 H6.2.1 hs (by omega) (by omega)).mono ?_
  rintro en v6 ⟨rfl, G6, R6⟩
  have J6 := H6.took hg hb G6 R6
  clear H6 G6 R6 x0 x1 x2 x3 x4 x5 x6 x7 x8 ff
  obtain ⟨⟨x0, x1, x2, x3, x4, x5, x6, x7, x8⟩, ff⟩ := J6.cells
  have H7 := (J6.set hg hb 8 (.int .i64 (toI (getV 8 s (a + 1 + 1 + 1 + 16 + 1 + 4)))))
  simp only [List.setIfInBounds_toArray, List.set_cons_zero, List.set_cons_succ] at H7
  clear J6
  go_wp2_with fail
  refine (rrun_any H7.2.1 hs (by omega) (by omega)).mono ?_
  rintro en v7 ⟨rfl, G7, R7⟩
  have J7 := H7.took hg hb G7 R7
  clear H7 G7 R7 x0 x1 x2 x3 x4 x5 x6 x7 x8 ff
  obtain ⟨⟨x0, x1, x2, x3, x4, x5, x6, x7, x8⟩, ff⟩ := J7.cells
  have H8 := (J7.set hg hb 6 (.string (takeV s (a + 1 + 1 + 1 + 16 + 1 + 4 + 8))))
  simp only [List.setIfInBounds_toArray, List.set_cons_zero, List.set_cons_succ] at H8
  obtain ⟨⟨y0, y1, y2, y3, y4, y5, y6, y7, y8⟩, fy⟩ := J7.res
  have D := H8.cd hg
  have hne : w.heap.size ≠ w1.heap.size := by omega
  have hne2 : w1.heap.size ≠ w.heap.size := by omega
  clear H8 J7
  go_wp2
  refine bodyPost_ret (v := Cv ⟨false, ptL s a⟩) (by simp [results, Try.results47, go_sem, y0, y1, y2, y3, y4, y5, y6, y7, y8, ptL]) rfl ⟨rfl, (D.all _ _ _ _ _ _ _ _ _).2.1, (D.all _ _ _ _ _ _ _ _ _).2.2⟩

set_option maxRecDepth 100000 in
set_option maxHeartbeats 4000000 in
theorem change_bad {w : World} {g : Nat} {s : ByteArray} {a : Int} (h : RdAt w g s a 0) (hs : s.size ≤ maxLen) (h0 : 0 ≤ a) (h1 : a ≤ 2305843009213693952) (hm : getV 1 s a ≠ 1) (hm2 : getV 1 s a ≠ 2) :
    Calls Try.prog 47 #[Pt g] w (Took w g s (takeE s (a + 1 + 1 + 1 + 16 + 1 + 4 + 8)) (ptE s a) (Cv ⟨false, ptL s a⟩)) := by
  have hg := lt_of_block h
  have E1 := hide (show mkE s a = errS (errS 0 (cutO s a 1) 3) false 4 by unfold mkE; rw [if_neg (by omega)])
  have S0 := hide (small_any (h.no (Fr.alloc w (.cells #[.bool false, .int .i64 0, .int .u64 0, .int .u64 0, .int .i64 0, .int .i64 0, .string ⟨#[]⟩, .int .u32 0, .int .i64 0] 31))) hs h0 (by omega))
  generalize getV 1 s a = m at S0 hm hm2
  have hm3 : ¬ (m : Int) = 1 := by omega
  have hm4 : ¬ (m : Int) = 2 := by omega
  have hm5 : ((m : Int) == 2) = false := by simpa using hm4
  have hm6 : ((m : Int) != 1) = true := by simpa using hm3
  have hm7 : ((m : Int) != 2) = true := by simpa using hm4
  clear h
  have WU2 : IntKind.i64.wrap (getV 8 s (a + 1 + 1 + 1 + 16 + 1 + 4) : Int) = toI (getV 8 s (a + 1 + 1 + 1 + 16 + 1 + 4)) := rfl
  go_enter Try.func47, Try.ntmps47
  go_wp2_with fail
  refine S0.out.mono ?_
  rintro en w1 ⟨rfl, F1, R1⟩
  go_wp2_with fail
  refine (fail_any R1 4).mono ?_
  rintro en w2 ⟨rfl, F2, R2⟩
  rw [← E1.out] at R2
  have F12 := F1.same F2
  clear F1 F2 R1
  have hb : w.heap.size < w2.heap.size := by have := F12.size; simp at this; omega
  have H1 : CX w g s (a + 1) (mkE s a) w2.heap.size #[.bool false, .int .i64 0, .int .u64 0, .int .u64 0, .int .i64 0, .int .i64 0, .string ⟨#[]⟩, .int .u32 0, .int .i64 0] (w2.alloc (.cells #[.bool false, .int .i64 0, .int .u64 0, .int .u64 0, .int .i64 0, .int .i64 0, .string ⟨#[]⟩, .int .u32 0, .int .i64 0] 31)) := by
    refine ⟨((Fr.alloc w (.cells #[.bool false, .int .i64 0, .int .u64 0, .int .u64 0, .int .i64 0, .int .i64 0, .string ⟨#[]⟩, .int .u32 0, .int .i64 0] 31)).no.same F12).andNo (Fr.alloc _ _), R2.no (Fr.alloc _ _), (Fr.alloc _ _).keep (F12.keep (heap_alloc_new w _) (by omega)) (fun e => e), heap_alloc_new _ _⟩
  clear F12 R2
  go_wp2_with fail
  refine (small_any H1.2.1 hs (by omega) (by omega)).mono ?_
  rintro en v1 ⟨rfl, G1, R1⟩
  have J1 := H1.took hg hb G1 R1
  clear H1 G1 R1
  obtain ⟨⟨x0, x1, x2, x3, x4, x5, x6, x7, x8⟩, ff⟩ := J1.cells
  have H2 := (J1.set hg hb 1 (.int .i64 (getV 1 s (a + 1) : Nat)))
  simp only [List.setIfInBounds_toArray, List.set_cons_zero, List.set_cons_succ] at H2
  clear J1
  go_wp2_with fail
  refine (small_any H2.2.1 hs (by omega) (by omega)).mono ?_
  rintro en v2 ⟨rfl, G2, R2⟩
  have J2 := H2.took hg hb G2 R2
  clear H2 G2 R2 x0 x1 x2 x3 x4 x5 x6 x7 x8 ff
  obtain ⟨⟨x0, x1, x2, x3, x4, x5, x6, x7, x8⟩, ff⟩ := J2.cells
  have H3 := (J2.set hg hb 4 (.int .i64 (getV 1 s (a + 1 + 1) : Nat)))
  simp only [List.setIfInBounds_toArray, List.set_cons_zero, List.set_cons_succ] at H3
  clear J2
  go_wp2_with fail
  refine (take_addr H3.2.1 hs (by omega) (by omega)).mono ?_
  rintro en v3 ⟨rfl, G3, R3⟩
  have J3 := H3.took hg hb G3 R3
  clear H3 G3 R3 x0 x1 x2 x3 x4 x5 x6 x7 x8 ff
  obtain ⟨⟨x0, x1, x2, x3, x4, x5, x6, x7, x8⟩, ff⟩ := J3.cells
  have H4 := ((J3.set hg hb 2 (.int .u64 (hi (getA s (a + 1 + 1 + 1)) : Nat))).set hg hb 3 (.int .u64 (lo (getA s (a + 1 + 1 + 1)) : Nat)))
  simp only [List.setIfInBounds_toArray, List.set_cons_zero, List.set_cons_succ] at H4
  clear J3
  go_wp2_with fail
  refine (small_any H4.2.1 hs (by omega) (by omega)).mono ?_
  rintro en v4 ⟨rfl, G4, R4⟩
  have J4 := H4.took hg hb G4 R4
  clear H4 G4 R4 x0 x1 x2 x3 x4 x5 x6 x7 x8 ff
  obtain ⟨⟨x0, x1, x2, x3, x4, x5, x6, x7, x8⟩, ff⟩ := J4.cells
  have H5 := (J4.set hg hb 5 (.int .i64 (getV 1 s (a + 1 + 1 + 1 + 16) : Nat)))
  simp only [List.setIfInBounds_toArray, List.set_cons_zero, List.set_cons_succ] at H5
  clear J4
  go_wp2_with fail
  refine (take_uint32 H5.2.1 hs (by omega) (by omega)).mono ?_
  rintro en v5 ⟨rfl, G5, R5⟩
  have J5 := H5.took hg hb G5 R5
  clear H5 G5 R5 x0 x1 x2 x3 x4 x5 x6 x7 x8 ff
  obtain ⟨⟨x0, x1, x2, x3, x4, x5, x6, x7, x8⟩, ff⟩ := J5.cells
  have H6 := (J5.set hg hb 7 (.int .u32 (getV 4 s (a + 1 + 1 + 1 + 16 + 1) : Nat)))
  simp only [List.setIfInBounds_toArray, List.set_cons_zero, List.set_cons_succ] at H6
  clear J5
  go_wp2_with fail
  refine (take_uint64 H6.2.1 hs (by omega) (by omega)).mono ?_
  rintro en v6 ⟨rfl, G6, R6⟩
  have J6 := H6.took hg hb G6 R6
  clear H6 G6 R6 x0 x1 x2 x3 x4 x5 x6 x7 x8 ff
  obtain ⟨⟨x0, x1, x2, x3, x4, x5, x6, x7, x8⟩, ff⟩ := J6.cells
  have H7 := (J6.set hg hb 8 (.int .i64 (toI (getV 8 s (a + 1 + 1 + 1 + 16 + 1 + 4)))))
  simp only [List.setIfInBounds_toArray, List.set_cons_zero, List.set_cons_succ] at H7
  clear J6
  go_wp2_with fail
  refine (rrun_any H7.2.1 hs (by omega) (by omega)).mono ?_
  rintro en v7 ⟨rfl, G7, R7⟩
  have J7 := H7.took hg hb G7 R7
  clear H7 G7 R7 x0 x1 x2 x3 x4 x5 x6 x7 x8 ff
  obtain ⟨⟨x0, x1, x2, x3, x4, x5, x6, x7, x8⟩, ff⟩ := J7.cells
  have H8 := (J7.set hg hb 6 (.string (takeV s (a + 1 + 1 + 1 + 16 + 1 + 4 + 8))))
  simp only [List.setIfInBounds_toArray, List.set_cons_zero, List.set_cons_succ] at H8
  obtain ⟨⟨y0, y1, y2, y3, y4, y5, y6, y7, y8⟩, fy⟩ := J7.res
  have D := H8.cd hg
  have hne : w.heap.size ≠ w2.heap.size := by omega
  have hne2 : w2.heap.size ≠ w.heap.size := by omega
  clear H8 J7
  go_wp2
  refine bodyPost_ret (v := Cv ⟨false, ptL s a⟩) (by simp [results, Try.results47, go_sem, y0, y1, y2, y3, y4, y5, y6, y7, y8, ptL]) rfl ⟨rfl, (D.all _ _ _ _ _ _ _ _ _).2.1, (D.all _ _ _ _ _ _ _ _ _).2.2⟩

theorem rchange_any {w : World} {g : Nat} {s : ByteArray} {a : Int} (h : RdAt w g s a 0) (hs : s.size ≤ maxLen) (h0 : 0 ≤ a) (h1 : a ≤ 2305843009213693952) :
    Calls Try.prog 47 #[Pt g] w (Took w g s (chN s a) (chE s a) (Cv (chC s a))) := by
  by_cases hm : getV 1 s a = 2
  · have := change_gone h hs h0 h1 hm
    unfold chN chE chC
    rw [if_pos hm, if_pos hm, if_pos hm]
    exact this
  · unfold chN chE chC
    rw [if_neg hm, if_neg hm, if_neg hm]
    by_cases hm1 : getV 1 s a = 1
    · exact change_put h hs h0 h1 hm1
    · exact change_bad h hs h0 h1 hm1 hm
end Go.Proofs.Ytgioifdmmneapaa
