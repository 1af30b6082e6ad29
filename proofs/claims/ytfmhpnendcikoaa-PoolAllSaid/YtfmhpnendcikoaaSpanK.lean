/-
  Contract of awake: the answers that the document fixes by number. No condition.
-/
import Derived.Test.YtfmhpnendcikoaaSpanB
namespace Go.Proofs.Ytfmhpnendcikoaa
open Go.RowKit Go.Joins

theorem fit_small {l : List Rg} (h : ∀ x ∈ l, x.1 < 1000 ∧ x.2 < 1000) : FitL l := fun x hx => by
  have := h x hx
  unfold FitR Fits
  omega
abbrev s0 : List Rg := [(1, 3), (7, 9)]
abbrev s1 : List Rg := [(1, 5), (7, 9)]
abbrev s2 : List Rg := [(1, 1), (9, 9)]
abbrev s3 : List Rg := [(2, 3), (7, 8)]
theorem f0 : FitL s0 := fit_small (by decide)
theorem f1 : FitL s1 := fit_small (by decide)
theorem f2 : FitL s2 := fit_small (by decide)
theorem fr_small {a b : Nat} (h : a < 1000 ∧ b < 1000) : FitR (a, b) := by unfold FitR Fits; simp only; omega
theorem k1 : putL s0 (4, 5) = s1 := by decide +kernel
theorem k2 : lessL s1 [(2, 8)] = s2 := by decide +kernel
theorem k3 : lessL s0 s2 = s3 := by decide +kernel
theorem k4 : cntV s0 = 6 ∧ cntO s0 = false := by decide +kernel
theorem k5 : nthV s0 3 = 7 ∧ nthO s0 3 = true := by decide +kernel
theorem k6 : rankS s0 8 = 4 := by decide +kernel
theorem k7 : hasB s0 9 = true := by decide +kernel
theorem k8 : soundL s0 = true ∧ soundL s1 = true ∧ soundL s2 = true := by decide +kernel
theorem lst_two (V : World) (x y : Rg) (t : TypeId) : Lst (.slice (some ⟨V.heap.size, 0, none⟩) 2 2) [x, y] (V.alloc (.cells #[.int .u64 (hi x.1 : Nat), .int .u64 (lo x.1 : Nat), .int .u64 (hi x.2 : Nat), .int .u64 (lo x.2 : Nat), .int .u64 (hi y.1 : Nat), .int .u64 (lo y.1 : Nat), .int .u64 (hi y.2 : Nat), .int .u64 (lo y.2 : Nat)] t)) := by
  refine Or.inr ⟨V.heap.size, 0, 2, rfl, ⟨by simp, fun j z hz => ?_⟩, by simp, by simp, by omega⟩
  match j, hz with
  | 0, hz => simp at hz; subst hz; refine ⟨?_, ?_, ?_, ?_⟩ <;> simp [go_sem]
  | 1, hz => simp at hz; subst hz; refine ⟨?_, ?_, ?_, ?_⟩ <;> simp [go_sem]
  | j + 2, hz => simp at hz
theorem sm13 (w : World) : Calls Try.prog 20 #[.int .u64 1, .int .u64 3] w (Gives (.agg #[.int .u64 0, .int .u64 1, .int .u64 0, .int .u64 3]) w) := small_any 1 3 w
theorem sm79 (w : World) : Calls Try.prog 20 #[.int .u64 7, .int .u64 9] w (Gives (.agg #[.int .u64 0, .int .u64 7, .int .u64 0, .int .u64 9]) w) := small_any 7 9 w
theorem sm45 (w : World) : Calls Try.prog 20 #[.int .u64 4, .int .u64 5] w (Gives (.agg #[.int .u64 0, .int .u64 4, .int .u64 0, .int .u64 5]) w) := small_any 4 5 w
theorem sm28 (w : World) : Calls Try.prog 20 #[.int .u64 2, .int .u64 8] w (Gives (.agg #[.int .u64 0, .int .u64 2, .int .u64 0, .int .u64 8]) w) := small_any 2 8 w
theorem sm15 (w : World) : Calls Try.prog 20 #[.int .u64 1, .int .u64 5] w (Gives (.agg #[.int .u64 0, .int .u64 1, .int .u64 0, .int .u64 5]) w) := small_any 1 5 w
theorem sm11 (w : World) : Calls Try.prog 20 #[.int .u64 1, .int .u64 1] w (Gives (.agg #[.int .u64 0, .int .u64 1, .int .u64 0, .int .u64 1]) w) := small_any 1 1 w
theorem sm99 (w : World) : Calls Try.prog 20 #[.int .u64 9, .int .u64 9] w (Gives (.agg #[.int .u64 0, .int .u64 9, .int .u64 0, .int .u64 9]) w) := small_any 9 9 w
theorem sm23 (w : World) : Calls Try.prog 20 #[.int .u64 2, .int .u64 3] w (Gives (.agg #[.int .u64 0, .int .u64 2, .int .u64 0, .int .u64 3]) w) := small_any 2 3 w
theorem sm78 (w : World) : Calls Try.prog 20 #[.int .u64 7, .int .u64 8] w (Gives (.agg #[.int .u64 0, .int .u64 7, .int .u64 0, .int .u64 8]) w) := small_any 7 8 w
theorem lt0 (V : World) (t : TypeId) : Lst (.slice (some ⟨V.heap.size, 0, none⟩) 2 2) [(1, 3), (7, 9)] (V.alloc (.cells #[.int .u64 0, .int .u64 1, .int .u64 0, .int .u64 3, .int .u64 0, .int .u64 7, .int .u64 0, .int .u64 9] t)) := lst_two V (1, 3) (7, 9) t
theorem lt1 (V : World) (t : TypeId) : Lst (.slice (some ⟨V.heap.size, 0, none⟩) 2 2) [(1, 5), (7, 9)] (V.alloc (.cells #[.int .u64 0, .int .u64 1, .int .u64 0, .int .u64 5, .int .u64 0, .int .u64 7, .int .u64 0, .int .u64 9] t)) := lst_two V (1, 5) (7, 9) t
theorem lt2 (V : World) (t : TypeId) : Lst (.slice (some ⟨V.heap.size, 0, none⟩) 2 2) [(1, 1), (9, 9)] (V.alloc (.cells #[.int .u64 0, .int .u64 1, .int .u64 0, .int .u64 1, .int .u64 0, .int .u64 9, .int .u64 0, .int .u64 9] t)) := lst_two V (1, 1) (9, 9) t
theorem lt3 (V : World) (t : TypeId) : Lst (.slice (some ⟨V.heap.size, 0, none⟩) 2 2) [(2, 3), (7, 8)] (V.alloc (.cells #[.int .u64 0, .int .u64 2, .int .u64 0, .int .u64 3, .int .u64 0, .int .u64 7, .int .u64 0, .int .u64 8] t)) := lst_two V (2, 3) (7, 8) t
theorem cDrop (v : Value) (W : World) (H : Lst v s1 W) : Calls Try.prog 39 #[v, .agg #[.int .u64 0, .int .u64 2, .int .u64 0, .int .u64 8]] W (PutGives s2 W) := k2 ▸ drop_any (r := (2, 8)) f1 (fr_small (by decide)) k8.2.1 (by decide) (by decide) W H
theorem cLess (v u : Value) (W : World) (H : Lst v s0 W) (K : Lst u s2 W) : Calls Try.prog 30 #[v, u] W (PutGives s3 W) := k3 ▸ less_any f0 f2 k8.1 k8.2.2 (by decide) (by decide) W H K
theorem cCount (v : Value) (W : World) (H : Lst v s0 W) : Calls Try.prog 17 #[v] W (Gives (.tuple #[.agg #[.int .u64 0, .int .u64 6], .bool false]) W) := via (count_any f0 (by decide) W H) (by rw [k4.1, k4.2]; rfl)
theorem cNth (v : Value) (W : World) (H : Lst v s0 W) : Calls Try.prog 35 #[v, .agg #[.int .u64 0, .int .u64 3]] W (Gives (.tuple #[.agg #[.int .u64 0, .int .u64 7], .bool true]) W) := via (nth_any (n := 3) f0 (by unfold Fits; decide) (by decide) W H) (by rw [k5.1, k5.2]; rfl)
theorem cRank (v : Value) (W : World) (H : Lst v s0 W) : Calls Try.prog 18 #[v, .agg #[.int .u64 0, .int .u64 8]] W (Gives (.agg #[.int .u64 0, .int .u64 4]) W) := via (rank_any (a := 8) f0 (by unfold Fits; decide) (by decide) W H) (by rw [k6]; rfl)
theorem cHas (v : Value) (W : World) (H : Lst v s0 W) : Calls Try.prog 16 #[v, .agg #[.int .u64 0, .int .u64 9]] W (Gives (.bool true) W) := via (has_any f0 (by decide) 9 W H) (by rw [k7])
theorem cSound (v : Value) (W : World) (H : Lst v s0 W) : Calls Try.prog 13 #[v] W (Gives (.bool true) W) := via (sound_any f0 (by decide) W H) (by rw [k8.1])
theorem cSame {va vb : Value} {l : List Rg} (hl : l.length ≤ 1000000) (W : World) (H : Lst va l W) (K : Lst vb l W) : Calls Try.prog 21 #[va, vb] W (Gives (.bool true) W) := via (same_any hl W H K) (by simp)
theorem words6 {g : Nat} {W : World} (h : Two g 6 W) : g < W.heap.size ∧ W.cell? ⟨g, 0, none⟩ = some (.int .u64 0) ∧ W.cell? ⟨g, 1, none⟩ = some (.int .u64 6) ∧ W.frozen? ⟨g, 0, none⟩ = false ∧ W.frozen? ⟨g, 1, none⟩ = false := h
theorem words7 {g : Nat} {W : World} (h : Two g 7 W) : g < W.heap.size ∧ W.cell? ⟨g, 0, none⟩ = some (.int .u64 0) ∧ W.cell? ⟨g, 1, none⟩ = some (.int .u64 7) ∧ W.frozen? ⟨g, 0, none⟩ = false ∧ W.frozen? ⟨g, 1, none⟩ = false := h

end Go.Proofs.Ytfmhpnendcikoaa
