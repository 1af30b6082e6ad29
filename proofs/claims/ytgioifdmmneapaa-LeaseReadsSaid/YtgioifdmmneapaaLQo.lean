/-
  The contract of the document's own reading of one change. Conditions: the bytes are no longer than an int; the place is one of them, or the end, and below 2^40.
-/
import Derived.Test.YtgioifdmmneapaaLFn
import Derived.Test.YtgioifdmmneapaaLMe
namespace Go.Proofs.Ytgioifdmmneapaa
open Go.RowKit Go.Joins

theorem cut_idx {s : ByteArray} {a k n i : Nat} (ha : a ≤ s.size) (h : k + n ≤ (Rst s a).length) (hi : i < n) :
    ∃ h0 : i < (cutV s ((a + k : Nat) : Int) (n : Int)).size, ((cutV s ((a + k : Nat) : Int) (n : Int))[i]'h0).toNat = getV 1 s ((a + k + i : Nat) : Int) := by
  have L := cutV_rst ha h
  have hs : (cutV s ((a + k : Nat) : Int) (n : Int)).size = n := by
    have e : (cutV s ((a + k : Nat) : Int) (n : Int)).data.toList.length = n := by rw [L, List.length_take, List.length_drop]; omega
    exact e
  refine ⟨by omega, ?_⟩
  have g : getV 1 s ((a + (k + i) : Nat) : Int) = beV (((Rst s a).drop (k + i)).take 1) := get_rst ha (by omega)
  rw [show a + k + i = a + (k + i) by omega, g]
  have e1 : ((Rst s a).drop (k + i)).take 1 = [(Rst s a)[k + i]'(by omega)] := by
    rw [List.drop_eq_getElem_cons (by omega)]; rfl
  rw [e1, beV_one]
  have e2 : (cutV s ((a + k : Nat) : Int) (n : Int))[i]'(by omega) = (cutV s ((a + k : Nat) : Int) (n : Int)).data.toList[i]'(by show i < (cutV s ((a + k : Nat) : Int) (n : Int)).size; omega) := by
    rw [ByteArray.getElem_eq_getElem_data, Array.getElem_toList]
  rw [e2]
  congr 1
  have e3 : (cutV s ((a + k : Nat) : Int) (n : Int)).data.toList[i]? = (Rst s a)[k + i]? := by
    rw [L, List.getElem?_take_of_lt hi, List.getElem?_drop]
  rw [List.getElem?_eq_getElem (by show i < (cutV s ((a + k : Nat) : Int) (n : Int)).size; omega), List.getElem?_eq_getElem (by omega)] at e3
  exact Option.some.inj e3
/-- the world while one runs: nothing old written, the result's cells at zero -/
def RZ (w : World) (W : World) : Prop := Below w.heap.size w W ∧ W.heap[w.heap.size]? = some (.cells #[.bool false, .int .i64 0, .int .u64 0, .int .u64 0, .int .i64 0, .int .i64 0, .string ⟨#[]⟩, .int .u32 0, .int .i64 0] 31 (0, 0))
theorem RZ.step {w W W2 : World} (h : RZ w W) (hb : Below W.heap.size W W2) : RZ w W2 := ⟨h.1.trans (hb.mono h.1.size), (Fr.ofBelow hb).keep h.2 (fun e => e)⟩
theorem RZ.set {w W : World} (h : RZ w W) {q : Go.Addr} (hq : w.heap.size < q.block) (u : Value) : RZ w (W.setCell q u) := ⟨h.1.setCell (Nat.le_of_lt hq) u, (Fr.set W q u).keep h.2 (by show ¬ w.heap.size = q.block; omega)⟩
theorem RZ.res {w W : World} (h : RZ w W) :
    (W.cell? ⟨w.heap.size, 0, none⟩ = some (.bool false) ∧ W.cell? ⟨w.heap.size, 1, none⟩ = some (.int .i64 0) ∧ W.cell? ⟨w.heap.size, 2, none⟩ = some (.int .u64 0) ∧ W.cell? ⟨w.heap.size, 3, none⟩ = some (.int .u64 0) ∧ W.cell? ⟨w.heap.size, 4, none⟩ = some (.int .i64 0) ∧ W.cell? ⟨w.heap.size, 5, none⟩ = some (.int .i64 0) ∧ W.cell? ⟨w.heap.size, 6, none⟩ = some (.string ⟨#[]⟩) ∧ W.cell? ⟨w.heap.size, 7, none⟩ = some (.int .u32 0) ∧ W.cell? ⟨w.heap.size, 8, none⟩ = some (.int .i64 0)) ∧ ∀ i, W.frozen? ⟨w.heap.size, i, none⟩ = false := by
  have H := h.2
  exact ⟨⟨cell_at H 0, cell_at H 1, cell_at H 2, cell_at H 3, cell_at H 4, cell_at H 5, cell_at H 6, cell_at H 7, cell_at H 8⟩, fun i => free_at H i⟩
theorem below_nine {w W : World} (h : Below w.heap.size w W) (u0 u1 u2 u3 u4 u5 u6 u7 u8 : Value) :
    Below w.heap.size w (((((((((W.setCell ⟨w.heap.size, 0, none⟩ u0).setCell ⟨w.heap.size, 1, none⟩ u1).setCell ⟨w.heap.size, 2, none⟩ u2).setCell ⟨w.heap.size, 3, none⟩ u3).setCell ⟨w.heap.size, 4, none⟩ u4).setCell ⟨w.heap.size, 5, none⟩ u5).setCell ⟨w.heap.size, 6, none⟩ u6).setCell ⟨w.heap.size, 7, none⟩ u7).setCell ⟨w.heap.size, 8, none⟩ u8) :=
  ((((((((h.setCell (Nat.le_refl _) _).setCell (Nat.le_refl _) _).setCell (Nat.le_refl _) _).setCell (Nat.le_refl _) _).setCell (Nat.le_refl _) _).setCell (Nat.le_refl _) _).setCell (Nat.le_refl _) _).setCell (Nat.le_refl _) _).setCell (Nat.le_refl _) _
def kZ : Ch := ⟨false, ⟨0, 0, 0, 0, ⟨#[]⟩, 0, 0⟩⟩
/-- what one leaves -/
def One (w : World) (s : ByteArray) (a : Nat) (e : Ending) (w' : World) : Prop := ∃ (c : Ch) (n : Int), e = .returned (.tuple #[Cv c, .int .i64 n, .int .i64 (chE s (a : Int))]) ∧ (chE s (a : Int) = 0 → c = chC s (a : Int) ∧ n = chN s (a : Int)) ∧ Below w.heap.size w w'
theorem one_none {s : ByteArray} {a : Nat} (ha : a ≤ s.size) (h : (Rst s a).length = 0) : chE s (a : Int) = 3 := by
  have hm : mkE s (a : Int) = 3 := by rw [mkE_eq ha, if_neg (by omega)]
  unfold chE
  split
  · rw [hdE_eq ha (Or.inr hm), if_neg (by rw [hm]; intro h; exact absurd h.1 (by decide))]
  · rw [ptE_eq ha (Or.inr hm), if_neg (by rw [hm]; intro h; exact absurd h.1 (by decide))]
theorem errS_four (b : Bool) (x : Int) : errS 4 b x = 4 := by cases b <;> rfl
theorem one_form {s : ByteArray} {a : Nat} (ha : a ≤ s.size) (h : 1 ≤ (Rst s a).length) (h1 : getV 1 s (a : Int) ≠ 1) (h2 : getV 1 s (a : Int) ≠ 2) : chE s (a : Int) = 4 := by
  have hm : mkE s (a : Int) = 4 := by rw [mkE_eq ha, if_pos h, if_neg (by omega)]
  unfold chE ptE hdE
  rw [if_neg h2, hm]
  simp only [errS_four]
theorem one_head {s : ByteArray} {a : Nat} (ha : a ≤ s.size) (h : 1 ≤ (Rst s a).length) (h1 : getV 1 s (a : Int) = 1 ∨ getV 1 s (a : Int) = 2) (h2 : ¬ 19 ≤ (Rst s a).length) : chE s (a : Int) = 3 := by
  have hm : mkE s (a : Int) = 0 := by rw [mkE_eq ha, if_pos h, if_pos h1]
  unfold chE
  split
  · rw [hdE_eq ha (Or.inl hm), if_neg (by omega)]
  · rw [ptE_eq ha (Or.inl hm), if_neg (by omega)]
theorem one_gone {s : ByteArray} {a : Nat} (ha : a ≤ s.size) (h : 19 ≤ (Rst s a).length) (h1 : getV 1 s (a : Int) = 2) : chE s (a : Int) = 0 := by
  have hm : mkE s (a : Int) = 0 := by rw [mkE_eq ha, if_pos (by omega), if_pos (Or.inr h1)]
  unfold chE
  rw [if_pos h1, hdE_eq ha (Or.inl hm), if_pos ⟨hm, h⟩]
theorem one_put {s : ByteArray} {a : Nat} (ha : a ≤ s.size) (h : 19 ≤ (Rst s a).length) (h1 : getV 1 s (a : Int) = 1) : chE s (a : Int) = if 34 ≤ (Rst s a).length ∧ takeO s ((a + 32 : Nat) : Int) = true then 0 else 3 := by
  have hm : mkE s (a : Int) = 0 := by rw [mkE_eq ha, if_pos (by omega), if_pos (Or.inl h1)]
  unfold chE
  rw [if_neg (by rw [h1]; decide), ptE_eq ha (Or.inl hm), take_rst ha]
  simp only [decide_eq_true_eq]
  by_cases g : 34 ≤ (Rst s a).length ∧ 34 + getV 2 s ((a + 32 : Nat) : Int) ≤ (Rst s a).length
  · rw [if_pos ⟨hm, g⟩, if_pos ⟨g.1, g⟩]
  · rw [if_neg (fun e => g e.2), if_neg (fun e => g e.2)]

set_option maxRecDepth 100000 in
set_option maxHeartbeats 3000000 in
theorem one_a {s : ByteArray} (hs : s.size ≤ maxLen) {a : Nat} (ha : a ≤ s.size) (hb : a ≤ 1099511627776) (w : World) (h : (Rst s a).length = 0) :
    Calls Try.prog 50 #[.string s, .int .i64 (a : Nat)] w (One w s a) := by
  have CE := hide (one_none ha h)
  have C1 := hide (fun W => cut_ref s hs (show I64 (a : Int) by unfold I64; omega) (show I64 1 by unfold I64; omega) W)
  have e1 : cutO s (a : Int) 1 = false := by
    have := cut_rst ha 0 1
    rw [Nat.zero_add, Nat.add_zero] at this
    exact this.trans (decide_eq_false (by omega))
  rw [e1] at C1
  generalize cutV s (a : Int) 1 = t at *
  have H0 : RZ w (w.alloc (.cells #[.bool false, .int .i64 0, .int .u64 0, .int .u64 0, .int .i64 0, .int .i64 0, .string ⟨#[]⟩, .int .u32 0, .int .i64 0] 31)) := ⟨below_alloc _ _, heap_alloc_new _ _⟩
  clear e1 h
  go_enter Try.func50, Try.ntmps50
  go_wp2_with fail
  refine (C1.out _).mono ?_
  rintro e v ⟨rfl, rfl⟩
  obtain ⟨⟨y0, y1, y2, y3, y4, y5, y6, y7, y8⟩, fy⟩ := H0.res
  go_wp2
  refine bodyPost_ret (v := .tuple #[Cv kZ, .int .i64 0, .int .i64 3]) (by simp [results, Try.results50, go_sem, y0, y1, y2, y3, y4, y5, y6, y7, y8, kZ, hi_zero, lo_zero]) rfl ?_
  exact ⟨kZ, 0, by rw [CE.out], fun h => absurd (CE.out.symm.trans h) (by decide), H0.1⟩

set_option maxRecDepth 100000 in
set_option maxHeartbeats 3000000 in
theorem one_b {s : ByteArray} (hs : s.size ≤ maxLen) {a : Nat} (ha : a ≤ s.size) (hb : a ≤ 1099511627776) (w : World) (h : 1 ≤ (Rst s a).length) (h1 : getV 1 s (a : Int) ≠ 1) (h2 : getV 1 s (a : Int) ≠ 2) :
    Calls Try.prog 50 #[.string s, .int .i64 (a : Nat)] w (One w s a) := by
  have CE := hide (one_form ha h h1 h2)
  have C1 := hide (fun W => cut_ref s hs (show I64 (a : Int) by unfold I64; omega) (show I64 1 by unfold I64; omega) W)
  have e1 : cutO s (a : Int) 1 = true := by
    have := cut_rst ha 0 1
    rw [Nat.zero_add, Nat.add_zero] at this
    exact this.trans (decide_eq_true (by omega))
  rw [e1] at C1
  obtain ⟨h0, hv⟩ : ∃ h0 : 0 < (cutV s (a : Int) 1).size, ((cutV s (a : Int) 1)[0]'h0).toNat = getV 1 s (a : Int) := cut_idx (s := s) (a := a) (k := 0) (n := 1) (i := 0) ha (by omega) (by omega)
  rw [← hv] at h1 h2
  generalize cutV s (a : Int) 1 = t at *
  have z1 : (0 : Int) < (t.size : Int) := by omega
  have m1 : (((t[0].toNat : Nat) : Int) != 1) = true := by simp only [bne_iff_ne]; omega
  have m2 : (((t[0].toNat : Nat) : Int) != 2) = true := by simp only [bne_iff_ne]; omega
  have H0 : RZ w (w.alloc (.cells #[.bool false, .int .i64 0, .int .u64 0, .int .u64 0, .int .i64 0, .int .i64 0, .string ⟨#[]⟩, .int .u32 0, .int .i64 0] 31)) := ⟨below_alloc _ _, heap_alloc_new _ _⟩
  clear e1 h hv h1 h2
  go_enter Try.func50, Try.ntmps50
  go_wp2_with fail
  refine (C1.out _).mono ?_
  rintro e v ⟨rfl, rfl⟩
  obtain ⟨⟨y0, y1, y2, y3, y4, y5, y6, y7, y8⟩, fy⟩ := H0.res
  go_wp2
  refine bodyPost_ret (v := .tuple #[Cv kZ, .int .i64 0, .int .i64 4]) (by simp [results, Try.results50, go_sem, y0, y1, y2, y3, y4, y5, y6, y7, y8, kZ, hi_zero, lo_zero]) rfl ?_
  exact ⟨kZ, 0, by rw [CE.out], fun h => absurd (CE.out.symm.trans h) (by decide), H0.1⟩

end Go.Proofs.Ytgioifdmmneapaa
