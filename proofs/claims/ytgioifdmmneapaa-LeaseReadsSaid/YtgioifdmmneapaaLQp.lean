/-
  The document's own reading of one change: a head that is not whole. Conditions: the bytes are no longer than an int; the place is one of them, or the end, and below 2^40.
-/
import Derived.Test.YtgioifdmmneapaaLQo
namespace Go.Proofs.Ytgioifdmmneapaa
open Go.RowKit Go.Joins
theorem below_nine1 {w W : World} (h : Below w.heap.size w W) (u0 u1 u2 u3 u4 u5 u6 u7 u8 : Value) (o : Obj) :
    Below w.heap.size w ((((((((((W.setCell ⟨w.heap.size, 0, none⟩ u0).setCell ⟨w.heap.size, 1, none⟩ u1).setCell ⟨w.heap.size, 2, none⟩ u2).setCell ⟨w.heap.size, 3, none⟩ u3).setCell ⟨w.heap.size, 4, none⟩ u4).setCell ⟨w.heap.size, 5, none⟩ u5).setCell ⟨w.heap.size, 6, none⟩ u6).setCell ⟨w.heap.size, 7, none⟩ u7).setCell ⟨w.heap.size, 8, none⟩ u8).alloc o) :=
  (below_nine h u0 u1 u2 u3 u4 u5 u6 u7 u8).alloc (by simp only [World.size_setCell]; exact h.size) o

set_option maxRecDepth 100000 in
set_option maxHeartbeats 3000000 in
theorem one_c1 {s : ByteArray} (hs : s.size ≤ maxLen) {a : Nat} (ha : a ≤ s.size) (hb : a ≤ 1099511627776) (w : World) (h : 1 ≤ (Rst s a).length) (h1 : getV 1 s (a : Int) = 1) (h2 : ¬ 19 ≤ (Rst s a).length) :
    Calls Try.prog 50 #[.string s, .int .i64 (a : Nat)] w (One w s a) := by
  have CE := hide (one_head ha h (Or.inl h1) h2)
  have C1 := hide (fun W => cut_ref s hs (show I64 (a : Int) by unfold I64; omega) (show I64 1 by unfold I64; omega) W)
  have e1 : cutO s (a : Int) 1 = true := by
    have := cut_rst ha 0 1
    rw [Nat.zero_add, Nat.add_zero] at this
    exact this.trans (decide_eq_true (by omega))
  rw [e1] at C1
  obtain ⟨h0, hv⟩ : ∃ h0 : 0 < (cutV s (a : Int) 1).size, ((cutV s (a : Int) 1)[0]'h0).toNat = getV 1 s (a : Int) := cut_idx (s := s) (a := a) (k := 0) (n := 1) (i := 0) ha (by omega) (by omega)
  have h3 := h1
  rw [← hv] at h1
  generalize cutV s (a : Int) 1 = t at *
  have z1 : (0 : Int) < (t.size : Int) := by omega
  have m1 : (((t[0].toNat : Nat) : Int) != 1) = false := by rw [h1]; rfl
  have m2 : (((t[0].toNat : Nat) : Int) != 2) = true := by rw [h1]; rfl
  have m3 : (((t[0].toNat : Nat) : Int) == 2) = false := by rw [h1]; rfl
  have C2 := hide (fun W => (show Calls Try.prog 79 #[.string s, .int .i64 ((a : Int) + 1), .int .i64 2] W (Same (.tuple #[.string (cutV s ((a + 1 : Nat) : Int) ((2 : Nat) : Int)), .bool (cutO s ((a + 1 : Nat) : Int) ((2 : Nat) : Int))]) W) from cut_ref s hs (show I64 ((a : Int) + 1) by unfold I64; omega) (show I64 2 by unfold I64; omega) W))
  have C3 := hide (fun W => (show Calls Try.prog 80 #[.string s, .int .i64 ((a : Int) + 3)] W (Gives (.tuple #[A (getA s ((a + 3 : Nat) : Int)), .bool (cutO s ((a + 3 : Nat) : Int) ((16 : Nat) : Int))]) W) from getAddr_ref s hs (show I64 ((a : Int) + 3) by unfold I64; omega) W))
  have e3 : cutO s ((a + 3 : Nat) : Int) ((16 : Nat) : Int) = false := (cut_rst ha 3 16).trans (decide_eq_false (by omega))
  rw [e3] at C3
  generalize cutV s ((a + 1 : Nat) : Int) ((2 : Nat) : Int) = u at *
  generalize getA s ((a + 3 : Nat) : Int) = p at *
  generalize cutO s ((a + 1 : Nat) : Int) ((2 : Nat) : Int) = b at *
  have H0 : RZ w (w.alloc (.cells #[.bool false, .int .i64 0, .int .u64 0, .int .u64 0, .int .i64 0, .int .i64 0, .string ⟨#[]⟩, .int .u32 0, .int .i64 0] 31)) := ⟨below_alloc _ _, heap_alloc_new _ _⟩
  clear e1 e3 h hv h1 h2 h3
  go_enter Try.func50, Try.ntmps50
  go_wp2_with fail
  refine (C1.out _).mono ?_
  rintro e v ⟨rfl, rfl⟩
  go_wp2_with fail
  refine (C2.out _).mono ?_
  rintro e v ⟨rfl, rfl⟩
  go_wp2_with fail
  refine (C3.out _).mono ?_
  rintro e v ⟨rfl, hb3⟩
  have H1 := H0.step hb3
  have hne : w.heap.size < v.heap.size := by have := H1.1.size; have := lt_of_block H1.2; omega
  clear hb3 H0
  obtain ⟨⟨y0, y1, y2, y3, y4, y5, y6, y7, y8⟩, fy⟩ := H1.res
  cases b with
  | true =>
    go_wp2
    refine bodyPost_ret (v := .tuple #[Cv kZ, .int .i64 0, .int .i64 3]) (by simp [results, Try.results50, go_sem, y0, y1, y2, y3, y4, y5, y6, y7, y8, kZ, hi_zero, lo_zero, hne]) rfl ?_
    exact ⟨kZ, 0, by rw [CE.out], fun h => absurd (CE.out.symm.trans h) (by decide), below_nine1 H1.1 _ _ _ _ _ _ _ _ _ _⟩
  | false =>
    go_wp2
    refine bodyPost_ret (v := .tuple #[Cv kZ, .int .i64 0, .int .i64 3]) (by simp [results, Try.results50, go_sem, y0, y1, y2, y3, y4, y5, y6, y7, y8, kZ, hi_zero, lo_zero, hne]) rfl ?_
    exact ⟨kZ, 0, by rw [CE.out], fun h => absurd (CE.out.symm.trans h) (by decide), below_nine1 H1.1 _ _ _ _ _ _ _ _ _ _⟩

set_option maxRecDepth 100000 in
set_option maxHeartbeats 3000000 in
theorem one_c2 {s : ByteArray} (hs : s.size ≤ maxLen) {a : Nat} (ha : a ≤ s.size) (hb : a ≤ 1099511627776) (w : World) (h : 1 ≤ (Rst s a).length) (h1 : getV 1 s (a : Int) = 2) (h2 : ¬ 19 ≤ (Rst s a).length) :
    Calls Try.prog 50 #[.string s, .int .i64 (a : Nat)] w (One w s a) := by
  have CE := hide (one_head ha h (Or.inr h1) h2)
  have C1 := hide (fun W => cut_ref s hs (show I64 (a : Int) by unfold I64; omega) (show I64 1 by unfold I64; omega) W)
  have e1 : cutO s (a : Int) 1 = true := by
    have := cut_rst ha 0 1
    rw [Nat.zero_add, Nat.add_zero] at this
    exact this.trans (decide_eq_true (by omega))
  rw [e1] at C1
  obtain ⟨h0, hv⟩ : ∃ h0 : 0 < (cutV s (a : Int) 1).size, ((cutV s (a : Int) 1)[0]'h0).toNat = getV 1 s (a : Int) := cut_idx (s := s) (a := a) (k := 0) (n := 1) (i := 0) ha (by omega) (by omega)
  have h3 := h1
  rw [← hv] at h1
  generalize cutV s (a : Int) 1 = t at *
  have z1 : (0 : Int) < (t.size : Int) := by omega
  have m1 : (((t[0].toNat : Nat) : Int) != 1) = true := by rw [h1]; rfl
  have m2 : (((t[0].toNat : Nat) : Int) != 2) = false := by rw [h1]; rfl
  have m3 : (((t[0].toNat : Nat) : Int) == 2) = true := by rw [h1]; rfl
  have C2 := hide (fun W => (show Calls Try.prog 79 #[.string s, .int .i64 ((a : Int) + 1), .int .i64 2] W (Same (.tuple #[.string (cutV s ((a + 1 : Nat) : Int) ((2 : Nat) : Int)), .bool (cutO s ((a + 1 : Nat) : Int) ((2 : Nat) : Int))]) W) from cut_ref s hs (show I64 ((a : Int) + 1) by unfold I64; omega) (show I64 2 by unfold I64; omega) W))
  have C3 := hide (fun W => (show Calls Try.prog 80 #[.string s, .int .i64 ((a : Int) + 3)] W (Gives (.tuple #[A (getA s ((a + 3 : Nat) : Int)), .bool (cutO s ((a + 3 : Nat) : Int) ((16 : Nat) : Int))]) W) from getAddr_ref s hs (show I64 ((a : Int) + 3) by unfold I64; omega) W))
  have e3 : cutO s ((a + 3 : Nat) : Int) ((16 : Nat) : Int) = false := (cut_rst ha 3 16).trans (decide_eq_false (by omega))
  rw [e3] at C3
  generalize cutV s ((a + 1 : Nat) : Int) ((2 : Nat) : Int) = u at *
  generalize getA s ((a + 3 : Nat) : Int) = p at *
  generalize cutO s ((a + 1 : Nat) : Int) ((2 : Nat) : Int) = b at *
  have H0 : RZ w (w.alloc (.cells #[.bool false, .int .i64 0, .int .u64 0, .int .u64 0, .int .i64 0, .int .i64 0, .string ⟨#[]⟩, .int .u32 0, .int .i64 0] 31)) := ⟨below_alloc _ _, heap_alloc_new _ _⟩
  clear e1 e3 h hv h1 h2 h3
  go_enter Try.func50, Try.ntmps50
  go_wp2_with fail
  refine (C1.out _).mono ?_
  rintro e v ⟨rfl, rfl⟩
  go_wp2_with fail
  refine (C2.out _).mono ?_
  rintro e v ⟨rfl, rfl⟩
  go_wp2_with fail
  refine (C3.out _).mono ?_
  rintro e v ⟨rfl, hb3⟩
  have H1 := H0.step hb3
  have hne : w.heap.size < v.heap.size := by have := H1.1.size; have := lt_of_block H1.2; omega
  clear hb3 H0
  obtain ⟨⟨y0, y1, y2, y3, y4, y5, y6, y7, y8⟩, fy⟩ := H1.res
  cases b with
  | true =>
    go_wp2
    refine bodyPost_ret (v := .tuple #[Cv kZ, .int .i64 0, .int .i64 3]) (by simp [results, Try.results50, go_sem, y0, y1, y2, y3, y4, y5, y6, y7, y8, kZ, hi_zero, lo_zero, hne]) rfl ?_
    exact ⟨kZ, 0, by rw [CE.out], fun h => absurd (CE.out.symm.trans h) (by decide), below_nine1 H1.1 _ _ _ _ _ _ _ _ _ _⟩
  | false =>
    go_wp2
    refine bodyPost_ret (v := .tuple #[Cv kZ, .int .i64 0, .int .i64 3]) (by simp [results, Try.results50, go_sem, y0, y1, y2, y3, y4, y5, y6, y7, y8, kZ, hi_zero, lo_zero, hne]) rfl ?_
    exact ⟨kZ, 0, by rw [CE.out], fun h => absurd (CE.out.symm.trans h) (by decide), below_nine1 H1.1 _ _ _ _ _ _ _ _ _ _⟩
end Go.Proofs.Ytgioifdmmneapaa
