/-
  LeaseMeets' walk. Conditions: the words are words of 64 bits (every value of the type is such).
-/
import Derived.Test.YtgioifdmmneapaaLK
import Derived.Test.YtgioifdmmneapaaLMm
namespace Go.Proofs.Ytgioifdmmneapaa
open Go.RowKit Go.Joins

/-- the cells of a change -/
def Nin (g : Nat) (c : Ch) (W : World) : Prop := ∃ cs, cs = (#[.bool c.gone, .int .i64 c.l.kind, .int .u64 (hi c.l.p : Nat), .int .u64 (lo c.l.p : Nat), .int .i64 c.l.n, .int .i64 c.l.st, .string c.l.cl, .int .u32 (c.l.ia : Int), .int .i64 c.l.un] : Array Value) ∧ W.heap[g]? = some (.cells cs 31 (0, 0))
theorem nin_new (V : World) (c : Ch) : Nin V.heap.size c (V.alloc (.cells #[.bool c.gone, .int .i64 c.l.kind, .int .u64 (hi c.l.p : Nat), .int .u64 (lo c.l.p : Nat), .int .i64 c.l.n, .int .i64 c.l.st, .string c.l.cl, .int .u32 (c.l.ia : Int), .int .i64 c.l.un] 31)) := ⟨_, rfl, heap_alloc_new _ _⟩
theorem Nin.step {g : Nat} {c : Ch} {W W2 : World} (h : Nin g c W) (hb : Below W.heap.size W W2) : Nin g c W2 := by
  obtain ⟨cs, e, h⟩ := h
  exact ⟨cs, e, (Fr.ofBelow hb).keep h (fun e => e)⟩
theorem Nin.cells {g : Nat} {c : Ch} {W : World} (h : Nin g c W) : W.cell? ⟨g, 0, none⟩ = some (.bool c.gone) ∧ W.cell? ⟨g, 1, none⟩ = some (.int .i64 c.l.kind) ∧ W.cell? ⟨g, 2, none⟩ = some (.int .u64 (hi c.l.p : Nat)) ∧ W.cell? ⟨g, 3, none⟩ = some (.int .u64 (lo c.l.p : Nat)) ∧
    W.cell? ⟨g, 4, none⟩ = some (.int .i64 c.l.n) ∧ W.cell? ⟨g, 5, none⟩ = some (.int .i64 c.l.st) ∧ W.cell? ⟨g, 6, none⟩ = some (.string c.l.cl) ∧ W.cell? ⟨g, 7, none⟩ = some (.int .u32 (c.l.ia : Int)) ∧ W.cell? ⟨g, 8, none⟩ = some (.int .i64 c.l.un) := by
  obtain ⟨cs, rfl, H⟩ := h
  exact ⟨cell_at H 0, cell_at H 1, cell_at H 2, cell_at H 3, cell_at H 4, cell_at H 5, cell_at H 6, cell_at H 7, cell_at H 8⟩
/-- the boxes of two leases: what meeting reads of them -/
def XY (w : World) (g h : Nat) (c d : Ch) (W : World) : Prop := Below w.heap.size w W ∧ W.cell? ⟨g, 0, none⟩ = some (.int .i64 c.l.kind) ∧ W.cell? ⟨g, 1, none⟩ = some (.int .u64 (hi c.l.p : Nat)) ∧ W.cell? ⟨g, 2, none⟩ = some (.int .u64 (lo c.l.p : Nat)) ∧ W.cell? ⟨g, 3, none⟩ = some (.int .i64 c.l.n) ∧ W.cell? ⟨h, 0, none⟩ = some (.int .i64 d.l.kind) ∧ W.cell? ⟨h, 1, none⟩ = some (.int .u64 (hi d.l.p : Nat)) ∧ W.cell? ⟨h, 2, none⟩ = some (.int .u64 (lo d.l.p : Nat)) ∧ W.cell? ⟨h, 3, none⟩ = some (.int .i64 d.l.n)
theorem XY.step {w : World} {g h : Nat} {c d : Ch} {W W2 : World} (H : XY w g h c d W) (hb : Below W.heap.size W W2) : XY w g h c d W2 := by
  obtain ⟨h0, h1, h2, h3, h4, h5, h6, h7, h8⟩ := H
  exact ⟨h0.trans (hb.mono h0.size), keep_cell hb h1, keep_cell hb h2, keep_cell hb h3, keep_cell hb h4, keep_cell hb h5, keep_cell hb h6, keep_cell hb h7, keep_cell hb h8⟩
theorem xy_new {w v : World} {c d : Ch} (hb : Below w.heap.size w v) : XY w v.heap.size (v.heap.size + 1) c d ((v.alloc (.cells #[.int .i64 c.l.kind, .int .u64 (hi c.l.p : Nat), .int .u64 (lo c.l.p : Nat), .int .i64 c.l.n, .int .i64 c.l.st, .string c.l.cl, .int .u32 (c.l.ia : Int), .int .i64 c.l.un] 29)).alloc (.cells #[.int .i64 d.l.kind, .int .u64 (hi d.l.p : Nat), .int .u64 (lo d.l.p : Nat), .int .i64 d.l.n, .int .i64 d.l.st, .string d.l.cl, .int .u32 (d.l.ia : Int), .int .i64 d.l.un] 29)) := by
  refine ⟨hb.trans (((below_alloc _ _).trans ((below_alloc _ _).mono (by simp))).mono hb.size), ?_, ?_, ?_, ?_, ?_, ?_, ?_, ?_⟩ <;> simp [go_sem]
theorem size_alloc' (w : World) (o : Obj) : (w.alloc o).heap.size = w.heap.size + 1 := by simp

set_option maxRecDepth 100000 in
set_option maxHeartbeats 4000000 in
theorem meets_a {c d : Ch} (fc : Fits c.l.p) (fd : Fits d.l.p) (w : World) (E3 : rightS c.l.kind c.l.p c.l.n = false) :
    Calls Try.prog 7 #[Cv c, Cv d] w (Gives (.bool true) w) := by
  have E0 := meet_right (k := c.l.kind) (p := c.l.p) (n := c.l.n) (j := d.l.kind) (q := d.l.p) (m := d.l.n) (Or.inl E3)
  have E1 := meet_right (k := d.l.kind) (p := d.l.p) (n := d.l.n) (j := c.l.kind) (q := c.l.p) (m := c.l.n) (Or.inr E3)
  have E2 := (meet_self c.l.kind c.l.p c.l.n).trans E3
  have M1 := hide (fun W => meet_any c.l.kind fc c.l.n d.l.kind fd d.l.n W)
  rw [E0] at M1
  have R1 := hide (fun W => right_any c.l.kind fc c.l.n W)
  rw [E3] at R1
  go_enter Try.func7, Try.ntmps7
  go_wp2_with fail
  refine (awake_any _).mono ?_
  rintro e w1 ⟨rfl, hb⟩
  have N1 := ((nin_new w c).step (below_alloc _ (.cells #[.bool d.gone, .int .i64 d.l.kind, .int .u64 (hi d.l.p : Nat), .int .u64 (lo d.l.p : Nat), .int .i64 d.l.n, .int .i64 d.l.st, .string d.l.cl, .int .u32 (d.l.ia : Int), .int .i64 d.l.un] 31))).step hb
  have N2 := nin_new (w.alloc (.cells #[.bool c.gone, .int .i64 c.l.kind, .int .u64 (hi c.l.p : Nat), .int .u64 (lo c.l.p : Nat), .int .i64 c.l.n, .int .i64 c.l.st, .string c.l.cl, .int .u32 (c.l.ia : Int), .int .i64 c.l.un] 31)) d
  have N3 := N2.step hb
  have B1 : Below w.heap.size w w1 := (below_alloc w (.cells #[.bool c.gone, .int .i64 c.l.kind, .int .u64 (hi c.l.p : Nat), .int .u64 (lo c.l.p : Nat), .int .i64 c.l.n, .int .i64 c.l.st, .string c.l.cl, .int .u32 (c.l.ia : Int), .int .i64 c.l.un] 31)).trans (((below_alloc _ (.cells #[.bool d.gone, .int .i64 d.l.kind, .int .u64 (hi d.l.p : Nat), .int .u64 (lo d.l.p : Nat), .int .i64 d.l.n, .int .i64 d.l.st, .string d.l.cl, .int .u32 (d.l.ia : Int), .int .i64 d.l.un] 31)).trans (hb.mono (by simp))).mono (by simp))
  clear N2
  have H0 := xy_new (c := c) (d := d) B1
  have hz1 : w.heap.size + 1 < w1.heap.size := by have := hb.size; simp at this; omega
  have hz0 : w.heap.size < w1.heap.size := by omega
  obtain ⟨c0, c1, c2, c3, c4, c5, c6, c7, c8⟩ := N1.cells
  obtain ⟨d0, d1, d2, d3, d4, d5, d6, d7, d8⟩ := N3.cells
  simp only [size_alloc'] at d0 d1 d2 d3 d4 d5 d6 d7 d8
  clear N1 N3 B1 hb
  go_wp2_with fail
  clear c0 c1 c2 c3 c4 c5 c6 c7 c8 d0 d1 d2 d3 d4 d5 d6 d7 d8
  generalize (w1.alloc (.cells #[.int .i64 c.l.kind, .int .u64 (hi c.l.p : Nat), .int .u64 (lo c.l.p : Nat), .int .i64 c.l.n, .int .i64 c.l.st, .string c.l.cl, .int .u32 (c.l.ia : Int), .int .i64 c.l.un] 29)).alloc (.cells #[.int .i64 d.l.kind, .int .u64 (hi d.l.p : Nat), .int .u64 (lo d.l.p : Nat), .int .i64 d.l.n, .int .i64 d.l.st, .string d.l.cl, .int .u32 (d.l.ia : Int), .int .i64 d.l.un] 29) = V at *
  clear hz0 hz1
  generalize w1.heap.size = g at *
  obtain ⟨_, a0, a1, a2, a3, b0, b1, b2, b3⟩ := id H0
  go_wp2_with fail
  refine (M1.out V).mono ?_
  rintro e w2 ⟨rfl, hb⟩
  have H2 := H0.step hb
  clear hb H0 a0 a1 a2 a3 b0 b1 b2 b3
  obtain ⟨_, a0, a1, a2, a3, b0, b1, b2, b3⟩ := id H2
  go_wp2_with fail
  clear a0 a1 a2 a3 b0 b1 b2 b3
  go_region_held3 (fun W => Below w.heap.size w W ∧ W.cell? ⟨g, 0, none⟩ = some (.int .i64 c.l.kind) ∧ W.cell? ⟨g, 1, none⟩ = some (.int .u64 (hi c.l.p : Nat)) ∧ W.cell? ⟨g, 2, none⟩ = some (.int .u64 (lo c.l.p : Nat)) ∧ W.cell? ⟨g, 3, none⟩ = some (.int .i64 c.l.n) ∧ W.cell? ⟨g + 1, 0, none⟩ = some (.int .i64 d.l.kind) ∧ W.cell? ⟨g + 1, 1, none⟩ = some (.int .u64 (hi d.l.p : Nat)) ∧ W.cell? ⟨g + 1, 2, none⟩ = some (.int .u64 (lo d.l.p : Nat)) ∧ W.cell? ⟨g + 1, 3, none⟩ = some (.int .i64 d.l.n))
    (first
      | exact H2.step (below_drew _)
      | exact H3
      | exact H4
      | exact H5)
    (first
      | (go_at_call 10; refine (right_any _ (by assumption) _ _).mono ?_; rintro e w5 ⟨he, hb⟩; simp only [E3] at he; subst he; have H5 := H4.step hb; clear hb)
      | (go_at_call 18; refine (meet_any _ (by assumption) _ _ (by assumption) _ _).mono ?_; rintro e w3 ⟨he, hb⟩; simp only [E1] at he; subst he; have H3 := (H2.step (below_drew _)).step hb; clear hb)
      | (go_at_call 18; refine (meet_any _ (by assumption) _ _ (by assumption) _ _).mono ?_; rintro e w4 ⟨he, hb⟩; simp only [E2] at he; subst he; have H4 := H3.step hb; clear hb))
  obtain ⟨_, a0, a1, a2, a3, b0, b1, b2, b3⟩ := id H5
  go_wp2_with fail
  refine (R1.out _).mono ?_
  rintro e w6 ⟨rfl, hb⟩
  have H6 := H5.step hb
  clear hb a0 a1 a2 a3 b0 b1 b2 b3
  obtain ⟨_, a0, a1, a2, a3, b0, b1, b2, b3⟩ := id H6
  go_wp2
  go_ret
  exact ⟨rfl, H6.1⟩

set_option maxRecDepth 100000 in
set_option maxHeartbeats 4000000 in
theorem meets_b {c d : Ch} (fc : Fits c.l.p) (fd : Fits d.l.p) (w : World) (E3 : rightS c.l.kind c.l.p c.l.n = true) (E4 : rightS d.l.kind d.l.p d.l.n = false) :
    Calls Try.prog 7 #[Cv c, Cv d] w (Gives (.bool true) w) := by
  have E0 := meet_right (k := c.l.kind) (p := c.l.p) (n := c.l.n) (j := d.l.kind) (q := d.l.p) (m := d.l.n) (Or.inr E4)
  have E1 := meet_right (k := d.l.kind) (p := d.l.p) (n := d.l.n) (j := c.l.kind) (q := c.l.p) (m := c.l.n) (Or.inl E4)
  have E2 := (meet_self c.l.kind c.l.p c.l.n).trans E3
  have R2 := hide (fun W => right_any d.l.kind fd d.l.n W)
  rw [E4] at R2
  have M1 := hide (fun W => meet_any c.l.kind fc c.l.n d.l.kind fd d.l.n W)
  rw [E0] at M1
  have R1 := hide (fun W => right_any c.l.kind fc c.l.n W)
  rw [E3] at R1
  go_enter Try.func7, Try.ntmps7
  go_wp2_with fail
  refine (awake_any _).mono ?_
  rintro e w1 ⟨rfl, hb⟩
  have N1 := ((nin_new w c).step (below_alloc _ (.cells #[.bool d.gone, .int .i64 d.l.kind, .int .u64 (hi d.l.p : Nat), .int .u64 (lo d.l.p : Nat), .int .i64 d.l.n, .int .i64 d.l.st, .string d.l.cl, .int .u32 (d.l.ia : Int), .int .i64 d.l.un] 31))).step hb
  have N2 := nin_new (w.alloc (.cells #[.bool c.gone, .int .i64 c.l.kind, .int .u64 (hi c.l.p : Nat), .int .u64 (lo c.l.p : Nat), .int .i64 c.l.n, .int .i64 c.l.st, .string c.l.cl, .int .u32 (c.l.ia : Int), .int .i64 c.l.un] 31)) d
  have N3 := N2.step hb
  have B1 : Below w.heap.size w w1 := (below_alloc w (.cells #[.bool c.gone, .int .i64 c.l.kind, .int .u64 (hi c.l.p : Nat), .int .u64 (lo c.l.p : Nat), .int .i64 c.l.n, .int .i64 c.l.st, .string c.l.cl, .int .u32 (c.l.ia : Int), .int .i64 c.l.un] 31)).trans (((below_alloc _ (.cells #[.bool d.gone, .int .i64 d.l.kind, .int .u64 (hi d.l.p : Nat), .int .u64 (lo d.l.p : Nat), .int .i64 d.l.n, .int .i64 d.l.st, .string d.l.cl, .int .u32 (d.l.ia : Int), .int .i64 d.l.un] 31)).trans (hb.mono (by simp))).mono (by simp))
  clear N2
  have H0 := xy_new (c := c) (d := d) B1
  have hz1 : w.heap.size + 1 < w1.heap.size := by have := hb.size; simp at this; omega
  have hz0 : w.heap.size < w1.heap.size := by omega
  obtain ⟨c0, c1, c2, c3, c4, c5, c6, c7, c8⟩ := N1.cells
  obtain ⟨d0, d1, d2, d3, d4, d5, d6, d7, d8⟩ := N3.cells
  simp only [size_alloc'] at d0 d1 d2 d3 d4 d5 d6 d7 d8
  clear N1 N3 B1 hb
  go_wp2_with fail
  clear c0 c1 c2 c3 c4 c5 c6 c7 c8 d0 d1 d2 d3 d4 d5 d6 d7 d8
  generalize (w1.alloc (.cells #[.int .i64 c.l.kind, .int .u64 (hi c.l.p : Nat), .int .u64 (lo c.l.p : Nat), .int .i64 c.l.n, .int .i64 c.l.st, .string c.l.cl, .int .u32 (c.l.ia : Int), .int .i64 c.l.un] 29)).alloc (.cells #[.int .i64 d.l.kind, .int .u64 (hi d.l.p : Nat), .int .u64 (lo d.l.p : Nat), .int .i64 d.l.n, .int .i64 d.l.st, .string d.l.cl, .int .u32 (d.l.ia : Int), .int .i64 d.l.un] 29) = V at *
  clear hz0 hz1
  generalize w1.heap.size = g at *
  obtain ⟨_, a0, a1, a2, a3, b0, b1, b2, b3⟩ := id H0
  go_wp2_with fail
  refine (M1.out V).mono ?_
  rintro e w2 ⟨rfl, hb⟩
  have H2 := H0.step hb
  clear hb H0 a0 a1 a2 a3 b0 b1 b2 b3
  obtain ⟨_, a0, a1, a2, a3, b0, b1, b2, b3⟩ := id H2
  go_wp2_with fail
  clear a0 a1 a2 a3 b0 b1 b2 b3
  go_region_held3 (fun W => Below w.heap.size w W ∧ W.cell? ⟨g, 0, none⟩ = some (.int .i64 c.l.kind) ∧ W.cell? ⟨g, 1, none⟩ = some (.int .u64 (hi c.l.p : Nat)) ∧ W.cell? ⟨g, 2, none⟩ = some (.int .u64 (lo c.l.p : Nat)) ∧ W.cell? ⟨g, 3, none⟩ = some (.int .i64 c.l.n) ∧ W.cell? ⟨g + 1, 0, none⟩ = some (.int .i64 d.l.kind) ∧ W.cell? ⟨g + 1, 1, none⟩ = some (.int .u64 (hi d.l.p : Nat)) ∧ W.cell? ⟨g + 1, 2, none⟩ = some (.int .u64 (lo d.l.p : Nat)) ∧ W.cell? ⟨g + 1, 3, none⟩ = some (.int .i64 d.l.n))
    (first
      | exact H2.step (below_drew _)
      | exact H3
      | exact H4
      | exact H5)
    (first
      | (go_at_call 10; refine (right_any _ (by assumption) _ _).mono ?_; rintro e w5 ⟨he, hb⟩; simp only [E3] at he; subst he; have H5 := H4.step hb; clear hb)
      | (go_at_call 18; refine (meet_any _ (by assumption) _ _ (by assumption) _ _).mono ?_; rintro e w3 ⟨he, hb⟩; simp only [E1] at he; subst he; have H3 := (H2.step (below_drew _)).step hb; clear hb)
      | (go_at_call 18; refine (meet_any _ (by assumption) _ _ (by assumption) _ _).mono ?_; rintro e w4 ⟨he, hb⟩; simp only [E2] at he; subst he; have H4 := H3.step hb; clear hb))
  obtain ⟨_, a0, a1, a2, a3, b0, b1, b2, b3⟩ := id H5
  go_wp2_with fail
  refine (R1.out _).mono ?_
  rintro e w6 ⟨rfl, hb⟩
  have H6 := H5.step hb
  clear hb a0 a1 a2 a3 b0 b1 b2 b3
  obtain ⟨_, a0, a1, a2, a3, b0, b1, b2, b3⟩ := id H6
  go_wp2_with fail
  refine (R2.out _).mono ?_
  rintro e w7 ⟨rfl, hb⟩
  have H7 := H6.step hb
  clear hb a0 a1 a2 a3 b0 b1 b2 b3
  obtain ⟨_, a0, a1, a2, a3, b0, b1, b2, b3⟩ := id H7
  go_wp2
  go_ret
  exact ⟨rfl, H7.1⟩

set_option maxRecDepth 100000 in
set_option maxHeartbeats 4000000 in
theorem meets_c {c d : Ch} (fc : Fits c.l.p) (fd : Fits d.l.p) (w : World) {h1 h2 : Bool} (E3 : rightS c.l.kind c.l.p c.l.n = true) (E4 : rightS d.l.kind d.l.p d.l.n = true) (E5 : hasS c.l.p c.l.n d.l.p = h1) (E6 : hasS d.l.p d.l.n c.l.p = h2) (k1 : c.l.kind ≠ 1) (k2 : d.l.kind ≠ 1) :
    Calls Try.prog 7 #[Cv c, Cv d] w (Gives (.bool true) w) := by
  have E0 : meetS c.l.kind c.l.p c.l.n d.l.kind d.l.p d.l.n = (h1 || h2) := by rw [meet_v6 E3 E4 k1 k2, E5, E6]
  have E1 := (meet_comm d.l.kind d.l.p d.l.n c.l.kind c.l.p c.l.n).trans E0
  have E2 := (meet_self c.l.kind c.l.p c.l.n).trans E3
  have R2 := hide (fun W => right_any d.l.kind fd d.l.n W)
  rw [E4] at R2
  have K1 : (c.l.kind == 1) = false := by simpa using k1
  have K2 : (d.l.kind == 1) = false := by simpa using k2
  have G1 := hide (fun W => has_any (p := c.l.p) fd c.l.n W)
  rw [E5] at G1
  have G2 := hide (fun W => has_any (p := d.l.p) fc d.l.n W)
  rw [E6] at G2
  have M1 := hide (fun W => meet_any c.l.kind fc c.l.n d.l.kind fd d.l.n W)
  rw [E0] at M1
  have R1 := hide (fun W => right_any c.l.kind fc c.l.n W)
  rw [E3] at R1
  go_enter Try.func7, Try.ntmps7
  go_wp2_with fail
  refine (awake_any _).mono ?_
  rintro e w1 ⟨rfl, hb⟩
  have N1 := ((nin_new w c).step (below_alloc _ (.cells #[.bool d.gone, .int .i64 d.l.kind, .int .u64 (hi d.l.p : Nat), .int .u64 (lo d.l.p : Nat), .int .i64 d.l.n, .int .i64 d.l.st, .string d.l.cl, .int .u32 (d.l.ia : Int), .int .i64 d.l.un] 31))).step hb
  have N2 := nin_new (w.alloc (.cells #[.bool c.gone, .int .i64 c.l.kind, .int .u64 (hi c.l.p : Nat), .int .u64 (lo c.l.p : Nat), .int .i64 c.l.n, .int .i64 c.l.st, .string c.l.cl, .int .u32 (c.l.ia : Int), .int .i64 c.l.un] 31)) d
  have N3 := N2.step hb
  have B1 : Below w.heap.size w w1 := (below_alloc w (.cells #[.bool c.gone, .int .i64 c.l.kind, .int .u64 (hi c.l.p : Nat), .int .u64 (lo c.l.p : Nat), .int .i64 c.l.n, .int .i64 c.l.st, .string c.l.cl, .int .u32 (c.l.ia : Int), .int .i64 c.l.un] 31)).trans (((below_alloc _ (.cells #[.bool d.gone, .int .i64 d.l.kind, .int .u64 (hi d.l.p : Nat), .int .u64 (lo d.l.p : Nat), .int .i64 d.l.n, .int .i64 d.l.st, .string d.l.cl, .int .u32 (d.l.ia : Int), .int .i64 d.l.un] 31)).trans (hb.mono (by simp))).mono (by simp))
  clear N2
  have H0 := xy_new (c := c) (d := d) B1
  have hz1 : w.heap.size + 1 < w1.heap.size := by have := hb.size; simp at this; omega
  have hz0 : w.heap.size < w1.heap.size := by omega
  obtain ⟨c0, c1, c2, c3, c4, c5, c6, c7, c8⟩ := N1.cells
  obtain ⟨d0, d1, d2, d3, d4, d5, d6, d7, d8⟩ := N3.cells
  simp only [size_alloc'] at d0 d1 d2 d3 d4 d5 d6 d7 d8
  clear N1 N3 B1 hb
  go_wp2_with fail
  clear c0 c1 c2 c3 c4 c5 c6 c7 c8 d0 d1 d2 d3 d4 d5 d6 d7 d8
  generalize (w1.alloc (.cells #[.int .i64 c.l.kind, .int .u64 (hi c.l.p : Nat), .int .u64 (lo c.l.p : Nat), .int .i64 c.l.n, .int .i64 c.l.st, .string c.l.cl, .int .u32 (c.l.ia : Int), .int .i64 c.l.un] 29)).alloc (.cells #[.int .i64 d.l.kind, .int .u64 (hi d.l.p : Nat), .int .u64 (lo d.l.p : Nat), .int .i64 d.l.n, .int .i64 d.l.st, .string d.l.cl, .int .u32 (d.l.ia : Int), .int .i64 d.l.un] 29) = V at *
  clear hz0 hz1
  generalize w1.heap.size = g at *
  obtain ⟨_, a0, a1, a2, a3, b0, b1, b2, b3⟩ := id H0
  go_wp2_with fail
  refine (M1.out V).mono ?_
  rintro e w2 ⟨rfl, hb⟩
  have H2 := H0.step hb
  clear hb H0 a0 a1 a2 a3 b0 b1 b2 b3
  obtain ⟨_, a0, a1, a2, a3, b0, b1, b2, b3⟩ := id H2
  go_wp2_with fail
  clear a0 a1 a2 a3 b0 b1 b2 b3
  go_region_held3 (fun W => Below w.heap.size w W ∧ W.cell? ⟨g, 0, none⟩ = some (.int .i64 c.l.kind) ∧ W.cell? ⟨g, 1, none⟩ = some (.int .u64 (hi c.l.p : Nat)) ∧ W.cell? ⟨g, 2, none⟩ = some (.int .u64 (lo c.l.p : Nat)) ∧ W.cell? ⟨g, 3, none⟩ = some (.int .i64 c.l.n) ∧ W.cell? ⟨g + 1, 0, none⟩ = some (.int .i64 d.l.kind) ∧ W.cell? ⟨g + 1, 1, none⟩ = some (.int .u64 (hi d.l.p : Nat)) ∧ W.cell? ⟨g + 1, 2, none⟩ = some (.int .u64 (lo d.l.p : Nat)) ∧ W.cell? ⟨g + 1, 3, none⟩ = some (.int .i64 d.l.n))
    (first
      | exact H2.step (below_drew _)
      | exact H3
      | exact H4
      | exact H5)
    (first
      | (go_at_call 10; refine (right_any _ (by assumption) _ _).mono ?_; rintro e w5 ⟨he, hb⟩; simp only [E3] at he; subst he; have H5 := H4.step hb; clear hb)
      | (go_at_call 18; refine (meet_any _ (by assumption) _ _ (by assumption) _ _).mono ?_; rintro e w3 ⟨he, hb⟩; simp only [E1] at he; subst he; have H3 := (H2.step (below_drew _)).step hb; clear hb)
      | (go_at_call 18; refine (meet_any _ (by assumption) _ _ (by assumption) _ _).mono ?_; rintro e w4 ⟨he, hb⟩; simp only [E2] at he; subst he; have H4 := H3.step hb; clear hb))
  obtain ⟨_, a0, a1, a2, a3, b0, b1, b2, b3⟩ := id H5
  go_wp2_with fail
  refine (R1.out _).mono ?_
  rintro e w6 ⟨rfl, hb⟩
  have H6 := H5.step hb
  clear hb a0 a1 a2 a3 b0 b1 b2 b3
  obtain ⟨_, a0, a1, a2, a3, b0, b1, b2, b3⟩ := id H6
  go_wp2_with fail
  refine (R2.out _).mono ?_
  rintro e w7 ⟨rfl, hb⟩
  have H7 := H6.step hb
  clear hb a0 a1 a2 a3 b0 b1 b2 b3
  obtain ⟨_, a0, a1, a2, a3, b0, b1, b2, b3⟩ := id H7
  cases h1 with
  | true =>
    go_wp2_with fail
    refine (G1.out _).mono ?_
    rintro e w8 ⟨rfl, hb⟩
    have H8 := H7.step hb
    clear hb a0 a1 a2 a3 b0 b1 b2 b3
    obtain ⟨_, a0, a1, a2, a3, b0, b1, b2, b3⟩ := id H8
    go_wp2
    go_ret
    exact ⟨rfl, H8.1⟩
  | false =>
    go_wp2_with fail
    refine (G1.out _).mono ?_
    rintro e w8 ⟨rfl, hb⟩
    have H8 := H7.step hb
    clear hb a0 a1 a2 a3 b0 b1 b2 b3
    obtain ⟨_, a0, a1, a2, a3, b0, b1, b2, b3⟩ := id H8
    go_wp2_with fail
    refine (G2.out _).mono ?_
    rintro e w9 ⟨rfl, hb⟩
    have H9 := H8.step hb
    clear hb a0 a1 a2 a3 b0 b1 b2 b3
    obtain ⟨_, a0, a1, a2, a3, b0, b1, b2, b3⟩ := id H9
    cases h2 with
    | true =>
      go_wp2
      go_ret
      exact ⟨rfl, H9.1⟩
    | false =>
      go_wp2
      go_ret
      exact ⟨rfl, H9.1⟩

set_option maxRecDepth 100000 in
set_option maxHeartbeats 4000000 in
theorem meets_d {c d : Ch} (fc : Fits c.l.p) (fd : Fits d.l.p) (w : World) {mm : Bool} (E3 : rightS c.l.kind c.l.p c.l.n = true) (E4 : rightS d.l.kind d.l.p d.l.n = true) (E0 : meetS c.l.kind c.l.p c.l.n d.l.kind d.l.p d.l.n = mm) (E7 : mm = decide (c.l.kind = d.l.kind ∧ c.l.p = d.l.p ∧ c.l.n = d.l.n)) (k1 : c.l.kind = 1) :
    Calls Try.prog 7 #[Cv c, Cv d] w (Gives (.bool true) w) := by
  have E1 := (meet_comm d.l.kind d.l.p d.l.n c.l.kind c.l.p c.l.n).trans E0
  have E2 := (meet_self c.l.kind c.l.p c.l.n).trans E3
  have R2 := hide (fun W => right_any d.l.kind fd d.l.n W)
  rw [E4] at R2
  have HK1 := hide k1
  have HE := hide E7
  clear k1 E7
  have M1 := hide (fun W => meet_any c.l.kind fc c.l.n d.l.kind fd d.l.n W)
  rw [E0] at M1
  have R1 := hide (fun W => right_any c.l.kind fc c.l.n W)
  rw [E3] at R1
  go_enter Try.func7, Try.ntmps7
  go_wp2_with fail
  refine (awake_any _).mono ?_
  rintro e w1 ⟨rfl, hb⟩
  have N1 := ((nin_new w c).step (below_alloc _ (.cells #[.bool d.gone, .int .i64 d.l.kind, .int .u64 (hi d.l.p : Nat), .int .u64 (lo d.l.p : Nat), .int .i64 d.l.n, .int .i64 d.l.st, .string d.l.cl, .int .u32 (d.l.ia : Int), .int .i64 d.l.un] 31))).step hb
  have N2 := nin_new (w.alloc (.cells #[.bool c.gone, .int .i64 c.l.kind, .int .u64 (hi c.l.p : Nat), .int .u64 (lo c.l.p : Nat), .int .i64 c.l.n, .int .i64 c.l.st, .string c.l.cl, .int .u32 (c.l.ia : Int), .int .i64 c.l.un] 31)) d
  have N3 := N2.step hb
  have B1 : Below w.heap.size w w1 := (below_alloc w (.cells #[.bool c.gone, .int .i64 c.l.kind, .int .u64 (hi c.l.p : Nat), .int .u64 (lo c.l.p : Nat), .int .i64 c.l.n, .int .i64 c.l.st, .string c.l.cl, .int .u32 (c.l.ia : Int), .int .i64 c.l.un] 31)).trans (((below_alloc _ (.cells #[.bool d.gone, .int .i64 d.l.kind, .int .u64 (hi d.l.p : Nat), .int .u64 (lo d.l.p : Nat), .int .i64 d.l.n, .int .i64 d.l.st, .string d.l.cl, .int .u32 (d.l.ia : Int), .int .i64 d.l.un] 31)).trans (hb.mono (by simp))).mono (by simp))
  clear N2
  have H0 := xy_new (c := c) (d := d) B1
  have hz1 : w.heap.size + 1 < w1.heap.size := by have := hb.size; simp at this; omega
  have hz0 : w.heap.size < w1.heap.size := by omega
  obtain ⟨c0, c1, c2, c3, c4, c5, c6, c7, c8⟩ := N1.cells
  obtain ⟨d0, d1, d2, d3, d4, d5, d6, d7, d8⟩ := N3.cells
  simp only [size_alloc'] at d0 d1 d2 d3 d4 d5 d6 d7 d8
  clear N1 N3 B1 hb
  go_wp2_with fail
  clear c0 c1 c2 c3 c4 c5 c6 c7 c8 d0 d1 d2 d3 d4 d5 d6 d7 d8
  generalize (w1.alloc (.cells #[.int .i64 c.l.kind, .int .u64 (hi c.l.p : Nat), .int .u64 (lo c.l.p : Nat), .int .i64 c.l.n, .int .i64 c.l.st, .string c.l.cl, .int .u32 (c.l.ia : Int), .int .i64 c.l.un] 29)).alloc (.cells #[.int .i64 d.l.kind, .int .u64 (hi d.l.p : Nat), .int .u64 (lo d.l.p : Nat), .int .i64 d.l.n, .int .i64 d.l.st, .string d.l.cl, .int .u32 (d.l.ia : Int), .int .i64 d.l.un] 29) = V at *
  clear hz0 hz1
  generalize w1.heap.size = g at *
  obtain ⟨_, a0, a1, a2, a3, b0, b1, b2, b3⟩ := id H0
  go_wp2_with fail
  refine (M1.out V).mono ?_
  rintro e w2 ⟨rfl, hb⟩
  have H2 := H0.step hb
  clear hb H0 a0 a1 a2 a3 b0 b1 b2 b3
  obtain ⟨_, a0, a1, a2, a3, b0, b1, b2, b3⟩ := id H2
  go_wp2_with fail
  clear a0 a1 a2 a3 b0 b1 b2 b3
  go_region_held3 (fun W => Below w.heap.size w W ∧ W.cell? ⟨g, 0, none⟩ = some (.int .i64 c.l.kind) ∧ W.cell? ⟨g, 1, none⟩ = some (.int .u64 (hi c.l.p : Nat)) ∧ W.cell? ⟨g, 2, none⟩ = some (.int .u64 (lo c.l.p : Nat)) ∧ W.cell? ⟨g, 3, none⟩ = some (.int .i64 c.l.n) ∧ W.cell? ⟨g + 1, 0, none⟩ = some (.int .i64 d.l.kind) ∧ W.cell? ⟨g + 1, 1, none⟩ = some (.int .u64 (hi d.l.p : Nat)) ∧ W.cell? ⟨g + 1, 2, none⟩ = some (.int .u64 (lo d.l.p : Nat)) ∧ W.cell? ⟨g + 1, 3, none⟩ = some (.int .i64 d.l.n))
    (first
      | exact H2.step (below_drew _)
      | exact H3
      | exact H4
      | exact H5)
    (first
      | (go_at_call 10; refine (right_any _ (by assumption) _ _).mono ?_; rintro e w5 ⟨he, hb⟩; simp only [E3] at he; subst he; have H5 := H4.step hb; clear hb)
      | (go_at_call 18; refine (meet_any _ (by assumption) _ _ (by assumption) _ _).mono ?_; rintro e w3 ⟨he, hb⟩; simp only [E1] at he; subst he; have H3 := (H2.step (below_drew _)).step hb; clear hb)
      | (go_at_call 18; refine (meet_any _ (by assumption) _ _ (by assumption) _ _).mono ?_; rintro e w4 ⟨he, hb⟩; simp only [E2] at he; subst he; have H4 := H3.step hb; clear hb))
  obtain ⟨_, a0, a1, a2, a3, b0, b1, b2, b3⟩ := id H5
  go_wp2_with fail
  refine (R1.out _).mono ?_
  rintro e w6 ⟨rfl, hb⟩
  have H6 := H5.step hb
  clear hb a0 a1 a2 a3 b0 b1 b2 b3
  obtain ⟨_, a0, a1, a2, a3, b0, b1, b2, b3⟩ := id H6
  go_wp2_with fail
  refine (R2.out _).mono ?_
  rintro e w7 ⟨rfl, hb⟩
  have H7 := H6.step hb
  clear hb a0 a1 a2 a3 b0 b1 b2 b3
  obtain ⟨_, a0, a1, a2, a3, b0, b1, b2, b3⟩ := id H7
  have k1 := HK1.out
  have F : Hid (∀ (W' : World) (b : Bool), Below w.heap.size w W' → b = true → Gives (.bool true) w (.returned (.bool b)) W') := hide (fun W' b h e => ⟨by rw [e], h⟩)
  go_wp2
  all_goals go_ret
  all_goals refine F.out _ _ H7.1 ?_
  all_goals rw [HE.out]
  all_goals by_cases e : c.l.kind = d.l.kind ∧ c.l.p = d.l.p ∧ c.l.n = d.l.n
  all_goals first
    | (rw [decide_eq_true e]; done)
    | (rw [decide_eq_true e]; rfl)
    | (obtain ⟨e1, e2, e3⟩ := e; exfalso; have e4 := congrArg hi e2; have e5 := congrArg lo e2; omega)
    | (rw [decide_eq_false e]; done)
    | (rw [decide_eq_false e]; rfl)
    | (exfalso; apply e; exact ⟨by omega, eq_of_words (by omega) (by omega), by omega⟩)

set_option maxRecDepth 100000 in
set_option maxHeartbeats 4000000 in
theorem meets_e {c d : Ch} (fc : Fits c.l.p) (fd : Fits d.l.p) (w : World) {mm : Bool} (E3 : rightS c.l.kind c.l.p c.l.n = true) (E4 : rightS d.l.kind d.l.p d.l.n = true) (E0 : meetS c.l.kind c.l.p c.l.n d.l.kind d.l.p d.l.n = mm) (E7 : mm = decide (c.l.kind = d.l.kind ∧ c.l.p = d.l.p ∧ c.l.n = d.l.n)) (k1 : c.l.kind ≠ 1) (k2 : d.l.kind = 1) :
    Calls Try.prog 7 #[Cv c, Cv d] w (Gives (.bool true) w) := by
  have E1 := (meet_comm d.l.kind d.l.p d.l.n c.l.kind c.l.p c.l.n).trans E0
  have E2 := (meet_self c.l.kind c.l.p c.l.n).trans E3
  have R2 := hide (fun W => right_any d.l.kind fd d.l.n W)
  rw [E4] at R2
  have K1 : (c.l.kind == 1) = false := by simpa using k1
  have HK2 := hide k2
  have E8 : mm = false := by rw [E7]; exact decide_eq_false (fun e => k1 (e.1.trans k2))
  clear k2 E7
  subst E8
  have M1 := hide (fun W => meet_any c.l.kind fc c.l.n d.l.kind fd d.l.n W)
  rw [E0] at M1
  have R1 := hide (fun W => right_any c.l.kind fc c.l.n W)
  rw [E3] at R1
  go_enter Try.func7, Try.ntmps7
  go_wp2_with fail
  refine (awake_any _).mono ?_
  rintro e w1 ⟨rfl, hb⟩
  have N1 := ((nin_new w c).step (below_alloc _ (.cells #[.bool d.gone, .int .i64 d.l.kind, .int .u64 (hi d.l.p : Nat), .int .u64 (lo d.l.p : Nat), .int .i64 d.l.n, .int .i64 d.l.st, .string d.l.cl, .int .u32 (d.l.ia : Int), .int .i64 d.l.un] 31))).step hb
  have N2 := nin_new (w.alloc (.cells #[.bool c.gone, .int .i64 c.l.kind, .int .u64 (hi c.l.p : Nat), .int .u64 (lo c.l.p : Nat), .int .i64 c.l.n, .int .i64 c.l.st, .string c.l.cl, .int .u32 (c.l.ia : Int), .int .i64 c.l.un] 31)) d
  have N3 := N2.step hb
  have B1 : Below w.heap.size w w1 := (below_alloc w (.cells #[.bool c.gone, .int .i64 c.l.kind, .int .u64 (hi c.l.p : Nat), .int .u64 (lo c.l.p : Nat), .int .i64 c.l.n, .int .i64 c.l.st, .string c.l.cl, .int .u32 (c.l.ia : Int), .int .i64 c.l.un] 31)).trans (((below_alloc _ (.cells #[.bool d.gone, .int .i64 d.l.kind, .int .u64 (hi d.l.p : Nat), .int .u64 (lo d.l.p : Nat), .int .i64 d.l.n, .int .i64 d.l.st, .string d.l.cl, .int .u32 (d.l.ia : Int), .int .i64 d.l.un] 31)).trans (hb.mono (by simp))).mono (by simp))
  clear N2
  have H0 := xy_new (c := c) (d := d) B1
  have hz1 : w.heap.size + 1 < w1.heap.size := by have := hb.size; simp at this; omega
  have hz0 : w.heap.size < w1.heap.size := by omega
  obtain ⟨c0, c1, c2, c3, c4, c5, c6, c7, c8⟩ := N1.cells
  obtain ⟨d0, d1, d2, d3, d4, d5, d6, d7, d8⟩ := N3.cells
  simp only [size_alloc'] at d0 d1 d2 d3 d4 d5 d6 d7 d8
  clear N1 N3 B1 hb
  go_wp2_with fail
  clear c0 c1 c2 c3 c4 c5 c6 c7 c8 d0 d1 d2 d3 d4 d5 d6 d7 d8
  generalize (w1.alloc (.cells #[.int .i64 c.l.kind, .int .u64 (hi c.l.p : Nat), .int .u64 (lo c.l.p : Nat), .int .i64 c.l.n, .int .i64 c.l.st, .string c.l.cl, .int .u32 (c.l.ia : Int), .int .i64 c.l.un] 29)).alloc (.cells #[.int .i64 d.l.kind, .int .u64 (hi d.l.p : Nat), .int .u64 (lo d.l.p : Nat), .int .i64 d.l.n, .int .i64 d.l.st, .string d.l.cl, .int .u32 (d.l.ia : Int), .int .i64 d.l.un] 29) = V at *
  clear hz0 hz1
  generalize w1.heap.size = g at *
  obtain ⟨_, a0, a1, a2, a3, b0, b1, b2, b3⟩ := id H0
  go_wp2_with fail
  refine (M1.out V).mono ?_
  rintro e w2 ⟨rfl, hb⟩
  have H2 := H0.step hb
  clear hb H0 a0 a1 a2 a3 b0 b1 b2 b3
  obtain ⟨_, a0, a1, a2, a3, b0, b1, b2, b3⟩ := id H2
  go_wp2_with fail
  clear a0 a1 a2 a3 b0 b1 b2 b3
  go_region_held3 (fun W => Below w.heap.size w W ∧ W.cell? ⟨g, 0, none⟩ = some (.int .i64 c.l.kind) ∧ W.cell? ⟨g, 1, none⟩ = some (.int .u64 (hi c.l.p : Nat)) ∧ W.cell? ⟨g, 2, none⟩ = some (.int .u64 (lo c.l.p : Nat)) ∧ W.cell? ⟨g, 3, none⟩ = some (.int .i64 c.l.n) ∧ W.cell? ⟨g + 1, 0, none⟩ = some (.int .i64 d.l.kind) ∧ W.cell? ⟨g + 1, 1, none⟩ = some (.int .u64 (hi d.l.p : Nat)) ∧ W.cell? ⟨g + 1, 2, none⟩ = some (.int .u64 (lo d.l.p : Nat)) ∧ W.cell? ⟨g + 1, 3, none⟩ = some (.int .i64 d.l.n))
    (first
      | exact H2.step (below_drew _)
      | exact H3
      | exact H4
      | exact H5)
    (first
      | (go_at_call 10; refine (right_any _ (by assumption) _ _).mono ?_; rintro e w5 ⟨he, hb⟩; simp only [E3] at he; subst he; have H5 := H4.step hb; clear hb)
      | (go_at_call 18; refine (meet_any _ (by assumption) _ _ (by assumption) _ _).mono ?_; rintro e w3 ⟨he, hb⟩; simp only [E1] at he; subst he; have H3 := (H2.step (below_drew _)).step hb; clear hb)
      | (go_at_call 18; refine (meet_any _ (by assumption) _ _ (by assumption) _ _).mono ?_; rintro e w4 ⟨he, hb⟩; simp only [E2] at he; subst he; have H4 := H3.step hb; clear hb))
  obtain ⟨_, a0, a1, a2, a3, b0, b1, b2, b3⟩ := id H5
  go_wp2_with fail
  refine (R1.out _).mono ?_
  rintro e w6 ⟨rfl, hb⟩
  have H6 := H5.step hb
  clear hb a0 a1 a2 a3 b0 b1 b2 b3
  obtain ⟨_, a0, a1, a2, a3, b0, b1, b2, b3⟩ := id H6
  go_wp2_with fail
  refine (R2.out _).mono ?_
  rintro e w7 ⟨rfl, hb⟩
  have H7 := H6.step hb
  clear hb a0 a1 a2 a3 b0 b1 b2 b3
  obtain ⟨_, a0, a1, a2, a3, b0, b1, b2, b3⟩ := id H7
  have k2 := HK2.out
  go_wp2
  go_ret
  exact ⟨rfl, H7.1⟩
end Go.Proofs.Ytgioifdmmneapaa
