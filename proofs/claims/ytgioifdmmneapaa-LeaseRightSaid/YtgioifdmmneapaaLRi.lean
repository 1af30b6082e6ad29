/-
  LeaseRight's walk. Conditions: the words are words of 64 bits (every value of the type is such).
-/
import Derived.Test.YtgioifdmmneapaaLMe
import Derived.Test.YtgioifdmmneapaaLRc
namespace Go.Proofs.Ytgioifdmmneapaa
open Go.RowKit Go.Joins

/-- the cells of a lease -/
def Lin (g : Nat) (c : Ch) (W : World) : Prop := ∃ cs, cs = (#[.int .i64 c.l.kind, .int .u64 (hi c.l.p : Nat), .int .u64 (lo c.l.p : Nat), .int .i64 c.l.n, .int .i64 c.l.st, .string c.l.cl, .int .u32 (c.l.ia : Int), .int .i64 c.l.un] : Array Value) ∧ W.heap[g]? = some (.cells cs 29 (0, 0))
theorem lin_new (V : World) (c : Ch) : Lin V.heap.size c (V.alloc (.cells #[.int .i64 c.l.kind, .int .u64 (hi c.l.p : Nat), .int .u64 (lo c.l.p : Nat), .int .i64 c.l.n, .int .i64 c.l.st, .string c.l.cl, .int .u32 (c.l.ia : Int), .int .i64 c.l.un] 29)) := ⟨_, rfl, heap_alloc_new _ _⟩
theorem Lin.step {g : Nat} {c : Ch} {W W2 : World} (h : Lin g c W) (hb : Below W.heap.size W W2) : Lin g c W2 := by
  obtain ⟨cs, e, h⟩ := h
  exact ⟨cs, e, (Fr.ofBelow hb).keep h (fun e => e)⟩
theorem Lin.cells {g : Nat} {c : Ch} {W : World} (h : Lin g c W) : W.cell? ⟨g, 0, none⟩ = some (.int .i64 c.l.kind) ∧ W.cell? ⟨g, 1, none⟩ = some (.int .u64 (hi c.l.p : Nat)) ∧ W.cell? ⟨g, 2, none⟩ = some (.int .u64 (lo c.l.p : Nat)) ∧
    W.cell? ⟨g, 3, none⟩ = some (.int .i64 c.l.n) ∧ W.cell? ⟨g, 4, none⟩ = some (.int .i64 c.l.st) ∧ W.cell? ⟨g, 5, none⟩ = some (.string c.l.cl) ∧ W.cell? ⟨g, 6, none⟩ = some (.int .u32 (c.l.ia : Int)) ∧ W.cell? ⟨g, 7, none⟩ = some (.int .i64 c.l.un) := by
  obtain ⟨cs, rfl, H⟩ := h
  exact ⟨cell_at H 0, cell_at H 1, cell_at H 2, cell_at H 3, cell_at H 4, cell_at H 5, cell_at H 6, cell_at H 7⟩

/-- what the law's region reads -/
def RS (w : World) (h g : Nat) (c d : Ch) (W : World) : Prop := Below w.heap.size w W ∧ (W.cell? ⟨h, 0, none⟩ = some (.bool c.gone) ∧ W.cell? ⟨h, 1, none⟩ = some (.int .i64 c.l.kind) ∧ W.cell? ⟨h, 2, none⟩ = some (.int .u64 (hi c.l.p : Nat)) ∧ W.cell? ⟨h, 3, none⟩ = some (.int .u64 (lo c.l.p : Nat)) ∧ W.cell? ⟨h, 4, none⟩ = some (.int .i64 c.l.n) ∧ W.cell? ⟨h, 5, none⟩ = some (.int .i64 c.l.st) ∧ W.cell? ⟨h, 6, none⟩ = some (.string c.l.cl) ∧ W.cell? ⟨h, 7, none⟩ = some (.int .u32 (c.l.ia : Int)) ∧ W.cell? ⟨h, 8, none⟩ = some (.int .i64 c.l.un)) ∧ (W.cell? ⟨g, 0, none⟩ = some (.int .i64 c.l.kind) ∧ W.cell? ⟨g, 1, none⟩ = some (.int .u64 (hi c.l.p : Nat)) ∧ W.cell? ⟨g, 2, none⟩ = some (.int .u64 (lo c.l.p : Nat)) ∧ W.cell? ⟨g, 3, none⟩ = some (.int .i64 c.l.n) ∧ W.cell? ⟨g, 4, none⟩ = some (.int .i64 c.l.st) ∧ W.cell? ⟨g, 5, none⟩ = some (.string c.l.cl) ∧ W.cell? ⟨g, 6, none⟩ = some (.int .u32 (c.l.ia : Int)) ∧ W.cell? ⟨g, 7, none⟩ = some (.int .i64 c.l.un)) ∧ W.cell? ⟨g + 1, 0, none⟩ = some (.int .i64 d.l.kind) ∧ W.cell? ⟨g + 1, 1, none⟩ = some (.int .u64 (hi d.l.p : Nat)) ∧ W.cell? ⟨g + 1, 2, none⟩ = some (.int .u64 (lo d.l.p : Nat)) ∧ W.cell? ⟨g + 1, 3, none⟩ = some (.int .i64 d.l.n)
theorem RS.step {w : World} {h g : Nat} {c d : Ch} {W W2 : World} (H : RS w h g c d W) (hb : Below W.heap.size W W2) : RS w h g c d W2 := by
  obtain ⟨b, ⟨a0, a1, a2, a3, a4, a5, a6, a7, a8⟩, ⟨x0, x1, x2, x3, x4, x5, x6, x7⟩, y0, y1, y2, y3⟩ := H
  exact ⟨b.trans (hb.mono b.size), ⟨keep_cell hb a0, keep_cell hb a1, keep_cell hb a2, keep_cell hb a3, keep_cell hb a4, keep_cell hb a5, keep_cell hb a6, keep_cell hb a7, keep_cell hb a8⟩, ⟨keep_cell hb x0, keep_cell hb x1, keep_cell hb x2, keep_cell hb x3, keep_cell hb x4, keep_cell hb x5, keep_cell hb x6, keep_cell hb x7⟩, keep_cell hb y0, keep_cell hb y1, keep_cell hb y2, keep_cell hb y3⟩
theorem RS.flat {w : World} {h g : Nat} {c d : Ch} {W : World} (H : RS w h g c d W) : Below w.heap.size w W ∧ W.cell? ⟨h, 0, none⟩ = some (.bool c.gone) ∧ W.cell? ⟨h, 1, none⟩ = some (.int .i64 c.l.kind) ∧ W.cell? ⟨h, 2, none⟩ = some (.int .u64 (hi c.l.p : Nat)) ∧ W.cell? ⟨h, 3, none⟩ = some (.int .u64 (lo c.l.p : Nat)) ∧ W.cell? ⟨h, 4, none⟩ = some (.int .i64 c.l.n) ∧ W.cell? ⟨h, 5, none⟩ = some (.int .i64 c.l.st) ∧ W.cell? ⟨h, 6, none⟩ = some (.string c.l.cl) ∧ W.cell? ⟨h, 7, none⟩ = some (.int .u32 (c.l.ia : Int)) ∧ W.cell? ⟨h, 8, none⟩ = some (.int .i64 c.l.un) ∧ W.cell? ⟨g, 0, none⟩ = some (.int .i64 c.l.kind) ∧ W.cell? ⟨g, 1, none⟩ = some (.int .u64 (hi c.l.p : Nat)) ∧ W.cell? ⟨g, 2, none⟩ = some (.int .u64 (lo c.l.p : Nat)) ∧ W.cell? ⟨g, 3, none⟩ = some (.int .i64 c.l.n) ∧ W.cell? ⟨g, 4, none⟩ = some (.int .i64 c.l.st) ∧ W.cell? ⟨g, 5, none⟩ = some (.string c.l.cl) ∧ W.cell? ⟨g, 6, none⟩ = some (.int .u32 (c.l.ia : Int)) ∧ W.cell? ⟨g, 7, none⟩ = some (.int .i64 c.l.un) ∧ W.cell? ⟨g + 1, 0, none⟩ = some (.int .i64 d.l.kind) ∧ W.cell? ⟨g + 1, 1, none⟩ = some (.int .u64 (hi d.l.p : Nat)) ∧ W.cell? ⟨g + 1, 2, none⟩ = some (.int .u64 (lo d.l.p : Nat)) ∧ W.cell? ⟨g + 1, 3, none⟩ = some (.int .i64 d.l.n) := by
  obtain ⟨b, ⟨a0, a1, a2, a3, a4, a5, a6, a7, a8⟩, ⟨x0, x1, x2, x3, x4, x5, x6, x7⟩, y0, y1, y2, y3⟩ := H
  exact ⟨b, a0, a1, a2, a3, a4, a5, a6, a7, a8, x0, x1, x2, x3, x4, x5, x6, x7, y0, y1, y2, y3⟩

set_option maxRecDepth 100000 in
set_option maxHeartbeats 8000000 in
theorem rightl_any {c d : Ch} (okc : c.l.ok) (okd : d.l.ok) (w : World) : Calls Try.prog 3 #[Cv c, Cv d] w (Gives (.bool true) w) := by
  have fc := okc.p
  have fd := okd.p
  have P1 := hide (fun W => right_any c.l.kind fc c.l.n W)
  have Q1 := hide (fun W => rright_any c.l.kind fc c.l.n W)
  have P2 := hide (fun W => lease_any c.l fc W)
  have Q2 := hide (fun W => rlease_any c.l fc W)
  have P3 := hide (fun W => change_any c fc W)
  have Q3 := hide (fun W => rchangeC_any c fc W)
  have P4 := hide (fun W => compare3_any c.l.kind c.l.p c.l.n d.l.kind d.l.p d.l.n W)
  have Q4 := hide (fun W => rcompare3_any c.l.kind fc c.l.n d.l.kind fd d.l.n W)
  have P5 := hide (fun W => meet_any c.l.kind fc c.l.n d.l.kind fd d.l.n W)
  have Q5 := hide (fun W => rmeet_any c.l.kind fc c.l.n d.l.kind fd d.l.n W)
  generalize rightS c.l.kind c.l.p c.l.n = r1 at *
  generalize leaseS c.l = r2 at *
  generalize changeS c = r3 at *
  generalize compareS c.l.kind c.l.p c.l.n d.l.kind d.l.p d.l.n = r4 at *
  generalize meetS c.l.kind c.l.p c.l.n d.l.kind d.l.p d.l.n = r5 at *
  clear okc okd
  go_enter Try.func3, Try.ntmps3
  go_wp2_with fail
  refine (awake_any _).mono ?_
  rintro e w1 ⟨rfl, hb⟩
  have N1 := ((nin_new w c).step (below_alloc _ (.cells #[.bool d.gone, .int .i64 d.l.kind, .int .u64 (hi d.l.p : Nat), .int .u64 (lo d.l.p : Nat), .int .i64 d.l.n, .int .i64 d.l.st, .string d.l.cl, .int .u32 (d.l.ia : Int), .int .i64 d.l.un] 31))).step hb
  have N2 := nin_new (w.alloc (.cells #[.bool c.gone, .int .i64 c.l.kind, .int .u64 (hi c.l.p : Nat), .int .u64 (lo c.l.p : Nat), .int .i64 c.l.n, .int .i64 c.l.st, .string c.l.cl, .int .u32 (c.l.ia : Int), .int .i64 c.l.un] 31)) d
  have N3 := N2.step hb
  have B1 : Below w.heap.size w w1 := (below_alloc w (.cells #[.bool c.gone, .int .i64 c.l.kind, .int .u64 (hi c.l.p : Nat), .int .u64 (lo c.l.p : Nat), .int .i64 c.l.n, .int .i64 c.l.st, .string c.l.cl, .int .u32 (c.l.ia : Int), .int .i64 c.l.un] 31)).trans (((below_alloc _ (.cells #[.bool d.gone, .int .i64 d.l.kind, .int .u64 (hi d.l.p : Nat), .int .u64 (lo d.l.p : Nat), .int .i64 d.l.n, .int .i64 d.l.st, .string d.l.cl, .int .u32 (d.l.ia : Int), .int .i64 d.l.un] 31)).trans (hb.mono (by simp))).mono (by simp))
  clear N2
  have hz1 : w.heap.size + 1 < w1.heap.size := by have := hb.size; simp at this; omega
  have hz0 : w.heap.size < w1.heap.size := by omega
  obtain ⟨c0, c1, c2, c3, c4, c5, c6, c7, c8⟩ := N1.cells
  obtain ⟨d0, d1, d2, d3, d4, d5, d6, d7, d8⟩ := N3.cells
  simp only [size_alloc'] at d0 d1 d2 d3 d4 d5 d6 d7 d8
  have Na := (N1.step (below_alloc w1 (.cells #[.int .i64 c.l.kind, .int .u64 (hi c.l.p : Nat), .int .u64 (lo c.l.p : Nat), .int .i64 c.l.n, .int .i64 c.l.st, .string c.l.cl, .int .u32 (c.l.ia : Int), .int .i64 c.l.un] 29))).step (below_alloc _ (.cells #[.int .i64 d.l.kind, .int .u64 (hi d.l.p : Nat), .int .u64 (lo d.l.p : Nat), .int .i64 d.l.n, .int .i64 d.l.st, .string d.l.cl, .int .u32 (d.l.ia : Int), .int .i64 d.l.un] 29))
  have Nx := (lin_new w1 c).step (below_alloc _ (.cells #[.int .i64 d.l.kind, .int .u64 (hi d.l.p : Nat), .int .u64 (lo d.l.p : Nat), .int .i64 d.l.n, .int .i64 d.l.st, .string d.l.cl, .int .u32 (d.l.ia : Int), .int .i64 d.l.un] 29))
  have Ny := lin_new (w1.alloc (.cells #[.int .i64 c.l.kind, .int .u64 (hi c.l.p : Nat), .int .u64 (lo c.l.p : Nat), .int .i64 c.l.n, .int .i64 c.l.st, .string c.l.cl, .int .u32 (c.l.ia : Int), .int .i64 c.l.un] 29)) d
  rw [size_alloc'] at Ny
  have B0 : Below w.heap.size w ((w1.alloc (.cells #[.int .i64 c.l.kind, .int .u64 (hi c.l.p : Nat), .int .u64 (lo c.l.p : Nat), .int .i64 c.l.n, .int .i64 c.l.st, .string c.l.cl, .int .u32 (c.l.ia : Int), .int .i64 c.l.un] 29)).alloc (.cells #[.int .i64 d.l.kind, .int .u64 (hi d.l.p : Nat), .int .u64 (lo d.l.p : Nat), .int .i64 d.l.n, .int .i64 d.l.st, .string d.l.cl, .int .u32 (d.l.ia : Int), .int .i64 d.l.un] 29)) := chain (chain B1 (below_alloc _ _)) (below_alloc _ _)
  clear N1 N3 B1 hb
  go_wp2_with fail
  clear c0 c1 c2 c3 c4 c5 c6 c7 c8 d0 d1 d2 d3 d4 d5 d6 d7 d8 hz0 hz1
  generalize (w1.alloc (.cells #[.int .i64 c.l.kind, .int .u64 (hi c.l.p : Nat), .int .u64 (lo c.l.p : Nat), .int .i64 c.l.n, .int .i64 c.l.st, .string c.l.cl, .int .u32 (c.l.ia : Int), .int .i64 c.l.un] 29)).alloc (.cells #[.int .i64 d.l.kind, .int .u64 (hi d.l.p : Nat), .int .u64 (lo d.l.p : Nat), .int .i64 d.l.n, .int .i64 d.l.st, .string d.l.cl, .int .u32 (d.l.ia : Int), .int .i64 d.l.un] 29) = V at *
  generalize w1.heap.size = g at *
  have H0 : RS w w.heap.size g c d V := ⟨B0, Na.cells, Nx.cells, Ny.cells.1, Ny.cells.2.1, Ny.cells.2.2.1, Ny.cells.2.2.2.1⟩
  clear B0 Na Nx Ny
  simp only [List.append]
  go_region_held3 (fun W => Below w.heap.size w W ∧ W.cell? ⟨w.heap.size, 0, none⟩ = some (.bool c.gone) ∧ W.cell? ⟨w.heap.size, 1, none⟩ = some (.int .i64 c.l.kind) ∧ W.cell? ⟨w.heap.size, 2, none⟩ = some (.int .u64 (hi c.l.p : Nat)) ∧ W.cell? ⟨w.heap.size, 3, none⟩ = some (.int .u64 (lo c.l.p : Nat)) ∧ W.cell? ⟨w.heap.size, 4, none⟩ = some (.int .i64 c.l.n) ∧ W.cell? ⟨w.heap.size, 5, none⟩ = some (.int .i64 c.l.st) ∧ W.cell? ⟨w.heap.size, 6, none⟩ = some (.string c.l.cl) ∧ W.cell? ⟨w.heap.size, 7, none⟩ = some (.int .u32 (c.l.ia : Int)) ∧ W.cell? ⟨w.heap.size, 8, none⟩ = some (.int .i64 c.l.un) ∧ W.cell? ⟨g, 0, none⟩ = some (.int .i64 c.l.kind) ∧ W.cell? ⟨g, 1, none⟩ = some (.int .u64 (hi c.l.p : Nat)) ∧ W.cell? ⟨g, 2, none⟩ = some (.int .u64 (lo c.l.p : Nat)) ∧ W.cell? ⟨g, 3, none⟩ = some (.int .i64 c.l.n) ∧ W.cell? ⟨g, 4, none⟩ = some (.int .i64 c.l.st) ∧ W.cell? ⟨g, 5, none⟩ = some (.string c.l.cl) ∧ W.cell? ⟨g, 6, none⟩ = some (.int .u32 (c.l.ia : Int)) ∧ W.cell? ⟨g, 7, none⟩ = some (.int .i64 c.l.un) ∧ W.cell? ⟨g + 1, 0, none⟩ = some (.int .i64 d.l.kind) ∧ W.cell? ⟨g + 1, 1, none⟩ = some (.int .u64 (hi d.l.p : Nat)) ∧ W.cell? ⟨g + 1, 2, none⟩ = some (.int .u64 (lo d.l.p : Nat)) ∧ W.cell? ⟨g + 1, 3, none⟩ = some (.int .i64 d.l.n))
    (first
      | exact (RS.step H0 (below_drew _)).flat
      | exact H1.flat
      | exact H2.flat
      | exact H3.flat
      | exact H4.flat
      | exact H5.flat
      | exact H6.flat
      | exact H7.flat
      | exact H8.flat
      | exact H9.flat
      | exact H10.flat)
    (first
      | (go_at_call 10; refine (P1.out _).mono ?_; rintro e v1 ⟨rfl, hb⟩; have H1 := RS.step (H0.step (below_drew _)) hb; clear hb)
      | (go_at_call 11; refine (Q1.out _).mono ?_; rintro e v2 ⟨rfl, hb⟩; have H2 := RS.step (H1) hb; clear hb)
      | (go_at_call 12; refine (P2.out _).mono ?_; rintro e v3 ⟨rfl, hb⟩; have H3 := RS.step (H2) hb; clear hb)
      | (go_at_call 13; refine (Q2.out _).mono ?_; rintro e v4 ⟨rfl, hb⟩; have H4 := RS.step (H3) hb; clear hb)
      | (go_at_call 14; refine (P3.out _).mono ?_; rintro e v5 ⟨rfl, hb⟩; have H5 := RS.step (H4) hb; clear hb)
      | (go_at_call 15; refine (Q3.out _).mono ?_; rintro e v6 ⟨rfl, hb⟩; have H6 := RS.step (H5) hb; clear hb)
      | (go_at_call 16; refine (P4.out _).mono ?_; rintro e v7 ⟨rfl, hb⟩; have H7 := RS.step (H6) hb; clear hb)
      | (go_at_call 17; refine (Q4.out _).mono ?_; rintro e v8 ⟨rfl, hb⟩; have H8 := RS.step (H7) hb; clear hb)
      | (go_at_call 18; refine (P5.out _).mono ?_; rintro e v9 ⟨rfl, hb⟩; have H9 := RS.step (H8) hb; clear hb)
      | (go_at_call 19; refine (Q5.out _).mono ?_; rintro e v10 ⟨rfl, hb⟩; have H10 := RS.step (H9) hb; clear hb))
  go_wp2
  go_ret
  exact ⟨rfl, H10.1⟩
end Go.Proofs.Ytgioifdmmneapaa
