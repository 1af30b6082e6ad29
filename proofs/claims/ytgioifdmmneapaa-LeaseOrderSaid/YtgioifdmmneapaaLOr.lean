/-
  LeaseOrder's walk. Conditions: the words are words of 64 bits (every value of the type is such).
-/
import Derived.Test.YtgioifdmmneapaaLMe
namespace Go.Proofs.Ytgioifdmmneapaa
open Go.RowKit Go.Joins

set_option maxRecDepth 100000 in
set_option maxHeartbeats 4000000 in
theorem orderl_any {a b c : Ch} (w : World) : Calls Try.prog 8 #[Cv a, Cv b, Cv c] w (Gives (.bool true) w) := by
  have F : Hid (∀ (W' : World) (r : Bool), Below w.heap.size w W' → r = true → Gives (.bool true) w (.returned (.bool r)) W') := hide (fun W' b h e => ⟨by rw [e], h⟩)
  have AB := hide (fun W => compare3_any a.l.kind a.l.p a.l.n b.l.kind b.l.p b.l.n W)
  have BC := hide (fun W => compare3_any b.l.kind b.l.p b.l.n c.l.kind c.l.p c.l.n W)
  have AC := hide (fun W => compare3_any a.l.kind a.l.p a.l.n c.l.kind c.l.p c.l.n W)
  have BA := hide (fun W => compare3_any b.l.kind b.l.p b.l.n a.l.kind a.l.p a.l.n W)
  rw [compare_neg] at BA
  have RG := compare_range a.l.kind a.l.p a.l.n b.l.kind b.l.p b.l.n
  have EQ := hide (compare_zero (k := a.l.kind) (p := a.l.p) (n := a.l.n) (j := b.l.kind) (q := b.l.p) (m := b.l.n))
  have TR := hide (compare_trans (k1 := a.l.kind) (k2 := b.l.kind) (k3 := c.l.kind) (p1 := a.l.p) (p2 := b.l.p) (p3 := c.l.p) (n1 := a.l.n) (n2 := b.l.n) (n3 := c.l.n))
  have PQ : Hid (a.l.p = b.l.p ↔ hi a.l.p = hi b.l.p ∧ lo a.l.p = lo b.l.p) := hide ⟨fun e => by rw [e]; exact ⟨rfl, rfl⟩, fun e => eq_of_words e.1 e.2⟩
  generalize compareS a.l.kind a.l.p a.l.n b.l.kind b.l.p b.l.n = ab at *
  generalize compareS b.l.kind b.l.p b.l.n c.l.kind c.l.p c.l.n = bc at *
  generalize compareS a.l.kind a.l.p a.l.n c.l.kind c.l.p c.l.n = ac at *
  obtain ⟨r1, r2⟩ := RG
  have n1 : ¬ ab < -1 := by omega
  have n2 : ¬ 1 < ab := by omega
  have W1 : IntKind.i64.wrap (-ab) = -ab := IntWalk.i64_in _ ⟨by omega, by omega⟩
  clear r1 r2
  by_cases hz : ab = 0
  · subst hz
    replace EQ := hide (EQ.out.1 rfl)
    go_enter Try.func8, Try.ntmps8
    go_wp2_with fail
    have Na := ((nin_new w a).step (below_alloc _ (.cells #[.bool b.gone, .int .i64 b.l.kind, .int .u64 (hi b.l.p : Nat), .int .u64 (lo b.l.p : Nat), .int .i64 b.l.n, .int .i64 b.l.st, .string b.l.cl, .int .u32 (b.l.ia : Int), .int .i64 b.l.un] 31))).step (below_alloc _ (.cells #[.bool c.gone, .int .i64 c.l.kind, .int .u64 (hi c.l.p : Nat), .int .u64 (lo c.l.p : Nat), .int .i64 c.l.n, .int .i64 c.l.st, .string c.l.cl, .int .u32 (c.l.ia : Int), .int .i64 c.l.un] 31))
    have Nb := (nin_new (w.alloc (.cells #[.bool a.gone, .int .i64 a.l.kind, .int .u64 (hi a.l.p : Nat), .int .u64 (lo a.l.p : Nat), .int .i64 a.l.n, .int .i64 a.l.st, .string a.l.cl, .int .u32 (a.l.ia : Int), .int .i64 a.l.un] 31)) b).step (below_alloc _ (.cells #[.bool c.gone, .int .i64 c.l.kind, .int .u64 (hi c.l.p : Nat), .int .u64 (lo c.l.p : Nat), .int .i64 c.l.n, .int .i64 c.l.st, .string c.l.cl, .int .u32 (c.l.ia : Int), .int .i64 c.l.un] 31))
    have Nc := nin_new ((w.alloc (.cells #[.bool a.gone, .int .i64 a.l.kind, .int .u64 (hi a.l.p : Nat), .int .u64 (lo a.l.p : Nat), .int .i64 a.l.n, .int .i64 a.l.st, .string a.l.cl, .int .u32 (a.l.ia : Int), .int .i64 a.l.un] 31)).alloc (.cells #[.bool b.gone, .int .i64 b.l.kind, .int .u64 (hi b.l.p : Nat), .int .u64 (lo b.l.p : Nat), .int .i64 b.l.n, .int .i64 b.l.st, .string b.l.cl, .int .u32 (b.l.ia : Int), .int .i64 b.l.un] 31)) c
    have B0 : Below w.heap.size w (((w.alloc (.cells #[.bool a.gone, .int .i64 a.l.kind, .int .u64 (hi a.l.p : Nat), .int .u64 (lo a.l.p : Nat), .int .i64 a.l.n, .int .i64 a.l.st, .string a.l.cl, .int .u32 (a.l.ia : Int), .int .i64 a.l.un] 31)).alloc (.cells #[.bool b.gone, .int .i64 b.l.kind, .int .u64 (hi b.l.p : Nat), .int .u64 (lo b.l.p : Nat), .int .i64 b.l.n, .int .i64 b.l.st, .string b.l.cl, .int .u32 (b.l.ia : Int), .int .i64 b.l.un] 31)).alloc (.cells #[.bool c.gone, .int .i64 c.l.kind, .int .u64 (hi c.l.p : Nat), .int .u64 (lo c.l.p : Nat), .int .i64 c.l.n, .int .i64 c.l.st, .string c.l.cl, .int .u32 (c.l.ia : Int), .int .i64 c.l.un] 31)) := chain (chain (below_alloc _ _) (below_alloc _ _)) (below_alloc _ _)
    simp only [size_alloc'] at Nb Nc
    generalize ((w.alloc (.cells #[.bool a.gone, .int .i64 a.l.kind, .int .u64 (hi a.l.p : Nat), .int .u64 (lo a.l.p : Nat), .int .i64 a.l.n, .int .i64 a.l.st, .string a.l.cl, .int .u32 (a.l.ia : Int), .int .i64 a.l.un] 31)).alloc (.cells #[.bool b.gone, .int .i64 b.l.kind, .int .u64 (hi b.l.p : Nat), .int .u64 (lo b.l.p : Nat), .int .i64 b.l.n, .int .i64 b.l.st, .string b.l.cl, .int .u32 (b.l.ia : Int), .int .i64 b.l.un] 31)).alloc (.cells #[.bool c.gone, .int .i64 c.l.kind, .int .u64 (hi c.l.p : Nat), .int .u64 (lo c.l.p : Nat), .int .i64 c.l.n, .int .i64 c.l.st, .string c.l.cl, .int .u32 (c.l.ia : Int), .int .i64 c.l.un] 31) = V at *
    obtain ⟨_, a1, a2, a3, a4, _⟩ := Na.cells
    obtain ⟨_, b1, b2, b3, b4, _⟩ := Nb.cells
    obtain ⟨_, c1, c2, c3, c4, _⟩ := Nc.cells
    go_wp2_with fail
    refine (awake_any _).mono ?_
    rintro e w1 ⟨rfl, hb⟩
    have B1 := chain B0 hb
    have Na := Na.step hb
    have Nb := Nb.step hb
    have Nc := Nc.step hb
    clear hb B0 a1 a2 a3 a4 b1 b2 b3 b4 c1 c2 c3 c4
    obtain ⟨_, a1, a2, a3, a4, _⟩ := Na.cells
    obtain ⟨_, b1, b2, b3, b4, _⟩ := Nb.cells
    obtain ⟨_, c1, c2, c3, c4, _⟩ := Nc.cells
    go_wp2_with fail
    refine (AB.out _).mono ?_
    rintro e w2 ⟨rfl, hb⟩
    have B2 := chain B1 hb
    have Na := Na.step hb
    have Nb := Nb.step hb
    have Nc := Nc.step hb
    clear hb B1 a1 a2 a3 a4 b1 b2 b3 b4 c1 c2 c3 c4
    obtain ⟨_, a1, a2, a3, a4, _⟩ := Na.cells
    obtain ⟨_, b1, b2, b3, b4, _⟩ := Nb.cells
    obtain ⟨_, c1, c2, c3, c4, _⟩ := Nc.cells
    go_wp2_with fail
    refine (BC.out _).mono ?_
    rintro e w3 ⟨rfl, hb⟩
    have B3 := chain B2 hb
    have Na := Na.step hb
    have Nb := Nb.step hb
    have Nc := Nc.step hb
    clear hb B2 a1 a2 a3 a4 b1 b2 b3 b4 c1 c2 c3 c4
    obtain ⟨_, a1, a2, a3, a4, _⟩ := Na.cells
    obtain ⟨_, b1, b2, b3, b4, _⟩ := Nb.cells
    obtain ⟨_, c1, c2, c3, c4, _⟩ := Nc.cells
    go_wp2_with fail
    refine (AC.out _).mono ?_
    rintro e w4 ⟨rfl, hb⟩
    have B4 := chain B3 hb
    have Na := Na.step hb
    have Nb := Nb.step hb
    have Nc := Nc.step hb
    clear hb B3 a1 a2 a3 a4 b1 b2 b3 b4 c1 c2 c3 c4
    obtain ⟨_, a1, a2, a3, a4, _⟩ := Na.cells
    obtain ⟨_, b1, b2, b3, b4, _⟩ := Nb.cells
    obtain ⟨_, c1, c2, c3, c4, _⟩ := Nc.cells
    go_wp2_with fail
    refine (BA.out _).mono ?_
    rintro e w5 ⟨rfl, hb⟩
    have B5 := chain B4 hb
    have Na := Na.step hb
    have Nb := Nb.step hb
    have Nc := Nc.step hb
    clear hb B4 a1 a2 a3 a4 b1 b2 b3 b4 c1 c2 c3 c4
    obtain ⟨_, a1, a2, a3, a4, _⟩ := Na.cells
    obtain ⟨_, b1, b2, b3, b4, _⟩ := Nb.cells
    obtain ⟨_, c1, c2, c3, c4, _⟩ := Nc.cells
    go_wp2
    all_goals go_ret
    all_goals refine F.out _ _ B5 ?_
    all_goals (have z1 := EQ.out; have z2 := TR.out; have z3 := PQ.out; clear EQ TR PQ F a1 a2 a3 a4 b1 b2 b3 b4 c1 c2 c3 c4 Na Nb Nc B5)
    all_goals first
      | rfl
      | exact decide_eq_true (by omega)
      | (exfalso; omega)
  · have Z : (ab == 0) = false := by simpa using hz
    go_enter Try.func8, Try.ntmps8
    go_wp2_with fail
    have Na := ((nin_new w a).step (below_alloc _ (.cells #[.bool b.gone, .int .i64 b.l.kind, .int .u64 (hi b.l.p : Nat), .int .u64 (lo b.l.p : Nat), .int .i64 b.l.n, .int .i64 b.l.st, .string b.l.cl, .int .u32 (b.l.ia : Int), .int .i64 b.l.un] 31))).step (below_alloc _ (.cells #[.bool c.gone, .int .i64 c.l.kind, .int .u64 (hi c.l.p : Nat), .int .u64 (lo c.l.p : Nat), .int .i64 c.l.n, .int .i64 c.l.st, .string c.l.cl, .int .u32 (c.l.ia : Int), .int .i64 c.l.un] 31))
    have Nb := (nin_new (w.alloc (.cells #[.bool a.gone, .int .i64 a.l.kind, .int .u64 (hi a.l.p : Nat), .int .u64 (lo a.l.p : Nat), .int .i64 a.l.n, .int .i64 a.l.st, .string a.l.cl, .int .u32 (a.l.ia : Int), .int .i64 a.l.un] 31)) b).step (below_alloc _ (.cells #[.bool c.gone, .int .i64 c.l.kind, .int .u64 (hi c.l.p : Nat), .int .u64 (lo c.l.p : Nat), .int .i64 c.l.n, .int .i64 c.l.st, .string c.l.cl, .int .u32 (c.l.ia : Int), .int .i64 c.l.un] 31))
    have Nc := nin_new ((w.alloc (.cells #[.bool a.gone, .int .i64 a.l.kind, .int .u64 (hi a.l.p : Nat), .int .u64 (lo a.l.p : Nat), .int .i64 a.l.n, .int .i64 a.l.st, .string a.l.cl, .int .u32 (a.l.ia : Int), .int .i64 a.l.un] 31)).alloc (.cells #[.bool b.gone, .int .i64 b.l.kind, .int .u64 (hi b.l.p : Nat), .int .u64 (lo b.l.p : Nat), .int .i64 b.l.n, .int .i64 b.l.st, .string b.l.cl, .int .u32 (b.l.ia : Int), .int .i64 b.l.un] 31)) c
    have B0 : Below w.heap.size w (((w.alloc (.cells #[.bool a.gone, .int .i64 a.l.kind, .int .u64 (hi a.l.p : Nat), .int .u64 (lo a.l.p : Nat), .int .i64 a.l.n, .int .i64 a.l.st, .string a.l.cl, .int .u32 (a.l.ia : Int), .int .i64 a.l.un] 31)).alloc (.cells #[.bool b.gone, .int .i64 b.l.kind, .int .u64 (hi b.l.p : Nat), .int .u64 (lo b.l.p : Nat), .int .i64 b.l.n, .int .i64 b.l.st, .string b.l.cl, .int .u32 (b.l.ia : Int), .int .i64 b.l.un] 31)).alloc (.cells #[.bool c.gone, .int .i64 c.l.kind, .int .u64 (hi c.l.p : Nat), .int .u64 (lo c.l.p : Nat), .int .i64 c.l.n, .int .i64 c.l.st, .string c.l.cl, .int .u32 (c.l.ia : Int), .int .i64 c.l.un] 31)) := chain (chain (below_alloc _ _) (below_alloc _ _)) (below_alloc _ _)
    simp only [size_alloc'] at Nb Nc
    generalize ((w.alloc (.cells #[.bool a.gone, .int .i64 a.l.kind, .int .u64 (hi a.l.p : Nat), .int .u64 (lo a.l.p : Nat), .int .i64 a.l.n, .int .i64 a.l.st, .string a.l.cl, .int .u32 (a.l.ia : Int), .int .i64 a.l.un] 31)).alloc (.cells #[.bool b.gone, .int .i64 b.l.kind, .int .u64 (hi b.l.p : Nat), .int .u64 (lo b.l.p : Nat), .int .i64 b.l.n, .int .i64 b.l.st, .string b.l.cl, .int .u32 (b.l.ia : Int), .int .i64 b.l.un] 31)).alloc (.cells #[.bool c.gone, .int .i64 c.l.kind, .int .u64 (hi c.l.p : Nat), .int .u64 (lo c.l.p : Nat), .int .i64 c.l.n, .int .i64 c.l.st, .string c.l.cl, .int .u32 (c.l.ia : Int), .int .i64 c.l.un] 31) = V at *
    obtain ⟨_, a1, a2, a3, a4, _⟩ := Na.cells
    obtain ⟨_, b1, b2, b3, b4, _⟩ := Nb.cells
    obtain ⟨_, c1, c2, c3, c4, _⟩ := Nc.cells
    go_wp2_with fail
    refine (awake_any _).mono ?_
    rintro e w1 ⟨rfl, hb⟩
    have B1 := chain B0 hb
    have Na := Na.step hb
    have Nb := Nb.step hb
    have Nc := Nc.step hb
    clear hb B0 a1 a2 a3 a4 b1 b2 b3 b4 c1 c2 c3 c4
    obtain ⟨_, a1, a2, a3, a4, _⟩ := Na.cells
    obtain ⟨_, b1, b2, b3, b4, _⟩ := Nb.cells
    obtain ⟨_, c1, c2, c3, c4, _⟩ := Nc.cells
    go_wp2_with fail
    refine (AB.out _).mono ?_
    rintro e w2 ⟨rfl, hb⟩
    have B2 := chain B1 hb
    have Na := Na.step hb
    have Nb := Nb.step hb
    have Nc := Nc.step hb
    clear hb B1 a1 a2 a3 a4 b1 b2 b3 b4 c1 c2 c3 c4
    obtain ⟨_, a1, a2, a3, a4, _⟩ := Na.cells
    obtain ⟨_, b1, b2, b3, b4, _⟩ := Nb.cells
    obtain ⟨_, c1, c2, c3, c4, _⟩ := Nc.cells
    go_wp2_with fail
    refine (BC.out _).mono ?_
    rintro e w3 ⟨rfl, hb⟩
    have B3 := chain B2 hb
    have Na := Na.step hb
    have Nb := Nb.step hb
    have Nc := Nc.step hb
    clear hb B2 a1 a2 a3 a4 b1 b2 b3 b4 c1 c2 c3 c4
    obtain ⟨_, a1, a2, a3, a4, _⟩ := Na.cells
    obtain ⟨_, b1, b2, b3, b4, _⟩ := Nb.cells
    obtain ⟨_, c1, c2, c3, c4, _⟩ := Nc.cells
    go_wp2_with fail
    refine (AC.out _).mono ?_
    rintro e w4 ⟨rfl, hb⟩
    have B4 := chain B3 hb
    have Na := Na.step hb
    have Nb := Nb.step hb
    have Nc := Nc.step hb
    clear hb B3 a1 a2 a3 a4 b1 b2 b3 b4 c1 c2 c3 c4
    obtain ⟨_, a1, a2, a3, a4, _⟩ := Na.cells
    obtain ⟨_, b1, b2, b3, b4, _⟩ := Nb.cells
    obtain ⟨_, c1, c2, c3, c4, _⟩ := Nc.cells
    go_wp2_with fail
    refine (BA.out _).mono ?_
    rintro e w5 ⟨rfl, hb⟩
    have B5 := chain B4 hb
    have Na := Na.step hb
    have Nb := Nb.step hb
    have Nc := Nc.step hb
    clear hb B4 a1 a2 a3 a4 b1 b2 b3 b4 c1 c2 c3 c4
    obtain ⟨_, a1, a2, a3, a4, _⟩ := Na.cells
    obtain ⟨_, b1, b2, b3, b4, _⟩ := Nb.cells
    obtain ⟨_, c1, c2, c3, c4, _⟩ := Nc.cells
    go_wp2
    all_goals go_ret
    all_goals refine F.out _ _ B5 ?_
    all_goals (have z1 := EQ.out; have z2 := TR.out; have z3 := PQ.out; clear EQ TR PQ F a1 a2 a3 a4 b1 b2 b3 b4 c1 c2 c3 c4 Na Nb Nc B5)
    all_goals first
      | rfl
      | exact decide_eq_true (by omega)
      | (exfalso; omega)
end Go.Proofs.Ytgioifdmmneapaa
