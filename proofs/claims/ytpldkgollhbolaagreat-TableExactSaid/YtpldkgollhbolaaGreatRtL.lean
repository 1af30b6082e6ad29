/-
  The law's told: it returns true. Condition: both tables are in memory and hold the same leases.
-/
import Derived.Test.YtpldkgollhbolaaGreatRtT
import Derived.Test.YtpldkgollhbolaaGreatTbRg
namespace Go.Proofs.YtpldkgollhbolaaGreat
open Go.RowKit Go.Joins Go.Maps

/-- the lease's box, in any later world -/
def TC (V : World) (X : Nat) (k h l n s : Int) (c : ByteArray) (ia u : Int) (W : World) : Prop := Below V.heap.size V W ∧ W.cell? ⟨X, 0, none⟩ = some (.int .i64 k) ∧ W.cell? ⟨X, 1, none⟩ = some (.int .u64 h) ∧ W.cell? ⟨X, 2, none⟩ = some (.int .u64 l) ∧
  W.cell? ⟨X, 3, none⟩ = some (.int .i64 n) ∧ W.cell? ⟨X, 4, none⟩ = some (.int .i64 s) ∧ W.cell? ⟨X, 5, none⟩ = some (.string c) ∧ W.cell? ⟨X, 6, none⟩ = some (.int .u32 ia) ∧ W.cell? ⟨X, 7, none⟩ = some (.int .i64 u)
theorem TC.step {V W W' : World} {X : Nat} {k h l n s : Int} {c : ByteArray} {ia u : Int} (H : TC V X k h l n s c ia u W) (hb : Below W.heap.size W W') : TC V X k h l n s c ia u W' := by
  obtain ⟨hB, h0, h1, h2, h3, h4, h5, h6, h7⟩ := H
  exact ⟨chain hB hb, keep_cell hb h0, keep_cell hb h1, keep_cell hb h2, keep_cell hb h3, keep_cell hb h4, keep_cell hb h5, keep_cell hb h6, keep_cell hb h7⟩
theorem TC.new (V : World) (k h l n s : Int) (c : ByteArray) (ia u : Int) (T : TypeId) : TC V V.heap.size k h l n s c ia u (V.alloc (.cells #[.int .i64 k, .int .u64 h, .int .u64 l, .int .i64 n, .int .i64 s, .string c, .int .u32 ia, .int .i64 u] T)) := by
  have e := heap_alloc_new V (.cells #[.int .i64 k, .int .u64 h, .int .u64 l, .int .i64 n, .int .i64 s, .string c, .int .u32 ia, .int .i64 u] T)
  exact ⟨below_alloc _ _, cell_at e 0, cell_at e 1, cell_at e 2, cell_at e 3, cell_at e 4, cell_at e 5, cell_at e 6, cell_at e 7⟩
theorem set8 {W : World} {b : Nat} {o0 o1 o2 o3 o4 o5 o6 o7 : Value} (v0 v1 v2 v3 v4 v5 v6 v7 : Value) {T : TypeId} (h : W.heap[b]? = some (.cells #[o0, o1, o2, o3, o4, o5, o6, o7] T (0, 0))) :
    ((((((((W.setCell ⟨b, 0, none⟩ (v0)).setCell ⟨b, 1, none⟩ (v1)).setCell ⟨b, 2, none⟩ (v2)).setCell ⟨b, 3, none⟩ (v3)).setCell ⟨b, 4, none⟩ (v4)).setCell ⟨b, 5, none⟩ (v5)).setCell ⟨b, 6, none⟩ (v6)).setCell ⟨b, 7, none⟩ (v7)).heap[b]? = some (.cells #[v0, v1, v2, v3, v4, v5, v6, v7] T (0, 0)) ∧ Fr (fun k => k = b) W ((((((((W.setCell ⟨b, 0, none⟩ (v0)).setCell ⟨b, 1, none⟩ (v1)).setCell ⟨b, 2, none⟩ (v2)).setCell ⟨b, 3, none⟩ (v3)).setCell ⟨b, 4, none⟩ (v4)).setCell ⟨b, 5, none⟩ (v5)).setCell ⟨b, 6, none⟩ (v6)).setCell ⟨b, 7, none⟩ (v7)) := by
  have e0 := heap_setCell_same _ b 0 _ _ v0 h
  have e1 := heap_setCell_same _ b 1 _ _ v1 e0
  have e2 := heap_setCell_same _ b 2 _ _ v2 e1
  have e3 := heap_setCell_same _ b 3 _ _ v3 e2
  have e4 := heap_setCell_same _ b 4 _ _ v4 e3
  have e5 := heap_setCell_same _ b 5 _ _ v5 e4
  have e6 := heap_setCell_same _ b 6 _ _ v6 e5
  have e7 := heap_setCell_same _ b 7 _ _ v7 e6
  refine ⟨by simpa using e7, ?_⟩
  have f : ∀ (A : World) (i : Nat) (v : Value), Fr (fun k => k = b) W A → Fr (fun k => k = b) W (A.setCell ⟨b, i, none⟩ v) := fun A i v hA => hA.trans (Fr.set A ⟨b, i, none⟩ v) (fun _ _ e => e)
  exact f _ 7 _ (f _ 6 _ (f _ 5 _ (f _ 4 _ (f _ 3 _ (f _ 2 _ (f _ 1 _ (f _ 0 _ (Fr.refl _ _))))))))
theorem TC.fr {V W W' : World} {X b : Nat} {k h l n s : Int} {c : ByteArray} {ia u : Int} (H : TC V X k h l n s c ia u W) (f : Fr (fun k => k = b) W W') (hb : V.heap.size ≤ b) (hx : X ≠ b) : TC V X k h l n s c ia u W' := by
  obtain ⟨hB, h0, h1, h2, h3, h4, h5, h6, h7⟩ := H
  have g : ∀ {i : Nat} {v : Value}, W.cell? ⟨X, i, none⟩ = some v → W'.cell? ⟨X, i, none⟩ = some v := fun h => cell_fr f hx h
  exact ⟨hB.trans (f.below hB.size (fun _ e => by rw [e]; exact hb)), g h0, g h1, g h2, g h3, g h4, g h5, g h6, g h7⟩
set_option maxRecDepth 100000 in
set_option maxHeartbeats 16000000 in
theorem told_of {t u : Nat} {kx hx lx nx sx : Int} {cx : ByteArray} {ix ux : Int} (w0 : World) (F : TF w0 t u kx hx lx nx cx ix ux) : Calls Tryz.prog 9 #[Pt t, Pt u, .agg #[.int .i64 kx, .int .u64 hx, .int .u64 lx, .int .i64 nx, .int .i64 sx, .string cx, .int .u32 ix, .int .i64 ux]] w0 (Gives (.bool true) w0) := by
  obtain ⟨ka, ha, la, na, sa, ca, ia, ua, ba, FA, FB⟩ := F.find
  obtain ⟨kb, hb, lb, nb', sb, cb, ib, ub, bb, OA, OB'⟩ := F.of
  obtain ⟨nn, nb, NA, NB'⟩ := F.next
  obtain ⟨nl, SA, SB⟩ := F.size
  obtain ⟨m1, R1, rs1, CA, CB⟩ := F.client
  obtain ⟨m2, R2, rs2, MA, MB⟩ := F.meets
  obtain ⟨m3, R3, rs3, DA, DB⟩ := F.due
  have RS1 := hide rs1
  have RS2 := hide rs2
  have RS3 := hide rs3
  have FA := hide FA
  have FB := hide FB
  have OA := hide OA
  have OB2 := hide OB'
  have NX1 := hide NA
  have NX2 := hide NB'
  have SZ1 := hide SA
  have SZ2 := hide SB
  have CL1 := hide CA
  have CL2 := hide CB
  have ME1 := hide MA
  have ME2 := hide MB
  have DU1 := hide DA
  have DU2 := hide DB
  have C0 := hide (TC.new w0 kx hx lx nx sx cx ix ux 30)
  clear F rs1 rs2 rs3 OB' NA NB' SA SB CA CB MA MB DA DB
  go_enter Tryz.func9, Tryz.ntmps9
  go_upto_region 1 with fail
  generalize w0.alloc (.cells #[.int .i64 kx, .int .u64 hx, .int .u64 lx, .int .i64 nx, .int .i64 sx, .string cx, .int .u32 ix, .int .i64 ux] 30) = V at *
  generalize w0.heap.size = X at C0 ⊢
  obtain ⟨_, x0, x1, x2, x3, x4, x5, x6, x7⟩ := id C0.out
  go_wp2_with fail
  refine (FA.out _ C0.out.1).mono ?_
  rintro e w1 ⟨rfl, hb1⟩
  have C1 := hide ((C0.out.step hb1).step (below_alloc w1 (.cells #[.int .i64 ka, .int .u64 ha, .int .u64 la, .int .i64 na, .int .i64 sa, .string ca, .int .u32 ia, .int .i64 ua] 30)))
  have A1 := hide (heap_alloc_new w1 (.cells #[.int .i64 ka, .int .u64 ha, .int .u64 la, .int .i64 na, .int .i64 sa, .string ca, .int .u32 ia, .int .i64 ua] 30))
  have C1' := C0.out.step hb1
  have XA := hide (show X < w1.heap.size from lt_of_cell C1'.2.1)
  have WA := hide (show w0.heap.size ≤ w1.heap.size from C1'.1.size)
  clear x0 x1 x2 x3 x4 x5 x6 x7 C0 hb1 FA
  go_upto_region 2 with fail
  clear C1'
  generalize w1.alloc (.cells #[.int .i64 ka, .int .u64 ha, .int .u64 la, .int .i64 na, .int .i64 sa, .string ca, .int .u32 ia, .int .i64 ua] 30) = V1 at *
  generalize w1.heap.size = a1 at A1 XA WA ⊢
  obtain ⟨_, x0, x1, x2, x3, x4, x5, x6, x7⟩ := id C1.out
  go_wp2_with fail
  refine (FB.out _ C1.out.1).mono ?_
  rintro e w2 ⟨rfl, hb2⟩
  have C2 := hide ((C1.out.step hb2).step (below_alloc w2 (.cells #[.int .i64 ka, .int .u64 ha, .int .u64 la, .int .i64 na, .int .i64 sa, .string ca, .int .u32 ia, .int .i64 ua] 30)))
  have A2 := hide (((Fr.ofBelow hb2).keep A1.out (fun e => e)))
  have A2' := hide ((Fr.ofBelow (below_alloc w2 (.cells #[.int .i64 ka, .int .u64 ha, .int .u64 la, .int .i64 na, .int .i64 sa, .string ca, .int .u32 ia, .int .i64 ua] 30))).keep A2.out (fun e => e))
  have B2 := hide (heap_alloc_new w2 (.cells #[.int .i64 ka, .int .u64 ha, .int .u64 la, .int .i64 na, .int .i64 sa, .string ca, .int .u32 ia, .int .i64 ua] 30))
  have AB := hide (lt_of_block A2.out)
  clear x0 x1 x2 x3 x4 x5 x6 x7 C1 hb2 FB A1
  go_upto_region 3 with fail
  clear A2
  generalize w2.alloc (.cells #[.int .i64 ka, .int .u64 ha, .int .u64 la, .int .i64 na, .int .i64 sa, .string ca, .int .u32 ia, .int .i64 ua] 30) = V2 at *
  generalize w2.heap.size = b1 at B2 AB ⊢
  have SF : ∀ W, (binOp .neq 30 (.agg #[.int .i64 ka, .int .u64 ha, .int .u64 la, .int .i64 na, .int .i64 sa, .string ca, .int .u32 ia, .int .i64 ua]) (.agg #[.int .i64 ka, .int .u64 ha, .int .u64 la, .int .i64 na, .int .i64 sa, .string ca, .int .u32 ia, .int .i64 ua])).run Tryz.prog W = .ok (.bool false) W := (fun W => by rw [run_neq_struct, eql_lease]; simp)
  have p0 := cell_at A2'.out 0
  have p1 := cell_at A2'.out 1
  have p2 := cell_at A2'.out 2
  have p3 := cell_at A2'.out 3
  have p4 := cell_at A2'.out 4
  have p5 := cell_at A2'.out 5
  have p6 := cell_at A2'.out 6
  have p7 := cell_at A2'.out 7
  have q0 := cell_at B2.out 0
  have q1 := cell_at B2.out 1
  have q2 := cell_at B2.out 2
  have q3 := cell_at B2.out 3
  have q4 := cell_at B2.out 4
  have q5 := cell_at B2.out 5
  have q6 := cell_at B2.out 6
  have q7 := cell_at B2.out 7
  simp at p0 p1 p2 p3 p4 p5 p6 p7 q0 q1 q2 q3 q4 q5 q6 q7
  obtain ⟨_, x0, x1, x2, x3, x4, x5, x6, x7⟩ := id C2.out
  go_wp2_with fail
  refine (OA.out _ C2.out.1).mono ?_
  rintro e w3 ⟨rfl, hb3⟩
  have A3 := hide ((Fr.ofBelow hb3).keep A2'.out (fun e => e))
  have B3 := hide ((Fr.ofBelow hb3).keep B2.out (fun e => e))
  have C3 := hide (C2.out.step hb3)
  clear x0 x1 x2 x3 x4 x5 x6 x7 p0 p1 p2 p3 p4 p5 p6 p7 q0 q1 q2 q3 q4 q5 q6 q7 SF A2' B2 C2 hb3 OA
  have p0 := cell_at A3.out 0
  have p1 := cell_at A3.out 1
  have p2 := cell_at A3.out 2
  have p3 := cell_at A3.out 3
  have p4 := cell_at A3.out 4
  have p5 := cell_at A3.out 5
  have p6 := cell_at A3.out 6
  have p7 := cell_at A3.out 7
  have f0 := frozen_at A3.out 0
  have f1 := frozen_at A3.out 1
  have f2 := frozen_at A3.out 2
  have f3 := frozen_at A3.out 3
  have f4 := frozen_at A3.out 4
  have f5 := frozen_at A3.out 5
  have f6 := frozen_at A3.out 6
  have f7 := frozen_at A3.out 7
  simp at p0 p1 p2 p3 p4 p5 p6 p7
  obtain ⟨s1, s2⟩ := set8 (.int .i64 kb) (.int .u64 hb) (.int .u64 lb) (.int .i64 nb') (.int .i64 sb) (.string cb) (.int .u32 ib) (.int .i64 ub) A3.out
  have HS1 := hide s1
  have HS2 := hide s2
  clear s1 s2
  go_upto_region 6 with fail
  clear p0 p1 p2 p3 p4 p5 p6 p7 f0 f1 f2 f3 f4 f5 f6 f7
  generalize ((((((((w3.setCell ⟨a1, 0, none⟩ (.int .i64 kb)).setCell ⟨a1, 1, none⟩ (.int .u64 hb)).setCell ⟨a1, 2, none⟩ (.int .u64 lb)).setCell ⟨a1, 3, none⟩ (.int .i64 nb')).setCell ⟨a1, 4, none⟩ (.int .i64 sb)).setCell ⟨a1, 5, none⟩ (.string cb)).setCell ⟨a1, 6, none⟩ (.int .u32 ib)).setCell ⟨a1, 7, none⟩ (.int .i64 ub)) = V3 at *
  have C4 := hide (C3.out.fr HS2.out WA.out (by have := XA.out; omega))
  have B4 := hide (HS2.out.keep B3.out (by have := AB.out; omega))
  clear C3 B3 A3 HS2
  obtain ⟨_, x0, x1, x2, x3, x4, x5, x6, x7⟩ := id C4.out
  go_wp2_with fail
  refine (OB2.out _ C4.out.1).mono ?_
  rintro e w4 ⟨rfl, hb4⟩
  have A5 := hide ((Fr.ofBelow hb4).keep HS1.out (fun e => e))
  have B5 := hide ((Fr.ofBelow hb4).keep B4.out (fun e => e))
  have C5 := hide (C4.out.step hb4)
  clear x0 x1 x2 x3 x4 x5 x6 x7 HS1 B4 C4 hb4 OB2
  have p0 := cell_at B5.out 0
  have p1 := cell_at B5.out 1
  have p2 := cell_at B5.out 2
  have p3 := cell_at B5.out 3
  have p4 := cell_at B5.out 4
  have p5 := cell_at B5.out 5
  have p6 := cell_at B5.out 6
  have p7 := cell_at B5.out 7
  have f0 := frozen_at B5.out 0
  have f1 := frozen_at B5.out 1
  have f2 := frozen_at B5.out 2
  have f3 := frozen_at B5.out 3
  have f4 := frozen_at B5.out 4
  have f5 := frozen_at B5.out 5
  have f6 := frozen_at B5.out 6
  have f7 := frozen_at B5.out 7
  simp at p0 p1 p2 p3 p4 p5 p6 p7
  obtain ⟨s1, s2⟩ := set8 (.int .i64 kb) (.int .u64 hb) (.int .u64 lb) (.int .i64 nb') (.int .i64 sb) (.string cb) (.int .u32 ib) (.int .i64 ub) B5.out
  have HS1 := hide s1
  have HS2 := hide s2
  clear s1 s2
  go_upto_region 7 with fail
  clear p0 p1 p2 p3 p4 p5 p6 p7 f0 f1 f2 f3 f4 f5 f6 f7
  generalize ((((((((w4.setCell ⟨b1, 0, none⟩ (.int .i64 kb)).setCell ⟨b1, 1, none⟩ (.int .u64 hb)).setCell ⟨b1, 2, none⟩ (.int .u64 lb)).setCell ⟨b1, 3, none⟩ (.int .i64 nb')).setCell ⟨b1, 4, none⟩ (.int .i64 sb)).setCell ⟨b1, 5, none⟩ (.string cb)).setCell ⟨b1, 6, none⟩ (.int .u32 ib)).setCell ⟨b1, 7, none⟩ (.int .i64 ub)) = V4 at *
  have HC0 := hide (C5.out.fr HS2.out (Nat.le_trans WA.out (Nat.le_of_lt AB.out)) (by have := AB.out; have := XA.out; omega))
  have A6 := hide (HS2.out.keep A5.out (by have := AB.out; omega))
  clear C5 A5 B5 HS2
  have SF : ∀ W, (binOp .neq 30 (.agg #[.int .i64 kb, .int .u64 hb, .int .u64 lb, .int .i64 nb', .int .i64 sb, .string cb, .int .u32 ib, .int .i64 ub]) (.agg #[.int .i64 kb, .int .u64 hb, .int .u64 lb, .int .i64 nb', .int .i64 sb, .string cb, .int .u32 ib, .int .i64 ub])).run Tryz.prog W = .ok (.bool false) W := (fun W => by rw [run_neq_struct, eql_lease]; simp)
  have p0 := cell_at A6.out 0
  have p1 := cell_at A6.out 1
  have p2 := cell_at A6.out 2
  have p3 := cell_at A6.out 3
  have p4 := cell_at A6.out 4
  have p5 := cell_at A6.out 5
  have p6 := cell_at A6.out 6
  have p7 := cell_at A6.out 7
  have q0 := cell_at HS1.out 0
  have q1 := cell_at HS1.out 1
  have q2 := cell_at HS1.out 2
  have q3 := cell_at HS1.out 3
  have q4 := cell_at HS1.out 4
  have q5 := cell_at HS1.out 5
  have q6 := cell_at HS1.out 6
  have q7 := cell_at HS1.out 7
  simp at p0 p1 p2 p3 p4 p5 p6 p7 q0 q1 q2 q3 q4 q5 q6 q7
  go_wp2_with fail
  refine (NX1.out _ HC0.out.1).mono ?_
  rintro e w5 ⟨rfl, hb5⟩
  have HC1 := hide (HC0.out.step hb5)
  clear p0 p1 p2 p3 p4 p5 p6 p7 q0 q1 q2 q3 q4 q5 q6 q7 SF A6 HS1 HC0 hb5 NX1
  go_wp2_with fail
  refine (NX2.out _ HC1.out.1).mono ?_
  rintro e w6 ⟨rfl, hb6⟩
  have HC := hide (HC1.out.step hb6)
  clear HC1 hb6 NX2 XA WA AB
  go_upto_region 11 with fail
  refine wp_region_rel (TC w0 X kx hx lx nx sx cx ix ux) [some 79, some 80, some 81, some 82, some 83, some 84, some 85, some 86, some 87, some 88, some 89, some 90, some 91, some 92, some 93, some 94, some 95, some 96, some 97, some 98, some 99, some 100, some 101, some 102, some 103, some 104, some 105, some 106, some 107, some 108, some 109, some 110, some 111, some 112, some 113, some 114, some 115, some 116, some 117, some 118, some 119, some 120, some 121, some 122, some 123, some 124, some 125, some 126, some 127, some 128, some 129, some 130, some 6] [fun yy _ => yy = .int .i64 nn, fun yy _ => yy = .int .i64 nn, fun yy _ => yy = .bool true, fun yy _ => yy = .bool true, fun yy _ => yy = .bool nb, fun yy _ => yy = .bool nb, fun yy _ => yy = .bool true, fun yy _ => yy = .bool true, fun yy _ => yy = .bool true, fun yy _ => yy = Pt t, fun yy _ => yy = .int .i64 nl, fun yy _ => yy = Pt u, fun yy _ => yy = .int .i64 nl, fun yy _ => yy = .bool true, fun yy _ => yy = .bool true, fun yy _ => yy = .bool true, fun yy _ => yy = Pt t, fun yy _ => yy = .pointer (some ⟨X, 5, none⟩), fun yy _ => yy = .string cx, fun yy W => ∃ p c, yy = .slice p m1 c ∧ R1 p W, fun yy _ => yy = Pt u, fun yy _ => yy = .pointer (some ⟨X, 5, none⟩), fun yy _ => yy = .string cx, fun yy W => ∃ p c, yy = .slice p m1 c ∧ R1 p W, fun yy _ => yy = .bool true, fun yy _ => yy = .bool true, fun yy _ => yy = .bool true, fun yy _ => yy = Pt t, fun yy _ => yy = .pointer (some ⟨X, 0, none⟩), fun yy _ => yy = .int .i64 kx, fun yy _ => yy = .pointer (some ⟨X, 1, none⟩), fun yy _ => yy = .agg #[.int .u64 hx, .int .u64 lx, .int .i64 nx], fun yy W => ∃ p c, yy = .slice p m2 c ∧ R2 p W, fun yy _ => yy = Pt u, fun yy _ => yy = .pointer (some ⟨X, 0, none⟩), fun yy _ => yy = .int .i64 kx, fun yy _ => yy = .pointer (some ⟨X, 1, none⟩), fun yy _ => yy = .agg #[.int .u64 hx, .int .u64 lx, .int .i64 nx], fun yy W => ∃ p c, yy = .slice p m2 c ∧ R2 p W, fun yy _ => yy = .bool true, fun yy _ => yy = .bool true, fun yy _ => yy = .bool true, fun yy _ => yy = Pt t, fun yy _ => yy = .pointer (some ⟨X, 7, none⟩), fun yy _ => yy = .int .i64 ux, fun yy W => ∃ p c, yy = .slice p m3 c ∧ R3 p W, fun yy _ => yy = Pt u, fun yy _ => yy = .pointer (some ⟨X, 7, none⟩), fun yy _ => yy = .int .i64 ux, fun yy W => ∃ p c, yy = .slice p m3 c ∧ R3 p W, fun yy _ => yy = .bool true, fun yy _ => yy = .bool true, fun yy _ => yy = .bool true] 131 (by kernel_rfl) (by kernel_rfl) rfl rfl (HC.out.step (below_drew _)) ?_ ?_
  · refine ⟨⟨fun _ _ _ h _ => h, fun a' W K hC hd hf hK => ?_⟩, ⟨fun _ _ _ h _ => h, fun a' W K hC hd hf hK => ?_⟩, ⟨fun _ _ _ h _ => h, fun a' W K hC hd hf hK => ?_⟩, ⟨fun _ _ _ h _ => h, fun a' W K hC hd hf hK => ?_⟩, ⟨fun _ _ _ h _ => h, fun a' W K hC hd hf hK => ?_⟩, ⟨fun _ _ _ h _ => h, fun a' W K hC hd hf hK => ?_⟩, ⟨fun _ _ _ h _ => h, fun a' W K hC hd hf hK => ?_⟩, ⟨fun _ _ _ h _ => h, fun a' W K hC hd hf hK => ?_⟩, ⟨fun _ _ _ h _ => h, fun a' W K hC hd hf hK => ?_⟩, ⟨fun _ _ _ h _ => h, fun a' W K hC hd hf hK => ?_⟩, ⟨fun _ _ _ h _ => h, fun a' W K hC hd hf hK => ?_⟩, ⟨fun _ _ _ h _ => h, fun a' W K hC hd hf hK => ?_⟩, ⟨fun _ _ _ h _ => h, fun a' W K hC hd hf hK => ?_⟩, ⟨fun _ _ _ h _ => h, fun a' W K hC hd hf hK => ?_⟩, ⟨fun _ _ _ h _ => h, fun a' W K hC hd hf hK => ?_⟩, ⟨fun _ _ _ h _ => h, fun a' W K hC hd hf hK => ?_⟩, ⟨fun _ _ _ h _ => h, fun a' W K hC hd hf hK => ?_⟩, ⟨fun _ _ _ h _ => h, fun a' W K hC hd hf hK => ?_⟩, ⟨fun _ _ _ h _ => h, fun a' W K hC hd hf hK => ?_⟩, ⟨fun _ _ _ ⟨p, c, h0, h1⟩ hb => ⟨p, c, h0, RS1.out.st p _ _ h1 hb⟩, fun a' W K hC hd hf hK => ?_⟩, ⟨fun _ _ _ h _ => h, fun a' W K hC hd hf hK => ?_⟩, ⟨fun _ _ _ h _ => h, fun a' W K hC hd hf hK => ?_⟩, ⟨fun _ _ _ h _ => h, fun a' W K hC hd hf hK => ?_⟩, ⟨fun _ _ _ ⟨p, c, h0, h1⟩ hb => ⟨p, c, h0, RS1.out.st p _ _ h1 hb⟩, fun a' W K hC hd hf hK => ?_⟩, ⟨fun _ _ _ h _ => h, fun a' W K hC hd hf hK => ?_⟩, ⟨fun _ _ _ h _ => h, fun a' W K hC hd hf hK => ?_⟩, ⟨fun _ _ _ h _ => h, fun a' W K hC hd hf hK => ?_⟩, ⟨fun _ _ _ h _ => h, fun a' W K hC hd hf hK => ?_⟩, ⟨fun _ _ _ h _ => h, fun a' W K hC hd hf hK => ?_⟩, ⟨fun _ _ _ h _ => h, fun a' W K hC hd hf hK => ?_⟩, ⟨fun _ _ _ h _ => h, fun a' W K hC hd hf hK => ?_⟩, ⟨fun _ _ _ h _ => h, fun a' W K hC hd hf hK => ?_⟩, ⟨fun _ _ _ ⟨p, c, h0, h1⟩ hb => ⟨p, c, h0, RS2.out.st p _ _ h1 hb⟩, fun a' W K hC hd hf hK => ?_⟩, ⟨fun _ _ _ h _ => h, fun a' W K hC hd hf hK => ?_⟩, ⟨fun _ _ _ h _ => h, fun a' W K hC hd hf hK => ?_⟩, ⟨fun _ _ _ h _ => h, fun a' W K hC hd hf hK => ?_⟩, ⟨fun _ _ _ h _ => h, fun a' W K hC hd hf hK => ?_⟩, ⟨fun _ _ _ h _ => h, fun a' W K hC hd hf hK => ?_⟩, ⟨fun _ _ _ ⟨p, c, h0, h1⟩ hb => ⟨p, c, h0, RS2.out.st p _ _ h1 hb⟩, fun a' W K hC hd hf hK => ?_⟩, ⟨fun _ _ _ h _ => h, fun a' W K hC hd hf hK => ?_⟩, ⟨fun _ _ _ h _ => h, fun a' W K hC hd hf hK => ?_⟩, ⟨fun _ _ _ h _ => h, fun a' W K hC hd hf hK => ?_⟩, ⟨fun _ _ _ h _ => h, fun a' W K hC hd hf hK => ?_⟩, ⟨fun _ _ _ h _ => h, fun a' W K hC hd hf hK => ?_⟩, ⟨fun _ _ _ h _ => h, fun a' W K hC hd hf hK => ?_⟩, ⟨fun _ _ _ ⟨p, c, h0, h1⟩ hb => ⟨p, c, h0, RS3.out.st p _ _ h1 hb⟩, fun a' W K hC hd hf hK => ?_⟩, ⟨fun _ _ _ h _ => h, fun a' W K hC hd hf hK => ?_⟩, ⟨fun _ _ _ h _ => h, fun a' W K hC hd hf hK => ?_⟩, ⟨fun _ _ _ h _ => h, fun a' W K hC hd hf hK => ?_⟩, ⟨fun _ _ _ ⟨p, c, h0, h1⟩ hb => ⟨p, c, h0, RS3.out.st p _ _ h1 hb⟩, fun a' W K hC hd hf hK => ?_⟩, ⟨fun _ _ _ h _ => h, fun a' W K hC hd hf hK => ?_⟩, ⟨fun _ _ _ h _ => h, fun a' W K hC hd hf hK => ?_⟩, ⟨fun _ _ _ h _ => h, fun a' W K hC hd hf hK => ?_⟩, trivial⟩
    · refine op_plain rfl ?_
      have f11 : a'.tmps[11]?.getD undef = .int .i64 nn := (hf.out 11 (by kernel_rfl)).trans (by simp)
      go_simp
      exact hK.out _ _ hC (Below.refl _ _) rfl
    · refine op_plain rfl ?_
      have f12 : a'.tmps[12]?.getD undef = .int .i64 nn := (hf.out 12 (by kernel_rfl)).trans (by simp)
      go_simp
      exact hK.out _ _ hC (Below.refl _ _) rfl
    · refine op_plain rfl ?_
      have d79 : a'.tmps[79]?.getD undef = .int .i64 nn := hd.out 0 79 (by kernel_rfl) rfl
      have d80 : a'.tmps[80]?.getD undef = .int .i64 nn := hd.out 1 80 (by kernel_rfl) rfl
      go_simp
      exact hK.out _ _ hC (Below.refl _ _) rfl
    · refine op_plain rfl ?_
      have d81 : a'.tmps[81]?.getD undef = .bool true := hd.out 2 81 (by kernel_rfl) rfl
      go_simp
      exact hK.out _ _ hC (Below.refl _ _) rfl
    · have gd : a'.tmps[82]?.getD undef = .bool true := hd.out 3 82 (by kernel_rfl) rfl
      refine op_yes rfl (by kernel_rfl) gd ?_
      clear gd
      have f8 : a'.tmps[8]?.getD undef = .bool nb := (hf.out 8 (by kernel_rfl)).trans (by simp)
      go_simp
      exact hK.out _ _ hC (Below.refl _ _) rfl
    · have gd : a'.tmps[82]?.getD undef = .bool true := hd.out 3 82 (by kernel_rfl) rfl
      refine op_yes rfl (by kernel_rfl) gd ?_
      clear gd
      have f10 : a'.tmps[10]?.getD undef = .bool nb := (hf.out 10 (by kernel_rfl)).trans (by simp)
      go_simp
      exact hK.out _ _ hC (Below.refl _ _) rfl
    · have gd : a'.tmps[82]?.getD undef = .bool true := hd.out 3 82 (by kernel_rfl) rfl
      refine op_yes rfl (by kernel_rfl) gd ?_
      clear gd
      have d83 : a'.tmps[83]?.getD undef = .bool nb := hd.out 4 83 (by kernel_rfl) rfl
      have d84 : a'.tmps[84]?.getD undef = .bool nb := hd.out 5 84 (by kernel_rfl) rfl
      go_simp
      exact hK.out _ _ hC (Below.refl _ _) rfl
    · refine op_plain rfl ?_
      have d82 : a'.tmps[82]?.getD undef = .bool true := hd.out 3 82 (by kernel_rfl) rfl
      have d85 : a'.tmps[85]?.getD undef = .bool true := hd.out 6 85 (by kernel_rfl) rfl
      go_simp
      exact hK.out _ _ hC (Below.refl _ _) rfl
    · refine op_plain rfl ?_
      have d86 : a'.tmps[86]?.getD undef = .bool true := hd.out 7 86 (by kernel_rfl) rfl
      go_simp
      exact hK.out _ _ hC (Below.refl _ _) rfl
    · have gd : a'.tmps[87]?.getD undef = .bool true := hd.out 8 87 (by kernel_rfl) rfl
      refine op_yes rfl (by kernel_rfl) gd ?_
      clear gd
      have f0 : a'.tmps[0]?.getD undef = Pt t := (hf.out 0 (by kernel_rfl)).trans (by simp)
      go_simp
      exact hK.out _ _ hC (Below.refl _ _) rfl
    · have gd : a'.tmps[87]?.getD undef = .bool true := hd.out 8 87 (by kernel_rfl) rfl
      refine op_yes rfl (by kernel_rfl) gd ?_
      clear gd
      have d88 : a'.tmps[88]?.getD undef = Pt t := hd.out 9 88 (by kernel_rfl) rfl
      go_simp; go_at_call 20; refine (SZ1.out _ hC.1).mono ?_; rintro e w2 ⟨rfl, hb2⟩; exact hK.out _ _ (hC.step hb2) hb2 rfl
    · have gd : a'.tmps[87]?.getD undef = .bool true := hd.out 8 87 (by kernel_rfl) rfl
      refine op_yes rfl (by kernel_rfl) gd ?_
      clear gd
      have f1 : a'.tmps[1]?.getD undef = Pt u := (hf.out 1 (by kernel_rfl)).trans (by simp)
      go_simp
      exact hK.out _ _ hC (Below.refl _ _) rfl
    · have gd : a'.tmps[87]?.getD undef = .bool true := hd.out 8 87 (by kernel_rfl) rfl
      refine op_yes rfl (by kernel_rfl) gd ?_
      clear gd
      have d90 : a'.tmps[90]?.getD undef = Pt u := hd.out 11 90 (by kernel_rfl) rfl
      go_simp; go_at_call 29; refine (SZ2.out _ hC.1).mono ?_; rintro e w2 ⟨rfl, hb2⟩; exact hK.out _ _ (hC.step hb2) hb2 rfl
    · have gd : a'.tmps[87]?.getD undef = .bool true := hd.out 8 87 (by kernel_rfl) rfl
      refine op_yes rfl (by kernel_rfl) gd ?_
      clear gd
      have d89 : a'.tmps[89]?.getD undef = .int .i64 nl := hd.out 10 89 (by kernel_rfl) rfl
      have d91 : a'.tmps[91]?.getD undef = .int .i64 nl := hd.out 12 91 (by kernel_rfl) rfl
      go_simp
      exact hK.out _ _ hC (Below.refl _ _) rfl
    · refine op_plain rfl ?_
      have d87 : a'.tmps[87]?.getD undef = .bool true := hd.out 8 87 (by kernel_rfl) rfl
      have d92 : a'.tmps[92]?.getD undef = .bool true := hd.out 13 92 (by kernel_rfl) rfl
      go_simp
      exact hK.out _ _ hC (Below.refl _ _) rfl
    · refine op_plain rfl ?_
      have d93 : a'.tmps[93]?.getD undef = .bool true := hd.out 14 93 (by kernel_rfl) rfl
      go_simp
      exact hK.out _ _ hC (Below.refl _ _) rfl
    · have gd : a'.tmps[94]?.getD undef = .bool true := hd.out 15 94 (by kernel_rfl) rfl
      refine op_yes rfl (by kernel_rfl) gd ?_
      clear gd
      have f0 : a'.tmps[0]?.getD undef = Pt t := (hf.out 0 (by kernel_rfl)).trans (by simp)
      go_simp
      exact hK.out _ _ hC (Below.refl _ _) rfl
    · have gd : a'.tmps[94]?.getD undef = .bool true := hd.out 15 94 (by kernel_rfl) rfl
      refine op_yes rfl (by kernel_rfl) gd ?_
      clear gd
      have f5 : a'.tmps[5]?.getD undef = .pointer (some ⟨X, 0, none⟩) := (hf.out 5 (by kernel_rfl)).trans (by simp)
      go_simp
      exact hK.out _ _ hC (Below.refl _ _) rfl
    · have gd : a'.tmps[94]?.getD undef = .bool true := hd.out 15 94 (by kernel_rfl) rfl
      refine op_yes rfl (by kernel_rfl) gd ?_
      clear gd
      have d96 : a'.tmps[96]?.getD undef = .pointer (some ⟨X, 5, none⟩) := hd.out 17 96 (by kernel_rfl) rfl
      obtain ⟨x0, x1, x2, x3, x4, x5, x6, x7⟩ := hC.2
      go_simp
      exact hK.out _ _ hC (Below.refl _ _) rfl
    · have gd : a'.tmps[94]?.getD undef = .bool true := hd.out 15 94 (by kernel_rfl) rfl
      refine op_yes rfl (by kernel_rfl) gd ?_
      clear gd
      have d95 : a'.tmps[95]?.getD undef = Pt t := hd.out 16 95 (by kernel_rfl) rfl
      have d97 : a'.tmps[97]?.getD undef = .string cx := hd.out 18 97 (by kernel_rfl) rfl
      go_simp; go_at_call 19; refine (CL1.out _ hC.1).mono ?_; rintro e w2 ⟨p, c, rfl, hr, hb2⟩; exact hK.out _ _ (hC.step hb2) hb2 ⟨p, c, rfl, hr⟩
    · have gd : a'.tmps[94]?.getD undef = .bool true := hd.out 15 94 (by kernel_rfl) rfl
      refine op_yes rfl (by kernel_rfl) gd ?_
      clear gd
      have f1 : a'.tmps[1]?.getD undef = Pt u := (hf.out 1 (by kernel_rfl)).trans (by simp)
      go_simp
      exact hK.out _ _ hC (Below.refl _ _) rfl
    · have gd : a'.tmps[94]?.getD undef = .bool true := hd.out 15 94 (by kernel_rfl) rfl
      refine op_yes rfl (by kernel_rfl) gd ?_
      clear gd
      have f5 : a'.tmps[5]?.getD undef = .pointer (some ⟨X, 0, none⟩) := (hf.out 5 (by kernel_rfl)).trans (by simp)
      go_simp
      exact hK.out _ _ hC (Below.refl _ _) rfl
    · have gd : a'.tmps[94]?.getD undef = .bool true := hd.out 15 94 (by kernel_rfl) rfl
      refine op_yes rfl (by kernel_rfl) gd ?_
      clear gd
      have d100 : a'.tmps[100]?.getD undef = .pointer (some ⟨X, 5, none⟩) := hd.out 21 100 (by kernel_rfl) rfl
      obtain ⟨x0, x1, x2, x3, x4, x5, x6, x7⟩ := hC.2
      go_simp
      exact hK.out _ _ hC (Below.refl _ _) rfl
    · have gd : a'.tmps[94]?.getD undef = .bool true := hd.out 15 94 (by kernel_rfl) rfl
      refine op_yes rfl (by kernel_rfl) gd ?_
      clear gd
      have d99 : a'.tmps[99]?.getD undef = Pt u := hd.out 20 99 (by kernel_rfl) rfl
      have d101 : a'.tmps[101]?.getD undef = .string cx := hd.out 22 101 (by kernel_rfl) rfl
      go_simp; go_at_call 30; refine (CL2.out _ hC.1).mono ?_; rintro e w2 ⟨p, c, rfl, hr, hb2⟩; exact hK.out _ _ (hC.step hb2) hb2 ⟨p, c, rfl, hr⟩
    · have gd : a'.tmps[94]?.getD undef = .bool true := hd.out 15 94 (by kernel_rfl) rfl
      refine op_yes rfl (by kernel_rfl) gd ?_
      clear gd
      have d98 := hd.out 19 98 (by kernel_rfl) rfl
      have d102 := hd.out 23 102 (by kernel_rfl) rfl
      obtain ⟨pa, ca, ea, ra⟩ := d98
      obtain ⟨pb, cb, eb, rb⟩ := d102
      go_simp; go_at_call 10; refine (RS1.out.same _ pa pb ca cb ra rb).mono ?_; rintro e w2 ⟨rfl, hb2⟩; exact hK.out _ _ (hC.step hb2) hb2 rfl
    · refine op_plain rfl ?_
      have d94 : a'.tmps[94]?.getD undef = .bool true := hd.out 15 94 (by kernel_rfl) rfl
      have d103 : a'.tmps[103]?.getD undef = .bool true := hd.out 24 103 (by kernel_rfl) rfl
      go_simp
      exact hK.out _ _ hC (Below.refl _ _) rfl
    · refine op_plain rfl ?_
      have d104 : a'.tmps[104]?.getD undef = .bool true := hd.out 25 104 (by kernel_rfl) rfl
      go_simp
      exact hK.out _ _ hC (Below.refl _ _) rfl
    · have gd : a'.tmps[105]?.getD undef = .bool true := hd.out 26 105 (by kernel_rfl) rfl
      refine op_yes rfl (by kernel_rfl) gd ?_
      clear gd
      have f0 : a'.tmps[0]?.getD undef = Pt t := (hf.out 0 (by kernel_rfl)).trans (by simp)
      go_simp
      exact hK.out _ _ hC (Below.refl _ _) rfl
    · have gd : a'.tmps[105]?.getD undef = .bool true := hd.out 26 105 (by kernel_rfl) rfl
      refine op_yes rfl (by kernel_rfl) gd ?_
      clear gd
      have f5 : a'.tmps[5]?.getD undef = .pointer (some ⟨X, 0, none⟩) := (hf.out 5 (by kernel_rfl)).trans (by simp)
      go_simp
      exact hK.out _ _ hC (Below.refl _ _) rfl
    · have gd : a'.tmps[105]?.getD undef = .bool true := hd.out 26 105 (by kernel_rfl) rfl
      refine op_yes rfl (by kernel_rfl) gd ?_
      clear gd
      have d107 : a'.tmps[107]?.getD undef = .pointer (some ⟨X, 0, none⟩) := hd.out 28 107 (by kernel_rfl) rfl
      obtain ⟨x0, x1, x2, x3, x4, x5, x6, x7⟩ := hC.2
      go_simp
      exact hK.out _ _ hC (Below.refl _ _) rfl
    · have gd : a'.tmps[105]?.getD undef = .bool true := hd.out 26 105 (by kernel_rfl) rfl
      refine op_yes rfl (by kernel_rfl) gd ?_
      clear gd
      have f5 : a'.tmps[5]?.getD undef = .pointer (some ⟨X, 0, none⟩) := (hf.out 5 (by kernel_rfl)).trans (by simp)
      go_simp
      exact hK.out _ _ hC (Below.refl _ _) rfl
    · have gd : a'.tmps[105]?.getD undef = .bool true := hd.out 26 105 (by kernel_rfl) rfl
      refine op_yes rfl (by kernel_rfl) gd ?_
      clear gd
      have d109 : a'.tmps[109]?.getD undef = .pointer (some ⟨X, 1, none⟩) := hd.out 30 109 (by kernel_rfl) rfl
      obtain ⟨x0, x1, x2, x3, x4, x5, x6, x7⟩ := hC.2
      go_simp
      exact hK.out _ _ hC (Below.refl _ _) rfl
    · have gd : a'.tmps[105]?.getD undef = .bool true := hd.out 26 105 (by kernel_rfl) rfl
      refine op_yes rfl (by kernel_rfl) gd ?_
      clear gd
      have d106 : a'.tmps[106]?.getD undef = Pt t := hd.out 27 106 (by kernel_rfl) rfl
      have d108 : a'.tmps[108]?.getD undef = .int .i64 kx := hd.out 29 108 (by kernel_rfl) rfl
      have d110 : a'.tmps[110]?.getD undef = .agg #[.int .u64 hx, .int .u64 lx, .int .i64 nx] := hd.out 31 110 (by kernel_rfl) rfl
      go_simp; go_at_call 31; refine (ME1.out _ hC.1).mono ?_; rintro e w2 ⟨p, c, rfl, hr, hb2⟩; exact hK.out _ _ (hC.step hb2) hb2 ⟨p, c, rfl, hr⟩
    · have gd : a'.tmps[105]?.getD undef = .bool true := hd.out 26 105 (by kernel_rfl) rfl
      refine op_yes rfl (by kernel_rfl) gd ?_
      clear gd
      have f1 : a'.tmps[1]?.getD undef = Pt u := (hf.out 1 (by kernel_rfl)).trans (by simp)
      go_simp
      exact hK.out _ _ hC (Below.refl _ _) rfl
    · have gd : a'.tmps[105]?.getD undef = .bool true := hd.out 26 105 (by kernel_rfl) rfl
      refine op_yes rfl (by kernel_rfl) gd ?_
      clear gd
      have f5 : a'.tmps[5]?.getD undef = .pointer (some ⟨X, 0, none⟩) := (hf.out 5 (by kernel_rfl)).trans (by simp)
      go_simp
      exact hK.out _ _ hC (Below.refl _ _) rfl
    · have gd : a'.tmps[105]?.getD undef = .bool true := hd.out 26 105 (by kernel_rfl) rfl
      refine op_yes rfl (by kernel_rfl) gd ?_
      clear gd
      have d113 : a'.tmps[113]?.getD undef = .pointer (some ⟨X, 0, none⟩) := hd.out 34 113 (by kernel_rfl) rfl
      obtain ⟨x0, x1, x2, x3, x4, x5, x6, x7⟩ := hC.2
      go_simp
      exact hK.out _ _ hC (Below.refl _ _) rfl
    · have gd : a'.tmps[105]?.getD undef = .bool true := hd.out 26 105 (by kernel_rfl) rfl
      refine op_yes rfl (by kernel_rfl) gd ?_
      clear gd
      have f5 : a'.tmps[5]?.getD undef = .pointer (some ⟨X, 0, none⟩) := (hf.out 5 (by kernel_rfl)).trans (by simp)
      go_simp
      exact hK.out _ _ hC (Below.refl _ _) rfl
    · have gd : a'.tmps[105]?.getD undef = .bool true := hd.out 26 105 (by kernel_rfl) rfl
      refine op_yes rfl (by kernel_rfl) gd ?_
      clear gd
      have d115 : a'.tmps[115]?.getD undef = .pointer (some ⟨X, 1, none⟩) := hd.out 36 115 (by kernel_rfl) rfl
      obtain ⟨x0, x1, x2, x3, x4, x5, x6, x7⟩ := hC.2
      go_simp
      exact hK.out _ _ hC (Below.refl _ _) rfl
    · have gd : a'.tmps[105]?.getD undef = .bool true := hd.out 26 105 (by kernel_rfl) rfl
      refine op_yes rfl (by kernel_rfl) gd ?_
      clear gd
      have d112 : a'.tmps[112]?.getD undef = Pt u := hd.out 33 112 (by kernel_rfl) rfl
      have d114 : a'.tmps[114]?.getD undef = .int .i64 kx := hd.out 35 114 (by kernel_rfl) rfl
      have d116 : a'.tmps[116]?.getD undef = .agg #[.int .u64 hx, .int .u64 lx, .int .i64 nx] := hd.out 37 116 (by kernel_rfl) rfl
      go_simp; go_at_call 32; refine (ME2.out _ hC.1).mono ?_; rintro e w2 ⟨p, c, rfl, hr, hb2⟩; exact hK.out _ _ (hC.step hb2) hb2 ⟨p, c, rfl, hr⟩
    · have gd : a'.tmps[105]?.getD undef = .bool true := hd.out 26 105 (by kernel_rfl) rfl
      refine op_yes rfl (by kernel_rfl) gd ?_
      clear gd
      have d111 := hd.out 32 111 (by kernel_rfl) rfl
      have d117 := hd.out 38 117 (by kernel_rfl) rfl
      obtain ⟨pa, ca, ea, ra⟩ := d111
      obtain ⟨pb, cb, eb, rb⟩ := d117
      go_simp; go_at_call 10; refine (RS2.out.same _ pa pb ca cb ra rb).mono ?_; rintro e w2 ⟨rfl, hb2⟩; exact hK.out _ _ (hC.step hb2) hb2 rfl
    · refine op_plain rfl ?_
      have d105 : a'.tmps[105]?.getD undef = .bool true := hd.out 26 105 (by kernel_rfl) rfl
      have d118 : a'.tmps[118]?.getD undef = .bool true := hd.out 39 118 (by kernel_rfl) rfl
      go_simp
      exact hK.out _ _ hC (Below.refl _ _) rfl
    · refine op_plain rfl ?_
      have d119 : a'.tmps[119]?.getD undef = .bool true := hd.out 40 119 (by kernel_rfl) rfl
      go_simp
      exact hK.out _ _ hC (Below.refl _ _) rfl
    · have gd : a'.tmps[120]?.getD undef = .bool true := hd.out 41 120 (by kernel_rfl) rfl
      refine op_yes rfl (by kernel_rfl) gd ?_
      clear gd
      have f0 : a'.tmps[0]?.getD undef = Pt t := (hf.out 0 (by kernel_rfl)).trans (by simp)
      go_simp
      exact hK.out _ _ hC (Below.refl _ _) rfl
    · have gd : a'.tmps[120]?.getD undef = .bool true := hd.out 41 120 (by kernel_rfl) rfl
      refine op_yes rfl (by kernel_rfl) gd ?_
      clear gd
      have f5 : a'.tmps[5]?.getD undef = .pointer (some ⟨X, 0, none⟩) := (hf.out 5 (by kernel_rfl)).trans (by simp)
      go_simp
      exact hK.out _ _ hC (Below.refl _ _) rfl
    · have gd : a'.tmps[120]?.getD undef = .bool true := hd.out 41 120 (by kernel_rfl) rfl
      refine op_yes rfl (by kernel_rfl) gd ?_
      clear gd
      have d122 : a'.tmps[122]?.getD undef = .pointer (some ⟨X, 7, none⟩) := hd.out 43 122 (by kernel_rfl) rfl
      obtain ⟨x0, x1, x2, x3, x4, x5, x6, x7⟩ := hC.2
      go_simp
      exact hK.out _ _ hC (Below.refl _ _) rfl
    · have gd : a'.tmps[120]?.getD undef = .bool true := hd.out 41 120 (by kernel_rfl) rfl
      refine op_yes rfl (by kernel_rfl) gd ?_
      clear gd
      have d121 : a'.tmps[121]?.getD undef = Pt t := hd.out 42 121 (by kernel_rfl) rfl
      have d123 : a'.tmps[123]?.getD undef = .int .i64 ux := hd.out 44 123 (by kernel_rfl) rfl
      go_simp; go_at_call 18; refine (DU1.out _ hC.1).mono ?_; rintro e w2 ⟨p, c, rfl, hr, hb2⟩; exact hK.out _ _ (hC.step hb2) hb2 ⟨p, c, rfl, hr⟩
    · have gd : a'.tmps[120]?.getD undef = .bool true := hd.out 41 120 (by kernel_rfl) rfl
      refine op_yes rfl (by kernel_rfl) gd ?_
      clear gd
      have f1 : a'.tmps[1]?.getD undef = Pt u := (hf.out 1 (by kernel_rfl)).trans (by simp)
      go_simp
      exact hK.out _ _ hC (Below.refl _ _) rfl
    · have gd : a'.tmps[120]?.getD undef = .bool true := hd.out 41 120 (by kernel_rfl) rfl
      refine op_yes rfl (by kernel_rfl) gd ?_
      clear gd
      have f5 : a'.tmps[5]?.getD undef = .pointer (some ⟨X, 0, none⟩) := (hf.out 5 (by kernel_rfl)).trans (by simp)
      go_simp
      exact hK.out _ _ hC (Below.refl _ _) rfl
    · have gd : a'.tmps[120]?.getD undef = .bool true := hd.out 41 120 (by kernel_rfl) rfl
      refine op_yes rfl (by kernel_rfl) gd ?_
      clear gd
      have d126 : a'.tmps[126]?.getD undef = .pointer (some ⟨X, 7, none⟩) := hd.out 47 126 (by kernel_rfl) rfl
      obtain ⟨x0, x1, x2, x3, x4, x5, x6, x7⟩ := hC.2
      go_simp
      exact hK.out _ _ hC (Below.refl _ _) rfl
    · have gd : a'.tmps[120]?.getD undef = .bool true := hd.out 41 120 (by kernel_rfl) rfl
      refine op_yes rfl (by kernel_rfl) gd ?_
      clear gd
      have d125 : a'.tmps[125]?.getD undef = Pt u := hd.out 46 125 (by kernel_rfl) rfl
      have d127 : a'.tmps[127]?.getD undef = .int .i64 ux := hd.out 48 127 (by kernel_rfl) rfl
      go_simp; go_at_call 33; refine (DU2.out _ hC.1).mono ?_; rintro e w2 ⟨p, c, rfl, hr, hb2⟩; exact hK.out _ _ (hC.step hb2) hb2 ⟨p, c, rfl, hr⟩
    · have gd : a'.tmps[120]?.getD undef = .bool true := hd.out 41 120 (by kernel_rfl) rfl
      refine op_yes rfl (by kernel_rfl) gd ?_
      clear gd
      have d124 := hd.out 45 124 (by kernel_rfl) rfl
      have d128 := hd.out 49 128 (by kernel_rfl) rfl
      obtain ⟨pa, ca, ea, ra⟩ := d124
      obtain ⟨pb, cb, eb, rb⟩ := d128
      go_simp; go_at_call 10; refine (RS3.out.same _ pa pb ca cb ra rb).mono ?_; rintro e w2 ⟨rfl, hb2⟩; exact hK.out _ _ (hC.step hb2) hb2 rfl
    · refine op_plain rfl ?_
      have d120 : a'.tmps[120]?.getD undef = .bool true := hd.out 41 120 (by kernel_rfl) rfl
      have d129 : a'.tmps[129]?.getD undef = .bool true := hd.out 50 129 (by kernel_rfl) rfl
      go_simp
      exact hK.out _ _ hC (Below.refl _ _) rfl
    · refine op_plain rfl ?_
      have d130 : a'.tmps[130]?.getD undef = .bool true := hd.out 51 130 (by kernel_rfl) rfl
      go_simp
      exact hK.out _ _ hC (Below.refl _ _) rfl
  · intro vs W hC hR
    have q0 : vs 0 = .int .i64 nn := hR.out 0 (by decide)
    have q1 : vs 1 = .int .i64 nn := hR.out 1 (by decide)
    have q2 : vs 2 = .bool true := hR.out 2 (by decide)
    have q3 : vs 3 = .bool true := hR.out 3 (by decide)
    have q4 : vs 4 = .bool nb := hR.out 4 (by decide)
    have q5 : vs 5 = .bool nb := hR.out 5 (by decide)
    have q6 : vs 6 = .bool true := hR.out 6 (by decide)
    have q7 : vs 7 = .bool true := hR.out 7 (by decide)
    have q8 : vs 8 = .bool true := hR.out 8 (by decide)
    have q9 : vs 9 = Pt t := hR.out 9 (by decide)
    have q10 : vs 10 = .int .i64 nl := hR.out 10 (by decide)
    have q11 : vs 11 = Pt u := hR.out 11 (by decide)
    have q12 : vs 12 = .int .i64 nl := hR.out 12 (by decide)
    have q13 : vs 13 = .bool true := hR.out 13 (by decide)
    have q14 : vs 14 = .bool true := hR.out 14 (by decide)
    have q15 : vs 15 = .bool true := hR.out 15 (by decide)
    have q16 : vs 16 = Pt t := hR.out 16 (by decide)
    have q17 : vs 17 = .pointer (some ⟨X, 5, none⟩) := hR.out 17 (by decide)
    have q18 : vs 18 = .string cx := hR.out 18 (by decide)
    generalize hq19 : vs 19 = q19
    have q20 : vs 20 = Pt u := hR.out 20 (by decide)
    have q21 : vs 21 = .pointer (some ⟨X, 5, none⟩) := hR.out 21 (by decide)
    have q22 : vs 22 = .string cx := hR.out 22 (by decide)
    generalize hq23 : vs 23 = q23
    have q24 : vs 24 = .bool true := hR.out 24 (by decide)
    have q25 : vs 25 = .bool true := hR.out 25 (by decide)
    have q26 : vs 26 = .bool true := hR.out 26 (by decide)
    have q27 : vs 27 = Pt t := hR.out 27 (by decide)
    have q28 : vs 28 = .pointer (some ⟨X, 0, none⟩) := hR.out 28 (by decide)
    have q29 : vs 29 = .int .i64 kx := hR.out 29 (by decide)
    have q30 : vs 30 = .pointer (some ⟨X, 1, none⟩) := hR.out 30 (by decide)
    have q31 : vs 31 = .agg #[.int .u64 hx, .int .u64 lx, .int .i64 nx] := hR.out 31 (by decide)
    generalize hq32 : vs 32 = q32
    have q33 : vs 33 = Pt u := hR.out 33 (by decide)
    have q34 : vs 34 = .pointer (some ⟨X, 0, none⟩) := hR.out 34 (by decide)
    have q35 : vs 35 = .int .i64 kx := hR.out 35 (by decide)
    have q36 : vs 36 = .pointer (some ⟨X, 1, none⟩) := hR.out 36 (by decide)
    have q37 : vs 37 = .agg #[.int .u64 hx, .int .u64 lx, .int .i64 nx] := hR.out 37 (by decide)
    generalize hq38 : vs 38 = q38
    have q39 : vs 39 = .bool true := hR.out 39 (by decide)
    have q40 : vs 40 = .bool true := hR.out 40 (by decide)
    have q41 : vs 41 = .bool true := hR.out 41 (by decide)
    have q42 : vs 42 = Pt t := hR.out 42 (by decide)
    have q43 : vs 43 = .pointer (some ⟨X, 7, none⟩) := hR.out 43 (by decide)
    have q44 : vs 44 = .int .i64 ux := hR.out 44 (by decide)
    generalize hq45 : vs 45 = q45
    have q46 : vs 46 = Pt u := hR.out 46 (by decide)
    have q47 : vs 47 = .pointer (some ⟨X, 7, none⟩) := hR.out 47 (by decide)
    have q48 : vs 48 = .int .i64 ux := hR.out 48 (by decide)
    generalize hq49 : vs 49 = q49
    have q50 : vs 50 = .bool true := hR.out 50 (by decide)
    have q51 : vs 51 = .bool true := hR.out 51 (by decide)
    have q52 : vs 52 = .bool true := hR.out 52 (by decide)
    simp only [fillF, Act.put, List.setIfInBounds_toArray, List.set_cons_zero, List.set_cons_succ, Nat.reduceAdd, q0, q1, q2, q3, q4, q5, q6, q7, q8, q9, q10, q11, q12, q13, q14, q15, q16, q17, q18, hq19, q20, q21, q22, hq23, q24, q25, q26, q27, q28, q29, q30, q31, hq32, q33, q34, q35, q36, q37, hq38, q39, q40, q41, q42, q43, q44, hq45, q46, q47, q48, hq49, q50, q51, q52]
    clear hR q0 q1 q2 q3 q4 q5 q6 q7 q8 q9 q10 q11 q12 q13 q14 q15 q16 q17 q18 hq19 q20 q21 q22 hq23 q24 q25 q26 q27 q28 q29 q30 q31 hq32 q33 q34 q35 q36 q37 hq38 q39 q40 q41 q42 q43 q44 hq45 q46 q47 q48 hq49 q50 q51 q52
    go_wp2
    go_ret
    exact ⟨rfl, hC.1⟩
end Go.Proofs.YtpldkgollhbolaaGreat
