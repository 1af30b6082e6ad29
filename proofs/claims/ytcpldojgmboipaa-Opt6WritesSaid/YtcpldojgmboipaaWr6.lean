/-
  The law Opt6Writes: identity associations are written as the document says. Condition: a row takes at most 2^47 bytes.
-/
import Derived.Test.YtcpldojgmboipaaSrP
import Derived.Test.YtcpldojgmboipaaSxA
namespace Go.Proofs.Ytcpldojgmboipaa
open Go.RowKit Go.Joins

abbrev cellsY (x : Opt) : Array Value := #[.int .u16 (x.1.toNat : Int), .string x.2]
/-- the memory of Opt6Writes: its argument and the two answers -/
def WRw (w : World) (a : IA) (v : Value) (b1 b2 : Nat) (z : Opt) (W : World) : Prop := Below w.heap.size w W ∧ Bx w.heap.size 37 (cellsA a v) W ∧ Bx b1 40 (cellsY z) W ∧ Bx b2 40 (cellsY z) W
theorem WRw.step {w : World} {a : IA} {v : Value} {b1 b2 : Nat} {z : Opt} {W W2 : World} (h : WRw w a v b1 b2 z W) (hb : Below W.heap.size W W2) : WRw w a v b1 b2 z W2 := ⟨chain h.1 hb, h.2.1.step hb, h.2.2.1.step hb, h.2.2.2.step hb⟩
set_option maxRecDepth 100000 in
set_option maxHeartbeats 4000000 in
theorem writes_any (a : IA) (hf : FitA a) {v : Value} (hl : a.has.length * 40 ≤ 140737488355328) (w : World) (hv : LstI v a.has w) :
    Calls Try.prog 4 #[AV a v] w (Gives (.bool true) w) := by
  have H0 := hide (show RSw w a v _ from ⟨below_alloc w (.cells (cellsA a v) 37), bx_new w 37 (cellsA a v)⟩)
  have AW := hide (fun W => awake_any W)
  have PA := hide (fun W (hb : Below w.heap.size w W) => putIA_any a hf hl W (hv.step hb))
  have PB := hide (fun W (hb : Below w.heap.size w W) => rputIA_any a hf hl W (hv.step hb))
  have SA := hide (fun W (hb : Below w.heap.size w W) => asound_any a hf hl W (hv.step hb))
  have SB := hide (fun W (hb : Below w.heap.size w W) => rasound_any a hf hl W (hv.step hb))
  obtain ⟨p, c, rfl⟩ := lstI_len hv
  generalize puO a = z at *
  generalize puE a = pe at *
  generalize soundA a = so at *
  clear hv hf
  go_enter Try.func4, Try.ntmps4
  go_wp2_with fail
  refine (AW.out _).mono ?_
  rintro e w1 ⟨rfl, hb1⟩
  have H1 := hide (H0.out.step hb1)
  clear hb1 H0 AW
  obtain ⟨y0, y1, y2, y3, y4, y5⟩ := ia_cells H1.out.2
  go_wp2_with fail
  refine (PA.out _ H1.out.1).mono ?_
  rintro e w2 ⟨rfl, hb2⟩
  have H2 := hide (H1.out.step hb2)
  clear hb2 H1 PA y0 y1 y2 y3 y4 y5
  have H3 := hide (H2.out.step (below_alloc w2 (.cells (cellsY z) 40)))
  have X3 := hide (bx_new w2 40 (cellsY z))
  go_upto_region 4 with fail
  generalize w2.alloc (.cells (cellsY z) 40) = w3 at *
  obtain ⟨y0, y1, y2, y3, y4, y5⟩ := ia_cells H3.out.2
  clear H2
  go_wp2_with fail
  refine (PB.out _ H3.out.1).mono ?_
  rintro e w4 ⟨rfl, hb4⟩
  have H4 := hide (show WRw w a (.slice p a.has.length c) w2.heap.size w4.heap.size z (w4.alloc (.cells (cellsY z) 40)) from (have B := below_alloc w4 (.cells (cellsY z) 40); ⟨chain H3.out.1 (chain hb4 B), (H3.out.2.step hb4).step B, (X3.out.step hb4).step B, bx_new _ _ _⟩))
  clear hb4 H3 X3 PB y0 y1 y2 y3 y4 y5
  go_upto_region 5 with fail
  generalize w4.alloc (.cells (cellsY z) 40) = w5 at *
  generalize w2.heap.size = b1 at *
  generalize w4.heap.size = b2 at *
  go_wp2_with fail
  refine wp_region_rel (WRw w a (.slice p a.has.length c) b1 b2 z) [some 19, some 20, some 21, some 22, some 23, some 24, some 25, some 26, some 27, some 28, some 29, some 30, some 31, some 32, some 33, some 2] [fun yy _ => yy = OV z, fun yy _ => yy = OV z, fun yy _ => yy = .bool true, fun yy _ => yy = .bool true, fun yy _ => yy = .int .i64 pe, fun yy _ => yy = .int .i64 pe, fun yy _ => yy = .bool true, fun yy _ => yy = .bool true, fun yy _ => yy = .bool true, fun yy _ => yy = AV a (.slice p a.has.length c), fun yy _ => yy = .bool so, fun yy _ => yy = AV a (.slice p a.has.length c), fun yy _ => yy = .bool so, fun yy _ => yy = .bool true, fun yy _ => yy = .bool true, fun yy _ => yy = .bool true] 34 (by kernel_rfl) (by kernel_rfl) rfl rfl (H4.out.step (Below.refl _ _).drew) ?_ ?_
  · refine ⟨⟨fun _ _ _ h _ => h, fun a' W K hD hC hd hf hK => ?_⟩, ⟨fun _ _ _ h _ => h, fun a' W K hD hC hd hf hK => ?_⟩, ⟨fun _ _ _ h _ => h, fun a' W K hD hC hd hf hK => ?_⟩, ⟨fun _ _ _ h _ => h, fun a' W K hD hC hd hf hK => ?_⟩, ⟨fun _ _ _ h _ => h, fun a' W K hD hC hd hf hK => ?_⟩, ⟨fun _ _ _ h _ => h, fun a' W K hD hC hd hf hK => ?_⟩, ⟨fun _ _ _ h _ => h, fun a' W K hD hC hd hf hK => ?_⟩, ⟨fun _ _ _ h _ => h, fun a' W K hD hC hd hf hK => ?_⟩, ⟨fun _ _ _ h _ => h, fun a' W K hD hC hd hf hK => ?_⟩, ⟨fun _ _ _ h _ => h, fun a' W K hD hC hd hf hK => ?_⟩, ⟨fun _ _ _ h _ => h, fun a' W K hD hC hd hf hK => ?_⟩, ⟨fun _ _ _ h _ => h, fun a' W K hD hC hd hf hK => ?_⟩, ⟨fun _ _ _ h _ => h, fun a' W K hD hC hd hf hK => ?_⟩, ⟨fun _ _ _ h _ => h, fun a' W K hD hC hd hf hK => ?_⟩, ⟨fun _ _ _ h _ => h, fun a' W K hD hC hd hf hK => ?_⟩, ⟨fun _ _ _ h _ => h, fun a' W K hD hC hd hf hK => ?_⟩, trivial⟩
    · refine op_plain rfl ?_
      have f3 : a'.tmps[3]?.getD undef = .pointer (some ⟨b1, 0, none⟩) := (hf.out 3 (by kernel_rfl)).trans (by simp)
      obtain ⟨_, hI, hX, hY⟩ := id hC
      obtain ⟨y0, y1, y2, y3, y4, y5⟩ := ia_cells hI
      have z0 : W.cell? ⟨b1, 0, none⟩ = some (.int .u16 (z.1.toNat : Int)) := hX.cell 0
      have z1 : W.cell? ⟨b1, 1, none⟩ = some (.string z.2) := hX.cell 1
      have t0 : W.cell? ⟨b2, 0, none⟩ = some (.int .u16 (z.1.toNat : Int)) := hY.cell 0
      have t1 : W.cell? ⟨b2, 1, none⟩ = some (.string z.2) := hY.cell 1
      go_simp
      exact hK.out _ _ hC (Below.refl _ _) rfl
    · refine op_plain rfl ?_
      have f5 : a'.tmps[5]?.getD undef = .pointer (some ⟨b2, 0, none⟩) := (hf.out 5 (by kernel_rfl)).trans (by simp)
      obtain ⟨_, hI, hX, hY⟩ := id hC
      obtain ⟨y0, y1, y2, y3, y4, y5⟩ := ia_cells hI
      have z0 : W.cell? ⟨b1, 0, none⟩ = some (.int .u16 (z.1.toNat : Int)) := hX.cell 0
      have z1 : W.cell? ⟨b1, 1, none⟩ = some (.string z.2) := hX.cell 1
      have t0 : W.cell? ⟨b2, 0, none⟩ = some (.int .u16 (z.1.toNat : Int)) := hY.cell 0
      have t1 : W.cell? ⟨b2, 1, none⟩ = some (.string z.2) := hY.cell 1
      go_simp
      exact hK.out _ _ hC (Below.refl _ _) rfl
    · refine op_plain rfl ?_
      have d19 : a'.tmps[19]?.getD undef = OV z := hd.out 0 19 (by kernel_rfl) rfl
      have d20 : a'.tmps[20]?.getD undef = OV z := hd.out 1 20 (by kernel_rfl) rfl
      go_simp
      exact hK.out _ _ hC (Below.refl _ _) rfl
    · refine op_plain rfl ?_
      have d21 : a'.tmps[21]?.getD undef = .bool true := hd.out 2 21 (by kernel_rfl) rfl
      go_simp
      exact hK.out _ _ hC (Below.refl _ _) rfl
    · have gd : a'.tmps[22]?.getD undef = .bool true := hd.out 3 22 (by kernel_rfl) rfl
      refine op_yes rfl (by kernel_rfl) gd ?_
      clear gd
      have f4 : a'.tmps[4]?.getD undef = .int .i64 pe := (hf.out 4 (by kernel_rfl)).trans (by simp)
      go_simp
      exact hK.out _ _ hC (Below.refl _ _) rfl
    · have gd : a'.tmps[22]?.getD undef = .bool true := hd.out 3 22 (by kernel_rfl) rfl
      refine op_yes rfl (by kernel_rfl) gd ?_
      clear gd
      have f6 : a'.tmps[6]?.getD undef = .int .i64 pe := (hf.out 6 (by kernel_rfl)).trans (by simp)
      go_simp
      exact hK.out _ _ hC (Below.refl _ _) rfl
    · have gd : a'.tmps[22]?.getD undef = .bool true := hd.out 3 22 (by kernel_rfl) rfl
      refine op_yes rfl (by kernel_rfl) gd ?_
      clear gd
      have d23 : a'.tmps[23]?.getD undef = .int .i64 pe := hd.out 4 23 (by kernel_rfl) rfl
      have d24 : a'.tmps[24]?.getD undef = .int .i64 pe := hd.out 5 24 (by kernel_rfl) rfl
      go_simp
      exact hK.out _ _ hC (Below.refl _ _) rfl
    · refine op_plain rfl ?_
      have d22 : a'.tmps[22]?.getD undef = .bool true := hd.out 3 22 (by kernel_rfl) rfl
      have d25 : a'.tmps[25]?.getD undef = .bool true := hd.out 6 25 (by kernel_rfl) rfl
      go_simp
      exact hK.out _ _ hC (Below.refl _ _) rfl
    · refine op_plain rfl ?_
      have d26 : a'.tmps[26]?.getD undef = .bool true := hd.out 7 26 (by kernel_rfl) rfl
      go_simp
      exact hK.out _ _ hC (Below.refl _ _) rfl
    · have gd : a'.tmps[27]?.getD undef = .bool true := hd.out 8 27 (by kernel_rfl) rfl
      refine op_yes rfl (by kernel_rfl) gd ?_
      clear gd
      have f1 : a'.tmps[1]?.getD undef = .pointer (some ⟨w.heap.size, 0, none⟩) := (hf.out 1 (by kernel_rfl)).trans (by simp)
      obtain ⟨_, hI, hX, hY⟩ := id hC
      obtain ⟨y0, y1, y2, y3, y4, y5⟩ := ia_cells hI
      have z0 : W.cell? ⟨b1, 0, none⟩ = some (.int .u16 (z.1.toNat : Int)) := hX.cell 0
      have z1 : W.cell? ⟨b1, 1, none⟩ = some (.string z.2) := hX.cell 1
      have t0 : W.cell? ⟨b2, 0, none⟩ = some (.int .u16 (z.1.toNat : Int)) := hY.cell 0
      have t1 : W.cell? ⟨b2, 1, none⟩ = some (.string z.2) := hY.cell 1
      go_simp
      exact hK.out _ _ hC (Below.refl _ _) rfl
    · have gd : a'.tmps[27]?.getD undef = .bool true := hd.out 8 27 (by kernel_rfl) rfl
      refine op_yes rfl (by kernel_rfl) gd ?_
      clear gd
      have d28 : a'.tmps[28]?.getD undef = AV a (.slice p a.has.length c) := hd.out 9 28 (by kernel_rfl) rfl
      go_simp
      go_at_call 21
      refine (SA.out W hC.1).mono ?_
      rintro e w6 ⟨rfl, hb6⟩
      exact hK.out _ _ (hC.step hb6) hb6 rfl
    · have gd : a'.tmps[27]?.getD undef = .bool true := hd.out 8 27 (by kernel_rfl) rfl
      refine op_yes rfl (by kernel_rfl) gd ?_
      clear gd
      have f1 : a'.tmps[1]?.getD undef = .pointer (some ⟨w.heap.size, 0, none⟩) := (hf.out 1 (by kernel_rfl)).trans (by simp)
      obtain ⟨_, hI, hX, hY⟩ := id hC
      obtain ⟨y0, y1, y2, y3, y4, y5⟩ := ia_cells hI
      have z0 : W.cell? ⟨b1, 0, none⟩ = some (.int .u16 (z.1.toNat : Int)) := hX.cell 0
      have z1 : W.cell? ⟨b1, 1, none⟩ = some (.string z.2) := hX.cell 1
      have t0 : W.cell? ⟨b2, 0, none⟩ = some (.int .u16 (z.1.toNat : Int)) := hY.cell 0
      have t1 : W.cell? ⟨b2, 1, none⟩ = some (.string z.2) := hY.cell 1
      go_simp
      exact hK.out _ _ hC (Below.refl _ _) rfl
    · have gd : a'.tmps[27]?.getD undef = .bool true := hd.out 8 27 (by kernel_rfl) rfl
      refine op_yes rfl (by kernel_rfl) gd ?_
      clear gd
      have d30 : a'.tmps[30]?.getD undef = AV a (.slice p a.has.length c) := hd.out 11 30 (by kernel_rfl) rfl
      go_simp
      go_at_call 22
      refine (SB.out W hC.1).mono ?_
      rintro e w6 ⟨rfl, hb6⟩
      exact hK.out _ _ (hC.step hb6) hb6 rfl
    · have gd : a'.tmps[27]?.getD undef = .bool true := hd.out 8 27 (by kernel_rfl) rfl
      refine op_yes rfl (by kernel_rfl) gd ?_
      clear gd
      have d29 : a'.tmps[29]?.getD undef = .bool so := hd.out 10 29 (by kernel_rfl) rfl
      have d31 : a'.tmps[31]?.getD undef = .bool so := hd.out 12 31 (by kernel_rfl) rfl
      go_simp
      exact hK.out _ _ hC (Below.refl _ _) rfl
    · refine op_plain rfl ?_
      have d27 : a'.tmps[27]?.getD undef = .bool true := hd.out 8 27 (by kernel_rfl) rfl
      have d32 : a'.tmps[32]?.getD undef = .bool true := hd.out 13 32 (by kernel_rfl) rfl
      go_simp
      exact hK.out _ _ hC (Below.refl _ _) rfl
    · refine op_plain rfl ?_
      have d33 : a'.tmps[33]?.getD undef = .bool true := hd.out 14 33 (by kernel_rfl) rfl
      go_simp
      exact hK.out _ _ hC (Below.refl _ _) rfl
  · intro us W6 hC hR
    have q0 : us 0 = OV z := hR.out 0 (by decide)
    have q1 : us 1 = OV z := hR.out 1 (by decide)
    have q2 : us 2 = .bool true := hR.out 2 (by decide)
    have q3 : us 3 = .bool true := hR.out 3 (by decide)
    have q4 : us 4 = .int .i64 pe := hR.out 4 (by decide)
    have q5 : us 5 = .int .i64 pe := hR.out 5 (by decide)
    have q6 : us 6 = .bool true := hR.out 6 (by decide)
    have q7 : us 7 = .bool true := hR.out 7 (by decide)
    have q8 : us 8 = .bool true := hR.out 8 (by decide)
    have q9 : us 9 = AV a (.slice p a.has.length c) := hR.out 9 (by decide)
    have q10 : us 10 = .bool so := hR.out 10 (by decide)
    have q11 : us 11 = AV a (.slice p a.has.length c) := hR.out 11 (by decide)
    have q12 : us 12 = .bool so := hR.out 12 (by decide)
    have q13 : us 13 = .bool true := hR.out 13 (by decide)
    have q14 : us 14 = .bool true := hR.out 14 (by decide)
    have q15 : us 15 = .bool true := hR.out 15 (by decide)
    simp only [fillF, Act.put, List.setIfInBounds_toArray, List.set_cons_zero, List.set_cons_succ, Nat.reduceAdd, q0, q1, q2, q3, q4, q5, q6, q7, q8, q9, q10, q11, q12, q13, q14, q15]
    clear hR q0 q1 q2 q3 q4 q5 q6 q7 q8 q9 q10 q11 q12 q13 q14 q15
    go_wp2
    go_ret
    exact ⟨rfl, hC.1⟩
end Go.Proofs.Ytcpldojgmboipaa
