/-
  The law Opt6Back: identity associations there and back. Conditions: a row takes at most 2^47 bytes; an address is one of 128 bits; a string is no longer than an int.
-/
import Derived.Test.YtcpldojgmboipaaSxC
import Derived.Deep.DeepCutAuto
namespace Go.Proofs.Ytcpldojgmboipaa
open Go.RowKit Go.Joins

/-- the memory of Opt6Back: its two arguments -/
structure HBw (w : World) (a : IA) (v : Value) (o : Opt) (W : World) : Prop where
  below : Below w.heap.size w W
  ia : Bx w.heap.size 37 (cellsA a v) W
  op : Bx (w.heap.size + 1) 40 #[.int .u16 (o.1.toNat : Int), .string o.2] W
theorem HBw.step {w : World} {a : IA} {v : Value} {o : Opt} {W W2 : World} (h : HBw w a v o W) (hb : Below W.heap.size W W2) : HBw w a v o W2 := ⟨chain h.below hb, h.ia.step hb, h.op.step hb⟩
theorem hb_new (w : World) (a : IA) (v : Value) (o : Opt) : HBw w a v o ((w.alloc (.cells (cellsA a v) 37)).alloc (.cells #[.int .u16 (o.1.toNat : Int), .string o.2] 40)) := by
  have B := below_alloc w (.cells (cellsA a v) 37)
  have B2 := below_alloc (w.alloc (.cells (cellsA a v) 37)) (.cells #[.int .u16 (o.1.toNat : Int), .string o.2] 40)
  refine ⟨chain B B2, (bx_new w _ _).step B2, ?_⟩
  have := bx_new (w.alloc (.cells (cellsA a v) 37)) 40 #[.int .u16 (o.1.toNat : Int), .string o.2]
  simpa using this
abbrev cellsZ (x : Opt) : Array Value := #[.int .u16 (x.1.toNat : Int), .string x.2]
set_option maxRecDepth 100000 in
set_option maxHeartbeats 16000000 in
theorem back_any (a : IA) (hf : FitA a) {v : Value} (hl : a.has.length * 40 ≤ 140737488355328) (o : Opt) (hs : o.2.size ≤ maxLen) (w : World) (hv : LstI v a.has w) :
    Calls Try.prog 6 #[AV a v, OV o] w (Gives (.bool true) w) := by
  have H0 := hide (hb_new w a v o)
  have HV := hide (fun W (H : Below w.heap.size w W) => hv.step H)
  have AW := hide (fun W => awake_any W)
  have HF := hide hf
  have HS := hide hs
  obtain ⟨pv, cv, rfl⟩ := lstI_len hv
  clear hv hf hs
  go_enter Try.func6, Try.ntmps6
  go_wp2_with fail
  refine (AW.out _).mono ?_
  rintro e w1 ⟨rfl, hb1⟩
  have H1 := hide (H0.out.step hb1)
  obtain ⟨x0, x1, x2, x3, x4, x5⟩ := ia_cells H1.out.ia
  clear hb1 H0 AW
  go_wp2_with fail
  refine (putIA_any a HF.out hl _ (HV.out _ H1.out.below)).mono ?_
  rintro e w2 ⟨rfl, hb2⟩
  have H2 := hide (H1.out.step hb2)
  have H3 := hide (H2.out.step (below_alloc w2 (.cells (cellsZ (puO a)) 40)))
  have X3 := hide (bx_new w2 40 (cellsZ (puO a)))
  clear hb2 H1 H2 x0 x1 x2 x3 x4 x5
  go_upto_if 21 with fail
  generalize w2.alloc (.cells (cellsZ (puO a)) 40) = w3 at *
  go_cut [] (fun wx => HBw w a (.slice pv a.has.length cv) o wx)
  case first =>
    obtain ⟨x0, x1, x2, x3, x4, x5⟩ := ia_cells H3.out.ia
    have y0 := X3.out.cell 0
    have y1 := X3.out.cell 1
    cases hso : soundA a with
    | true =>
      have e : puE a = 0 ∧ puO a = putA a := by unfold puE puO; rw [hso]; exact ⟨rfl, rfl⟩
      have q : (puE a == 0) = true := by rw [e.1]; rfl
      have GI := hide (fun W => getIA_ok (o := puO a) (a := a) (by rw [e.2]; exact readA_put HF.out hso) (by rw [e.2]; have := putA_size hso; unfold maxLen; omega) W)
      clear e hso
      generalize puO a = z at *
      generalize puE a = pe at *
      simp at y0 y1
      go_wp2_with fail
      refine (GI.out _).mono ?_
      rintro e w4 ⟨p4, c4, rfl, L4, hb4⟩
      have H4 := hide (H3.out.step hb4)
      have H5 := hide (H4.out.step (below_alloc w4 (.cells (cellsA a (.slice p4 a.has.length c4)) 37)))
      have X5 := hide (bx_new w4 37 (cellsA a (.slice p4 a.has.length c4)))
      have L5 := hide (L4.step (below_alloc w4 (.cells (cellsA a (.slice p4 a.has.length c4)) 37)))
      obtain ⟨x0, x1, x2, x3, x4, x5⟩ := ia_cells H5.out.ia
      obtain ⟨z0, z1, z2, z3, z4, z5⟩ := ia_cells X5.out
      clear hb4 L4 H3 H4 X3 y0 y1
      go_wp2_with fail
      generalize w4.alloc (.cells (cellsA a (.slice p4 a.has.length c4)) 37) = w5 at *
      refine (ias_yes a hl _ (HV.out _ H5.out.below) L5.out).mono ?_
      rintro e w6 ⟨rfl, hb6⟩
      have H6 := hide (H5.out.step hb6)
      clear hb6 H5 X5 L5 x0 x1 x2 x3 x4 x5 z0 z1 z2 z3 z4 z5
      go_wp2
      go_meet
      exact H6.out
    | false =>
      have e : puE a = 130 ∧ puO a = (0, ⟨#[]⟩) := by unfold puE puO; rw [hso]; exact ⟨rfl, rfl⟩
      have q : (puE a == 0) = false := by rw [e.1]; rfl
      have q2 : (puE a != 130) = false := by rw [e.1]; rfl
      have NZ : ∀ W : World, (binOp BinOp.neq 40 (OV (puO a)) (.agg #[.int .u16 0, .string ⟨#[]⟩])).run Try.prog W = .ok (.bool false) W := fun W => by rw [e.2]; kernel_rfl
      have SO := hide (fun W (hv : LstI (.slice pv a.has.length cv) a.has W) => asound_any a HF.out hl W hv)
      rw [hso] at SO
      clear e hso
      generalize puO a = z at *
      generalize puE a = pe at *
      go_wp2_with fail
      refine (SO.out _ (HV.out _ H3.out.below)).mono ?_
      rintro e w4 ⟨rfl, hb4⟩
      have H4 := hide (H3.out.step hb4)
      have X4 := X3.out.step hb4
      have y0 := X4.cell 0
      have y1 := X4.cell 1
      simp at y0 y1
      clear hb4 H3 X3 X4 x0 x1 x2 x3 x4 x5
      go_wp2
      go_meet
      exact H4.out
  case rest =>
    have HC := hide hcut
    clear hcut H3 X3 hl HV HF
    have y0 := HC.out.op.cell 0
    have y1 := HC.out.op.cell 1
    simp at y0 y1
    generalize puE a = pe at *
    cases hr : readA o with
    | error y =>
      have GB := hide (fun W => getIA_bad hr HS.out W)
      have hy : ¬ y = 0 := by rcases readA_err hr with e | e | e <;> omega
      have q : (y != 0) = true := by simpa using hy
      have IZ := hide (fun (p : Option Go.Addr) (c : Nat) (W : World) (h : LstI (.slice p 0 c) [] W) => (show Calls Try.prog 25 #[.agg #[.int .i64 0, .int .u32 0, .int .u32 0, .int .u32 0, .slice p 0 c, .int .i64 0], .agg #[.int .i64 0, .int .u32 0, .int .u32 0, .int .u32 0, .slice none 0 0, .int .i64 0]] W (Gives (.bool true) W) from ias_yes zeroIA (by decide) W h (Or.inl ⟨none, 0, rfl, rfl, fun _ => rfl, by omega⟩)))
      clear hr hy HS
      go_wp2_with fail
      refine (GB.out _).mono ?_
      rintro e w4 ⟨p4, c4, rfl, L4, hb4⟩
      have D5 := hide (chain (chain HC.out.below hb4) (below_alloc w4 (.cells #[.int .i64 0, .int .u32 0, .int .u32 0, .int .u32 0, .slice p4 0 c4, .int .i64 0] 37)))
      have X5 := bx_new w4 37 #[.int .i64 0, .int .u32 0, .int .u32 0, .int .u32 0, .slice p4 0 c4, .int .i64 0]
      have L5 := hide (L4.step (below_alloc w4 (.cells #[.int .i64 0, .int .u32 0, .int .u32 0, .int .u32 0, .slice p4 0 c4, .int .i64 0] 37)))
      clear hb4 L4 HC y0 y1
      go_wp2_with fail
      refine (IZ.out p4 c4 _ L5.out).mono ?_
      rintro e w6 ⟨rfl, hb6⟩
      go_wp2
      go_ret
      exact ⟨rfl, chain D5.out hb6⟩
    | ok b =>
      obtain ⟨fb, sb, zb⟩ := readA_ok hr
      have GI := hide (fun W => getIA_ok hr HS.out W)
      have hb8 : b.has.length * 40 ≤ 140737488355328 := by have := (soundA_iff.1 sb).2.1; omega
      have PU := hide (fun (p : Option Go.Addr) (c : Nat) (W : World) (h : LstI (.slice p b.has.length c) b.has W) => putIA_ok b fb sb W h)
      have SO := hide (fun (p : Option Go.Addr) (c : Nat) (W : World) (h : LstI (.slice p b.has.length c) b.has W) => asound_any b fb hb8 W h)
      rw [sb] at SO
      have GJ := hide (fun W => getIA_ok (readA_put fb sb) (by have := putA_size sb; unfold maxLen; omega) W)
      have qz : ((putA b).2.size : Int) ≤ (o.2.size : Int) := by omega
      generalize putA b = z at *
      clear hr fb sb zb HS
      go_wp2_with fail
      refine (GI.out _).mono ?_
      rintro e w4 ⟨p4, c4, rfl, L4, hb4⟩
      have H5 := hide ((HC.out.step hb4).step (below_alloc w4 (.cells (cellsA b (.slice p4 b.has.length c4)) 37)))
      have X5 := hide (bx_new w4 37 (cellsA b (.slice p4 b.has.length c4)))
      have L5 := hide (L4.step (below_alloc w4 (.cells (cellsA b (.slice p4 b.has.length c4)) 37)))
      clear hb4 L4 HC y0 y1 GI
      obtain ⟨z0, z1, z2, z3, z4, z5⟩ := ia_cells X5.out
      go_wp2_with fail
      generalize w4.alloc (.cells (cellsA b (.slice p4 b.has.length c4)) 37) = w5 at *
      refine (PU.out p4 c4 _ L5.out).mono ?_
      rintro e w6 ⟨rfl, hb6⟩
      have H7 := hide ((H5.out.step hb6).step (below_alloc w6 (.cells (cellsZ z) 40)))
      have X7 := hide ((X5.out.step hb6).step (below_alloc w6 (.cells (cellsZ z) 40)))
      have Z7 := hide (bx_new w6 40 (cellsZ z))
      have L7 := hide ((L5.out.step hb6).step (below_alloc w6 (.cells (cellsZ z) 40)))
      clear hb6 H5 X5 L5 PU z0 z1 z2 z3 z4 z5
      have y0 := Z7.out.cell 0
      have y1 := Z7.out.cell 1
      simp at y0 y1
      go_wp2_with fail
      generalize w6.alloc (.cells (cellsZ z) 40) = w7 at *
      refine (GJ.out _).mono ?_
      rintro e w8 ⟨p8, c8, rfl, L8, hb8⟩
      have BA := below_alloc w8 (.cells (cellsA b (.slice p8 b.has.length c8)) 37)
      have H9 := hide ((H7.out.step hb8).step BA)
      have X9 := hide ((X7.out.step hb8).step BA)
      have Z9 := hide ((Z7.out.step hb8).step BA)
      have L9 := hide ((L7.out.step hb8).step BA)
      have M9 := hide (L8.step BA)
      have Y9 := hide (bx_new w8 37 (cellsA b (.slice p8 b.has.length c8)))
      clear hb8 BA L8 H7 X7 Z7 L7 y0 y1 GJ
      obtain ⟨z0, z1, z2, z3, z4, z5⟩ := ia_cells X9.out
      obtain ⟨t0, t1, t2, t3, t4, t5⟩ := ia_cells Y9.out
      go_wp2_with fail
      generalize w8.alloc (.cells (cellsA b (.slice p8 b.has.length c8)) 37) = w9 at *
      refine (ias_yes b (by assumption) _ L9.out M9.out).mono ?_
      rintro e wA ⟨rfl, hbA⟩
      have HA := hide (H9.out.step hbA)
      have XA := X9.out.step hbA
      have ZA := hide (Z9.out.step hbA)
      have LA := hide (L9.out.step hbA)
      clear hbA H9 X9 Z9 L9 M9 Y9 z0 z1 z2 z3 z4 z5 t0 t1 t2 t3 t4 t5
      obtain ⟨z0, z1, z2, z3, z4, z5⟩ := ia_cells XA
      go_wp2_with fail
      refine (SO.out p4 c4 _ LA.out).mono ?_
      rintro e wB ⟨rfl, hbB⟩
      have HB := hide (HA.out.step hbB)
      have y1 := (ZA.out.step hbB).cell 1
      have t1 := HB.out.op.cell 1
      simp at y1 t1
      clear hbB HA XA ZA LA z0 z1 z2 z3 z4 z5
      go_wp2
      go_ret
      exact ⟨rfl, HB.out.below⟩
end Go.Proofs.Ytcpldojgmboipaa
