/-
  Contract of GetPrefix: for every int as the family. Conditions: the library's variables hold what is laid; the text is shorter than 2^32 - 15 bytes.
-/
import Derived.Test.YtmapcllmiomelaaDoorTextW
import Derived.Deep.RegionHeld3
namespace Go.Proofs.YtmapcllmiomelaaDoor
open Go.RowKit Go.Joins

theorem g6V_fits (s : ByteArray) : Fits (g6V s) := by
  unfold g6V
  split
  · rename_i n h
    unfold get6 at h
    split at h
    · rename_i hd t h1 h2
      split at h
      · simp only [Option.some.injEq] at h
        subst h
        have := part_lt (g := fill8 hd t) (fill8_lt (row6_lt h1) (row6_lt h2)) 8
        unfold Fits six
        omega
      · cases h
    · cases h
  · exact fits_zero
theorem gV_fits (fam : Int) (s : ByteArray) : Fits (gV fam s) := by
  unfold gV
  split
  · have := g4V_lt s; unfold Fits; omega
  · split
    · exact g6V_fits s
    · exact fits_zero
/-- the two sides of the first slash -/
def slL (s : ByteArray) : ByteArray := ⟨(Lib.cut s.data.toList [47]).1.toArray⟩
def slR (s : ByteArray) : ByteArray := ⟨(Lib.cut s.data.toList [47]).2.1.toArray⟩
def slO (s : ByteArray) : Bool := (Lib.cut s.data.toList [47]).2.2
theorem sl_len (s : ByteArray) : (slL s).size ≤ s.size ∧ (slR s).size ≤ s.size := by
  have h : (Lib.cut s.data.toList [47]).1.length ≤ s.data.toList.length ∧ (Lib.cut s.data.toList [47]).2.1.length ≤ s.data.toList.length := by
    unfold Lib.cut
    split <;> simp <;> omega
  exact ⟨by show List.length _ ≤ _; exact h.1, by show List.length _ ≤ _; exact h.2⟩
theorem slash_any (s : ByteArray) (hs : Lim s.size) (w : World) (hv : VO w) :
    Calls Tryd.prog 28 #[.string s, .string ⟨#[47]⟩] w (Gives (.tuple #[.string (slL s), .string (slR s), .bool (slO s)]) w) := by
  obtain ⟨⟨m, h1⟩, _⟩ := id hv
  refine (Tryd.strings_Cut s ⟨#[47]⟩ m w (by unfold Lim at hs; omega) h1).mono ?_
  rintro e w' ⟨rfl, n, rfl⟩
  exact ⟨rfl, below_drewN _ _⟩
/-- the bits of a prefix that is read -/
def gpN (fam : Int) (s : ByteArray) : Int := numV (slR s).data.toList + outS fam
def gpO (fam : Int) (s : ByteArray) : Bool := gO fam (slL s) && (numO (slR s).data.toList && soundS (gV fam (slL s)) (gpN fam s))
/-- the prefix that a text is of, or the zero value -/
def gpV (fam : Int) (s : ByteArray) : Value := if gpO fam s then Pv (gV fam (slL s)) (gpN fam s) else Pv 0 0
theorem numV_bounds (l : List UInt8) : 0 ≤ numV l ∧ numV l ≤ 4611686018427387904 := by
  cases h : gnum l with
  | none => rw [(gnum_none h).1]; omega
  | some n => rw [(gnum_some h).1]; have := (gnum_eq h).1; omega
/-- a block of a prefix that is written -/
def Three (g p : Nat) (n : Int) (W : World) : Prop := g < W.heap.size ∧ (W.cell? ⟨g, 0, none⟩ = some (.int .u64 (hi p : Nat)) ∧ W.cell? ⟨g, 1, none⟩ = some (.int .u64 (lo p : Nat)) ∧ W.cell? ⟨g, 2, none⟩ = some (.int .i64 n)) ∧ W.frozen? ⟨g, 0, none⟩ = false ∧ W.frozen? ⟨g, 1, none⟩ = false ∧ W.frozen? ⟨g, 2, none⟩ = false
theorem Three.step {g p : Nat} {n : Int} {W w2 : World} (h : Three g p n W) (hb : Below W.heap.size W w2) : Three g p n w2 :=
  ⟨Nat.lt_of_lt_of_le h.1 hb.size, ⟨keep_cell hb h.2.1.1, keep_cell hb h.2.1.2.1, keep_cell hb h.2.1.2.2⟩, keep_free hb h.1 h.2.2.1, keep_free hb h.1 h.2.2.2.1, keep_free hb h.1 h.2.2.2.2⟩
theorem three_new (w : World) (p : Nat) (n : Int) (t : TypeId) : Three w.heap.size p n (w.alloc (.cells #[.int .u64 (hi p : Nat), .int .u64 (lo p : Nat), .int .i64 n] t)) := by
  refine ⟨by simp, ⟨?_, ?_, ?_⟩, ?_, ?_, ?_⟩ <;> simp [go_sem]
theorem three_zero (w : World) (t : TypeId) : Three w.heap.size 0 0 (w.alloc (.cells #[.int .u64 0, .int .u64 0, .int .i64 0] t)) := three_new w 0 0 t
theorem three_a {V w2 : World} {t : TypeId} (hb : Below (V.alloc (.cells #[.int .u64 0, .int .u64 0, .int .i64 0] t)).heap.size (V.alloc (.cells #[.int .u64 0, .int .u64 0, .int .i64 0] t)) w2) : Three V.heap.size 0 0 w2 := (three_zero V t).step hb
theorem three_b {V w2 : World} {t : TypeId} (hb : Below (V.alloc (.cells #[.int .u64 0, .int .u64 0, .int .i64 0] t)).drew.heap.size (V.alloc (.cells #[.int .u64 0, .int .u64 0, .int .i64 0] t)).drew w2) : Three V.heap.size 0 0 w2 := ((three_zero V t).step (below_drew _)).step hb
theorem both {T G : Prop} (h : T) (k : T → G) : G := k h
theorem Three.set {g p : Nat} {n : Int} {W : World} (h : Three g p n W) {q : Go.Addr} (hq : g ≠ q.block) (u : Value) : Three g p n (W.setCell q u) := by
  obtain ⟨l, ⟨a, b, c⟩, d, e, f⟩ := h
  have k : ∀ o, (W.setCell q u).cell? ⟨g, o, none⟩ = W.cell? ⟨g, o, none⟩ := fun o => World.cell?_of_block (w := W) (Below.heap_setCell W q u g hq)
  have m : ∀ o, (W.setCell q u).frozen? ⟨g, o, none⟩ = W.frozen? ⟨g, o, none⟩ := fun o => World.frozen?_of_block (w := W) (Below.heap_setCell W q u g hq)
  refine ⟨by simp; exact l, ⟨?_, ?_, ?_⟩, ?_, ?_, ?_⟩
  · rw [k]; exact a
  · rw [k]; exact b
  · rw [k]; exact c
  · rw [m]; exact d
  · rw [m]; exact e
  · rw [m]; exact f
theorem Three.put {g p : Nat} {n : Int} {W : World} (h : Three g p n W) (q : Nat) (m : Int) : Three g q m (((W.setCell ⟨g, 0, none⟩ (.int .u64 (hi q : Nat))).setCell ⟨g, 1, none⟩ (.int .u64 (lo q : Nat))).setCell ⟨g, 2, none⟩ (.int .i64 m)) := by
  obtain ⟨l, ⟨a, b, c⟩, d, e, f⟩ := h
  refine ⟨by simp; exact l, ⟨?_, ?_, ?_⟩, ?_, ?_, ?_⟩
  all_goals simp [go_sem, *]
/-- the blocks of GetPrefix -/
def HQ (w : World) (g a : Nat) (W : World) : Prop := Below w.heap.size w W ∧ w.heap.size < g ∧ Three w.heap.size 0 0 W ∧ Two g a W
theorem HQ.step {w : World} {g a : Nat} {W w2 : World} (h : HQ w g a W) (hb : Below W.heap.size W w2) : HQ w g a w2 := ⟨h.1.trans (hb.mono h.1.size), h.2.1, h.2.2.1.step hb, h.2.2.2.step hb⟩
theorem HQ.alloc {w : World} {g a : Nat} {W : World} (h : HQ w g a W) (o : Obj) : HQ w g a (W.alloc o) := h.step (below_alloc W o)
theorem HQ.drew {w : World} {g a : Nat} {W : World} (h : HQ w g a W) : HQ w g a W.drew := h.step (below_drew W)
theorem HQ.set {w : World} {g a : Nat} {W : World} (h : HQ w g a W) {q : Go.Addr} (hq : g < q.block) (u : Value) : HQ w g a (W.setCell q u) := by
  obtain ⟨x, b, c, d⟩ := h
  exact ⟨x.setCell (by omega) u, b, c.set (by omega) u, d.set (by omega) u⟩
theorem hq_lt {w : World} {g a : Nat} {W : World} (h : HQ w g a W) : g < W.heap.size := h.2.2.2.2.2.2.2
theorem hq_all {w : World} {g a : Nat} {W : World} (h : HQ w g a W) : HQ w g a W ∧ W.cell? ⟨g, 0, none⟩ = some (.int .u64 (hi a : Nat)) ∧ W.cell? ⟨g, 1, none⟩ = some (.int .u64 (lo a : Nat)) := ⟨h, h.2.2.2.1, h.2.2.2.2.1⟩

set_option maxRecDepth 100000 in
set_option maxHeartbeats 2000000 in
theorem getprefix_any (fam : Int) (s : ByteArray) (hs : Lim s.size) (w : World) (hv : VO w) :
    Calls Tryd.prog 14 #[.int .i64 fam, .string s] w (Gives (.tuple #[gpV fam s, .bool (gpO fam s)]) w) := by
  have hsl : Lim (slL s).size := Nat.le_trans (sl_len s).1 hs
  have hsr : Lim (slR s).size := Nat.le_trans (sl_len s).2 hs
  have C := hide (slash_any s hs)
  have G := hide (get_any fam (slL s) hsl)
  have M := hide (getnum_any (slR s) hsr)
  have O := hide (fun W => outside_any fam W)
  have o0 : 0 ≤ outS fam ∧ outS fam ≤ 96 := by unfold outS; split <;> omega
  have nb := numV_bounds (slR s).data.toList
  have S := hide (fun W => sound_any (gV_fits fam (slL s)) (gpN fam s) W)
  have B := hide (show gpN fam s = numV (slR s).data.toList + outS fam from rfl)
  have RO := hide (show gpO fam s = (gO fam (slL s) && (numO (slR s).data.toList && soundS (gV fam (slL s)) (gpN fam s))) from rfl)
  have RV := hide (show gpV fam s = if gpO fam s then Pv (gV fam (slL s)) (gpN fam s) else Pv 0 0 from rfl)
  clear hsl hsr
  generalize gpO fam s = go at *
  generalize gpV fam s = gv at *
  generalize hsd : soundS (gV fam (slL s)) (gpN fam s) = sd at *
  clear hsd
  generalize gpN fam s = b at *
  generalize outS fam = o at *
  generalize gV fam (slL s) = a at *
  generalize gO fam (slL s) = ao at *
  generalize numV (slR s).data.toList = nv at *
  generalize numO (slR s).data.toList = no at *
  go_enter Tryd.func14, Tryd.ntmps14
  go_wp2_with fail
  refine (C.out _ (VO.step (below_alloc w _) hv)).mono ?_
  rintro e w1 ⟨rfl, hb1⟩
  have HB1 := chain (below_alloc w _) hb1
  have T1 := (three_zero w 33).step hb1
  clear hb1
  go_wp2_with fail
  refine (G.out _ (VO.step HB1 hv)).mono ?_
  rintro e w2 ⟨rfl, hb2⟩
  have HB2 := chain HB1 hb2
  have T2 := T1.step hb2
  clear hb2 T1 HB1
  go_wp2_with fail
  have HB3 := chain HB2 (below_alloc w2 (.cells #[.int .u64 (hi a : Nat), .int .u64 (lo a : Nat)] 28))
  have T3 := T2.step (below_alloc w2 (.cells #[.int .u64 (hi a : Nat), .int .u64 (lo a : Nat)] 28))
  have Q3 := two_new w2 a 28
  have gle : w.heap.size < w2.heap.size := T2.1
  generalize w2.heap.size = g at Q3 gle ⊢
  refine (M.out _ (VO.step HB3 hv)).mono ?_
  rintro e w4 ⟨rfl, hb4⟩
  have HQ0 : HQ w g a w4 := ⟨chain HB3 hb4, gle, T3.step hb4, Q3.step hb4⟩
  clear hb4 T3 T2 Q3 HB3 HB2 gle C G M
  obtain ⟨_, e0, e1⟩ := hq_all HQ0
  have WR := hide (show IntKind.i64.wrap (nv + o) = b by rw [IntKind.wrap_i64, B.out]; omega)
  go_wp2_with fail
  go_region_held3 (fun W => HQ w g a W ∧ W.cell? ⟨g, 0, none⟩ = some (.int .u64 (hi a : Nat)) ∧ W.cell? ⟨g, 1, none⟩ = some (.int .u64 (lo a : Nat)))
    (first
      | (refine hq_all ?_; (with_reducible first | exact HQ0.drew | exact HQ0.drew.alloc _ | exact (HQ0.alloc _).drew))
      | (refine hq_all ?_; (refine HQ.step ?_ hb5; (with_reducible first | exact HQ0.drew | exact HQ0.drew.alloc _ | exact (HQ0.alloc _).drew)))
      | (refine hq_all (HQ.alloc ?_ _); (refine HQ.step ?_ hb5; (with_reducible first | exact HQ0.drew | exact HQ0.drew.alloc _ | exact (HQ0.alloc _).drew)))
      | (refine hq_all (HQ.set (HQ.set (HQ.set ?_ ?_ _) ?_ _) ?_ _); (refine HQ.step ?_ hb5; (first | exact HQ0.drew | exact HQ0.drew.alloc _ | exact (HQ0.alloc _).drew)); all_goals (have zz := hb5.size; (try simp at zz); have zy := hq_lt HQ0; dsimp only; omega)))
    (first | (go_at_call 34; refine (O.out _).mono ?_; rintro e w5 ⟨rfl, hb5⟩; (first | (refine both (three_b hb5) ?_; rintro ⟨q1, ⟨q2, q3, q4⟩, q5, q6, q7⟩) | (refine both (three_a hb5) ?_; rintro ⟨q1, ⟨q2, q3, q4⟩, q5, q6, q7⟩) | skip)))
  · have H6 := HQ.alloc (HQ.step (by with_reducible first | exact HQ0.drew | exact HQ0.drew.alloc _ | exact (HQ0.alloc _).drew) hb5) (.cells #[.int .u64 (hi a : Nat), .int .u64 (lo a : Nat), .int .i64 b] 33)
    have T6 := three_new w5 a b 33
    have PL := (HQ.step (by with_reducible first | exact HQ0.drew | exact HQ0.drew.alloc _ | exact (HQ0.alloc _).drew) hb5).2.2.1.1
    rw [WR.out]
    generalize w5.alloc (.cells #[.int .u64 (hi a : Nat), .int .u64 (lo a : Nat), .int .i64 b] 33) = V at H6 T6 ⊢
    generalize w5.heap.size = P at T6 PL ⊢
    clear hb5 HQ0 e0 e1
    have HB := H6.1
    have T1 := H6.2.2.1
    clear H6
    cases ao with
    | false =>
      have RO2 := hide (show go = false by rw [RO.out]; rfl)
      have RV2 := hide (show gv = Pv 0 0 by rw [RV.out, RO2.out]; rfl)
      obtain ⟨r0, ⟨r1, r2, r3⟩, r4, r5, r6⟩ := T1
      go_wp2
      refine bodyPost_ret (v := .tuple #[gv, .bool go]) ?_ rfl ⟨rfl, ?_⟩
      · rw [RV2.out, RO2.out]
        simp [results, Tryd.results14, go_sem, hi_zero, lo_zero, r1, r2, r3]
      · repeat' (first | (with_reducible exact HB) | (with_reducible apply Below.drew) | (with_reducible apply Below.alloc) | (with_reducible apply Below.setCell))
        all_goals first | omega | (dsimp only; omega) | (simp; omega)
    | true =>
      cases no with
      | false =>
        have RO2 := hide (show go = false by rw [RO.out]; rfl)
        have RV2 := hide (show gv = Pv 0 0 by rw [RV.out, RO2.out]; rfl)
        obtain ⟨r0, ⟨r1, r2, r3⟩, r4, r5, r6⟩ := T1
        go_wp2
        refine bodyPost_ret (v := .tuple #[gv, .bool go]) ?_ rfl ⟨rfl, ?_⟩
        · rw [RV2.out, RO2.out]
          simp [results, Tryd.results14, go_sem, hi_zero, lo_zero, r1, r2, r3]
        · repeat' (first | (with_reducible exact HB) | (with_reducible apply Below.drew) | (with_reducible apply Below.alloc) | (with_reducible apply Below.setCell))
          all_goals first | omega | (dsimp only; omega) | (simp; omega)
      | true =>
        obtain ⟨_, ⟨t1, t2, t3⟩, _⟩ := id T6
        cases sd with
        | false =>
          have RO2 := hide (show go = false by rw [RO.out]; rfl)
          have RV2 := hide (show gv = Pv 0 0 by rw [RV.out, RO2.out]; rfl)
          go_wp2_with fail
          refine (S.out _).mono ?_
          rintro e w6 ⟨rfl, hb6⟩
          have HB6 := chain HB hb6
          have T16 := T1.step hb6
          have T66 := T6.step hb6
          clear hb6 HB T1 T6 t1 t2 t3
          obtain ⟨_, ⟨t1, t2, t3⟩, _⟩ := id T66
          obtain ⟨r0, ⟨r1, r2, r3⟩, r4, r5, r6⟩ := T16
          go_wp2
          refine bodyPost_ret (v := .tuple #[gv, .bool go]) ?_ rfl ⟨rfl, ?_⟩
          · rw [RV2.out, RO2.out]
            simp [results, Tryd.results14, go_sem, hi_zero, lo_zero, r1, r2, r3]
          · repeat' (first | (with_reducible exact HB6) | (with_reducible apply Below.drew) | (with_reducible apply Below.alloc) | (with_reducible apply Below.setCell))
            all_goals first | omega | (dsimp only; omega) | (simp; omega)
        | true =>
          have RO2 := hide (show go = true by rw [RO.out]; rfl)
          have RV2 := hide (show gv = Pv a b by rw [RV.out, RO2.out]; rfl)
          go_wp2_with fail
          refine (S.out _).mono ?_
          rintro e w6 ⟨rfl, hb6⟩
          have HB6 := chain HB hb6
          have T16 := T1.step hb6
          have T66 := T6.step hb6
          clear hb6 HB T1 T6 t1 t2 t3
          obtain ⟨_, ⟨t1, t2, t3⟩, _⟩ := id T66
          obtain ⟨r0, ⟨r1, r2, r3⟩, r4, r5, r6⟩ := T16
          go_wp2
          refine bodyPost_ret (v := .tuple #[gv, .bool go]) ?_ rfl ⟨rfl, ?_⟩
          · rw [RV2.out, RO2.out]
            simp [results, Tryd.results14, go_sem, hi_zero, lo_zero, r1, r2, r3]
          · repeat' (first | (with_reducible exact HB6) | (with_reducible apply Below.drew) | (with_reducible apply Below.alloc) | (with_reducible apply Below.setCell))
            all_goals first | omega | (dsimp only; omega) | (simp; omega)
  · have hlt := hq_lt HQ0
    have H5 := HQ.step (by with_reducible first | exact HQ0.drew | exact HQ0.drew.alloc _ | exact (HQ0.alloc _).drew) hb5
    have H6 := HQ.set (HQ.set (HQ.set H5 (q := ⟨w4.heap.size, 0, none⟩) (by dsimp only; omega) (.int .u64 (hi a : Nat))) (q := ⟨w4.heap.size, 1, none⟩) (by dsimp only; omega) (.int .u64 (lo a : Nat))) (q := ⟨w4.heap.size, 2, none⟩) (by dsimp only; omega) (.int .i64 b)
    have T6 := Three.put (p := 0) (n := 0) (W := w5) ⟨q1, ⟨q2, q3, q4⟩, q5, q6, q7⟩ a b
    have PL := HQ0.1.size
    rw [WR.out]
    generalize ((w5.setCell ⟨w4.heap.size, 0, none⟩ (.int .u64 (hi a : Nat))).setCell ⟨w4.heap.size, 1, none⟩ (.int .u64 (lo a : Nat))).setCell ⟨w4.heap.size, 2, none⟩ (.int .i64 b) = V at H6 T6 ⊢
    clear H5 hlt q1 q2 q3 q4 q5 q6 q7 hb5 e0 e1 HQ0
    generalize w4.heap.size = P at T6 PL ⊢
    have HB := H6.1
    have T1 := H6.2.2.1
    clear H6
    cases ao with
    | false =>
      have RO2 := hide (show go = false by rw [RO.out]; rfl)
      have RV2 := hide (show gv = Pv 0 0 by rw [RV.out, RO2.out]; rfl)
      obtain ⟨r0, ⟨r1, r2, r3⟩, r4, r5, r6⟩ := T1
      go_wp2
      refine bodyPost_ret (v := .tuple #[gv, .bool go]) ?_ rfl ⟨rfl, ?_⟩
      · rw [RV2.out, RO2.out]
        simp [results, Tryd.results14, go_sem, hi_zero, lo_zero, r1, r2, r3]
      · repeat' (first | (with_reducible exact HB) | (with_reducible apply Below.drew) | (with_reducible apply Below.alloc) | (with_reducible apply Below.setCell))
        all_goals first | omega | (dsimp only; omega) | (simp; omega)
    | true =>
      cases no with
      | false =>
        have RO2 := hide (show go = false by rw [RO.out]; rfl)
        have RV2 := hide (show gv = Pv 0 0 by rw [RV.out, RO2.out]; rfl)
        obtain ⟨r0, ⟨r1, r2, r3⟩, r4, r5, r6⟩ := T1
        go_wp2
        refine bodyPost_ret (v := .tuple #[gv, .bool go]) ?_ rfl ⟨rfl, ?_⟩
        · rw [RV2.out, RO2.out]
          simp [results, Tryd.results14, go_sem, hi_zero, lo_zero, r1, r2, r3]
        · repeat' (first | (with_reducible exact HB) | (with_reducible apply Below.drew) | (with_reducible apply Below.alloc) | (with_reducible apply Below.setCell))
          all_goals first | omega | (dsimp only; omega) | (simp; omega)
      | true =>
        obtain ⟨_, ⟨t1, t2, t3⟩, _⟩ := id T6
        cases sd with
        | false =>
          have RO2 := hide (show go = false by rw [RO.out]; rfl)
          have RV2 := hide (show gv = Pv 0 0 by rw [RV.out, RO2.out]; rfl)
          go_wp2_with fail
          refine (S.out _).mono ?_
          rintro e w6 ⟨rfl, hb6⟩
          have HB6 := chain HB hb6
          have T16 := T1.step hb6
          have T66 := T6.step hb6
          clear hb6 HB T1 T6 t1 t2 t3
          obtain ⟨_, ⟨t1, t2, t3⟩, _⟩ := id T66
          obtain ⟨r0, ⟨r1, r2, r3⟩, r4, r5, r6⟩ := T16
          go_wp2
          refine bodyPost_ret (v := .tuple #[gv, .bool go]) ?_ rfl ⟨rfl, ?_⟩
          · rw [RV2.out, RO2.out]
            simp [results, Tryd.results14, go_sem, hi_zero, lo_zero, r1, r2, r3]
          · repeat' (first | (with_reducible exact HB6) | (with_reducible apply Below.drew) | (with_reducible apply Below.alloc) | (with_reducible apply Below.setCell))
            all_goals first | omega | (dsimp only; omega) | (simp; omega)
        | true =>
          have RO2 := hide (show go = true by rw [RO.out]; rfl)
          have RV2 := hide (show gv = Pv a b by rw [RV.out, RO2.out]; rfl)
          go_wp2_with fail
          refine (S.out _).mono ?_
          rintro e w6 ⟨rfl, hb6⟩
          have HB6 := chain HB hb6
          have T16 := T1.step hb6
          have T66 := T6.step hb6
          clear hb6 HB T1 T6 t1 t2 t3
          obtain ⟨_, ⟨t1, t2, t3⟩, _⟩ := id T66
          obtain ⟨r0, ⟨r1, r2, r3⟩, r4, r5, r6⟩ := T16
          go_wp2
          refine bodyPost_ret (v := .tuple #[gv, .bool go]) ?_ rfl ⟨rfl, ?_⟩
          · rw [RV2.out, RO2.out]
            simp [results, Tryd.results14, go_sem, hi_zero, lo_zero, r1, r2, r3]
          · repeat' (first | (with_reducible exact HB6) | (with_reducible apply Below.drew) | (with_reducible apply Below.alloc) | (with_reducible apply Below.setCell))
            all_goals first | omega | (dsimp only; omega) | (simp; omega)
end Go.Proofs.YtmapcllmiomelaaDoor
