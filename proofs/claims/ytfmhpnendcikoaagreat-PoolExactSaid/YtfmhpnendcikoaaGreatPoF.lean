/-
  Contracts of pool's Free, Build and Pick. Conditions: the words are words of 64 bits; at most 600 ranges and addresses (Pick: 1000000 ranges).
-/
import Derived.Test.YtfmhpnendcikoaaGreatPoJ
namespace Go.Proofs.YtfmhpnendcikoaaGreat
open Go.RowKit Go.Joins

/-- a list of the call's own, and an error's number -/
def GivesE (r : List Rg × Int) (w : World) (e : Ending) (w' : World) : Prop := ∃ v, e = .returned (.tuple #[v, .int .i64 r.2]) ∧ Below w.heap.size w w' ∧ Own w' w.heap.size v r.1
theorem lst_of_own {W : World} {base : Nat} {v : Value} {l : List Rg} (h : Own W base v l) : Lst v l W := own_lst h
set_option maxRecDepth 100000 in
set_option maxHeartbeats 1000000 in
theorem free_any {vs vt : Value} {s : List Rg} {t : List Nat} (fs : FitL s) (ft : ∀ a ∈ t, Fits a) (hs : s.length ≤ 600) (ht : t.length ≤ 600) (w : World) (hv : Lst vs s w) (hu : LstA vt t w) :
    Calls Tryz.prog 8 #[vs, vt] w (GivesE (freeR s t) w) := by
  obtain ⟨j1, j2, j3, _⟩ := jn_spec (sg_ok t) (sg_fit ft)
  rw [sg_len] at j3
  have SG := hide (singles_any (by omega) w hu)
  have JO := hide (fun W b v (H : Own W b v (sgL t)) (hb : b ≤ W.heap.size) => join_any (sg_ok t) (sg_fit ft) (by rw [sg_len]; omega) W H hb)
  have LB := hide (fun (hb : soundL s = false) W u (H : Lst vs s W) (K : Lst u (jnL (sgL t)) W) => less_bad fs j2 hs (by omega) (Or.inl hb) W H K)
  have LG := hide (fun (hb : soundL s = true) W u (H : Lst vs s W) (K : Lst u (jnL (sgL t)) W) => less_any fs j2 hb (sound_snd.2 j1) hs (by omega) W H K)
  have HV := hide (fun W (H : Below w.heap.size w W) => hv.step H)
  have FR := hide (show freeR s t = if soundL s = true then (lessL s (jnL (sgL t)), 0) else ([], 1) from rfl)
  generalize jnL (sgL t) = J at *
  clear hu hv j1 j2 j3 ft
  go_enter Tryz.func8, Tryz.ntmps8
  go_wp2_with fail
  refine SG.out.mono ?_
  rintro e w1 ⟨v1, rfl, hb1, O1⟩
  have JO1 := hide (JO.out w1 _ v1 O1 hb1.size)
  clear O1 JO SG
  go_wp2_with fail
  refine JO1.out.mono ?_
  rintro e w2 ⟨v2, rfl, hb2, O2⟩
  have B2 := hb1.trans hb2
  have L2 := own_lst O2
  clear O2 hb2 JO1 hb1
  cases es : soundL s with
  | false =>
    have LB1 := hide (LB.out es w2 v2 (HV.out _ B2) L2)
    have F1 := hide (show freeR s t = ([], 1) by rw [FR.out, es]; rfl)
    clear LB LG FR es L2
    go_wp2_with fail
    refine LB1.out.mono ?_
    rintro e w3 ⟨rfl, hb3⟩
    go_wp2
    go_ret2
    rw [F1.out]
    exact ⟨_, rfl, chain B2 hb3, own_nil0 _ _⟩
  | true =>
    have LG1 := hide (LG.out es w2 v2 (HV.out _ B2) L2)
    have F1 := hide (show freeR s t = (lessL s J, 0) by rw [FR.out, es]; rfl)
    clear LB LG FR es L2
    go_wp2_with fail
    refine LG1.out.mono ?_
    rintro e w3 ⟨v3, rfl, hb3, O3⟩
    go_wp2
    go_ret2
    rw [F1.out]
    exact ⟨_, rfl, chain B2 hb3, own_base O3 B2.size⟩
set_option maxRecDepth 100000 in
set_option maxHeartbeats 1000000 in
theorem build_any {vp vt : Value} {p : List Rg} {t : List Nat} (fp : FitL p) (ft : ∀ a ∈ t, Fits a) (hp : p.length ≤ 600) (ht : t.length ≤ 600) (w : World) (hv : Lst vp p w) (hu : LstA vt t w) :
    Calls Tryz.prog 5 #[vp, vt] w (GivesE (buildR p t) w) := by
  have BA := hide (bads_any (by omega) w hv)
  have CL := hide (fun W (H : Below w.heap.size w W) => clone_any (v := vp) (l := p) (by omega) W (hv.step H))
  have JO := hide (fun (ok : ∀ x ∈ p, x.1 ≤ x.2) W b v (H : Own W b v p) (hb : b ≤ W.heap.size) => join_any ok fp (by omega) W H hb)
  have JF := hide (fun (ok : ∀ x ∈ p, x.1 ≤ x.2) => jn_spec ok fp)
  have HU := hide (fun W (H : Below w.heap.size w W) => hu.step H)
  have FT := hide ft
  clear hv hu ft fp
  go_enter Tryz.func5, Tryz.ntmps5
  cases eo : okL p with
  | false =>
    rw [eo] at BA
    have R := hide (show buildR p t = ([], 1) by unfold buildR; rw [eo]; rfl)
    clear eo CL JO JF HU FT
    go_wp2_with fail
    refine BA.out.mono ?_
    rintro e w1 ⟨rfl, hb1⟩
    go_wp2
    go_ret2
    rw [R.out]
    exact ⟨_, rfl, hb1, own_nil0 _ _⟩
  | true =>
    rw [eo] at BA
    have ok := okL_iff.1 eo
    obtain ⟨q1, q2, q3, _⟩ := JF.out ok
    have R := hide (show buildR p t = freeR (jnL p) t by unfold buildR freeR; rw [eo, sound_snd.2 q1])
    have FA := hide (fun W v (H : Lst v (jnL p) W) (K : LstA vt t W) => free_any q2 FT.out (by omega) ht W H K)
    have JO1 := hide (JO.out ok)
    clear JF JO FT q1 q2 q3 ok eo
    go_wp2_with fail
    refine BA.out.mono ?_
    rintro e w1 ⟨rfl, hb1⟩
    go_wp2_with fail
    refine (CL.out _ hb1).mono ?_
    rintro e w2 ⟨v2, rfl, hb2, O2⟩
    have B2 := chain hb1 hb2
    have JO2 := hide (JO1.out w2 _ v2 O2 hb2.size)
    have z1 := hb1.size
    clear BA CL O2 JO1 hb2
    go_wp2_with fail
    refine JO2.out.mono ?_
    rintro e w3 ⟨v3, rfl, hb3, O3⟩
    have B3 := B2.trans (hb3.mono z1)
    have FA1 := hide (FA.out w3 v3 (own_lst O3) (HU.out _ B3))
    clear JO2 FA O3 B2 hb3 z1 hb1
    go_wp2_with fail
    refine FA1.out.mono ?_
    rintro e w4 ⟨v4, rfl, hb4, O4⟩
    rw [← R.out] at O4
    rw [← R.out]
    go_wp2
    go_ret2
    exact ⟨_, rfl, chain B3 hb4, own_base O4 B3.size⟩
/-- Pick's boxes: the answer and the number -/
def HPk (w : World) (d : Nat) (W : World) : Prop := Below w.heap.size w W ∧ Two w.heap.size 0 W ∧ (w.heap.size + 1 < W.heap.size ∧ W.cell? ⟨w.heap.size + 1, 0, none⟩ = some (.int .u64 0) ∧ W.cell? ⟨w.heap.size + 1, 1, none⟩ = some (.int .u64 (d : Nat)) ∧ W.frozen? ⟨w.heap.size + 1, 0, none⟩ = false ∧ W.frozen? ⟨w.heap.size + 1, 1, none⟩ = false)
theorem HPk.step {w : World} {d : Nat} {W w2 : World} (h : HPk w d W) (hb : Below W.heap.size W w2) : HPk w d w2 :=
  ⟨chain h.1 hb, h.2.1.step hb, Nat.lt_of_lt_of_le h.2.2.1 hb.size, keep_cell hb h.2.2.2.1, keep_cell hb h.2.2.2.2.1, keep_free hb h.2.2.1 h.2.2.2.2.2.1, keep_free hb h.2.2.1 h.2.2.2.2.2.2⟩
theorem hpk_new (w : World) (d : Nat) (t u : TypeId) : HPk w d ((w.alloc (.cells #[.int .u64 0, .int .u64 0] t)).alloc (.cells #[.int .u64 0, .int .u64 (d : Nat)] u)) :=
  ⟨chain (below_alloc _ _) (below_alloc _ _), (two_zero w t).step (below_alloc _ _), by simp, by simp [go_sem], by simp [go_sem], by simp [go_sem], by simp [go_sem]⟩
theorem A_lo {d : Nat} (h : d < 18446744073709551616) : (Value.agg #[.int .u64 0, .int .u64 (d : Nat)]) = A d := by
  have h1 := hi_small h
  have h2 := lo_small h
  show _ = Value.agg #[.int .u64 (hi d : Nat), .int .u64 (lo d : Nat)]
  rw [h1, h2]
  rfl
set_option maxRecDepth 100000 in
set_option maxHeartbeats 1000000 in
theorem pick_any {v : Value} {l : List Rg} {d : Nat} (fl : FitL l) (fd : d < 18446744073709551616) (hl : l.length ≤ 1000000) (w : World) (hv : Lst v l w) :
    Calls Tryz.prog 10 #[v, .int .u64 (d : Nat)] w (Gives (.tuple #[A (nthV l (pickN l d)), .bool (nthO l (pickN l d))]) w) := by
  have fD : Fits d := by unfold Fits; omega
  have CO := hide (fun W (H : Below w.heap.size w W) => count_any fl hl W (hv.step H))
  have fc : Fits (cntV l) := by unfold cntV; split; exact fits_tot l 0 (by unfold Fits; omega); (unfold Fits; omega)
  have MO := hide (fun W => (show Calls Tryz.prog 27 #[.agg #[.int .u64 0, .int .u64 (d : Nat)], A (cntV l)] W (Gives (.tuple #[A (modS d (cntV l)), .bool (modO (cntV l))]) W) from A_lo fd ▸ mod_any fD fc W))
  have N1 := hide (fun W (H : Below w.heap.size w W) => nth_any (n := modS d (cntV l)) fl (fits_modS fc) hl W (hv.step H))
  have N2 := hide (fun W (H : Below w.heap.size w W) => (show Calls Tryz.prog 28 #[v, .agg #[.int .u64 0, .int .u64 (d : Nat)]] W (Gives (.tuple #[A (nthV l d), .bool (nthO l d)]) W) from A_lo fd ▸ nth_any (n := d) fl fD hl W (hv.step H)))
  have P := hide (show pickN l d = if cntO l = true then d else modS d (cntV l) by unfold pickN modS; rfl)
  generalize pickN l d = pn at *
  obtain ⟨p, c, rfl⟩ := lst_len hv
  clear hv fc fD
  generalize cntV l = cn at *
  have H0 : HPk w d ((w.alloc (.cells #[.int .u64 0, .int .u64 0] 31)).alloc (.cells #[.int .u64 0, .int .u64 (d : Nat)] 31)) := hpk_new w d _ _
  cases ec : cntO l with
  | true =>
    rw [ec] at CO
    have P1 := hide (show pn = d by rw [P.out, ec]; rfl)
    clear ec P MO N1
    go_enter Tryz.func10, Tryz.ntmps10
    go_wp2_with fail
    refine (CO.out _ H0.1).mono ?_
    rintro e w1 ⟨rfl, hb1⟩
    have H1 := (H0.step hb1).step (below_alloc w1 (.cells #[.int .u64 (hi cn : Nat), .int .u64 (lo cn : Nat)] 31))
    obtain ⟨_, _, _, t0, t1, _, _⟩ := id (H0.step hb1)
    have T1 := H0.step hb1
    clear H0 hb1 CO
    go_wp2_with fail
    refine (N2.out _ H1.1).mono ?_
    rintro e w2 ⟨rfl, hb2⟩
    have H2 := H1.step hb2
    clear H1 hb2 N2 T1 t0 t1
    obtain ⟨HB, ⟨z0, a0, a1, a2, a3⟩, _⟩ := id H2
    go_wp2
    generalize hy : nthV l d = y at *
    refine bodyPost_ret (v := .tuple #[A y, .bool (nthO l d)]) (by simp [results, Tryz.results10, go_sem, a0, a1]) rfl ⟨by rw [P1.out, hy], ?_⟩
    have hzB := HB.size
    repeat' (first | (with_reducible exact HB) | (with_reducible apply Below.drew) | (with_reducible apply Below.alloc) | (with_reducible apply Below.setCell))
    all_goals first | omega | (dsimp only; omega) | ((try simp); omega)
  | false =>
    rw [ec] at CO
    have P1 := hide (show pn = modS d cn by rw [P.out, ec]; rfl)
    clear ec P N2
    generalize modS d cn = m at *
    go_enter Tryz.func10, Tryz.ntmps10
    go_wp2_with fail
    refine (CO.out _ H0.1).mono ?_
    rintro e w1 ⟨rfl, hb1⟩
    have H1 := (H0.step hb1).step (below_alloc w1 (.cells #[.int .u64 (hi cn : Nat), .int .u64 (lo cn : Nat)] 31))
    have T7 := two_new w1 cn 31
    obtain ⟨_, _, x0, x1, x2, _, _⟩ := id H1
    obtain ⟨_, _, y0, y1, y2, _, _⟩ := id (H0.step hb1)
    clear H0 hb1 CO
    go_wp2_with fail
    clear x0 x1 x2 y0 y1 y2
    refine (MO.out _).mono ?_
    rintro e w2 ⟨rfl, hb2⟩
    have H2 := H1.step hb2
    clear H1 hb2 MO T7
    obtain ⟨HB2, r0, x0, x1, x2, f0, f1⟩ := id H2
    have B3 : Below w.heap.size w ((w2.setCell ⟨w.heap.size + 1, 0, none⟩ (.int .u64 (hi m : Nat))).setCell ⟨w.heap.size + 1, 1, none⟩ (.int .u64 (lo m : Nat))) := (HB2.setCell (by dsimp only; omega) _).setCell (by dsimp only; omega) _
    have T3 : Two w.heap.size 0 ((w2.setCell ⟨w.heap.size + 1, 0, none⟩ (.int .u64 (hi m : Nat))).setCell ⟨w.heap.size + 1, 1, none⟩ (.int .u64 (lo m : Nat))) := (r0.set (by dsimp only; omega) _).set (by dsimp only; omega) _
    go_wp2_with fail
    clear x0 x1 x2 f0 f1 r0 H2
    refine (N1.out _ B3).mono ?_
    rintro e w4 ⟨rfl, hb4⟩
    have T4 := T3.step hb4
    have HB := chain B3 hb4
    clear B3 T3 hb4 HB2 N1
    obtain ⟨z0, a0, a1, a2, a3⟩ := T4
    go_wp2
    generalize hy : nthV l m = y at *
    refine bodyPost_ret (v := .tuple #[A y, .bool (nthO l m)]) (by simp [results, Tryz.results10, go_sem, a0, a1]) rfl ⟨by rw [P1.out, hy], ?_⟩
    have hzB := HB.size
    repeat' (first | (with_reducible exact HB) | (with_reducible apply Below.drew) | (with_reducible apply Below.alloc) | (with_reducible apply Below.setCell))
    all_goals first | omega | (dsimp only; omega) | ((try simp); omega)
end Go.Proofs.YtfmhpnendcikoaaGreat
