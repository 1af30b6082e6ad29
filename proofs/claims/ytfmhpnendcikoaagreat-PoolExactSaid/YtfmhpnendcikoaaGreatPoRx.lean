/-
  The document's own answers of layer 12: tenancyref12's one, less, Build, Free, Pick. Conditions: the words are words of 64 bits; at most 100 ranges and addresses.
-/
import Derived.Test.YtfmhpnendcikoaaGreatSpanRp
import Derived.Test.YtfmhpnendcikoaaGreatRefM
import Derived.Test.YtfmhpnendcikoaaGreatPoW
namespace Go.Proofs.YtfmhpnendcikoaaGreat
open Go.RowKit Go.Joins

theorem one_any (a : Nat) (w : World) : Calls Tryz.prog 42 #[A a] w (Gives (RV (a, a)) w) := by
  go_enter Tryz.func42, Tryz.ntmps42
  go_wp2
  refine bodyPost_ret (v := RV (a, a)) (by simp [results, Tryz.results42, go_sem]) rfl ⟨rfl, ?_⟩
  exact chain (below_alloc _ _) (below_alloc _ _)
theorem free_next {s : List Rg} {t : List Nat} {k a : Nat} (hs : Snd s) (fs : FitL s) (ft : ∀ x ∈ t, Fits x) (h : t[k]? = some a) : lessL (freeS s (t.take k)) [(a, a)] = freeS s (t.take (k + 1)) := by
  have f1 : ∀ x ∈ t.take k, Fits x := fun x hx => ft x (List.mem_of_mem_take hx)
  have f2 : ∀ x ∈ t.take (k + 1), Fits x := fun x hx => ft x (List.mem_of_mem_take hx)
  obtain ⟨a1, a2, _, a4⟩ := free_spec hs fs f1
  obtain ⟨b1, _, _, b4⟩ := free_spec hs fs f2
  obtain ⟨c1, _, c3⟩ := less_spec a1 (snd_one (r := (a, a)) (Nat.le_refl a))
  refine snd_ext c1 b1 (fun x => ?_)
  have e : memL [(a, a)] x ↔ x = a := by
    rw [mem_one]
    unfold inR
    simp only
    first | done | omega
  rw [c3 x, a4 x, b4 x, e, List.take_add_one, h]
  simp only [Option.toList, List.mem_append, List.mem_singleton, not_or]
  constructor
  · rintro ⟨⟨h1, h2⟩, h3⟩; exact ⟨h1, h2, h3⟩
  · rintro ⟨h1, h2, h3⟩; exact ⟨⟨h1, h2⟩, h3⟩
theorem free_zero {s : List Rg} (hs : Snd s) (fs : FitL s) : freeS s [] = s := by
  obtain ⟨a, _, _, d⟩ := free_spec hs fs (t := []) (fun a h => by cases h)
  refine snd_ext a hs (fun x => ?_)
  rw [d x]
  simp
def LstGives (l : List Rg) (w : World) (e : Ending) (w' : World) : Prop := ∃ v, e = .returned v ∧ Below w.heap.size w w' ∧ Lst v l w'
set_option maxRecDepth 100000 in
set_option maxHeartbeats 2000000 in
theorem rlessA_any {vs vt : Value} {s : List Rg} {t : List Nat} (hs : Snd s) (fs : FitL s) (ft : ∀ x ∈ t, Fits x) (ls : s.length ≤ 200) (lt : t.length ≤ 200) (w : World) (hv : Lst vs s w) (hu : LstA vt t w) :
    Calls Tryz.prog 22 #[vs, vt] w (LstGives (freeS s t) w) := by
  have HU := hide (fun W (H : Below w.heap.size w W) => hu.step H)
  have FSp := hide (fun k => free_spec hs fs (t := t.take k) (fun x hx => ft x (List.mem_of_mem_take hx)))
  have FN := hide (fun k a (h : t[k]? = some a) => free_next hs fs ft h)
  have RD := hide (fun k a (fa : Fits a) W v (H : Lst v (freeS s (t.take k)) W) => (show Calls Tryz.prog 41 #[v, RV (a, a)] W (Acts (lessL (freeS s (t.take k)) [(a, a)]) 0 W) from by
    obtain ⟨c1, c2, c3, _⟩ := FSp.out k
    rw [List.length_take] at c3
    have h1 := rdrop_any (v := v) (l := freeS s (t.take k)) (r := (a, a)) c2 ⟨fa, fa⟩ (by omega) W H
    rw [sound_snd.2 c1, show okR (a, a) = true by unfold okR; simp] at h1
    exact h1))
  have S0 := hide (free_zero hs fs)
  have FT := hide ft
  have H0 : Lst vs (freeS s (t.take 0)) w := by rw [List.take_zero, S0.out]; exact hv
  obtain ⟨q, c, rfl⟩ := lstA_len hu
  clear hv hu ft S0
  go_enter Tryz.func22, Tryz.ntmps22
  go_wp2
  go_loopw [0, 5] (fun s0 i wr => ∃ k : Nat, k ≤ t.length ∧ i = .int .i64 (k : Nat) ∧ Below w.heap.size w wr ∧ Lst s0 (freeS s (t.take k)) wr) (fun _ i _ => t.length - (intOf i).toNat)
  case atStart => exact ⟨0, Nat.zero_le _, rfl, Below.refl _ _, H0⟩
  case round =>
    clear H0
    obtain ⟨k, hk, rfl, HB, HL⟩ := hrel
    by_cases hlt : k < t.length
    · obtain ⟨a, ha⟩ := getA_some hlt
      have fa := FT.out a (List.mem_of_getElem? ha)
      obtain ⟨b, o, e, _, x0, x1⟩ := lstA_at (HU.out _ HB) ha
      subst e
      have FE := hide (FN.out k a ha)
      have RD1 := hide (RD.out k a fa)
      clear ha RD FN fa
      go_wp2_with fail
      refine (one_any a _).mono ?_
      rintro e w2 ⟨rfl, hb2⟩
      have HB2 := chain HB hb2
      have HL2 := HL.step hb2
      clear hb2 HB HL x0 x1
      go_wp2_with fail
      refine (RD1.out _ _ HL2).mono ?_
      rintro e w3 ⟨v3, rfl, hb3, L3⟩
      rw [FE.out] at L3
      have HB3 := chain HB2 hb3
      clear HB2 HL2 hb3 RD1
      go_wp2
      go_roundw
      case rel => exact ⟨k + 1, hlt, by go_num, HB3, L3⟩
      case measure => simp [intOf]; omega
    · have e : t.take k = t := List.take_of_length_le (by omega)
      have FE := hide (show Lst u0 (freeS s t) wr by rw [e] at HL; exact HL)
      clear e HL RD FN
      go_wp2
      go_ret
      exact ⟨_, rfl, HB, FE.out⟩
/-- a list that is read, and an error's number -/
def ActsE (r : List Rg × Int) (w : World) (e : Ending) (w' : World) : Prop := Acts r.1 r.2 w e w'
set_option maxRecDepth 100000 in
set_option maxHeartbeats 1000000 in
theorem rfree_any {vs vt : Value} {s : List Rg} {t : List Nat} (fs : FitL s) (ft : ∀ x ∈ t, Fits x) (ls : s.length ≤ 200) (lt : t.length ≤ 200) (w : World) (hv : Lst vs s w) (hu : LstA vt t w) :
    Calls Tryz.prog 9 #[vs, vt] w (ActsE (freeR s t) w) := by
  have SO := hide (fun W (H : Lst vs s W) => rsound_any (v := vs) fs (by omega) W H)
  have LE := hide (fun (h : soundL s = true) W (H : Lst vs s W) (K : LstA vt t W) => rlessA_any (sound_snd.1 h) fs ft ls lt W H K)
  have FR := hide (show freeR s t = if soundL s = true then (freeS s t, 0) else ([], 1) from rfl)
  clear fs ft
  go_enter Tryz.func9, Tryz.ntmps9
  cases es : soundL s with
  | false =>
    rw [es] at SO
    have F1 := hide (show freeR s t = ([], 1) by rw [FR.out, es]; rfl)
    clear es FR LE
    go_wp2_with fail
    refine (SO.out _ hv).mono ?_
    rintro e w1 ⟨rfl, hb1⟩
    go_wp2
    go_ret2
    rw [F1.out]
    exact ⟨_, rfl, hb1, lst_nil _⟩
  | true =>
    rw [es] at SO
    have F1 := hide (show freeR s t = (freeS s t, 0) by rw [FR.out, es]; rfl)
    have LE1 := hide (LE.out es)
    clear es FR LE
    go_wp2_with fail
    refine (SO.out _ hv).mono ?_
    rintro e w1 ⟨rfl, hb1⟩
    have V1 := hv.step hb1
    have U1 := hu.step hb1
    go_wp2_with fail
    refine (LE1.out _ V1 U1).mono ?_
    rintro e w2 ⟨v2, rfl, hb2, L2⟩
    go_wp2
    go_ret2
    rw [F1.out]
    exact ⟨_, rfl, chain hb1 hb2, L2⟩
theorem jnL_take {p : List Rg} {k : Nat} {r : Rg} (h : p[k]? = some r) : jnL (p.take (k + 1)) = putL (jnL (p.take k)) r := by
  unfold jnL
  rw [List.take_add_one, h, List.foldl_append]
  rfl
theorem ok_take {p : List Rg} {k : Nat} {r : Rg} (h : okL (p.take k) = true) (hr : p[k]? = some r) (ho : okR r = true) : okL (p.take (k + 1)) = true := by
  unfold okL at *
  rw [List.take_add_one, hr, List.all_append, h]
  simp [ho]
theorem ok_bad {p : List Rg} {k : Nat} {r : Rg} (hr : p[k]? = some r) (ho : okR r = false) : okL p = false := by
  unfold okL
  rw [List.all_eq_false]
  exact ⟨r, List.mem_of_getElem? hr, by rw [ho]; simp⟩
set_option maxRecDepth 100000 in
set_option maxHeartbeats 2000000 in
theorem rbuild_any {vp vt : Value} {p : List Rg} {t : List Nat} (fp : FitL p) (ft : ∀ x ∈ t, Fits x) (lp : p.length ≤ 200) (lt : t.length ≤ 200) (w : World) (hv : Lst vp p w) (hu : LstA vt t w) :
    Calls Tryz.prog 6 #[vp, vt] w (ActsE (buildR p t) w) := by
  have HV := hide (fun W (H : Below w.heap.size w W) => hv.step H)
  have HU := hide (fun W (H : Below w.heap.size w W) => hu.step H)
  have JS := hide (fun k (h : okL (p.take k) = true) => jn_spec (okL_iff.1 h) (fun x hx => fp x (List.mem_of_mem_take hx)))
  have RP := hide (fun k (h : okL (p.take k) = true) (hk : k ≤ 200) r (fr : FitR r) W v (H : Lst v (jnL (p.take k)) W) => (show Calls Tryz.prog 21 #[v, RV r] W (Acts (actL (okR r) (putL (jnL (p.take k)) r)) (actN (okR r)) W) from by
    obtain ⟨a, b, c, _⟩ := JS.out k h
    rw [List.length_take] at c
    have h1 := rput_any (v := v) (l := jnL (p.take k)) (r := r) b fr (by omega) W H
    rw [sound_snd.2 a, Bool.true_and] at h1
    exact h1))
  have LE := hide (fun (h : okL p = true) W v u (H : Lst v (jnL p) W) (K : LstA u t W) => (show Calls Tryz.prog 22 #[v, u] W (LstGives (freeS (jnL p) t) W) from by
    obtain ⟨a, b, c, _⟩ := jn_spec (okL_iff.1 h) fp
    exact rlessA_any a b ft (by omega) lt W H K))
  have FP := hide fp
  have BR := hide (show buildR p t = if okL p = true then (freeS (jnL p) t, 0) else ([], 1) from rfl)
  have O0 := own_lst (own_empty w)
  have B0 := below_alloc w (.cells #[] 36)
  obtain ⟨pp, pc, rfl⟩ := lst_len hv
  clear hv hu ft fp
  go_enter Tryz.func6, Tryz.ntmps6
  go_wp2
  go_loopw [6, 7] (fun s6 i wr => ∃ k : Nat, k ≤ p.length ∧ i = .int .i64 (k : Nat) ∧ Below w.heap.size w wr ∧ Lst s6 (jnL (p.take k)) wr ∧ Hid (okL (p.take k) = true)) (fun _ i _ => p.length - (intOf i).toNat)
  case atStart => exact ⟨0, Nat.zero_le _, rfl, B0, by rw [List.take_zero]; exact O0, hide (by rw [List.take_zero]; rfl)⟩
  case round =>
    clear O0 B0
    obtain ⟨k, hk, rfl, HB, HL, HK⟩ := hrel
    by_cases hlt : k < p.length
    · obtain ⟨r, hr⟩ := get_some hlt
      have fr := FP.out r (List.mem_of_getElem? hr)
      obtain ⟨b, o, e, _, x0, x1, x2, x3⟩ := lst_at (HV.out _ HB) hr
      subst e
      have RP1 := hide (RP.out k HK.out (by omega) r fr)
      cases eo : okR r with
      | false =>
        rw [eo] at RP1
        have R := hide (show buildR p t = ([], 1) by rw [BR.out, ok_bad hr eo]; rfl)
        clear hr fr RP eo LE
        go_wp2_with fail
        refine (RP1.out _ _ HL).mono ?_
        rintro e w2 ⟨v2, rfl, hb2, L2⟩
        have HB2 := chain HB hb2
        clear HB HL hb2 L2 RP1
        have E1 : actN false = 1 := rfl
        go_wp2
        go_ret2
        rw [R.out]
        exact ⟨_, rfl, HB2, lst_nil _⟩
      | true =>
        rw [eo] at RP1
        have KN := hide (ok_take HK.out hr eo)
        have JT := hide (show putL (jnL (p.take k)) r = jnL (p.take (k + 1)) from (jnL_take hr).symm)
        clear hr fr RP eo LE
        go_wp2_with fail
        refine (RP1.out _ _ HL).mono ?_
        rintro e w2 ⟨v2, rfl, hb2, L2⟩
        have HB2 := chain HB hb2
        have L3 : Lst v2 (jnL (p.take (k + 1))) w2 := JT.out ▸ L2
        have E1 : actN true = 0 := rfl
        clear HB HL hb2 L2 RP1 JT
        go_wp2
        go_roundw
        case rel => exact ⟨k + 1, hlt, by go_num, HB2, L3, KN⟩
        case measure => simp [intOf]; omega
    · have e : p.take k = p := List.take_of_length_le (by omega)
      rw [e] at HL HK
      have R := hide (show buildR p t = (freeS (jnL p) t, 0) by rw [BR.out, HK.out]; rfl)
      have LE1 := hide (LE.out HK.out)
      clear e RP LE
      go_wp2_with fail
      refine (LE1.out _ _ _ HL (HU.out _ HB)).mono ?_
      rintro e w2 ⟨v2, rfl, hb2, L2⟩
      have HB2 := chain HB hb2
      clear HB HL hb2 LE1
      go_wp2
      go_ret2
      rw [R.out]
      exact ⟨_, rfl, HB2, L2⟩

/-! ### Pick -/
theorem pick_zero {l : List Rg} (fl : FitL l) (ho : cntO l = false) (hz : cntV l = 0) (d : Nat) : nthV l (pickN l d) = 0 ∧ nthO l (pickN l d) = false := by
  cases hs : soundL l with
  | false => exact nth_unsound _ hs
  | true =>
    have s := sound_snd.1 hs
    have h1 := tot_cnt s fl
    have h2 := cnt_le s fl
    unfold cntV at hz
    rw [if_pos hs, h1] at hz
    have hne : l = [] := by
      refine Classical.byContradiction fun hne => ?_
      have h3 := cnt_pos s hne
      unfold cntO at ho
      rw [hs, h1, hz] at ho
      have : 0 < l.length := Nat.pos_of_ne_zero (fun e => hne (List.length_eq_zero_iff.1 e))
      simp [this] at ho
    subst hne
    exact nth_none (nthF_nil _)
theorem two_lo {d : Nat} (fd : d < 18446744073709551616) (w1 : World) (o : Obj) {t : TypeId} : Two (w1.heap.size + 1) d ((w1.alloc o).alloc (.cells #[.int .u64 0, .int .u64 (d : Nat)] t)) := by
  have h1 := hi_small fd
  have h2 := lo_small fd
  unfold Two
  rw [h1, h2]
  refine ⟨by simp, ?_, ?_, ?_, ?_⟩
  all_goals simp [go_sem]
set_option maxRecDepth 100000 in
set_option maxHeartbeats 2000000 in
theorem rpick_any {v : Value} {l : List Rg} {d : Nat} (fl : FitL l) (fd : d < 18446744073709551616) (hl : l.length ≤ 1000000) (w : World) (hv : Lst v l w) :
    Calls Tryz.prog 11 #[v, .int .u64 (d : Nat)] w (Gives (.tuple #[A (nthV l (pickN l d)), .bool (nthO l (pickN l d))]) w) := by
  have fD : Fits d := by unfold Fits; omega
  have CO := hide (fun W (H : Below w.heap.size w W) => rcount_any fl hl W (hv.step H))
  have fc : Fits (cntV l) := by unfold cntV; split; exact fits_tot l 0 (by unfold Fits; omega); (unfold Fits; omega)
  have MO := hide (fun W => (show Calls Tryz.prog 30 #[.agg #[.int .u64 0, .int .u64 (d : Nat)], A (cntV l)] W (Gives (.tuple #[A (modS d (cntV l)), .bool (modO (cntV l))]) W) from A_lo fd ▸ rmod_any fD fc W))
  have N1 := hide (fun W (H : Below w.heap.size w W) => rnth_any (n := modS d (cntV l)) fl (fits_modS fc) hl W (hv.step H))
  have N2 := hide (fun W (H : Below w.heap.size w W) => (show Calls Tryz.prog 31 #[v, .agg #[.int .u64 0, .int .u64 (d : Nat)]] W (Gives (.tuple #[A (nthV l d), .bool (nthO l d)]) W) from A_lo fd ▸ rnth_any (n := d) fl fD hl W (hv.step H)))
  have P := hide (show pickN l d = if cntO l = true then d else modS d (cntV l) by unfold pickN modS; rfl)
  have PZ := hide (fun (h1 : cntO l = false) (h2 : cntV l = 0) => pick_zero fl h1 h2 d)
  generalize pickN l d = pn at *
  obtain ⟨p, c, rfl⟩ := lst_len hv
  clear hv fc fD
  generalize cntV l = cn at *
  have T0 := two_zero w 31
  have B0 := below_alloc w (.cells #[.int .u64 0, .int .u64 0] 31)
  cases ec : cntO l with
  | true =>
    rw [ec] at CO
    have P1 := hide (show pn = d by rw [P.out, ec]; rfl)
    clear ec P MO N1 PZ
    go_enter Tryz.func11, Tryz.ntmps11
    go_wp2_with fail
    refine (CO.out _ B0).mono ?_
    rintro e w1 ⟨rfl, hb1⟩
    have T1 := ((T0.step hb1).step (below_alloc w1 (.cells #[.int .u64 (hi cn : Nat), .int .u64 (lo cn : Nat)] 31))).step (below_alloc _ (.cells #[.int .u64 0, .int .u64 (d : Nat)] 31))
    have B1 := chain (chain (chain B0 hb1) (below_alloc w1 (.cells #[.int .u64 (hi cn : Nat), .int .u64 (lo cn : Nat)] 31))) (below_alloc _ (.cells #[.int .u64 0, .int .u64 (d : Nat)] 31))
    clear T0 B0 hb1 CO
    go_wp2_with fail
    refine (N2.out _ B1).mono ?_
    rintro e w2 ⟨rfl, hb2⟩
    have T2 := T1.step hb2
    have HB := chain B1 hb2
    clear T1 B1 hb2 N2
    obtain ⟨z0, a0, a1, a2, a3⟩ := T2
    go_wp2
    generalize hy : nthV l d = y at *
    refine bodyPost_ret (v := .tuple #[A y, .bool (nthO l d)]) (by simp [results, Tryz.results11, go_sem, a0, a1]) rfl ⟨by rw [P1.out, hy], ?_⟩
    have hzB := HB.size
    repeat' (first | (with_reducible exact HB) | (with_reducible apply Below.drew) | (with_reducible apply Below.alloc) | (with_reducible apply Below.setCell))
    all_goals first | omega | (dsimp only; omega) | ((try simp); omega)
  | false =>
    rw [ec] at CO
    have P1 := hide (show pn = modS d cn by rw [P.out, ec]; rfl)
    by_cases hz : cn = 0
    · obtain ⟨y0, o0⟩ := PZ.out ec hz
      have MO1 := hide (fun W => via (MO.out W) (v' := .tuple #[A 0, .bool false]) (by rw [hz]; rfl))
      have YZ := hide y0
      have OZ := hide o0
      clear ec P N1 N2 PZ MO hz y0 o0
      go_enter Tryz.func11, Tryz.ntmps11
      go_wp2_with fail
      refine (CO.out _ B0).mono ?_
      rintro e w1 ⟨rfl, hb1⟩
      have T1 := ((T0.step hb1).step (below_alloc w1 (.cells #[.int .u64 (hi cn : Nat), .int .u64 (lo cn : Nat)] 31))).step (below_alloc _ (.cells #[.int .u64 0, .int .u64 (d : Nat)] 31))
      have B1 := chain (chain (chain B0 hb1) (below_alloc w1 (.cells #[.int .u64 (hi cn : Nat), .int .u64 (lo cn : Nat)] 31))) (below_alloc _ (.cells #[.int .u64 0, .int .u64 (d : Nat)] 31))
      clear T0 B0 hb1 CO
      go_wp2_with fail
      refine (MO1.out _).mono ?_
      rintro e w2 ⟨rfl, hb2⟩
      have T2 := (T1.step hb2).step (below_alloc w2 (.cells #[.int .u64 (hi 0 : Nat), .int .u64 (lo 0 : Nat)] 31))
      have HB := chain (chain B1 hb2) (below_alloc w2 (.cells #[.int .u64 (hi 0 : Nat), .int .u64 (lo 0 : Nat)] 31))
      clear T1 B1 hb2 MO1
      obtain ⟨z0, a0, a1, a2, a3⟩ := T2
      go_wp2
      refine bodyPost_ret (v := .tuple #[.agg #[.int .u64 0, .int .u64 0], .bool false]) (by simp [results, Tryz.results11, go_sem, a0, a1]) rfl ⟨by rw [YZ.out, OZ.out]; rfl, ?_⟩
      have hzB := HB.size
      repeat' (first | (with_reducible exact HB) | (with_reducible apply Below.drew) | (with_reducible apply Below.alloc) | (with_reducible apply Below.setCell))
      all_goals first | omega | (dsimp only; omega) | ((try simp); omega)
    · have MO1 := hide (fun W => via (MO.out W) (v' := .tuple #[A (modS d cn), .bool true]) (by rw [show modO cn = true by unfold modO; simpa using hz]))
      clear ec P N2 PZ MO hz
      generalize modS d cn = m at *
      go_enter Tryz.func11, Tryz.ntmps11
      go_wp2_with fail
      refine (CO.out _ B0).mono ?_
      rintro e w1 ⟨rfl, hb1⟩
      have T1 := ((T0.step hb1).step (below_alloc w1 (.cells #[.int .u64 (hi cn : Nat), .int .u64 (lo cn : Nat)] 31))).step (below_alloc _ (.cells #[.int .u64 0, .int .u64 (d : Nat)] 31))
      have B1 := chain (chain (chain B0 hb1) (below_alloc w1 (.cells #[.int .u64 (hi cn : Nat), .int .u64 (lo cn : Nat)] 31))) (below_alloc _ (.cells #[.int .u64 0, .int .u64 (d : Nat)] 31))
      have T8 : Two (w1.heap.size + 1) d ((w1.alloc (.cells #[.int .u64 (hi cn : Nat), .int .u64 (lo cn : Nat)] 31)).alloc (.cells #[.int .u64 0, .int .u64 (d : Nat)] 31)) := two_lo fd _ _
      have hs1 : w.heap.size < w1.heap.size := by have := hb1.size; simp at this; omega
      clear T0 B0 hb1 CO
      go_wp2_with fail
      refine (MO1.out _).mono ?_
      rintro e w2 ⟨rfl, hb2⟩
      have B9 := below_alloc w2 (.cells #[.int .u64 (hi m : Nat), .int .u64 (lo m : Nat)] 31)
      have T2 := (T1.step hb2).step B9
      have T8 := (T8.step hb2).step B9
      have HB2 := chain (chain B1 hb2) B9
      have hs2 := hb2.size
      clear T1 B1 hb2 MO1 B9
      obtain ⟨g0, d0, d1, d2, d3⟩ := id T8
      have B3 := (HB2.setCell (p := ⟨w1.heap.size + 1, 0, none⟩) (by dsimp only; omega) (.int .u64 (hi m : Nat))).setCell (p := ⟨w1.heap.size + 1, 1, none⟩) (by dsimp only; omega) (.int .u64 (lo m : Nat))
      have T3 := (T2.set (p := ⟨w1.heap.size + 1, 0, none⟩) (by dsimp only; omega) (.int .u64 (hi m : Nat))).set (p := ⟨w1.heap.size + 1, 1, none⟩) (by dsimp only; omega) (.int .u64 (lo m : Nat))
      go_wp2_with fail
      clear d0 d1 d2 d3 T8 T2
      refine (N1.out _ B3).mono ?_
      rintro e w4 ⟨rfl, hb4⟩
      have T4 := T3.step hb4
      have HB := chain B3 hb4
      clear B3 T3 hb4 HB2 N1
      obtain ⟨z0, a0, a1, a2, a3⟩ := T4
      go_wp2
      generalize hy : nthV l m = y at *
      refine bodyPost_ret (v := .tuple #[A y, .bool (nthO l m)]) (by simp [results, Tryz.results11, go_sem, a0, a1]) rfl ⟨by rw [P1.out, hy], ?_⟩
      have hzB := HB.size
      repeat' (first | (with_reducible exact HB) | (with_reducible apply Below.drew) | (with_reducible apply Below.alloc) | (with_reducible apply Below.setCell))
      all_goals first | omega | (dsimp only; omega) | ((try simp); omega)
end Go.Proofs.YtfmhpnendcikoaaGreat
