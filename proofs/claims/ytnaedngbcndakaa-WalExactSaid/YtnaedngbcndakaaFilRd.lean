/-
  The contracts of the document's own goes, power, Off. Conditions: an int is one of 64 bits; fewer than 2^62 operations have been answered OK.
-/
import Derived.Test.YtnaedngbcndakaaFilRc
namespace Go.Proofs.Ytnaedngbcndakaa
open Go.RowKit Go.Maps

variable {w w' w1 w2 w3 : World} {t : Nat} {v : Value} {O : Nat → Prop} {s s' : Dk} {l : List Fl}
/-- the first k files have lost what they lose -/
def goL (keep : Int) (l : List Fl) (k : Nat) : List Fl := (l.take k).map (lose keep) ++ l.drop k
theorem goL_len (keep : Int) (l : List Fl) (k : Nat) : (goL keep l k).length = l.length := by
  unfold goL
  rw [List.length_append, List.length_map, List.length_take, List.length_drop]
  omega
theorem goL_get (keep : Int) (l : List Fl) {k : Nat} (hk : k < l.length) : (goL keep l k)[k]'(by rw [goL_len]; exact hk) = l[k] := by
  unfold goL
  rw [List.getElem_append_right (by rw [List.length_map, List.length_take]; omega)]
  simp [List.length_take, Nat.min_eq_left (Nat.le_of_lt hk)]
theorem goL_set (keep : Int) (l : List Fl) {k : Nat} (hk : k < l.length) : (goL keep l k).set k (lose keep l[k]) = goL keep l (k + 1) := by
  unfold goL
  rw [List.set_append_right _ _ (by rw [List.length_map, List.length_take]; omega), List.length_map, List.length_take, Nat.min_eq_left (Nat.le_of_lt hk), Nat.sub_self, List.drop_eq_getElem_cons hk]
  rw [List.take_succ_eq_append_getElem hk, List.map_append, List.append_assoc]
  rfl
theorem FRow.c {g n cap : Nat} (h : FRow w (.slice (some ⟨g, 0, none⟩) n cap) l) {k : Nat} (hk : k < l.length) : w.cell? ⟨g, k * 3, none⟩ = some (St l[k].name) ∧ w.cell? ⟨g, k * 3 + 1, none⟩ = some (St l[k].data) ∧ w.cell? ⟨g, k * 3 + 2, none⟩ = some (.int .i64 (l[k].safe : Nat)) ∧ (∀ i, w.frozen? ⟨g, i, none⟩ = false) := by
  obtain ⟨g2, c2, e, x0, x1, x2, x3, _⟩ := h.at hk
  obtain ⟨rfl, _, _⟩ : g = g2 ∧ n = l.length ∧ cap = c2 := by simpa using e
  exact ⟨x0, x1, x2, x3⟩
theorem FRow.put {g n cap : Nat} (h : FRow w (.slice (some ⟨g, 0, none⟩) n cap) l) {k i : Nat} (hk : k < l.length) (hi : i < 3) {f' : Fl} {u : Value} (hu : wdF f' = (wdF l[k]).set i u) :
    FRow (w.setCell ⟨g, k * 3 + i, none⟩ u) (.slice (some ⟨g, 0, none⟩) n cap) (l.set k f') := by
  obtain ⟨p, c2, e⟩ := h.form
  obtain ⟨_, rfl, _⟩ : some ⟨g, 0, none⟩ = p ∧ n = l.length ∧ cap = c2 := by simpa using e
  have := FRow.set h hk hi hu
  rwa [List.length_set] at this
theorem goL_zero (keep : Int) (l : List Fl) : goL keep l 0 = l := by simp [goL]
theorem goL_all (keep : Int) (l : List Fl) : goL keep l l.length = l.map (lose keep) := by simp [goL]
set_option maxRecDepth 100000 in
set_option maxHeartbeats 4000000 in
theorem goes_any (h : RefAt w t v O s) {keep : Int} (hk : I64 keep) : Calls Try.prog 52 #[Pt t, .int .i64 keep] w (ActsR w t O (.tuple #[]) (offD s keep)) := by
  have HH := hide h
  have HL := h.ok.len
  obtain ⟨p, cap, rfl⟩ := h.row.form
  have HLT := hide h.lt
  have HTC := hide (show w.heap[t]? = some (.cells #[.slice p s.fs.length cap, .bool s.down, .int .i64 s.left, .int .i64 s.keep, .int .i64 (s.steps : Nat)] 75 (0, 0)) from h.cells)
  have HNE := hide (fun g (e : p = some ⟨g, 0, none⟩) => h.ne (g := g) (by rw [e]; rfl))
  have HOW := hide h.own
  have HR0 := h.row
  clear h
  obtain ⟨n, hn⟩ : ∃ n, n = s.fs.length := ⟨_, rfl⟩
  rw [← hn] at HTC HL HR0
  have HN := hide hn
  clear hn
  go_enter Try.func52, Try.ntmps52
  go_wp2
  go_loopw [4] (fun i wr => ∃ k : Nat, k ≤ n ∧ i = .int .i64 (k : Int) ∧ FRow wr (.slice p n cap) (goL keep s.fs k) ∧ Fr O w wr ∧ wr.heap[t]? = some (.cells #[.slice p n cap, .bool s.down, .int .i64 s.left, .int .i64 s.keep, .int .i64 (s.steps : Nat)] 75 (0, 0))) (fun i _ => n - (intOf i).toNat)
  case atStart => exact ⟨0, Nat.zero_le _, rfl, by rw [goL_zero]; exact HR0, Fr.refl _ _, HTC.out⟩
  case round =>
    clear HR0
    obtain ⟨k, hk1, rfl, HR, hF, HT⟩ := hrel
    have c0 := cell_at HT 0
    simp at c0
    by_cases hlt : k < n
    · have hlt2 : (k : Int) < (n : Int) := by omega
      have hkl : k < s.fs.length := by rw [← HN.out]; exact hlt
      have hkg : k < (goL keep s.fs k).length := by rw [goL_len]; exact hkl
      obtain ⟨g, cap2, ev, x0, x1, x2, x3, x4⟩ := HR.at hkg
      obtain ⟨rfl, h7, h8⟩ : p = some ⟨g, 0, none⟩ ∧ n = (goL keep s.fs k).length ∧ cap = cap2 := by simpa using ev
      rw [goL_get keep s.fs hkl] at x1 x2
      have ok := HH.out.ok.ok _ (List.getElem_mem hkl)
      have GS := hide (goL_set keep s.fs hkl)
      have GG := hide (goL_get keep s.fs hkl)
      generalize hf : s.fs[k] = f at *
      clear hf h7 h8 ev x0
      have ENE := HNE.out g rfl
      obtain ⟨o1, o2, _⟩ := ok
      obtain ⟨u, hu⟩ : ∃ u, u = f.data.length - f.safe := ⟨_, rfl⟩
      have hknl := keepN_le keep u
      have HU := hide hu
      have w1 : IntKind.i64.wrap ((f.data.length : Int) - (f.safe : Int)) = (u : Int) := by rw [IntWalk.i64_in _ (by omega)]; omega
      have hu2 : (u : Int) ≤ 1048576 := by omega
      obtain ⟨m, hm⟩ : ∃ m, m = f.safe + keepN keep u := ⟨_, rfl⟩
      have J := bytes_take f.data m
      have LO := hide (show lose keep f = ⟨f.name, f.data.take m, m⟩ by unfold lose; rw [← hu, ← hm])
      have hml : m ≤ f.data.length := by omega
      have hm2 : (f.safe : Int) + (keepN keep u : Int) = (m : Int) := by omega
      have HR1 := hide HR
      have HT1 := hide HT
      have fz := x3 (k * 3 + 2)
      have fy := x3 (k * 3 + 1)
      clear HR HT x3 hu hm
      obtain ⟨kn, hkn⟩ : ∃ kn, kn = keepN keep u := ⟨_, rfl⟩
      rw [← hkn] at hm2 hknl
      have KN := hide hkn
      clear hkn
      have e4 : IntKind.i64.wrap ((f.safe : Int) + (kn : Int)) = (m : Int) := by rw [IntWalk.i64_in _ (by omega)]; exact hm2
      by_cases hpos : 0 < keep
      · have K1 : keep % ((u : Int) + 1) = (kn : Int) := by
          have := KN.out
          unfold keepN at this
          rw [if_pos hpos] at this
          obtain ⟨q, rfl⟩ := Int.eq_ofNat_of_zero_le (show 0 ≤ keep by omega)
          rw [this]
          simp
        go_wp2
        go_quiet (fail)
        go_wp2
        have R2 : FRow (wr.drewN nq) (.slice (some ⟨g, 0, none⟩) n cap) (goL keep s.fs k) := HR1.out.fr (Fr.drewN wr nq) (fun _ _ e => e)
        have T2 := (Fr.drewN wr nq).keep HT1.out (fun e => e)
        have F2 := hF.andNo (Fr.drewN wr nq)
        generalize wr.drewN nq = w2 at *
        clear x1 x2 x4 fz fy c0
        obtain ⟨x0, x1, x2, x3⟩ := R2.c hkg
        rw [GG.out] at x2
        have c0 := cell_at T2 0
        simp at c0
        have R3 := hide (R2.fr (Fr.drew w2) (fun _ _ e => e))
        have T3 := hide ((Fr.drew w2).keep T2 (fun e => e))
        have F3 := hide (F2.andNo (Fr.drew w2))
        clear x0 x1 x3 R2 T2 F2
        go_still_tail 17, (by kernel_rfl)
        change wpList _ _ _ _ _ w2.drew
        generalize w2.drew = w3 at *
        clear c0 x2
        obtain ⟨x0, x1, x2, x3⟩ := R3.out.c hkg
        have fz := x3 (k * 3 + 2)
        clear x0 x1 x3
        go_wp2
        have R4 := R3.out.put hkg (i := 2) (by omega) (f' := ⟨f.name, f.data, m⟩) (u := .int .i64 (m : Int)) (by rw [GG.out]; rfl)
        have T4 := (Fr.set w3 ⟨g, k * 3 + 2, none⟩ (.int .i64 (m : Int))).keep T3.out (fun e => ENE e)
        have F4 := F3.out.trans (Fr.set w3 ⟨g, k * 3 + 2, none⟩ (.int .i64 (m : Int))) (fun i _ e => by have e : i = g := e; rw [e]; exact HOW.out.2 g rfl)
        generalize w3.setCell ⟨g, k * 3 + 2, none⟩ (.int .i64 (m : Int)) = w4 at *
        clear x2 fz R3 T3 F3
        have hkg2 : k < ((goL keep s.fs k).set k ⟨f.name, f.data, m⟩).length := by rw [List.length_set]; exact hkg
        obtain ⟨x0, x1, x2, x3⟩ := R4.c hkg2
        rw [List.getElem_set_self] at x1 x2
        have c0 := cell_at T4 0
        simp at c0
        have R5 := hide (R4.fr (Fr.drew w4) (fun _ _ e => e))
        have T5 := hide ((Fr.drew w4).keep T4 (fun e => e))
        have F5 := hide (F4.andNo (Fr.drew w4))
        clear x0 x3 R4 T4 F4
        go_still_tail 24, (by kernel_rfl)
        change wpList _ _ _ _ _ w4.drew
        generalize w4.drew = w5 at *
        clear c0 x1 x2
        obtain ⟨x0, x1, x2, x3⟩ := R5.out.c hkg2
        have fz := x3 (k * 3 + 1)
        rw [List.getElem_set_self] at x1
        clear x0 x2 x3
        go_wp2
        have R6 := R5.out.put hkg2 (i := 1) (by omega) (f' := ⟨f.name, f.data.take m, m⟩) (u := St (f.data.take m)) (by rw [List.getElem_set_self]; rfl)
        rw [List.set_set, ← LO.out, GS.out] at R6
        have T6 := (Fr.set w5 ⟨g, k * 3 + 1, none⟩ (St (f.data.take m))).keep T5.out (fun e => ENE e)
        have F6 := F5.out.trans (Fr.set w5 ⟨g, k * 3 + 1, none⟩ (St (f.data.take m))) (fun i _ e => by have e : i = g := e; rw [e]; exact HOW.out.2 g rfl)
        go_roundw
        case rel => exact ⟨k + 1, by omega, by go_num, R6, F6, T6⟩
        case measure => simp [intOf]; omega
      · have K1 : kn = 0 := by
          have := KN.out
          unfold keepN at this
          rwa [if_neg hpos] at this
        subst K1
        have e4 : IntKind.i64.wrap ((f.safe : Int) + 0) = (m : Int) := by rw [IntWalk.i64_in _ (by omega)]; simpa using hm2
        have e6 : IntKind.i64.wrap (f.safe : Int) = (m : Int) := by simpa using e4
        go_wp2
        go_quiet (fail)
        go_wp2
        have R2 : FRow (wr.drewN nq) (.slice (some ⟨g, 0, none⟩) n cap) (goL keep s.fs k) := HR1.out.fr (Fr.drewN wr nq) (fun _ _ e => e)
        have T2 := (Fr.drewN wr nq).keep HT1.out (fun e => e)
        have F2 := hF.andNo (Fr.drewN wr nq)
        generalize wr.drewN nq = w2 at *
        clear x1 x2 x4 fz fy c0
        obtain ⟨x0, x1, x2, x3⟩ := R2.c hkg
        rw [GG.out] at x2
        have c0 := cell_at T2 0
        simp at c0
        have R3 := hide (R2.fr (Fr.drew w2) (fun _ _ e => e))
        have T3 := hide ((Fr.drew w2).keep T2 (fun e => e))
        have F3 := hide (F2.andNo (Fr.drew w2))
        clear x0 x1 x3 R2 T2 F2
        go_still_tail 17, (by kernel_rfl)
        change wpList _ _ _ _ _ w2.drew
        generalize w2.drew = w3 at *
        clear c0 x2
        obtain ⟨x0, x1, x2, x3⟩ := R3.out.c hkg
        have fz := x3 (k * 3 + 2)
        clear x0 x1 x3
        go_wp2
        have R4 := R3.out.put hkg (i := 2) (by omega) (f' := ⟨f.name, f.data, m⟩) (u := .int .i64 (m : Int)) (by rw [GG.out]; rfl)
        have T4 := (Fr.set w3 ⟨g, k * 3 + 2, none⟩ (.int .i64 (m : Int))).keep T3.out (fun e => ENE e)
        have F4 := F3.out.trans (Fr.set w3 ⟨g, k * 3 + 2, none⟩ (.int .i64 (m : Int))) (fun i _ e => by have e : i = g := e; rw [e]; exact HOW.out.2 g rfl)
        generalize w3.setCell ⟨g, k * 3 + 2, none⟩ (.int .i64 (m : Int)) = w4 at *
        clear x2 fz R3 T3 F3
        have hkg2 : k < ((goL keep s.fs k).set k ⟨f.name, f.data, m⟩).length := by rw [List.length_set]; exact hkg
        obtain ⟨x0, x1, x2, x3⟩ := R4.c hkg2
        rw [List.getElem_set_self] at x1 x2
        have c0 := cell_at T4 0
        simp at c0
        have R5 := hide (R4.fr (Fr.drew w4) (fun _ _ e => e))
        have T5 := hide ((Fr.drew w4).keep T4 (fun e => e))
        have F5 := hide (F4.andNo (Fr.drew w4))
        clear x0 x3 R4 T4 F4
        go_still_tail 24, (by kernel_rfl)
        change wpList _ _ _ _ _ w4.drew
        generalize w4.drew = w5 at *
        clear c0 x1 x2
        obtain ⟨x0, x1, x2, x3⟩ := R5.out.c hkg2
        have fz := x3 (k * 3 + 1)
        rw [List.getElem_set_self] at x1
        clear x0 x2 x3
        go_wp2
        have R6 := R5.out.put hkg2 (i := 1) (by omega) (f' := ⟨f.name, f.data.take m, m⟩) (u := St (f.data.take m)) (by rw [List.getElem_set_self]; rfl)
        rw [List.set_set, ← LO.out, GS.out] at R6
        have T6 := (Fr.set w5 ⟨g, k * 3 + 1, none⟩ (St (f.data.take m))).keep T5.out (fun e => ENE e)
        have F6 := F5.out.trans (Fr.set w5 ⟨g, k * 3 + 1, none⟩ (St (f.data.take m))) (fun i _ e => by have e : i = g := e; rw [e]; exact HOW.out.2 g rfl)
        go_roundw
        case rel => exact ⟨k + 1, by omega, by go_num, R6, F6, T6⟩
        case measure => simp [intOf]; omega
    · have hlt2 : ¬ (k : Int) < (n : Int) := by omega
      have hkn : k = s.fs.length := by have := HN.out; omega
      rw [hkn, goL_all] at HR
      have HR1 := hide HR
      have HT1 := hide HT
      have f1 := free_at HT 1
      have f2 := free_at HT 2
      have k1 := cell_at HT 1
      have k2 := cell_at HT 2
      simp at k1 k2
      clear HR HT hkn
      go_wp2
      go_end0
      have Fst : Fr (fun i => i = t) wr ((wr.setCell ⟨t, 1, none⟩ (.bool true)).setCell ⟨t, 2, none⟩ (.int .i64 (-1))) := (Fr.set wr ⟨t, 1, none⟩ _).trans (Fr.set _ ⟨t, 2, none⟩ _) (fun i _ e => e)
      have HF2 := hF.trans Fst (fun i _ e => by rw [e]; exact HOW.out.1)
      refine ⟨rfl, HF2, IsRef.acts ⟨_, HH.out⟩ HF2 ⟨.slice p n cap, ⟨HH.out.ok.off keep, ?_, HR1.out.fr Fst (fun i hi e => ?_), ⟨HOW.out.1, fun i hi => ?_⟩, fun i hi => Nat.lt_of_lt_of_le (HLT.out i hi) HF2.size⟩⟩⟩
      · rw [set_block (set_block HT1.out 1 _) 2]
        rfl
      · obtain ⟨cur, h1⟩ := HR1.out.block hi
        have e : i = t := e
        rw [e, HT1.out] at h1
        simp at h1
      · cases p with
        | none => cases hi
        | some a => exact HOW.out.2 i hi
end Go.Proofs.Ytnaedngbcndakaa
