/-
  The contract of the document's own put. Conditions: the file's name is new on the disk and the disk holds fewer than 16 files.
-/
import Derived.Test.YtnaedngbcndakaaFilRe
import Derived.Sort.Walk0
namespace Go.Proofs.Ytnaedngbcndakaa
open Go.RowKit Go.Maps

variable {w w' w1 w2 w3 : World} {t : Nat} {v : Value} {O : Nat → Prop} {s s' : Dk} {l : List Fl}
theorem put_at {f : Fl} : ∀ {l : List Fl} {k : Nat}, k ≤ l.length → (∀ j (hj : j < l.length), j < k → l[j].name < f.name) → (∀ hk : k < l.length, ¬ l[k].name < f.name) → find l f.name = none → putF f l = l.take k ++ f :: l.drop k
  | [], k, hk, _, _, _ => by
    have : k = 0 := by simpa using hk
    subst this
    rfl
  | g :: r, 0, _, _, h2, h3 => by
    have hn : g.name ≠ f.name := find_none.1 h3 g (by simp)
    have h4 : f.name < g.name := nm_tri (h2 (by simp)) hn
    unfold putF
    rw [if_pos h4]
    rfl
  | g :: r, k + 1, hk, h1, h2, h3 => by
    have hn : g.name ≠ f.name := find_none.1 h3 g (by simp)
    have h4 : g.name < f.name := h1 0 (by simp) (by omega)
    unfold putF
    rw [if_neg (fun e => nm_irr _ (nm_trans e h4)), if_neg (fun e => hn e.symm)]
    rw [put_at (l := r) (k := k) (by simpa using hk) (fun j hj hjk => by have := h1 (j + 1) (by simpa using hj) (by omega); simpa using this) (fun hkr => by have := h2 (by simpa using hkr); simpa using this) (find_none.2 (fun x hx => find_none.1 h3 x (by simp [hx])))]
    rfl
theorem less_eq (a b : Nm) (B : Bool) (h : decide (a < b) = B) : Op.bytesLess a b = B := by
  rw [bytesLess_eq]
  exact h
/-- the row while a place is made -/
def shF (l : List Fl) (j : Nat) (y : Fl) : List Fl := l.take j ++ y :: l.drop j
theorem shF_len (l : List Fl) (j : Nat) (y : Fl) : (shF l j y).length = l.length + 1 := by
  unfold shF
  rw [List.length_append, List.length_cons, List.length_take, List.length_drop]
  omega
theorem shF_at (l : List Fl) (j : Nat) (y : Fl) (hj : j ≤ l.length) : (shF l j y)[j]'(by rw [shF_len]; omega) = y := by
  unfold shF
  rw [List.getElem_append_right (by rw [List.length_take]; omega)]
  simp [List.length_take, Nat.min_eq_left hj]
theorem shF_before (l : List Fl) (j : Nat) (y : Fl) (hj : j < l.length) : (shF l (j + 1) y)[j]'(by rw [shF_len]; omega) = l[j] := by
  unfold shF
  rw [List.getElem_append_left (by rw [List.length_take]; omega)]
  simp
theorem shF_set (l : List Fl) (j : Nat) (y z : Fl) (hj : j ≤ l.length) : (shF l j y).set j z = shF l j z := by
  unfold shF
  rw [List.set_append_right _ _ (by rw [List.length_take]; omega), List.length_take, Nat.min_eq_left hj, Nat.sub_self]
  rfl
theorem shF_step (l : List Fl) (j : Nat) (hj : j < l.length) : shF l (j + 1) l[j] = shF l j l[j] := by
  unfold shF
  rw [List.take_succ_eq_append_getElem hj, List.drop_eq_getElem_cons hj, List.append_assoc]
  rfl
theorem FRow.put3 {g n cap : Nat} (h : FRow w (.slice (some ⟨g, 0, none⟩) n cap) l) {k : Nat} (hk : k < l.length) (f : Fl) :
    FRow (((w.setCell ⟨g, k * 3, none⟩ (St f.name)).setCell ⟨g, k * 3 + 1, none⟩ (St f.data)).setCell ⟨g, k * 3 + 2, none⟩ (.int .i64 (f.safe : Nat))) (.slice (some ⟨g, 0, none⟩) n cap) (l.set k f) := by
  have h1 := h.put hk (i := 0) (by omega) (f' := ⟨f.name, l[k].data, l[k].safe⟩) (u := St f.name) rfl
  have h2 := h1.put (k := k) (by rw [List.length_set]; exact hk) (i := 1) (by omega) (f' := ⟨f.name, f.data, l[k].safe⟩) (u := St f.data) (by rw [List.getElem_set_self]; rfl)
  have h3 := h2.put (k := k) (by rw [List.length_set, List.length_set]; exact hk) (i := 2) (by omega) (f' := f) (u := .int .i64 (f.safe : Nat)) (by rw [List.getElem_set_self]; rfl)
  rw [List.set_set, List.set_set] at h3
  exact h3
set_option maxRecDepth 100000 in
set_option maxHeartbeats 4000000 in
theorem put_any (h : RefAt w t v O s) {f : Fl} (hf : FlOk f) (hnew : find s.fs f.name = none) (hl : s.fs.length < 16) : Calls Try.prog 57 #[Pt t, FV f] w (ActsR w t O (.tuple #[]) { s with fs := putF f s.fs }) := by
  obtain ⟨i0, hi, hz0, hz1, hz2⟩ := info_of infoF
  have HH := hide h
  have HOK := hide (h.ok.put hf (Or.inr hl))
  obtain ⟨p, cap, rfl⟩ := h.row.form
  have HNEW := hide hnew
  have htw := lt_of_block h.cells
  obtain ⟨n, hn⟩ : ∃ n, n = s.fs.length := ⟨_, rfl⟩
  rw [← hn] at HH hl
  have HN := hide hn
  have FZ := Fr.alloc w (.cells #[St f.name, St f.data, .int .i64 (f.safe : Nat)] 86)
  have B0 := alloc_new w (.cells #[St f.name, St f.data, .int .i64 (f.safe : Nat)] 86)
  clear h hn hnew hf
  go_enter Try.func57, Try.ntmps57
  go_wp2
  go_loopw [4] (fun i wr => ∃ k : Nat, k ≤ n ∧ i = .int .i64 (k : Int) ∧ Hid (∀ j (hj : j < s.fs.length), j < k → s.fs[j].name < f.name) ∧ Fr No w wr ∧ wr.heap[w.heap.size]? = some (.cells #[St f.name, St f.data, .int .i64 (f.safe : Nat)] 86)) (fun i _ => n - (intOf i).toNat)
  case atStart => exact ⟨0, Nat.zero_le _, rfl, hide (fun j _ hj => absurd hj (by omega)), FZ, B0⟩
  case round =>
    clear FZ B0
    obtain ⟨k, hk, rfl, HB, hF, B0⟩ := hrel
    have HR := HH.out.no hF
    obtain ⟨c0, _⟩ := HR.cs
    have b0 := cell_at B0 0
    simp at b0
    have HB0 := hide B0
    by_cases hgo : ∃ hkl : k < s.fs.length, s.fs[k].name < f.name
    · obtain ⟨hkl, hle⟩ := hgo
      have hlt : k < n := by rw [HN.out]; exact hkl
      have hlt2 : (k : Int) < (n : Int) := by omega
      have hlt3 : decide ((k : Int) < (n : Int)) = true := by simpa using hlt2
      obtain ⟨g, cap2, ev, x0, x1, x2, x3, x4⟩ := HR.row.at hkl
      obtain ⟨rfl, h7, h8⟩ : p = some ⟨g, 0, none⟩ ∧ n = s.fs.length ∧ cap = cap2 := by simpa using ev
      have HB2 := hide (show ∀ j (hj : j < s.fs.length), j < k + 1 → s.fs[j].name < f.name from fun j hj hjk => by
        by_cases e : j = k
        · subst e; exact hle
        · exact HB.out j hj (by omega))
      have L := less_eq s.fs[k].name f.name true (by simpa using hle)
      clear h7 h8 ev x1 x2 x3 HR B0 hle
      generalize s.fs[k].name = y at x0 L
      go_wp2
      go_quiet (fail)
      go_wp2
      go_roundw
      case rel => exact ⟨k + 1, by omega, by go_num, HB2, hF.andNo (Fr.drewN _ _), (Fr.drewN _ _).keep HB0.out (fun e => e)⟩
      case measure => simp [intOf]; omega
    · have PUT := hide (put_at (f := f) (l := s.fs) (k := k) (by have := HN.out; omega) (fun j hj hjk => HB.out j hj hjk) (fun hk2 h2 => hgo ⟨hk2, h2⟩) HNEW.out)
      by_cases hlt : k < n
      case' pos =>
        have hlt2 : (k : Int) < (n : Int) := by omega
        have hlt3 : decide ((k : Int) < (n : Int)) = true := by simpa using hlt2
        have hkl : k < s.fs.length := by rw [← HN.out]; exact hlt
        obtain ⟨g, cap2, ev, x0, x1, x2, x3, x4⟩ := HR.row.at hkl
        obtain ⟨rfl, h7, h8⟩ : p = some ⟨g, 0, none⟩ ∧ n = s.fs.length ∧ cap = cap2 := by simpa using ev
        have hle : ¬ s.fs[k].name < f.name := fun e => hgo ⟨hkl, e⟩
        have L := less_eq s.fs[k].name f.name false (by simpa using hle)
        clear h7 h8 ev x1 x2 x3 HR B0 hle hgo
        generalize s.fs[k].name = y at x0 L
        go_wp2
        go_quiet (fail)
        clear x0 L c0 b0 hlt hlt2 hlt3 hkl x4
        generalize (some ⟨g, 0, none⟩ : Option Go.Addr) = p at *
      case' neg =>
        have hlt2 : ¬ (k : Int) < (n : Int) := by omega
        have hlt3 : decide ((k : Int) < (n : Int)) = false := by simpa using hlt2
        clear HR B0 hgo
        go_wp2
        go_quiet (fail)
        clear c0 b0 hlt hlt2 hlt3
      all_goals
        have R2 := HH.out.no (hF.andNo (Fr.drewN wr nq))
        have F2 := hF.andNo (Fr.drewN wr nq)
        have B2 := (Fr.drewN wr nq).keep HB0.out (fun e => e)
        generalize wr.drewN nq = w2 at *
        have HRW := R2.row
        unfold FRow at HRW
        rw [← HN.out] at HRW
        have AW := HRW.alloc (.cells #[.string ⟨#[]⟩, .string ⟨#[]⟩, .int .i64 0] 86)
        have hwz := lt_of_block B2
        obtain ⟨c0, _⟩ := R2.cs
        have HT2 := R2.cells
        have HB2 := hide B2
        clear HRW R2 B2 HB0
        go_wp2_with (
          at_builtin
          refine wpList_append_lies _ rfl _ _ 73 rfl 0 86 i0 (.agg #[.string ⟨#[]⟩, .string ⟨#[]⟩, .int .i64 0]) 3 40 Try.underlying73 hi hz0 hz1 hz2 rfl (by decide) _ n _ rfl AW ⟨w2.heap.size, 0, none⟩ 1 1 [.string ⟨#[]⟩, .string ⟨#[]⟩, .int .i64 0] rfl rfl (fun j u hu => World.news_of_block (alloc_new w2 _) j u hu) (fun u hu => by simp at hu; rcases hu with rfl | rfl | rfl <;> rfl) (by decide) (by unfold maxLen; omega) (by omega) (Nat.zero_le _) _ rfl ?_
          intro g3 cap3 w3 O3 G3 L3 L4
          have G2 : w.heap.size < g3 ∨ O g3 := by
            rcases L3 with e | e
            · exact Or.inr (HH.out.own.2 g3 e)
            · left; rw [e]; simp; omega
          have gt : ¬ t = g3 := by
            rcases L3 with e | e
            · exact HH.out.ne e
            · rw [e]; simp; omega
          have gw : ¬ w.heap.size = g3 := by
            rcases L3 with e | e
            · have := HH.out.lt g3 (HH.out.own.2 g3 e); omega
            · rw [e]; simp; omega
          have FG : Fr (fun i => some i = (Value.slice p n cap).ownBlock) w2 w3 := (Fr.alloc w2 _).no.trans (Fr.grown G3) (fun i _ e => e)
          have T3 := FG.keep HT2 (fun e => HH.out.ne (show (Value.slice p n cap).ownBlock = some t from e.symm) rfl)
          have B3 := FG.keep HB2.out (fun e => by have := HH.out.lt _ (HH.out.own.2 _ (show (Value.slice p n cap).ownBlock = some w.heap.size from e.symm)); omega)
          have F3 := F2.no.trans FG (S := O) (fun i _ e => HH.out.own.2 i e.symm)
          have R3 : FRow w3 (.slice (some ⟨g3, 0, none⟩) (n + 1) cap3) (shF s.fs n ⟨[], [], 0⟩) := by
            unfold FRow shF
            rw [List.take_of_length_le (by have := HN.out; omega), List.drop_of_length_le (by have := HN.out; omega), List.length_append, ← HN.out, flat_append]
            exact O3
          clear AW O3 G3 L3 L4 FG HT2 HB2 c0 F2
          have c0 := cell_at T3 0
          have ft := free_at T3 0
          simp at c0
          have Fst := Fr.set w3 ⟨t, 0, none⟩ (.slice (some ⟨g3, 0, none⟩) (n + 1) cap3)
          have R4 := hide (R3.fr Fst (fun i hi e => by have e : i = t := e; have e2 : g3 = i := (by simpa [Value.ownBlock] using hi); exact gt (e.symm.trans e2.symm)))
          have T4 := hide (set_block T3 0 (.slice (some ⟨g3, 0, none⟩) (n + 1) cap3))
          have B4 := hide (Fst.keep B3 (show ¬ w.heap.size = t by omega))
          have F4 := hide (F3.trans Fst (fun i _ e => by have e : i = t := e; rw [e]; exact HH.out.own.1))
          clear R3 T3 B3 F3 Fst)
        go_loopw [5] (fun i wr => ∃ (j : Nat) (y : Fl), k ≤ j ∧ j ≤ n ∧ i = .int .i64 (j : Int) ∧ FRow wr (.slice (some ⟨g3, 0, none⟩) (n + 1) cap3) (shF s.fs j y) ∧ Fr O w wr ∧ wr.heap[t]? = some (.cells #[.slice (some ⟨g3, 0, none⟩) (n + 1) cap3, .bool s.down, .int .i64 s.left, .int .i64 s.keep, .int .i64 (s.steps : Nat)] 75 (0, 0)) ∧ wr.heap[w.heap.size]? = some (.cells #[St f.name, St f.data, .int .i64 (f.safe : Nat)] 86)) (fun i _ => (intOf i).toNat)
        case atStart => exact ⟨n, ⟨[], [], 0⟩, hk, Nat.le_refl _, by go_num, R4.out, F4.out, T4.out, B4.out⟩
        case round =>
          clear R4 T4 B4 F4 c0 ft
          obtain ⟨j, y, hkj, hjn, rfl, HR, hF4, HT, HB4⟩ := hrel
          have c0 := cell_at HT 0
          simp at c0
          have hjr : j < (shF s.fs j y).length := by rw [shF_len, ← HN.out]; omega
          by_cases hkj2 : k < j
          · obtain ⟨m, hm⟩ : ∃ m, j = m + 1 := ⟨j - 1, by omega⟩
            have hj2 : (k : Int) < (j : Int) := by omega
            have wj : IntKind.i64.wrap ((j : Int) - 1) = (m : Int) := by rw [IntWalk.i64_in _ (by omega)]; omega
            have hmr : m < (shF s.fs j y).length := by omega
            have hml : m < s.fs.length := by have := HN.out; omega
            have HE : (shF s.fs j y)[m] = s.fs[m] := by subst hm; exact shF_before _ _ _ _
            have HS := hide (show (shF s.fs j y).set j s.fs[m] = shF s.fs m s.fs[m] by subst hm; rw [shF_set _ _ _ _ (by omega), shF_step])
            obtain ⟨x0, x1, x2, x3⟩ := HR.c hmr
            rw [HE] at x0 x1 x2
            generalize hy : s.fs[m] = z at x0 x1 x2 HS
            have hj3 : (j : Int) < (n : Int) + 1 := by omega
            have hm3 : (m : Int) < (n : Int) + 1 := by omega
            have hkm : k ≤ m := by omega
            have hmn : m ≤ n := by omega
            have hmj : m < j := by omega
            clear hy HE hm
            have HR1 := hide HR
            have HT1 := hide HT
            have R5 := hide (HR.fr (Fr.drew wr) (fun _ _ e => e))
            have T5 := hide ((Fr.drew wr).keep HT (fun e => e))
            have B5 := hide ((Fr.drew wr).keep HB4 (fun e => e))
            have F5 := hide (hF4.andNo (Fr.drew wr))
            clear HR HT HB4 hF4
            go_wp2
            go_still_tail 14, (by kernel_rfl)
            change wpList _ _ _ _ _ wr.drew
            generalize wr.drew = w5 at *
            clear x0 x1 x2 x3 c0
            obtain ⟨_, _, _, x3⟩ := R5.out.c hjr
            have q0 := x3 (j * 3)
            have q1 := x3 (j * 3 + 1)
            have q2 := x3 (j * 3 + 2)
            clear x3
            go_wp2
            have R6 := R5.out.put3 hjr z
            rw [HS.out] at R6
            have Fst := ((Fr.set w5 ⟨g3, j * 3, none⟩ (St z.name)).trans (Fr.set _ ⟨g3, j * 3 + 1, none⟩ (St z.data)) (fun i _ e => e)).trans (Fr.set _ ⟨g3, j * 3 + 2, none⟩ (.int .i64 (z.safe : Nat))) (fun i _ e => e)
            have T6 := Fst.keep T5.out gt
            have B6 := Fst.keep B5.out gw
            have F6 := F5.out.trans Fst (fun i hi e => by
              have e : i = g3 := e
              rcases G2 with G2 | G2
              · exact absurd hi (by omega)
              · rw [e]; exact G2)
            go_roundw
            case rel => exact ⟨m, z, hkm, hmn, by go_num, R6, F6, T6, B6⟩
            case measure => simp [intOf]; omega
          · have hjk : k = j := by omega
            subst hjk
            have hj2 : ¬ (k : Int) < (k : Int) := by omega
            obtain ⟨b0, b1, b2⟩ : wr.cell? ⟨w.heap.size, 0, none⟩ = some (St f.name) ∧ wr.cell? ⟨w.heap.size, 1, none⟩ = some (St f.data) ∧ wr.cell? ⟨w.heap.size, 2, none⟩ = some (.int .i64 (f.safe : Nat)) := ⟨cell_at HB4 0, cell_at HB4 1, cell_at HB4 2⟩
            have hk3 : (k : Int) < (n : Int) + 1 := by omega
            have R5 := hide (HR.fr (Fr.drew wr) (fun _ _ e => e))
            have T5 := hide ((Fr.drew wr).keep HT (fun e => e))
            have F5 := hide (hF4.andNo (Fr.drew wr))
            clear HR HT HB4 hF4
            go_wp2
            go_still_tail 7, (by kernel_rfl)
            change wpList _ _ _ _ _ wr.drew
            generalize wr.drew = w5 at *
            clear b0 b1 b2 c0
            obtain ⟨_, _, _, x3⟩ := R5.out.c hjr
            have q0 := x3 (k * 3)
            have q1 := x3 (k * 3 + 1)
            have q2 := x3 (k * 3 + 2)
            clear x3
            go_wp2
            have R6 := R5.out.put3 hjr f
            rw [shF_set _ _ _ _ (by have := HN.out; omega)] at R6
            have Fst := ((Fr.set w5 ⟨g3, k * 3, none⟩ (St f.name)).trans (Fr.set _ ⟨g3, k * 3 + 1, none⟩ (St f.data)) (fun i _ e => e)).trans (Fr.set _ ⟨g3, k * 3 + 2, none⟩ (.int .i64 (f.safe : Nat))) (fun i _ e => e)
            have T6 := Fst.keep T5.out gt
            have F6 : Fr O w _ := F5.out.trans Fst (fun i hi e => by
              have e : i = g3 := e
              rcases G2 with G2 | G2
              · exact absurd hi (by omega)
              · rw [e]; exact G2)
            have RL : (shF s.fs k f).length = n + 1 := by rw [shF_len, ← HN.out]
            have RE : putF f s.fs = shF s.fs k f := PUT.out
            go_end0
            refine ⟨rfl, F6, .slice (some ⟨g3, 0, none⟩) (n + 1) cap3, HOK.out, T6, by rw [RE]; exact R6, ⟨Or.inl HH.out.own.1, fun i hi => ?_⟩, gr_lt HH.out.lt F6.size⟩
            have hi2 : g3 = i := by simpa [Value.ownBlock] using hi
            subst hi2
            rcases G2 with G2 | G2
            · obtain ⟨cur, hb3⟩ := R6.block (g := g3) rfl
              exact Or.inr ⟨by omega, lt_of_block hb3⟩
            · exact Or.inl G2
end Go.Proofs.Ytnaedngbcndakaa
