/-
  The document's own zeros, Blank, Sound. Condition: a row of options takes at most 2^47 bytes.
-/
import Derived.Test.YtmoklodaeicpgaaWP
import Derived.Test.YtmoklodaeicpgaaOctPd
import Derived.Test.YtmoklodaeicpgaaOpQb
namespace Go.Proofs.Ytmoklodaeicpgaa
open Go.RowKit Go.Joins

set_option maxRecDepth 100000 in
theorem rzeros_any (n : Nat) (hn : n ≤ 1073741824) (w : World) : Calls Try.prog 22 #[.int .i64 (n : Int)] w (Gives (.string (nul n)) w) := by
  have P := hide (pad_ref_yes ⟨#[]⟩ n (by show 0 + n ≤ _; omega) w)
  rw [show (((ByteArray.mk #[]).size + n : Nat) : Int) = (n : Int) by show ((0 + n : Nat) : Int) = _; rw [Nat.zero_add], show padV ⟨#[]⟩ n = nul n from rfl] at P
  generalize nul n = z at *
  clear hn
  go_enter Try.func22, Try.ntmps22
  go_wp2_with fail
  refine P.out.mono ?_
  rintro en w' ⟨rfl, hb⟩
  go_wp2
  go_ret
  exact ⟨rfl, hb⟩
set_option maxRecDepth 100000 in
set_option maxHeartbeats 1000000 in
theorem rblank_any (w : World) : Calls Try.prog 11 #[] w (Gives (MV blankH (.slice none 0 0)) w) := by
  have Z1 := hide (fun W => rzeros_any 16 (by omega) W)
  have Z2 := hide (fun W => rzeros_any 64 (by omega) W)
  have Z3 := hide (fun W => rzeros_any 128 (by omega) W)
  have E := hide (show blankH = ⟨0, 0, 0, 0, 0, 0, 0, 0, 0, 0, 0, nul 16, nul 64, nul 128⟩ from rfl)
  generalize blankH = B at *
  generalize nul 16 = z1 at *
  generalize nul 64 = z2 at *
  generalize nul 128 = z3 at *
  have G0 := hide (box_new w zeroH (.slice none 0 0))
  go_enter Try.func11, Try.ntmps11
  go_wp2_with fail
  refine (Z1.out _).mono ?_
  rintro en w1 ⟨rfl, hb1⟩
  go_wp2_with fail
  refine (Z2.out _).mono ?_
  rintro en w2 ⟨rfl, hb2⟩
  go_wp2_with fail
  refine (Z3.out _).mono ?_
  rintro en w3 ⟨rfl, hb3⟩
  have G3 := ((G0.out.step hb1).step hb2).step hb3
  go_wp2_with (refine wpList_store_box rfl (.tmp 0) (.tmp 4) rfl w.heap.size _ ⟨0, 0, 0, 0, 0, 0, 0, 0, 0, 0, 0, z1, z2, z3⟩ _ (.slice none 0 0) rfl rfl rfl G3 ?_; intro w4 G4 B4 _)
  have HB := hide (show Below w.heap.size w w4 from (((below_alloc w _).trans (hb1.mono (below_alloc w _).size)).trans ((hb2.mono (Nat.le_trans (below_alloc w _).size hb1.size)))).trans ((hb3.mono (Nat.le_trans (Nat.le_trans (below_alloc w _).size hb1.size) hb2.size)).trans (B4 _ (Nat.le_refl _))))
  refine bodyPost_ret (v := MV B (.slice none 0 0)) ((results_cell_row rfl _ _ w.heap.size _ _ _ _ rfl G4 Try.underlying26 rfl infoM).trans (by rw [E.out])) rfl ⟨rfl, HB.out⟩
theorem eq_yes {n : Nat} {k : Int} (h : (n : Int) = k) : ((n : Int) == k) = true := by rw [h]; simp
theorem eq_no {n : Nat} {k : Int} (h : (n : Int) ≠ k) : ((n : Int) == k) = false := by simpa using h
set_option maxRecDepth 100000 in
set_option maxHeartbeats 4000000 in
theorem rsound_any (m : Hd) {v : Value} {l : List Opt} (hl : l.length * 24 ≤ 140737488355328) (w : World) (hv : LstO v l w) :
    Calls Try.prog 15 #[MV m v] w (Gives (.bool (soundM (m, l))) w) := by
  have B0 := hide (box_new w m v)
  have c14 := B0.out.at.2.2.2
  have EM := hide (fun W (h : LstO v l W) => remit_any (v := v) (l := l) (by omega) W h)
  have FI := hide (fun W (h : LstO v l W) => rfind_any 52 hl W h)
  have HV := hide (fun W (H : Below w.heap.size w W) => hv.step H)
  clear hv
  go_enter Try.func15, Try.ntmps15
  go_wp2_with fail
  refine (EM.out _ (HV.out _ (below_alloc _ _))).mono ?_
  rintro e w2 ⟨rfl, hb2⟩
  have B2 := hide (B0.out.step hb2)
  have D2 := hide ((below_alloc w _).trans (hb2.mono (below_alloc w _).size))
  have d14 := B2.out.at.2.2.2
  clear c14 hb2
  go_wp2_with fail
  refine (FI.out _ (HV.out _ D2.out)).mono ?_
  rintro e w3 ⟨rfl, hb3⟩
  have B3 := hide (B2.out.step hb3)
  have D3 := hide (D2.out.trans (hb3.mono D2.out.size))
  obtain ⟨e11, e12, e13, _⟩ := B3.out.at
  clear hb3 d14 B2 D2 EM FI HV B0
  have SU : soundM (m, l) = (decide (m.hard.size = 16 ∧ m.name.size = 64 ∧ m.file.size = 128) && decide (emitE l = 0) && !hasC 52 l) := rfl
  by_cases g0 : m.hard.size = 16
  · have F0 := eq_yes (n := m.hard.size) (k := 16) (by omega)
    by_cases g1 : m.name.size = 64
    · have F1 := eq_yes (n := m.name.size) (k := 64) (by omega)
      by_cases g2 : m.file.size = 128
      · have F2 := eq_yes (n := m.file.size) (k := 128) (by omega)
        have DC : decide (m.hard.size = 16 ∧ m.name.size = 64 ∧ m.file.size = 128) = true := decide_eq_true ⟨g0, g1, g2⟩
        by_cases h0 : emitE l = 0
        · have Z := hide (show soundM (m, l) = !hasC 52 l by rw [SU, DC, decide_eq_true h0, Bool.true_and, Bool.true_and])
          have Q := eq_yes (n := emitE l) (k := 0) (by omega)
          generalize hasC 52 l = hb at *
          clear SU DC h0
          go_wp2
          go_ret
          exact ⟨congrArg Ending.returned (bool_eq Z.out.symm), D3.out⟩
        · have Z := hide (show soundM (m, l) = false by rw [SU, decide_eq_false h0, Bool.and_false, Bool.false_and])
          have Q := eq_no (n := emitE l) (k := 0) (by omega)
          generalize hasC 52 l = hb at *
          clear SU DC h0
          go_wp2
          go_ret
          exact ⟨congrArg Ending.returned (bool_eq Z.out.symm), D3.out⟩
      · have F2 := eq_no (n := m.file.size) (k := 128) (by omega)
        have Z := hide (show soundM (m, l) = false by rw [SU, decide_eq_false (by rintro ⟨_, _, h⟩; exact g2 h)]; rfl)
        clear SU
        go_wp2
        go_ret
        exact ⟨congrArg Ending.returned (bool_eq Z.out.symm), D3.out⟩
    · have F1 := eq_no (n := m.name.size) (k := 64) (by omega)
      have Z := hide (show soundM (m, l) = false by rw [SU, decide_eq_false (by rintro ⟨_, h, _⟩; exact g1 h)]; rfl)
      clear SU
      go_wp2
      go_ret
      exact ⟨congrArg Ending.returned (bool_eq Z.out.symm), D3.out⟩
  · have F0 := eq_no (n := m.hard.size) (k := 16) (by omega)
    have Z := hide (show soundM (m, l) = false by rw [SU, decide_eq_false (by rintro ⟨h, _⟩; exact g0 h)]; rfl)
    clear SU
    go_wp2
    go_ret
    exact ⟨congrArg Ending.returned (bool_eq Z.out.symm), D3.out⟩
end Go.Proofs.Ytmoklodaeicpgaa
