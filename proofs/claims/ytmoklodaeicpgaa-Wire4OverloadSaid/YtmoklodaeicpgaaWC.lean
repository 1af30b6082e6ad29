/-
  The contract of Sound. Condition: a row of options takes at most 2^47 bytes.
-/
import Derived.Test.YtmoklodaeicpgaaWB
namespace Go.Proofs.Ytmoklodaeicpgaa
open Go.RowKit Go.Joins

theorem neq_yes {n : Nat} {k : Int} (h : (n : Int) = k) : ((n : Int) != k) = false := by rw [h]; simp
theorem neq_no {n : Nat} {k : Int} (h : (n : Int) ≠ k) : ((n : Int) != k) = true := by simpa using h
theorem BoxM.at {b : Nat} {m : Hd} {v : Value} {W : World} (h : BoxM b m v W) : W.cell? ⟨b, 11, none⟩ = some (.string m.hard) ∧ W.cell? ⟨b, 12, none⟩ = some (.string m.name) ∧ W.cell? ⟨b, 13, none⟩ = some (.string m.file) ∧ W.cell? ⟨b, 14, none⟩ = some v :=
  ⟨cell_at h 11, cell_at h 12, cell_at h 13, cell_at h 14⟩
theorem sound_no {m : Ms} (h : soundH m.1 = false) : soundM m = false := by unfold soundM; rw [h]; rfl
set_option maxRecDepth 100000 in
set_option maxHeartbeats 4000000 in
theorem msound_any (m : Hd) {v : Value} {l : List Opt} (hl : l.length * 24 ≤ 140737488355328) (w : World) (hv : LstO v l w) :
    Calls Try.prog 14 #[MV m v] w (Gives (.bool (soundM (m, l))) w) := by
  have B0 := hide (box_new w m v)
  obtain ⟨c11, c12, c13, c14⟩ := B0.out.at
  by_cases h1 : m.hard.size = 16
  · have E1 := neq_yes (n := m.hard.size) (k := 16) (by omega)
    by_cases h2 : m.name.size = 64
    · have E2 := neq_yes (n := m.name.size) (k := 64) (by omega)
      by_cases h3 : m.file.size = 128
      · have E3 := neq_yes (n := m.file.size) (k := 128) (by omega)
        have SH := hide (show soundM (m, l) = (decide (emitE l = 0) && !hasC 52 l) by
          unfold soundM soundH
          rw [decide_eq_true (p := m.hard.size = 16 ∧ m.name.size = 64 ∧ m.file.size = 128) ⟨h1, h2, h3⟩]; rfl)
        have EM := hide (fun W (h : LstO v l W) => emit_any (v := v) (l := l) (by omega) W h)
        have FI := hide (fun W (h : LstO v l W) => find_any 52 hl W h)
        have HV := hide (fun W (H : Below w.heap.size w W) => hv.step H)
        generalize soundM (m, l) = so at *
        clear h1 h2 h3 hv
        go_enter Try.func14, Try.ntmps14
        go_wp2_with fail
        refine (EM.out _ (HV.out _ (below_alloc _ _))).mono ?_
        rintro e w2 ⟨rfl, hb2⟩
        have B2 := hide (B0.out.step hb2)
        have D2 := hide ((below_alloc w _).trans (hb2.mono (below_alloc w _).size))
        obtain ⟨_, _, _, d14⟩ := B2.out.at
        clear c11 c12 c13 c14 hb2
        go_wp2_with fail
        refine (FI.out _ (HV.out _ D2.out)).mono ?_
        rintro e w3 ⟨rfl, hb3⟩
        have D3 := hide (D2.out.trans (hb3.mono D2.out.size))
        clear hb3
        by_cases h0 : emitE l = 0
        · have Z := hide (show so = !hasC 52 l by rw [SH.out, decide_eq_true h0, Bool.true_and])
          have Q : ((emitE l : Nat) : Int) = 0 := by omega
          generalize hasC 52 l = hb at *
          generalize emitE l = n at *
          subst h0
          clear SH
          go_wp2
          go_ret
          exact ⟨congrArg Ending.returned (bool_eq Z.out.symm), D3.out⟩
        · have Z := hide (show so = false by rw [SH.out, decide_eq_false h0, Bool.false_and])
          have Q : (((emitE l : Nat) : Int) == 0) = false := by simpa using h0
          generalize hasC 52 l = hb at *
          generalize emitE l = n at *
          clear SH h0
          go_wp2
          go_ret
          exact ⟨congrArg Ending.returned (bool_eq Z.out.symm), D3.out⟩
      · have E3 := neq_no (n := m.file.size) (k := 128) (by omega)
        have SO := hide (sound_no (m := (m, l)) (show decide (m.hard.size = 16 ∧ m.name.size = 64 ∧ m.file.size = 128) = false by rw [decide_eq_false]; rintro ⟨_, _, h⟩; exact h3 h))
        clear h1 h2 h3 hv
        go_enter Try.func14, Try.ntmps14
        go_wp2
        go_ret
        exact ⟨congrArg Ending.returned (bool_eq SO.out.symm), below_alloc _ _⟩
    · have E2 := neq_no (n := m.name.size) (k := 64) (by omega)
      have SO := hide (sound_no (m := (m, l)) (show decide (m.hard.size = 16 ∧ m.name.size = 64 ∧ m.file.size = 128) = false by rw [decide_eq_false]; rintro ⟨_, h, _⟩; exact h2 h))
      clear h1 h2 hv
      go_enter Try.func14, Try.ntmps14
      go_wp2
      go_ret
      exact ⟨congrArg Ending.returned (bool_eq SO.out.symm), below_alloc _ _⟩
  · have E1 := neq_no (n := m.hard.size) (k := 16) (by omega)
    have SO := hide (sound_no (m := (m, l)) (show decide (m.hard.size = 16 ∧ m.name.size = 64 ∧ m.file.size = 128) = false by rw [decide_eq_false]; rintro ⟨h, _⟩; exact h1 h))
    clear h1 hv
    go_enter Try.func14, Try.ntmps14
    go_wp2
    go_ret
    exact ⟨congrArg Ending.returned (bool_eq SO.out.symm), below_alloc _ _⟩
end Go.Proofs.Ytmoklodaeicpgaa
