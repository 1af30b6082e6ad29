/-
  The contracts of New, step, Arm, On, Down, Steps, Safe. Conditions: an int is one of 64 bits, a string is no longer than an int, and fewer than 2^62 operations have been answered OK.
-/
import Derived.Test.YtnaedngbcndakaaFilF
namespace Go.Proofs.Ytnaedngbcndakaa
open Go.RowKit Go.Maps

variable {w w' : World} {d m : Nat} {O : Nat → Prop} {D : DataW Unit} {fb : Nm → Nat} {sv : Nm → Value} {s : Dk}
theorem IsDsk.acts (h : IsDsk w d O s) (k : Fr O w w') {s' : Dk} (h' : IsDsk w' d O s') : IsDsk w' d (Gr O w w') s' := h'.wider (fun _ e => Or.inl e) (gr_lt h.lt k.size)

theorem down_nil (w : World) : Calls Try.prog 33 #[.pointer none] w (Same (.bool false) w) := by
  go_enter Try.func33, Try.ntmps33
  go_wp2
  go_ret
  exact ⟨rfl, rfl⟩
theorem down_any (h : IsDsk w d O s) : Calls Try.prog 33 #[Pt d] w (Same (.bool s.down) w) := by
  obtain ⟨m, D, fb, sv, h⟩ := h
  obtain ⟨l, _, _, _, c1, _⟩ := h.cells
  clear h
  go_enter Try.func33, Try.ntmps33
  go_wp2
  go_ret
  exact ⟨rfl, rfl⟩
theorem steps_nil (w : World) : Calls Try.prog 31 #[.pointer none] w (Same (.int .i64 0) w) := by
  go_enter Try.func31, Try.ntmps31
  go_wp2
  go_ret
  exact ⟨rfl, rfl⟩
theorem steps_any (h : IsDsk w d O s) : Calls Try.prog 31 #[Pt d] w (Same (.int .i64 (s.steps : Nat)) w) := by
  obtain ⟨m, D, fb, sv, h⟩ := h
  obtain ⟨l, _, _, _, _, _, _, c4, _⟩ := h.cells
  clear h
  go_enter Try.func31, Try.ntmps31
  go_wp2
  go_ret
  exact ⟨rfl, rfl⟩
theorem on_nil (w : World) : Calls Try.prog 25 #[.pointer none] w (Same (.tuple #[]) w) := by
  go_enter Try.func25, Try.ntmps25
  go_wp2
  go_end0
  exact ⟨rfl, rfl⟩
theorem on_ok (h : DkOk s) : DkOk (onD s) := ⟨h.srt, h.ok, h.len, ⟨by show (-1 : Int) ≤ -1; omega, by show (-1 : Int) ≤ _; omega⟩, h.keep⟩
theorem arm_ok (h : DkOk s) {n keep : Int} (hn : I64 n) (hk : I64 keep) : DkOk (armD s n keep) := by
  unfold armD
  split
  · exact h
  · refine ⟨h.srt, h.ok, h.len, ?_, hk⟩
    show -1 ≤ (if n < 0 then -1 else n) ∧ (if n < 0 then -1 else n) ≤ _
    split <;> omega
theorem on_any (h : IsDsk w d O s) : Calls Try.prog 25 #[Pt d] w (Acts w d O (.tuple #[]) (onD s)) := by
  have H0 := hide h
  obtain ⟨m, D, fb, sv, h⟩ := h
  have H := hide h
  obtain ⟨l, d1, _⟩ := h.disk
  have D1 := hide d1
  have f1 := free_at d1 1
  have f2 := free_at d1 2
  have k1 := cell_at d1 1
  have k2 := cell_at d1 2
  simp at k1 k2
  clear h d1
  go_enter Try.func25, Try.ntmps25
  go_wp2
  go_end0
  have Fst : Fr (fun i => i = d) w ((w.setCell ⟨d, 1, none⟩ (.bool false)).setCell ⟨d, 2, none⟩ (.int .i64 (-1))) := (Fr.set w ⟨d, 1, none⟩ _).trans (Fr.set _ ⟨d, 2, none⟩ _) (fun i _ e => e)
  have HF2 : Fr O w _ := Fst.mono (fun i _ e => by rw [e]; exact H.out.own.1)
  refine ⟨rfl, HF2, H0.out.acts HF2 ⟨m, D, fb, sv, H.out.sets Fst (by simp) (s' := onD s) rfl (on_ok H.out.ok) (l := -1) ⟨?_, Or.inl rfl, by omega⟩⟩⟩
  rw [set_block (set_block D1.out 1 _) 2]
  rfl
theorem arm_nil (n keep : Int) (w : World) : Calls Try.prog 21 #[.pointer none, .int .i64 n, .int .i64 keep] w (Same (.tuple #[]) w) := by
  go_enter Try.func21, Try.ntmps21
  go_wp2
  go_end0
  exact ⟨rfl, rfl⟩
theorem arm_any (h : IsDsk w d O s) {n keep : Int} (hn : I64 n) (hk : I64 keep) : Calls Try.prog 21 #[Pt d, .int .i64 n, .int .i64 keep] w (Acts w d O (.tuple #[]) (armD s n keep)) := by
  have H0 := hide h
  obtain ⟨m, D, fb, sv, h⟩ := h
  have H := hide h
  obtain ⟨l, d1, _⟩ := h.disk
  have D1 := hide d1
  have f2 := free_at d1 2
  have f3 := free_at d1 3
  have k1 := cell_at d1 1
  have k2 := cell_at d1 2
  have k3 := cell_at d1 3
  simp at k1 k2 k3
  clear h d1
  cases hdn : s.down with
  | true =>
    have E := hide (show armD s n keep = s by unfold armD; rw [hdn]; rfl)
    rw [hdn] at k1
    clear hdn
    go_enter Try.func21, Try.ntmps21
    go_wp2
    go_end0
    exact ⟨rfl, Fr.refl _ _, H0.out.acts (Fr.refl _ _) (by rw [E.out]; exact H0.out)⟩
  | false =>
    have E := hide (show armD s n keep = { s with left := if n < 0 then -1 else n, keep := keep } by unfold armD; rw [hdn]; rfl)
    rw [hdn] at k1
    have HDN := hide hdn
    clear hdn
    go_enter Try.func21, Try.ntmps21
    go_wp2
    go_end0
    have Fst : Fr (fun i => i = d) w ((w.setCell ⟨d, 2, none⟩ (.int .i64 n)).setCell ⟨d, 3, none⟩ (.int .i64 keep)) := (Fr.set w ⟨d, 2, none⟩ _).trans (Fr.set _ ⟨d, 3, none⟩ _) (fun i _ e => e)
    have HF2 : Fr O w _ := Fst.mono (fun i _ e => by rw [e]; exact H.out.own.1)
    have ok := arm_ok H.out.ok hn hk
    refine ⟨rfl, HF2, H0.out.acts HF2 ⟨m, D, fb, sv, H.out.sets Fst (by simp) (s' := armD s n keep) (by rw [E.out]) ok (l := n) ⟨?_, ?_, hn⟩⟩⟩
    · rw [set_block (set_block D1.out 2 _) 3, E.out]
      rfl
    · rw [E.out]
      show n = (if n < 0 then -1 else n) ∨ (n < 0 ∧ (if n < 0 then -1 else n) = -1)
      by_cases hn0 : n < 0
      · exact Or.inr ⟨hn0, if_pos hn0⟩
      · exact Or.inl (if_neg hn0).symm
/-- a step that is done -/
def Goes (w : World) (d m : Nat) (O : Nat → Prop) (D : DataW Unit) (fb : Nm → Nat) (sv : Nm → Value) (s' : Dk) (e : Ending) (w' : World) : Prop := e = .returned (.int .i64 0) ∧ Fr (fun i => i = d) w w' ∧ Dsk w' d m O D fb sv s'
set_option maxRecDepth 100000 in
theorem step_off (h : IsDsk w d O s) (hdn : s.down = false) (h0 : s.left = 0) : Calls Try.prog 54 #[Pt d] w (Acts w d O (.int .i64 60) (offD s s.keep)) := by
  have H0 := hide h
  have HDN := hide hdn
  obtain ⟨m, D, fb, sv, h⟩ := h
  have H := hide h
  obtain ⟨l, d1, hl, hl2⟩ := h.disk
  have k2 := cell_at d1 2
  have k3 := cell_at d1 3
  simp at k2 k3
  obtain rfl : l = 0 := by omega
  have OA := hide (off_any H0.out HDN.out H.out.ok.keep)
  clear h d1 hdn h0 hl
  go_enter Try.func54, Try.ntmps54
  go_wp2_with (go_at_call 23; refine OA.out.mono ?_; rintro e w3 ⟨rfl, G⟩)
  go_ret
  exact ⟨rfl, G⟩
set_option maxRecDepth 100000 in
theorem step_go (h : Dsk w d m O D fb sv s) (h0 : (s.left == 0) = false) (hst : s.steps < 4611686018427387904) : Calls Try.prog 54 #[Pt d] w (Goes w d m O D fb sv (tick s)) := by
  have H := hide h
  have h0 : ¬ s.left = 0 := by simpa using h0
  obtain ⟨l, d1, hl, hl2⟩ := h.disk
  have D1 := hide d1
  have f2 := free_at d1 2
  have f4 := free_at d1 4
  have k2 := cell_at d1 2
  have k4 := cell_at d1 4
  simp at k2 k4
  have HL := hide hl
  have hlo := h.ok.left
  have tok := H.out.ok.tick
  clear h d1
  by_cases hp : 0 < l
  · have h1 : ¬ l = 0 := by omega
    have HT := hide (show (tick s).left = l - 1 by show (if 0 < s.left then s.left - 1 else s.left) = _; rw [if_pos (by omega)]; omega)
    clear h0 hl hlo
    go_enter Try.func54, Try.ntmps54
    go_wp2
    go_ret
    have Fst : Fr (fun i => i = d) w ((w.setCell ⟨d, 2, none⟩ (.int .i64 (l - 1))).setCell ⟨d, 4, none⟩ (.int .i64 ((s.steps : Int) + 1))) := (Fr.set w ⟨d, 2, none⟩ _).trans (Fr.set _ ⟨d, 4, none⟩ _) (fun i _ e => e)
    refine ⟨rfl, Fst, H.out.sets Fst (by simp) rfl tok (l := l - 1) ⟨?_, Or.inl HT.out.symm, by omega⟩⟩
    rw [set_block (set_block D1.out 2 _) 4]
    rfl
  · have h1 : ¬ l = 0 := by omega
    have HT := hide (show (tick s).left = -1 by show (if 0 < s.left then s.left - 1 else s.left) = _; rw [if_neg (by omega)]; omega)
    have hneg : l < 0 := by omega
    clear h0 hl hlo
    go_enter Try.func54, Try.ntmps54
    go_wp2
    go_ret
    have Fst : Fr (fun i => i = d) w (w.setCell ⟨d, 4, none⟩ (.int .i64 ((s.steps : Int) + 1))) := Fr.set w ⟨d, 4, none⟩ _
    refine ⟨rfl, Fst, H.out.sets Fst (by simp) rfl tok (l := l) ⟨?_, Or.inr ⟨hneg, HT.out⟩, by omega⟩⟩
    rw [set_block D1.out 4]
    rfl
end Go.Proofs.Ytnaedngbcndakaa
