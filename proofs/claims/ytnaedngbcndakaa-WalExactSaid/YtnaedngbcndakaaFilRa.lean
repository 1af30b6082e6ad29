/-
  The document's own disk in memory; the contracts of its Name, place, check, Read. Condition: a string is no longer than an int (every string is such).
-/
import Derived.Test.YtnaedngbcndakaaFilS
import Derived.Deep.AppendLies
namespace Go.Proofs.Ytnaedngbcndakaa
open Go.RowKit Go.Maps

/-- a file as the document's own disk lays it -/
def wdF (f : Fl) : List Value := [St f.name, St f.data, .int .i64 (f.safe : Nat)]
def flat (l : List Fl) : List Value := l.flatMap wdF
theorem flat_cons (f : Fl) (l : List Fl) : flat (f :: l) = wdF f ++ flat l := rfl
theorem flat_append (a b : List Fl) : flat (a ++ b) = flat a ++ flat b := by unfold flat; rw [List.flatMap_append]
theorem flat_len : ∀ l : List Fl, (flat l).length = l.length * 3
  | [] => rfl
  | f :: r => by rw [flat_cons, List.length_append, flat_len r]; simp [wdF]; omega
theorem flat_get : ∀ (l : List Fl) (k i : Nat) (hk : k < l.length), i < 3 → (flat l)[k * 3 + i]? = (wdF l[k])[i]?
  | f :: r, 0, i, _, hi => by
    rw [flat_cons, Nat.zero_mul, Nat.zero_add, List.getElem?_append_left (by simpa [wdF] using hi)]; rfl
  | f :: r, k + 1, i, hk, hi => by
    rw [flat_cons, List.getElem?_append_right (by simp [wdF]; omega)]
    have := flat_get r k i (by simpa using hk) hi
    rw [show (k + 1) * 3 + i - (wdF f).length = k * 3 + i by simp [wdF]; omega]
    exact this
theorem flat_set : ∀ (l : List Fl) (k i : Nat) (f' : Fl) (u : Value) (hk : k < l.length), i < 3 → wdF f' = (wdF l[k]).set i u → (flat l).set (k * 3 + i) u = flat (l.set k f')
  | f :: r, 0, i, f', u, _, hi, h => by
    rw [flat_cons, Nat.zero_mul, Nat.zero_add, List.set_append_left _ _ (by simpa [wdF] using hi)]
    show (wdF f).set i u ++ flat r = wdF f' ++ flat r
    rw [h]; rfl
  | f :: r, k + 1, i, f', u, hk, hi, h => by
    rw [flat_cons, List.set_append_right _ _ (by simp [wdF]; omega)]
    rw [show (k + 1) * 3 + i - (wdF f).length = k * 3 + i by simp [wdF]; omega]
    rw [flat_set r k i f' u (by simpa using hk) hi h]
    rfl
/-- a row of the document's own files -/
def FRow (w : World) (v : Value) (l : List Fl) : Prop := w.ownsRow 0 86 3 v l.length (flat l)
variable {w w' w1 w2 w3 : World} {t : Nat} {v : Value} {O : Nat → Prop} {s s' : Dk} {l : List Fl}
theorem FRow.fr {S : Nat → Prop} (h : FRow w v l) (F : Fr S w w') (hn : ∀ i, v.ownBlock = some i → ¬ S i) : FRow w' v l := own_fr h F hn
theorem FRow.at (h : FRow w v l) {k : Nat} (hk : k < l.length) : ∃ g cap, v = .slice (some ⟨g, 0, none⟩) l.length cap ∧ w.cell? ⟨g, k * 3, none⟩ = some (St l[k].name) ∧ w.cell? ⟨g, k * 3 + 1, none⟩ = some (St l[k].data) ∧ w.cell? ⟨g, k * 3 + 2, none⟩ = some (.int .i64 (l[k].safe : Nat)) ∧ (∀ i, w.frozen? ⟨g, i, none⟩ = false) ∧ g < w.heap.size := by
  have h0 := h
  unfold FRow at h0
  rcases h.2 with ⟨_, h2⟩ | ⟨g, cap, cur, rfl, _, h3, h4, h5, h6, h7⟩
  · omega
  · have e := fun i (hi : i < 3) => (h0.cellAt (k * 3 + i) (by omega)).trans (flat_get l k i hk hi)
    exact ⟨g, cap, rfl, e 0 (by omega), e 1 (by omega), e 2 (by omega), free_at h3, lt_of_block h3⟩
theorem FRow.form (h : FRow w v l) : ∃ p cap, v = .slice p l.length cap := by
  rcases h.2 with ⟨rfl, h2⟩ | ⟨g, cap, cur, rfl, _⟩
  · exact ⟨none, 0, by rw [h2]⟩
  · exact ⟨_, _, rfl⟩
theorem FRow.block (h : FRow w v l) {g : Nat} (hg : v.ownBlock = some g) : ∃ cur, w.heap[g]? = some (.cells cur 86 (0, 0)) := by
  rcases h.2 with ⟨rfl, _⟩ | ⟨g, cap, cur, rfl, h2, h3, h4⟩
  · cases hg
  · cases hg
    exact ⟨cur, h3⟩
theorem FRow.set {g cap : Nat} (h : FRow w (.slice (some ⟨g, 0, none⟩) l.length cap) l) {k i : Nat} (hk : k < l.length) (hi : i < 3) {f' : Fl} {u : Value} (hu : wdF f' = (wdF l[k]).set i u) :
    FRow (w.setCell ⟨g, k * 3 + i, none⟩ u) (.slice (some ⟨g, 0, none⟩) (l.set k f').length cap) (l.set k f') := by
  obtain ⟨h1, h2⟩ := h
  rcases h2 with ⟨h2, _⟩ | ⟨g2, cap2, cur, e1, h2, h3, h4, h5, h6, h7⟩
  · cases h2
  · cases e1
    unfold FRow
    rw [List.length_set]
    refine ⟨by rw [flat_len, List.length_set], Or.inr ⟨g, cap, _, rfl, h2, set_block h3 _ u, h4, h5, by simpa using h6, ?_⟩⟩
    rw [Array.toList_setIfInBounds, List.take_set, h7]
    exact flat_set l k i f' u hk hi hu
/-- memory holds the document's own disk s at block t -/
structure RefAt (w : World) (t : Nat) (v : Value) (O : Nat → Prop) (s : Dk) : Prop where
  ok : DkOk s
  cells : w.heap[t]? = some (.cells #[v, .bool s.down, .int .i64 s.left, .int .i64 s.keep, .int .i64 (s.steps : Nat)] 75 (0, 0))
  row : FRow w v s.fs
  own : O t ∧ ∀ g, v.ownBlock = some g → O g
  lt : ∀ k, O k → k < w.heap.size
def IsRef (w : World) (t : Nat) (O : Nat → Prop) (s : Dk) : Prop := ∃ v, RefAt w t v O s
def ActsR (w : World) (t : Nat) (O : Nat → Prop) (x : Value) (s' : Dk) (e : Ending) (w' : World) : Prop := e = .returned x ∧ Fr O w w' ∧ IsRef w' t (Gr O w w') s'
theorem RefAt.fr {S : Nat → Prop} (h : RefAt w t v O s) (F : Fr S w w') (hS : ∀ i, O i → ¬ S i) : RefAt w' t v O s :=
  ⟨h.ok, F.keep h.cells (hS t h.own.1), h.row.fr F (fun i hi => hS i (h.own.2 i hi)), h.own, fun i hi => Nat.lt_of_lt_of_le (h.lt i hi) F.size⟩
theorem RefAt.no (h : RefAt w t v O s) (F : Fr No w w') : RefAt w' t v O s := h.fr F (fun _ _ e => e)
theorem IsRef.fr {S : Nat → Prop} (h : IsRef w t O s) (F : Fr S w w') (hS : ∀ i, O i → ¬ S i) : IsRef w' t O s := by
  obtain ⟨v, h⟩ := h
  exact ⟨v, h.fr F hS⟩
theorem IsRef.no (h : IsRef w t O s) (F : Fr No w w') : IsRef w' t O s := h.fr F (fun _ _ e => e)
theorem IsRef.lt (h : IsRef w t O s) : ∀ k, O k → k < w.heap.size := by
  obtain ⟨v, h⟩ := h
  exact h.lt
theorem IsRef.ok (h : IsRef w t O s) : DkOk s := by
  obtain ⟨v, h⟩ := h
  exact h.ok
theorem RefAt.wider (h : RefAt w t v O s) {O' : Nat → Prop} (h1 : ∀ k, O k → O' k) (h2 : ∀ k, O' k → k < w.heap.size) : RefAt w t v O' s := ⟨h.ok, h.cells, h.row, ⟨h1 _ h.own.1, fun g hg => h1 _ (h.own.2 g hg)⟩, h2⟩
theorem IsRef.wider (h : IsRef w t O s) {O' : Nat → Prop} (h1 : ∀ k, O k → O' k) (h2 : ∀ k, O' k → k < w.heap.size) : IsRef w t O' s := by
  obtain ⟨v, h⟩ := h
  exact ⟨v, h.wider h1 h2⟩
theorem IsRef.acts (h : IsRef w t O s) (k : Fr O w w') (h' : IsRef w' t O s') : IsRef w' t (Gr O w w') s' := h'.wider (fun _ e => Or.inl e) (gr_lt h.lt k.size)
theorem RefAt.cs (h : RefAt w t v O s) : w.cell? ⟨t, 0, none⟩ = some v ∧ w.cell? ⟨t, 1, none⟩ = some (.bool s.down) ∧ w.cell? ⟨t, 2, none⟩ = some (.int .i64 s.left) ∧ w.cell? ⟨t, 3, none⟩ = some (.int .i64 s.keep) ∧ w.cell? ⟨t, 4, none⟩ = some (.int .i64 (s.steps : Nat)) ∧ (∀ i, w.frozen? ⟨t, i, none⟩ = false) :=
  ⟨cell_at h.cells 0, cell_at h.cells 1, cell_at h.cells 2, cell_at h.cells 3, cell_at h.cells 4, free_at h.cells⟩
theorem RefAt.ne (h : RefAt w t v O s) {g : Nat} (hg : v.ownBlock = some g) : t ≠ g := fun e => by
  obtain ⟨cur, h1⟩ := h.row.block hg
  have := h.cells
  rw [e, h1] at this
  simp at this

set_option maxRecDepth 100000 in
set_option maxHeartbeats 1000000 in
theorem rname_any (s : ByteArray) (hs : s.size ≤ maxLen) (w : World) : Calls Try.prog 69 #[.string s] w (Same (.bool (nameB s.data.toList)) w) := by
  unfold maxLen at hs
  have hL : s.data.toList.length = s.size := rfl
  by_cases h0 : s.size < 1 ∨ 32 < s.size
  · have V := hide (show nameB s.data.toList = false by
      unfold nameB
      rcases h0 with h0 | h0
      · have : s.data.toList = [] := List.eq_nil_of_length_eq_zero (by rw [hL]; omega)
        rw [this]; rfl
      · rw [hL, decide_eq_false (show ¬ s.size ≤ 32 by omega)]
        simp)
    clear hL
    rcases h0 with h0 | h0
    · have h1 : (s.size : Int) < 1 := by omega
      clear h0
      go_enter Try.func69, Try.ntmps69
      go_wp2
      go_ret
      exact ⟨congrArg Ending.returned (bool_eq V.out.symm), rfl⟩
    · have h1 : ¬ (s.size : Int) < 1 := by omega
      have h2 : 32 < (s.size : Int) := by omega
      clear h0
      go_enter Try.func69, Try.ntmps69
      go_wp2
      go_ret
      exact ⟨congrArg Ending.returned (bool_eq V.out.symm), rfl⟩
  have V := hide (show nameB s.data.toList = s.data.toList.all signB by
    unfold nameB
    have hne : s.data.toList ≠ [] := fun e => by
      have := congrArg List.length e
      rw [hL] at this
      exact absurd (show s.size = 0 from this) (by omega)
    rw [hL, decide_eq_true (show s.size ≤ 32 by omega), decide_eq_true hne]
    simp)
  have h1 : ¬ (s.size : Int) < 1 := by omega
  have h2 : ¬ 32 < (s.size : Int) := by omega
  have HL := hide hL
  clear h0 hL
  go_enter Try.func69, Try.ntmps69
  go_wp2
  go_loop [3] (fun i => ∃ k : Nat, k ≤ s.size ∧ i = .int .i64 (k : Int) ∧ Hid ((s.data.toList.take k).all signB = true)) (fun i => s.size - (intOf i).toNat)
  case atStart => exact ⟨0, Nat.zero_le _, rfl, hide rfl⟩
  case round =>
    obtain ⟨k, hk, rfl, HA⟩ := hrel
    by_cases hlt : k < s.size
    · have hlt2 : (k : Int) < (s.size : Int) := by omega
      have AT := hide (all_take s.data.toList k (by rw [HL.out]; exact hlt))
      have SE := hide (sign_eq s[k])
      have GE := hide (show s.data.toList[k]'(by rw [HL.out]; exact hlt) = s[k] from rfl)
      have ME := hide (List.getElem_mem (l := s.data.toList) (n := k) (by rw [HL.out]; exact hlt))
      have hc := s[k].toNat_lt
      generalize hcc : s[k].toNat = c at *
      have HCC := hide hcc
      by_cases q : (97 ≤ c ∧ c ≤ 122) ∨ (48 ≤ c ∧ c ≤ 57) ∨ c = 46 ∨ c = 45
      · have T : Hid (signB s[k] = true) := hide (by rw [SE.out]; simp; omega)
        rcases q with ⟨q1, q2⟩ | ⟨q1, q2⟩ | q1 | q1
        · have a1 : 97 ≤ (c : Int) := by omega
          have a2 : (c : Int) ≤ 122 := by omega
          go_wp2
          go_round
          case rel => exact ⟨k + 1, by omega, by go_num, hide (by rw [AT.out, HA.out, GE.out, T.out]; rfl)⟩
          case measure => simp [intOf]; omega
        · have a1 : ¬ 97 ≤ (c : Int) := by omega
          have a2 : (c : Int) ≤ 57 := by omega
          have a3 : 48 ≤ (c : Int) := by omega
          go_wp2
          go_round
          case rel => exact ⟨k + 1, by omega, by go_num, hide (by rw [AT.out, HA.out, GE.out, T.out]; rfl)⟩
          case measure => simp [intOf]; omega
        · subst q1
          go_wp2
          go_round
          case rel => exact ⟨k + 1, by omega, by go_num, hide (by rw [AT.out, HA.out, GE.out, T.out]; rfl)⟩
          case measure => simp [intOf]; omega
        · subst q1
          go_wp2
          go_round
          case rel => exact ⟨k + 1, by omega, by go_num, hide (by rw [AT.out, HA.out, GE.out, T.out]; rfl)⟩
          case measure => simp [intOf]; omega
      · have T : Hid (signB s[k] = false) := hide (by rw [SE.out]; simp; omega)
        have a1 : ((c : Int) == 46) = false := by simp; omega
        have a2 : ((c : Int) == 45) = false := by simp; omega
        have a3 : ¬ (c : Int) = 46 := by omega
        have a4 : ¬ (c : Int) = 45 := by omega
        have a5 : (¬ 97 ≤ (c : Int) ∧ ¬ 48 ≤ (c : Int)) ∨ (¬ 97 ≤ (c : Int) ∧ 48 ≤ (c : Int) ∧ ¬ (c : Int) ≤ 57) ∨ (97 ≤ (c : Int) ∧ ¬ (c : Int) ≤ 122 ∧ 48 ≤ (c : Int) ∧ ¬ (c : Int) ≤ 57) := by omega
        rcases a5 with ⟨b1, b2⟩ | ⟨b1, b2, b3⟩ | ⟨b1, b2, b3, b4⟩
        all_goals
          go_wp2
          go_ret
          refine ⟨congrArg Ending.returned (bool_eq ?_), rfl⟩
          rw [V.out]
          symm
          rw [List.all_eq_false]
          exact ⟨_, ME.out, by rw [GE.out, T.out]; simp⟩
    · have hlt2 : ¬ (k : Int) < (s.size : Int) := by omega
      go_wp2
      go_ret
      refine ⟨congrArg Ending.returned (bool_eq ?_), rfl⟩
      rw [V.out, ← HA.out, List.take_of_length_le (by rw [HL.out]; omega)]
end Go.Proofs.Ytnaedngbcndakaa
