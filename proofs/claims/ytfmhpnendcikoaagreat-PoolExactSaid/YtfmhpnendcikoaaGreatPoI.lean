/-
  Contracts of the library's IndexFunc, ContainsFunc and Clone at ranges; of the function that Build asks of each range. Conditions: the words are words of 64 bits, an int is an int of 64 bits; a slice has at most 1000000 ranges.
-/
import Derived.Test.YtfmhpnendcikoaaGreatPoA
import Derived.Shelf.Abstract
namespace Go.Proofs.YtfmhpnendcikoaaGreat
open Go.RowKit Go.Joins

theorem lst_at {p : Option Go.Addr} {n c : Nat} {l : List Rg} {W : World} {k : Nat} {x : Rg} (h : Lst (.slice p n c) l W) (hx : l[k]? = some x) : ∃ b o, p = some ⟨b, o, none⟩ ∧ RowR b o l W ∧ At b (o + k * 4) x W := by
  rcases h with ⟨p', c', hv, rfl, _⟩ | ⟨b, o, c', hv, hr, _⟩
  · simp at hx
  · cases hv; exact ⟨b, o, rfl, hr, hr.2 k x hx⟩
def idxI (P : Rg → Bool) (l : List Rg) : Int := match l.findIdx? P with
  | some i => (i : Int)
  | none => -1
theorem idx_at {P : Rg → Bool} {l : List Rg} {k : Nat} {x : Rg} (hx : l[k]? = some x) (h : ∀ j, j < k → P (l.getD j (0, 0)) = false) (hp : P x = true) : idxI P l = (k : Int) := by
  obtain ⟨hk, he⟩ := List.getElem?_eq_some_iff.1 hx
  have : l.findIdx? P = some k := List.findIdx?_eq_some_iff_getElem.2 ⟨hk, by rw [he]; exact hp, fun j hj => by
    have := h j hj
    rw [List.getD_eq_getElem?_getD, List.getElem?_eq_getElem (show j < l.length by omega)] at this
    simpa using this⟩
  unfold idxI
  rw [this]
theorem idx_no {P : Rg → Bool} {l : List Rg} (h : ∀ j, j < l.length → P (l.getD j (0, 0)) = false) : idxI P l = -1 := by
  have : l.findIdx? P = none := List.findIdx?_eq_none_iff.2 fun x hx => by
    obtain ⟨j, hj, rfl⟩ := List.getElem_of_mem hx
    have := h j hj
    rw [List.getD_eq_getElem?_getD, List.getElem?_eq_getElem hj] at this
    simpa using this
  unfold idxI
  rw [this]
theorem idx_any (P : Rg → Bool) (l : List Rg) : decide (0 ≤ idxI P l) = l.any P := by
  unfold idxI
  cases h : l.findIdx? P with
  | none =>
    have := List.findIdx?_eq_none_iff.1 h
    rw [show l.any P = false from List.any_eq_false.2 (fun x hx => by simpa using this x hx)]
    rfl
  | some i =>
    obtain ⟨hi, h1, _⟩ := List.findIdx?_eq_some_iff_getElem.1 h
    rw [show l.any P = true from List.any_eq_true.2 ⟨_, List.getElem_mem hi, h1⟩]
    simp
set_option maxRecDepth 100000 in
set_option maxHeartbeats 1000000 in
theorem index_any (g : FuncId) (cb : Array Value) (P : Rg → Bool) {v : Value} {l : List Rg} (hl : l.length ≤ 1000000) (w : World) (hv : Lst v l w)
    (eg : ∀ args w, (callFunc g args).run Tryz.prog w = .ok (.enter g args) w)
    (hf : ∀ W, Below w.heap.size w W → ∀ x ∈ l, Calls Tryz.prog g (#[RV x] ++ cb) W (Gives (.bool (P x)) W)) :
    Calls Tryz.prog 34 #[v, .func (.func g) #[] cb] w (Gives (.int .i64 (idxI P l)) w) := by
  have HF := hide hf
  have HV := hide (fun W (H : Below w.heap.size w W) => hv.step H)
  obtain ⟨q, c, rfl⟩ := lst_len hv
  clear hf hv
  go_enter Tryz.func34, Tryz.ntmps34
  go_wp2
  go_loopw [8] (fun i wr => ∃ k : Nat, k ≤ l.length ∧ i = .int .i64 (k : Nat) ∧ (∀ j, j < k → P (l.getD j (0, 0)) = false) ∧ Below w.heap.size w wr) (fun i _ => l.length - (intOf i).toNat)
  case atStart => exact ⟨0, Nat.zero_le _, rfl, fun j h => absurd h (Nat.not_lt_zero _), Below.refl _ _⟩
  case round =>
    obtain ⟨k, hk, rfl, hg, HB⟩ := hrel
    have HG := hide hg
    clear hg
    by_cases hlt : k < l.length
    · obtain ⟨x, hx⟩ := get_some hlt
      obtain ⟨b, o, rfl, _, x1, x2, x3, x4⟩ := lst_at (HV.out _ HB) hx
      have hc := HF.out _ HB x (List.mem_of_getElem? hx)
      have GD := hide (getD_some hx)
      cases e : P x with
      | false =>
        rw [e] at hc
        have E := hide e
        clear e hx
        go_wp2_with (go_at_fn g; refine hc.mono ?_; rintro e w' ⟨rfl, hb⟩)
        go_roundw
        case rel =>
          refine ⟨k + 1, hlt, by go_num, fun j hj => ?_, chain HB hb⟩
          by_cases e : j = k
          · rw [e, GD.out]; exact E.out
          · exact HG.out j (by omega)
        case measure => simp [intOf]; omega
      | true =>
        rw [e] at hc
        have R := hide (idx_at hx HG.out e)
        clear e hx
        go_wp2_with (go_at_fn g; refine hc.mono ?_; rintro e w' ⟨rfl, hb⟩)
        go_ret
        exact ⟨congrArg Ending.returned (i64_eq R.out.symm), chain HB hb⟩
    · have R := hide (idx_no (P := P) (l := l) (fun i hi => HG.out i (by omega)))
      go_wp2
      go_ret
      exact ⟨congrArg Ending.returned (i64_eq R.out.symm), HB⟩
set_option maxHeartbeats 400000 in
theorem contains_any (g : FuncId) (cb : Array Value) (P : Rg → Bool) {v : Value} {l : List Rg} (hl : l.length ≤ 1000000) (w : World) (hv : Lst v l w)
    (eg : ∀ args w, (callFunc g args).run Tryz.prog w = .ok (.enter g args) w)
    (hf : ∀ W, Below w.heap.size w W → ∀ x ∈ l, Calls Tryz.prog g (#[RV x] ++ cb) W (Gives (.bool (P x)) W)) :
    Calls Tryz.prog 16 #[v, .func (.func g) #[] cb] w (Gives (.bool (l.any P)) w) := by
  have IX := hide (index_any g cb P hl w hv eg hf)
  have R := hide (idx_any P l)
  clear hf eg
  obtain ⟨q, c, rfl⟩ := lst_len hv
  clear hv
  generalize idxI P l = n at *
  generalize l.any P = r at *
  go_enter Tryz.func16, Tryz.ntmps16
  go_wp2_with fail
  refine IX.out.mono ?_
  rintro e w' ⟨rfl, hb⟩
  go_wp2
  go_ret
  exact ⟨congrArg Ending.returned (bool_eq R.out), hb⟩

def MakesL (l : List Rg) (w : World) (e : Ending) (w' : World) : Prop := ∃ v, e = .returned v ∧ Below w.heap.size w w' ∧ Own w' w.heap.size v l
theorem own_nil0 (w : World) (base : Nat) : Own w base (.slice none 0 0) [] := World.ownsRow_nil w base _ _
set_option maxRecDepth 100000 in
set_option maxHeartbeats 1000000 in
theorem clone_any {v : Value} {l : List Rg} (hl : l.length ≤ 1000000) (w : World) (hv : Lst v l w) :
    Calls Tryz.prog 20 #[v] w (MakesL l w) := by
  have O0 := own_empty w
  have qT : ∀ (w : World) (a : Option Addr) (n c n' c' : Nat), (binOp .eql 22 (.slice a n c) (.slice none n' c')).run Tryz.prog w = .ok (.bool a.isNone) w := fun w a n c n' c' => Lib.run_eql_slice_nil w _ _ a n c n' c' Tryz.underlying22
  have B0 := below_alloc w (.cells #[] 36)
  obtain ⟨p, c, rfl⟩ := lst_len hv
  obtain ⟨_, _, hpc⟩ := lst_cap hv
  have V0 := hv.step B0
  cases p with
  | none =>
    have hl0 : l = [] := by
      rcases hv with ⟨_, _, _, e, _⟩ | ⟨_, _, _, e, _⟩
      · exact e
      · cases e
    subst hl0
    clear hv V0 O0 B0
    go_enter Tryz.func20, Tryz.ntmps20
    go_wp2
    go_ret
    exact ⟨_, rfl, Below.refl _ _, own_nil0 _ _⟩
  | some ad =>
    clear hv hpc
    go_enter Tryz.func20, Tryz.ntmps20
    go_wp2_with (at_builtin; refine wpList_append_lst rfl (.tmp 5) (.tmp 6) rfl w.heap.size _ [] rfl O0 _ l rfl V0 (by simp; omega) B0.size ?_)
    intro v2 w2 hown2 hb2 _
    have HB2 := B0.trans hb2
    clear hb2 V0 O0 B0
    go_wp2
    go_ret
    exact ⟨_, rfl, HB2, hown2⟩
theorem enters_bad (args : Array Value) (w : World) : (callFunc 17 args).run Tryz.prog w = .ok (.enter 17 args) w := enters_of Tryz.func17 (by kernel_rfl) rfl args w
theorem cmp_bad (a b : Nat) : decide (0 < cmpS a b) = !decide (a ≤ b) := by
  unfold cmpS
  rw [← decide_not, decide_eq_decide]
  repeat' split
  all_goals omega
set_option maxHeartbeats 400000 in
theorem bad_any (x : Rg) (w : World) : Calls Tryz.prog 17 #[RV x] w (Gives (.bool (!okR x)) w) := by
  have R := hide (cmp_bad x.1 x.2)
  go_enter Tryz.func17, Tryz.ntmps17
  go_wp2_with fail
  refine (cmp_any x.1 x.2 _).mono ?_
  rintro e w1 ⟨rfl, hb1⟩
  go_wp2
  go_ret
  exact ⟨congrArg Ending.returned (bool_eq R.out), chain (below_alloc _ _) hb1⟩
theorem any_bad (l : List Rg) : l.any (fun x => !okR x) = !okL l := by
  unfold okL
  induction l with
  | nil => rfl
  | cons x r ih => rw [List.any_cons, List.all_cons, ih, Bool.not_and]
theorem bads_any {v : Value} {l : List Rg} (hl : l.length ≤ 1000000) (w : World) (hv : Lst v l w) :
    Calls Tryz.prog 16 #[v, .func (.func 17) #[] #[]] w (Gives (.bool (!okL l)) w) := by
  have h := contains_any 17 #[] (fun x => !okR x) hl w hv enters_bad (fun W _ x _ => bad_any x W)
  rw [any_bad] at h
  exact h
end Go.Proofs.YtfmhpnendcikoaaGreat
