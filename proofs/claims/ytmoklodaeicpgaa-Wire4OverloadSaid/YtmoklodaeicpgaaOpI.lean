/-
  Contracts of the library's IndexFunc, ContainsFunc and Clone at options; append of a list; the function of(code); same. Conditions: a row takes at most 2^47 bytes; an int is an int of 64 bits.
-/
import Derived.Test.YtmoklodaeicpgaaOpL
import Derived.Shelf.Abstract
import Derived.Laws.AppendOwnNone
namespace Go.Proofs.Ytmoklodaeicpgaa
open Go.RowKit Go.Joins

theorem i64_eq {a b : Int} (h : a = b) : Value.int .i64 a = .int .i64 b := by rw [h]
theorem getD_some {l : List Opt} {i : Nat} {x d : Opt} (h : l[i]? = some x) : l.getD i d = x := by rw [List.getD_eq_getElem?_getD, h]; rfl
theorem own_keep {W w2 : World} {base n size : Nat} {e : TypeId} {v : Value} {xs : List Value} (h : W.ownsRow base e size v n xs) (hb : Below W.heap.size W w2) : w2.ownsRow base e size v n xs := by
  refine ⟨h.1, ?_⟩
  rcases h.2 with hn | ⟨g, cap, cur, h1, h2, h3, h4⟩
  · exact Or.inl hn
  · have hl : g < W.heap.size := by
      rcases Nat.lt_or_ge g W.heap.size with h' | h'
      · exact h'
      · rw [Array.getElem?_eq_none h'] at h3; cases h3
    exact Or.inr ⟨g, cap, cur, h1, h2, by rw [hb.block g hl]; exact h3, h4⟩
/-- append of a list of options to a row of the call's own -/
theorem wpList_append_lstO {w : World} {ops : Array Oper} {rest : List Oper} {o : Oper} {a : Act} {Q : Exit → Act → World → Prop} (hgd : o.guard = none) (s x : Operand)
    (ho : o.op = .call { callee := .builtin .append, args := #[s, x], argTypes := #[24, 24] })
    (base : Nat) (v : Value) (pre : List Opt) (hs : a.eval s = v) (hown : OwnO w base v pre) (vx : Value) (l : List Opt) (hx : a.eval x = vx) (hl : LstO vx l w)
    (hn : (pre.length + l.length) * 24 ≤ 140737488355328) (hbase : base ≤ w.heap.size)
    (h : ∀ v' w', OwnO w' base v' (pre ++ l) → Below base w w' → w.grownBy w' v.ownBlock → wpList Try.prog ops Q rest (a.put o.dst v') w') : wpList Try.prog ops Q (o :: rest) a w := by
  obtain ⟨i0, hi, hz0, hz1, hz2⟩ := info_parts infoO
  have fin : ∀ v' w', w'.ownsRow base 47 2 v' (pre.length + l.length) (cellsO pre ++ cellsO l) → w.grownBy w' v.ownBlock → wpList Try.prog ops Q rest (a.put o.dst v') w' := by
    intro v' w' h1 h2
    refine h v' w' ?_ ((Below.refl _ _).grown h2 hbase (fun j hj => (hown.lt j hj).1)) h2
    unfold OwnO
    rw [List.length_append, cellsO_append]
    exact h1
  have cellsOf : ∀ {b o : Nat}, RowO b o l w → ∀ (j : Nat) (u : Value), (cellsO l)[j]? = some u → w.cell? ((⟨b, o, none⟩ : Go.Addr).add j) = some u := by
    intro b o hr j u hu
    have hj : j < l.length * 2 := by
      have := (List.getElem?_eq_some_iff.1 hu).1
      rwa [cellsO_len] at this
    obtain ⟨y, hy⟩ := getO_some (show j / 2 < l.length by omega)
    obtain ⟨c0, c1⟩ := cellsO_at hy
    obtain ⟨a0, a1⟩ := hr.2 _ y hy
    rw [add_at]
    rcases (show j % 2 = 0 ∨ j % 2 = 1 by omega) with e | e
    · rw [show j / 2 * 2 = j by omega, hu] at c0
      rw [Option.some.inj c0, show o + j = o + j / 2 * 2 by omega]; exact a0
    · rw [show j / 2 * 2 + 1 = j by omega, hu] at c1
      rw [Option.some.inj c1, show o + j = o + j / 2 * 2 + 1 by omega]; exact a1
  rcases hl with ⟨p, c, rfl, rfl, hpc, _⟩ | ⟨b, ofs, c, rfl, hr, _⟩
  · cases p with
    | none =>
      obtain rfl := hpc rfl
      refine wpList_append_own_none hgd s x 24 ho base 47 i0 2 Try.underlying24 hi v pre.length (cellsO pre) hs hown hx ?_
      exact h v w (by rw [List.append_nil]; exact hown) (Below.refl _ _) (World.grownBy.refl _ _)
    | some ad =>
      refine wpList_append_own w hgd s x 24 ho base 47 i0 (.agg #[.int .u8 0, .string ⟨#[]⟩]) 2 24 Try.underlying24 hi hz0 hz1 hz2 rfl (by decide) v pre.length (cellsO pre) hs hown ad 0 c [] hx rfl (fun j u h => by simp at h) (fun u h => by simp at h) (by unfold maxLen; omega) (by omega) hbase ?_
      intro v2 w2 h1 h2 _
      exact fin v2 w2 (by simpa [cellsO] using h1) h2
  · refine wpList_append_own w hgd s x 24 ho base 47 i0 (.agg #[.int .u8 0, .string ⟨#[]⟩]) 2 24 Try.underlying24 hi hz0 hz1 hz2 rfl (by decide) v pre.length (cellsO pre) hs hown ⟨b, ofs, none⟩ l.length c (cellsO l) hx (cellsO_len l) (cellsOf hr) (cellsO_one l) (by unfold maxLen; omega) (by omega) hbase ?_
    intro v2 w2 h1 h2 _
    exact fin v2 w2 h1 h2
/-- an empty composite is a row of the call's own -/
theorem own_empty (W : World) : OwnO (W.alloc (.cells #[] 47)) W.heap.size (.slice (some ⟨W.heap.size, 0, none⟩) 0 0) [] :=
  World.ownsRow_lit W #[] 0 (Nat.le_refl _) (by unfold maxLen; omega) rfl
/-- the beginning of a list -/
theorem lstO_cut {p : Option Go.Addr} {c f : Nat} {l : List Opt} {W : World} (h : LstO (.slice p l.length c) l W) (hf : f ≤ l.length) : LstO (.slice p f c) (l.take f) W := by
  rcases h with ⟨_, c', hv, rfl, h1, h2⟩ | ⟨b, o, c', hv, hr, h1, h2, h3⟩
  · cases hv
    obtain rfl : f = 0 := by simpa using hf
    exact Or.inl ⟨_, _, rfl, rfl, h1, h2⟩
  · cases hv
    cases f with
    | zero => exact Or.inl ⟨_, _, rfl, rfl, fun e => (by cases e), h3⟩
    | succ f =>
      have hl : (l.take (f + 1)).length = f + 1 := by rw [List.length_take]; omega
      refine Or.inr ⟨b, o, c, by rw [hl], ⟨hr.1, fun j x hj => hr.2 j x ?_⟩, by omega, fun e => by rw [e] at hl; simp at hl, h3⟩
      have hj2 : j < f + 1 := by
        have := (List.getElem?_eq_some_iff.1 hj).1
        omega
      rw [List.getElem?_take_of_lt hj2] at hj
      exact hj
def idxI (P : Opt → Bool) (l : List Opt) : Int := match l.findIdx? P with
  | some i => (i : Int)
  | none => -1
theorem idx_at {P : Opt → Bool} {l : List Opt} {k : Nat} {x : Opt} (hx : l[k]? = some x) (h : ∀ j, j < k → P (l.getD j ((0, ⟨#[]⟩) : Opt)) = false) (hp : P x = true) : idxI P l = (k : Int) := by
  obtain ⟨hk, he⟩ := List.getElem?_eq_some_iff.1 hx
  have : l.findIdx? P = some k := List.findIdx?_eq_some_iff_getElem.2 ⟨hk, by rw [he]; exact hp, fun j hj => by
    have := h j hj
    rw [List.getD_eq_getElem?_getD, List.getElem?_eq_getElem (show j < l.length by omega)] at this
    simpa using this⟩
  unfold idxI
  rw [this]
theorem idx_no {P : Opt → Bool} {l : List Opt} (h : ∀ j, j < l.length → P (l.getD j ((0, ⟨#[]⟩) : Opt)) = false) : idxI P l = -1 := by
  have : l.findIdx? P = none := List.findIdx?_eq_none_iff.2 fun x hx => by
    obtain ⟨j, hj, rfl⟩ := List.getElem_of_mem hx
    have := h j hj
    rw [List.getD_eq_getElem?_getD, List.getElem?_eq_getElem hj] at this
    simpa using this
  unfold idxI
  rw [this]
theorem idx_any (P : Opt → Bool) (l : List Opt) : decide (0 ≤ idxI P l) = l.any P := by
  unfold idxI
  cases h : l.findIdx? P with
  | none =>
    have := List.findIdx?_eq_none_iff.1 h
    rw [show l.any P = false from List.any_eq_false.2 (fun x hx => by simpa using this x hx)]
    rfl
  | some i =>
    obtain ⟨hi, h1, _⟩ := List.findIdx?_eq_some_iff_getElem.1 h
    rw [show l.any P = true from List.any_eq_true.2 ⟨_, List.getElem_mem hi, h1⟩]
    simp
set_option maxRecDepth 100000 in
set_option maxHeartbeats 1000000 in
theorem index_any (g : FuncId) (cb : Array Value) (P : Opt → Bool) {v : Value} {l : List Opt} (hl : l.length * 24 ≤ 140737488355328) (w : World) (hv : LstO v l w)
    (eg : ∀ args w, (callFunc g args).run Try.prog w = .ok (.enter g args) w)
    (hf : ∀ W, Below w.heap.size w W → ∀ x ∈ l, Calls Try.prog g (#[OV x] ++ cb) W (Gives (.bool (P x)) W)) :
    Calls Try.prog 53 #[v, .func (.func g) #[] cb] w (Gives (.int .i64 (idxI P l)) w) := by
  have HF := hide hf
  have HV := hide (fun W (H : Below w.heap.size w W) => hv.step H)
  obtain ⟨q, c, rfl⟩ := lstO_len hv
  clear hf hv
  go_enter Try.func53, Try.ntmps53
  go_wp2
  go_loopw [8] (fun i wr => ∃ k : Nat, k ≤ l.length ∧ i = .int .i64 (k : Nat) ∧ (∀ j, j < k → P (l.getD j ((0, ⟨#[]⟩) : Opt)) = false) ∧ Below w.heap.size w wr) (fun i _ => l.length - (intOf i).toNat)
  case atStart => exact ⟨0, Nat.zero_le _, rfl, fun j h => absurd h (Nat.not_lt_zero _), Below.refl _ _⟩
  case round =>
    obtain ⟨k, hk, rfl, hg, HB⟩ := hrel
    have HG := hide hg
    clear hg
    by_cases hlt : k < l.length
    · obtain ⟨x, hx⟩ := getO_some hlt
      obtain ⟨b, o, rfl, _, x1, x2⟩ := lstO_at (HV.out _ HB) hx
      have hc := HF.out _ HB x (List.mem_of_getElem? hx)
      have GD := hide (getD_some (d := ((0, ⟨#[]⟩) : Opt)) hx)
      cases e : P x with
      | false =>
        rw [e] at hc
        have E := hide e
        clear e hx
        go_wp2_with (go_at_fn g; refine hc.mono ?_; rintro e w' ⟨rfl, hb⟩)
        go_roundw
        case rel =>
          refine ⟨k + 1, hlt, by go_num, fun j hj => ?_, chain HB hb⟩
          by_cases e : j = k
          · rw [e, GD.out]; exact E.out
          · exact HG.out j (by omega)
        case measure => simp [intOf]; omega
      | true =>
        rw [e] at hc
        have R := hide (idx_at hx HG.out e)
        clear e hx
        go_wp2_with (go_at_fn g; refine hc.mono ?_; rintro e w' ⟨rfl, hb⟩)
        go_ret
        exact ⟨congrArg Ending.returned (i64_eq R.out.symm), chain HB hb⟩
    · have R := hide (idx_no (P := P) (l := l) (fun i hi => HG.out i (by omega)))
      go_wp2
      go_ret
      exact ⟨congrArg Ending.returned (i64_eq R.out.symm), HB⟩
set_option maxHeartbeats 400000 in
theorem contains_any (g : FuncId) (cb : Array Value) (P : Opt → Bool) {v : Value} {l : List Opt} (hl : l.length * 24 ≤ 140737488355328) (w : World) (hv : LstO v l w)
    (eg : ∀ args w, (callFunc g args).run Try.prog w = .ok (.enter g args) w)
    (hf : ∀ W, Below w.heap.size w W → ∀ x ∈ l, Calls Try.prog g (#[OV x] ++ cb) W (Gives (.bool (P x)) W)) :
    Calls Try.prog 37 #[v, .func (.func g) #[] cb] w (Gives (.bool (l.any P)) w) := by
  have IX := hide (index_any g cb P hl w hv eg hf)
  have R := hide (idx_any P l)
  clear hf eg
  obtain ⟨q, c, rfl⟩ := lstO_len hv
  clear hv
  generalize idxI P l = n at *
  generalize l.any P = r at *
  go_enter Try.func37, Try.ntmps37
  go_wp2_with fail
  refine IX.out.mono ?_
  rintro e w' ⟨rfl, hb⟩
  go_wp2
  go_ret
  exact ⟨congrArg Ending.returned (bool_eq R.out), hb⟩

def MakesL (l : List Opt) (w : World) (e : Ending) (w' : World) : Prop := ∃ v, e = .returned v ∧ Below w.heap.size w w' ∧ OwnO w' w.heap.size v l
theorem own_nil0 (w : World) (base : Nat) : OwnO w base (.slice none 0 0) [] := World.ownsRow_nil w base _ _
set_option maxRecDepth 100000 in
set_option maxHeartbeats 1000000 in
theorem clone_any {v : Value} {l : List Opt} (hl : l.length * 24 ≤ 140737488355328) (w : World) (hv : LstO v l w) :
    Calls Try.prog 43 #[v] w (MakesL l w) := by
  have O0 := own_empty w
  have qT : ∀ (w : World) (a : Option Addr) (n c n' c' : Nat), (binOp .eql 24 (.slice a n c) (.slice none n' c')).run Try.prog w = .ok (.bool a.isNone) w := fun w a n c n' c' => Lib.run_eql_slice_nil w _ _ a n c n' c' Try.underlying24
  have B0 := below_alloc w (.cells #[] 47)
  obtain ⟨p, c, rfl⟩ := lstO_len hv
  obtain ⟨_, _, _, hpc⟩ := lstO_cap hv
  have V0 := hv.step B0
  cases p with
  | none =>
    have hl0 : l = [] := by
      rcases hv with ⟨_, _, _, e, _⟩ | ⟨_, _, _, e, _⟩
      · exact e
      · cases e
    subst hl0
    clear hv V0 O0 B0
    go_enter Try.func43, Try.ntmps43
    go_wp2
    go_ret
    exact ⟨_, rfl, Below.refl _ _, own_nil0 _ _⟩
  | some ad =>
    clear hv hpc
    go_enter Try.func43, Try.ntmps43
    go_wp2_with (at_builtin; refine wpList_append_lstO rfl (.tmp 5) (.tmp 6) rfl w.heap.size _ [] rfl O0 _ l rfl V0 (by simp; omega) B0.size ?_)
    intro v2 w2 hown2 hb2 _
    have HB2 := B0.trans hb2
    clear hb2 V0 O0 B0
    go_wp2
    go_ret
    exact ⟨_, rfl, HB2, hown2⟩
end Go.Proofs.Ytmoklodaeicpgaa
