/-
  Lists of options cut and put together; Parse and Emit by what they answer. Conditions: a row takes at most 2^47 bytes; a string is no longer than an int.
-/
import Derived.Test.YtcpldojgmboipaaSxC
import Derived.Laws.AppendOwnNone
namespace Go.Proofs.Ytcpldojgmboipaa
open Go.RowKit Go.Joins

/-- append of a list of options to a row of the call's own -/
theorem wpList_append_lstO {w : World} {ops : Array Oper} {rest : List Oper} {o : Oper} {a : Act} {Q : Exit → Act → World → Prop} (hgd : o.guard = none) (s x : Operand)
    (ho : o.op = .call { callee := .builtin .append, args := #[s, x], argTypes := #[22, 22] })
    (base : Nat) (v : Value) (pre : List Opt) (hs : a.eval s = v) (hown : OwnO w base v pre) (vx : Value) (l : List Opt) (hx : a.eval x = vx) (hl : LstO vx l w)
    (hn : (pre.length + l.length) * 24 ≤ 140737488355328) (hbase : base ≤ w.heap.size)
    (h : ∀ v' w', OwnO w' base v' (pre ++ l) → Below base w w' → w.grownBy w' v.ownBlock → wpList Try.prog ops Q rest (a.put o.dst v') w') : wpList Try.prog ops Q (o :: rest) a w := by
  obtain ⟨i0, hi, hz0, hz1, hz2⟩ := info_parts infoO
  have fin : ∀ v' w', w'.ownsRow base 40 2 v' (pre.length + l.length) (cellsO pre ++ cellsO l) → w.grownBy w' v.ownBlock → wpList Try.prog ops Q rest (a.put o.dst v') w' := by
    intro v' w' h1 h2
    refine h v' w' ?_ ((Below.refl _ _).grown h2 hbase (fun j hj => (hown.lt j hj).1)) h2
    unfold OwnO
    rw [List.length_append, cellsO_append]
    exact h1
  have cellsOf : ∀ {b o : Nat}, RowO b o l w → ∀ (j : Nat) (u : Value), (cellsO l)[j]? = some u → w.cell? ((⟨b, o, none⟩ : Go.Addr).add j) = some u := by
    intro b o hr j u hu
    have hj : j < l.length * 2 := by
      have := (List.getElem?_eq_some_iff.1 hu).1
      rwa [cellsO_len] at this
    obtain ⟨y, hy⟩ := getO_some (show j / 2 < l.length by omega)
    obtain ⟨c0, c1⟩ := cellsO_at hy
    obtain ⟨a0, a1⟩ := hr.2 _ y hy
    rw [add_at]
    rcases (show j % 2 = 0 ∨ j % 2 = 1 by omega) with e | e
    · rw [show j / 2 * 2 = j by omega, hu] at c0
      rw [Option.some.inj c0, show o + j = o + j / 2 * 2 by omega]; exact a0
    · rw [show j / 2 * 2 + 1 = j by omega, hu] at c1
      rw [Option.some.inj c1, show o + j = o + j / 2 * 2 + 1 by omega]; exact a1
  rcases hl with ⟨p, c, rfl, rfl, hpc, _⟩ | ⟨b, ofs, c, rfl, hr, _⟩
  · cases p with
    | none =>
      obtain rfl := hpc rfl
      refine wpList_append_own_none hgd s x 22 ho base 40 i0 2 Try.underlying22 hi v pre.length (cellsO pre) hs hown hx ?_
      exact h v w (by rw [List.append_nil]; exact hown) (Below.refl _ _) (World.grownBy.refl _ _)
    | some ad =>
      refine wpList_append_own w hgd s x 22 ho base 40 i0 (.agg #[.int .u16 0, .string ⟨#[]⟩]) 2 24 Try.underlying22 hi hz0 hz1 hz2 rfl (by decide) v pre.length (cellsO pre) hs hown ad 0 c [] hx rfl (fun j u h => by simp at h) (fun u h => by simp at h) (by unfold maxLen; omega) (by omega) hbase ?_
      intro v2 w2 h1 h2 _
      exact fin v2 w2 (by simpa [cellsO] using h1) h2
  · refine wpList_append_own w hgd s x 22 ho base 40 i0 (.agg #[.int .u16 0, .string ⟨#[]⟩]) 2 24 Try.underlying22 hi hz0 hz1 hz2 rfl (by decide) v pre.length (cellsO pre) hs hown ⟨b, ofs, none⟩ l.length c (cellsO l) hx (cellsO_len l) (cellsOf hr) (cellsO_one l) (by unfold maxLen; omega) (by omega) hbase ?_
    intro v2 w2 h1 h2 _
    exact fin v2 w2 h1 h2
/-- the beginning of a list -/
theorem lstO_cut {p : Option Go.Addr} {c f : Nat} {l : List Opt} {W : World} (h : LstO (.slice p l.length c) l W) (hf : f ≤ l.length) : LstO (.slice p f c) (l.take f) W := by
  rcases h with ⟨_, c', hv, rfl, h1, h2⟩ | ⟨b, o, c', hv, hr, h1, h2, h3⟩
  · cases hv
    obtain rfl : f = 0 := by simpa using hf
    exact Or.inl ⟨_, _, rfl, rfl, h1, h2⟩
  · cases hv
    cases f with
    | zero => exact Or.inl ⟨_, _, rfl, rfl, fun e => (by cases e), h3⟩
    | succ f =>
      have hl : (l.take (f + 1)).length = f + 1 := by rw [List.length_take]; omega
      refine Or.inr ⟨b, o, c, by rw [hl], ⟨hr.1, fun j x hj => hr.2 j x ?_⟩, by omega, fun e => by rw [e] at hl; simp at hl, h3⟩
      have hj2 : j < f + 1 := by
        have := (List.getElem?_eq_some_iff.1 hj).1
        omega
      rw [List.getElem?_take_of_lt hj2] at hj
      exact hj
theorem lstO_dropE {q : Option Go.Addr} {c i : Nat} {l : List Opt} {W : World} (h : LstO (.slice q l.length c) l W) (hi : i ≤ l.length) (hc : c = i) : LstO (.slice q (l.length - i) 0) (l.drop i) W := by
  obtain ⟨_, h2, h3, h4⟩ := lstO_cap h
  have e : l.drop i = [] := List.drop_eq_nil_of_le (by omega)
  rw [e, show l.length - i = 0 by omega]
  exact Or.inl ⟨_, _, rfl, rfl, fun _ => rfl, by omega⟩
theorem lstO_dropN {q : Option Go.Addr} {c i : Nat} {l : List Opt} {W : World} (h : LstO (.slice q l.length c) l W) (hi : i ≤ l.length) (hc : ¬ c = i) : LstO (.slice (Option.map (fun x => x.add (i * 2)) q) (l.length - i) (c - i)) (l.drop i) W := by
  obtain ⟨_, h2, h3, h4⟩ := lstO_cap h
  cases q with
  | none => exact absurd (h4 rfl) (by omega)
  | some ad =>
    by_cases hd : l.drop i = []
    · have hlen : (l.drop i).length = l.length - i := List.length_drop
      rw [hd] at hlen
      simp at hlen
      rw [hd, ← hlen]
      exact Or.inl ⟨_, _, rfl, rfl, fun e => (by cases e), by omega⟩
    · rcases h with ⟨p', c', hv, rfl, _⟩ | ⟨b', o', c', hv, hr, _⟩
      · simp at hd
      · cases hv
        have hlen : (l.drop i).length = l.length - i := List.length_drop
        have e : Option.map (fun x : Go.Addr => x.add (i * 2)) (some ⟨b', o', none⟩) = some ⟨b', o' + i * 2, none⟩ := by rw [Option.map_some, add_at]
        rw [e]
        refine Or.inr ⟨b', o' + i * 2, c - i, by rw [hlen], ⟨hr.1, fun j x hx => ?_⟩, by omega, hd, by omega⟩
        rw [List.getElem?_drop] at hx
        have := hr.2 (i + j) x hx
        rwa [show o' + (i + j) * 2 = o' + i * 2 + j * 2 by omega] at this
theorem wpList_make_O {w : World} {ops : Array Oper} {rest : List Oper} {o : Oper} {a : Act} {Q : Exit → Act → World → Prop} (hgd : o.guard = none) (l c : Operand) (hop : o.op = .makeSlice 22 l c) (n : Nat) (kl kc : IntKind) (C : Int) (hl : a.eval l = .int kl 0) (hc : a.eval c = .int kc C) (hC : C = (n : Int)) (hn : n ≤ 1000000)
    (h : ∀ w', OwnO w' w.heap.size (.slice (some ⟨w.heap.size, 0, none⟩) 0 n) [] → Below w.heap.size w w' → wpList Try.prog ops Q rest (a.put o.dst (.slice (some ⟨w.heap.size, 0, none⟩) 0 n)) w') : wpList Try.prog ops Q (o :: rest) a w := by
  obtain ⟨i0, hi, hz0, hz1, hz2⟩ := info_parts infoO
  exact wpList_make_own w hgd l c 22 hop w.heap.size 40 i0 (.agg #[.int .u16 0, .string ⟨#[]⟩]) 2 Try.underlying22 hi hz0 hz1 kl kc C n hl hc hC (by rw [hz2]; omega) (by unfold maxLen; omega) (Nat.le_refl _) (fun w' h1 h2 => h w' h1 ((Below.refl _ _).grown h2 (Nat.le_refl _) (fun j hj => (by cases hj))))
/-- what Parse gives where it reads, and where it does not -/
def ParsedP (l : List Opt) (w : World) (e : Ending) (w' : World) : Prop := ∃ p c, e = .returned (.tuple #[.slice p l.length c, .int .i64 0]) ∧ LstO (.slice p l.length c) l w' ∧ Below w.heap.size w w'
def ParsedN (y : Int) (w : World) (e : Ending) (w' : World) : Prop := ∃ p c, e = .returned (.tuple #[.slice p 0 c, .int .i64 y]) ∧ LstO (.slice p 0 c) [] w' ∧ Below w.heap.size w w'
theorem parse_yes {s : ByteArray} {l : List Opt} (h : parseK 0 (lb s) = .ok l) (hs : s.size ≤ maxLen) (w : World) : Calls Try.prog 10 #[.string s] w (ParsedP l w) := by
  refine (parse_any hs w).mono ?_
  rintro e w' ⟨v, rfl, h1, h2⟩
  have e1 : parL s = l := by unfold parL; rw [h]
  have e2 : parE s = 0 := by unfold parE; rw [h]
  rw [e1] at h1
  rw [e2]
  obtain ⟨p, c, rfl⟩ := lstO_len (ownO_lst h1)
  exact ⟨p, c, rfl, ownO_lst h1, h2⟩
theorem parse_not {s : ByteArray} {y : Int} (h : parseK 0 (lb s) = .error y) (hs : s.size ≤ maxLen) (w : World) : Calls Try.prog 10 #[.string s] w (ParsedN y w) := by
  refine (parse_any hs w).mono ?_
  rintro e w' ⟨v, rfl, h1, h2⟩
  have e1 : parL s = [] := by unfold parL; rw [h]
  have e2 : parE s = y := by unfold parE; rw [h]
  rw [e1] at h1
  rw [e2]
  obtain ⟨p, c, rfl⟩ := lstO_len (ownO_lst h1)
  exact ⟨p, c, rfl, ownO_lst h1, h2⟩
theorem emit_yes {v : Value} {l : List Opt} (hl : l.length ≤ 128) (ok : okO l) (w : World) (hv : LstO v l w) : Calls Try.prog 13 #[v] w (Gives (.tuple #[.string (bs (emitL l)), .int .i64 0]) w) := by
  have := emit_any (by omega) w hv
  unfold EmitP at this
  rw [(em_good hl ok).1, (em_good hl ok).2] at this
  exact this
end Go.Proofs.Ytcpldojgmboipaa
