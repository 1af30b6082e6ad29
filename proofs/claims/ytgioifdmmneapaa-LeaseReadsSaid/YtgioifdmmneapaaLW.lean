/-
  A slice of changes in memory; the contract of lease.wrong: whether one of a list is no change. Conditions: the words are words of 64 bits; a slice has fewer than 2^63 elements.
-/
import Derived.Test.YtgioifdmmneapaaLC
import Derived.Deep.DeepCutAuto
namespace Go.Proofs.Ytgioifdmmneapaa
open Go.RowKit Go.Joins

/-- one change at a place of a block -/
def AtC (b o : Nat) (c : Ch) (W : World) : Prop := W.cell? ⟨b, o, none⟩ = some (.bool c.gone) ∧ W.cell? ⟨b, o + 1, none⟩ = some (.int .i64 c.l.kind) ∧ W.cell? ⟨b, o + 2, none⟩ = some (.int .u64 (hi c.l.p : Nat)) ∧ W.cell? ⟨b, o + 3, none⟩ = some (.int .u64 (lo c.l.p : Nat)) ∧
  W.cell? ⟨b, o + 4, none⟩ = some (.int .i64 c.l.n) ∧ W.cell? ⟨b, o + 5, none⟩ = some (.int .i64 c.l.st) ∧ W.cell? ⟨b, o + 6, none⟩ = some (.string c.l.cl) ∧ W.cell? ⟨b, o + 7, none⟩ = some (.int .u32 (c.l.ia : Int)) ∧ W.cell? ⟨b, o + 8, none⟩ = some (.int .i64 c.l.un)
theorem AtC.step {b o : Nat} {c : Ch} {W w2 : World} (h : AtC b o c W) (hb : Below W.heap.size W w2) : AtC b o c w2 := by
  obtain ⟨h0, h1, h2, h3, h4, h5, h6, h7, h8⟩ := h
  exact ⟨keep_cell hb h0, keep_cell hb h1, keep_cell hb h2, keep_cell hb h3, keep_cell hb h4, keep_cell hb h5, keep_cell hb h6, keep_cell hb h7, keep_cell hb h8⟩
/-- a slice that reads as a list -/
def LstC (p : Option Go.Addr) (l : List Ch) (W : World) : Prop := ∀ (k : Nat) (c : Ch), l[k]? = some c → ∃ b o, p = some ⟨b, o, none⟩ ∧ AtC b (o + k * 9) c W
theorem LstC.step {p : Option Go.Addr} {l : List Ch} {W w2 : World} (h : LstC p l W) (hb : Below W.heap.size W w2) : LstC p l w2 := fun k c hk => by
  obtain ⟨b, o, h1, h2⟩ := h k c hk
  exact ⟨b, o, h1, h2.step hb⟩
def okL (l : List Ch) : Prop := ∀ c ∈ l, c.l.ok
def wrongL (l : List Ch) : Bool := l.any (fun c => !changeS c)
theorem wrong_yes {l : List Ch} {k : Nat} {c : Ch} (h : l[k]? = some c) (hc : changeS c = false) : wrongL l = true :=
  List.any_eq_true.2 ⟨c, List.mem_of_getElem? h, by rw [hc]; rfl⟩
theorem wrong_no {l : List Ch} (h : ∀ (k : Nat) (c : Ch), l[k]? = some c → changeS c = true) : wrongL l = false := by
  unfold wrongL
  rw [List.any_eq_false]
  intro c hc
  obtain ⟨k, hk⟩ := List.mem_iff_getElem?.1 hc
  rw [h k c hk]; decide
theorem wrong_iff {l : List Ch} : wrongL l = false ↔ ∀ c ∈ l, changeS c = true := by
  unfold wrongL
  rw [List.any_eq_false]
  constructor
  · intro h c hc
    have := h c hc
    simpa using this
  · intro h c hc
    rw [h c hc]; decide

set_option maxRecDepth 100000 in
theorem wrong1_any (c : Ch) (hc : Fits c.l.p) (w : World) :
    Calls Try.prog 59 #[Cv c] w (Gives (.bool (!changeS c)) w) := by
  have S := hide (fun W => change_any c hc W)
  generalize changeS c = r at *
  obtain ⟨gone, kind, p, n, st, cl, ia, un⟩ := c
  simp only at *
  clear hc
  go_enter Try.func59, Try.ntmps59
  go_wp2_with fail
  refine (S.out _).mono ?_
  rintro e w' ⟨rfl, hb⟩
  go_wp2
  go_ret
  exact ⟨rfl, ((Below.refl _ _).alloc (Nat.le_refl _) _).trans (hb.mono (by simp))⟩

theorem get_some {l : List Ch} {k : Nat} (h : k < l.length) : ∃ x, l[k]? = some x := ⟨_, List.getElem?_eq_getElem h⟩
abbrev FnV (f : Nat) : Value := .func (.func f) #[] #[]
def idxOk (l : List Ch) (i : Int) : Prop := (wrongL l = true ∧ 0 ≤ i) ∨ (wrongL l = false ∧ i = -1)
set_option maxRecDepth 100000 in
set_option maxHeartbeats 1000000 in
theorem index_any (p : Option Go.Addr) (c : Nat) (l : List Ch) (hl : okL l) (hm : l.length ≤ maxLen) (w : World) (hr : LstC p l w) :
    Calls Try.prog 88 #[.slice p l.length c, FnV 59] w (fun e w' => ∃ i : Int, e = .returned (.int .i64 i) ∧ idxOk l i ∧ Below w.heap.size w w') := by
  have HL := hide hl
  have HM := hm
  unfold maxLen at HM
  clear hl
  go_enter Try.func88, Try.ntmps88
  go_wp2_with fail
  go_loopw [8] (fun i wr => ∃ k : Nat, k ≤ l.length ∧ i = .int .i64 (k : Nat) ∧ Hid (∀ (j : Nat) (x : Ch), j < k → l[j]? = some x → changeS x = true) ∧ Below w.heap.size w wr) (fun i _ => l.length - (intOf i).toNat)
  case atStart => exact ⟨0, Nat.zero_le _, rfl, hide (fun j x h => absurd h (Nat.not_lt_zero _)), Below.refl _ _⟩
  case round =>
    obtain ⟨k, hk, rfl, HG, HB⟩ := hrel
    by_cases hlt : k < l.length
    · obtain ⟨x, hx⟩ := get_some hlt
      have fx := (HL.out x (List.mem_of_getElem? hx)).p
      have HR := hide (hr.step HB)
      obtain ⟨b, o, rfl, x0, x1, x2, x3, x4, x5, x6, x7, x8⟩ := HR.out k x hx
      have W1 := hide (fun W => wrong1_any x fx W)
      have hlt2 : (k : Int) < (l.length : Int) := by omega
      have hk0 : (0 : Int) ≤ (k : Int) := by omega
      cases hcx : changeS x with
      | true =>
        have HX := hide hx
        have HC := hide hcx
        rw [hcx] at W1
        clear hx hcx fx
        go_wp2_with fail
        refine (W1.out _).mono ?_
        rintro e w2 ⟨rfl, hb2⟩
        clear x0 x1 x2 x3 x4 x5 x6 x7 x8
        go_wp2
        go_roundw
        case rel =>
          refine ⟨k + 1, hlt, by go_num, hide (fun j y hj hy => ?_), HB.trans (hb2.mono HB.size)⟩
          by_cases e : j = k
          · subst e
            have e2 := HX.out
            rw [hy] at e2
            cases e2
            exact HC.out
          · exact HG.out j y (by omega) hy
        case measure => simp [intOf]; omega
      | false =>
        have K := hide (wrong_yes hx hcx)
        rw [hcx] at W1
        clear hx hcx fx
        go_wp2_with fail
        refine (W1.out _).mono ?_
        rintro e w2 ⟨rfl, hb2⟩
        clear x0 x1 x2 x3 x4 x5 x6 x7 x8
        go_wp2
        go_ret
        exact ⟨k, rfl, Or.inl ⟨K.out, by omega⟩, HB.trans (hb2.mono HB.size)⟩
    · have K := hide (wrong_no (l := l) (fun j x hj => HG.out j x (by have := (List.getElem?_eq_some_iff.1 hj).1; omega) hj))
      have hlt2 : ¬ (k : Int) < (l.length : Int) := by omega
      go_wp2
      go_ret
      exact ⟨-1, rfl, Or.inr ⟨K.out, rfl⟩, HB⟩

set_option maxRecDepth 100000 in
theorem contains_any (p : Option Go.Addr) (c : Nat) (l : List Ch) (hl : okL l) (hm : l.length ≤ maxLen) (w : World) (hr : LstC p l w) :
    Calls Try.prog 58 #[.slice p l.length c, FnV 59] w (Gives (.bool (wrongL l)) w) := by
  have I := hide (index_any p c l hl hm w hr)
  clear hl hm hr
  go_enter Try.func58, Try.ntmps58
  go_wp2_with fail
  refine I.out.mono ?_
  rintro e w' ⟨i, rfl, hi, hb⟩
  have HI := hide hi
  clear hi
  go_wp2
  go_ret
  refine ⟨congrArg Ending.returned (bool_eq ?_), hb⟩
  rcases HI.out with ⟨h1, h2⟩ | ⟨h1, rfl⟩
  · rw [h1]; simpa using h2
  · rw [h1]; rfl
set_option maxRecDepth 100000 in
theorem wrong_any (p : Option Go.Addr) (c : Nat) (l : List Ch) (hl : okL l) (hm : l.length ≤ maxLen) (w : World) (hr : LstC p l w) :
    Calls Try.prog 36 #[.slice p l.length c] w (Gives (.bool (wrongL l)) w) := by
  have I := hide (contains_any p c l hl hm w hr)
  clear hl hm hr
  go_enter Try.func36, Try.ntmps36
  go_wp2_with fail
  refine I.out.mono ?_
  rintro e w' ⟨rfl, hb⟩
  go_wp2
  go_ret
  exact ⟨rfl, hb⟩
end Go.Proofs.Ytgioifdmmneapaa
