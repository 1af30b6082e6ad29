/-
  PutIA, GetIA, Sound, ias by what they answer: forms for the laws' walks. Conditions: rows take at most 2^47 bytes; an address is one of 128 bits; a string is no longer than an int.
-/
import Derived.Test.YtcpldojgmboipaaSxA
namespace Go.Proofs.Ytcpldojgmboipaa
open Go.RowKit Go.Joins

theorem parse_err : ∀ (f k : Nat) (s : List UInt8) (y : Int), s.length ≤ f → parseK k s = .error y → y = 3 ∨ y = 6
  | 0, k, s, y, hf, h => by
    have : s = [] := List.length_eq_zero_iff.1 (by omega)
    subst this
    rw [parse_nil] at h; cases h
  | f + 1, k, s, y, hf, h => by
    by_cases h0 : s = []
    · subst h0; rw [parse_nil] at h; cases h
    by_cases h1 : s.length < 4
    · rw [parse_short h0 h1, Except.error.injEq] at h; exact Or.inl h.symm
    by_cases h2 : s.length < 4 + lenP s
    · rw [parse_cut h1 h2, Except.error.injEq] at h; exact Or.inl h.symm
    by_cases h3 : 128 ≤ k
    · rw [parse_many h1 h2 h3, Except.error.injEq] at h; exact Or.inr h.symm
    rw [parse_step h1 h2 h3] at h
    have hr := restP_len h1
    cases hp : parseK (k + 1) (restP s) with
    | ok l => rw [hp] at h; cases h
    | error z =>
      rw [hp] at h
      have h : Except.error z = (Except.error y : Except Int (List Opt)) := h
      rw [Except.error.injEq] at h
      subst h
      exact parse_err f (k + 1) (restP s) z (by omega) hp
theorem parse_err0 {k : Nat} {s : List UInt8} {y : Int} (h : parseK k s = .error y) : y = 3 ∨ y = 6 := parse_err s.length k s y (Nat.le_refl _) h
theorem statF_err : ∀ (l : List Opt) (c : Int) (y : Int), statF c l = .error y → y = 130
  | [], c, y, h => by rw [statF] at h; cases h
  | x :: r, c, y, h => by
    rw [statF] at h
    split at h
    · split at h
      · rw [Except.error.injEq] at h; exact h.symm
      · exact statF_err r _ y h
    · exact statF_err r c y h
theorem readI_err {k : Int} {s : List UInt8} {y : Int} (h : readI k s = .error y) : y = 3 ∨ y = 6 ∨ y = 130 := by
  unfold readI at h
  split at h
  · rw [Except.error.injEq] at h; exact Or.inl h.symm
  split at h
  · rw [Except.error.injEq] at h; exact Or.inr (Or.inr h.symm)
  cases hp : parseK 0 (s.drop (sizeI k)) with
  | error z =>
    rw [hp] at h
    simp only [Except.error.injEq] at h
    subst h
    rcases parse_err0 hp with e | e
    · exact Or.inl e
    · exact Or.inr (Or.inl e)
  | ok l =>
    rw [hp] at h
    simp only at h
    cases hs : statF (-1) l with
    | error z =>
      rw [hs] at h
      simp only [Except.error.injEq] at h
      subst h
      exact Or.inr (Or.inr (statF_err l _ _ hs))
    | ok c => rw [hs] at h; cases h
theorem walkF_err {k : Int} : ∀ (l : List Opt) (c : Int) (has : List In) (y : Int), walkF k c has l = .error y → y = 3 ∨ y = 6 ∨ y = 130
  | [], c, has, y, h => by rw [walkF] at h; cases h
  | x :: r, c, has, y, h => by
    rw [walkF] at h
    split at h
    · split at h
      · rw [Except.error.injEq] at h; exact Or.inr (Or.inr h.symm)
      · exact walkF_err r _ has y h
    · split at h
      · split at h
        · rw [Except.error.injEq] at h; exact Or.inr (Or.inl h.symm)
        · cases hr : readI k (lb x.2) with
          | error z =>
            rw [hr] at h
            simp only [Except.error.injEq] at h
            subst h
            exact readI_err hr
          | ok i =>
            rw [hr] at h
            exact walkF_err r c _ y h
      · exact walkF_err r c has y h
theorem readA_err {o : Opt} {y : Int} (h : readA o = .error y) : y = 3 ∨ y = 6 ∨ y = 130 := by
  unfold readA at h
  simp only at h
  split at h
  · rw [Except.error.injEq] at h; exact Or.inr (Or.inr h.symm)
  split at h
  · rw [Except.error.injEq] at h; exact Or.inl h.symm
  cases hp : parseK 0 ((lb o.2).drop (sizeA (kindK o.1.toNat))) with
  | error z =>
    rw [hp] at h
    simp only [Except.error.injEq] at h
    subst h
    rcases parse_err0 hp with e | e
    · exact Or.inl e
    · exact Or.inr (Or.inl e)
  | ok l =>
    rw [hp] at h
    simp only at h
    cases hs : walkF (kindK o.1.toNat) (-1) [] l with
    | error z =>
      rw [hs] at h
      simp only [Except.error.injEq] at h
      subst h
      exact walkF_err l _ _ _ hs
    | ok c => rw [hs] at h; cases h
/-- what GetIA gives where it reads -/
def GotP (a : IA) (w : World) (e : Ending) (w' : World) : Prop := ∃ p c, e = .returned (.tuple #[AV a (.slice p a.has.length c), .int .i64 0]) ∧ LstI (.slice p a.has.length c) a.has w' ∧ Below w.heap.size w w'
theorem getIA_ok {o : Opt} {a : IA} (h : readA o = .ok a) (hs : o.2.size ≤ maxLen) (w : World) : Calls Try.prog 23 #[OV o] w (GotP a w) := by
  refine (getIA_any o hs w).mono ?_
  rintro e w' ⟨v, rfl, h1, h2⟩
  have e1 : getV6 o = a := by unfold getV6; rw [h]
  have e2 : getE o = 0 := by unfold getE; rw [h]
  rw [e1] at h1 ⊢
  rw [e2]
  obtain ⟨p, c, rfl⟩ := lstI_len (ownI_lst h1)
  exact ⟨p, c, rfl, ownI_lst h1, h2⟩
def GotN (y : Int) (w : World) (e : Ending) (w' : World) : Prop := ∃ p c, e = .returned (.tuple #[.agg #[.int .i64 0, .int .u32 0, .int .u32 0, .int .u32 0, .slice p 0 c, .int .i64 0], .int .i64 y]) ∧ LstI (.slice p 0 c) [] w' ∧ Below w.heap.size w w'
theorem getIA_bad {o : Opt} {y : Int} (h : readA o = .error y) (hs : o.2.size ≤ maxLen) (w : World) : Calls Try.prog 23 #[OV o] w (GotN y w) := by
  refine (getIA_any o hs w).mono ?_
  rintro e w' ⟨v, rfl, h1, h2⟩
  have e1 : getV6 o = zeroIA := by unfold getV6; rw [h]
  have e2 : getE o = y := by unfold getE; rw [h]
  rw [e1] at h1 ⊢
  rw [e2]
  obtain ⟨p, c, rfl⟩ := lstI_len (ownI_lst h1)
  exact ⟨p, c, rfl, ownI_lst h1, h2⟩
theorem putIA_ok (a : IA) (hf : FitA a) (hs : soundA a = true) {v : Value} (w : World) (hv : LstI v a.has w) :
    Calls Try.prog 19 #[AV a v] w (Gives (.tuple #[OV (putA a), .int .i64 0]) w) := by
  have := putIA_yes a hf hs (by have := (soundA_iff.1 hs).2.1; omega) w hv
  have e : puE a = 0 ∧ puO a = putA a := by unfold puE puO; rw [hs]; exact ⟨rfl, rfl⟩
  rw [e.1, e.2] at this
  exact this
theorem putIA_bad (a : IA) (hf : FitA a) (hs : soundA a = false) {v : Value} (hl : a.has.length * 40 ≤ 140737488355328) (w : World) (hv : LstI v a.has w) :
    Calls Try.prog 19 #[AV a v] w (Gives (.tuple #[.agg #[.int .u16 0, .string ⟨#[]⟩], .int .i64 130]) w) := by
  have := putIA_no a hf hs hl w hv
  have e : puE a = 130 ∧ puO a = (0, ⟨#[]⟩) := by unfold puE puO; rw [hs]; exact ⟨rfl, rfl⟩
  rw [e.1, e.2] at this
  exact this
theorem putA_size {a : IA} (h : soundA a = true) : (putA a).2.size ≤ 1000000 := by
  have h2 := (soundA_iff.1 h).2.1
  have h3 := held_len h2
  have h4 := emit_len (okO_held a)
  unfold putA
  show (bs _).size ≤ _
  rw [bs_len, List.length_append, headA_len]
  have : sizeA a.kind ≤ 12 := by unfold sizeA; split <;> omega
  omega
end Go.Proofs.Ytcpldojgmboipaa
