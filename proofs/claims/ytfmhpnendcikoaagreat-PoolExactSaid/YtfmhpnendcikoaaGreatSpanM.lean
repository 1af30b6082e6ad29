/-
  Sets of addresses as lists of ranges that rise and don't touch: plain arithmetic, no program.
-/
import Derived.Test.YtfmhpnendcikoaaGreatAddrP
namespace Go.Proofs.YtfmhpnendcikoaaGreat

abbrev Rg := Nat × Nat
def okR (x : Rg) : Bool := decide (x.1 ≤ x.2)
def gapB (a b : Nat) : Bool := decide (a + 2 ≤ b)
/-- a list of ranges is a set: each is a range, and ahead of each but the first there is a gap -/
def goodAt (l : List Rg) (i : Nat) : Bool := okR (l.getD i (0, 0)) && (decide (i = 0) || gapB (l.getD (i - 1) (0, 0)).2 (l.getD i (0, 0)).1)
def soundL (l : List Rg) : Bool := (List.range l.length).all (goodAt l)
def FitR (x : Rg) : Prop := Fits x.1 ∧ Fits x.2
def FitL (l : List Rg) : Prop := ∀ x ∈ l, FitR x
def inR (x : Rg) (a : Nat) : Prop := x.1 ≤ a ∧ a ≤ x.2
def memL (l : List Rg) (a : Nat) : Prop := ∃ x ∈ l, inR x a
/-- the same as a proposition -/
def Snd : List Rg → Prop
  | [] => True
  | x :: r => x.1 ≤ x.2 ∧ (∀ y ∈ r, x.2 + 2 ≤ y.1) ∧ Snd r

theorem snd_at : ∀ {l : List Rg}, Snd l → ∀ {i : Nat} {x : Rg}, l[i]? = some x → x.1 ≤ x.2
  | [], _, i, x, h => by simp at h
  | y :: r, hs, 0, x, h => by simp at h; subst h; exact hs.1
  | y :: r, hs, i + 1, x, h => snd_at hs.2.2 (by simpa using h)
theorem snd_lt : ∀ {l : List Rg}, Snd l → ∀ {i j : Nat} {x y : Rg}, i < j → l[i]? = some x → l[j]? = some y → x.2 + 2 ≤ y.1
  | [], _, i, j, x, y, _, h, _ => by simp at h
  | z :: r, hs, i, 0, x, y, hl, _, _ => by omega
  | z :: r, hs, 0, j + 1, x, y, _, h, k => by
    simp at h; subst h
    exact hs.2.1 y (List.mem_of_getElem? (by simpa using k))
  | z :: r, hs, i + 1, j + 1, x, y, hl, h, k => snd_lt hs.2.2 (i := i) (j := j) (by omega) (by simpa using h) (by simpa using k)
theorem snd_of : ∀ {l : List Rg}, (∀ (i : Nat) (x : Rg), l[i]? = some x → x.1 ≤ x.2) → (∀ (i : Nat) (x y : Rg), l[i]? = some x → l[i + 1]? = some y → x.2 + 2 ≤ y.1) → Snd l
  | [], _, _ => trivial
  | x :: r, h1, h2 => by
    have hr : Snd r := snd_of (fun i y h => h1 (i + 1) y (by simpa using h)) (fun i y z h k => h2 (i + 1) y z (by simpa using h) (by simpa using k))
    refine ⟨h1 0 x rfl, fun y hy => ?_, hr⟩
    obtain ⟨i, hi⟩ := List.getElem?_of_mem hy
    cases r with
    | nil => simp at hi
    | cons z t =>
      have hz := h2 0 x z rfl rfl
      cases i with
      | zero => simp at hi; subst hi; exact hz
      | succ i =>
        have := snd_lt hr (i := 0) (j := i + 1) (by omega) rfl hi
        have := hr.1
        omega
theorem getD_some {l : List Rg} {i : Nat} {x : Rg} (h : l[i]? = some x) : l.getD i (0, 0) = x := by rw [List.getD_eq_getElem?_getD, h]; rfl
theorem some_getD {l : List Rg} {i : Nat} (h : i < l.length) : l[i]? = some (l.getD i (0, 0)) := by rw [List.getD_eq_getElem?_getD, List.getElem?_eq_getElem h]; rfl
theorem lt_of_some {l : List Rg} {i : Nat} {x : Rg} (h : l[i]? = some x) : i < l.length := by
  rcases Nat.lt_or_ge i l.length with h' | h'
  · exact h'
  · rw [List.getElem?_eq_none h'] at h; cases h
theorem good_iff {l : List Rg} : (∀ i, i < l.length → goodAt l i = true) ↔ Snd l := by
  constructor
  · intro h
    refine snd_of (fun i x hx => ?_) (fun i x y hx hy => ?_)
    · have := h i (lt_of_some hx)
      unfold goodAt okR at this
      rw [getD_some hx] at this
      simp at this
      exact this.1
    · have := h (i + 1) (lt_of_some hy)
      unfold goodAt okR gapB at this
      rw [show i + 1 - 1 = i by omega, getD_some hx, getD_some hy] at this
      simp at this
      exact this.2
  · intro h i hi
    have hx := some_getD hi
    have h1 := snd_at h hx
    unfold goodAt okR gapB
    simp only [Bool.and_eq_true, decide_eq_true_eq, Bool.or_eq_true]
    refine ⟨h1, ?_⟩
    rcases Nat.eq_zero_or_pos i with e | e
    · exact Or.inl e
    · exact Or.inr (snd_lt h (i := i - 1) (j := i) (by omega) (some_getD (by omega)) hx)
theorem sound_snd {l : List Rg} : soundL l = true ↔ Snd l := by
  rw [← good_iff]
  unfold soundL
  simp [List.all_eq_true]
theorem sound_false {l : List Rg} {i : Nat} (h : i < l.length) (hb : goodAt l i = false) : soundL l = false := by
  cases e : soundL l with
  | false => rfl
  | true =>
    have := good_iff.2 (sound_snd.1 e) i h
    rw [hb] at this; cases this
theorem sound_true {l : List Rg} (h : ∀ i, i < l.length → goodAt l i = true) : soundL l = true := sound_snd.2 (good_iff.1 h)

theorem snd_append : ∀ {a b : List Rg}, Snd a → Snd b → (∀ x ∈ a, ∀ y ∈ b, x.2 + 2 ≤ y.1) → Snd (a ++ b)
  | [], b, _, hb, _ => hb
  | x :: a, b, ha, hb, h => by
    refine ⟨ha.1, fun y hy => ?_, snd_append ha.2.2 hb fun z hz y hy => h z (List.mem_cons_of_mem _ hz) y hy⟩
    rcases List.mem_append.1 hy with hy | hy
    · exact ha.2.1 y hy
    · exact h x (List.mem_cons_self ..) y hy
theorem mem_nil (a : Nat) : ¬ memL [] a := by rintro ⟨x, hx, _⟩; cases hx
theorem mem_cons {x : Rg} {r : List Rg} {a : Nat} : memL (x :: r) a ↔ inR x a ∨ memL r a := by
  constructor
  · rintro ⟨y, hy, h⟩
    rcases List.mem_cons.1 hy with rfl | hy
    · exact Or.inl h
    · exact Or.inr ⟨y, hy, h⟩
  · rintro (h | ⟨y, hy, h⟩)
    · exact ⟨x, List.mem_cons_self .., h⟩
    · exact ⟨y, List.mem_cons_of_mem _ hy, h⟩
theorem mem_append {a b : List Rg} {c : Nat} : memL (a ++ b) c ↔ memL a c ∨ memL b c := by
  constructor
  · rintro ⟨y, hy, h⟩
    rcases List.mem_append.1 hy with hy | hy
    · exact Or.inl ⟨y, hy, h⟩
    · exact Or.inr ⟨y, hy, h⟩
  · rintro (⟨y, hy, h⟩ | ⟨y, hy, h⟩)
    · exact ⟨y, List.mem_append_left _ hy, h⟩
    · exact ⟨y, List.mem_append_right _ hy, h⟩
/-- a set of addresses has one list -/
theorem snd_ext : ∀ {l m : List Rg}, Snd l → Snd m → (∀ a, memL l a ↔ memL m a) → l = m
  | [], [], _, _, _ => rfl
  | [], y :: s, _, hm, h => absurd ((h y.1).2 ⟨y, List.mem_cons_self .., Nat.le_refl _, hm.1⟩) (mem_nil _)
  | x :: r, [], hl, _, h => absurd ((h x.1).1 ⟨x, List.mem_cons_self .., Nat.le_refl _, hl.1⟩) (mem_nil _)
  | x :: r, y :: s, hl, hm, h => by
    obtain ⟨x0, x1, hr⟩ := hl
    obtain ⟨y0, y1, hs⟩ := hm
    have low : ∀ {z : Rg} {t : List Rg} {a : Nat}, z.1 ≤ z.2 → (∀ u ∈ t, z.2 + 2 ≤ u.1) → memL (z :: t) a → z.1 ≤ a ∧ (z.2 < a → z.2 + 2 ≤ a) := by
      intro z t a hz ht ha
      rcases mem_cons.1 ha with ha | ⟨u, hu, ha⟩
      · exact ⟨ha.1, fun e => by have := ha.2; omega⟩
      · have := ht u hu
        have := ha.1
        exact ⟨by omega, fun _ => by omega⟩
    have e1 : x.1 = y.1 := by
      have a1 := low y0 y1 ((h x.1).1 (mem_cons.2 (Or.inl ⟨Nat.le_refl _, x0⟩)))
      have a2 := low x0 x1 ((h y.1).2 (mem_cons.2 (Or.inl ⟨Nat.le_refl _, y0⟩)))
      omega
    have e2 : x.2 = y.2 := by
      rcases Nat.lt_trichotomy x.2 y.2 with e | e | e
      · have := (low x0 x1 ((h (x.2 + 1)).2 (mem_cons.2 (Or.inl ⟨by omega, by omega⟩)))).2 (by omega)
        omega
      · exact e
      · have := (low y0 y1 ((h (y.2 + 1)).1 (mem_cons.2 (Or.inl ⟨by omega, by omega⟩)))).2 (by omega)
        omega
    have e : x = y := Prod.ext e1 e2
    subst e
    congr 1
    refine snd_ext hr hs fun a => ⟨fun ha => ?_, fun ha => ?_⟩
    · rcases mem_cons.1 ((h a).1 (mem_cons.2 (Or.inr ha))) with hx | hx
      · obtain ⟨u, hu, ha⟩ := ha
        have := x1 u hu
        have := ha.1
        have := hx.2
        omega
      · exact hx
    · rcases mem_cons.1 ((h a).2 (mem_cons.2 (Or.inr ha))) with hx | hx
      · obtain ⟨u, hu, ha⟩ := ha
        have := y1 u hu
        have := ha.1
        have := hx.2
        omega
      · exact hx

/-! ### places -/
def fromS (l : List Rg) (a : Nat) : Nat := (l.takeWhile fun x => decide (x.2 < a)).length
def toS (l : List Rg) (b : Nat) : Nat := (l.takeWhile fun x => decide (x.1 ≤ b)).length
theorem from_le (l : List Rg) (a : Nat) : fromS l a ≤ l.length := (List.takeWhile_sublist _).length_le
theorem to_le (l : List Rg) (b : Nat) : toS l b ≤ l.length := (List.takeWhile_sublist _).length_le
theorem from_iff : ∀ {l : List Rg}, Snd l → ∀ {a i : Nat} {x : Rg}, l[i]? = some x → (i < fromS l a ↔ x.2 < a)
  | [], _, a, i, x, h => by simp at h
  | y :: r, hs, a, i, x, h => by
    unfold fromS
    by_cases hy : y.2 < a
    · rw [List.takeWhile_cons_of_pos (by simpa using hy), List.length_cons]
      cases i with
      | zero => simp at h; subst h; exact ⟨fun _ => hy, fun _ => by omega⟩
      | succ i =>
        have := from_iff hs.2.2 (a := a) (i := i) (x := x) (by simpa using h)
        unfold fromS at this
        constructor
        · intro h'; exact this.1 (by omega)
        · intro h'; have := this.2 h'; omega
    · rw [List.takeWhile_cons_of_neg (by simpa using hy), List.length_nil]
      constructor
      · intro h'; omega
      · intro h'
        cases i with
        | zero => simp at h; subst h; exact absurd h' hy
        | succ i =>
          have := hs.2.1 x (List.mem_of_getElem? (by simpa using h))
          have := snd_at hs h
          omega
theorem to_iff : ∀ {l : List Rg}, Snd l → ∀ {b i : Nat} {x : Rg}, l[i]? = some x → (i < toS l b ↔ x.1 ≤ b)
  | [], _, b, i, x, h => by simp at h
  | y :: r, hs, b, i, x, h => by
    unfold toS
    by_cases hy : y.1 ≤ b
    · rw [List.takeWhile_cons_of_pos (by simpa using hy), List.length_cons]
      cases i with
      | zero => simp at h; subst h; exact ⟨fun _ => hy, fun _ => by omega⟩
      | succ i =>
        have := to_iff hs.2.2 (b := b) (i := i) (x := x) (by simpa using h)
        unfold toS at this
        constructor
        · intro h'; exact this.1 (by omega)
        · intro h'; have := this.2 h'; omega
    · rw [List.takeWhile_cons_of_neg (by simpa using hy), List.length_nil]
      constructor
      · intro h'; omega
      · intro h'
        cases i with
        | zero => simp at h; subst h; exact absurd h' hy
        | succ i =>
          have := hs.2.1 x (List.mem_of_getElem? (by simpa using h))
          have := hs.1
          omega
theorem from_to {l : List Rg} (hs : Snd l) {a b : Nat} (h : a ≤ b + 1) : fromS l a ≤ toS l b := by
  rcases Nat.lt_or_ge (toS l b) (fromS l a) with hlt | hge
  · have hl := from_le l a
    have hx := some_getD (l := l) (i := toS l b) (by omega)
    have h1 := (from_iff hs hx).1 hlt
    have h2 := snd_at hs hx
    have h3 := (to_iff hs hx (b := b)).2 (by omega)
    omega
  · exact hge
theorem mem_at {l : List Rg} {a : Nat} : memL l a ↔ ∃ (i : Nat) (x : Rg), l[i]? = some x ∧ inR x a := by
  constructor
  · rintro ⟨x, hx, h⟩
    obtain ⟨i, hi⟩ := List.getElem?_of_mem hx
    exact ⟨i, x, hi, h⟩
  · rintro ⟨i, x, hi, h⟩
    exact ⟨x, List.mem_of_getElem? hi, h⟩
theorem take_at {l : List Rg} {k : Nat} {x : Rg} (h : x ∈ l.take k) : ∃ i, i < k ∧ l[i]? = some x := by
  obtain ⟨i, hi⟩ := List.getElem?_of_mem h
  rw [List.getElem?_take] at hi
  split at hi
  · exact ⟨i, by assumption, hi⟩
  · cases hi
theorem at_take {l : List Rg} {k i : Nat} {x : Rg} (hk : i < k) (h : l[i]? = some x) : x ∈ l.take k :=
  List.mem_of_getElem? (i := i) (by rw [List.getElem?_take, if_pos hk, h])
theorem drop_at {l : List Rg} {k : Nat} {x : Rg} (h : x ∈ l.drop k) : ∃ i, k ≤ i ∧ l[i]? = some x := by
  obtain ⟨i, hi⟩ := List.getElem?_of_mem h
  rw [List.getElem?_drop] at hi
  exact ⟨k + i, by omega, hi⟩
theorem at_drop {l : List Rg} {k i : Nat} {x : Rg} (hk : k ≤ i) (h : l[i]? = some x) : x ∈ l.drop k :=
  List.mem_of_getElem? (i := i - k) (by rw [List.getElem?_drop, show k + (i - k) = i by omega, h])
theorem snd_take {l : List Rg} (hs : Snd l) (k : Nat) : Snd (l.take k) := by
  refine snd_of (fun i x h => ?_) (fun i x y h h' => ?_)
  · rw [List.getElem?_take] at h
    split at h
    · exact snd_at hs h
    · cases h
  · rw [List.getElem?_take] at h h'
    split at h
    · split at h'
      · exact snd_lt hs (by omega) h h'
      · cases h'
    · cases h
theorem snd_drop {l : List Rg} (hs : Snd l) (k : Nat) : Snd (l.drop k) := by
  refine snd_of (fun i x h => ?_) (fun i x y h h' => ?_)
  · rw [List.getElem?_drop] at h
    exact snd_at hs h
  · rw [List.getElem?_drop] at h h'
    exact snd_lt hs (by omega) h h'

/-! ### a set with a range -/
/-- the address behind, but for the last -/
def whi (b : Nat) : Nat := if b = ones then b else b + 1
theorem whi_le {b x : Nat} (hx : Fits x) : x ≤ whi b ↔ x ≤ b + 1 := by
  unfold whi ones Fits at *
  split <;> omega
/-- what stands in the place of the ranges between two places -/
def midR (l : List Rg) (r : Rg) (f t : Nat) : Rg := if f < t then (min r.1 (l.getD f (0, 0)).1, max r.2 (l.getD (t - 1) (0, 0)).2) else r
def putL (l : List Rg) (r : Rg) : List Rg :=
  l.take (fromS l (r.1 - 1)) ++ midR l r (fromS l (r.1 - 1)) (toS l (whi r.2)) :: l.drop (toS l (whi r.2))
theorem put_spec {l : List Rg} {r : Rg} (hs : Snd l) (hf : FitL l) (hr : r.1 ≤ r.2) :
    Snd (putL l r) ∧ ∀ a, memL (putL l r) a ↔ memL l a ∨ inR r a := by
  have F : ∀ {i : Nat} {x : Rg}, l[i]? = some x → (i < fromS l (r.1 - 1) ↔ x.2 + 2 ≤ r.1) := by
    intro i x h
    rw [from_iff hs h]
    omega
  have T : ∀ {i : Nat} {x : Rg}, l[i]? = some x → (i < toS l (whi r.2) ↔ x.1 ≤ r.2 + 1) := by
    intro i x h
    rw [to_iff hs h]
    exact whi_le (hf x (List.mem_of_getElem? h)).1
  have FT : fromS l (r.1 - 1) ≤ toS l (whi r.2) := from_to hs (by unfold whi; split <;> omega)
  have TL := to_le l (whi r.2)
  unfold putL
  generalize fromS l (r.1 - 1) = f at *
  generalize toS l (whi r.2) = t at *
  have M : ∃ m : Rg, midR l r f t = m ∧ m.1 ≤ r.1 ∧ r.2 ≤ m.2 ∧ (∀ (i : Nat) (x : Rg), l[i]? = some x → i < f → x.2 + 2 ≤ m.1) ∧ (∀ (i : Nat) (x : Rg), l[i]? = some x → t ≤ i → m.2 + 2 ≤ x.1) ∧
      (∀ (i : Nat) (x : Rg), l[i]? = some x → f ≤ i → i < t → m.1 ≤ x.1 ∧ x.2 ≤ m.2) ∧ ∀ a, inR m a → inR r a ∨ ∃ (i : Nat) (x : Rg), l[i]? = some x ∧ inR x a := by
    refine ⟨_, rfl, ?_⟩
    unfold midR
    by_cases h : f < t
    · rw [if_pos h]
      have hF := some_getD (l := l) (i := f) (by omega)
      have hT := some_getD (l := l) (i := t - 1) (by omega)
      generalize l.getD f (0, 0) = u at *
      generalize l.getD (t - 1) (0, 0) = z at *
      have u1 := snd_at hs hF
      have z1 := snd_at hs hT
      have uf : ¬ u.2 + 2 ≤ r.1 := fun e => by have := (F hF).2 e; omega
      have zt := (T hT).1 (by omega)
      have sort1 : ∀ (i : Nat) (x : Rg), l[i]? = some x → f ≤ i → u.1 ≤ x.1 := by
        intro i x hx hi
        rcases Nat.eq_or_lt_of_le hi with e | e
        · subst e; rw [hF] at hx; cases hx; exact Nat.le_refl _
        · have := snd_lt hs e hF hx; omega
      have sort2 : ∀ (i : Nat) (x : Rg), l[i]? = some x → i < t → x.2 ≤ z.2 := by
        intro i x hx hi
        rcases Nat.eq_or_lt_of_le (show i ≤ t - 1 by omega) with e | e
        · subst e; rw [hT] at hx; cases hx; exact Nat.le_refl _
        · have := snd_lt hs e hx hT; omega
      refine ⟨Nat.min_le_left _ _, Nat.le_max_left _ _, ?_, ?_, ?_, ?_⟩
      · intro i x hx hi
        have h1 := (F hx).1 hi
        have h2 := snd_lt hs (show i < f from hi) hx hF
        simp only
        omega
      · intro i x hx hi
        have h1 : ¬ x.1 ≤ r.2 + 1 := fun e => by have := (T hx).2 e; omega
        have h2 := snd_lt hs (show t - 1 < i by omega) hT hx
        simp only
        omega
      · intro i x hx hi hj
        have := sort1 i x hx hi
        have := sort2 i x hx hj
        simp only
        omega
      · intro a ha
        unfold inR at ha ⊢
        simp only at ha
        by_cases c1 : a < r.1
        · exact Or.inr ⟨f, u, hF, by omega, by omega⟩
        · by_cases c2 : r.2 < a
          · exact Or.inr ⟨t - 1, z, hT, by omega, by omega⟩
          · exact Or.inl ⟨by omega, by omega⟩
    · rw [if_neg h]
      have e : f = t := by omega
      subst e
      refine ⟨Nat.le_refl _, Nat.le_refl _, fun i x hx hi => (F hx).1 hi, fun i x hx hi => ?_, fun i x hx hi hj => by omega, fun a ha => Or.inl ha⟩
      have : ¬ x.1 ≤ r.2 + 1 := fun e => by have := (T hx).2 e; omega
      omega
  obtain ⟨m, em, m1, m2, m3, m4, m5, m6⟩ := M
  rw [em]
  have hA := snd_take hs f
  have hB := snd_drop hs t
  have hmB : Snd (m :: l.drop t) := ⟨by omega, fun y hy => by obtain ⟨i, hi, hy⟩ := drop_at hy; exact m4 i y hy hi, hB⟩
  refine ⟨snd_append hA hmB ?_, fun a => ?_⟩
  · intro x hx y hy
    obtain ⟨i, hi, hx⟩ := take_at hx
    rcases List.mem_cons.1 hy with rfl | hy
    · exact m3 i x hx hi
    · obtain ⟨j, hj, hy⟩ := drop_at hy
      exact snd_lt hs (by omega) hx hy
  · rw [mem_append, mem_cons]
    constructor
    · rintro (⟨x, hx, h⟩ | h | ⟨x, hx, h⟩)
      · obtain ⟨i, _, hx⟩ := take_at hx
        exact Or.inl (mem_at.2 ⟨i, x, hx, h⟩)
      · rcases m6 a h with h | h
        · exact Or.inr h
        · exact Or.inl (mem_at.2 h)
      · obtain ⟨i, _, hx⟩ := drop_at hx
        exact Or.inl (mem_at.2 ⟨i, x, hx, h⟩)
    · rintro (h | h)
      · obtain ⟨i, x, hx, h⟩ := mem_at.1 h
        by_cases c1 : i < f
        · exact Or.inl ⟨x, at_take c1 hx, h⟩
        · by_cases c2 : i < t
          · have := m5 i x hx (by omega) c2
            exact Or.inr (Or.inl ⟨by have := h.1; omega, by have := h.2; omega⟩)
          · exact Or.inr (Or.inr ⟨x, at_drop (by omega) hx, h⟩)
      · exact Or.inr (Or.inl ⟨by have := h.1; omega, by have := h.2; omega⟩)

/-! ### a set without another one -/
def restL : Rg → List Rg → List Rg
  | r, [] => [r]
  | r, h :: t => (if r.1 < h.1 then [(r.1, h.1 - 1)] else []) ++ (if r.2 ≤ h.2 then [] else restL (h.2 + 1, r.2) t)
def holesL (o : List Rg) (r : Rg) : List Rg := (o.take (toS o r.2)).drop (fromS o r.1)
def lessL (l o : List Rg) : List Rg := l.flatMap fun r => restL r (holesL o r)
theorem rest_spec : ∀ (hs : List Rg) (r : Rg), r.1 ≤ r.2 → Snd hs → (∀ h ∈ hs, h.1 ≤ r.2 ∧ r.1 ≤ h.2) →
    Snd (restL r hs) ∧ (∀ x ∈ restL r hs, r.1 ≤ x.1 ∧ x.2 ≤ r.2) ∧ ∀ a, memL (restL r hs) a ↔ inR r a ∧ ¬ memL hs a
  | [], r, hr, _, _ => by
    refine ⟨⟨hr, by simp, trivial⟩, by simp [restL], fun a => ?_⟩
    unfold restL
    rw [mem_cons]
    exact ⟨fun h => ⟨h.elim id fun h => absurd h (mem_nil _), mem_nil _⟩, fun h => Or.inl h.1⟩
  | h :: t, r, hr, hs, hm => by
    obtain ⟨h1, h2⟩ := hm h (List.mem_cons_self ..)
    obtain ⟨s0, s1, st⟩ := hs
    have first : ∀ a, memL (if r.1 < h.1 then [(r.1, h.1 - 1)] else []) a ↔ r.1 ≤ a ∧ a < h.1 := by
      intro a
      by_cases c : r.1 < h.1
      · rw [if_pos c, mem_cons]
        unfold inR
        exact ⟨fun e => e.elim (fun e => ⟨e.1, by have := e.2; simp only at this; omega⟩) fun e => absurd e (mem_nil _), fun e => Or.inl ⟨e.1, by simp only; omega⟩⟩
      · rw [if_neg c]
        exact ⟨fun e => absurd e (mem_nil _), fun e => by omega⟩
    have firstS : Snd (if r.1 < h.1 then [(r.1, h.1 - 1)] else []) ∧ ∀ x ∈ (if r.1 < h.1 then [(r.1, h.1 - 1)] else []), r.1 ≤ x.1 ∧ x.2 + 1 ≤ h.1 := by
      by_cases c : r.1 < h.1
      · rw [if_pos c]
        refine ⟨⟨by simp only; omega, by simp, trivial⟩, fun x hx => ?_⟩
        rw [List.mem_singleton] at hx
        subst hx
        simp only
        omega
      · rw [if_neg c]
        exact ⟨trivial, by simp⟩
    generalize hP : (if r.1 < h.1 then [(r.1, h.1 - 1)] else [] : List Rg) = P at first firstS
    unfold restL
    rw [hP]
    by_cases c : r.2 ≤ h.2
    · rw [if_pos c, List.append_nil]
      refine ⟨firstS.1, fun x hx => ⟨(firstS.2 x hx).1, by have := (firstS.2 x hx).2; omega⟩, fun a => ?_⟩
      rw [first, mem_cons]
      unfold inR
      constructor
      · rintro ⟨e1, e2⟩
        refine ⟨⟨e1, by omega⟩, ?_⟩
        rintro (e | ⟨y, hy, e⟩)
        · omega
        · have := s1 y hy
          have := e.1
          omega
      · rintro ⟨⟨e1, e2⟩, e3⟩
        refine ⟨e1, ?_⟩
        rcases Nat.lt_or_ge a h.1 with e | e
        · exact e
        · exact absurd (Or.inl ⟨e, by omega⟩) e3
    · rw [if_neg c]
      obtain ⟨i1, i2, i3⟩ := rest_spec t (h.2 + 1, r.2) (by simp only; omega) st (fun y hy => ⟨(hm y (List.mem_cons_of_mem _ hy)).1, by have := s1 y hy; have := snd_at st (List.getElem?_of_mem hy).choose_spec; simp only; omega⟩)
      simp only at i2
      refine ⟨snd_append firstS.1 i1 fun x hx y hy => ?_, fun x hx => ?_, fun a => ?_⟩
      · have := (firstS.2 x hx).2
        have := (i2 y hy).1
        omega
      · rcases List.mem_append.1 hx with hx | hx
        · have := firstS.2 x hx
          omega
        · have := i2 x hx
          omega
      · rw [mem_append, first, i3, mem_cons]
        unfold inR
        simp only
        constructor
        · rintro (⟨e1, e2⟩ | ⟨⟨e1, e2⟩, e3⟩)
          · refine ⟨⟨e1, by omega⟩, ?_⟩
            rintro (e | ⟨y, hy, e⟩)
            · omega
            · have := s1 y hy
              have := e.1
              omega
          · refine ⟨⟨by omega, e2⟩, ?_⟩
            rintro (e | e)
            · omega
            · exact e3 e
        · rintro ⟨⟨e1, e2⟩, e3⟩
          rcases Nat.lt_or_ge a h.1 with e | e
          · exact Or.inl ⟨e1, e⟩
          · rcases Nat.lt_or_ge h.2 a with e' | e'
            · exact Or.inr ⟨⟨by omega, e2⟩, fun e => e3 (Or.inr e)⟩
            · exact absurd (Or.inl ⟨e, e'⟩) e3
theorem holes_spec {o : List Rg} (ho : Snd o) {r : Rg} : Snd (holesL o r) ∧ (∀ h ∈ holesL o r, h.1 ≤ r.2 ∧ r.1 ≤ h.2) ∧ ∀ a, inR r a → (memL (holesL o r) a ↔ memL o a) := by
  have A : ∀ x ∈ holesL o r, x ∈ o ∧ x.1 ≤ r.2 ∧ r.1 ≤ x.2 := by
    intro x hx
    unfold holesL at hx
    obtain ⟨i, hi, hx⟩ := drop_at hx
    rw [List.getElem?_take] at hx
    split at hx
    · rename_i hlt
      refine ⟨List.mem_of_getElem? hx, (to_iff ho hx).1 hlt, ?_⟩
      rcases Nat.lt_or_ge x.2 r.1 with e | e
      · have := (from_iff ho hx).2 e; omega
      · exact e
    · cases hx
  refine ⟨snd_drop (snd_take ho _) _, fun h hh => (A h hh).2, fun a ha => ⟨fun ⟨x, hx, h⟩ => ⟨x, (A x hx).1, h⟩, fun h => ?_⟩⟩
  obtain ⟨i, x, hx, h⟩ := mem_at.1 h
  have h1 : i < toS o r.2 := (to_iff ho hx).2 (by have := h.1; have := ha.2; omega)
  have h2 : ¬ i < fromS o r.1 := fun e => by have := (from_iff ho hx).1 e; have := h.2; have := ha.1; omega
  refine ⟨x, ?_, h⟩
  unfold holesL
  exact at_drop (i := i) (Nat.le_of_not_lt h2) (by rw [List.getElem?_take, if_pos h1, hx])
theorem less_spec : ∀ {l o : List Rg}, Snd l → Snd o → Snd (lessL l o) ∧ (∀ x ∈ lessL l o, ∃ r ∈ l, r.1 ≤ x.1 ∧ x.2 ≤ r.2) ∧ ∀ a, memL (lessL l o) a ↔ memL l a ∧ ¬ memL o a
  | [], o, _, _ => ⟨trivial, by simp [lessL], fun a => ⟨fun h => absurd h (mem_nil _), fun h => absurd h.1 (mem_nil _)⟩⟩
  | r :: l, o, hl, ho => by
    obtain ⟨r0, r1, hl⟩ := hl
    obtain ⟨i1, i2, i3⟩ := less_spec hl ho
    obtain ⟨h1, h2, h3⟩ := holes_spec ho (r := r)
    obtain ⟨j1, j2, j3⟩ := rest_spec _ r r0 h1 h2
    have e : lessL (r :: l) o = restL r (holesL o r) ++ lessL l o := by simp [lessL]
    rw [e]
    refine ⟨snd_append j1 i1 fun x hx y hy => ?_, fun x hx => ?_, fun a => ?_⟩
    · have := (j2 x hx).2
      obtain ⟨z, hz, k, _⟩ := i2 y hy
      have := r1 z hz
      omega
    · rcases List.mem_append.1 hx with hx | hx
      · exact ⟨r, List.mem_cons_self .., j2 x hx⟩
      · obtain ⟨z, hz, k⟩ := i2 x hx
        exact ⟨z, List.mem_cons_of_mem _ hz, k⟩
    · rw [mem_append, j3, i3, mem_cons]
      constructor
      · rintro (⟨h, k⟩ | ⟨h, k⟩)
        · exact ⟨Or.inl h, fun e => k ((h3 a h).2 e)⟩
        · exact ⟨Or.inr h, k⟩
      · rintro ⟨h | h, k⟩
        · exact Or.inl ⟨h, fun e => k ((h3 a h).1 e)⟩
        · exact Or.inr ⟨h, k⟩
theorem less_fit {l o : List Rg} (hs : Snd l) (ho : Snd o) (hf : FitL l) : FitL (lessL l o) := by
  intro x hx
  obtain ⟨s, i2, _⟩ := less_spec hs ho
  obtain ⟨r, hr, h1, h2⟩ := i2 x hx
  obtain ⟨i, hi⟩ := List.getElem?_of_mem hx
  have := snd_at s hi
  have := (hf r hr).2
  unfold FitR Fits at *
  omega
theorem put_fit {l : List Rg} {r : Rg} (hf : FitL l) (hr : FitR r) : FitL (putL l r) := by
  intro x hx
  unfold putL at hx
  rcases List.mem_append.1 hx with hx | hx
  · exact hf x (List.mem_of_mem_take hx)
  · rcases List.mem_cons.1 hx with hx | hx
    · subst hx
      have g : ∀ i, FitR (l.getD i (0, 0)) := by
        intro i
        rcases Nat.lt_or_ge i l.length with h | h
        · exact hf _ (List.mem_of_getElem? (some_getD h))
        · rw [List.getD_eq_getElem?_getD, List.getElem?_eq_none h]
          exact ⟨by unfold Fits; decide, by unfold Fits; decide⟩
      unfold midR
      split
      · have a := g (fromS l (r.1 - 1))
        have b := g (toS l (whi r.2) - 1)
        unfold FitR Fits at *
        simp only
        omega
      · exact hr
    · exact hf x (List.mem_of_mem_drop hx)
theorem put_len {l : List Rg} (hs : Snd l) {r : Rg} (hr : r.1 ≤ r.2) : (putL l r).length ≤ l.length + 1 := by
  unfold putL
  have h1 := from_le l (r.1 - 1)
  have h2 := to_le l (whi r.2)
  have h3 : fromS l (r.1 - 1) ≤ toS l (whi r.2) := from_to hs (by unfold whi; split <;> omega)
  simp only [List.length_append, List.length_cons, List.length_take, List.length_drop]
  omega
end Go.Proofs.YtfmhpnendcikoaaGreat
