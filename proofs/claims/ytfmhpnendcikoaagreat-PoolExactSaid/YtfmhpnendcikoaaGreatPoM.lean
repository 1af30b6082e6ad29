/-
  The set of the addresses of some ranges, put together one by one or out of a sorted row; rising rows of addresses; what a draw picks: arithmetic and lists only.
-/
import Derived.Test.YtfmhpnendcikoaaGreatSpanLm
namespace Go.Proofs.YtfmhpnendcikoaaGreat
open Go.RowKit Go.Joins

/-! ### ranges put together -/
def okL (l : List Rg) : Bool := l.all okR
theorem okL_iff {l : List Rg} : okL l = true ↔ ∀ x ∈ l, x.1 ≤ x.2 := by unfold okL okR; simp
/-- the set of the addresses that are in one of the ranges -/
def jnL (l : List Rg) : List Rg := l.foldl putL []
theorem jn_spec_aux : ∀ (l s : List Rg), Snd s → FitL s → (∀ x ∈ l, x.1 ≤ x.2) → FitL l →
    Snd (l.foldl putL s) ∧ FitL (l.foldl putL s) ∧ (l.foldl putL s).length ≤ s.length + l.length ∧ ∀ a, memL (l.foldl putL s) a ↔ memL s a ∨ memL l a
  | [], s, hs, fs, _, _ => ⟨hs, fs, by simp, fun a => by simp [mem_nil]⟩
  | x :: r, s, hs, fs, hx, fl => by
    have hr := hx x (List.mem_cons_self ..)
    have fx := fl x (List.mem_cons_self ..)
    obtain ⟨p1, p2⟩ := put_spec hs fs hr
    obtain ⟨q1, q2, q3, q4⟩ := jn_spec_aux r (putL s x) p1 (put_fit fs fx) (fun y hy => hx y (List.mem_cons_of_mem _ hy)) (fun y hy => fl y (List.mem_cons_of_mem _ hy))
    have := put_len hs hr
    refine ⟨q1, q2, by rw [List.foldl_cons, List.length_cons]; omega, fun a => ?_⟩
    rw [List.foldl_cons, q4 a, p2 a, mem_cons]
    constructor
    · rintro ((h | h) | h)
      · exact Or.inl h
      · exact Or.inr (Or.inl h)
      · exact Or.inr (Or.inr h)
    · rintro (h | h | h)
      · exact Or.inl (Or.inl h)
      · exact Or.inl (Or.inr h)
      · exact Or.inr h
theorem fit_nil : FitL [] := fun x h => by cases h
theorem jn_spec {l : List Rg} (hx : ∀ x ∈ l, x.1 ≤ x.2) (fl : FitL l) : Snd (jnL l) ∧ FitL (jnL l) ∧ (jnL l).length ≤ l.length ∧ ∀ a, memL (jnL l) a ↔ memL l a := by
  obtain ⟨a, b, c, d⟩ := jn_spec_aux l [] trivial fit_nil hx fl
  refine ⟨a, b, by simpa [jnL] using c, fun x => ?_⟩
  have := d x
  unfold jnL
  rw [this]
  simp [mem_nil]
theorem mem_perm {l m : List Rg} (h : l.Perm m) (a : Nat) : memL l a ↔ memL m a := by
  unfold memL
  constructor
  · rintro ⟨x, hx, hi⟩; exact ⟨x, h.mem_iff.1 hx, hi⟩
  · rintro ⟨x, hx, hi⟩; exact ⟨x, h.mem_iff.2 hx, hi⟩
/-- one range behind a set that begins no later -/
def jStep (s : List Rg) (r : Rg) : List Rg :=
  match s.getLast? with
  | none => [r]
  | some m => if soundL [m, r] = true then s ++ [r] else if m.2 < r.2 then s.dropLast ++ [(m.1, r.2)] else s
def jnS (l : List Rg) : List Rg := l.foldl jStep []
theorem sound_two (m r : Rg) : soundL [m, r] = true ↔ m.1 ≤ m.2 ∧ r.1 ≤ r.2 ∧ m.2 + 2 ≤ r.1 := by
  rw [sound_snd]
  unfold Snd Snd Snd
  simp only [List.mem_singleton, forall_eq, List.not_mem_nil, false_imp_iff, implies_true, and_true]
  constructor
  · rintro ⟨a, b, c⟩; exact ⟨a, c, b⟩
  · rintro ⟨a, b, c⟩; exact ⟨a, c, b⟩
/-- what a set put together out of a row in order keeps: nothing of it begins behind b -/
def JInv (s : List Rg) (b : Nat) : Prop := Snd s ∧ FitL s ∧ ∀ x ∈ s, x.1 ≤ b
theorem j_step {s : List Rg} {r : Rg} {b : Nat} (h : JInv s b) (hb : b ≤ r.1) (hr : r.1 ≤ r.2) (fr : FitR r) : JInv (jStep s r) r.1 ∧ (jStep s r).length ≤ s.length + 1 ∧ ∀ a, memL (jStep s r) a ↔ memL s a ∨ inR r a := by
  obtain ⟨h1, h2, h3⟩ := h
  unfold jStep
  cases e : s.getLast? with
  | none =>
    have e0 : s = [] := List.getLast?_eq_none_iff.1 e
    subst e0
    refine ⟨⟨snd_one hr, fit_one fr, fun x hx => by rw [List.mem_singleton.1 hx]; exact Nat.le_refl _⟩, by simp, fun a => ?_⟩
    simp only [mem_one, mem_nil, false_or]
  | some m =>
    obtain ⟨d, rfl⟩ : ∃ d, s = d ++ [m] := by
      have hne : s ≠ [] := by intro e0; rw [e0] at e; cases e
      rw [List.getLast?_eq_some_getLast hne] at e
      exact ⟨s.dropLast, by rw [← Option.some.inj e]; exact (List.dropLast_concat_getLast hne).symm⟩
    have hm := h3 m (by simp)
    have fm := h2 m (by simp)
    obtain ⟨sd, sm, gap⟩ := (⟨(by
      have : Snd ((d ++ [m]).take d.length) := snd_take h1 _
      simpa using this), (snd_at h1 (i := d.length) (x := m) (by simp)), (fun x hx => by
        obtain ⟨i, hi⟩ := List.getElem?_of_mem hx
        have hil := lt_of_some hi
        exact snd_lt h1 (i := i) (j := d.length) (x := x) (y := m) hil (by rw [List.getElem?_append_left hil]; exact hi) (by simp))⟩ : Snd d ∧ m.1 ≤ m.2 ∧ ∀ x ∈ d, x.2 + 2 ≤ m.1)
    simp only
    by_cases hs : soundL [m, r] = true
    · rw [if_pos hs]
      obtain ⟨_, _, g⟩ := (sound_two m r).1 hs
      refine ⟨⟨snd_append h1 (snd_one hr) (fun x hx y hy => ?_), fun x hx => ?_, fun x hx => ?_⟩, by simp, fun a => ?_⟩
      · rw [List.mem_singleton.1 hy]
        rcases List.mem_append.1 hx with hx | hx
        · have := gap x hx; omega
        · rw [List.mem_singleton.1 hx]; exact g
      · rcases List.mem_append.1 hx with hx | hx
        · exact h2 x hx
        · rw [List.mem_singleton.1 hx]; exact fr
      · rcases List.mem_append.1 hx with hx | hx
        · have := h3 x hx; omega
        · rw [List.mem_singleton.1 hx]; exact Nat.le_refl _
      · rw [mem_append, mem_one]
    · rw [if_neg hs]
      have ng : ¬ m.2 + 2 ≤ r.1 := fun g => hs ((sound_two m r).2 ⟨sm, hr, g⟩)
      by_cases hl : m.2 < r.2
      · rw [if_pos hl, List.dropLast_concat]
        refine ⟨⟨snd_append sd (snd_one (show m.1 ≤ r.2 by omega)) (fun x hx y hy => by rw [List.mem_singleton.1 hy]; exact gap x hx), fun x hx => ?_, fun x hx => ?_⟩, by simp, fun a => ?_⟩
        · rcases List.mem_append.1 hx with hx | hx
          · exact h2 x (List.mem_append_left _ hx)
          · rw [List.mem_singleton.1 hx]; exact ⟨fm.1, fr.2⟩
        · rcases List.mem_append.1 hx with hx | hx
          · have := h3 x (List.mem_append_left _ hx); omega
          · rw [List.mem_singleton.1 hx]; simp only; omega
        · rw [mem_append, mem_one, mem_append, mem_one]
          unfold inR
          simp only
          constructor
          · rintro (h | h)
            · exact Or.inl (Or.inl h)
            · by_cases ha : a ≤ m.2
              · exact Or.inl (Or.inr ⟨h.1, ha⟩)
              · exact Or.inr ⟨by omega, h.2⟩
          · rintro ((h | h) | h)
            · exact Or.inl h
            · exact Or.inr ⟨h.1, by omega⟩
            · exact Or.inr ⟨by omega, h.2⟩
      · rw [if_neg hl]
        refine ⟨⟨h1, h2, fun x hx => by have := h3 x hx; omega⟩, by omega, fun a => ⟨Or.inl, ?_⟩⟩
        rintro (h | h)
        · exact h
        · rw [mem_append, mem_one]
          refine Or.inr ?_
          unfold inR at *
          omega
theorem jn_sorted_aux : ∀ (l s : List Rg) (b : Nat), JInv s b → (∀ x ∈ l, b ≤ x.1) → l.Pairwise (fun x y => x.1 ≤ y.1) → (∀ x ∈ l, x.1 ≤ x.2) → FitL l →
    Snd (l.foldl jStep s) ∧ ∀ a, memL (l.foldl jStep s) a ↔ memL s a ∨ memL l a
  | [], s, b, h, _, _, _, _ => ⟨h.1, fun a => by simp [mem_nil]⟩
  | x :: r, s, b, h, hb, hp, hx, fl => by
    obtain ⟨j1, _, j3⟩ := j_step h (hb x (List.mem_cons_self ..)) (hx x (List.mem_cons_self ..)) (fl x (List.mem_cons_self ..))
    obtain ⟨p1, p2⟩ := List.pairwise_cons.1 hp
    obtain ⟨q1, q2⟩ := jn_sorted_aux r (jStep s x) x.1 j1 (fun y hy => p1 y hy) p2 (fun y hy => hx y (List.mem_cons_of_mem _ hy)) (fun y hy => fl y (List.mem_cons_of_mem _ hy))
    refine ⟨q1, fun a => ?_⟩
    rw [List.foldl_cons, q2 a, j3 a, mem_cons]
    constructor
    · rintro ((h | h) | h)
      · exact Or.inl h
      · exact Or.inr (Or.inl h)
      · exact Or.inr (Or.inr h)
    · rintro (h | h | h)
      · exact Or.inl (Or.inl h)
      · exact Or.inl (Or.inr h)
      · exact Or.inr h
/-- a row in order gives the set -/
theorem jn_sorted {l R : List Rg} (hp : R.Perm l) (ho : R.Pairwise (fun x y => x.1 ≤ y.1)) (hx : ∀ x ∈ l, x.1 ≤ x.2) (fl : FitL l) : jnS R = jnL l := by
  obtain ⟨a1, a2⟩ := jn_sorted_aux R [] 0 ⟨trivial, fit_nil, fun x h => by cases h⟩ (fun x _ => Nat.zero_le _) ho (fun x h => hx x (hp.mem_iff.1 h)) (fun x h => fl x (hp.mem_iff.1 h))
  obtain ⟨b1, _, _, b4⟩ := jn_spec hx fl
  refine snd_ext a1 b1 (fun a => ?_)
  unfold jnS at *
  rw [a2 a, b4 a, mem_perm hp]
  simp [mem_nil]
theorem jStep_nil (r : Rg) : jStep [] r = [r] := rfl
theorem jStep_at {s : List Rg} {k : Nat} {m : Rg} (hk : s.length = k + 1) (h : s[k]? = some m) (r : Rg) : jStep s r = if soundL [m, r] = true then s ++ [r] else if m.2 < r.2 then s.set k (m.1, r.2) else s := by
  have hl : s.getLast? = some m := by rw [List.getLast?_eq_getElem?, hk]; exact h
  unfold jStep
  rw [hl]
  simp only
  have hd : s = s.dropLast ++ [m] := by
    have hne : s ≠ [] := by intro e0; rw [e0] at hk; simp at hk
    rw [List.getLast?_eq_some_getLast hne] at hl
    rw [← Option.some.inj hl]; exact (List.dropLast_concat_getLast hne).symm
  have ld : s.dropLast.length = k := by rw [List.length_dropLast, hk]; rfl
  have e : s.dropLast ++ [(m.1, r.2)] = s.set k (m.1, r.2) := by
    generalize s.dropLast = d at *
    subst hd
    rw [List.set_append_right _ _ (by omega), ld, Nat.sub_self, List.set_cons_zero]
  rw [e]
theorem jn_take {R : List Rg} {i : Nat} {r : Rg} (h : R[i]? = some r) : jnS (R.take (i + 1)) = jStep (jnS (R.take i)) r := by
  unfold jnS
  rw [List.take_add_one, h, List.foldl_append]
  rfl
theorem jnS_len_aux : ∀ (l s : List Rg), (l.foldl jStep s).length ≤ s.length + l.length
  | [], s => by simp
  | x :: r, s => by
    have h1 := jnS_len_aux r (jStep s x)
    have h2 : (jStep s x).length ≤ s.length + 1 := by
      unfold jStep
      split
      · simp
      · rename_i m hm
        split
        · simp
        · split
          · simp <;> omega
          · omega
    rw [List.foldl_cons, List.length_cons]
    omega
theorem jnS_len (l : List Rg) : (jnS l).length ≤ l.length := by simpa [jnS] using jnS_len_aux l []

/-! ### single addresses -/
def sgL (l : List Nat) : List Rg := l.map fun a => (a, a)
theorem sg_len (l : List Nat) : (sgL l).length = l.length := by unfold sgL; simp
theorem sg_ok (l : List Nat) : ∀ x ∈ sgL l, x.1 ≤ x.2 := by
  intro x hx
  obtain ⟨a, _, rfl⟩ := List.mem_map.1 hx
  exact Nat.le_refl _
theorem sg_fit {l : List Nat} (h : ∀ a ∈ l, Fits a) : FitL (sgL l) := by
  intro x hx
  obtain ⟨a, ha, rfl⟩ := List.mem_map.1 hx
  exact ⟨h a ha, h a ha⟩
theorem sg_mem (l : List Nat) (a : Nat) : memL (sgL l) a ↔ a ∈ l := by
  unfold memL sgL inR
  constructor
  · rintro ⟨x, hx, h1, h2⟩
    obtain ⟨b, hb, rfl⟩ := List.mem_map.1 hx
    have : b = a := by simp only at h1 h2; omega
    exact this ▸ hb
  · intro h
    exact ⟨(a, a), List.mem_map.2 ⟨a, h, rfl⟩, Nat.le_refl _, Nat.le_refl _⟩
/-- a set without some addresses -/
def freeS (s : List Rg) (t : List Nat) : List Rg := lessL s (jnL (sgL t))
theorem free_spec {s : List Rg} {t : List Nat} (hs : Snd s) (fs : FitL s) (ft : ∀ a ∈ t, Fits a) : Snd (freeS s t) ∧ FitL (freeS s t) ∧ (freeS s t).length ≤ 2 * s.length + t.length ∧ ∀ a, memL (freeS s t) a ↔ memL s a ∧ a ∉ t := by
  obtain ⟨a1, a2, a3, a4⟩ := jn_spec (sg_ok t) (sg_fit ft)
  obtain ⟨b1, _, b3⟩ := less_spec hs a1
  have b4 := less_length hs a1
  rw [sg_len] at a3
  refine ⟨b1, less_fit hs a1 fs, by unfold freeS; omega, fun a => ?_⟩
  unfold freeS
  rw [b3 a, a4 a, sg_mem]
/-- what a pool has and what of it is free: the list and the error -/
def freeR (s : List Rg) (t : List Nat) : List Rg × Int := if soundL s = true then (freeS s t, 0) else ([], 1)
def buildR (p : List Rg) (t : List Nat) : List Rg × Int := if okL p = true then (freeS (jnL p) t, 0) else ([], 1)
/-- what a draw picks -/
def pickN (l : List Rg) (d : Nat) : Nat := if cntO l = true then d else if cntV l = 0 then 0 else d % cntV l

/-! ### rising rows of addresses -/
def insA : List Nat → Nat → List Nat
  | [], a => [a]
  | x :: r, a => if x < a then x :: insA r a else if x = a then x :: r else a :: x :: r
def Rsg : List Nat → Prop
  | [] => True
  | x :: r => (∀ y ∈ r, x < y) ∧ Rsg r
theorem mem_ins : ∀ (l : List Nat) (a b : Nat), b ∈ insA l a ↔ b = a ∨ b ∈ l
  | [], a, b => by simp [insA]
  | x :: r, a, b => by
    unfold insA
    split
    · rw [List.mem_cons, mem_ins r a b, List.mem_cons]
      constructor
      · rintro (h | h | h)
        · exact Or.inr (Or.inl h)
        · exact Or.inl h
        · exact Or.inr (Or.inr h)
      · rintro (h | h | h)
        · exact Or.inr (Or.inl h)
        · exact Or.inl h
        · exact Or.inr (Or.inr h)
    · split
      · rename_i e
        subst e
        simp
      · rw [List.mem_cons]
theorem rsg_ins : ∀ {l : List Nat} (a : Nat), Rsg l → Rsg (insA l a)
  | [], a, _ => ⟨fun y h => (by cases h), trivial⟩
  | x :: r, a, h => by
    unfold insA
    split
    · rename_i hx
      refine ⟨fun y hy => ?_, rsg_ins a h.2⟩
      rcases (mem_ins r a y).1 hy with rfl | hy
      · exact hx
      · exact h.1 y hy
    · split
      · exact h
      · rename_i h1 h2
        refine ⟨fun y hy => ?_, h⟩
        rcases List.mem_cons.1 hy with rfl | hy
        · omega
        · have := h.1 y hy; omega
theorem rsg_ext : ∀ {l m : List Nat}, Rsg l → Rsg m → (∀ a, a ∈ l ↔ a ∈ m) → l = m
  | [], [], _, _, _ => rfl
  | [], y :: r, _, _, h => by have := (h y).2 (List.mem_cons_self ..); cases this
  | x :: r, [], _, _, h => by have := (h x).1 (List.mem_cons_self ..); cases this
  | x :: r, y :: t, hl, hm, h => by
    have e : x = y := by
      have h1 := (h x).1 (List.mem_cons_self ..)
      have h2 := (h y).2 (List.mem_cons_self ..)
      rcases List.mem_cons.1 h1 with h1 | h1
      · exact h1
      · rcases List.mem_cons.1 h2 with h2 | h2
        · exact h2.symm
        · have a := hm.1 x h1
          have b := hl.1 y h2
          omega
    subst e
    congr 1
    refine rsg_ext hl.2 hm.2 (fun a => ⟨fun ha => ?_, fun ha => ?_⟩)
    · have := (h a).1 (List.mem_cons_of_mem _ ha)
      rcases List.mem_cons.1 this with rfl | h2
      · have := hl.1 a ha; omega
      · exact h2
    · have := (h a).2 (List.mem_cons_of_mem _ ha)
      rcases List.mem_cons.1 this with rfl | h2
      · have := hm.1 a ha; omega
      · exact h2
/-- the addresses of a row, rising, each once -/
def upL (l : List Nat) : List Nat := l.foldl insA []
theorem up_aux : ∀ (l s : List Nat), Rsg s → Rsg (l.foldl insA s) ∧ (l.foldl insA s).length ≤ s.length + l.length ∧ ∀ a, a ∈ l.foldl insA s ↔ a ∈ s ∨ a ∈ l
  | [], s, h => ⟨h, by simp, fun a => by simp⟩
  | x :: r, s, h => by
    obtain ⟨h1, h2, h3⟩ := up_aux r (insA s x) (rsg_ins x h)
    have hl : ∀ (s : List Nat), (insA s x).length ≤ s.length + 1 := by
      intro s
      induction s with
      | nil => simp [insA]
      | cons y t ih =>
        unfold insA
        split
        · simp only [List.length_cons]; omega
        · split
          · simp only [List.length_cons]; omega
          · simp only [List.length_cons]; omega
    have := hl s
    refine ⟨h1, by rw [List.foldl_cons, List.length_cons]; omega, fun a => ?_⟩
    rw [List.foldl_cons, h3 a, mem_ins, List.mem_cons]
    constructor
    · rintro ((h | h) | h)
      · exact Or.inr (Or.inl h)
      · exact Or.inl h
      · exact Or.inr (Or.inr h)
    · rintro (h | h | h)
      · exact Or.inl (Or.inr h)
      · exact Or.inl (Or.inl h)
      · exact Or.inr h
theorem up_spec (l : List Nat) : Rsg (upL l) ∧ (upL l).length ≤ l.length ∧ ∀ a, a ∈ upL l ↔ a ∈ l := by
  obtain ⟨a, b, c⟩ := up_aux l [] trivial
  exact ⟨a, by simpa [upL] using b, fun x => by simpa [upL] using c x⟩
theorem up_take {l : List Nat} {i a : Nat} (h : l[i]? = some a) : upL (l.take (i + 1)) = insA (upL (l.take i)) a := by
  unfold upL
  rw [List.take_add_one, h, List.foldl_append]
  rfl
/-- a row without what is like its neighbour -/
def dedL : List Nat → List Nat
  | [] => []
  | x :: r => if r.head? = some x then dedL r else x :: dedL r
theorem mem_ded : ∀ (l : List Nat) (a : Nat), a ∈ dedL l ↔ a ∈ l
  | [], a => by simp [dedL]
  | x :: r, a => by
    unfold dedL
    split
    · rename_i h
      rw [mem_ded r a, List.mem_cons]
      constructor
      · exact Or.inr
      · rintro (rfl | h2)
        · cases r with
          | nil => simp at h
          | cons y t => simp at h; subst h; exact List.mem_cons_self ..
        · exact h2
    · rw [List.mem_cons, mem_ded r a, List.mem_cons]
theorem rsg_ded : ∀ {l : List Nat}, l.Pairwise (fun x y => x ≤ y) → Rsg (dedL l)
  | [], _ => trivial
  | x :: r, h => by
    obtain ⟨h1, h2⟩ := List.pairwise_cons.1 h
    unfold dedL
    split
    · exact rsg_ded h2
    · rename_i hh
      refine ⟨fun y hy => ?_, rsg_ded h2⟩
      have hy := (mem_ded r y).1 hy
      have := h1 y hy
      rcases Nat.lt_or_eq_of_le this with h | h
      · exact h
      · subst h
        cases r with
        | nil => cases hy
        | cons z t =>
          exfalso
          apply hh
          have hz := h1 z (List.mem_cons_self ..)
          rcases List.mem_cons.1 hy with h | h
          · rw [h]; rfl
          · have := (List.pairwise_cons.1 h2).1 x h
            have : x = z := by omega
            rw [this]; rfl
theorem ded_up {l R : List Nat} (hp : R.Perm l) (ho : R.Pairwise (fun x y => x ≤ y)) : dedL R = upL l :=
  rsg_ext (rsg_ded ho) (up_spec l).1 (fun a => by rw [mem_ded, (up_spec l).2.2 a, hp.mem_iff])
end Go.Proofs.YtfmhpnendcikoaaGreat
