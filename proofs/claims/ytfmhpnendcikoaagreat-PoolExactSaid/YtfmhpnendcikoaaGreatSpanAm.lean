/-
  Mathematics of the document's own answer for sets: ranges cut apart at every edge and grown together are the set of what is in the ones and not in the others. Plain arithmetic, no program.
-/
import Derived.Test.YtfmhpnendcikoaaGreatSpanFs
namespace Go.Proofs.YtfmhpnendcikoaaGreat

def withL : List Nat → Nat → List Nat
  | [], a => [a]
  | x :: r, a => if x < a then x :: withL r a else if x = a then x :: r else a :: x :: r
def Ris : List Nat → Prop
  | [] => True
  | x :: r => (∀ y ∈ r, x < y) ∧ Ris r
theorem mem_with : ∀ (l : List Nat) (a b : Nat), b ∈ withL l a ↔ b = a ∨ b ∈ l
  | [], a, b => by simp [withL]
  | x :: r, a, b => by
    unfold withL
    split
    · rw [List.mem_cons, mem_with r a b, List.mem_cons]
      constructor
      · rintro (h | h | h)
        · exact Or.inr (Or.inl h)
        · exact Or.inl h
        · exact Or.inr (Or.inr h)
      · rintro (h | h | h)
        · exact Or.inr (Or.inl h)
        · exact Or.inl h
        · exact Or.inr (Or.inr h)
    · split
      · rename_i e
        subst e
        rw [List.mem_cons]
        exact ⟨Or.inr, fun h => h.elim Or.inl id⟩
      · rw [List.mem_cons]
theorem ris_with : ∀ {l : List Nat} (a : Nat), Ris l → Ris (withL l a)
  | [], a, _ => ⟨by simp, trivial⟩
  | x :: r, a, ⟨h1, h2⟩ => by
    unfold withL
    split
    · rename_i h
      refine ⟨fun y hy => ?_, ris_with a h2⟩
      rcases (mem_with r a y).1 hy with rfl | hy
      · exact h
      · exact h1 y hy
    · split
      · exact ⟨h1, h2⟩
      · rename_i n1 n2
        refine ⟨fun y hy => ?_, h1, h2⟩
        rcases List.mem_cons.1 hy with rfl | hy
        · omega
        · have := h1 y hy; omega
def edgeStep (e : List Nat) (x : Rg) : List Nat := if addO x.2 1 then withL e x.1 else withL (withL e x.1) (addS x.2 1)
def edgesL (l : List Rg) : List Nat := l.foldl edgeStep [0]
theorem addS_one {a : Nat} (h : addO a 1 = false) : addS a 1 = a + 1 := by
  unfold addO at h
  unfold addS
  simp at h
  omega
theorem edges_spec : ∀ (l : List Rg) (e : List Nat), FitL l → Ris e → (∀ b ∈ e, Fits b) → Ris (l.foldl edgeStep e) ∧ (∀ b ∈ l.foldl edgeStep e, Fits b) ∧ (∀ b ∈ e, b ∈ l.foldl edgeStep e) ∧
    ∀ x ∈ l, x.1 ∈ l.foldl edgeStep e ∧ (addO x.2 1 = false → x.2 + 1 ∈ l.foldl edgeStep e)
  | [], e, _, hr, hb => ⟨hr, hb, fun _ h => h, fun x hx => by cases hx⟩
  | x :: r, e, hf, hr, hb => by
    have fx := hf x (List.mem_cons_self ..)
    have st : Ris (edgeStep e x) ∧ (∀ b ∈ edgeStep e x, Fits b) ∧ (∀ b ∈ e, b ∈ edgeStep e x) ∧ x.1 ∈ edgeStep e x ∧ (addO x.2 1 = false → x.2 + 1 ∈ edgeStep e x) := by
      unfold edgeStep
      cases ho : addO x.2 1 with
      | true =>
        rw [if_pos rfl]
        refine ⟨ris_with _ hr, fun b h => ?_, fun b h => (mem_with _ _ _).2 (Or.inr h), (mem_with _ _ _).2 (Or.inl rfl), fun h => by cases h⟩
        rcases (mem_with _ _ _).1 h with rfl | h
        · exact fx.1
        · exact hb b h
      | false =>
        rw [if_neg (by simp), addS_one ho]
        refine ⟨ris_with _ (ris_with _ hr), fun b h => ?_, fun b h => (mem_with _ _ _).2 (Or.inr ((mem_with _ _ _).2 (Or.inr h))), (mem_with _ _ _).2 (Or.inr ((mem_with _ _ _).2 (Or.inl rfl))), fun _ => (mem_with _ _ _).2 (Or.inl rfl)⟩
        rcases (mem_with _ _ _).1 h with rfl | h
        · unfold addO at ho; unfold Fits; simp at ho; omega
        · rcases (mem_with _ _ _).1 h with rfl | h
          · exact fx.1
          · exact hb b h
    obtain ⟨s1, s2, s3, s4, s5⟩ := st
    obtain ⟨i1, i2, i3, i4⟩ := edges_spec r (edgeStep e x) (fun y hy => hf y (List.mem_cons_of_mem _ hy)) s1 s2
    rw [List.foldl_cons]
    refine ⟨i1, i2, fun b h => i3 b (s3 b h), fun y hy => ?_⟩
    rcases List.mem_cons.1 hy with rfl | hy
    · exact ⟨i3 _ s4, fun h => i3 _ (s5 h)⟩
    · exact i4 y hy
/-- between two edges nothing begins or ends -/
theorem seg_one {E : List Nat} {x : Rg} {s t a : Nat} (h1 : x.1 ∈ E) (h2 : addO x.2 1 = false → x.2 + 1 ∈ E) (hg : ∀ b ∈ E, b ≤ s ∨ t ≤ b) (ha : s ≤ a) (hb : a < t) (ht : t ≤ 340282366920938463463374607431768211456) : inR x a ↔ inR x s := by
  unfold inR
  constructor
  · rintro ⟨k1, k2⟩
    rcases hg _ h1 with h | h <;> omega
  · rintro ⟨k1, k2⟩
    refine ⟨by omega, ?_⟩
    rcases Nat.lt_or_ge x.2 a with h | h
    · have ho : addO x.2 1 = false := by unfold addO; simp; omega
      rcases hg _ (h2 ho) with h' | h' <;> omega
    · exact h
theorem seg_mem {E : List Nat} {l : List Rg} {s t a : Nat} (he : ∀ x ∈ l, x.1 ∈ E ∧ (addO x.2 1 = false → x.2 + 1 ∈ E)) (hg : ∀ b ∈ E, b ≤ s ∨ t ≤ b) (ha : s ≤ a) (hb : a < t) (ht : t ≤ 340282366920938463463374607431768211456) : memL l a ↔ memL l s := by
  constructor
  · rintro ⟨x, hx, h⟩
    exact ⟨x, hx, (seg_one (he x hx).1 (he x hx).2 hg ha hb ht).1 h⟩
  · rintro ⟨x, hx, h⟩
    exact ⟨x, hx, (seg_one (he x hx).1 (he x hx).2 hg ha hb ht).2 h⟩
theorem snd_split : ∀ {a b : List Rg}, Snd (a ++ b) → Snd a ∧ Snd b ∧ ∀ x ∈ a, ∀ y ∈ b, x.2 + 2 ≤ y.1
  | [], b, h => ⟨trivial, h, fun x hx => by cases hx⟩
  | z :: a, b, h => by
    obtain ⟨h1, h2, h3⟩ := h
    obtain ⟨i1, i2, i3⟩ := snd_split h3
    refine ⟨⟨h1, fun y hy => h2 y (List.mem_append_left _ hy), i1⟩, i2, fun x hx y hy => ?_⟩
    rcases List.mem_cons.1 hx with rfl | hx
    · exact h2 y (List.mem_append_right _ hy)
    · exact i3 x hx y hy
/-- one segment more: it is grown together with the last range, or stands by itself -/
def putSeg (out : List Rg) (s e : Nat) : List Rg := match out.getLast? with
  | some z => if z.2 + 1 = s then out.dropLast ++ [(z.1, e)] else out ++ [(s, e)]
  | none => [(s, e)]
def Inv (P : Nat → Prop) (out : List Rg) (b : Nat) : Prop := Snd out ∧ FitL out ∧ (∀ x ∈ out, x.2 < b) ∧ ∀ a, a < b → (memL out a ↔ P a)
theorem inv_skip {P : Nat → Prop} {out : List Rg} {s e : Nat} (h : Inv P out s) (hse : s ≤ e) (hc : ∀ a, s ≤ a → a ≤ e → (P a ↔ P s)) (hp : ¬ P s) : Inv P out (e + 1) := by
  obtain ⟨h1, h2, h3, h4⟩ := h
  refine ⟨h1, h2, fun x hx => by have := h3 x hx; omega, fun a ha => ?_⟩
  rcases Nat.lt_or_ge a s with k | k
  · exact h4 a k
  · constructor
    · rintro ⟨x, hx, _, h⟩
      have := h3 x hx; omega
    · intro h
      exact absurd ((hc a k (by omega)).1 h) hp
theorem inv_put {P : Nat → Prop} {out : List Rg} {s e : Nat} (h : Inv P out s) (hse : s ≤ e) (he : Fits e) (hc : ∀ a, s ≤ a → a ≤ e → (P a ↔ P s)) (hp : P s) : Inv P (putSeg out s e) (e + 1) := by
  obtain ⟨h1, h2, h3, h4⟩ := h
  have fs : Fits s := by unfold Fits at *; omega
  have far : ∀ (D : List Rg) (b : Nat), (∀ a, a < s → (memL D a ∨ inR (b, e) a ↔ P a)) → b ≤ s → ∀ a, a < e + 1 → (memL (D ++ [(b, e)]) a ↔ P a) := by
    intro D b hD hb a ha
    rw [mem_append, mem_one]
    rcases Nat.lt_or_ge a s with k | k
    · exact hD a k
    · exact ⟨fun _ => (hc a k (by omega)).2 hp, fun _ => Or.inr ⟨by simp only; omega, by simp only; omega⟩⟩
  unfold putSeg
  cases hl : out.getLast? with
  | none =>
    have e0 : out = [] := by simpa using hl
    subst e0
    refine ⟨snd_one hse, fun x hx => ?_, fun x hx => ?_, ?_⟩
    · rw [List.mem_singleton.1 hx]; exact ⟨fs, he⟩
    · rw [List.mem_singleton.1 hx]; simp
    · refine far [] s (fun a ha => ?_) (Nat.le_refl _)
      rw [← h4 a ha]
      exact ⟨fun h => h.elim id fun h => (by unfold inR at h; simp only at h; omega), Or.inl⟩
  | some z =>
    obtain ⟨D, ez⟩ := List.getLast?_eq_some_iff.1 hl
    subst ez
    rw [List.dropLast_concat]
    obtain ⟨d1, d2, d3⟩ := snd_split h1
    have hz := d2.1
    have zs := h3 z (List.mem_append_right _ (List.mem_singleton.2 rfl))
    have fz := h2 z (List.mem_append_right _ (List.mem_singleton.2 rfl))
    simp only
    split
    · rename_i hm
      refine ⟨snd_append d1 (snd_one (by simp only; omega)) (fun x hx y hy => by rw [List.mem_singleton.1 hy]; exact d3 x hx z (List.mem_singleton.2 rfl)), fun x hx => ?_, fun x hx => ?_, ?_⟩
      · rcases List.mem_append.1 hx with hx | hx
        · exact h2 x (List.mem_append_left _ hx)
        · rw [List.mem_singleton.1 hx]; exact ⟨fz.1, he⟩
      · rcases List.mem_append.1 hx with hx | hx
        · have := h3 x (List.mem_append_left _ hx); omega
        · rw [List.mem_singleton.1 hx]; simp
      · refine far D z.1 (fun a ha => ?_) (by omega)
        rw [← h4 a ha, mem_append, mem_one]
        unfold inR
        simp only
        constructor
        · rintro (h | h)
          · exact Or.inl h
          · exact Or.inr ⟨h.1, by omega⟩
        · rintro (h | h)
          · exact Or.inl h
          · exact Or.inr ⟨h.1, by omega⟩
    · rename_i hm
      refine ⟨snd_append h1 (snd_one hse) (fun x hx y hy => ?_), fun x hx => ?_, fun x hx => ?_, ?_⟩
      · rw [List.mem_singleton.1 hy]
        rcases List.mem_append.1 hx with hx | hx
        · have := d3 x hx z (List.mem_singleton.2 rfl); simp only; omega
        · rw [List.mem_singleton.1 hx]; simp only; omega
      · rcases List.mem_append.1 hx with hx | hx
        · exact h2 x hx
        · rw [List.mem_singleton.1 hx]; exact ⟨fs, he⟩
      · rcases List.mem_append.1 hx with hx | hx
        · have := h3 x hx; omega
        · rw [List.mem_singleton.1 hx]; simp
      · refine far (D ++ [z]) s (fun a ha => ?_) (Nat.le_refl _)
        rw [← h4 a ha]
        exact ⟨fun h => h.elim id fun h => (by unfold inR at h; simp only at h; omega), Or.inl⟩
def segEnd : List Nat → Nat
  | [] => ones
  | t :: _ => t - 1
def keepB (yes no : List Rg) (s : Nat) : Bool := inL yes s && !inL no s
def madeF (yes no : List Rg) : List Nat → List Rg → List Rg
  | [], out => out
  | s :: r, out => madeF yes no r (if keepB yes no s then putSeg out s (segEnd r) else out)
def madeL (yes no : List Rg) : List Rg := madeF yes no (edgesL (yes ++ no)) []
theorem in_mem (l : List Rg) (a : Nat) : inL l a = true ↔ memL l a := by unfold inL memL inR; simp
theorem keep_iff (yes no : List Rg) (s : Nat) : keepB yes no s = true ↔ memL yes s ∧ ¬ memL no s := by
  unfold keepB
  rw [Bool.and_eq_true, in_mem, Bool.not_eq_true', ← Bool.not_eq_true, in_mem]
theorem made_spec {yes no : List Rg} {E : List Nat} (hy : ∀ x ∈ yes ++ no, x.1 ∈ E ∧ (addO x.2 1 = false → x.2 + 1 ∈ E)) (hb : ∀ b ∈ E, Fits b) :
    ∀ (r pre : List Nat) (s : Nat) (out : List Rg), E = pre ++ s :: r → Ris (s :: r) → (∀ b ∈ pre, b < s) → Inv (fun a => memL yes a ∧ ¬ memL no a) out s →
      Inv (fun a => memL yes a ∧ ¬ memL no a) (madeF yes no (s :: r) out) 340282366920938463463374607431768211456
  | r, pre, s, out, e, hr, hp, hi => by
    have fs : Fits s := hb s (by rw [e]; simp)
    have y1 : ∀ x ∈ yes, x.1 ∈ E ∧ (addO x.2 1 = false → x.2 + 1 ∈ E) := fun x hx => hy x (List.mem_append_left _ hx)
    have n1 : ∀ x ∈ no, x.1 ∈ E ∧ (addO x.2 1 = false → x.2 + 1 ∈ E) := fun x hx => hy x (List.mem_append_right _ hx)
    have stp : ∀ t, (∀ b ∈ E, b ≤ s ∨ t ≤ b) → s < t → t ≤ 340282366920938463463374607431768211456 →
        Inv (fun a => memL yes a ∧ ¬ memL no a) (if keepB yes no s then putSeg out s (t - 1) else out) t := by
      intro t hg hst ht
      have hc : ∀ a, s ≤ a → a ≤ t - 1 → ((memL yes a ∧ ¬ memL no a) ↔ (memL yes s ∧ ¬ memL no s)) := fun a h1 h2 => by
        rw [seg_mem y1 hg h1 (by omega) ht, seg_mem n1 hg h1 (by omega) ht]
      have et : t = t - 1 + 1 := by omega
      cases hk : keepB yes no s with
      | true =>
        rw [if_pos rfl, et]
        exact inv_put hi (by omega) (by unfold Fits; omega) hc ((keep_iff yes no s).1 hk)
      | false =>
        rw [if_neg (by simp), et]
        exact inv_skip hi (by omega) hc (fun h => by rw [(keep_iff yes no s).2 h] at hk; cases hk)
    match r, hr, e with
    | [], hr, e =>
      have := stp 340282366920938463463374607431768211456 (fun b h => by
        rw [e] at h
        rcases List.mem_append.1 h with h | h
        · exact Or.inl (Nat.le_of_lt (hp b h))
        · rw [List.mem_singleton.1 h]; exact Or.inl (Nat.le_refl _)) (by unfold Fits at fs; omega) (Nat.le_refl _)
      exact this
    | t :: r, hr, e =>
      have h1 := hr.1 t (List.mem_cons_self ..)
      have ft : Fits t := hb t (by rw [e]; simp)
      have := stp t (fun b h => by
        rw [e] at h
        rcases List.mem_append.1 h with h | h
        · exact Or.inl (Nat.le_of_lt (hp b h))
        · rcases List.mem_cons.1 h with rfl | h
          · exact Or.inl (Nat.le_refl _)
          · rcases List.mem_cons.1 h with rfl | h
            · exact Or.inr (Nat.le_refl _)
            · exact Or.inr (Nat.le_of_lt (hr.2.1 b h))) h1 (by unfold Fits at ft; omega)
      exact made_spec hy hb r (pre ++ [s]) t _ (by rw [e]; simp) hr.2 (fun b h => by
        rcases List.mem_append.1 h with h | h
        · have := hp b h; omega
        · rw [List.mem_singleton.1 h]; exact h1) this
theorem ris_zero {e : List Nat} (hr : Ris e) (h0 : 0 ∈ e) : ∃ r, e = 0 :: r := by
  cases e with
  | nil => cases h0
  | cons x r =>
    rcases List.mem_cons.1 h0 with h | h
    · exact ⟨r, by rw [← h]⟩
    · have := hr.1 0 h; omega
theorem made_good {yes no : List Rg} (fy : FitL yes) (fn : FitL no) : Snd (madeL yes no) ∧ FitL (madeL yes no) ∧ ∀ a, Fits a → (memL (madeL yes no) a ↔ memL yes a ∧ ¬ memL no a) := by
  have fa : FitL (yes ++ no) := fun x hx => (List.mem_append.1 hx).elim (fy x) (fn x)
  obtain ⟨h1, h2, h3, h4⟩ := edges_spec (yes ++ no) [0] fa ⟨by simp, trivial⟩ (fun b h => by rw [List.mem_singleton.1 h]; unfold Fits; omega)
  obtain ⟨r, er⟩ := ris_zero h1 (h3 0 (by simp))
  have := made_spec h4 h2 r [] 0 [] er (er ▸ h1) (fun b h => by cases h) ⟨trivial, (fun x hx => by cases hx), (fun x hx => by cases hx), fun a ha => by omega⟩
  have e : madeL yes no = madeF yes no (0 :: r) [] := by unfold madeL edgesL; rw [er]
  rw [e]
  exact ⟨this.1, this.2.1, fun a ha => this.2.2.2 a ha⟩
/-- an address that doesn't fit is in no list that fits -/
theorem mem_fits {l : List Rg} (hf : FitL l) {a : Nat} (h : memL l a) : Fits a := by
  obtain ⟨x, hx, _, h2⟩ := h
  have := (hf x hx).2
  unfold Fits at *
  omega
theorem made_less {s o : List Rg} (hs : Snd s) (ho : Snd o) (fs : FitL s) (fo : FitL o) : madeL s o = lessL s o := by
  obtain ⟨m1, m2, m3⟩ := made_good fs fo
  obtain ⟨l1, _, l3⟩ := less_spec hs ho
  have fl := less_fit hs ho fs
  refine snd_ext m1 l1 fun a => ?_
  constructor
  · intro h
    exact (l3 a).2 ((m3 a (mem_fits m2 h)).1 h)
  · intro h
    exact (m3 a (mem_fits fl h)).2 ((l3 a).1 h)
theorem made_put {s : List Rg} {r : Rg} (hs : Snd s) (fs : FitL s) (fr : FitR r) (hr : r.1 ≤ r.2) : madeL (r :: s) [] = putL s r := by
  have fy : FitL (r :: s) := fun x hx => by
    rcases List.mem_cons.1 hx with rfl | hx
    · exact fr
    · exact fs x hx
  obtain ⟨m1, m2, m3⟩ := made_good fy (fun x (hx : x ∈ ([] : List Rg)) => by cases hx)
  obtain ⟨p1, p2⟩ := put_spec hs fs hr
  have fp := put_fit fs fr
  refine snd_ext m1 p1 fun a => ?_
  have k : memL (r :: s) a ∧ ¬ memL [] a ↔ memL s a ∨ inR r a := by
    rw [mem_cons]
    exact ⟨fun h => h.1.elim Or.inr Or.inl, fun h => ⟨h.elim Or.inr Or.inl, mem_nil a⟩⟩
  constructor
  · intro h
    exact (p2 a).2 (k.1 ((m3 a (mem_fits m2 h)).1 h))
  · intro h
    exact (m3 a (mem_fits fp h)).2 (k.2 ((p2 a).1 h))
end Go.Proofs.YtfmhpnendcikoaaGreat
