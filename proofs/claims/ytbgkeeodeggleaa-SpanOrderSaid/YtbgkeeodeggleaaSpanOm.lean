/-
  Mathematics of SpanOrder: what is built of a list depends on its ranges alone. Plain arithmetic, no program.
-/
import Derived.Test.YtbgkeeodeggleaaSpanMm
namespace Go.Proofs.Ytbgkeeodeggleaa

theorem fold_mem : ∀ {l s : List Rg}, FitL l → Snd s → FitL s → Snd (l.foldl putIf s) ∧ ∀ a, memL (l.foldl putIf s) a ↔ memL s a ∨ ∃ x ∈ l, x.1 ≤ x.2 ∧ inR x a
  | [], s, _, hs, _ => ⟨hs, fun a => ⟨Or.inl, fun h => h.elim id fun ⟨x, hx, _⟩ => by cases hx⟩⟩
  | x :: r, s, hf, hs, fs => by
    have fx := hf x (List.mem_cons_self ..)
    obtain ⟨g1, g2, _⟩ := putIf_good hs fs fx
    obtain ⟨i1, i2⟩ := fold_mem (l := r) (s := putIf s x) (fun y hy => hf y (List.mem_cons_of_mem _ hy)) g1 g2
    rw [List.foldl_cons]
    refine ⟨i1, fun a => ?_⟩
    have step : memL (putIf s x) a ↔ memL s a ∨ (x.1 ≤ x.2 ∧ inR x a) := by
      unfold putIf
      split
      · rename_i h
        have hr : x.1 ≤ x.2 := by simpa [okR] using h
        rw [(put_spec hs fs hr).2]
        exact ⟨fun h => h.elim Or.inl fun h => Or.inr ⟨hr, h⟩, fun h => h.elim Or.inl fun h => Or.inr h.2⟩
      · rename_i h
        have hr : ¬ x.1 ≤ x.2 := by simpa [okR] using h
        exact ⟨Or.inl, fun h => h.elim id fun h => absurd h.1 hr⟩
    rw [i2, step]
    constructor
    · rintro ((h | h) | ⟨y, hy, h⟩)
      · exact Or.inl h
      · exact Or.inr ⟨x, List.mem_cons_self .., h⟩
      · exact Or.inr ⟨y, List.mem_cons_of_mem _ hy, h⟩
    · rintro (h | ⟨y, hy, h⟩)
      · exact Or.inl (Or.inl h)
      · rcases List.mem_cons.1 hy with rfl | hy
        · exact Or.inl (Or.inr h)
        · exact Or.inr ⟨y, hy, h⟩
theorem fold_same {l m : List Rg} (hf : FitL l) (hm : FitL m) (h : ∀ a, (∃ x ∈ l, x.1 ≤ x.2 ∧ inR x a) ↔ ∃ x ∈ m, x.1 ≤ x.2 ∧ inR x a) : l.foldl putIf [] = m.foldl putIf [] := by
  have f0 : FitL [] := fun x hx => by cases hx
  obtain ⟨h1, h2⟩ := fold_mem (s := []) hf trivial f0
  obtain ⟨h3, h4⟩ := fold_mem (s := []) hm trivial f0
  refine snd_ext h1 h3 fun a => ?_
  rw [h2, h4, h]
/-- in the other order -/
theorem built_turned {l : List Rg} (hf : FitL l) : builtL (l.take 200).reverse = builtL l := by
  have ft : FitL (l.take 200) := fun x hx => hf x (List.mem_of_mem_take hx)
  have fr : FitL (l.take 200).reverse := fun x hx => ft x (List.mem_reverse.1 hx)
  have e : builtL (l.take 200).reverse = (l.take 200).reverse.foldl putIf [] := by
    unfold builtL
    rw [List.take_of_length_le (by rw [List.length_reverse, List.length_take]; omega)]
  rw [e]
  unfold builtL
  refine fold_same fr ft fun a => ?_
  simp only [List.mem_reverse]
/-- the list, and its set behind it -/
theorem built_twice {l : List Rg} (hf : FitL l) (hl : (l.take 200 ++ builtL l).length ≤ 200) : builtL (l.take 200 ++ builtL l) = builtL l := by
  have ft : FitL (l.take 200) := fun x hx => hf x (List.mem_of_mem_take hx)
  obtain ⟨g1, g2, _⟩ := builtL_good hf
  have fa : FitL (l.take 200 ++ builtL l) := fun x hx => (List.mem_append.1 hx).elim (ft x) (g2 x)
  have f0 : FitL [] := fun x hx => by cases hx
  have hb := (fold_mem (s := []) ft trivial f0).2
  have hm : ∀ a, memL (builtL l) a ↔ ∃ x ∈ l.take 200, x.1 ≤ x.2 ∧ inR x a := fun a => by
    unfold builtL
    rw [hb]
    exact ⟨fun h => h.elim (fun h => absurd h (mem_nil _)) id, Or.inr⟩
  have e : builtL (l.take 200 ++ builtL l) = (l.take 200 ++ builtL l).foldl putIf [] := by
    conv => lhs; unfold builtL
    rw [show (l.take 200).foldl putIf [] = builtL l from rfl, List.take_of_length_le hl]
  rw [e]
  have : builtL l = (l.take 200).foldl putIf [] := rfl
  rw [this]
  refine fold_same (this ▸ fa) ft fun a => ?_
  rw [← this]
  constructor
  · rintro ⟨x, hx, h1, h2⟩
    rcases List.mem_append.1 hx with hx | hx
    · exact ⟨x, hx, h1, h2⟩
    · exact (hm a).1 ⟨x, hx, h2⟩
  · rintro ⟨x, hx, h⟩
    exact ⟨x, List.mem_append_left _ hx, h⟩
end Go.Proofs.Ytbgkeeodeggleaa
