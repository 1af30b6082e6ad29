/-
  Mathematics of SpanLess: a set without another one and what both have in common are together as many as the set; how long a difference is. Plain arithmetic, no program.
-/
import Derived.Test.YtfmhpnendcikoaaSpanCn
import Derived.Test.YtfmhpnendcikoaaSpanMm
namespace Go.Proofs.Ytfmhpnendcikoaa

theorem bel_out : ∀ {l : List Rg} {a : Nat}, ¬ memL l a → bel (a + 1) l = bel a l
  | [], _, _ => rfl
  | x :: r, a, h => by
    have h1 : ¬ inR x a := fun e => h (mem_cons.2 (Or.inl e))
    have := bel_out (l := r) (a := a) (fun e => h (mem_cons.2 (Or.inr e)))
    unfold inR at h1
    simp only [bel]
    omega
theorem bel_in : ∀ {l : List Rg} {a : Nat}, Snd l → memL l a → bel (a + 1) l = bel a l + 1
  | [], _, _, h => absurd h (mem_nil _)
  | x :: r, a, hs, h => by
    obtain ⟨h0, h1, h2⟩ := hs
    rcases mem_cons.1 h with ⟨k1, k2⟩ | h
    · have e1 := bel_zero (l := r) (a := a) (fun y hy => by have := h1 y hy; omega)
      have e2 := bel_zero (l := r) (a := a + 1) (fun y hy => by have := h1 y hy; omega)
      simp only [bel]
      omega
    · have := bel_in h2 h
      obtain ⟨y, hy, k1, k2⟩ := h
      have := h1 y hy
      simp only [bel]
      omega
theorem bel_nought : ∀ l : List Rg, bel 0 l = 0
  | [] => rfl
  | x :: r => by
    have := bel_nought r
    simp only [bel]
    omega
theorem bel_sum {o l m : List Rg} (so : Snd o) (sl : Snd l) (sm : Snd m) (h : ∀ a, memL o a ↔ memL l a ∨ memL m a) (hd : ∀ a, memL l a → ¬ memL m a) : ∀ a, bel a o = bel a l + bel a m
  | 0 => by rw [bel_nought, bel_nought, bel_nought]
  | a + 1 => by
    have ih := bel_sum so sl sm h hd a
    by_cases h1 : memL l a
    · rw [bel_in so ((h a).2 (Or.inl h1)), bel_in sl h1, bel_out (hd a h1)]
      omega
    · by_cases h2 : memL m a
      · rw [bel_in so ((h a).2 (Or.inr h2)), bel_out h1, bel_in sm h2]
        omega
      · rw [bel_out (fun e => ((h a).1 e).elim h1 h2), bel_out h1, bel_out h2]
        exact ih
theorem cnt_bel : ∀ {l : List Rg}, FitL l → cntL l = bel 340282366920938463463374607431768211456 l
  | [], _ => rfl
  | x :: r, hf => by
    have := cnt_bel (l := r) (fun y hy => hf y (List.mem_cons_of_mem _ hy))
    have f2 := (hf x (List.mem_cons_self ..)).2
    unfold Fits at f2
    simp only [cntL, bel]
    omega
theorem cnt_sum {o l m : List Rg} (so : Snd o) (sl : Snd l) (sm : Snd m) (fo : FitL o) (fl : FitL l) (fm : FitL m) (h : ∀ a, memL o a ↔ memL l a ∨ memL m a) (hd : ∀ a, memL l a → ¬ memL m a) : cntL o = cntL l + cntL m := by
  rw [cnt_bel fo, cnt_bel fl, cnt_bel fm]
  exact bel_sum so sl sm h hd _
theorem less_self {s : List Rg} (hs : Snd s) : lessL s s = [] := by
  obtain ⟨h1, _, h2⟩ := less_spec hs hs
  refine snd_ext h1 trivial fun a => ?_
  rw [h2]
  exact ⟨fun h => absurd h.1 h.2, fun h => absurd h (mem_nil _)⟩
theorem both_mem {x y : List Rg} (hx : Snd x) (hy : Snd y) (a : Nat) : memL (lessL x (lessL x y)) a ↔ memL x a ∧ memL y a := by
  obtain ⟨h1, _, h2⟩ := less_spec hx hy
  obtain ⟨_, _, h3⟩ := less_spec hx h1
  rw [h3, h2]
  constructor
  · rintro ⟨e1, e2⟩
    refine ⟨e1, ?_⟩
    by_cases h : memL y a
    · exact h
    · exact absurd ⟨e1, h⟩ e2
  · rintro ⟨e1, e2⟩
    exact ⟨e1, fun e => e.2 e2⟩
theorem less_sum {x y : List Rg} (hx : Snd x) (hy : Snd y) (fx : FitL x) : cntL x = cntL (lessL x y) + cntL (lessL x (lessL x y)) := by
  obtain ⟨h1, _, h2⟩ := less_spec hx hy
  obtain ⟨h3, _, _⟩ := less_spec hx h1
  refine cnt_sum hx h1 h3 fx (less_fit hx hy fx) (less_fit hx h1 fx) (fun a => ?_) (fun a => ?_)
  · rw [h2, both_mem hx hy]
    constructor
    · intro h
      by_cases k : memL y a
      · exact Or.inr ⟨h, k⟩
      · exact Or.inl ⟨h, k⟩
    · rintro (h | h)
      · exact h.1
      · exact h.1
  · rw [h2, both_mem hx hy]
    intro h k
    exact h.2 k.2
/-- the sum that the law asks, modulo 2^128 -/
theorem tot_sum {x y : List Rg} (hx : Snd x) (hy : Snd y) (fx : FitL x) : addS (totS (lessL x y) 0) (totS (lessL x (lessL x y)) 0) = totS x 0 := by
  obtain ⟨h1, _, _⟩ := less_spec hx hy
  obtain ⟨h3, _, _⟩ := less_spec hx h1
  rw [tot_cnt h1 (less_fit hx hy fx), tot_cnt h3 (less_fit hx h1 fx), tot_cnt hx fx]
  have := less_sum hx hy fx
  unfold addS
  omega
theorem has_both {x y : List Rg} (hx : Snd x) (hy : Snd y) (a : Nat) : hasB (lessL x (lessL x y)) a = (hasB x a && hasB y a) := by
  obtain ⟨h1, _, _⟩ := less_spec hx hy
  obtain ⟨h3, _, _⟩ := less_spec hx h1
  rw [Bool.eq_iff_iff, Bool.and_eq_true, hasB_iff h3, hasB_iff hx, hasB_iff hy, both_mem hx hy]
theorem to_from {o : List Rg} (ho : Snd o) {a b : Nat} (h : a < b) : toS o a ≤ fromS o b + 1 := by
  rcases Nat.lt_or_ge (fromS o b + 1) (toS o a) with e | e
  · exfalso
    have hl := to_le o a
    have x0 := some_getD (show fromS o b < o.length by omega)
    have x1 := some_getD (show fromS o b + 1 < o.length by omega)
    have k1 := (to_iff ho x1 (b := a)).1 e
    have k2 := snd_lt ho (Nat.lt_succ_self _) x0 x1
    have k3 := (from_iff ho x0 (a := b)).2 (by omega)
    omega
  · exact e
theorem less_room {l o : List Rg} (hs : Snd l) (ho : Snd o) : ∀ k, k ≤ l.length → ∃ T, (lessL (l.take k) o).length ≤ 2 * k + T ∧ T ≤ o.length ∧ ∀ j x, k ≤ j → l[j]? = some x → T ≤ fromS o x.1 + 1
  | 0, _ => ⟨0, by simp [lessL], Nat.zero_le _, fun _ _ _ _ => Nat.zero_le _⟩
  | k + 1, h => by
    obtain ⟨T, h1, h2, h3⟩ := less_room hs ho k (by omega)
    obtain ⟨x, hx⟩ := get_some (show k < l.length by omega)
    have h4 := h3 k x (Nat.le_refl _) hx
    have h5 := rest_len (holesL o x) x
    have h6 := holes_len o x
    have h7 := to_le o x.2
    refine ⟨max T (toS o x.2), ?_, by omega, fun j y hj hy => ?_⟩
    · rw [less_take hx, List.length_append]
      omega
    · have h8 := h3 j y (by omega) hy
      have h9 := snd_lt hs (show k < j by omega) hx hy
      have h10 := to_from ho (show x.2 < y.1 by omega)
      omega
theorem less_length {l o : List Rg} (hs : Snd l) (ho : Snd o) : (lessL l o).length ≤ 2 * l.length + o.length := by
  obtain ⟨T, h1, h2, _⟩ := less_room hs ho l.length (Nat.le_refl _)
  rw [List.take_length] at h1
  omega
end Go.Proofs.Ytfmhpnendcikoaa
