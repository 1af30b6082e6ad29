/-
  Mathematics of counting: members of a set, members below an address; places and ranks are opposites. Plain arithmetic, no program.
-/
import Derived.Test.YtfmhpnendcikoaaSpanK
namespace Go.Proofs.Ytfmhpnendcikoaa

/-- how many addresses a set has -/
def cntL : List Rg → Nat
  | [] => 0
  | x :: r => (x.2 + 1 - x.1) + cntL r
/-- how many addresses of a set are below one -/
def bel (a : Nat) : List Rg → Nat
  | [] => 0
  | x :: r => (min (x.2 + 1) a - x.1) + bel a r
theorem cnt_bound : ∀ {l : List Rg} {b : Nat}, Snd l → FitL l → b ≤ 340282366920938463463374607431768211456 → (∀ y ∈ l, b ≤ y.1) → b + cntL l ≤ 340282366920938463463374607431768211456
  | [], b, _, _, hb, _ => by simp only [cntL]; omega
  | x :: r, b, hs, hf, _, hm => by
    obtain ⟨h0, h1, h2⟩ := hs
    have fx := hf x (List.mem_cons_self ..)
    have := hm x (List.mem_cons_self ..)
    have f2 := fx.2
    unfold Fits at f2
    have := cnt_bound (b := x.2 + 1) h2 (fun y hy => hf y (List.mem_cons_of_mem _ hy)) (by omega) (fun y hy => by have := h1 y hy; omega)
    simp only [cntL]
    omega
theorem cnt_le {l : List Rg} (hs : Snd l) (hf : FitL l) : cntL l ≤ 340282366920938463463374607431768211456 := by
  have := cnt_bound (b := 0) hs hf (by omega) (fun _ _ => Nat.zero_le _)
  omega
theorem bel_zero : ∀ {l : List Rg} {a : Nat}, (∀ y ∈ l, a ≤ y.1) → bel a l = 0
  | [], a, _ => rfl
  | x :: r, a, h => by
    have := h x (List.mem_cons_self ..)
    have := bel_zero (l := r) (a := a) (fun y hy => h y (List.mem_cons_of_mem _ hy))
    simp only [bel]
    omega
theorem bel_bound : ∀ {l : List Rg} {a b : Nat}, Snd l → (∀ y ∈ l, b ≤ y.1) → bel a l ≤ a - b
  | [], a, b, _, _ => by simp only [bel]; omega
  | x :: r, a, b, hs, hm => by
    obtain ⟨h0, h1, h2⟩ := hs
    have := hm x (List.mem_cons_self ..)
    have := bel_bound (a := a) (b := x.2 + 1) h2 (fun y hy => by have := h1 y hy; omega)
    simp only [bel]
    omega
theorem bel_le {l : List Rg} (hs : Snd l) (a : Nat) : bel a l ≤ a := by
  have := bel_bound (a := a) (b := 0) hs (fun _ _ => Nat.zero_le _)
  omega
theorem size_eq {x : Rg} (fx : FitR x) (h : x.1 ≤ x.2) : sizeR x = (x.2 + 1 - x.1) % 340282366920938463463374607431768211456 := by
  have f1 := fx.1
  have f2 := fx.2
  unfold Fits at f1 f2
  unfold sizeR addS subS
  omega
theorem subS_eq {x : Rg} (fx : FitR x) (h : x.1 ≤ x.2) : subS x.2 x.1 = x.2 - x.1 := by
  have f1 := fx.1
  have f2 := fx.2
  unfold Fits at f1 f2
  unfold subS
  omega
theorem tot_eq : ∀ {l : List Rg} {acc : Nat}, Snd l → FitL l → acc < 340282366920938463463374607431768211456 → totS l acc = (acc + cntL l) % 340282366920938463463374607431768211456
  | [], acc, _, _, ha => by
    rw [tot_nil]
    simp only [cntL]
    omega
  | x :: r, acc, hs, hf, ha => by
    obtain ⟨h0, h1, h2⟩ := hs
    have := tot_eq (acc := addS acc (sizeR x)) h2 (fun y hy => hf y (List.mem_cons_of_mem _ hy)) (by unfold addS; omega)
    have e := size_eq (hf x (List.mem_cons_self ..)) h0
    rw [tot_cons, this, e]
    unfold addS
    simp only [cntL]
    omega
theorem tot_cnt {l : List Rg} (hs : Snd l) (hf : FitL l) : totS l 0 = cntL l % 340282366920938463463374607431768211456 := by
  rw [tot_eq hs hf (by decide), Nat.zero_add]
theorem cnt_pos {l : List Rg} (hs : Snd l) (h : l ≠ []) : 0 < cntL l := by
  cases l with
  | nil => exact absurd rfl h
  | cons x r =>
    have := hs.1
    simp only [cntL]
    omega
/-- the address at a place of a set -/
theorem nth_at : ∀ {l : List Rg} {n : Nat}, Snd l → FitL l → Fits n → n < cntL l → ∃ a, nthF l n = some a ∧ memL l a ∧ bel a l = n ∧ Fits a
  | [], n, _, _, _, h => by simp only [cntL] at h; omega
  | x :: r, n, hs, hf, fn, h => by
    obtain ⟨h0, h1, h2⟩ := hs
    have fx := hf x (List.mem_cons_self ..)
    have e := size_eq fx h0
    have e2 := subS_eq fx h0
    have f1 := fx.1
    have f2 := fx.2
    unfold Fits at f1 f2 fn
    rw [nthF_cons, e2]
    simp only [cntL] at h
    by_cases c : n ≤ x.2 - x.1
    · rw [if_pos c]
      have ea : addS x.1 n = x.1 + n := by unfold addS; omega
      refine ⟨_, rfl, mem_cons.2 (Or.inl ⟨by omega, by omega⟩), ?_, by unfold Fits; omega⟩
      have := bel_zero (l := r) (a := addS x.1 n) (fun y hy => by have := h1 y hy; omega)
      simp only [bel]
      omega
    · rw [if_neg c]
      have es : subS n (sizeR x) = n - (x.2 + 1 - x.1) := by rw [e]; unfold subS; omega
      rw [es]
      obtain ⟨a, g1, g2, g3, g4⟩ := nth_at (n := n - (x.2 + 1 - x.1)) h2 (fun y hy => hf y (List.mem_cons_of_mem _ hy)) (by unfold Fits; omega) (by omega)
      refine ⟨a, g1, mem_cons.2 (Or.inr g2), ?_, g4⟩
      obtain ⟨y, hy, k1, k2⟩ := g2
      have := h1 y hy
      simp only [bel]
      omega
theorem nth_off : ∀ {l : List Rg} {n : Nat}, Snd l → FitL l → Fits n → cntL l ≤ n → nthF l n = none
  | [], n, _, _, _, _ => nthF_nil n
  | x :: r, n, hs, hf, fn, h => by
    obtain ⟨h0, h1, h2⟩ := hs
    have fx := hf x (List.mem_cons_self ..)
    have e := size_eq fx h0
    have e2 := subS_eq fx h0
    have f1 := fx.1
    have f2 := fx.2
    unfold Fits at f1 f2 fn
    simp only [cntL] at h
    rw [nthF_cons, e2, if_neg (by omega)]
    have es : subS n (sizeR x) = n - (x.2 + 1 - x.1) := by rw [e]; unfold subS; omega
    rw [es]
    exact nth_off h2 (fun y hy => hf y (List.mem_cons_of_mem _ hy)) (by unfold Fits; omega) (by omega)
theorem nth_mem : ∀ {l : List Rg} {a : Nat}, Snd l → FitL l → Fits a → memL l a → nthF l (bel a l) = some a
  | [], a, _, _, _, h => absurd h (mem_nil _)
  | x :: r, a, hs, hf, fa, h => by
    obtain ⟨h0, h1, h2⟩ := hs
    have fx := hf x (List.mem_cons_self ..)
    have e := size_eq fx h0
    have e2 := subS_eq fx h0
    have f1 := fx.1
    have f2 := fx.2
    have bb := bel_le h2 a
    unfold Fits at f1 f2 fa
    rw [nthF_cons, e2]
    rcases mem_cons.1 h with ⟨k1, k2⟩ | h
    · have := bel_zero (l := r) (a := a) (fun y hy => by have := h1 y hy; omega)
      have eb : bel a (x :: r) = a - x.1 := by simp only [bel]; omega
      rw [eb, if_pos (by omega)]
      congr 1
      unfold addS
      omega
    · have hh := h
      obtain ⟨y, hy, k1, k2⟩ := hh
      have := h1 y hy
      have b2 := bel_bound (a := a) (b := x.2 + 1) h2 (fun y hy => by have := h1 y hy; omega)
      have eb : bel a (x :: r) = (x.2 + 1 - x.1) + bel a r := by simp only [bel]; omega
      rw [eb, if_neg (by omega)]
      have es : subS ((x.2 + 1 - x.1) + bel a r) (sizeR x) = bel a r := by rw [e]; unfold subS; omega
      rw [es]
      exact nth_mem h2 (fun y hy => hf y (List.mem_cons_of_mem _ hy)) fa h
theorem nth_above : ∀ {l : List Rg} {a y : Nat}, Snd l → FitL l → Fits a → ¬ memL l a → nthF l (bel a l) = some y → a < y
  | [], a, y, _, _, _, _, h => by rw [nthF_nil] at h; cases h
  | x :: r, a, y, hs, hf, fa, hm, h => by
    obtain ⟨h0, h1, h2⟩ := hs
    have fx := hf x (List.mem_cons_self ..)
    have e := size_eq fx h0
    have e2 := subS_eq fx h0
    have f1 := fx.1
    have f2 := fx.2
    unfold Fits at f1 f2 fa
    rw [nthF_cons, e2] at h
    by_cases c : a < x.1
    · have := bel_zero (l := r) (a := a) (fun y hy => by have := h1 y hy; omega)
      have eb : bel a (x :: r) = 0 := by simp only [bel]; omega
      rw [eb, if_pos (Nat.zero_le _)] at h
      injection h with h
      unfold addS at h
      omega
    · have c2 : x.2 < a := by
        rcases Nat.lt_or_ge x.2 a with e | e
        · exact e
        · exact absurd (mem_cons.2 (Or.inl ⟨by omega, e⟩)) hm
      have b2 := bel_bound (a := a) (b := x.2 + 1) h2 (fun y hy => by have := h1 y hy; omega)
      have eb : bel a (x :: r) = (x.2 + 1 - x.1) + bel a r := by simp only [bel]; omega
      rw [eb, if_neg (by omega)] at h
      have es : subS ((x.2 + 1 - x.1) + bel a r) (sizeR x) = bel a r := by rw [e]; unfold subS; omega
      rw [es] at h
      exact nth_above h2 (fun y hy => hf y (List.mem_cons_of_mem _ hy)) fa (fun k => hm (mem_cons.2 (Or.inr k))) h
theorem cnt_append : ∀ (a b : List Rg), cntL (a ++ b) = cntL a + cntL b
  | [], b => by rw [List.nil_append]; simp only [cntL]; omega
  | x :: r, b => by
    have := cnt_append r b
    rw [List.cons_append]
    simp only [cntL]
    omega
theorem holes_top {a : Nat} {x : Rg} (fx : FitR x) : holesL [(a, ones)] x = if a ≤ x.2 then [(a, ones)] else [] := by
  have f1 := fx.1
  unfold Fits at f1
  have h : ¬ ones < x.1 := by unfold ones; omega
  unfold holesL fromS toS
  by_cases c : a ≤ x.2
  · simp [List.takeWhile, c, h]
  · simp [List.takeWhile, c, h]
theorem rank_cnt : ∀ {l : List Rg} {a : Nat}, FitL l → (∀ x ∈ l, x.1 ≤ x.2) → cntL (lessL l [(a, ones)]) = bel a l
  | [], a, _, _ => rfl
  | x :: r, a, hf, ho => by
    have ih := rank_cnt (l := r) (a := a) (fun y hy => hf y (List.mem_cons_of_mem _ hy)) (fun y hy => ho y (List.mem_cons_of_mem _ hy))
    have fx := hf x (List.mem_cons_self ..)
    have h0 := ho x (List.mem_cons_self ..)
    have f2 := fx.2
    unfold Fits at f2
    have hx : cntL (restL x (holesL [(a, ones)] x)) = min (x.2 + 1) a - x.1 := by
      rw [holes_top fx]
      by_cases c : a ≤ x.2
      · rw [if_pos c]
        unfold restL
        have c2 : x.2 ≤ ones := by unfold ones; omega
        simp only [if_pos c2, List.append_nil]
        by_cases c3 : x.1 < a
        · rw [if_pos c3]
          simp only [cntL]
          omega
        · rw [if_neg c3]
          simp only [cntL]
          omega
      · rw [if_neg c]
        simp only [restL, cntL]
        omega
    have hl : lessL (x :: r) [(a, ones)] = restL x (holesL [(a, ones)] x) ++ lessL r [(a, ones)] := by
      unfold lessL
      rw [List.flatMap_cons]
    rw [hl, cnt_append, hx, ih]
    rfl
theorem snd_top {a : Nat} (fa : Fits a) : Snd [(a, ones)] := by
  unfold Fits at fa
  exact ⟨by unfold ones; simp only; omega, by simp, trivial⟩
theorem rank_bel {l : List Rg} {a : Nat} (hs : Snd l) (hf : FitL l) (fa : Fits a) : rankS l a = bel a l := by
  have h1 := (less_spec hs (snd_top fa)).1
  have h2 := less_fit hs (snd_top fa) hf
  have h3 := rank_cnt (l := l) (a := a) hf (fun x hx => by obtain ⟨i, hi⟩ := List.getElem?_of_mem hx; exact snd_at hs hi)
  have := bel_le hs a
  unfold Fits at fa
  unfold rankS
  rw [if_pos (sound_snd.2 hs), tot_cnt h1 h2, h3]
  omega
end Go.Proofs.Ytfmhpnendcikoaa
