/-
  The walk of the law SpanMembers: it returns true. Conditions: the words are words of 64 bits (every value of the types is such).
  Mathematics of counting: members of a set, members below an address; places and ranks are opposites. Plain arithmetic, no program.
  Mathematics of SpanLess: a set without another one and what both have in common are together as many as the set; how long a difference is. Plain arithmetic, no program.
-/
import Derived.Test.YtfmhpnendcikoaaGreatSpanB
namespace Go.Proofs.YtfmhpnendcikoaaGreat
open Go.RowKit Go.Joins

theorem hasB_iff {l : List Rg} (hs : Snd l) (a : Nat) : hasB l a = true ↔ memL l a := by
  unfold hasB
  rw [sound_snd.2 hs, Bool.true_and, decide_eq_true_eq, mem_at]
  constructor
  · intro h
    have hl := to_le l a
    have hx := some_getD (show fromS l a < l.length by omega)
    have h1 := (to_iff hs hx (b := a)).1 h
    have h2 := fun e => (from_iff hs hx (a := a)).2 e
    exact ⟨_, _, hx, h1, by omega⟩
  · rintro ⟨i, x, hx, h1, h2⟩
    have h3 := (to_iff hs hx (b := a)).2 h1
    have h4 := fun e => (from_iff hs hx (a := a)).1 e
    omega
theorem in_iff (r : Rg) (a : Nat) : inB r a = true ↔ inR r a := by unfold inB inR; simp
theorem has_put {s : List Rg} {r : Rg} (hs : Snd s) (hf : FitL s) (hr : r.1 ≤ r.2) (a : Nat) : hasB (putL s r) a = (hasB s a || inB r a) := by
  obtain ⟨h1, h2⟩ := put_spec hs hf hr
  rw [Bool.eq_iff_iff, Bool.or_eq_true, hasB_iff h1, hasB_iff hs, in_iff, h2]
theorem snd_one {r : Rg} (hr : r.1 ≤ r.2) : Snd [r] := ⟨hr, by simp, trivial⟩
theorem mem_one {r : Rg} {a : Nat} : memL [r] a ↔ inR r a := by
  rw [mem_cons]
  exact ⟨fun h => h.elim id fun h => absurd h (mem_nil _), Or.inl⟩
theorem has_less {s o : List Rg} (hs : Snd s) (ho : Snd o) (a : Nat) : hasB (lessL s o) a = (hasB s a && !hasB o a) := by
  obtain ⟨h1, _, h2⟩ := less_spec hs ho
  rw [Bool.eq_iff_iff, Bool.and_eq_true, hasB_iff h1, hasB_iff hs, h2, Bool.not_eq_true', ← Bool.not_eq_true, hasB_iff ho]
theorem has_drop {s : List Rg} {r : Rg} (hs : Snd s) (hr : r.1 ≤ r.2) (a : Nat) : hasB (lessL s [r]) a = (hasB s a && !inB r a) := by
  obtain ⟨h1, _, h2⟩ := less_spec hs (snd_one hr)
  rw [Bool.eq_iff_iff, Bool.and_eq_true, hasB_iff h1, hasB_iff hs, h2, mem_one, Bool.not_eq_true', ← Bool.not_eq_true, in_iff]
theorem back_same {s : List Rg} {r : Rg} (hs : Snd s) (hf : FitL s) (hr : r.1 ≤ r.2) : putL (lessL s [r]) r = putL s r := by
  obtain ⟨h1, _, h2⟩ := less_spec hs (snd_one hr)
  obtain ⟨p1, p2⟩ := put_spec hs hf hr
  obtain ⟨q1, q2⟩ := put_spec h1 (less_fit hs (snd_one hr) hf) hr
  refine snd_ext q1 p1 fun a => ?_
  rw [q2, p2, h2, mem_one]
  constructor
  · rintro (⟨h, _⟩ | h)
    · exact Or.inl h
    · exact Or.inr h
  · rintro (h | h)
    · by_cases hi : inR r a
      · exact Or.inr hi
      · exact Or.inl ⟨h, hi⟩
    · exact Or.inr h
/-- the boxes of the range and the address -/
def HMm (w : World) (r : Rg) (a : Nat) (W : World) : Prop := Below w.heap.size w W ∧ Four w.heap.size r W ∧ Two (w.heap.size + 1) a W
theorem HMm.step {w : World} {r : Rg} {a : Nat} {W w2 : World} (h : HMm w r a W) (hb : Below W.heap.size W w2) : HMm w r a w2 := ⟨h.1.trans (hb.mono h.1.size), h.2.1.step hb, h.2.2.step hb⟩
theorem hmm_new (w : World) (r : Rg) (a : Nat) : HMm w r a ((w.alloc (.cells #[.int .u64 (hi r.1 : Nat), .int .u64 (lo r.1 : Nat), .int .u64 (hi r.2 : Nat), .int .u64 (lo r.2 : Nat)] 36)).alloc (.cells #[.int .u64 (hi a : Nat), .int .u64 (lo a : Nat)] 31)) := by
  have h2 := two_new (w.alloc (.cells #[.int .u64 (hi r.1 : Nat), .int .u64 (lo r.1 : Nat), .int .u64 (hi r.2 : Nat), .int .u64 (lo r.2 : Nat)] 36)) a 31
  rw [World.size_alloc] at h2
  exact ⟨chain (below_alloc _ _) (below_alloc _ _), (four_new w r _).step (below_alloc _ _), h2⟩
theorem builtL_good {l : List Rg} (hf : FitL l) : Snd (builtL l) ∧ FitL (builtL l) ∧ (builtL l).length ≤ 200 := built_good hf 200
/-- five addresses in a block -/
def Five (g : Nat) (q : Nat → Nat) (W : World) : Prop := ∀ i, i < 5 → W.cell? ⟨g, i * 2, none⟩ = some (.int .u64 (hi (q i) : Nat)) ∧ W.cell? ⟨g, i * 2 + 1, none⟩ = some (.int .u64 (lo (q i) : Nat))
theorem Five.step {g : Nat} {q : Nat → Nat} {W w2 : World} (h : Five g q W) (hb : Below W.heap.size W w2) : Five g q w2 := fun i hi => ⟨keep_cell hb (h i hi).1, keep_cell hb (h i hi).2⟩
def pick5 (a b c d e : Nat) (i : Nat) : Nat := match i with | 0 => a | 1 => b | 2 => c | 3 => d | _ => e
theorem five_new (V : World) (a b c d e : Nat) (t : TypeId) : Five V.heap.size (pick5 a b c d e) (V.alloc (.cells #[.int .u64 (hi a : Nat), .int .u64 (lo a : Nat), .int .u64 (hi b : Nat), .int .u64 (lo b : Nat), .int .u64 (hi c : Nat), .int .u64 (lo c : Nat), .int .u64 (hi d : Nat), .int .u64 (lo d : Nat), .int .u64 (hi e : Nat), .int .u64 (lo e : Nat)] t)) := by
  intro i hi5
  have : i = 0 ∨ i = 1 ∨ i = 2 ∨ i = 3 ∨ i = 4 := by omega
  rcases this with rfl | rfl | rfl | rfl | rfl <;> constructor <;> simp [go_sem, pick5]
/-- all that the loop of SpanMembers reads -/
def HLp (w : World) (r : Rg) (a g : Nat) (q : Nat → Nat) (vs vx vy : Value) (s x y : List Rg) (W : World) : Prop := HMm w r a W ∧ Five g q W ∧ Lst vs s W ∧ Lst vx x W ∧ Lst vy y W
theorem HLp.step {w : World} {r : Rg} {a g : Nat} {q : Nat → Nat} {vs vx vy : Value} {s x y : List Rg} {W w2 : World} (h : HLp w r a g q vs vx vy s x y W) (hb : Below W.heap.size W w2) : HLp w r a g q vs vx vy s x y w2 := ⟨h.1.step hb, h.2.1.step hb, h.2.2.1.step hb, h.2.2.2.1.step hb, h.2.2.2.2.step hb⟩

end Go.Proofs.YtfmhpnendcikoaaGreat
namespace Go.Proofs.YtfmhpnendcikoaaGreat

/-- how many addresses a set has -/
def cntL : List Rg → Nat
  | [] => 0
  | x :: r => (x.2 + 1 - x.1) + cntL r
/-- how many addresses of a set are below one -/
def bel (a : Nat) : List Rg → Nat
  | [] => 0
  | x :: r => (min (x.2 + 1) a - x.1) + bel a r
theorem cnt_bound : ∀ {l : List Rg} {b : Nat}, Snd l → FitL l → b ≤ 340282366920938463463374607431768211456 → (∀ y ∈ l, b ≤ y.1) → b + cntL l ≤ 340282366920938463463374607431768211456
  | [], b, _, _, hb, _ => by simp only [cntL]; omega
  | x :: r, b, hs, hf, _, hm => by
    obtain ⟨h0, h1, h2⟩ := hs
    have fx := hf x (List.mem_cons_self ..)
    have := hm x (List.mem_cons_self ..)
    have f2 := fx.2
    unfold Fits at f2
    have := cnt_bound (b := x.2 + 1) h2 (fun y hy => hf y (List.mem_cons_of_mem _ hy)) (by omega) (fun y hy => by have := h1 y hy; omega)
    simp only [cntL]
    omega
theorem cnt_le {l : List Rg} (hs : Snd l) (hf : FitL l) : cntL l ≤ 340282366920938463463374607431768211456 := by
  have := cnt_bound (b := 0) hs hf (by omega) (fun _ _ => Nat.zero_le _)
  omega
theorem bel_zero : ∀ {l : List Rg} {a : Nat}, (∀ y ∈ l, a ≤ y.1) → bel a l = 0
  | [], a, _ => rfl
  | x :: r, a, h => by
    have := h x (List.mem_cons_self ..)
    have := bel_zero (l := r) (a := a) (fun y hy => h y (List.mem_cons_of_mem _ hy))
    simp only [bel]
    omega
theorem bel_bound : ∀ {l : List Rg} {a b : Nat}, Snd l → (∀ y ∈ l, b ≤ y.1) → bel a l ≤ a - b
  | [], a, b, _, _ => by simp only [bel]; omega
  | x :: r, a, b, hs, hm => by
    obtain ⟨h0, h1, h2⟩ := hs
    have := hm x (List.mem_cons_self ..)
    have := bel_bound (a := a) (b := x.2 + 1) h2 (fun y hy => by have := h1 y hy; omega)
    simp only [bel]
    omega
theorem bel_le {l : List Rg} (hs : Snd l) (a : Nat) : bel a l ≤ a := by
  have := bel_bound (a := a) (b := 0) hs (fun _ _ => Nat.zero_le _)
  omega
theorem size_eq {x : Rg} (fx : FitR x) (h : x.1 ≤ x.2) : sizeR x = (x.2 + 1 - x.1) % 340282366920938463463374607431768211456 := by
  have f1 := fx.1
  have f2 := fx.2
  unfold Fits at f1 f2
  unfold sizeR addS subS
  omega
theorem subS_eq {x : Rg} (fx : FitR x) (h : x.1 ≤ x.2) : subS x.2 x.1 = x.2 - x.1 := by
  have f1 := fx.1
  have f2 := fx.2
  unfold Fits at f1 f2
  unfold subS
  omega
theorem tot_eq : ∀ {l : List Rg} {acc : Nat}, Snd l → FitL l → acc < 340282366920938463463374607431768211456 → totS l acc = (acc + cntL l) % 340282366920938463463374607431768211456
  | [], acc, _, _, ha => by
    rw [tot_nil]
    simp only [cntL]
    omega
  | x :: r, acc, hs, hf, ha => by
    obtain ⟨h0, h1, h2⟩ := hs
    have := tot_eq (acc := addS acc (sizeR x)) h2 (fun y hy => hf y (List.mem_cons_of_mem _ hy)) (by unfold addS; omega)
    have e := size_eq (hf x (List.mem_cons_self ..)) h0
    rw [tot_cons, this, e]
    unfold addS
    simp only [cntL]
    omega
theorem tot_cnt {l : List Rg} (hs : Snd l) (hf : FitL l) : totS l 0 = cntL l % 340282366920938463463374607431768211456 := by
  rw [tot_eq hs hf (by decide), Nat.zero_add]
theorem cnt_pos {l : List Rg} (hs : Snd l) (h : l ≠ []) : 0 < cntL l := by
  cases l with
  | nil => exact absurd rfl h
  | cons x r =>
    have := hs.1
    simp only [cntL]
    omega
/-- the address at a place of a set -/
theorem nth_at : ∀ {l : List Rg} {n : Nat}, Snd l → FitL l → Fits n → n < cntL l → ∃ a, nthF l n = some a ∧ memL l a ∧ bel a l = n ∧ Fits a
  | [], n, _, _, _, h => by simp only [cntL] at h; omega
  | x :: r, n, hs, hf, fn, h => by
    obtain ⟨h0, h1, h2⟩ := hs
    have fx := hf x (List.mem_cons_self ..)
    have e := size_eq fx h0
    have e2 := subS_eq fx h0
    have f1 := fx.1
    have f2 := fx.2
    unfold Fits at f1 f2 fn
    rw [nthF_cons, e2]
    simp only [cntL] at h
    by_cases c : n ≤ x.2 - x.1
    · rw [if_pos c]
      have ea : addS x.1 n = x.1 + n := by unfold addS; omega
      refine ⟨_, rfl, mem_cons.2 (Or.inl ⟨by omega, by omega⟩), ?_, by unfold Fits; omega⟩
      have := bel_zero (l := r) (a := addS x.1 n) (fun y hy => by have := h1 y hy; omega)
      simp only [bel]
      omega
    · rw [if_neg c]
      have es : subS n (sizeR x) = n - (x.2 + 1 - x.1) := by rw [e]; unfold subS; omega
      rw [es]
      obtain ⟨a, g1, g2, g3, g4⟩ := nth_at (n := n - (x.2 + 1 - x.1)) h2 (fun y hy => hf y (List.mem_cons_of_mem _ hy)) (by unfold Fits; omega) (by omega)
      refine ⟨a, g1, mem_cons.2 (Or.inr g2), ?_, g4⟩
      obtain ⟨y, hy, k1, k2⟩ := g2
      have := h1 y hy
      simp only [bel]
      omega
theorem nth_off : ∀ {l : List Rg} {n : Nat}, Snd l → FitL l → Fits n → cntL l ≤ n → nthF l n = none
  | [], n, _, _, _, _ => nthF_nil n
  | x :: r, n, hs, hf, fn, h => by
    obtain ⟨h0, h1, h2⟩ := hs
    have fx := hf x (List.mem_cons_self ..)
    have e := size_eq fx h0
    have e2 := subS_eq fx h0
    have f1 := fx.1
    have f2 := fx.2
    unfold Fits at f1 f2 fn
    simp only [cntL] at h
    rw [nthF_cons, e2, if_neg (by omega)]
    have es : subS n (sizeR x) = n - (x.2 + 1 - x.1) := by rw [e]; unfold subS; omega
    rw [es]
    exact nth_off h2 (fun y hy => hf y (List.mem_cons_of_mem _ hy)) (by unfold Fits; omega) (by omega)
theorem nth_mem : ∀ {l : List Rg} {a : Nat}, Snd l → FitL l → Fits a → memL l a → nthF l (bel a l) = some a
  | [], a, _, _, _, h => absurd h (mem_nil _)
  | x :: r, a, hs, hf, fa, h => by
    obtain ⟨h0, h1, h2⟩ := hs
    have fx := hf x (List.mem_cons_self ..)
    have e := size_eq fx h0
    have e2 := subS_eq fx h0
    have f1 := fx.1
    have f2 := fx.2
    have bb := bel_le h2 a
    unfold Fits at f1 f2 fa
    rw [nthF_cons, e2]
    rcases mem_cons.1 h with ⟨k1, k2⟩ | h
    · have := bel_zero (l := r) (a := a) (fun y hy => by have := h1 y hy; omega)
      have eb : bel a (x :: r) = a - x.1 := by simp only [bel]; omega
      rw [eb, if_pos (by omega)]
      congr 1
      unfold addS
      omega
    · have hh := h
      obtain ⟨y, hy, k1, k2⟩ := hh
      have := h1 y hy
      have b2 := bel_bound (a := a) (b := x.2 + 1) h2 (fun y hy => by have := h1 y hy; omega)
      have eb : bel a (x :: r) = (x.2 + 1 - x.1) + bel a r := by simp only [bel]; omega
      rw [eb, if_neg (by omega)]
      have es : subS ((x.2 + 1 - x.1) + bel a r) (sizeR x) = bel a r := by rw [e]; unfold subS; omega
      rw [es]
      exact nth_mem h2 (fun y hy => hf y (List.mem_cons_of_mem _ hy)) fa h
theorem nth_above : ∀ {l : List Rg} {a y : Nat}, Snd l → FitL l → Fits a → ¬ memL l a → nthF l (bel a l) = some y → a < y
  | [], a, y, _, _, _, _, h => by rw [nthF_nil] at h; cases h
  | x :: r, a, y, hs, hf, fa, hm, h => by
    obtain ⟨h0, h1, h2⟩ := hs
    have fx := hf x (List.mem_cons_self ..)
    have e := size_eq fx h0
    have e2 := subS_eq fx h0
    have f1 := fx.1
    have f2 := fx.2
    unfold Fits at f1 f2 fa
    rw [nthF_cons, e2] at h
    by_cases c : a < x.1
    · have := bel_zero (l := r) (a := a) (fun y hy => by have := h1 y hy; omega)
      have eb : bel a (x :: r) = 0 := by simp only [bel]; omega
      rw [eb, if_pos (Nat.zero_le _)] at h
      injection h with h
      unfold addS at h
      omega
    · have c2 : x.2 < a := by
        rcases Nat.lt_or_ge x.2 a with e | e
        · exact e
        · exact absurd (mem_cons.2 (Or.inl ⟨by omega, e⟩)) hm
      have b2 := bel_bound (a := a) (b := x.2 + 1) h2 (fun y hy => by have := h1 y hy; omega)
      have eb : bel a (x :: r) = (x.2 + 1 - x.1) + bel a r := by simp only [bel]; omega
      rw [eb, if_neg (by omega)] at h
      have es : subS ((x.2 + 1 - x.1) + bel a r) (sizeR x) = bel a r := by rw [e]; unfold subS; omega
      rw [es] at h
      exact nth_above h2 (fun y hy => hf y (List.mem_cons_of_mem _ hy)) fa (fun k => hm (mem_cons.2 (Or.inr k))) h
theorem cnt_append : ∀ (a b : List Rg), cntL (a ++ b) = cntL a + cntL b
  | [], b => by rw [List.nil_append]; simp only [cntL]; omega
  | x :: r, b => by
    have := cnt_append r b
    rw [List.cons_append]
    simp only [cntL]
    omega
theorem holes_top {a : Nat} {x : Rg} (fx : FitR x) : holesL [(a, ones)] x = if a ≤ x.2 then [(a, ones)] else [] := by
  have f1 := fx.1
  unfold Fits at f1
  have h : ¬ ones < x.1 := by unfold ones; omega
  unfold holesL fromS toS
  by_cases c : a ≤ x.2
  · simp [List.takeWhile, c, h]
  · simp [List.takeWhile, c, h]
theorem rank_cnt : ∀ {l : List Rg} {a : Nat}, FitL l → (∀ x ∈ l, x.1 ≤ x.2) → cntL (lessL l [(a, ones)]) = bel a l
  | [], a, _, _ => rfl
  | x :: r, a, hf, ho => by
    have ih := rank_cnt (l := r) (a := a) (fun y hy => hf y (List.mem_cons_of_mem _ hy)) (fun y hy => ho y (List.mem_cons_of_mem _ hy))
    have fx := hf x (List.mem_cons_self ..)
    have h0 := ho x (List.mem_cons_self ..)
    have f2 := fx.2
    unfold Fits at f2
    have hx : cntL (restL x (holesL [(a, ones)] x)) = min (x.2 + 1) a - x.1 := by
      rw [holes_top fx]
      by_cases c : a ≤ x.2
      · rw [if_pos c]
        unfold restL
        have c2 : x.2 ≤ ones := by unfold ones; omega
        simp only [if_pos c2, List.append_nil]
        by_cases c3 : x.1 < a
        · rw [if_pos c3]
          simp only [cntL]
          omega
        · rw [if_neg c3]
          simp only [cntL]
          omega
      · rw [if_neg c]
        simp only [restL, cntL]
        omega
    have hl : lessL (x :: r) [(a, ones)] = restL x (holesL [(a, ones)] x) ++ lessL r [(a, ones)] := by
      unfold lessL
      rw [List.flatMap_cons]
    rw [hl, cnt_append, hx, ih]
    rfl
theorem snd_top {a : Nat} (fa : Fits a) : Snd [(a, ones)] := by
  unfold Fits at fa
  exact ⟨by unfold ones; simp only; omega, by simp, trivial⟩
theorem rank_bel {l : List Rg} {a : Nat} (hs : Snd l) (hf : FitL l) (fa : Fits a) : rankS l a = bel a l := by
  have h1 := (less_spec hs (snd_top fa)).1
  have h2 := less_fit hs (snd_top fa) hf
  have h3 := rank_cnt (l := l) (a := a) hf (fun x hx => by obtain ⟨i, hi⟩ := List.getElem?_of_mem hx; exact snd_at hs hi)
  have := bel_le hs a
  unfold Fits at fa
  unfold rankS
  rw [if_pos (sound_snd.2 hs), tot_cnt h1 h2, h3]
  omega
end Go.Proofs.YtfmhpnendcikoaaGreat
namespace Go.Proofs.YtfmhpnendcikoaaGreat

theorem bel_out : ∀ {l : List Rg} {a : Nat}, ¬ memL l a → bel (a + 1) l = bel a l
  | [], _, _ => rfl
  | x :: r, a, h => by
    have h1 : ¬ inR x a := fun e => h (mem_cons.2 (Or.inl e))
    have := bel_out (l := r) (a := a) (fun e => h (mem_cons.2 (Or.inr e)))
    unfold inR at h1
    simp only [bel]
    omega
theorem bel_in : ∀ {l : List Rg} {a : Nat}, Snd l → memL l a → bel (a + 1) l = bel a l + 1
  | [], _, _, h => absurd h (mem_nil _)
  | x :: r, a, hs, h => by
    obtain ⟨h0, h1, h2⟩ := hs
    rcases mem_cons.1 h with ⟨k1, k2⟩ | h
    · have e1 := bel_zero (l := r) (a := a) (fun y hy => by have := h1 y hy; omega)
      have e2 := bel_zero (l := r) (a := a + 1) (fun y hy => by have := h1 y hy; omega)
      simp only [bel]
      omega
    · have := bel_in h2 h
      obtain ⟨y, hy, k1, k2⟩ := h
      have := h1 y hy
      simp only [bel]
      omega
theorem bel_nought : ∀ l : List Rg, bel 0 l = 0
  | [] => rfl
  | x :: r => by
    have := bel_nought r
    simp only [bel]
    omega
theorem bel_sum {o l m : List Rg} (so : Snd o) (sl : Snd l) (sm : Snd m) (h : ∀ a, memL o a ↔ memL l a ∨ memL m a) (hd : ∀ a, memL l a → ¬ memL m a) : ∀ a, bel a o = bel a l + bel a m
  | 0 => by rw [bel_nought, bel_nought, bel_nought]
  | a + 1 => by
    have ih := bel_sum so sl sm h hd a
    by_cases h1 : memL l a
    · rw [bel_in so ((h a).2 (Or.inl h1)), bel_in sl h1, bel_out (hd a h1)]
      omega
    · by_cases h2 : memL m a
      · rw [bel_in so ((h a).2 (Or.inr h2)), bel_out h1, bel_in sm h2]
        omega
      · rw [bel_out (fun e => ((h a).1 e).elim h1 h2), bel_out h1, bel_out h2]
        exact ih
theorem cnt_bel : ∀ {l : List Rg}, FitL l → cntL l = bel 340282366920938463463374607431768211456 l
  | [], _ => rfl
  | x :: r, hf => by
    have := cnt_bel (l := r) (fun y hy => hf y (List.mem_cons_of_mem _ hy))
    have f2 := (hf x (List.mem_cons_self ..)).2
    unfold Fits at f2
    simp only [cntL, bel]
    omega
theorem cnt_sum {o l m : List Rg} (so : Snd o) (sl : Snd l) (sm : Snd m) (fo : FitL o) (fl : FitL l) (fm : FitL m) (h : ∀ a, memL o a ↔ memL l a ∨ memL m a) (hd : ∀ a, memL l a → ¬ memL m a) : cntL o = cntL l + cntL m := by
  rw [cnt_bel fo, cnt_bel fl, cnt_bel fm]
  exact bel_sum so sl sm h hd _
theorem less_self {s : List Rg} (hs : Snd s) : lessL s s = [] := by
  obtain ⟨h1, _, h2⟩ := less_spec hs hs
  refine snd_ext h1 trivial fun a => ?_
  rw [h2]
  exact ⟨fun h => absurd h.1 h.2, fun h => absurd h (mem_nil _)⟩
theorem both_mem {x y : List Rg} (hx : Snd x) (hy : Snd y) (a : Nat) : memL (lessL x (lessL x y)) a ↔ memL x a ∧ memL y a := by
  obtain ⟨h1, _, h2⟩ := less_spec hx hy
  obtain ⟨_, _, h3⟩ := less_spec hx h1
  rw [h3, h2]
  constructor
  · rintro ⟨e1, e2⟩
    refine ⟨e1, ?_⟩
    by_cases h : memL y a
    · exact h
    · exact absurd ⟨e1, h⟩ e2
  · rintro ⟨e1, e2⟩
    exact ⟨e1, fun e => e.2 e2⟩
theorem less_sum {x y : List Rg} (hx : Snd x) (hy : Snd y) (fx : FitL x) : cntL x = cntL (lessL x y) + cntL (lessL x (lessL x y)) := by
  obtain ⟨h1, _, h2⟩ := less_spec hx hy
  obtain ⟨h3, _, _⟩ := less_spec hx h1
  refine cnt_sum hx h1 h3 fx (less_fit hx hy fx) (less_fit hx h1 fx) (fun a => ?_) (fun a => ?_)
  · rw [h2, both_mem hx hy]
    constructor
    · intro h
      by_cases k : memL y a
      · exact Or.inr ⟨h, k⟩
      · exact Or.inl ⟨h, k⟩
    · rintro (h | h)
      · exact h.1
      · exact h.1
  · rw [h2, both_mem hx hy]
    intro h k
    exact h.2 k.2
/-- the sum that the law asks, modulo 2^128 -/
theorem tot_sum {x y : List Rg} (hx : Snd x) (hy : Snd y) (fx : FitL x) : addS (totS (lessL x y) 0) (totS (lessL x (lessL x y)) 0) = totS x 0 := by
  obtain ⟨h1, _, _⟩ := less_spec hx hy
  obtain ⟨h3, _, _⟩ := less_spec hx h1
  rw [tot_cnt h1 (less_fit hx hy fx), tot_cnt h3 (less_fit hx h1 fx), tot_cnt hx fx]
  have := less_sum hx hy fx
  unfold addS
  omega
theorem has_both {x y : List Rg} (hx : Snd x) (hy : Snd y) (a : Nat) : hasB (lessL x (lessL x y)) a = (hasB x a && hasB y a) := by
  obtain ⟨h1, _, _⟩ := less_spec hx hy
  obtain ⟨h3, _, _⟩ := less_spec hx h1
  rw [Bool.eq_iff_iff, Bool.and_eq_true, hasB_iff h3, hasB_iff hx, hasB_iff hy, both_mem hx hy]
theorem to_from {o : List Rg} (ho : Snd o) {a b : Nat} (h : a < b) : toS o a ≤ fromS o b + 1 := by
  rcases Nat.lt_or_ge (fromS o b + 1) (toS o a) with e | e
  · exfalso
    have hl := to_le o a
    have x0 := some_getD (show fromS o b < o.length by omega)
    have x1 := some_getD (show fromS o b + 1 < o.length by omega)
    have k1 := (to_iff ho x1 (b := a)).1 e
    have k2 := snd_lt ho (Nat.lt_succ_self _) x0 x1
    have k3 := (from_iff ho x0 (a := b)).2 (by omega)
    omega
  · exact e
theorem less_room {l o : List Rg} (hs : Snd l) (ho : Snd o) : ∀ k, k ≤ l.length → ∃ T, (lessL (l.take k) o).length ≤ 2 * k + T ∧ T ≤ o.length ∧ ∀ j x, k ≤ j → l[j]? = some x → T ≤ fromS o x.1 + 1
  | 0, _ => ⟨0, by simp [lessL], Nat.zero_le _, fun _ _ _ _ => Nat.zero_le _⟩
  | k + 1, h => by
    obtain ⟨T, h1, h2, h3⟩ := less_room hs ho k (by omega)
    obtain ⟨x, hx⟩ := get_some (show k < l.length by omega)
    have h4 := h3 k x (Nat.le_refl _) hx
    have h5 := rest_len (holesL o x) x
    have h6 := holes_len o x
    have h7 := to_le o x.2
    refine ⟨max T (toS o x.2), ?_, by omega, fun j y hj hy => ?_⟩
    · rw [less_take hx, List.length_append]
      omega
    · have h8 := h3 j y (by omega) hy
      have h9 := snd_lt hs (show k < j by omega) hx hy
      have h10 := to_from ho (show x.2 < y.1 by omega)
      omega
theorem less_length {l o : List Rg} (hs : Snd l) (ho : Snd o) : (lessL l o).length ≤ 2 * l.length + o.length := by
  obtain ⟨T, h1, h2, _⟩ := less_room hs ho l.length (Nat.le_refl _)
  rw [List.take_length] at h1
  omega
end Go.Proofs.YtfmhpnendcikoaaGreat
