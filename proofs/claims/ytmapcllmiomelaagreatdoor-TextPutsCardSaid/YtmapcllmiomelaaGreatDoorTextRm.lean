/-
  Where the document's own text of an address has its '::', and how that text is put together: arithmetic and lists only. No condition beyond those in each theorem's own statement.
-/
import Derived.Test.YtmapcllmiomelaaGreatDoorTextO
namespace Go.Proofs.YtmapcllmiomelaaGreatDoor
open Go.RowKit Go.Joins

/-- how many of the groups from j on are 0, of k that are left -/
def runR (g : Nat → Nat) : Nat → Nat → Nat
  | 0, _ => 0
  | k + 1, j => if g j = 0 then runR g k (j + 1) + 1 else 0
/-- the longest row of two at least, and where it begins -/
def bestS (g : Nat → Nat) : Nat → Nat × Int
  | 0 => (0, -1)
  | i + 1 => if 2 ≤ runR g (8 - i) i ∧ (bestS g i).1 < runR g (8 - i) i then (runR g (8 - i) i, (i : Int)) else bestS g i
theorem run_congr {g h : Nat → Nat} : ∀ (k j : Nat), (∀ i, i < j + k → (g i = 0 ↔ h i = 0)) → runR g k j = runR h k j
  | 0, _, _ => rfl
  | k + 1, j, e => by
    have ih := run_congr k (j + 1) (fun i hi => e i (by omega))
    have ej := e j (by omega)
    unfold runR
    rw [ih]
    by_cases hg : g j = 0
    · rw [if_pos hg, if_pos (ej.1 hg)]
    · rw [if_neg hg, if_neg (fun x => hg (ej.2 x))]
theorem best_congr {g h : Nat → Nat} (e : ∀ i, i < 8 → (g i = 0 ↔ h i = 0)) : ∀ i, i ≤ 8 → bestS g i = bestS h i
  | 0, _ => rfl
  | i + 1, hi => by
    have ih := best_congr e i (by omega)
    have er := run_congr (g := g) (h := h) (8 - i) i (fun j hj => e j (by omega))
    unfold bestS
    rw [ih, er]
theorem gap_congr {g h : Nat → Nat} : ∀ k, (∀ i, i < k → (g i = 0 ↔ h i = 0)) → gapS g k = gapS h k
  | 0, _ => rfl
  | k + 1, e => by
    have ih := gap_congr k (fun i hi => e i (by omega))
    have ek := e k (by omega)
    unfold gapS
    rw [ih]
    by_cases hg : g k = 0
    · rw [if_pos hg, if_pos (ek.1 hg)]
    · rw [if_neg hg, if_neg (fun x => hg (ek.2 x))]
/-- a row of eight groups that are 0 or 1 -/
def pat (b0 b1 b2 b3 b4 b5 b6 b7 : Bool) : Nat → Nat
  | 0 => b0.toNat | 1 => b1.toNat | 2 => b2.toNat | 3 => b3.toNat | 4 => b4.toNat | 5 => b5.toNat | 6 => b6.toNat | _ => b7.toNat
def agree (g : Nat → Nat) : Prop := bestS g 8 = if (gapS g 8).2.1 - (gapS g 8).1 < 2 then (0, -1) else ((gapS g 8).2.1 - (gapS g 8).1, ((gapS g 8).1 : Int))
instance (g : Nat → Nat) : Decidable (agree g) := by unfold agree; infer_instance
theorem agree_pat : ∀ b0 b1 b2 b3 b4 b5 b6 b7 : Bool, agree (pat b0 b1 b2 b3 b4 b5 b6 b7) := by decide +kernel
theorem best_gap (g : Nat → Nat) : agree g := by
  have z : ∀ i, (decide (¬ g i = 0)).toNat = 0 ↔ g i = 0 := fun i => by by_cases h : g i = 0 <;> simp [h]
  have e : ∀ i, i < 8 → (g i = 0 ↔ pat (decide (¬ g 0 = 0)) (decide (¬ g 1 = 0)) (decide (¬ g 2 = 0)) (decide (¬ g 3 = 0)) (decide (¬ g 4 = 0)) (decide (¬ g 5 = 0)) (decide (¬ g 6 = 0)) (decide (¬ g 7 = 0)) i = 0) := by
    intro i hi
    match i, hi with
    | 0, _ => exact (z 0).symm
    | 1, _ => exact (z 1).symm
    | 2, _ => exact (z 2).symm
    | 3, _ => exact (z 3).symm
    | 4, _ => exact (z 4).symm
    | 5, _ => exact (z 5).symm
    | 6, _ => exact (z 6).symm
    | 7, _ => exact (z 7).symm
  have h := agree_pat (decide (¬ g 0 = 0)) (decide (¬ g 1 = 0)) (decide (¬ g 2 = 0)) (decide (¬ g 3 = 0)) (decide (¬ g 4 = 0)) (decide (¬ g 5 = 0)) (decide (¬ g 6 = 0)) (decide (¬ g 7 = 0))
  unfold agree at h ⊢
  rw [best_congr e 8 (Nat.le_refl _), gap_congr 8 e]
  exact h
theorem gap_order (g : Nat → Nat) : (gapS g 8).1 ≤ (gapS g 8).2.1 ∧ (gapS g 8).2.1 ≤ 8 := by
  have h : ∀ k, (gapS g k).1 ≤ (gapS g k).2.1 ∧ (gapS g k).2.1 ≤ k := by
    intro k
    induction k with
    | zero => exact ⟨Nat.le_refl _, Nat.le_refl _⟩
    | succ k ih =>
      have e := gap_step (g := g) (k := k) (F := (gapS g k).1) (T := (gapS g k).2.1) (B := (gapS g k).2.2) (B' := if g k = 0 then (gapS g k).2.2 else k + 1) rfl rfl
      rw [e]
      generalize (if g k = 0 then (gapS g k).2.2 else k + 1) = b
      obtain ⟨i1, i2⟩ := ih
      by_cases hc : (gapS g k).2.1 - (gapS g k).1 < k + 1 - b
      · rw [if_pos hc]; exact ⟨by show b ≤ k + 1; omega, Nat.le_refl _⟩
      · rw [if_neg hc]; exact ⟨i1, by show (gapS g k).2.1 ≤ k + 1; omega⟩
  exact h 8
theorem join_snoc (xs : List (List UInt8)) (x : List UInt8) (c : UInt8) : Lib.join (xs ++ [x]) [c] = if xs = [] then x else Lib.join xs [c] ++ c :: x := by
  cases xs with
  | nil => rw [if_pos rfl, List.nil_append]; exact Lib.join_one _ _
  | cons y r =>
    rw [if_neg (by simp), List.cons_append, Lib.join_cons, Lib.join_cons]
    simp [Lib.joinTail]
theorem rowA_snoc (g : Nat → Nat) (o n : Nat) : rowA g o (n + 1) = rowA g o n ++ [g (o + n)] := by
  unfold rowA
  rw [List.range_succ, List.map_append]; rfl
/-- one group more -/
theorem putG_snoc (g : Nat → Nat) (o n : Nat) : putG (rowA g o (n + 1)) = putG (rowA g o n) ++ ((if n = 0 then [] else [58]) ++ hexN (g (o + n))) := by
  unfold putG
  rw [rowA_snoc, List.map_append, List.map_singleton, join_snoc]
  cases n with
  | zero => rw [if_pos (by simp [rowA]), if_pos rfl]; simp [rowA, Lib.join_nil]
  | succ n => rw [if_neg (by simp [rowA, List.range_succ]), if_neg (by omega)]; simp
theorem hexN_last (n : Nat) : ∃ l c, hexN n = l ++ [c] ∧ c ≠ 58 := by
  have h : ∀ i : Fin 16, hexd i.val ≠ 58 := by decide +kernel
  by_cases hn : n < 16
  · exact ⟨[], hexd n, by rw [hexN_small hn]; rfl, h ⟨n, hn⟩⟩
  · exact ⟨hexN (n / 16), hexd (n % 16), hexN_big hn, h ⟨n % 16, by omega⟩⟩
/-- the text ends in a digit, where groups stand at its end -/
theorem putG_last (g : Nat → Nat) (o n : Nat) (p : List UInt8) : ∃ l c, p ++ putG (rowA g o (n + 1)) = l ++ [c] ∧ c ≠ 58 := by
  obtain ⟨l, c, h, hc⟩ := hexN_last (g (o + n))
  rw [putG_snoc, h]
  exact ⟨p ++ (putG (rowA g o n) ++ ((if n = 0 then [] else [58]) ++ l)), c, by simp, hc⟩
/-- whether a colon is put ahead of the next group -/
def wantC (s : List UInt8) : Bool := match s.getLast? with | some c => c != 58 | none => false
theorem wantC_nil : wantC [] = false := rfl
theorem wantC_last {s l : List UInt8} {c : UInt8} (h : s = l ++ [c]) : wantC s = (c != 58) := by
  unfold wantC; rw [h, List.getLast?_append]; rfl
/-- the text behind so many groups: F, T are where the '::' begins and ends; none, if T = 0 -/
def preS (g : Nat → Nat) (F T i : Nat) : List UInt8 := if T = 0 ∨ i ≤ F then putG (rowA g 0 i) else putG (rowA g 0 F) ++ [58, 58] ++ putG (rowA g T (i - T))
theorem preS_next {g : Nat → Nat} {F T i : Nat} (hFT : F < T ∨ T = 0) (h : T = 0 ∨ i < F ∨ T ≤ i) : preS g F T (i + 1) = preS g F T i ++ ((if wantC (preS g F T i) then [58] else []) ++ hexN (g i)) := by
  have hw0 : ∀ (o n : Nat), wantC (putG (rowA g o n)) = decide (n ≠ 0) := fun o n => by
    cases n with
    | zero => rfl
    | succ n =>
      obtain ⟨l, c, e, hc⟩ := putG_last g o n []
      rw [wantC_last (by simpa using e)]
      simp [hc]
  by_cases h1 : T = 0 ∨ i + 1 ≤ F
  · unfold preS
    rw [if_pos h1, if_pos (by omega), hw0, putG_snoc, Nat.zero_add]
    by_cases hn : i = 0 <;> simp [hn]
  · have h2 : T ≤ i := by omega
    unfold preS
    rw [if_neg h1, if_neg (by omega), show i + 1 - T = (i - T) + 1 by omega, putG_snoc, show T + (i - T) = i by omega]
    have hw : wantC (putG (rowA g 0 F) ++ [58, 58] ++ putG (rowA g T (i - T))) = decide (i - T ≠ 0) := by
      generalize i - T = m
      cases m with
      | zero => rw [wantC_last (l := putG (rowA g 0 F) ++ [58]) (c := 58) (by simp [rowA, putG, Lib.join_nil])]; rfl
      | succ m =>
        obtain ⟨l, c, e, hc⟩ := putG_last g T m (putG (rowA g 0 F) ++ [58, 58])
        rw [wantC_last e]
        simp [hc]
    rw [hw]
    by_cases hn : i - T = 0 <;> simp [hn]
theorem preS_gap {g : Nat → Nat} {F T : Nat} (h : F < T) : preS g F T T = preS g F T F ++ [58, 58] := by
  unfold preS
  rw [if_neg (by omega), if_pos (by omega), Nat.sub_self]
  simp [rowA, putG, Lib.join_nil]
end Go.Proofs.YtmapcllmiomelaaGreatDoor
