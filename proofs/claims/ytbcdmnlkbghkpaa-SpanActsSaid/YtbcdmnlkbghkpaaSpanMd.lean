/-
  Steps of made, by place: arithmetic and lists only.
-/
import Derived.Test.YtbcdmnlkbghkpaaSpanAe
namespace Go.Proofs.Ytbcdmnlkbghkpaa
open Go.RowKit Go.Joins

theorem edgeStep_len (e : List Nat) (x : Rg) : (edgeStep e x).length ≤ e.length + 2 := by
  unfold edgeStep
  have h1 := with_len e x.1
  split
  · omega
  · have h2 := with_len (withL e x.1) (addS x.2 1)
    omega
theorem edges_len_aux : ∀ (l : List Rg) (e : List Nat), (l.foldl edgeStep e).length ≤ e.length + 2 * l.length
  | [], e => by simp
  | x :: r, e => by
    have h1 := edges_len_aux r (edgeStep e x)
    have h2 := edgeStep_len e x
    rw [List.foldl_cons, List.length_cons]
    omega
theorem edges_len (l : List Rg) : (edgesL l).length ≤ 2 * l.length + 1 := by
  have := edges_len_aux l [0]
  unfold edgesL
  simp at this
  omega
theorem made_next {yes no : List Rg} {E : List Nat} {k s : Nat} {out : List Rg} (h : E[k]? = some s) :
    madeF yes no (E.drop k) out = madeF yes no (E.drop (k + 1)) (if keepB yes no s then putSeg out s (segEnd (E.drop (k + 1))) else out) := by
  obtain ⟨hl, e⟩ := List.getElem?_eq_some_iff.1 h
  rw [List.drop_eq_getElem_cons hl, e]
  rfl
theorem made_end {yes no : List Rg} {E : List Nat} {k : Nat} {out : List Rg} (h : E.length ≤ k) : madeF yes no (E.drop k) out = out := by
  rw [List.drop_eq_nil_of_le h]
  rfl
theorem segEnd_some {E : List Nat} {k t : Nat} (h : E[k]? = some t) : segEnd (E.drop k) = t - 1 := by
  obtain ⟨hl, e⟩ := List.getElem?_eq_some_iff.1 h
  rw [List.drop_eq_getElem_cons hl, e]
  rfl
theorem segEnd_none {E : List Nat} {k : Nat} (h : E.length ≤ k) : segEnd (E.drop k) = ones := by
  rw [List.drop_eq_nil_of_le h]
  try rfl
theorem putSeg_len (out : List Rg) (s e : Nat) : (putSeg out s e).length ≤ out.length + 1 := by
  unfold putSeg
  split
  · split
    · simp <;> omega
    · simp
  · rename_i h
    simp
theorem putSeg_nil (s e : Nat) : putSeg [] s e = [(s, e)] := rfl
theorem putSeg_join {out : List Rg} {k s e : Nat} {z : Rg} (hk : out.length = k + 1) (h : out[k]? = some z) (hz : addO z.2 1 = false) (hs : addS z.2 1 = s) : putSeg out s e = out.set k (z.1, e) := by
  have hl : out.getLast? = some z := by rw [List.getLast?_eq_getElem?, hk]; exact h
  have e1 := addS_one hz
  unfold putSeg
  rw [hl]
  simp only
  rw [if_pos (by omega)]
  have hd : out = out.dropLast ++ [z] := by
    have hne : out ≠ [] := by intro e0; rw [e0] at hk; simp at hk
    rw [List.getLast?_eq_some_getLast hne] at hl
    rw [← Option.some.inj hl]; exact (List.dropLast_concat_getLast hne).symm
  have ld : out.dropLast.length = k := by rw [List.length_dropLast, hk]; rfl
  generalize out.dropLast = d at *
  subst hd
  rw [List.set_append_right _ _ (by omega), ld, Nat.sub_self, List.set_cons_zero]
theorem putSeg_more {out : List Rg} {k s e : Nat} {z : Rg} (fs : Fits s) (hk : out.length = k + 1) (h : out[k]? = some z) (hz : ¬ (addO z.2 1 = false ∧ addS z.2 1 = s)) : putSeg out s e = out ++ [(s, e)] := by
  have hl : out.getLast? = some z := by rw [List.getLast?_eq_getElem?, hk]; exact h
  unfold putSeg
  rw [hl]
  simp only
  rw [if_neg]
  intro hc
  have ho : addO z.2 1 = false := by unfold addO; unfold Fits at fs; simp; omega
  exact hz ⟨ho, by rw [addS_one ho]; exact hc⟩
theorem ris_pos : ∀ {E : List Nat}, Ris E → ∀ {k t : Nat}, E[k + 1]? = some t → 0 < t
  | [], _, _, _, h => by simp at h
  | x :: r, hr, k, t, h => by
    have hm : t ∈ r := List.mem_of_getElem? (by simpa using h)
    have := hr.1 t hm
    omega
theorem sub_one {t : Nat} (h : 0 < t) (ft : Fits t) : subS t 1 = t - 1 := by
  unfold subS
  unfold Fits at ft
  omega
theorem edges_ris {l : List Rg} (hf : FitL l) : Ris (edgesL l) ∧ ∀ b ∈ edgesL l, Fits b := by
  have F0 : ∀ b ∈ [0], Fits b := fun b h => by rw [List.mem_singleton.1 h]; unfold Fits; omega
  have R0 : Ris [0] := by simp [Ris]
  have := edges_spec l [0] hf R0 F0
  exact ⟨this.1, this.2.1⟩
theorem fit_append {a b : List Rg} (ha : FitL a) (hb : FitL b) : FitL (a ++ b) := fun x h => (List.mem_append.1 h).elim (ha x) (hb x)
theorem cellsR_set2 {l : List Rg} {j y : Nat} {z : Rg} (h : l[j]? = some z) : ((cellsR l).set (j * 4 + 2) (.int .u64 (hi y : Nat))).set (j * 4 + 3) (.int .u64 (lo y : Nat)) = cellsR (l.set j (z.1, y)) := by
  induction l generalizing j with
  | nil => simp at h
  | cons x r ih =>
    cases j with
    | zero =>
      simp at h
      subst h
      rw [List.set_cons_zero, cellsR_cons, cellsR_cons]
      rfl
    | succ j =>
      have h' : r[j]? = some z := by simpa using h
      rw [show (j + 1) * 4 + 2 = (j * 4 + 2) + 4 by omega, show (j + 1) * 4 + 3 = (j * 4 + 3) + 4 by omega, List.set_cons_succ, cellsR_cons, cellsR_cons, ← ih h']
      rfl
end Go.Proofs.Ytbcdmnlkbghkpaa
