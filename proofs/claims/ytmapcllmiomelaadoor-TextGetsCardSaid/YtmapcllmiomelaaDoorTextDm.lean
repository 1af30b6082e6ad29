/-
  What TextDots asks of the texts, as mathematics: a text of hexadecimal digits is what its bytes are written as. No condition.
-/
import Derived.Test.YtmapcllmiomelaaDoorTextZ
namespace Go.Proofs.YtmapcllmiomelaaDoor
open Go.RowKit Go.Joins

theorem hexL_unhex : ∀ (l h : List UInt8), unhexL l = some h → hexL h = l
  | [], h, e => by simp [unhexL] at e; subst e; rfl
  | [_], h, e => by simp [unhexL] at e
  | a :: b :: r, h, e => by
    unfold unhexL at e
    split at e
    · rename_i hc
      cases hr : unhexL r with
      | none => rw [hr] at e; cases e
      | some t =>
        rw [hr] at e
        simp only [Option.map_some, Option.some.injEq] at e
        subst e
        obtain ⟨a1, a2, a3⟩ := hx_all a
        obtain ⟨b1, b2, b3⟩ := hx_all b
        have hx' : ((hx a).toNat * 16 + (hx b).toNat) < 256 := by omega
        have e1 : (UInt8.ofNat ((hx a).toNat * 16 + (hx b).toNat)).toNat = (hx a).toNat * 16 + (hx b).toNat := by
          rw [UInt8.toNat_ofNat']; omega
        unfold hexL
        rw [e1, show ((hx a).toNat * 16 + (hx b).toNat) / 16 = (hx a).toNat by omega, show ((hx a).toNat * 16 + (hx b).toNat) % 16 = (hx b).toNat by omega, a3 hc.1, b3 hc.2, hexL_unhex r t hr]
    · cases e
theorem index_one : ∀ (l : List UInt8) (c : UInt8) (i : Nat), Lib.index l [c] = (i : Int) → l = l.take i ++ c :: l.drop (i + 1)
  | [], c, i, h => by simp [Lib.index] at h
  | b :: l, c, i, h => by
    unfold Lib.index at h
    by_cases hb : c = b
    · subst hb
      rw [if_pos (by simp)] at h
      have : i = 0 := by omega
      subst this
      rfl
    · rw [if_neg (by simpa using hb)] at h
      by_cases hm : Lib.index l [c] = -1
      · rw [if_pos (by simpa using hm)] at h; omega
      · rw [if_neg (by simpa using hm)] at h
        have hg := Lib.index_ge l [c]
        obtain ⟨j, rfl⟩ : ∃ j, i = j + 1 := ⟨i - 1, by omega⟩
        have := index_one l c j (by omega)
        rw [List.take_succ_cons, List.drop_succ_cons, List.cons_append, ← this]
theorem joinTail_cons (c : UInt8) (y : List UInt8) (r : List (List UInt8)) : Lib.joinTail [c] (y :: r) = c :: Lib.join (y :: r) [c] := by
  rw [Lib.join_cons]
  simp [Lib.joinTail]
theorem splitK_ne (c : UInt8) (k : Nat) (l : List UInt8) : ∃ y r, Lib.splitK [c] 0 k l = y :: r := by
  cases k with
  | zero => exact ⟨_, _, rfl⟩
  | succ k =>
    unfold Lib.splitK
    split
    · exact ⟨_, _, rfl⟩
    · exact ⟨_, _, rfl⟩
theorem join_splitK (c : UInt8) : ∀ (k : Nat) (l : List UInt8), Lib.join (Lib.splitK [c] 0 k l) [c] = l
  | 0, l => by unfold Lib.splitK; exact Lib.join_one _ _
  | k + 1, l => by
    unfold Lib.splitK
    by_cases h : Lib.index l [c] = -1
    · rw [if_pos (by simpa using h)]; exact Lib.join_one _ _
    · rw [if_neg (by simpa using h)]
      have hg := Lib.index_ge l [c]
      obtain ⟨i, hi⟩ : ∃ i : Nat, Lib.index l [c] = i := ⟨(Lib.index l [c]).toNat, by omega⟩
      rw [hi, Int.toNat_natCast, Nat.add_zero, List.length_singleton, Lib.join_cons]
      obtain ⟨y, r, e⟩ := splitK_ne c k (l.drop (i + 1))
      rw [e, joinTail_cons, ← e, join_splitK c k]
      exact (index_one l c i hi).symm
theorem dots_join (s : ByteArray) : Lib.join ((dots s).map (·.data.toList)) [46] = s.data.toList := by
  unfold dots
  rw [Lib.splitB_data]
  exact join_splitK 46 _ _
theorem put4_get4 {s : ByteArray} {n : Nat} (h : get4 s = some n) : put4 n = s.data.toList := by
  have hj := dots_join s
  unfold get4 at h
  split at h
  · rename_i hl
    generalize dots s = ps at *
    match ps, hl with
    | [p0, p1, p2, p3], _ =>
      simp only [fold4] at h
      split at h
      · rename_i n0 h0
        split at h
        · split at h
          · rename_i n1 h1
            split at h
            · split at h
              · rename_i n2 h2
                split at h
                · split at h
                  · rename_i n3 h3
                    split at h
                    · simp only [Option.some.injEq] at h
                      rw [← hj]
                      have e0 := (gnum_eq h0).2
                      have e1 := (gnum_eq h1).2
                      have e2 := (gnum_eq h2).2
                      have e3 := (gnum_eq h3).2
                      unfold put4 oct
                      rw [show n / 2 ^ (24 - 8 * 0) % 256 = n0 by omega, show n / 2 ^ (24 - 8 * 1) % 256 = n1 by omega, show n / 2 ^ (24 - 8 * 2) % 256 = n2 by omega, show n / 2 ^ (24 - 8 * 3) % 256 = n3 by omega, e0, e1, e2, e3]
                      rfl
                    · cases h
                  · cases h
                · cases h
              · cases h
            · cases h
          · cases h
        · cases h
      · cases h
  · cases h
end Go.Proofs.YtmapcllmiomelaaDoor
