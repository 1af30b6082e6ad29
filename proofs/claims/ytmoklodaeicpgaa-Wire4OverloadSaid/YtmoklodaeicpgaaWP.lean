/-
  What Decode gives, by its parts. No condition.
-/
import Derived.Test.YtmoklodaeicpgaaWJ
import Derived.Test.YtmoklodaeicpgaaWN
namespace Go.Proofs.Ytmoklodaeicpgaa
open Go.RowKit Go.Joins

/-- what Decode gives, by its parts -/
def DecQ (n : Nat) (h : Hd) (l : List Opt) (w : World) (e : Ending) (w2 : World) : Prop := ∃ p c, e = .returned (.tuple #[MV h (.slice p l.length c), .int .i64 (n : Nat)]) ∧ Below w.heap.size w w2 ∧ LstO (.slice p l.length c) l w2
theorem dec_q {s : ByteArray} {n : Nat} {h : Hd} {l : List Opt} (hd : decR s = (n, h, l)) (w : World) : Calls Try.prog 16 #[.string s] w (DecQ n h l w) := by
  refine (decode_any s w).mono ?_
  rintro e w2 ⟨v, rfl, hb, ho, _⟩
  rw [hd] at ho ⊢
  obtain ⟨p, c, rfl, _⟩ := lenO ho
  exact ⟨p, c, rfl, hb, ownO_lst ho⟩
theorem lst_nil (W : World) : LstO (.slice none 0 0) [] W := Or.inl ⟨none, 0, rfl, rfl, fun _ => rfl, by omega⟩
theorem dec_len (s : ByteArray) : (decR s).2.2.length ≤ 128 := by
  by_cases h : (decR s).1 = 0
  · obtain ⟨_, _, n, _, _, e⟩ := dec_ok h
    rw [e]
    exact Nat.le_trans (List.length_filter_le _ _) (parseO_len _)
  · rw [dec_bad h]; simp
end Go.Proofs.Ytmoklodaeicpgaa
