/-
  Contracts of Drop and Rank. Conditions: the words are words of 64 bits; a slice has at most 600 ranges.
-/
import Derived.Test.YtfmhpnendcikoaaGreatSpanE
namespace Go.Proofs.YtfmhpnendcikoaaGreat
open Go.RowKit Go.Joins

theorem sound_one (r : Rg) : soundL [r] = okR r := by
  cases e : okR r with
  | true => exact sound_true (fun i hi => by
      have : i = 0 := by simpa using hi
      subst this
      unfold goodAt
      simp [e])
  | false => exact sound_false (i := 0) (by simp) (by unfold goodAt; simp [e])
theorem fit_one {r : Rg} (h : FitR r) : FitL [r] := fun x hx => by rw [List.mem_singleton] at hx; rw [hx]; exact h
theorem put_base {l : List Rg} {w w1 : World} {e : Ending} {w' : World} (hb : Below w.heap.size w w1) (h : PutGives l w1 e w') : PutGives l w e w' := by
  obtain ⟨v, h1, h2, h3⟩ := h
  exact ⟨v, h1, chain hb h2, own_base h3 hb.size⟩
def rankS (l : List Rg) (a : Nat) : Nat := if soundL l then totS (lessL l [(a, ones)]) 0 else 0
theorem A_ones : Value.agg #[.int .u64 18446744073709551615, .int .u64 18446744073709551615] = A ones := by
  have h1 : hi ones = 18446744073709551615 := by decide
  have h2 : lo ones = 18446744073709551615 := by decide
  rw [A, h1, h2]
  rfl
theorem RV_top (a : Nat) : Value.agg #[.int .u64 (hi a : Nat), .int .u64 (lo a : Nat), .int .u64 18446744073709551615, .int .u64 18446744073709551615] = RV (a, ones) := by
  have h1 : hi ones = 18446744073709551615 := by decide
  have h2 : lo ones = 18446744073709551615 := by decide
  show _ = Value.agg #[.int .u64 (hi a : Nat), .int .u64 (lo a : Nat), .int .u64 (hi ones : Nat), .int .u64 (lo ones : Nat)]
  rw [h1, h2]
  rfl
/-- what Rank's call of Drop gives: a list, whatever the error -/
def DropAny (l : List Rg) (w : World) (e : Ending) (w' : World) : Prop := ∃ (v : Value) (n : Int), e = .returned (.tuple #[v, .int .i64 n]) ∧ Below w.heap.size w w' ∧ Lst v l w'
end Go.Proofs.YtfmhpnendcikoaaGreat
