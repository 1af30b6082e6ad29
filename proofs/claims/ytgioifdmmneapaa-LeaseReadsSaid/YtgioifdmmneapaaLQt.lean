/-
  The contract of the document's own reading of one change, whatever stands there. Conditions: the bytes are no longer than an int; the place is one of them, or the end, and below 2^40.
-/
import Derived.Test.YtgioifdmmneapaaLQq
import Derived.Test.YtgioifdmmneapaaLQr
import Derived.Test.YtgioifdmmneapaaLQs
namespace Go.Proofs.Ytgioifdmmneapaa
open Go.RowKit Go.Joins

theorem rone_any {s : ByteArray} (hs : s.size ≤ maxLen) {a : Nat} (ha : a ≤ s.size) (hb : a ≤ 1099511627776) (w : World) :
    Calls Try.prog 50 #[.string s, .int .i64 (a : Nat)] w (One w s a) := by
  by_cases h : (Rst s a).length = 0
  · exact one_a hs ha hb w h
  have h' : 1 ≤ (Rst s a).length := by omega
  by_cases h1 : getV 1 s (a : Int) = 1
  · by_cases h2 : 19 ≤ (Rst s a).length
    · by_cases h3 : 34 ≤ (Rst s a).length ∧ takeO s ((a + 32 : Nat) : Int) = true
      · exact one_f hs ha hb w h2 h1 h3
      · exact one_e hs ha hb w h2 h1 h3
    · exact one_c1 hs ha hb w h' h1 h2
  by_cases h3 : getV 1 s (a : Int) = 2
  · by_cases h2 : 19 ≤ (Rst s a).length
    · exact one_d hs ha hb w h2 h3
    · exact one_c2 hs ha hb w h' h3 h2
  exact one_b hs ha hb w h' h1 h3
theorem one_ok {s : ByteArray} (hs : s.size ≤ maxLen) {a : Nat} (ha : a ≤ s.size) (hb : a ≤ 1099511627776) (he : chE s (a : Int) = 0) (w : World) :
    Calls Try.prog 50 #[.string s, .int .i64 (a : Nat)] w (Gives (.tuple #[Cv (chC s (a : Int)), .int .i64 (chN s (a : Int)), .int .i64 0]) w) := by
  refine (rone_any hs ha hb w).mono ?_
  rintro e w' ⟨c, n, rfl, h, hb⟩
  obtain ⟨rfl, rfl⟩ := h he
  exact ⟨by rw [he], hb⟩
/-- what one leaves when it fails -/
def Bad (w : World) (x : Int) (e : Ending) (w' : World) : Prop := ∃ (c : Ch) (n : Int), e = .returned (.tuple #[Cv c, .int .i64 n, .int .i64 x]) ∧ Below w.heap.size w w'
theorem one_bad {s : ByteArray} (hs : s.size ≤ maxLen) {a : Nat} (ha : a ≤ s.size) (hb : a ≤ 1099511627776) (w : World) :
    Calls Try.prog 50 #[.string s, .int .i64 (a : Nat)] w (Bad w (chE s (a : Int))) :=
  (rone_any hs ha hb w).mono (fun _ _ ⟨c, n, h, _, hb⟩ => ⟨c, n, h, hb⟩)
end Go.Proofs.Ytgioifdmmneapaa
