/-
  LeaseReads' walk. Condition: the bytes are no longer than an int.
-/
import Derived.Test.YtgioifdmmneapaaLQd
import Derived.Test.YtgioifdmmneapaaLSm
namespace Go.Proofs.Ytgioifdmmneapaa
open Go.RowKit Go.Joins

theorem decL_len (s : ByteArray) : (decL s).length ≤ maxLen := by
  by_cases h : decE s = 0
  · have := (dec_form h).1; unfold maxLen; omega
  · unfold decL; split
    · exact Nat.zero_le _
    · rename_i h2
      unfold decE at h
      rw [if_neg h2] at h
      rw [if_neg h]; exact Nat.zero_le _
set_option maxRecDepth 100000 in
set_option maxHeartbeats 1000000 in
theorem readsl_any {s : ByteArray} (hs : s.size ≤ maxLen) (w : World) :
    Calls Try.prog 5 #[.string s] w (Gives (.bool true) w) := by
  have D1 := hide (fun W => dec_any s hs W)
  have D2 := hide (fun W => rdec_any s hs W)
  have HM := hide (decL_len s)
  generalize decL s = l at *
  generalize decE s = er at *
  clear hs
  go_enter Try.func5, Try.ntmps5
  go_wp2_with fail
  refine (awake_any _).mono ?_
  rintro e w1 ⟨rfl, B1⟩
  go_wp2_with fail
  refine (D1.out _).mono ?_
  rintro e w2 ⟨p2, c2, rfl, L2, hb2⟩
  have B2 := chain B1 hb2
  clear hb2 B1
  go_wp2_with fail
  refine (D2.out _).mono ?_
  rintro e w3 ⟨p3, c3, rfl, L3, hb3⟩
  have B3 := chain B2 hb3
  have S := hide (same_any p2 p3 c2 c3 l HM.out w3 (L2.step hb3) L3)
  clear hb3 B2 L2 L3
  go_wp2_with fail
  refine S.out.mono ?_
  rintro e w4 ⟨rfl, hb4⟩
  have B4 := chain B3 hb4
  clear hb4 B3
  go_wp2
  go_ret
  exact ⟨rfl, B4⟩
end Go.Proofs.Ytgioifdmmneapaa
