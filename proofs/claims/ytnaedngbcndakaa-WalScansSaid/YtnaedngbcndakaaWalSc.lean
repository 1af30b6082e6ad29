/-
  WalScans' walk. Condition: a string is no longer than an int (every value of the type is such).
-/
import Derived.Test.YtnaedngbcndakaaWalK
import Derived.Test.YtnaedngbcndakaaWalRa
namespace Go.Proofs.Ytnaedngbcndakaa
open Go.RowKit Go.Maps

theorem scan_tells2 (q : List UInt8) (hq : q.length ≤ 1099511627776) (w : World) : Calls Try.prog 10 #[St q] w (fun e w' => ∃ v, e = .returned (.tuple #[v, .int .i64 (sizeL (scanL q) : Nat)]) ∧ Fr No w w' ∧ RowS w' v (scanL q)) :=
  (scan_any q hq w).mono (fun _ _ ⟨v, h1, h2, h3⟩ => ⟨v, h1, Fr.ofBelow h2, RowS.own h3⟩)
theorem scan_count (l : List UInt8) : (scanL l).length ≤ l.length := by
  have h1 : ∀ x : List (List UInt8), x.length ≤ sizeL x := fun x => by
    induction x with
    | nil => exact Nat.zero_le _
    | cons p x ih => rw [size_cons, List.length_cons]; omega
  exact Nat.le_trans (h1 _) (scan_size l)
set_option maxRecDepth 100000 in
set_option maxHeartbeats 1000000 in
theorem scans_any (q : Nm) (hq : q.length ≤ maxLen) (w : World) : Calls Try.prog 3 #[St q] w (Tells w (.bool true)) := by
  have AW := hide (awake_any w)
  unfold maxLen at hq
  by_cases hbig : 1048576 < q.length
  · have hb2 : 1048576 < (q.length : Int) := by omega
    clear hbig
    go_enter Try.func3, Try.ntmps3
    go_wp2_with fail
    refine AW.out.mono ?_
    rintro e w1 ⟨rfl, F1⟩
    go_wp2
    go_ret
    exact ⟨rfl, F1⟩
  · have hb2 : ¬ 1048576 < (q.length : Int) := by omega
    have SC := hide (fun W => scan_tells2 q (by omega) W)
    have SR := hide (fun W => rscan_tells q (by omega) W)
    have hcn : (scanL q).length < 1099511627776 := by have := scan_count q; omega
    by_cases hp : recOk q
    · have FA := hide (fun W => frame_ok q hp W)
      have FB := hide (fun W => rframe_ok q hp W)
      generalize scanL q = sc at *
      clear hp hbig
      go_enter Try.func3, Try.ntmps3
      go_wp2_with fail
      refine AW.out.mono ?_
      rintro e w1 ⟨rfl, F1⟩
      go_wp2_with fail
      refine (FA.out w1).mono ?_
      rintro e w2 ⟨rfl, F2⟩
      go_wp2_with fail
      refine (FB.out w2).mono ?_
      rintro e w3 ⟨rfl, F3⟩
      have G3 := hide ((F1.andNo F2).andNo F3)
      clear F1 F2 F3
      go_wp2_with fail
      refine (SC.out w3).mono ?_
      rintro e w4 ⟨v4, rfl, F4, R4⟩
      have G4 := hide (G3.out.andNo F4)
      have HR4 := hide R4
      clear F4 R4 G3
      go_wp2_with fail
      refine (SR.out w4).mono ?_
      rintro e w5 ⟨v5, rfl, F5, R5⟩
      have G5 := hide (G4.out.andNo F5)
      have SM := hide (names_any (HR4.out.no F5) R5 hcn)
      rw [show decide (sc = sc) = true from decide_eq_true rfl] at SM
      clear F5 R5 G4 HR4
      go_wp2_with fail
      refine SM.out.mono ?_
      rintro e w6 ⟨rfl, F6⟩
      go_wp2
      go_ret
      exact ⟨rfl, G5.out.andNo F6⟩
    · have FA := hide (fun W => frame_bad q hp W)
      have FB := hide (fun W => rframe_bad q hp (by unfold maxLen; omega) W)
      generalize scanL q = sc at *
      clear hp hbig
      go_enter Try.func3, Try.ntmps3
      go_wp2_with fail
      refine AW.out.mono ?_
      rintro e w1 ⟨rfl, F1⟩
      go_wp2_with fail
      refine (FA.out w1).mono ?_
      rintro e w2 ⟨rfl, F2⟩
      go_wp2_with fail
      refine (FB.out w2).mono ?_
      rintro e w3 ⟨rfl, F3⟩
      have G3 := hide ((F1.andNo F2).andNo F3)
      clear F1 F2 F3
      go_wp2_with fail
      refine (SC.out w3).mono ?_
      rintro e w4 ⟨v4, rfl, F4, R4⟩
      have G4 := hide (G3.out.andNo F4)
      have HR4 := hide R4
      clear F4 R4 G3
      go_wp2_with fail
      refine (SR.out w4).mono ?_
      rintro e w5 ⟨v5, rfl, F5, R5⟩
      have G5 := hide (G4.out.andNo F5)
      have SM := hide (names_any (HR4.out.no F5) R5 hcn)
      rw [show decide (sc = sc) = true from decide_eq_true rfl] at SM
      clear F5 R5 G4 HR4
      go_wp2_with fail
      refine SM.out.mono ?_
      rintro e w6 ⟨rfl, F6⟩
      go_wp2
      go_ret
      exact ⟨rfl, G5.out.andNo F6⟩
end Go.Proofs.Ytnaedngbcndakaa
